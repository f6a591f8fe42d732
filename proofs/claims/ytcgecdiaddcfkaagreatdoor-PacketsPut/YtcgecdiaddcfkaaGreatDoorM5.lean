/- Texts of this proof, laid into one. -/
import Derived.Test.YtcgecdiaddcfkaaGreatDoorRPutM
import Derived.Test.YtcgecdiaddcfkaaGreatDoorM4
/- The walks of rows.PutOps and rows.PutChanges: the bytes, or the error. -/
set_option linter.unusedSimpArgs false
set_option linter.unusedVariables false
namespace Go.Proofs.YtcgecdiaddcfkaaGreatDoor
open Go.RowKit

/-- The value v holds the bytes bs in memory of its own, from block number 'base' on. -/
def BsAt (w : World) (base : Nat) (v : Value) (bs : List UInt8) : Prop := w.ownsRow base 5 1 v bs.length (bcells bs)
theorem own_mono {w : World} {base base' : Nat} {e : TypeId} {size : Nat} {v : Value} {n : Nat} {xs : List Value} (h : w.ownsRow base e size v n xs) (hb : base' ≤ base) : w.ownsRow base' e size v n xs := by
  refine ⟨h.1, ?_⟩
  rcases h.2 with h1 | ⟨g, cap, cur, h1, h2, h3⟩
  · exact .inl h1
  · exact .inr ⟨g, cap, cur, h1, Nat.le_trans hb h2, h3⟩
theorem BsAt.mono {w : World} {base base' : Nat} {v : Value} {bs : List UInt8} (h : BsAt w base v bs) (hb : base' ≤ base) : BsAt w base' v bs := own_mono h hb
theorem BsAt_nil (w : World) (base : Nat) : BsAt w base (.slice none 0 0) [] := World.ownsRow_nil w base _ _
/-- A writer that was just made, and the variable that holds it. -/
theorem wat_new (w : World) : WAt ((w.alloc (.cells #[.slice none 0 0] 97)).alloc (.cells #[ptr w.heap.size] 95)) w.heap.size (w.heap.size + 2) [] (.slice none 0 0) ∧
    Held w.heap.size ((w.alloc (.cells #[.slice none 0 0] 97)).alloc (.cells #[ptr w.heap.size] 95)) (.slice none 0 0) (w.heap.size + 1) (.cells #[ptr w.heap.size] 95 (0, 0)) := by
  refine ⟨⟨?_, World.ownsRow_nil _ _ _ _, by omega, by simp⟩, ⟨by simp, by omega, by simp [Value.ownBlock], ?_⟩⟩
  · exact alloc_block (heap_alloc_new w _) _
  · have := heap_alloc_new (w.alloc (.cells #[.slice none 0 0] 97)) (.cells #[ptr w.heap.size] 95)
    simpa using this
theorem below_two {w : World} (a b : Obj) : Below w.heap.size w ((w.alloc a).alloc b) := ((Below.refl _ _).alloc (Nat.le_refl _) _).alloc (by simp) _

theorem putOps_arg {l : List OpD} (h : l.all opOk = false) : putOps l = ([], 1) := by unfold putOps; rw [if_neg (by simp [h])]
theorem putOps_limit {l : List OpD} (h : l.all opOk = true) (hn : ¬ l.length ≤ 16) : putOps l = ([], 3) := by unfold putOps; rw [if_pos h, if_neg hn]
theorem putOps_fits {l : List OpD} (h : l.all opOk = true) (hn : l.length ≤ 16) : putOps l = (encList encOp l, 0) := by unfold putOps; rw [if_pos h, if_pos hn]
theorem putOps_len {l : List OpD} (h : l.all opOk = true) : (l.flatMap encOp).length ≤ l.length * 40 := by
  induction l with
  | nil => simp
  | cons x l ih =>
    rw [List.all_cons, Bool.and_eq_true] at h
    have h1 := ih h.2
    have h2 : (encOp x).length ≤ 40 := by
      have h1 := opOk_key h.1
      have h2 := opOk_to h.1
      simp only [encOp, List.length_cons, List.length_append, txt_len, be4_len]; omega
    rw [List.flatMap_cons, List.length_append, List.length_cons]
    omega

set_option maxHeartbeats 2000000 in
set_option maxRecDepth 1000000 in
theorem PutOps_any (w : World) (vl : Value) (l : List OpD) (hs : SlAt 4 opCells w w.heap.size vl l) (hsm : ∀ x ∈ l, opSm x) :
    Calls Tryz.prog 29 #[vl] w fun e w' => ∃ v, e = .returned (.tuple #[v, .int .i64 ((putOps l).2 : Int)]) ∧ BsAt w' w.heap.size v (putOps l).1 ∧ Below w.heap.size w w' := by
  have ka := allOp_any w vl l hs hsm
  have hmf : ∀ (fn : Fn) (first cap : Array Value) (w : World), (Instr.makeFunc fn first cap).run Tryz.prog w = .ok (.func fn first cap) w := fun _ _ _ _ => rfl
  cases hok : l.all opOk with
  | false =>
    rw [putOps_arg hok]
    rw [hok] at ka
    obtain ⟨ao, cap, rfl, hlc, hcm, hc⟩ := hs
    clear hok hc
    go_enter Tryz.func29, Tryz.ntmps29
    go_wp2_with fail
    refine ka.mono ?_
    rintro e w1 ⟨rfl, b1⟩
    clear ka
    go_wp2
    go_ret2
    exact ⟨_, rfl, BsAt_nil _ _, b1⟩
  | true =>
    rw [hok] at ka
    by_cases hn : l.length ≤ 16
    case neg =>
      rw [putOps_limit hok hn]
      obtain ⟨ao, cap, rfl, hlc, hcm, hc⟩ := hs
      clear hok hc
      go_enter Tryz.func29, Tryz.ntmps29
      go_wp2_with fail
      refine ka.mono ?_
      rintro e w1 ⟨rfl, b1⟩
      clear ka
      go_wp2
      go_ret2
      exact ⟨_, rfl, BsAt_nil _ _, b1⟩
    rw [putOps_fits hok hn]
    have hlen := putOps_len hok
    have hxs : ∀ x ∈ l, x.key.size < 256 ∧ x.to.size < 256 := fun x hx => by
      have h := List.all_eq_true.mp hok x hx
      have h1 := opOk_key h
      have h2 := opOk_to h
      omega
    have hs0 := hs
    obtain ⟨ao, cap, rfl, hlc, hcm, hc⟩ := hs
    clear hok hc
    go_enter Tryz.func29, Tryz.ntmps29
    go_wp2_with fail
    refine ka.mono ?_
    rintro e w1 ⟨rfl, b1⟩
    clear ka
    have hN := wat_new w1
    have bN := b1.trans ((below_two (w := w1) (.cells #[.slice none 0 0] 97) (.cells #[ptr w1.heap.size] 95)).mono b1.size)
    have hsN := hs0.below bN (Nat.le_refl _)
    have kp := putListOp_any _ w1.heap.size (w1.heap.size + 2) (w1.heap.size + 1) w.heap.size 95 [] (.slice none 0 0) _ l hN.1 hN.2 b1.size hsN hxs (by omega) (by simp only [List.length_nil]; omega)
    have fin : ∀ w2 v2, WAt w2 w1.heap.size (w1.heap.size + 2) (encList encOp l) v2 → WrStep w1.heap.size ((w1.alloc (.cells #[.slice none 0 0] 97)).alloc (.cells #[ptr w1.heap.size] 95)) w2 (.slice none 0 0) v2 →
        BsAt w2 w.heap.size v2 (encList encOp l) ∧ Below w.heap.size w w2 ∧ w2.cell? ⟨w1.heap.size, 0, none⟩ = some v2 ∧ w2.cell? ⟨w1.heap.size + 1, 0, none⟩ = some (ptr w1.heap.size) := by
      intro w2 v2 h2 s2
      have z := b1.size
      exact ⟨own_mono h2.2.1 (by omega), bN.trans ((hN.1.kept s2).below (by omega) (by omega)), box_cell h2.1, (hN.2.step s2).cell 0⟩
    clear hN bN hsN hs0 hxs hsm
    go_wp2_with fail
    refine kp.mono ?_
    rintro e w2 ⟨rfl, v2, h2, s2⟩
    obtain ⟨f1, f2, f3, f4⟩ := fin w2 v2 h2 s2
    clear fin h2 s2 kp
    obtain ⟨ao2, n2, c2, rfl⟩ := own_slice f1
    go_wp2
    go_ret2
    exact ⟨_, rfl, f1, f2⟩

theorem putChs_arg {l : List ChD} (h : l.all chOk = false) : putChs l = ([], 1) := by unfold putChs; rw [if_neg (by simp [h])]
theorem putChs_limit {l : List ChD} (h : l.all chOk = true) (hn : ¬ l.length ≤ 4096) : putChs l = ([], 3) := by unfold putChs; rw [if_pos h, if_neg hn]
theorem putChs_fits {l : List ChD} (h : l.all chOk = true) (hn : l.length ≤ 4096) : putChs l = (encList encCh l, 0) := by unfold putChs; rw [if_pos h, if_pos hn]
theorem putChs_len {l : List ChD} (h : l.all chOk = true) : (l.flatMap encCh).length ≤ l.length * 40 := by
  induction l with
  | nil => simp
  | cons x l ih =>
    rw [List.all_cons, Bool.and_eq_true] at h
    have h1 := ih h.2
    have h2 : (encCh x).length ≤ 40 := by
      have h3 := h.1
      unfold chOk at h3; rw [Bool.and_eq_true] at h3
      have h1 := chk_size h3.1
      simp only [encCh, List.length_cons, List.length_append, txt_len, be4_len]; omega
    rw [List.flatMap_cons, List.length_append, List.length_cons]
    omega

end Go.Proofs.YtcgecdiaddcfkaaGreatDoor
/- Results in memory; the walks of what is asked of each one of them. -/
set_option linter.unusedSimpArgs false
set_option linter.unusedVariables false
namespace Go.Proofs.YtcgecdiaddcfkaaGreatDoor
open Go.RowKit

/-- A result in memory: its slice, and the rows that it holds. -/
abbrev ResP : Type := Value × List RowD
def resCells (p : ResP) : List Value := [p.1]
def resV (p : ResP) : Value := .agg #[p.1]
/-- The rows of a result lie below block number 'lim'. -/
def RowsAt (w : World) (lim : Nat) (p : ResP) : Prop := SlAt 2 rowCells w lim p.1 p.2 ∧ ∀ x ∈ p.2, rowSm x
def ResAt (w : World) (lim : Nat) (v : Value) (l : List ResP) : Prop := SlAt 1 resCells w lim v l ∧ ∀ p ∈ l, RowsAt w lim p
def resOkP (p : ResP) : Bool := resOk p.2
def fewP (p : ResP) : Bool := decide (p.2.length ≤ 256)
theorem RowsAt.below {w w' : World} {lim B : Nat} {p : ResP} (h : RowsAt w lim p) (hb : Below B w w') (hB : lim ≤ B) : RowsAt w' lim p := ⟨h.1.below hb hB, h.2⟩
theorem RowsAt.kept {w w' : World} {lim : Nat} {p : ResP} (h : RowsAt w lim p) (hb : ∀ k, k < lim → w'.heap[k]? = w.heap[k]?) : RowsAt w' lim p := ⟨h.1.kept hb, h.2⟩
theorem RowsAt.mono {w : World} {lim lim' : Nat} {p : ResP} (h : RowsAt w lim p) (hB : lim ≤ lim') : RowsAt w lim' p := ⟨h.1.mono hB, h.2⟩
theorem ResAt.kept {w w' : World} {lim : Nat} {v : Value} {l : List ResP} (h : ResAt w lim v l) (hb : ∀ k, k < lim → w'.heap[k]? = w.heap[k]?) : ResAt w' lim v l := ⟨h.1.kept hb, fun p hp => (h.2 p hp).kept hb⟩
theorem ResAt.below {w w' : World} {lim B : Nat} {v : Value} {l : List ResP} (h : ResAt w lim v l) (hb : Below B w w') (hB : lim ≤ B) : ResAt w' lim v l := h.kept (fun k hk => hb.block k (by omega))
theorem ResAt.mono {w : World} {lim lim' : Nat} {v : Value} {l : List ResP} (h : ResAt w lim v l) (hB : lim ≤ lim') : ResAt w lim' v l := ⟨h.1.mono hB, fun p hp => (h.2 p hp).mono hB⟩

set_option maxHeartbeats 2000000 in
set_option maxRecDepth 1000000 in
theorem checkResult_any (w : World) (x : ResP) (lim : Nat) (hlim : lim ≤ w.heap.size) (hs : RowsAt w lim x) :
    Calls Tryz.prog 98 #[resV x] w fun e w' => e = .returned (.bool (resOkP x)) ∧ Below w.heap.size w w' := by
  obtain ⟨v, rows⟩ := x
  unfold resV resOkP resOk
  simp only
  obtain ⟨W, hW⟩ : ∃ W, W = w.alloc (.cells #[v] 89) := ⟨_, rfl⟩
  have B0 : Below w.heap.size w W := by rw [hW]; exact (Below.refl _ _).alloc (Nat.le_refl _) _
  have Z0 : W.heap.size = w.heap.size + 1 := by rw [hW]; simp
  have hsW : SlAt 2 rowCells W W.heap.size v rows := (hs.1.below B0 hlim).mono (by omega)
  have k := allRow_any W v rows hsW hs.2
  have fin : ∀ w1, Below W.heap.size W w1 → Below w.heap.size w w1 := fun w1 hb => B0.trans (hb.mono (by omega))
  obtain ⟨ao, cap, hv, -, -, -⟩ := hs.1
  simp only at hv
  clear B0 Z0 hsW hs
  subst hW
  subst hv
  go_enter Tryz.func98, Tryz.ntmps98
  go_wp2_with fail
  refine k.mono ?_
  rintro e w1 ⟨rfl, hb⟩
  have b1 := fin w1 hb
  clear fin k hb
  go_wp2
  go_ret
  exact ⟨rfl, b1⟩

set_option maxHeartbeats 2000000 in
set_option maxRecDepth 1000000 in
theorem fewRows_any (w : World) (x : ResP) (lim : Nat) (hlim : lim ≤ w.heap.size) (hs : RowsAt w lim x) :
    Calls Tryz.prog 99 #[resV x] w fun e w' => e = .returned (.bool (fewP x)) ∧ Below w.heap.size w w' := by
  obtain ⟨v, rows⟩ := x
  unfold resV fewP
  simp only
  have B0 : Below w.heap.size w (w.alloc (.cells #[v] 89)) := (Below.refl _ _).alloc (Nat.le_refl _) _
  obtain ⟨ao, cap, hv, -, -, -⟩ := hs.1
  simp only at hv
  clear hs
  subst hv
  by_cases h : rows.length ≤ 256
  · go_enter Tryz.func99, Tryz.ntmps99
    go_wp2
    go_ret
    exact ⟨by simp [h]; try omega, B0⟩
  · go_enter Tryz.func99, Tryz.ntmps99
    go_wp2
    go_ret
    exact ⟨by simp [h]; try omega, B0⟩

set_option maxHeartbeats 2000000 in
set_option maxRecDepth 1000000 in
theorem allRes_any (w : World) (v : Value) (l : List ResP) (h0 : ResAt w w.heap.size v l) :
    Calls Tryz.prog 97 #[v, .func (.func 98) #[] #[]] w fun e w' => e = .returned (.bool (l.all resOkP)) ∧ Below w.heap.size w w' := by
  obtain ⟨⟨ao, cap, rfl, hlc, hcm, hc⟩, hrows⟩ := h0
  unfold maxLen at hcm
  go_enter Tryz.func97, Tryz.ntmps97
  go_wp2
  go_loopw [6, 9] (fun _ i wr => ∃ k : Nat, k ≤ l.length ∧ i = .int .i64 k ∧ Below w.heap.size w wr ∧ Hid ((l.take k).all resOkP = true)) (fun _ i _ => l.length - (intOf i).toNat)
  case atStart => exact ⟨0, Nat.zero_le _, rfl, Below.refl _ _, rfl⟩
  case round =>
    obtain ⟨k, hk, rfl, hb, hall⟩ := hrel
    by_cases hlt : k < l.length
    · obtain ⟨b, off, rfl, hbl, hcell⟩ := hc (by omega)
      have hz := hb.size
      obtain ⟨x, hx⟩ : ∃ x, x = l[k]'hlt := ⟨_, rfl⟩
      have cc : ∀ j u, (resCells x)[j]? = some u → wr.cell? ⟨b, off + k * 1 + j, none⟩ = some u := fun j u hu => (hb.cell hbl).trans (hcell k hlt j u (by rw [← hx]; exact hu))
      have c0 := cc 0 _ rfl
      have hrx : RowsAt w w.heap.size x := hrows x (by rw [hx]; exact List.getElem_mem _)
      obtain ⟨ax, cx, hvx, -, -, -⟩ := hrx.1
      obtain ⟨vx, rx⟩ := x
      simp only at hvx
      subst hvx
      have HX : Hid ((Value.slice ax rx.length cx, rx) = l[k]'hlt) := hx
      clear cc hx hcell hc
      simp only [Nat.add_zero, Nat.mul_one] at c0
      obtain ⟨W, hW⟩ : ∃ W, W = wr.alloc (.cells #[.slice ax rx.length cx] 89) := ⟨_, rfl⟩
      have bW : Below w.heap.size w W := by rw [hW]; exact hb.alloc hz _
      have kW := checkResult_any W (.slice ax rx.length cx, rx) w.heap.size bW.size (hrx.below bW (Nat.le_refl _))
      have fin : ∀ w1, Below W.heap.size W w1 → Below w.heap.size w w1 := fun w1 h1 => bW.trans (h1.mono bW.size)
      clear bW hrx
      subst hW
      cases hok : resOkP (.slice ax rx.length cx, rx) with
      | true =>
        rw [hok] at kW
        have hall2 : Hid ((l.take (k + 1)).all resOkP = true) := all_take_succ l _ k hlt hall.out (by rw [← HX.out]; exact hok)
        clear hok
        go_wp2_with fail
        refine kW.mono ?_
        rintro e w1 ⟨rfl, h1⟩
        have b1 := fin w1 h1
        clear fin h1 kW
        go_wp2
        go_roundw
        case rel => exact ⟨k + 1, by omega, by go_num, b1, hall2⟩
        case measure => simp [intOf]; omega
      | false =>
        rw [hok] at kW
        have H : Hid (l.all resOkP = false) := all_get_false l _ k hlt (by rw [← HX.out]; exact hok)
        clear hok
        go_wp2_with fail
        refine kW.mono ?_
        rintro e w1 ⟨rfl, h1⟩
        have b1 := fin w1 h1
        clear fin h1 kW
        go_wp2
        go_ret
        exact ⟨by rw [H.out]; rfl, b1⟩
    · have H : Hid (l.all resOkP = true) := by
        have e : l.take k = l := List.take_of_length_le (by omega)
        have h := hall.out
        rw [e] at h
        exact h
      clear hc
      go_wp2
      go_ret
      exact ⟨by rw [H.out]; rfl, hb⟩

set_option maxHeartbeats 2000000 in
set_option maxRecDepth 1000000 in
theorem allFew_any (w : World) (v : Value) (l : List ResP) (h0 : ResAt w w.heap.size v l) :
    Calls Tryz.prog 97 #[v, .func (.func 99) #[] #[]] w fun e w' => e = .returned (.bool (l.all fewP)) ∧ Below w.heap.size w w' := by
  obtain ⟨⟨ao, cap, rfl, hlc, hcm, hc⟩, hrows⟩ := h0
  unfold maxLen at hcm
  go_enter Tryz.func97, Tryz.ntmps97
  go_wp2
  go_loopw [6, 9] (fun _ i wr => ∃ k : Nat, k ≤ l.length ∧ i = .int .i64 k ∧ Below w.heap.size w wr ∧ Hid ((l.take k).all fewP = true)) (fun _ i _ => l.length - (intOf i).toNat)
  case atStart => exact ⟨0, Nat.zero_le _, rfl, Below.refl _ _, rfl⟩
  case round =>
    obtain ⟨k, hk, rfl, hb, hall⟩ := hrel
    by_cases hlt : k < l.length
    · obtain ⟨b, off, rfl, hbl, hcell⟩ := hc (by omega)
      have hz := hb.size
      obtain ⟨x, hx⟩ : ∃ x, x = l[k]'hlt := ⟨_, rfl⟩
      have cc : ∀ j u, (resCells x)[j]? = some u → wr.cell? ⟨b, off + k * 1 + j, none⟩ = some u := fun j u hu => (hb.cell hbl).trans (hcell k hlt j u (by rw [← hx]; exact hu))
      have c0 := cc 0 _ rfl
      have hrx : RowsAt w w.heap.size x := hrows x (by rw [hx]; exact List.getElem_mem _)
      obtain ⟨ax, cx, hvx, -, -, -⟩ := hrx.1
      obtain ⟨vx, rx⟩ := x
      simp only at hvx
      subst hvx
      have HX : Hid ((Value.slice ax rx.length cx, rx) = l[k]'hlt) := hx
      clear cc hx hcell hc
      simp only [Nat.add_zero, Nat.mul_one] at c0
      obtain ⟨W, hW⟩ : ∃ W, W = wr.alloc (.cells #[.slice ax rx.length cx] 89) := ⟨_, rfl⟩
      have bW : Below w.heap.size w W := by rw [hW]; exact hb.alloc hz _
      have kW := fewRows_any W (.slice ax rx.length cx, rx) w.heap.size bW.size (hrx.below bW (Nat.le_refl _))
      have fin : ∀ w1, Below W.heap.size W w1 → Below w.heap.size w w1 := fun w1 h1 => bW.trans (h1.mono bW.size)
      clear bW hrx
      subst hW
      cases hok : fewP (.slice ax rx.length cx, rx) with
      | true =>
        rw [hok] at kW
        have hall2 : Hid ((l.take (k + 1)).all fewP = true) := all_take_succ l _ k hlt hall.out (by rw [← HX.out]; exact hok)
        clear hok
        go_wp2_with fail
        refine kW.mono ?_
        rintro e w1 ⟨rfl, h1⟩
        have b1 := fin w1 h1
        clear fin h1 kW
        go_wp2
        go_roundw
        case rel => exact ⟨k + 1, by omega, by go_num, b1, hall2⟩
        case measure => simp [intOf]; omega
      | false =>
        rw [hok] at kW
        have H : Hid (l.all fewP = false) := all_get_false l _ k hlt (by rw [← HX.out]; exact hok)
        clear hok
        go_wp2_with fail
        refine kW.mono ?_
        rintro e w1 ⟨rfl, h1⟩
        have b1 := fin w1 h1
        clear fin h1 kW
        go_wp2
        go_ret
        exact ⟨by rw [H.out]; rfl, b1⟩
    · have H : Hid (l.all fewP = true) := by
        have e : l.take k = l := List.take_of_length_le (by omega)
        have h := hall.out
        rw [e] at h
        exact h
      clear hc
      go_wp2
      go_ret
      exact ⟨by rw [H.out]; rfl, hb⟩
end Go.Proofs.YtcgecdiaddcfkaaGreatDoor
