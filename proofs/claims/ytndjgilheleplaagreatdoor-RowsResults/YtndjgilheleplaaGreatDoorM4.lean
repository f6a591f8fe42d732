/- Texts of this proof, laid into one. -/
import Derived.Test.YtndjgilheleplaaGreatDoorRPutM
import Derived.Test.YtndjgilheleplaaGreatDoorRRdM
/- The walks of rows.PutOps and rows.PutChanges: the bytes, or the error. -/
set_option linter.unusedSimpArgs false
set_option linter.unusedVariables false
namespace Go.Proofs.YtndjgilheleplaaGreatDoor
open Go.RowKit

/-- The value v holds the bytes bs in memory of its own, from block number 'base' on. -/
def BsAt (w : World) (base : Nat) (v : Value) (bs : List UInt8) : Prop := w.ownsRow base 5 1 v bs.length (bcells bs)
theorem own_mono {w : World} {base base' : Nat} {e : TypeId} {size : Nat} {v : Value} {n : Nat} {xs : List Value} (h : w.ownsRow base e size v n xs) (hb : base' ≤ base) : w.ownsRow base' e size v n xs := by
  refine ⟨h.1, ?_⟩
  rcases h.2 with h1 | ⟨g, cap, cur, h1, h2, h3⟩
  · exact .inl h1
  · exact .inr ⟨g, cap, cur, h1, Nat.le_trans hb h2, h3⟩
theorem BsAt.mono {w : World} {base base' : Nat} {v : Value} {bs : List UInt8} (h : BsAt w base v bs) (hb : base' ≤ base) : BsAt w base' v bs := own_mono h hb
theorem BsAt_nil (w : World) (base : Nat) : BsAt w base (.slice none 0 0) [] := World.ownsRow_nil w base _ _
/-- A writer that was just made, and the variable that holds it. -/
theorem wat_new (w : World) : WAt ((w.alloc (.cells #[.slice none 0 0] 78)).alloc (.cells #[ptr w.heap.size] 76)) w.heap.size (w.heap.size + 2) [] (.slice none 0 0) ∧
    Held w.heap.size ((w.alloc (.cells #[.slice none 0 0] 78)).alloc (.cells #[ptr w.heap.size] 76)) (.slice none 0 0) (w.heap.size + 1) (.cells #[ptr w.heap.size] 76 (0, 0)) := by
  refine ⟨⟨?_, World.ownsRow_nil _ _ _ _, by omega, by simp⟩, ⟨by simp, by omega, by simp [Value.ownBlock], ?_⟩⟩
  · exact alloc_block (heap_alloc_new w _) _
  · have := heap_alloc_new (w.alloc (.cells #[.slice none 0 0] 78)) (.cells #[ptr w.heap.size] 76)
    simpa using this
theorem below_two {w : World} (a b : Obj) : Below w.heap.size w ((w.alloc a).alloc b) := ((Below.refl _ _).alloc (Nat.le_refl _) _).alloc (by simp) _

theorem putOps_arg {l : List OpD} (h : l.all opOk = false) : putOps l = ([], 1) := by unfold putOps; rw [if_neg (by simp [h])]
theorem putOps_limit {l : List OpD} (h : l.all opOk = true) (hn : ¬ l.length ≤ 16) : putOps l = ([], 3) := by unfold putOps; rw [if_pos h, if_neg hn]
theorem putOps_fits {l : List OpD} (h : l.all opOk = true) (hn : l.length ≤ 16) : putOps l = (encList encOp l, 0) := by unfold putOps; rw [if_pos h, if_pos hn]
theorem putOps_len {l : List OpD} (h : l.all opOk = true) : (l.flatMap encOp).length ≤ l.length * 40 := by
  induction l with
  | nil => simp
  | cons x l ih =>
    rw [List.all_cons, Bool.and_eq_true] at h
    have h1 := ih h.2
    have h2 : (encOp x).length ≤ 40 := by
      have h1 := opOk_key h.1
      have h2 := opOk_to h.1
      simp only [encOp, List.length_cons, List.length_append, txt_len, be4_len]; omega
    rw [List.flatMap_cons, List.length_append, List.length_cons]
    omega

set_option maxHeartbeats 2000000 in
set_option maxRecDepth 1000000 in
theorem PutOps_any (w : World) (vl : Value) (l : List OpD) (hs : SlAt 4 opCells w w.heap.size vl l) (hsm : ∀ x ∈ l, opSm x) :
    Calls Tryz.prog 9 #[vl] w fun e w' => ∃ v, e = .returned (.tuple #[v, .int .i64 ((putOps l).2 : Int)]) ∧ BsAt w' w.heap.size v (putOps l).1 ∧ Below w.heap.size w w' := by
  have ka := allOp_any w vl l hs hsm
  have hmf : ∀ (fn : Fn) (first cap : Array Value) (w : World), (Instr.makeFunc fn first cap).run Tryz.prog w = .ok (.func fn first cap) w := fun _ _ _ _ => rfl
  cases hok : l.all opOk with
  | false =>
    rw [putOps_arg hok]
    rw [hok] at ka
    obtain ⟨ao, cap, rfl, hlc, hcm, hc⟩ := hs
    clear hok hc
    go_enter Tryz.func9, Tryz.ntmps9
    go_wp2_with fail
    refine ka.mono ?_
    rintro e w1 ⟨rfl, b1⟩
    clear ka
    go_wp2
    go_ret2
    exact ⟨_, rfl, BsAt_nil _ _, b1⟩
  | true =>
    rw [hok] at ka
    by_cases hn : l.length ≤ 16
    case neg =>
      rw [putOps_limit hok hn]
      obtain ⟨ao, cap, rfl, hlc, hcm, hc⟩ := hs
      clear hok hc
      go_enter Tryz.func9, Tryz.ntmps9
      go_wp2_with fail
      refine ka.mono ?_
      rintro e w1 ⟨rfl, b1⟩
      clear ka
      go_wp2
      go_ret2
      exact ⟨_, rfl, BsAt_nil _ _, b1⟩
    rw [putOps_fits hok hn]
    have hlen := putOps_len hok
    have hxs : ∀ x ∈ l, x.key.size < 256 ∧ x.to.size < 256 := fun x hx => by
      have h := List.all_eq_true.mp hok x hx
      have h1 := opOk_key h
      have h2 := opOk_to h
      omega
    have hs0 := hs
    obtain ⟨ao, cap, rfl, hlc, hcm, hc⟩ := hs
    clear hok hc
    go_enter Tryz.func9, Tryz.ntmps9
    go_wp2_with fail
    refine ka.mono ?_
    rintro e w1 ⟨rfl, b1⟩
    clear ka
    have hN := wat_new w1
    have bN := b1.trans ((below_two (w := w1) (.cells #[.slice none 0 0] 78) (.cells #[ptr w1.heap.size] 76)).mono b1.size)
    have hsN := hs0.below bN (Nat.le_refl _)
    have kp := putListOp_any _ w1.heap.size (w1.heap.size + 2) (w1.heap.size + 1) w.heap.size 76 [] (.slice none 0 0) _ l hN.1 hN.2 b1.size hsN hxs (by omega) (by simp only [List.length_nil]; omega)
    have fin : ∀ w2 v2, WAt w2 w1.heap.size (w1.heap.size + 2) (encList encOp l) v2 → WrStep w1.heap.size ((w1.alloc (.cells #[.slice none 0 0] 78)).alloc (.cells #[ptr w1.heap.size] 76)) w2 (.slice none 0 0) v2 →
        BsAt w2 w.heap.size v2 (encList encOp l) ∧ Below w.heap.size w w2 ∧ w2.cell? ⟨w1.heap.size, 0, none⟩ = some v2 ∧ w2.cell? ⟨w1.heap.size + 1, 0, none⟩ = some (ptr w1.heap.size) := by
      intro w2 v2 h2 s2
      have z := b1.size
      exact ⟨own_mono h2.2.1 (by omega), bN.trans ((hN.1.kept s2).below (by omega) (by omega)), box_cell h2.1, (hN.2.step s2).cell 0⟩
    clear hN bN hsN hs0 hxs hsm
    go_wp2_with fail
    refine kp.mono ?_
    rintro e w2 ⟨rfl, v2, h2, s2⟩
    obtain ⟨f1, f2, f3, f4⟩ := fin w2 v2 h2 s2
    clear fin h2 s2 kp
    obtain ⟨ao2, n2, c2, rfl⟩ := own_slice f1
    go_wp2
    go_ret2
    exact ⟨_, rfl, f1, f2⟩

theorem putChs_arg {l : List ChD} (h : l.all chOk = false) : putChs l = ([], 1) := by unfold putChs; rw [if_neg (by simp [h])]
theorem putChs_limit {l : List ChD} (h : l.all chOk = true) (hn : ¬ l.length ≤ 4096) : putChs l = ([], 3) := by unfold putChs; rw [if_pos h, if_neg hn]
theorem putChs_fits {l : List ChD} (h : l.all chOk = true) (hn : l.length ≤ 4096) : putChs l = (encList encCh l, 0) := by unfold putChs; rw [if_pos h, if_pos hn]
theorem putChs_len {l : List ChD} (h : l.all chOk = true) : (l.flatMap encCh).length ≤ l.length * 40 := by
  induction l with
  | nil => simp
  | cons x l ih =>
    rw [List.all_cons, Bool.and_eq_true] at h
    have h1 := ih h.2
    have h2 : (encCh x).length ≤ 40 := by
      have h3 := h.1
      unfold chOk at h3; rw [Bool.and_eq_true] at h3
      have h1 := chk_size h3.1
      simp only [encCh, List.length_cons, List.length_append, txt_len, be4_len]; omega
    rw [List.flatMap_cons, List.length_append, List.length_cons]
    omega

set_option maxHeartbeats 2000000 in
set_option maxRecDepth 1000000 in
theorem PutChanges_any (w : World) (vl : Value) (l : List ChD) (hs : SlAt 3 chCells w w.heap.size vl l) (hsm : ∀ x ∈ l, chSm x) :
    Calls Tryz.prog 33 #[vl] w fun e w' => ∃ v, e = .returned (.tuple #[v, .int .i64 ((putChs l).2 : Int)]) ∧ BsAt w' w.heap.size v (putChs l).1 ∧ Below w.heap.size w w' := by
  have ka := allCh_any w vl l hs hsm
  have hmf : ∀ (fn : Fn) (first cap : Array Value) (w : World), (Instr.makeFunc fn first cap).run Tryz.prog w = .ok (.func fn first cap) w := fun _ _ _ _ => rfl
  cases hok : l.all chOk with
  | false =>
    rw [putChs_arg hok]
    rw [hok] at ka
    obtain ⟨ao, cap, rfl, hlc, hcm, hc⟩ := hs
    clear hok hc
    go_enter Tryz.func33, Tryz.ntmps33
    go_wp2_with fail
    refine ka.mono ?_
    rintro e w1 ⟨rfl, b1⟩
    clear ka
    go_wp2
    go_ret2
    exact ⟨_, rfl, BsAt_nil _ _, b1⟩
  | true =>
    rw [hok] at ka
    by_cases hn : l.length ≤ 4096
    case neg =>
      rw [putChs_limit hok hn]
      obtain ⟨ao, cap, rfl, hlc, hcm, hc⟩ := hs
      clear hok hc
      go_enter Tryz.func33, Tryz.ntmps33
      go_wp2_with fail
      refine ka.mono ?_
      rintro e w1 ⟨rfl, b1⟩
      clear ka
      go_wp2
      go_ret2
      exact ⟨_, rfl, BsAt_nil _ _, b1⟩
    rw [putChs_fits hok hn]
    have hlen := putChs_len hok
    have hxs : ∀ x ∈ l, x.key.size < 256 := fun x hx => by
      have h := List.all_eq_true.mp hok x hx
      unfold chOk at h; rw [Bool.and_eq_true] at h
      have h1 := chk_size h.1
      omega
    have hs0 := hs
    obtain ⟨ao, cap, rfl, hlc, hcm, hc⟩ := hs
    clear hok hc
    go_enter Tryz.func33, Tryz.ntmps33
    go_wp2_with fail
    refine ka.mono ?_
    rintro e w1 ⟨rfl, b1⟩
    clear ka
    have hN := wat_new w1
    have bN := b1.trans ((below_two (w := w1) (.cells #[.slice none 0 0] 78) (.cells #[ptr w1.heap.size] 76)).mono b1.size)
    have hsN := hs0.below bN (Nat.le_refl _)
    have kp := putListCh_any _ w1.heap.size (w1.heap.size + 2) (w1.heap.size + 1) w.heap.size 76 [] (.slice none 0 0) _ l hN.1 hN.2 b1.size hsN hxs (by omega) (by simp only [List.length_nil]; omega)
    have fin : ∀ w2 v2, WAt w2 w1.heap.size (w1.heap.size + 2) (encList encCh l) v2 → WrStep w1.heap.size ((w1.alloc (.cells #[.slice none 0 0] 78)).alloc (.cells #[ptr w1.heap.size] 76)) w2 (.slice none 0 0) v2 →
        BsAt w2 w.heap.size v2 (encList encCh l) ∧ Below w.heap.size w w2 ∧ w2.cell? ⟨w1.heap.size, 0, none⟩ = some v2 ∧ w2.cell? ⟨w1.heap.size + 1, 0, none⟩ = some (ptr w1.heap.size) := by
      intro w2 v2 h2 s2
      have z := b1.size
      exact ⟨own_mono h2.2.1 (by omega), bN.trans ((hN.1.kept s2).below (by omega) (by omega)), box_cell h2.1, (hN.2.step s2).cell 0⟩
    clear hN bN hsN hs0 hxs hsm
    go_wp2_with fail
    refine kp.mono ?_
    rintro e w2 ⟨rfl, v2, h2, s2⟩
    obtain ⟨f1, f2, f3, f4⟩ := fin w2 v2 h2 s2
    clear fin h2 s2 kp
    obtain ⟨ao2, n2, c2, rfl⟩ := own_slice f1
    go_wp2
    go_ret2
    exact ⟨_, rfl, f1, f2⟩
end Go.Proofs.YtndjgilheleplaaGreatDoor
/- The walks of the reader's methods, more: a byte, a count, a number, a text, a mark. -/
set_option linter.unusedSimpArgs false
set_option linter.unusedVariables false
namespace Go.Proofs.YtndjgilheleplaaGreatDoor
open Go.RowKit

theorem takeS_len (n : Nat) (s : St) : (takeS n s).1.length ≤ n := by unfold takeS; split <;> simp; omega
theorem high1_lt (s : St) : (highS 1 s).1 < 256 := by
  have h := hiN_lt (takeS 1 s).1
  have h2 := takeS_len 1 s
  have h3 : 256 ^ (takeS 1 s).1.length ≤ 256 ^ 1 := Nat.pow_le_pow_right (by omega) h2
  show hiN (takeS 1 s).1 < 256
  omega
theorem high2_lt (s : St) : (highS 2 s).1 < 65536 := by
  have h := hiN_lt (takeS 2 s).1
  have h2 := takeS_len 2 s
  have h3 : 256 ^ (takeS 2 s).1.length ≤ 256 ^ 2 := Nat.pow_le_pow_right (by omega) h2
  show hiN (takeS 2 s).1 < 65536
  omega
theorem high4_lt (s : St) : (highS 4 s).1 < 4294967296 := by
  have h := hiN_lt (takeS 4 s).1
  have h2 := takeS_len 4 s
  have h3 : 256 ^ (takeS 4 s).1.length ≤ 256 ^ 4 := Nat.pow_le_pow_right (by omega) h2
  show hiN (takeS 4 s).1 < 4294967296
  omega

theorem conv_in {w : World} {lim : Nat} {v : Value} {bs : List UInt8} (h : InAt w lim v bs) : (convert 27 9 v).run Tryz.prog w = .ok (.string ⟨bs.toArray⟩) w := by
  obtain ⟨ao, cap, rfl, hlc, hcm, hc⟩ := h
  by_cases hl : 0 < bs.length
  · obtain ⟨b, off, rfl, hb, hcell⟩ := hc hl
    have := run_convert_bytes_arg (P := Tryz.prog) w 27 5 Tryz.underlying27 Tryz.underlying5 b off bs.length cap (bs.map fun c => (c.toNat : Int)) (by simp) (fun i hi => by
      have := hcell i hi 0 _ rfl
      simp only [Nat.add_zero, Nat.mul_one, bv] at this
      rw [this]
      simp [hi]) 9 Tryz.underlying9
    rw [this]
    have e : strOfNums (bs.map fun c => (c.toNat : Int)) = ⟨bs.toArray⟩ := by
      unfold strOfNums
      rw [List.map_map, show ((fun n : Int => UInt8.ofNat n.toNat) ∘ fun c : UInt8 => (c.toNat : Int)) = id from funext fun c => by simp, List.map_id]
    rw [e]
  · have e : bs = [] := List.eq_nil_of_length_eq_zero (by omega)
    subst e
    cases ao with
    | none => exact run_convert_bytes_nil (P := Tryz.prog) w 27 5 Tryz.underlying27 Tryz.underlying5 0 cap 9 Tryz.underlying9
    | some a =>
      show (convert 27 9 (.slice (some a) 0 cap)).run Tryz.prog w = _
      rw [run_convert_bytes_string (P := Tryz.prog) w 27 9 5 (some a) 0 cap Tryz.underlying27 Tryz.underlying5 Tryz.underlying9]
      have hl0 : (loadCells a 0).run Tryz.prog w = .ok (([] : List Int).map (Value.int .u8)).toArray w := run_loadCells_list (P := Tryz.prog) w a [] (fun j v hj => by simp at hj)
      have := run_bytesToString (P := Tryz.prog) w a 0 cap [] hl0
      rw [this]
      rfl

set_option maxHeartbeats 2000000 in
set_option maxRecDepth 1000000 in
theorem rsmall_any (w : World) (R lim : Nat) (s : St) (h : RAt w R lim s) :
    Calls Tryz.prog 48 #[ptr R] w fun e w' => e = .returned (.int .u8 ((highS 1 s).1 : Int)) ∧ RAt w' R lim (highS 1 s).2 ∧ Kept R w.heap.size w w' := by
  have k := high_any w R lim 1 s h (by omega)
  have hlt := high1_lt s
  generalize (highS 1 s).1 = x at *
  go_enter Tryz.func48, Tryz.ntmps48
  go_wp2_with fail
  refine k.mono ?_
  rintro e w1 ⟨rfl, h1, k1⟩
  clear k
  have e1 : (x : Int) % 256 = x := by omega
  go_wp2
  go_ret
  exact ⟨rfl, h1, k1⟩

set_option maxHeartbeats 2000000 in
set_option maxRecDepth 1000000 in
theorem rcount_any (w : World) (R lim : Nat) (s : St) (h : RAt w R lim s) :
    Calls Tryz.prog 131 #[ptr R] w fun e w' => e = .returned (.int .i64 ((highS 2 s).1 : Int)) ∧ RAt w' R lim (highS 2 s).2 ∧ Kept R w.heap.size w w' := by
  have k := high_any w R lim 2 s h (by omega)
  have hlt := high2_lt s
  generalize (highS 2 s).1 = x at *
  go_enter Tryz.func131, Tryz.ntmps131
  go_wp2_with fail
  refine k.mono ?_
  rintro e w1 ⟨rfl, h1, k1⟩
  clear k
  go_wp2
  go_ret
  exact ⟨rfl, h1, k1⟩

set_option maxHeartbeats 2000000 in
set_option maxRecDepth 1000000 in
theorem rnumber_any (w : World) (R lim : Nat) (s : St) (h : RAt w R lim s) :
    Calls Tryz.prog 50 #[ptr R] w fun e w' => e = .returned (.int .u32 ((highS 4 s).1 : Int)) ∧ RAt w' R lim (highS 4 s).2 ∧ Kept R w.heap.size w w' := by
  have k := high_any w R lim 4 s h (by omega)
  generalize (highS 4 s).1 = x at *
  go_enter Tryz.func50, Tryz.ntmps50
  go_wp2_with fail
  refine k.mono ?_
  rintro e w1 ⟨rfl, h1, k1⟩
  clear k
  go_wp2
  go_ret
  exact ⟨rfl, h1, k1⟩

set_option maxHeartbeats 2000000 in
set_option maxRecDepth 1000000 in
theorem rtext_any (w : World) (R lim : Nat) (s : St) (h : RAt w R lim s) :
    Calls Tryz.prog 49 #[ptr R] w fun e w' => e = .returned (.string (textS s).1) ∧ RAt w' R lim (textS s).2 ∧ Kept R w.heap.size w w' := by
  have k := rsmall_any w R lim s h
  have k2 : ∀ w1, RAt w1 R lim (highS 1 s).2 → _ := fun w1 h1 => take_any w1 R lim (highS 1 s).1 (highS 1 s).2 h1 (by have := high1_lt s; omega)
  show Calls _ _ _ _ fun e w' => e = .returned (.string ⟨(takeS (highS 1 s).1 (highS 1 s).2).1.toArray⟩) ∧ RAt w' R lim (takeS (highS 1 s).1 (highS 1 s).2).2 ∧ Kept R w.heap.size w w'
  have hlt := high1_lt s
  generalize (takeS (highS 1 s).1 (highS 1 s).2).1 = T at *
  generalize (takeS (highS 1 s).1 (highS 1 s).2).2 = s2 at *
  generalize (highS 1 s).1 = x at *
  generalize (highS 1 s).2 = s1 at *
  go_enter Tryz.func49, Tryz.ntmps49
  go_wp2_with fail
  refine k.mono ?_
  rintro e w1 ⟨rfl, h1, q1⟩
  have k3 := k2 w1 h1
  clear k k2
  go_wp2_with fail
  refine k3.mono ?_
  rintro e w2 ⟨v, rfl, hin, h2, q2⟩
  clear k3
  have hcv := conv_in hin
  have q3 := q1.trans (q2.mono q1.size)
  obtain ⟨ao, cap, rfl, -, -, -⟩ := hin
  go_wp2
  go_ret
  exact ⟨rfl, h2, q3⟩

set_option maxHeartbeats 2000000 in
set_option maxRecDepth 1000000 in
theorem rmark_any (w : World) (R lim : Nat) (s : St) (h : RAt w R lim s) :
    Calls Tryz.prog 127 #[ptr R] w fun e w' => e = .returned (.bool (markS s).1) ∧ RAt w' R lim (markS s).2 ∧ Kept R w.heap.size w w' := by
  have k := rsmall_any w R lim s h
  have k2 : ∀ w1, RAt w1 R lim (highS 1 s).2 → _ := fun w1 h1 => need_any w1 R lim (highS 1 s).2 (decide ((highS 1 s).1 ≤ 1)) h1
  show Calls _ _ _ _ fun e w' => e = .returned (.bool ((highS 1 s).1 == 1)) ∧ RAt w' R lim (needS (decide ((highS 1 s).1 ≤ 1)) (highS 1 s).2) ∧ Kept R w.heap.size w w'
  have hlt := high1_lt s
  generalize (highS 1 s).2 = s1 at *
  generalize (highS 1 s).1 = x at *
  have e1 : (x == 1) = ((x : Int) == 1) := by rw [Bool.eq_iff_iff]; simp; omega
  have e2 : decide (x ≤ 1) = decide ((x : Int) ≤ 1) := by rw [Bool.eq_iff_iff]; simp; omega
  rw [e1, e2]
  rw [e2] at k2
  clear e1 e2
  go_enter Tryz.func127, Tryz.ntmps127
  go_wp2_with fail
  refine k.mono ?_
  rintro e w1 ⟨rfl, h1, q1⟩
  have k3 := k2 w1 h1
  clear k k2
  go_wp2_with fail
  refine k3.mono ?_
  rintro e w2 ⟨rfl, h2, q2⟩
  have q3 := q1.trans (q2.mono q1.size)
  clear k3
  go_wp2
  go_ret
  exact ⟨rfl, h2, q3⟩
end Go.Proofs.YtndjgilheleplaaGreatDoor
