/- Texts of this proof, laid into one. -/
import Derived.Test.YtcgecdiaddcfkaaGreatDoorM5
import Derived.Test.YtcgecdiaddcfkaaGreatDoorM3
import Derived.Test.YtcgecdiaddcfkaaGreatDoorM2
/- The walk of rows.PutResults: the bytes, or the error. -/
set_option linter.unusedSimpArgs false
set_option linter.unusedVariables false
namespace Go.Proofs.YtcgecdiaddcfkaaGreatDoor
open Go.RowKit

def encResP (p : ResP) : List UInt8 := encRes p.2

set_option maxHeartbeats 2000000 in
set_option maxRecDepth 1000000 in
theorem putRes1_any (w : World) (B base V lim : Nat) (tv : TypeId) (bs : List UInt8) (v : Value) (x : ResP) (h : WAt w B base bs v) (hV : Held B w v V (.cells #[ptr B] tv (0, 0))) (hlB : lim ≤ B) (hr : RowsAt w lim x) (hx : ∀ y ∈ x.2, y.key.size < 256) (h6 : x.2.length < 65536) (hl : bs.length + (encResP x).length ≤ 700000000) :
    Calls Tryz.prog 101 #[resV x, ptr V] w fun e w' => e = .returned (.tuple #[]) ∧ ∃ v', WAt w' B base (bs ++ encResP x) v' ∧ WrStep B w w' v v' := by
  obtain ⟨vx, rx⟩ := x
  unfold resV encResP at *
  simp only at hx h6 hl ⊢
  have hmf : ∀ (fn : Fn) (first cap : Array Value) (w : World), (Instr.makeFunc fn first cap).run Tryz.prog w = .ok (.func fn first cap) w := fun _ _ _ _ => rfl
  obtain ⟨W, hW⟩ : ∃ W, W = w.alloc (.cells #[vx] 89) := ⟨_, rfl⟩
  have h0 : WAt W B base bs v := by rw [hW]; exact h.alloc _
  have S : WrStep B w W v v := by rw [hW]; exact (WrStep.refl B w v).alloc _
  have hV1 := hV.step S
  have hlt := h.2.2
  have hrW : RowsAt W lim (vx, rx) := hr.kept (fun k hk => (h.kept S).block k (by omega) (by omega))
  have hle : (rx.flatMap encRow).length ≤ (encRes rx).length := by unfold encRes encList; simp
  have k := putListRow_any W B base V lim tv bs v vx rx h0 hV1 hlB hrW.1 hx h6 (by omega)
  obtain ⟨ax, cx, hvx, -, -, -⟩ := hr.1
  simp only at hvx
  subst hvx
  have cV : W.cell? ⟨V, 0, none⟩ = some (ptr B) := hV1.cell 0
  have fin : ∀ w1 v1, WrStep B W w1 v v1 → WrStep B w w1 v v1 := fun w1 v1 s => S.trans s
  clear h0 S hV1 hV h hr hrW hle
  subst hW
  go_enter Tryz.func101, Tryz.ntmps101
  go_wp2_with fail
  refine k.mono ?_
  rintro e w1 ⟨rfl, v1, hw1, s1⟩
  have s2 := fin w1 v1 s1
  clear k fin s1
  go_wp2
  go_end0
  exact ⟨rfl, v1, hw1, s2⟩

set_option maxHeartbeats 2000000 in
set_option maxRecDepth 1000000 in
theorem putListRes_any (w : World) (B base V lim : Nat) (tv : TypeId) (bs : List UInt8) (v : Value) (vl : Value) (l : List ResP) (h : WAt w B base bs v) (hV : Held B w v V (.cells #[ptr B] tv (0, 0))) (hlB : lim ≤ B) (hs : SlAt 1 resCells w lim vl l) (hr : ∀ p ∈ l, RowsAt w lim p) (hx : ∀ x ∈ l, (∀ y ∈ x.2, y.key.size < 256) ∧ x.2.length < 65536) (h6 : l.length < 65536) (hl : bs.length + (l.flatMap encResP).length ≤ 600000000) :
    Calls Tryz.prog 100 #[ptr B, vl, .func (.func 101) #[] #[ptr V]] w fun e w' => e = .returned (.tuple #[]) ∧ ∃ v', WAt w' B base (bs ++ encList encResP l) v' ∧ WrStep B w w' v v' := by
  obtain ⟨ao, cap, rfl, hlc, hcm, hc⟩ := hs
  unfold maxLen at hcm
  have k0 := count_any w B base bs l.length h6 v h (by omega)
  go_enter Tryz.func100, Tryz.ntmps100
  go_wp2_with fail
  refine k0.mono ?_
  rintro e w0 ⟨rfl, v0, hw0, s0⟩
  have hV0 := hV.step s0
  clear k0
  go_wp2
  go_loopw [7, 14] (fun _ i wr => ∃ (k : Nat) (vk : Value), k ≤ l.length ∧ i = .int .i64 k ∧ WAt wr B base (bs ++ be2 l.length ++ (l.take k).flatMap encResP) vk ∧ WrStep B w wr v vk ∧ Held B wr vk V (.cells #[ptr B] tv (0, 0))) (fun _ i _ => l.length - (intOf i).toNat)
  case atStart => exact ⟨0, v0, Nat.zero_le _, rfl, by simpa using hw0, s0, hV0⟩
  case round =>
    clear hw0 s0 hV0
    obtain ⟨k, vk, hk, rfl, hwk, sk, hVk⟩ := hrel
    by_cases hlt : k < l.length
    · obtain ⟨b, off, rfl, hbl, hcell⟩ := hc (by omega)
      have hz := sk.size
      have hkp := h.kept sk
      have hB := h.2.2
      obtain ⟨x, hxk⟩ : ∃ x, x = l[k]'hlt := ⟨_, rfl⟩
      have hrk : RowsAt wr lim x := (hr x (by rw [hxk]; exact List.getElem_mem _)).kept (fun q hq => hkp.block q (by omega) (by omega))
      have cc : ∀ j u, (resCells x)[j]? = some u → wr.cell? ⟨b, off + k * 1 + j, none⟩ = some u := fun j u hu => (hkp.cell (by simp; omega) (by simp; omega)).trans (hcell k hlt j u (by rw [← hxk]; exact hu))
      have c0 := cc 0 _ rfl
      simp only [Nat.add_zero, Nat.mul_one] at c0
      have hlen1 := flat_take_len encResP l (k + 1)
      rw [flat_take_succ encResP l k hlt, ← hxk, List.length_append] at hlen1
      have hE : Hid (bs ++ be2 l.length ++ (l.take (k + 1)).flatMap encResP = bs ++ be2 l.length ++ (l.take k).flatMap encResP ++ encResP x) := by
        show _ = _
        rw [flat_take_succ encResP l k hlt, ← hxk]; simp only [List.append_assoc]
      have hxc := hx x (by rw [hxk]; exact List.getElem_mem _)
      clear cc hcell hc hkp hxk hx hr
      obtain ⟨ax, cx, hvx, -, -, -⟩ := hrk.1
      obtain ⟨vx, rx⟩ := x
      simp only at hvx
      subst hvx
      obtain ⟨W, hW⟩ : ∃ W, W = wr.alloc (.cells #[.slice ax rx.length cx] 89) := ⟨_, rfl⟩
      have sW : WrStep B wr W vk vk := by rw [hW]; exact (WrStep.refl B wr vk).alloc _
      have hWA : WAt W B base (bs ++ be2 l.length ++ (l.take k).flatMap encResP) vk := by rw [hW]; exact hwk.alloc _
      have kW := putRes1_any W B base V lim tv _ vk (.slice ax rx.length cx, rx) hWA (hVk.step sW) hlB (hrk.kept (fun q hq => (hwk.kept sW).block q (by omega) (by omega))) hxc.1 hxc.2 (by simp only [List.length_append, be2_len]; omega)
      have fin : ∀ w1 v1, WrStep B W w1 vk v1 → WrStep B w w1 v v1 ∧ Held B w1 v1 V (.cells #[ptr B] tv (0, 0)) := fun w1 v1 s1 => ⟨sk.trans (sW.trans s1), (hVk.step sW).step s1⟩
      clear hWA sW hVk sk hwk hlen1 hxc hrk
      subst hW
      go_wp2_with fail
      refine kW.mono ?_
      rintro e w1 ⟨rfl, v1, hw1, s1⟩
      obtain ⟨S1, hV1⟩ := fin w1 v1 s1
      rw [← hE.out] at hw1
      clear fin s1 kW hE
      go_wp2
      go_roundw
      case rel => exact ⟨k + 1, v1, by omega, by go_num, hw1, S1, hV1⟩
      case measure => simp [intOf]; omega
    · have e : l.take k = l := List.take_of_length_le (by omega)
      rw [e, List.append_assoc] at hwk
      clear hc e
      go_wp2
      go_end0
      exact ⟨rfl, vk, hwk, sk⟩

theorem encList_P (l : List ResP) : encList encResP l = encList encRes (l.map (·.2)) := by
  unfold encList
  rw [List.length_map, List.flatMap_map]
  rfl
theorem all_P (l : List ResP) : (l.map (·.2)).all resOk = l.all resOkP := by
  rw [List.all_map]; rfl
theorem few_P (l : List ResP) : (l.map (·.2)).all (fun r => decide (r.length ≤ 256)) = l.all fewP := by
  rw [List.all_map]; rfl
theorem row_len {l : List RowD} (h : l.all rowOk = true) : (l.flatMap encRow).length ≤ l.length * 40 := by
  induction l with
  | nil => simp
  | cons x l ih =>
    rw [List.all_cons, Bool.and_eq_true] at h
    have h1 := ih h.2
    have h2 : (encRow x).length ≤ 40 := by
      have h3 := chk_size h.1
      simp only [encRow, List.length_cons, List.length_append, txt_len, be4_len]; omega
    rw [List.flatMap_cons, List.length_append, List.length_cons]
    omega
theorem res_len {l : List ResP} (h : l.all resOkP = true) (hf : l.all fewP = true) : (l.flatMap encResP).length ≤ l.length * 12000 := by
  induction l with
  | nil => simp
  | cons x l ih =>
    rw [List.all_cons, Bool.and_eq_true] at h hf
    have h1 := ih h.2 hf.2
    have h2 : (encResP x).length ≤ 12000 := by
      have h3 := row_len h.1
      have h4 : x.2.length ≤ 256 := by simpa [fewP] using hf.1
      simp only [encResP, encRes, encList, List.length_append, be2_len]; omega
    rw [List.flatMap_cons, List.length_append, List.length_cons]
    omega

set_option maxHeartbeats 2000000 in
set_option maxRecDepth 1000000 in
theorem PutResults_any (w : World) (vl : Value) (l : List ResP) (hs : ResAt w w.heap.size vl l) :
    Calls Tryz.prog 31 #[vl] w fun e w' => ∃ v, e = .returned (.tuple #[v, .int .i64 ((putRes (l.map (·.2))).2 : Int)]) ∧ BsAt w' w.heap.size v (putRes (l.map (·.2))).1 ∧ Below w.heap.size w w' := by
  have ka := allRes_any w vl l hs
  have kf : ∀ w1, Below w.heap.size w w1 → _ := fun w1 (b1 : Below w.heap.size w w1) => allFew_any w1 vl l ((hs.below b1 (Nat.le_refl _)).mono b1.size)
  have hmf : ∀ (fn : Fn) (first cap : Array Value) (w : World), (Instr.makeFunc fn first cap).run Tryz.prog w = .ok (.func fn first cap) w := fun _ _ _ _ => rfl
  unfold putRes
  rw [all_P, few_P, List.length_map, ← encList_P]
  cases hok : l.all resOkP with
  | false =>
    rw [hok] at ka
    obtain ⟨⟨ao, cap, rfl, hlc, hcm, hc⟩, -⟩ := hs
    rw [if_neg (by simp)]
    clear hok hc kf
    go_enter Tryz.func31, Tryz.ntmps31
    go_wp2_with fail
    refine ka.mono ?_
    rintro e w1 ⟨rfl, b1⟩
    clear ka
    go_wp2
    go_ret2
    exact ⟨_, rfl, BsAt_nil _ _, b1⟩
  | true =>
    rw [hok] at ka
    rw [if_pos rfl]
    by_cases hn : l.length ≤ 16
    case neg =>
      rw [if_neg (by simp [hn])]
      obtain ⟨⟨ao, cap, rfl, hlc, hcm, hc⟩, -⟩ := hs
      clear hok hc kf
      go_enter Tryz.func31, Tryz.ntmps31
      go_wp2_with fail
      refine ka.mono ?_
      rintro e w1 ⟨rfl, b1⟩
      clear ka
      go_wp2
      go_ret2
      exact ⟨_, rfl, BsAt_nil _ _, b1⟩
    cases hfw : l.all fewP with
    | false =>
      rw [if_neg (by simp)]
      rw [hfw] at kf
      obtain ⟨⟨ao, cap, rfl, hlc, hcm, hc⟩, -⟩ := hs
      clear hok hc hfw
      go_enter Tryz.func31, Tryz.ntmps31
      go_wp2_with fail
      refine ka.mono ?_
      rintro e w1 ⟨rfl, b1⟩
      have kf1 := kf w1 b1
      clear ka kf
      go_wp2_with fail
      refine kf1.mono ?_
      rintro e w2 ⟨rfl, b2⟩
      have b3 := b1.trans (b2.mono b1.size)
      clear kf1 b2
      go_wp2
      go_ret2
      exact ⟨_, rfl, BsAt_nil _ _, b3⟩
    | true =>
    rw [if_pos ⟨hn, rfl⟩]
    rw [hfw] at kf
    have hlen := res_len hok hfw
    have hxs : ∀ x ∈ l, (∀ y ∈ x.2, y.key.size < 256) ∧ x.2.length < 65536 := fun x hx => by
      have h := List.all_eq_true.mp hok x hx
      have h2 := List.all_eq_true.mp hfw x hx
      refine ⟨fun y hy => ?_, by have : x.2.length ≤ 256 := by simpa [fewP] using h2
                                 omega⟩
      have h3 := List.all_eq_true.mp h y hy
      have h1 := chk_size h3
      omega
    have hs0 := hs
    obtain ⟨⟨ao, cap, rfl, hlc, hcm, hc⟩, -⟩ := hs
    clear hok hc hfw
    go_enter Tryz.func31, Tryz.ntmps31
    go_wp2_with fail
    refine ka.mono ?_
    rintro e w0 ⟨rfl, b0⟩
    have kf1 := kf w0 b0
    clear ka kf
    go_wp2_with fail
    refine kf1.mono ?_
    rintro e w1 ⟨rfl, b2⟩
    have b1 := b0.trans (b2.mono b0.size)
    clear kf1 b2 b0
    have hN := wat_new w1
    have bN := b1.trans ((below_two (w := w1) (.cells #[.slice none 0 0] 97) (.cells #[ptr w1.heap.size] 95)).mono b1.size)
    have hsN := hs0.below bN (Nat.le_refl _)
    have kp := putListRes_any _ w1.heap.size (w1.heap.size + 2) (w1.heap.size + 1) w.heap.size 95 [] (.slice none 0 0) _ l hN.1 hN.2 b1.size hsN.1 hsN.2 hxs (by omega) (by simp only [List.length_nil]; omega)
    have fin : ∀ w2 v2, WAt w2 w1.heap.size (w1.heap.size + 2) (encList encResP l) v2 → WrStep w1.heap.size ((w1.alloc (.cells #[.slice none 0 0] 97)).alloc (.cells #[ptr w1.heap.size] 95)) w2 (.slice none 0 0) v2 →
        BsAt w2 w.heap.size v2 (encList encResP l) ∧ Below w.heap.size w w2 ∧ w2.cell? ⟨w1.heap.size, 0, none⟩ = some v2 ∧ w2.cell? ⟨w1.heap.size + 1, 0, none⟩ = some (ptr w1.heap.size) := by
      intro w2 v2 h2 s2
      have z := b1.size
      exact ⟨own_mono h2.2.1 (by omega), bN.trans ((hN.1.kept s2).below (by omega) (by omega)), box_cell h2.1, (hN.2.step s2).cell 0⟩
    clear hN bN hsN hs0 hxs
    go_wp2_with fail
    refine kp.mono ?_
    rintro e w2 ⟨rfl, v2, h2, s2⟩
    obtain ⟨f1, f2, f3, f4⟩ := fin w2 v2 h2 s2
    clear fin h2 s2 kp
    obtain ⟨ao2, n2, c2, rfl⟩ := own_slice f1
    go_wp2
    go_ret2
    exact ⟨_, rfl, f1, f2⟩
end Go.Proofs.YtcgecdiaddcfkaaGreatDoor
/- The walks of the reader's methods, more: a byte, a count, a number, a text, a mark. -/
set_option linter.unusedSimpArgs false
set_option linter.unusedVariables false
namespace Go.Proofs.YtcgecdiaddcfkaaGreatDoor
open Go.RowKit

theorem takeS_len (n : Nat) (s : St) : (takeS n s).1.length ≤ n := by unfold takeS; split <;> simp; omega
theorem high1_lt (s : St) : (highS 1 s).1 < 256 := by
  have h := hiN_lt (takeS 1 s).1
  have h2 := takeS_len 1 s
  have h3 : 256 ^ (takeS 1 s).1.length ≤ 256 ^ 1 := Nat.pow_le_pow_right (by omega) h2
  show hiN (takeS 1 s).1 < 256
  omega
theorem high2_lt (s : St) : (highS 2 s).1 < 65536 := by
  have h := hiN_lt (takeS 2 s).1
  have h2 := takeS_len 2 s
  have h3 : 256 ^ (takeS 2 s).1.length ≤ 256 ^ 2 := Nat.pow_le_pow_right (by omega) h2
  show hiN (takeS 2 s).1 < 65536
  omega
theorem high4_lt (s : St) : (highS 4 s).1 < 4294967296 := by
  have h := hiN_lt (takeS 4 s).1
  have h2 := takeS_len 4 s
  have h3 : 256 ^ (takeS 4 s).1.length ≤ 256 ^ 4 := Nat.pow_le_pow_right (by omega) h2
  show hiN (takeS 4 s).1 < 4294967296
  omega

theorem conv_in {w : World} {lim : Nat} {v : Value} {bs : List UInt8} (h : InAt w lim v bs) : (convert 30 9 v).run Tryz.prog w = .ok (.string ⟨bs.toArray⟩) w := by
  obtain ⟨ao, cap, rfl, hlc, hcm, hc⟩ := h
  by_cases hl : 0 < bs.length
  · obtain ⟨b, off, rfl, hb, hcell⟩ := hc hl
    have := run_convert_bytes_arg (P := Tryz.prog) w 30 5 Tryz.underlying30 Tryz.underlying5 b off bs.length cap (bs.map fun c => (c.toNat : Int)) (by simp) (fun i hi => by
      have := hcell i hi 0 _ rfl
      simp only [Nat.add_zero, Nat.mul_one, bv] at this
      rw [this]
      simp [hi]) 9 Tryz.underlying9
    rw [this]
    have e : strOfNums (bs.map fun c => (c.toNat : Int)) = ⟨bs.toArray⟩ := by
      unfold strOfNums
      rw [List.map_map, show ((fun n : Int => UInt8.ofNat n.toNat) ∘ fun c : UInt8 => (c.toNat : Int)) = id from funext fun c => by simp, List.map_id]
    rw [e]
  · have e : bs = [] := List.eq_nil_of_length_eq_zero (by omega)
    subst e
    cases ao with
    | none => exact run_convert_bytes_nil (P := Tryz.prog) w 30 5 Tryz.underlying30 Tryz.underlying5 0 cap 9 Tryz.underlying9
    | some a =>
      show (convert 30 9 (.slice (some a) 0 cap)).run Tryz.prog w = _
      rw [run_convert_bytes_string (P := Tryz.prog) w 30 9 5 (some a) 0 cap Tryz.underlying30 Tryz.underlying5 Tryz.underlying9]
      have hl0 : (loadCells a 0).run Tryz.prog w = .ok (([] : List Int).map (Value.int .u8)).toArray w := run_loadCells_list (P := Tryz.prog) w a [] (fun j v hj => by simp at hj)
      have := run_bytesToString (P := Tryz.prog) w a 0 cap [] hl0
      rw [this]
      rfl

set_option maxHeartbeats 2000000 in
set_option maxRecDepth 1000000 in
theorem rsmall_any (w : World) (R lim : Nat) (s : St) (h : RAt w R lim s) :
    Calls Tryz.prog 139 #[ptr R] w fun e w' => e = .returned (.int .u8 ((highS 1 s).1 : Int)) ∧ RAt w' R lim (highS 1 s).2 ∧ Kept R w.heap.size w w' := by
  have k := high_any w R lim 1 s h (by omega)
  have hlt := high1_lt s
  generalize (highS 1 s).1 = x at *
  go_enter Tryz.func139, Tryz.ntmps139
  go_wp2_with fail
  refine k.mono ?_
  rintro e w1 ⟨rfl, h1, k1⟩
  clear k
  have e1 : (x : Int) % 256 = x := by omega
  go_wp2
  go_ret
  exact ⟨rfl, h1, k1⟩

set_option maxHeartbeats 2000000 in
set_option maxRecDepth 1000000 in
theorem rcount_any (w : World) (R lim : Nat) (s : St) (h : RAt w R lim s) :
    Calls Tryz.prog 168 #[ptr R] w fun e w' => e = .returned (.int .i64 ((highS 2 s).1 : Int)) ∧ RAt w' R lim (highS 2 s).2 ∧ Kept R w.heap.size w w' := by
  have k := high_any w R lim 2 s h (by omega)
  have hlt := high2_lt s
  generalize (highS 2 s).1 = x at *
  go_enter Tryz.func168, Tryz.ntmps168
  go_wp2_with fail
  refine k.mono ?_
  rintro e w1 ⟨rfl, h1, k1⟩
  clear k
  go_wp2
  go_ret
  exact ⟨rfl, h1, k1⟩

set_option maxHeartbeats 2000000 in
set_option maxRecDepth 1000000 in
theorem rnumber_any (w : World) (R lim : Nat) (s : St) (h : RAt w R lim s) :
    Calls Tryz.prog 141 #[ptr R] w fun e w' => e = .returned (.int .u32 ((highS 4 s).1 : Int)) ∧ RAt w' R lim (highS 4 s).2 ∧ Kept R w.heap.size w w' := by
  have k := high_any w R lim 4 s h (by omega)
  generalize (highS 4 s).1 = x at *
  go_enter Tryz.func141, Tryz.ntmps141
  go_wp2_with fail
  refine k.mono ?_
  rintro e w1 ⟨rfl, h1, k1⟩
  clear k
  go_wp2
  go_ret
  exact ⟨rfl, h1, k1⟩

set_option maxHeartbeats 2000000 in
set_option maxRecDepth 1000000 in
theorem rtext_any (w : World) (R lim : Nat) (s : St) (h : RAt w R lim s) :
    Calls Tryz.prog 140 #[ptr R] w fun e w' => e = .returned (.string (textS s).1) ∧ RAt w' R lim (textS s).2 ∧ Kept R w.heap.size w w' := by
  have k := rsmall_any w R lim s h
  have k2 : ∀ w1, RAt w1 R lim (highS 1 s).2 → _ := fun w1 h1 => take_any w1 R lim (highS 1 s).1 (highS 1 s).2 h1 (by have := high1_lt s; omega)
  show Calls _ _ _ _ fun e w' => e = .returned (.string ⟨(takeS (highS 1 s).1 (highS 1 s).2).1.toArray⟩) ∧ RAt w' R lim (takeS (highS 1 s).1 (highS 1 s).2).2 ∧ Kept R w.heap.size w w'
  have hlt := high1_lt s
  generalize (takeS (highS 1 s).1 (highS 1 s).2).1 = T at *
  generalize (takeS (highS 1 s).1 (highS 1 s).2).2 = s2 at *
  generalize (highS 1 s).1 = x at *
  generalize (highS 1 s).2 = s1 at *
  go_enter Tryz.func140, Tryz.ntmps140
  go_wp2_with fail
  refine k.mono ?_
  rintro e w1 ⟨rfl, h1, q1⟩
  have k3 := k2 w1 h1
  clear k k2
  go_wp2_with fail
  refine k3.mono ?_
  rintro e w2 ⟨v, rfl, hin, h2, q2⟩
  clear k3
  have hcv := conv_in hin
  have q3 := q1.trans (q2.mono q1.size)
  obtain ⟨ao, cap, rfl, -, -, -⟩ := hin
  go_wp2
  go_ret
  exact ⟨rfl, h2, q3⟩

end Go.Proofs.YtcgecdiaddcfkaaGreatDoor
/- The walk of the document's own Check of an op. -/
set_option linter.unusedSimpArgs false
set_option linter.unusedVariables false
namespace Go.Proofs.YtcgecdiaddcfkaaGreatDoor
open Go.RowKit

theorem refCheckB_any (s : ByteArray) (w : World) (hs : s.size ≤ maxLen) :
    Calls Tryz.prog 105 #[.string s] w fun e w' => e = .returned (.bool (chk s)) ∧ Below w.heap.size w w' :=
  (refCheck_any s w hs).mono fun e w' ⟨h1, h2⟩ => ⟨h1, h2 ▸ Below.refl _ _⟩

set_option maxHeartbeats 2000000 in
set_option maxRecDepth 1000000 in
theorem refCheckOp_any (w : World) (x : OpD) (hs : opSm x) :
    Calls Tryz.prog 104 #[opV x] w fun e w' => e = .returned (.bool (opOk x)) ∧ Below w.heap.size w w' := by
  rw [opOk_okN]
  obtain ⟨kind, key, to, value⟩ := x
  unfold opV
  obtain ⟨hs1, hs2⟩ := hs
  simp only at hs1 hs2 ⊢
  obtain ⟨kd, hkd⟩ : ∃ kd, kd = kind.toNat := ⟨_, rfl⟩
  obtain ⟨vl, hvl⟩ : ∃ vl, vl = value.toNat := ⟨_, rfl⟩
  rw [← hkd, ← hvl]
  clear hkd hvl
  obtain ⟨W, hW⟩ : ∃ W, W = w.alloc (.cells #[.int .u8 (kd : Int), .string key, .string to, .int .u32 (vl : Int)] 85) := ⟨_, rfl⟩
  have B0 : Below w.heap.size w W := by rw [hW]; exact (Below.refl _ _).alloc (Nat.le_refl _) _
  have Z0 : W.heap.size = w.heap.size + 1 := by rw [hW]; simp
  have a0 : W.cell? ⟨w.heap.size, 0, none⟩ = some (.int .u8 (kd : Int)) := by rw [hW]; go_simp
  have a2 : W.cell? ⟨w.heap.size, 2, none⟩ = some (.string to) := by rw [hW]; go_simp
  have a3 : W.cell? ⟨w.heap.size, 3, none⟩ = some (.int .u32 (vl : Int)) := by rw [hW]; go_simp
  have k := refCheckB_any key W hs1
  have k2 := fun w' => refCheckB_any to w' hs2
  generalize chk key = ck at *
  generalize chk to = ct at *
  have fin : ∀ w1, Below W.heap.size W w1 → Below w.heap.size w w1 ∧ w1.cell? ⟨w.heap.size, 0, none⟩ = some (.int .u8 (kd : Int)) ∧ w1.cell? ⟨w.heap.size, 2, none⟩ = some (.string to) ∧ w1.cell? ⟨w.heap.size, 3, none⟩ = some (.int .u32 (vl : Int)) ∧ w.heap.size + 1 ≤ w1.heap.size := by
    intro w1 hb
    have hz := hb.size
    exact ⟨B0.trans (hb.mono (by omega)), (hb.cell (by simp; omega)).trans a0, (hb.cell (by simp; omega)).trans a2, (hb.cell (by simp; omega)).trans a3, by omega⟩
  clear B0 Z0 a0 a2 a3
  subst hW
  by_cases hck : ck = true
  case neg =>
    rw [Bool.not_eq_true] at hck
    subst hck
    go_enter Tryz.func104, Tryz.ntmps104
    go_wp2_with fail
    refine k.mono ?_
    rintro e w1 ⟨rfl, hb⟩
    obtain ⟨b1, c0, c2, c3, z1⟩ := fin w1 hb
    clear fin k k2 hb
    go_wp2
    go_ret
    exact ⟨rfl, b1⟩
  subst hck
  by_cases h1 : kd = 1
  · subst h1
    cases hte : to.toList.isEmpty with
    | true =>
      have H : okN true 1 true ct vl = ((vl : Int) == 0) := by rw [int_eq_zero]; simp [okN]
      rw [H]; clear H
      go_enter Tryz.func104, Tryz.ntmps104
      go_wp2_with fail
      refine k.mono ?_
      rintro e w1 ⟨rfl, hb⟩
      obtain ⟨b1, c0, c2, c3, z1⟩ := fin w1 hb
      clear fin k k2 hb
      go_wp2
      go_ret
      exact ⟨rfl, b1⟩
    | false =>
      have H : okN true 1 false ct vl = false := by simp [okN]
      rw [H]; clear H
      go_enter Tryz.func104, Tryz.ntmps104
      go_wp2_with fail
      refine k.mono ?_
      rintro e w1 ⟨rfl, hb⟩
      obtain ⟨b1, c0, c2, c3, z1⟩ := fin w1 hb
      clear fin k k2 hb
      go_wp2
      go_ret
      exact ⟨rfl, b1⟩
  have n1 : ((kd : Int) == 1) = false := by rw [show (1 : Int) = ((1 : Nat) : Int) from rfl, int_eq_nat]; simpa using h1
  by_cases h3 : kd = 3
  · subst h3
    clear h1 n1
    cases hte : to.toList.isEmpty with
    | true =>
      have H : okN true 3 true ct vl = ((vl : Int) == 0) := by rw [int_eq_zero]; simp [okN]
      rw [H]; clear H
      go_enter Tryz.func104, Tryz.ntmps104
      go_wp2_with fail
      refine k.mono ?_
      rintro e w1 ⟨rfl, hb⟩
      obtain ⟨b1, c0, c2, c3, z1⟩ := fin w1 hb
      clear fin k k2 hb
      go_wp2
      go_ret
      exact ⟨rfl, b1⟩
    | false =>
      have H : okN true 3 false ct vl = false := by simp [okN]
      rw [H]; clear H
      go_enter Tryz.func104, Tryz.ntmps104
      go_wp2_with fail
      refine k.mono ?_
      rintro e w1 ⟨rfl, hb⟩
      obtain ⟨b1, c0, c2, c3, z1⟩ := fin w1 hb
      clear fin k k2 hb
      go_wp2
      go_ret
      exact ⟨rfl, b1⟩
  have n3 : ((kd : Int) == 3) = false := by rw [show (3 : Int) = ((3 : Nat) : Int) from rfl, int_eq_nat]; simpa using h3
  by_cases h2 : kd = 2
  · subst h2
    clear h1 n1 h3 n3
    have H : okN true 2 to.toList.isEmpty ct vl = to.toList.isEmpty := by simp [okN]
    rw [H]; clear H
    go_enter Tryz.func104, Tryz.ntmps104
    go_wp2_with fail
    refine k.mono ?_
    rintro e w1 ⟨rfl, hb⟩
    obtain ⟨b1, c0, c2, c3, z1⟩ := fin w1 hb
    clear fin k k2 hb
    go_wp2
    go_ret
    exact ⟨rfl, b1⟩
  have n2 : ((kd : Int) == 2) = false := by rw [show (2 : Int) = ((2 : Nat) : Int) from rfl, int_eq_nat]; simpa using h2
  by_cases h4 : kd = 4
  · subst h4
    clear h1 n1 h3 n3 h2 n2
    cases ct with
    | true =>
      have H : okN true 4 to.toList.isEmpty true vl = ((vl : Int) == 0) := by rw [int_eq_zero]; simp [okN]
      rw [H]; clear H
      go_enter Tryz.func104, Tryz.ntmps104
      go_wp2_with fail
      refine k.mono ?_
      rintro e w1 ⟨rfl, hb⟩
      obtain ⟨b1, c0, c2, c3, z1⟩ := fin w1 hb
      clear fin k hb
      go_wp2_with fail
      refine (k2 _).mono ?_
      rintro e w2 ⟨rfl, hb2⟩
      have d3 := (hb2.cell (p := ⟨w.heap.size, 3, none⟩) (by simp; omega)).trans c3
      have b2 := b1.trans (hb2.mono (by omega))
      clear k2 hb2 c0 c2 c3
      go_wp2
      go_ret
      exact ⟨rfl, b2⟩
    | false =>
      have H : okN true 4 to.toList.isEmpty false vl = false := by simp [okN]
      rw [H]; clear H
      go_enter Tryz.func104, Tryz.ntmps104
      go_wp2_with fail
      refine k.mono ?_
      rintro e w1 ⟨rfl, hb⟩
      obtain ⟨b1, c0, c2, c3, z1⟩ := fin w1 hb
      clear fin k hb
      go_wp2_with fail
      refine (k2 _).mono ?_
      rintro e w2 ⟨rfl, hb2⟩
      have d3 := (hb2.cell (p := ⟨w.heap.size, 3, none⟩) (by simp; omega)).trans c3
      have b2 := b1.trans (hb2.mono (by omega))
      clear k2 hb2 c0 c2 c3
      go_wp2
      go_ret
      exact ⟨rfl, b2⟩
  have n4 : ((kd : Int) == 4) = false := by rw [show (4 : Int) = ((4 : Nat) : Int) from rfl, int_eq_nat]; simpa using h4
  have H : okN true kd to.toList.isEmpty ct vl = false := by simp [okN, h1, h2, h3, h4]
  rw [H]; clear H
  go_enter Tryz.func104, Tryz.ntmps104
  go_wp2_with fail
  refine k.mono ?_
  rintro e w1 ⟨rfl, hb⟩
  obtain ⟨b1, c0, c2, c3, z1⟩ := fin w1 hb
  clear fin k k2 hb
  go_wp2
  go_ret
  exact ⟨rfl, b1⟩
end Go.Proofs.YtcgecdiaddcfkaaGreatDoor
