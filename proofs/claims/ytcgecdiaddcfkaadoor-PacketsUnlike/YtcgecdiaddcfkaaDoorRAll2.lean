/- The walks of the functions that ask something of each one of a list. -/
import Derived.Test.YtcgecdiaddcfkaaDoorRAll
set_option linter.unusedSimpArgs false
set_option linter.unusedVariables false
namespace Go.Proofs.YtcgecdiaddcfkaaDoor
open Go.RowKit

theorem all_take_succ {α : Type} (l : List α) (p : α → Bool) (k : Nat) (hk : k < l.length) (h : (l.take k).all p = true) (hp : p (l[k]'hk) = true) : (l.take (k + 1)).all p = true := by
  rw [List.take_succ_eq_append_getElem hk, List.all_append, h]; simp [hp]
theorem all_get_false {α : Type} (l : List α) (p : α → Bool) (k : Nat) (hk : k < l.length) (hp : p (l[k]'hk) = false) : l.all p = false := by
  rw [Bool.eq_false_iff, Ne, List.all_eq_true]
  intro h
  rw [h _ (List.getElem_mem hk)] at hp; cases hp
theorem chOk_parts (key : ByteArray) (value : UInt32) (gone : Bool) : chOk ⟨key, value, gone⟩ = (chk key && (!gone || ((value.toNat : Int) == 0))) := by
  rw [int_eq_zero]; rfl

set_option maxHeartbeats 2000000 in
set_option maxRecDepth 1000000 in
theorem checkRow_any (w : World) (x : RowD) (hs : rowSm x) :
    Calls Tryd.prog 57 #[rowV x] w fun e w' => e = .returned (.bool (rowOk x)) ∧ Below w.heap.size w w' := by
  obtain ⟨key, value⟩ := x
  have hs1 : key.size ≤ maxLen := hs
  unfold rowV rowOk
  simp only
  obtain ⟨W, hW⟩ : ∃ W, W = w.alloc (.cells #[.string key, .int .u32 (value.toNat : Int)] 78) := ⟨_, rfl⟩
  have B0 : Below w.heap.size w W := by rw [hW]; exact (Below.refl _ _).alloc (Nat.le_refl _) _
  have Z0 : W.heap.size = w.heap.size + 1 := by rw [hW]; simp
  have k := check_any key W hs1
  have fin : ∀ w1, Below W.heap.size W w1 → Below w.heap.size w w1 := fun w1 hb => B0.trans (hb.mono (by omega))
  clear B0 Z0
  subst hW
  go_enter Tryd.func57, Tryd.ntmps57
  go_wp2_with fail
  refine k.mono ?_
  rintro e w1 ⟨rfl, hb⟩
  have b1 := fin w1 hb
  clear fin k hb
  go_wp2
  go_ret
  exact ⟨rfl, b1⟩

set_option maxHeartbeats 2000000 in
set_option maxRecDepth 1000000 in
theorem allOp_any (w : World) (v : Value) (l : List OpD) (h : SlAt 4 opCells w w.heap.size v l) (hsm : ∀ x ∈ l, opSm x) :
    Calls Tryd.prog 29 #[v, .func (.func 30) #[] #[]] w fun e w' => e = .returned (.bool (l.all opOk)) ∧ Below w.heap.size w w' := by
  obtain ⟨ao, cap, rfl, hlc, hcm, hc⟩ := h
  unfold maxLen at hcm
  go_enter Tryd.func29, Tryd.ntmps29
  go_wp2
  go_loopw [6, 9] (fun _ i wr => ∃ k : Nat, k ≤ l.length ∧ i = .int .i64 k ∧ Below w.heap.size w wr ∧ Hid ((l.take k).all opOk = true)) (fun _ i _ => l.length - (intOf i).toNat)
  case atStart => exact ⟨0, Nat.zero_le _, rfl, Below.refl _ _, rfl⟩
  case round =>
    obtain ⟨k, hk, rfl, hb, hall⟩ := hrel
    by_cases hlt : k < l.length
    · obtain ⟨b, off, rfl, hbl, hcell⟩ := hc (by omega)
      have hz := hb.size
      obtain ⟨x, hx⟩ : ∃ x, x = l[k]'hlt := ⟨_, rfl⟩
      have cc : ∀ j u, (opCells x)[j]? = some u → wr.cell? ⟨b, off + k * 4 + j, none⟩ = some u := fun j u hu => (hb.cell hbl).trans (hcell k hlt j u (by rw [← hx]; exact hu))
      have c0 := cc 0 _ rfl
      have c1 := cc 1 _ rfl
      have c2 := cc 2 _ rfl
      have c3 := cc 3 _ rfl
      have kc := fun w' => rcheck_any w' x (hsm x (by rw [hx]; exact List.getElem_mem _))
      have HX : Hid (x = _) := hx
      clear cc hx hcell hc
      simp only [Nat.add_zero, Nat.mul_one] at c0
      obtain ⟨W, hW⟩ : ∃ W, W = wr.alloc (.cells #[.int .u8 (x.kind.toNat : Int), .string x.key, .string x.to, .int .u32 (x.value.toNat : Int)] 49) := ⟨_, rfl⟩
      have bW : Below w.heap.size w W := by rw [hW]; exact hb.alloc hz _
      have kW := kc W
      have fin : ∀ w1, Below W.heap.size W w1 → Below w.heap.size w w1 := fun w1 h1 => bW.trans (h1.mono bW.size)
      clear kc bW
      subst hW
      cases hok : opOk x with
      | true =>
        rw [hok] at kW
        have hall2 : Hid ((l.take (k + 1)).all opOk = true) := all_take_succ l _ k hlt hall.out (by rw [← HX.out]; exact hok)
        clear hok
        go_wp2_with fail
        refine kW.mono ?_
        rintro e w1 ⟨rfl, h1⟩
        have b1 := fin w1 h1
        clear fin h1 kW
        go_wp2
        go_roundw
        case rel => exact ⟨k + 1, by omega, by go_num, b1, hall2⟩
        case measure => simp [intOf]; omega
      | false =>
        rw [hok] at kW
        have H : Hid (l.all opOk = false) := all_get_false l _ k hlt (by rw [← HX.out]; exact hok)
        clear hok
        go_wp2_with fail
        refine kW.mono ?_
        rintro e w1 ⟨rfl, h1⟩
        have b1 := fin w1 h1
        clear fin h1 kW
        go_wp2
        go_ret
        exact ⟨by rw [H.out]; rfl, b1⟩
    · have H : Hid (l.all opOk = true) := by
        have e : l.take k = l := List.take_of_length_le (by omega)
        have h := hall.out
        rw [e] at h
        exact h
      clear hc
      go_wp2
      go_ret
      exact ⟨by rw [H.out]; rfl, hb⟩

set_option maxHeartbeats 2000000 in
set_option maxRecDepth 1000000 in
theorem allRow_any (w : World) (v : Value) (l : List RowD) (h : SlAt 2 rowCells w w.heap.size v l) (hsm : ∀ x ∈ l, rowSm x) :
    Calls Tryd.prog 62 #[v, .func (.func 57) #[] #[]] w fun e w' => e = .returned (.bool (l.all rowOk)) ∧ Below w.heap.size w w' := by
  obtain ⟨ao, cap, rfl, hlc, hcm, hc⟩ := h
  unfold maxLen at hcm
  go_enter Tryd.func62, Tryd.ntmps62
  go_wp2
  go_loopw [6, 9] (fun _ i wr => ∃ k : Nat, k ≤ l.length ∧ i = .int .i64 k ∧ Below w.heap.size w wr ∧ Hid ((l.take k).all rowOk = true)) (fun _ i _ => l.length - (intOf i).toNat)
  case atStart => exact ⟨0, Nat.zero_le _, rfl, Below.refl _ _, rfl⟩
  case round =>
    obtain ⟨k, hk, rfl, hb, hall⟩ := hrel
    by_cases hlt : k < l.length
    · obtain ⟨b, off, rfl, hbl, hcell⟩ := hc (by omega)
      have hz := hb.size
      obtain ⟨x, hx⟩ : ∃ x, x = l[k]'hlt := ⟨_, rfl⟩
      have cc : ∀ j u, (rowCells x)[j]? = some u → wr.cell? ⟨b, off + k * 2 + j, none⟩ = some u := fun j u hu => (hb.cell hbl).trans (hcell k hlt j u (by rw [← hx]; exact hu))
      have c0 := cc 0 _ rfl
      have c1 := cc 1 _ rfl
      have kc := fun w' => checkRow_any w' x (hsm x (by rw [hx]; exact List.getElem_mem _))
      have HX : Hid (x = _) := hx
      clear cc hx hcell hc
      simp only [Nat.add_zero, Nat.mul_one] at c0
      obtain ⟨W, hW⟩ : ∃ W, W = wr.alloc (.cells #[.string x.key, .int .u32 (x.value.toNat : Int)] 78) := ⟨_, rfl⟩
      have bW : Below w.heap.size w W := by rw [hW]; exact hb.alloc hz _
      have kW := kc W
      have fin : ∀ w1, Below W.heap.size W w1 → Below w.heap.size w w1 := fun w1 h1 => bW.trans (h1.mono bW.size)
      clear kc bW
      subst hW
      cases hok : rowOk x with
      | true =>
        rw [hok] at kW
        have hall2 : Hid ((l.take (k + 1)).all rowOk = true) := all_take_succ l _ k hlt hall.out (by rw [← HX.out]; exact hok)
        clear hok
        go_wp2_with fail
        refine kW.mono ?_
        rintro e w1 ⟨rfl, h1⟩
        have b1 := fin w1 h1
        clear fin h1 kW
        go_wp2
        go_roundw
        case rel => exact ⟨k + 1, by omega, by go_num, b1, hall2⟩
        case measure => simp [intOf]; omega
      | false =>
        rw [hok] at kW
        have H : Hid (l.all rowOk = false) := all_get_false l _ k hlt (by rw [← HX.out]; exact hok)
        clear hok
        go_wp2_with fail
        refine kW.mono ?_
        rintro e w1 ⟨rfl, h1⟩
        have b1 := fin w1 h1
        clear fin h1 kW
        go_wp2
        go_ret
        exact ⟨by rw [H.out]; rfl, b1⟩
    · have H : Hid (l.all rowOk = true) := by
        have e : l.take k = l := List.take_of_length_le (by omega)
        have h := hall.out
        rw [e] at h
        exact h
      clear hc
      go_wp2
      go_ret
      exact ⟨by rw [H.out]; rfl, hb⟩
end Go.Proofs.YtcgecdiaddcfkaaDoor
