/- The walk of SameIds; who is told, by what is known of it. -/
import Derived.Test.YtboinccdnaddmaaGreatDoorCkTick
import Derived.Deep.QuietTactic
set_option linter.unusedSimpArgs false
set_option linter.unusedVariables false
set_option maxRecDepth 1000000
namespace Go.Proofs.YtboinccdnaddmaaGreatDoor
open Go.RowKit Go.Maps

theorem asc_ext {xs ys : List Nat} (hx : xs.Pairwise (· < ·)) (hy : ys.Pairwise (· < ·)) (h : ∀ x, x ∈ xs ↔ x ∈ ys) : xs = ys := by
  have nx : xs.Nodup := by unfold List.Nodup; exact hx.imp (fun h => Nat.ne_of_lt h)
  have ny : ys.Nodup := by unfold List.Nodup; exact hy.imp (fun h => Nat.ne_of_lt h)
  exact List.Perm.eq_of_pairwise (le := (· < ·)) (fun a b _ _ h1 h2 => absurd h2 (by omega)) hx hy ((List.perm_ext_iff_of_nodup nx ny).2 h)
def u32c (x : Nat) : List Value := [u32V x]
theorem u32c_len (x : Nat) : (u32c x).length = 1 := rfl
theorem flat_u32 (xs : List Nat) : xs.flatMap u32c = xs.map u32V := by
  induction xs with
  | nil => rfl
  | cons x xs ih => rw [List.flatMap_cons, ih]; rfl
/-- A list of ids that lies in memory. -/
abbrev IdsAt (w : World) (v : Value) (xs : List Nat) : Prop := SlAt 1 u32c w w.heap.size v xs
theorem ids_row {w : World} {base : Nat} {v : Value} {xs : List Nat} (h : w.ownsRow base 43 1 v xs.length (xs.map u32V)) : IdsAt w v xs :=
  sl_own u32c_len (by rw [flat_u32]; exact h)
set_option maxHeartbeats 2000000 in
set_option maxRecDepth 1000000 in
theorem sameIds_ok (w : World) (va vb : Value) (xs ys : List Nat) (ha : IdsAt w va xs) (hb : IdsAt w vb ys) :
    Calls Tryz.prog 10 #[va, vb] w fun e w' => e = .returned (.bool (decide (xs = ys))) ∧ ∃ n, w' = w.drewN n := by
  obtain ⟨ao, ca, rfl, ha1, ha2, ha3⟩ := ha
  obtain ⟨bo, cb, rfl, hb1, hb2, hb3⟩ := hb
  unfold maxLen at ha2 hb2
  by_cases hl : xs.length = ys.length
  · have HL : Hid (xs.length = ys.length) := hl
    rw [← hl]
    have hb3' : 0 < xs.length → _ := fun h => hb3 (by omega)
    have hb1' : xs.length ≤ cb := by omega
    clear hl hb3 hb1
    go_enter Tryz.func10, Tryz.ntmps10
    go_wp2
    go_loopw [5] (fun i wr => ∃ k n : Nat, k ≤ xs.length ∧ i = .int .i64 k ∧ xs.take k = ys.take k ∧ wr = w.drewN n) (fun i _ => xs.length - (intOf i).toNat)
    case atStart => exact ⟨0, 0, by omega, rfl, by simp, rfl⟩
    case round =>
      obtain ⟨k, n, hk, rfl, ht, rfl⟩ := hrel
      by_cases h1 : k < xs.length
      · have h2 : k < ys.length := by rw [← HL.out]; exact h1
        obtain ⟨b1, o1, rfl, hl1, hc1⟩ := ha3 (by omega)
        obtain ⟨b2, o2, rfl, hl2, hc2⟩ := hb3' (by omega)
        obtain ⟨x, hx⟩ : ∃ x, x = xs[k]'h1 := ⟨_, rfl⟩
        obtain ⟨y, hy⟩ : ∃ y, y = ys[k]'h2 := ⟨_, rfl⟩
        have p0 := hc1 k h1 0 (u32V x) (by rw [← hx]; rfl)
        have q0 := hc2 k h2 0 (u32V y) (by rw [← hy]; rfl)
        simp only [Nat.add_zero, Nat.mul_one] at p0 q0
        have HT : Hid (xs.take k = ys.take k) := ht
        have HX : Hid (xs[k]? = some x ∧ ys[k]? = some y) := ⟨by rw [hx]; exact List.getElem?_eq_getElem h1, by rw [hy]; exact List.getElem?_eq_getElem h2⟩
        clear hx hy hc1 hc2 ha3 hb3' ht h2
        have i1 : (k : Int) < (xs.length : Int) := by omega
        by_cases hxy : x = y
        · subst hxy
          go_wp2
          go_quiet (fail)
          go_wp2
          go_roundw
          case rel => exact ⟨k + 1, _, by omega, by go_num, by rw [List.take_add_one, List.take_add_one, HT.out, HX.out.1, HX.out.2], rfl⟩
          case measure => simp [intOf]; omega
        · have hne : ((x : Int) == (y : Int)) = false := by simpa using (by omega : ¬ (x : Int) = (y : Int))
          have HE : Hid (decide (xs = ys) = false) := decide_eq_false (fun e => hxy (by have h := HX.out; rw [e] at h; exact Option.some.inj (h.1.symm.trans h.2)))
          go_wp2
          go_quiet (fail)
          go_wp2
          go_ret
          exact ⟨by rw [HE.out]; rfl, n + nq, by simp [World.drewN, Nat.add_assoc]⟩
      · have HE : Hid (decide (xs = ys) = true) := by
          refine decide_eq_true ?_
          have := ht
          rwa [List.take_of_length_le (by omega), List.take_of_length_le (by rw [← HL.out]; omega)] at this
        clear ha3 hb3' ht
        go_wp2
        go_ret
        exact ⟨by rw [HE.out]; rfl, n, rfl⟩
  · have HE : Hid (decide (xs = ys) = false) := decide_eq_false (fun e => hl (by rw [e]))
    have hlz : ((xs.length : Int) == (ys.length : Int)) = false := by simpa using (by omega : ¬ (xs.length : Int) = (ys.length : Int))
    clear ha3 hb3
    go_enter Tryz.func10, Tryz.ntmps10
    go_wp2
    go_ret
    exact ⟨by rw [HE.out]; rfl, 0, rfl⟩
end Go.Proofs.YtboinccdnaddmaaGreatDoor
