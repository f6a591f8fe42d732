/- Whether bytes have another one than 0: the walk of slices.ContainsFunc. -/
import Derived.Test.YtjaidhglemnakaaGBase
set_option linter.unusedSimpArgs false
set_option linter.unusedVariables false
namespace Go.Proofs.Ytjaidhglemnakaa
open Go.RowKit

theorem other_ok (w : World) (c : UInt8) : Calls Try.prog 44 #[bv c] w fun e w' => e = .returned (.bool (!(c == 0))) ∧ w = w' := by
  unfold bv
  go_enter Try.func44, Try.ntmps44
  go_wp2
  go_ret
  refine ⟨?_, rfl⟩
  by_cases h : c = 0
  · subst h; rfl
  · have h1 : (c.toNat : Int) ≠ 0 := by
      intro e
      exact h (UInt8.toNat_inj.1 (by have : c.toNat = 0 := by omega
                                     simpa using this))
    have h2 : (c == 0) = false := by simpa using h
    rw [h2]
    have h3 : ¬ c.toNat = 0 := by omega
    simp [h3]
set_option maxHeartbeats 2000000 in
set_option maxRecDepth 1000000 in
theorem index_ok (w : World) (lim : Nat) (v : Value) (l : List UInt8) (hl : InAt w lim v l) :
    Calls Try.prog 50 #[v, .func (.func 44) #[] #[]] w fun e w' => (∃ z : Int, e = .returned (.int .i64 z) ∧ decide (0 ≤ z) = !(l.all (· == 0))) ∧ w = w' := by
  obtain ⟨ao, ca, rfl, ha1, ha2, ha3⟩ := hl
  unfold maxLen at ha2
  have kx := other_ok w
  go_enter Try.func50, Try.ntmps50
  go_wp2
  go_loopw [8] (fun i wr => ∃ k : Nat, k ≤ l.length ∧ i = .int .i64 k ∧ (l.take k).all (· == 0) = true ∧ w = wr) (fun i _ => l.length - (intOf i).toNat)
  case atStart => exact ⟨0, by omega, rfl, by simp, rfl⟩
  case round =>
    obtain ⟨k, hk, rfl, hz, rfl⟩ := hrel
    by_cases h1 : k < l.length
    · obtain ⟨b1, o1, rfl, hl1, hc1⟩ := ha3 (by omega)
      obtain ⟨x, hx⟩ : ∃ x, x = l[k]'h1 := ⟨_, rfl⟩
      have p0 := hc1 k h1 0 (bv x) (by rw [← hx]; rfl)
      simp only [Nat.add_zero, Nat.mul_one] at p0
      have i1 : (k : Int) < (l.length : Int) := by omega
      have hsucc : l.take (k + 1) = l.take k ++ [x] := by rw [List.take_succ_eq_append_getElem h1, ← hx]
      have hall : x ≠ 0 → l.all (· == 0) = false := by
        intro hne
        rw [List.all_eq_false]
        exact ⟨x, by rw [hx]; exact List.getElem_mem h1, by simpa using hne⟩
      by_cases h0 : x = 0
      · have hz2 : (l.take (k + 1)).all (· == 0) = true := by rw [hsucc, List.all_append, hz, h0]; rfl
        have hzH : Hid ((l.take (k + 1)).all (· == 0) = true) := hz2
        have kx0 := kx x
        rw [show (!(x == 0)) = false by rw [h0]; rfl] at kx0
        clear hx ha3 hc1 hsucc hall hz hz2 h0 kx
        go_wp2_with fail
        refine kx0.mono ?_
        rintro e w' ⟨rfl, rfl⟩
        go_wp2
        go_roundw
        case rel => exact ⟨k + 1, by omega, by go_num, hzH.out, trivial⟩
        case measure => simp [intOf]; omega
      · have hf := hall h0
        have hfH : Hid (l.all (· == 0) = false) := hf
        have kx0 := kx x
        rw [show (!(x == 0)) = true by simpa using h0] at kx0
        clear hx ha3 hc1 hsucc hall hz h0 kx hf
        go_wp2_with fail
        refine kx0.mono ?_
        rintro e w' ⟨rfl, rfl⟩
        go_wp2
        go_ret
        exact ⟨⟨_, rfl, by rw [hfH.out]; simp⟩, rfl⟩
    · have hz' : l.all (· == 0) = true := by rw [List.take_of_length_le (by omega)] at hz; exact hz
      have hzH : Hid (l.all (· == 0) = true) := hz'
      clear ha3 hz hz' kx
      go_wp2
      go_ret
      exact ⟨⟨_, rfl, by rw [hzH.out]; decide⟩, rfl⟩
theorem contains_ok (w : World) (lim : Nat) (v : Value) (l : List UInt8) (hl : InAt w lim v l) :
    Calls Try.prog 43 #[v, .func (.func 44) #[] #[]] w fun e w' => e = .returned (.bool (!(l.all (· == 0)))) ∧ w = w' := by
  have ki := index_ok w lim v l hl
  obtain ⟨ao, ca, rfl, -⟩ := hl
  generalize (!(l.all (· == 0))) = r at *
  go_enter Try.func43, Try.ntmps43
  go_wp2_with fail
  refine ki.mono ?_
  rintro e w' ⟨⟨z, rfl, hz⟩, rfl⟩
  subst hz
  go_wp2
  go_ret
  exact ⟨rfl, rfl⟩
end Go.Proofs.Ytjaidhglemnakaa
