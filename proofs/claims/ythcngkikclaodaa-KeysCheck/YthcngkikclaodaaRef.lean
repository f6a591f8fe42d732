/- The walks of the document's own Check and Reserved, and of Beyond. -/
import Derived.Test.YthcngkikclaodaaCheck
set_option linter.unusedSimpArgs false
set_option linter.unusedVariables false
namespace Go.Proofs.Ythcngkikclaodaa
open Go.RowKit

theorem mayB_no {c : Nat} (h : mayB c = false) : c < 48 ∨ (57 < c ∧ c < 95) ∨ c = 96 ∨ 122 < c := by
  rw [Bool.eq_false_iff, Ne, mayB_iff] at h; omega

set_option maxHeartbeats 1000000 in
set_option maxRecDepth 1000000 in
theorem refCheck_any (s : ByteArray) (w : World) (hs : s.size ≤ maxLen) :
    Calls Try.prog 6 #[.string s] w fun e w' => e = .returned (.bool (chk s)) ∧ w' = w := by
  unfold maxLen at hs
  go_enter Try.func6, Try.ntmps6
  go_wp2
  go_loop [3, 4] (fun i _ => ∃ k : Nat, k ≤ s.size ∧ i = .int .i64 k ∧ Hid (∀ j (h : j < s.size), j < k → mayB (s[j]'h).toNat = true)) (fun i _ => s.size - (intOf i).toNat)
  case atStart => exact ⟨0, Nat.zero_le _, rfl, fun i _ hi => absurd hi (Nat.not_lt_zero _)⟩
  case round =>
    obtain ⟨k, hk, rfl, hall⟩ := hrel
    by_cases hlt : k < s.size
    · by_cases hc : mayB (s[k]'hlt).toNat = true
      · have hall2 : Hid (∀ j (h : j < s.size), j < k + 1 → mayB (s[j]'h).toNat = true) := fun j h hj => by
          by_cases e : j = k
          · subst e; exact hc
          · exact hall.out j h (by omega)
        have hcc := (mayB_iff _).mp hc
        clear hall hc
        rcases hcc with ⟨a, b⟩ | ⟨a, b⟩ | a
        all_goals
          go_wp2
          go_round
          case rel => exact ⟨k + 1, by omega, by go_num, hall2⟩
          case measure => simp [intOf]; omega
      · rw [Bool.not_eq_true] at hc
        have H := chk_bad s k hlt hc
        have hcc := mayB_no hc
        have hne : (((s[k]'hlt).toNat : Int) != 95) = true := by simp; omega
        clear hall hc
        rcases hcc with a | ⟨a, b⟩ | a | a
        all_goals
          go_wp2
          go_ret
          exact ⟨rfl, rfl⟩
    · have H : Hid (chk s = (decide (1 ≤ s.size) && decide (s.size ≤ 16))) := by
        show _ = _
        unfold chk
        rw [(all_iff s).mpr (fun i h => hall.out i h (by omega)), Bool.and_true]
      clear hall
      by_cases h1 : 1 ≤ s.size
      · by_cases h2 : s.size ≤ 16
        · go_wp2
          go_ret
          exact ⟨by rw [H.out]; simp [h1, h2]; try omega, rfl⟩
        · go_wp2
          go_ret
          exact ⟨by rw [H.out]; simp [h1, h2]; try omega, rfl⟩
      · go_wp2
        go_ret
        exact ⟨by rw [H.out]; simp [h1]; try omega, rfl⟩

set_option maxHeartbeats 1000000 in
set_option maxRecDepth 1000000 in
theorem refReserved_any (s : ByteArray) (w : World) (hs : s.size ≤ maxLen) :
    Calls Try.prog 8 #[.string s] w fun e w' => e = .returned (.bool (rsv s)) ∧ w' = w := by
  have k := refCheck_any s w hs
  unfold maxLen at hs
  by_cases h : chk s = true
  · have h0 : 0 < s.size := by have := ((chk_iff s).mp h).1; omega
    have H := rsv_yes h h0
    rw [h] at k
    rw [H]
    clear h H
    go_enter Try.func8, Try.ntmps8
    go_wp2_with fail
    refine k.mono ?_
    rintro e w' ⟨rfl, rfl⟩
    go_wp2
    go_ret
    exact ⟨rfl, rfl⟩
  · rw [Bool.not_eq_true] at h
    rw [h] at k
    rw [rsv_no h]
    clear h
    go_enter Try.func8, Try.ntmps8
    go_wp2_with fail
    refine k.mono ?_
    rintro e w' ⟨rfl, rfl⟩
    go_wp2
    go_ret
    exact ⟨rfl, rfl⟩

set_option maxHeartbeats 1000000 in
set_option maxRecDepth 1000000 in
theorem beyond_any (n : Int) (b : Nat) (w : World) (h0 : 0 ≤ n) (h9 : n ≤ 2 ^ 63 - 1) (hc : w.cell? ⟨b, 0, none⟩ = some (.int .i64 n)) :
    Calls Try.prog 4 #[.slice (some ⟨b, 0, none⟩) 1 1] w fun e w' => e = .returned (.bool (decide (1048576 < n))) ∧ w' = w := by
  by_cases hn : 1048576 < n
  · go_enter Try.func4, Try.ntmps4
    go_wp2
    refine wp_loop_rounds 1 ?_
    rw [rounds_succ]
    go_wp2
    go_ret
    exact ⟨by simp [hn], rfl⟩
  · go_enter Try.func4, Try.ntmps4
    go_wp2
    refine wp_loop_rounds 2 ?_
    rw [rounds_succ]
    go_wp2
    rw [rounds_succ]
    go_wp2
    go_ret
    exact ⟨by simp [hn], rfl⟩
end Go.Proofs.Ythcngkikclaodaa
