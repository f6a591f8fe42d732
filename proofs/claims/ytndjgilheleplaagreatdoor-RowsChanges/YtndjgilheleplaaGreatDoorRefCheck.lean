/- The walks of the document's own Check and Reserved, and of Beyond. -/
import Derived.Test.YtndjgilheleplaaGreatDoorKCheck
set_option linter.unusedSimpArgs false
set_option linter.unusedVariables false
namespace Go.Proofs.YtndjgilheleplaaGreatDoor
open Go.RowKit

theorem mayB_no {c : Nat} (h : mayB c = false) : c < 48 ∨ (57 < c ∧ c < 95) ∨ c = 96 ∨ 122 < c := by
  rw [Bool.eq_false_iff, Ne, mayB_iff] at h; omega

set_option maxHeartbeats 1000000 in
set_option maxRecDepth 1000000 in
theorem refCheck_any (s : ByteArray) (w : World) (hs : s.size ≤ maxLen) :
    Calls Tryz.prog 62 #[.string s] w fun e w' => e = .returned (.bool (chk s)) ∧ w' = w := by
  unfold maxLen at hs
  go_enter Tryz.func62, Tryz.ntmps62
  go_wp2
  go_loop [3, 4] (fun i _ => ∃ k : Nat, k ≤ s.size ∧ i = .int .i64 k ∧ Hid (∀ j (h : j < s.size), j < k → mayB (s[j]'h).toNat = true)) (fun i _ => s.size - (intOf i).toNat)
  case atStart => exact ⟨0, Nat.zero_le _, rfl, fun i _ hi => absurd hi (Nat.not_lt_zero _)⟩
  case round =>
    obtain ⟨k, hk, rfl, hall⟩ := hrel
    by_cases hlt : k < s.size
    · by_cases hc : mayB (s[k]'hlt).toNat = true
      · have hall2 : Hid (∀ j (h : j < s.size), j < k + 1 → mayB (s[j]'h).toNat = true) := fun j h hj => by
          by_cases e : j = k
          · subst e; exact hc
          · exact hall.out j h (by omega)
        have hcc := (mayB_iff _).mp hc
        clear hall hc
        rcases hcc with ⟨a, b⟩ | ⟨a, b⟩ | a
        all_goals
          go_wp2
          go_round
          case rel => exact ⟨k + 1, by omega, by go_num, hall2⟩
          case measure => simp [intOf]; omega
      · rw [Bool.not_eq_true] at hc
        have H := chk_bad s k hlt hc
        have hcc := mayB_no hc
        have hne : (((s[k]'hlt).toNat : Int) != 95) = true := by simp; omega
        clear hall hc
        rcases hcc with a | ⟨a, b⟩ | a | a
        all_goals
          go_wp2
          go_ret
          exact ⟨rfl, rfl⟩
    · have H : Hid (chk s = (decide (1 ≤ s.size) && decide (s.size ≤ 16))) := by
        show _ = _
        unfold chk
        rw [(all_iff s).mpr (fun i h => hall.out i h (by omega)), Bool.and_true]
      clear hall
      by_cases h1 : 1 ≤ s.size
      · by_cases h2 : s.size ≤ 16
        · go_wp2
          go_ret
          exact ⟨by rw [H.out]; simp [h1, h2]; try omega, rfl⟩
        · go_wp2
          go_ret
          exact ⟨by rw [H.out]; simp [h1, h2]; try omega, rfl⟩
      · go_wp2
        go_ret
        exact ⟨by rw [H.out]; simp [h1]; try omega, rfl⟩
end Go.Proofs.YtndjgilheleplaaGreatDoor
