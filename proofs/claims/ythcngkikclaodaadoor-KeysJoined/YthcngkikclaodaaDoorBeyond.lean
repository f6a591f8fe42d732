/- The walk of Beyond at one number: whether it is greater than 1048576. -/
import Derived.Test.YthcngkikclaodaaDoorRows
import Derived.WalkKit
import Derived.WalkSpells
import Derived.WalkLawsBesides
set_option linter.unusedSimpArgs false
set_option linter.unusedVariables false
namespace Go.Proofs.YthcngkikclaodaaDoor
open Go.RowKit

set_option maxHeartbeats 1000000 in
set_option maxRecDepth 1000000 in
theorem beyond_any (n : Int) (b : Nat) (w : World) (h0 : 0 ≤ n) (h9 : n ≤ 2 ^ 63 - 1) (hc : w.cell? ⟨b, 0, none⟩ = some (.int .i64 n)) :
    Calls Tryd.prog 8 #[.slice (some ⟨b, 0, none⟩) 1 1] w fun e w' => e = .returned (.bool (decide (1048576 < n))) ∧ w' = w := by
  by_cases hn : 1048576 < n
  · go_enter Tryd.func8, Tryd.ntmps8
    go_wp2
    refine wp_loop_rounds 1 ?_
    rw [rounds_succ]
    go_wp2
    go_ret
    exact ⟨by simp [hn], rfl⟩
  · go_enter Tryd.func8, Tryd.ntmps8
    go_wp2
    refine wp_loop_rounds 2 ?_
    rw [rounds_succ]
    go_wp2
    rw [rounds_succ]
    go_wp2
    go_ret
    exact ⟨by simp [hn], rfl⟩

theorem beyond_yes (n : Int) (w : World) (hn : 1048576 < n) (h9 : n ≤ 2 ^ 63 - 1) :
    Calls Tryd.prog 8 #[.slice (some ⟨w.heap.size, 0, none⟩) 1 1] (w.alloc (.cells #[.int .i64 n] 3)) fun e w' => e = .returned (.bool true) ∧ w' = w.alloc (.cells #[.int .i64 n] 3) := by
  have k := beyond_any n w.heap.size (w.alloc (.cells #[.int .i64 n] 3)) (by omega) h9 (by go_simp)
  rwa [show decide (1048576 < n) = true by simpa using hn] at k
theorem beyond_no (n : Int) (w : World) (h0 : 0 ≤ n) (hn : ¬ 1048576 < n) :
    Calls Tryd.prog 8 #[.slice (some ⟨w.heap.size, 0, none⟩) 1 1] (w.alloc (.cells #[.int .i64 n] 3)) fun e w' => e = .returned (.bool false) ∧ w' = w.alloc (.cells #[.int .i64 n] 3) := by
  have k := beyond_any n w.heap.size (w.alloc (.cells #[.int .i64 n] 3)) h0 (by omega) (by go_simp)
  rwa [show decide (1048576 < n) = false by simpa using hn] at k
end Go.Proofs.YthcngkikclaodaaDoor
