/- The walk of SectorsNone. -/
import Derived.Test.YtapfkoojplbfmaaDNone
import Derived.LoopTactic
set_option linter.unusedSimpArgs false
set_option linter.unusedVariables false
namespace Go.Proofs.Ytapfkoojplbfmaa
open Go.RowKit Go.Maps

set_option maxHeartbeats 4000000 in
set_option maxRecDepth 1000000 in
theorem none_any (w : World) (vb : Value) (at_ : Int) (l : List UInt8) (keep : Int) (ha : (Lit.int .i64 at_).wf = true) (hb : InAt w w.heap.size vb l) (hk : (Lit.int .u64 keep).wf = true) :
    Calls Try.prog 3 #[.int .i64 at_, vb, .int .u64 keep] w fun e w' => e = .returned (.bool true) ∧ Below w.heap.size w w' := by
  clear ha hb hk
  obtain ⟨W2, hW2⟩ : ∃ W2, Hid (W2 = (w.alloc (.cells #[.slice none 0 0, .map none, .slice none 0 0, .int .i64 0] 29)).alloc (.cells #[.pointer none, .pointer (some ⟨w.heap.size, 0, none⟩)] 24)) := ⟨_, rfl⟩
  have hB : Below w.heap.size w W2 := by rw [hW2.out]; exact ((Below.refl _ _).alloc (Nat.le_refl _) _).alloc (by simp) _
  have n0 : NoDk W2 (.pointer none) := .inl rfl
  have n1 : NoDk W2 (.pointer (some ⟨w.heap.size, 0, none⟩)) := .inr ⟨_, rfl, by
    rw [hW2.out, World.cell?_alloc_lt _ _ _ (by simp), cell_of_row _ _ _ _ _ _ (heap_alloc_last w _)]
    rfl⟩
  have q := last2 w (.cells #[.slice none 0 0, .map none, .slice none 0 0, .int .i64 0] 29) (.cells #[.pointer none, .pointer (some ⟨w.heap.size, 0, none⟩)] 24)
  rw [← hW2.out] at q
  have c0 := (pair_cell q).1
  have c1 := (pair_cell q).2
  go_enter Try.func3, Try.ntmps3
  go_wp2
  rw [← hW2.out]
  clear hW2 q
  go_loopw [8] (fun i wr => wr = W2 ∧ ∃ k : Nat, k ≤ 2 ∧ i = .int .i64 k) (fun i _ => 2 - (intOf i).toNat)
  case atStart => exact ⟨rfl, 0, by omega, rfl⟩
  case round =>
    obtain ⟨rfl, k, hk, rfl⟩ := hrel
    match k, hk with
    | 0, _ =>
      go_wp2_with (first
        | (go_at_call 8; refine (read_no n0 _).mono ?_; rintro e w' ⟨rfl, rfl⟩)
        | (go_at_call 9; refine (fail_no n0 _ _).mono ?_; rintro e w' ⟨rfl, rfl⟩)
        | (go_at_call 10; refine (write_no n0 _ _).mono ?_; rintro e w' ⟨rfl, rfl⟩)
        | (go_at_call 11; refine (sync_no n0).mono ?_; rintro e w' ⟨rfl, rfl⟩)
        | (go_at_call 12; refine (size_no n0).mono ?_; rintro e w' ⟨rfl, rfl⟩)
        | (go_at_call 13; refine (waits_no n0).mono ?_; rintro e w' ⟨rfl, rfl⟩))
      go_roundw
      case rel => exact ⟨trivial, 1, by omega, by go_num⟩
      case measure => simp [intOf]
    | 1, _ =>
      go_wp2_with (first
        | (go_at_call 8; refine (read_no n1 _).mono ?_; rintro e w' ⟨rfl, rfl⟩)
        | (go_at_call 9; refine (fail_no n1 _ _).mono ?_; rintro e w' ⟨rfl, rfl⟩)
        | (go_at_call 10; refine (write_no n1 _ _).mono ?_; rintro e w' ⟨rfl, rfl⟩)
        | (go_at_call 11; refine (sync_no n1).mono ?_; rintro e w' ⟨rfl, rfl⟩)
        | (go_at_call 12; refine (size_no n1).mono ?_; rintro e w' ⟨rfl, rfl⟩)
        | (go_at_call 13; refine (waits_no n1).mono ?_; rintro e w' ⟨rfl, rfl⟩))
      go_roundw
      case rel => exact ⟨trivial, 2, by omega, by go_num⟩
      case measure => simp [intOf]
    | 2, _ =>
      go_wp2
      go_ret
      exact ⟨rfl, hB⟩
    | k + 3, h => omega
end Go.Proofs.Ytapfkoojplbfmaa
