/- The walk of whatBytesDo: the table of what bytes do. -/
import Derived.Test.YtjaidhglemnakaaSFill
import Derived.Deep.WholeRow
set_option linter.unusedSimpArgs false
set_option linter.unusedVariables false
namespace Go.Proofs.Ytjaidhglemnakaa
open Go.RowKit

/-- What the byte i does. -/
def tcell (i : Nat) : Value := .int .u32 (uv (mvN 8 (BitVec.ofNat 32 i)))
/-- The table, filled up to k. -/
def tabs (k : Nat) : Array Value := Array.ofFn (n := 256) fun i => if i.val < k then tcell i.val else .int .u32 0
theorem tabs_size (k : Nat) : (tabs k).size = 256 := by simp [tabs]
theorem tabs_get (k i : Nat) (h : i < 256) : (tabs k)[i]? = some (if i < k then tcell i else .int .u32 0) := by
  unfold tabs
  rw [Array.getElem?_ofFn]
  simp [h]
theorem tabs_set (k : Nat) (h : k < 256) : (tabs k).setIfInBounds k (tcell k) = tabs (k + 1) := by
  apply Array.ext_getElem?
  intro i
  by_cases hi : i < 256
  · rw [tabs_get _ _ hi, Array.getElem?_setIfInBounds, tabs_size]
    by_cases e : k = i
    · subst e; simp [h]
    · rw [if_neg e, tabs_get _ _ hi]
      by_cases h2 : i < k
      · simp [h2, show i < k + 1 by omega]
      · simp [h2, show ¬ i < k + 1 by omega]
  · rw [Array.getElem?_eq_none (by rw [Array.size_setIfInBounds, tabs_size]; omega), Array.getElem?_eq_none (by rw [tabs_size]; omega)]
theorem tabs_one (k : Nat) : (tabs k).all (·.oneCell') = true := by
  rw [Array.all_eq_true_iff_forall_mem]
  intro v hv
  unfold tabs at hv
  obtain ⟨i, rfl⟩ := Array.mem_ofFn.1 hv
  split <;> rfl
set_option maxRecDepth 1000000 in
theorem info39 : (Try.prog.info? 103).map (fun i => (i.zero, i.size)) = some (some (.agg (Array.replicate 256 (.int .u32 0))), 256) := by kernel_rfl
theorem tabs_zero : tabs 0 = Array.replicate 256 (.int .u32 0) := by
  apply Array.ext_getElem?
  intro i
  by_cases hi : i < 256
  · rw [tabs_get _ _ hi]; simp [hi]
  · rw [Array.getElem?_eq_none (by rw [tabs_size]; omega), Array.getElem?_eq_none (by simp; omega)]

set_option maxHeartbeats 1000000 in
set_option maxRecDepth 1000000 in
theorem tab_any (w : World) : Calls Try.prog 55 #[] w fun e w' => e = .returned (.agg (tabs 256)) ∧ Below w.heap.size w w' := by
  have hmf : ∀ (fn : Fn) (first cap : Array Value) (w : World), (Instr.makeFunc fn first cap).run Try.prog w = .ok (.func fn first cap) w := fun _ _ _ _ => rfl
  have hz : ∀ w, (zeroValue 103).run Try.prog w = .ok (.agg (tabs 0)) w := by rw [tabs_zero]; exact (zero_of_info info39).1
  have hi : (Try.prog.info? 103).map (·.size) = some (tabs 256).size := by rw [tabs_size]; exact (zero_of_info info39).2
  have hcz : (Value.agg (tabs 0)).cells = tabs 0 := rfl
  go_enter Try.func55, Try.ntmps55
  go_wp2
  go_loopw [5] (fun i wr => ∃ k : Nat, k ≤ 256 ∧ i = .int .i64 k ∧ wr.heap[w.heap.size + 1]? = some (.cells (tabs k) 103 (0, 0)) ∧ wr.heap[w.heap.size]? = some (.cells (tabs 0) 103 (0, 0)) ∧ Below w.heap.size w wr) (fun i _ => 256 - (intOf i).toNat)
  case atStart =>
    refine ⟨0, by omega, rfl, ?_, ?_, ((Below.refl _ _).alloc (Nat.le_refl _) _).alloc (by simp) _⟩
    · have := heap_alloc_last (w.alloc (.cells (tabs 0) 103)) (.cells (tabs 0) 103)
      simpa using this
    · rw [Below.heap_alloc _ _ _ (by simp)]
      exact heap_alloc_last _ _
  case round =>
    obtain ⟨k, hk, rfl, hT, hR, hb⟩ := hrel
    by_cases h1 : k < 256
    · have i1 : (k : Int) < 256 := by omega
      have kf := fill_any wr (w.heap.size + 1) k (tabs k) h1 hT (tabs_size k)
      go_wp2_with (go_at_call 56; refine kf.mono ?_; rintro e w' ⟨rfl, rfl⟩)
      go_roundw
      case rel =>
        refine ⟨k + 1, by omega, by go_num, ?_, ?_, hb.setCell (by simp) _⟩
        · have := heap_setCell_same wr (w.heap.size + 1) k _ _ (tcell k) hT
          rw [tabs_set k h1] at this
          exact this
        · rw [Below.heap_setCell _ _ _ _ (by simp)]; exact hR
      case measure => simp [intOf]; omega
    · obtain rfl : k = 256 := by omega
      have hS : (wr.setRow w.heap.size (tabs 256)).heap[w.heap.size]? = some (.cells (tabs 256) 103 (0, 0)) := setRow_heap wr _ _ _ _ _ hR
      have hB : Below w.heap.size w (wr.setRow w.heap.size (tabs 256)) := ⟨hb.os, hb.tape, hb.output, by have := hb.size; simpa using this, fun j hj => by rw [setRow_other _ _ _ _ (by omega)]; exact hb.block j hj⟩
      clear hz hcz hmf
      go_wp2_with (first | refine wpList_load_row rfl 103 (.tmp 1) rfl (w.heap.size + 1) rfl 103 (tabs 256) (0, 0) _ hT Try.underlying103 rfl hi ?_ | refine wpList_store_row rfl 103 (.tmp 0) (.tmp 12) rfl w.heap.size (tabs 256) rfl rfl 103 (tabs 0) hR hi (by rw [tabs_size, tabs_size]) (tabs_one 256) ?_)
      refine bodyPost_ret (v := .agg (tabs 256)) ?_ rfl ⟨rfl, hB⟩
      exact results_cell_row Try.results55 _ _ w.heap.size _ _ (0, 0) _ rfl hS Try.underlying103 rfl hi
end Go.Proofs.Ytjaidhglemnakaa
