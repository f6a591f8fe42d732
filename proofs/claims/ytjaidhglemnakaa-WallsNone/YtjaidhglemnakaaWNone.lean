/- The walk of WallsNone: a log that is not there. -/
import Derived.Test.YtjaidhglemnakaaWOpen
import Derived.Test.YtjaidhglemnakaaWAdd
set_option linter.unusedSimpArgs false
set_option linter.unusedVariables false
namespace Go.Proofs.Ytjaidhglemnakaa
open Go.RowKit Go.Maps
attribute [local go_sem] Oper.semAt_some wfn wdp rfn rdp

def NoLg (w : World) (v : Value) : Prop := v = .pointer none ∨ ∃ L, v = .pointer (some ⟨L, 0, none⟩) ∧ w.cell? ⟨L, 0, none⟩ = some (.pointer none)
theorem lthere_no {w : World} {v : Value} (h : NoLg w v) : Calls Try.prog 21 #[v] w fun e w' => e = .returned (.bool false) ∧ w = w' := by
  have km := made_no (w := w) (v := .pointer none) (.inl rfl)
  rcases h with rfl | ⟨L, rfl, hc⟩
  all_goals
    go_enter Try.func21, Try.ntmps21
    go_wp2_with (go_at_call 26; refine km.mono ?_; rintro e w' ⟨rfl, rfl⟩)
    go_ret
    exact ⟨rfl, rfl⟩
theorem add_no {w : World} {v : Value} (h : NoLg w v) (u : Value) : Calls Try.prog 8 #[v, u] w fun e w' => e = .returned (.int .i64 2) ∧ w = w' := by
  have kt := lthere_no h
  clear h
  go_enter Try.func8, Try.ntmps8
  go_wp2_with (go_at_call 21; refine kt.mono ?_; rintro e w' ⟨rfl, rfl⟩)
  go_ret
  exact ⟨rfl, rfl⟩
theorem force_no {w : World} {v : Value} (h : NoLg w v) : Calls Try.prog 9 #[v] w fun e w' => e = .returned (.int .i64 2) ∧ w = w' := by
  have kt := lthere_no h
  clear h
  go_enter Try.func9, Try.ntmps9
  go_wp2_with (go_at_call 21; refine kt.mono ?_; rintro e w' ⟨rfl, rfl⟩)
  go_ret
  exact ⟨rfl, rfl⟩
theorem room_no {w : World} {v : Value} (h : NoLg w v) (n : Int) : Calls Try.prog 10 #[v, .int .i64 n] w fun e w' => e = .returned (.bool false) ∧ w = w' := by
  have kt := lthere_no h
  clear h
  go_enter Try.func10, Try.ntmps10
  go_wp2_with (go_at_call 21; refine kt.mono ?_; rintro e w' ⟨rfl, rfl⟩)
  go_ret
  exact ⟨rfl, rfl⟩
theorem plain_ret {P : Program} {fn : Func} {R : Ending → World → Prop} {a : Act} {W : World} {v : Value} (hd : a.defers = [])
    (hr : (results fn a.tmps).run P W = .ok v W) (hR : R (.returned v) W) : bodyPostM Fence.wide 0 P fn R .ret a W := by
  show LeavesInM Fence.wide 0 P fn a.tmps R a.defers .returning W
  rw [hd]
  exact ⟨v, hr, hR⟩
set_option maxHeartbeats 800000 in
set_option maxRecDepth 1000000 in
theorem open_no {w : World} {v : Value} (h : NoDk w v) (hv : ∀ B, v = .pointer (some ⟨B, 0, none⟩) → B < w.heap.size) : Calls Try.prog 11 #[v] w fun e w' => e = .returned (.tuple #[.pointer none, .slice none 0 0, .int .i64 2]) ∧ Below w.heap.size w w' := by
  refine callsIn_wide.1 (callsIn_of_wp_marks (n := 0) Try.func11 rfl trivial ?_ rfl)
  simp only [Try.ntmps11, List.size_toArray, List.length_cons, List.length_nil, Nat.reduceAdd, Nat.reduceSub, Array.replicate_succ, Array.replicate_zero, List.push_toArray, List.append_toArray, List.nil_append, List.cons_append]
  have e1 := below_one w (.cells #[.pointer none] 23)
  have c0 : (w.alloc (.cells #[.pointer none] 23)).heap[w.heap.size]? = some (.cells #[.pointer none] 23 (0, 0)) := World.alloc_heap_new w _
  have s1 : (w.alloc (.cells #[.pointer none] 23)).heap.size = w.heap.size + 1 := by simp
  obtain ⟨W1, hW1⟩ : ∃ W1, w.alloc (.cells #[.pointer none] 23) = W1 := ⟨_, rfl⟩
  have e2 := below_one W1 (.cells #[.slice none 0 0] 34)
  have c1 : (W1.alloc (.cells #[.slice none 0 0] 34)).heap[W1.heap.size]? = some (.cells #[.slice none 0 0] 34 (0, 0)) := World.alloc_heap_new W1 _
  rw [hW1] at e1 c0 s1
  have b2 : Below w.heap.size w (W1.alloc (.cells #[.slice none 0 0] 34)) := e1.trans (e2.mono (by omega))
  replace c0 := (e2.block _ (by omega)).trans c0
  rw [s1] at c1
  have hn : NoDk (W1.alloc (.cells #[.slice none 0 0] 34)) v := by
    rcases h with rfl | ⟨B, rfl, hc⟩
    · exact .inl rfl
    · exact .inr ⟨B, rfl, (b2.cell (hv B rfl)).trans hc⟩
  gi_wp2_with fail
  obtain ⟨W2, hW2⟩ : ∃ W2, W1.alloc (.cells #[.slice none 0 0] 34) = W2 := ⟨_, rfl⟩
  rw [hW2] at b2 c0 c1 hn ⊢
  clear hW1 hW2 e1 e2 s1
  have x0 := box_cell c0
  have x0f := box_frozen (i := 0) c0
  have x1 := box_cell c1
  have x1f := box_frozen (i := 0) c1
  refine (callsIn_wide.2 (made_no hn)).mono ?_
  rintro e w' ⟨rfl, rfl⟩
  gi_wp2
  rw [setCell_self c0, setCell_self c1]
  refine plain_ret (v := .tuple #[.pointer none, .slice none 0 0, .int .i64 2]) rfl (by simp [results, Try.results11, go_sem, x0, x1, Result.andThen]) ⟨rfl, b2⟩
end Go.Proofs.Ytjaidhglemnakaa
