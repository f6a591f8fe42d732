/- What a bag that is not there, or that no call made, answers. -/
import Derived.Test.YtpmmdbdooclcoabBaList
set_option linter.unusedSimpArgs false
set_option linter.unusedVariables false
namespace Go.Proofs.Ytpmmdbdooclcoab
open Go.RowKit

def NoBag (w : World) (p : Value) : Prop := p = .pointer none ∨ ∃ B v, p = ptr B ∧ w.heap[B]? = some (bagO 0 v)
theorem NoBag.below {w w' : World} {p : Value} (h : NoBag w p) (hb : Below w.heap.size w w') : NoBag w' p := by
  rcases h with rfl | ⟨B, v, rfl, h⟩
  · exact .inl rfl
  · exact .inr ⟨B, v, rfl, (hb.block B (blk_lt h)).trans h⟩
theorem there_none (w : World) (p : Value) (h : NoBag w p) : Calls Try.prog 16 #[p] w fun e w' => e = .returned (.bool false) ∧ w = w' := by
  rcases h with rfl | ⟨B, v, rfl, h⟩
  · exact there_nil w
  · exact there_zero w B v h
set_option maxHeartbeats 1000000 in
set_option maxRecDepth 1000000 in
theorem Add_none (w : World) (p : Value) (h : NoBag w p) (m : MsgD) (ao bo : Option Addr) (an ac bn bc : Nat) :
    Calls Try.prog 7 #[p, msgV m (.slice ao an ac) (.slice bo bn bc)] w fun e w' => e = .returned (.int .i64 2) ∧ Below w.heap.size w w' := by
  have b := below_one w (.cells (mdCells m (.slice ao an ac) (.slice bo bn bc)) 27)
  have k := there_none _ p (h.below b)
  unfold mdCells at k b
  unfold msgV
  clear h
  go_enter Try.func7, Try.ntmps7
  go_wp2_with fail
  refine k.mono ?_
  rintro e w1 ⟨rfl, ew⟩
  rw [← ew]
  clear ew w1 k
  go_wp2
  go_ret
  exact ⟨rfl, b⟩
set_option maxHeartbeats 1000000 in
set_option maxRecDepth 1000000 in
theorem Copy_none (w : World) (p : Value) (h : NoBag w p) (at_ : Int) :
    Calls Try.prog 10 #[p, .int .i64 at_] w fun e w' => e = .returned (.int .i64 2) ∧ Below w.heap.size w w' := by
  have k := there_none _ p h
  clear h
  go_enter Try.func10, Try.ntmps10
  go_wp2_with fail
  refine k.mono ?_
  rintro e w1 ⟨rfl, ew⟩
  rw [← ew]
  clear ew w1 k
  go_wp2
  go_ret
  exact ⟨rfl, Below.refl _ _⟩
set_option maxHeartbeats 1000000 in
set_option maxRecDepth 1000000 in
theorem List_none (w : World) (p : Value) (h : NoBag w p) :
    Calls Try.prog 12 #[p] w fun e w' => e = .returned (.slice none 0 0) ∧ Below w.heap.size w w' := by
  have k := there_none _ p h
  clear h
  go_enter Try.func12, Try.ntmps12
  go_wp2_with fail
  refine k.mono ?_
  rintro e w1 ⟨rfl, ew⟩
  rw [← ew]
  clear ew w1 k
  go_wp2
  go_ret
  exact ⟨rfl, Below.refl _ _⟩
set_option maxHeartbeats 1000000 in
set_option maxRecDepth 1000000 in
theorem Take_none (w : World) (p : Value) (h : NoBag w p) (at_ : Int) :
    Calls Try.prog 9 #[p, .int .i64 at_] w fun e w' => e = .returned (.tuple #[.agg #[.int .u8 0, .int .u8 0, .int .u8 0, .int .u32 0, .slice none 0 0, .slice none 0 0], .int .i64 2]) ∧ Below w.heap.size w w' := by
  have b := below_one w (.cells zM 27)
  have k := there_none _ p (h.below b)
  have s := (St.nil w).alloc (.cells zM 27)
  obtain ⟨z0, z1, z2, z3, z4, z5⟩ := six_cells s.blk.1
  have fz := fun i => box_frozen (i := i) s.blk.1
  unfold zM at k b z0 z1 z2 z3 z4 z5 fz
  clear h s
  go_enter Try.func9, Try.ntmps9
  go_wp2_with fail
  refine k.mono ?_
  rintro e w1 ⟨rfl, ew⟩
  rw [← ew]
  clear ew w1 k
  go_wp2
  refine bodyPost_ret (v := .tuple #[.agg #[.int .u8 0, .int .u8 0, .int .u8 0, .int .u32 0, .slice none 0 0, .slice none 0 0], .int .i64 2]) (by simp [results, Try.results9, go_sem, z0, z1, z2, z3, z4, z5]) rfl ⟨rfl, b⟩
end Go.Proofs.Ytpmmdbdooclcoab
