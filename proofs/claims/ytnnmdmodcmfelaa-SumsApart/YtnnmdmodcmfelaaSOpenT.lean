/- How a list of arrays of three bytes is opened. -/
import Derived.Test.YtnnmdmodcmfelaaSApart
import Derived.Laws.IdiomArrays
set_option linter.unusedSimpArgs false
set_option linter.unusedVariables false
namespace Go.Proofs.Ytnnmdmodcmfelaa
open Go.ChangeShapes Go.WideShapes Go.ChangeAt Go.RowKit Go.Deep

section
variable {H : Type} {enc : TypeId × Value → H} {W : World} {base : Nat} {sp : Nat → Bool} {held : Bool}
set_option maxRecDepth 1000000 in
theorem el_tri (n : Nat) (cs : List Value) (x : DataW H × List MemPlace) (h : DataW.trod enc Try.prog W base sp held n 35 cs = some x) (hl : cs.length = 3) : ∃ a : Tri, cs = triCells a ∧ True := by
  match cs, hl with
  | [v0, v1, v2], _ =>
    obtain ⟨y0, y1, y2, m, _, g0, g1, g2⟩ := trod_array3 Try.underlying35 (by kernel_rfl) h
    obtain ⟨z0, e0, _, hw0⟩ := DataW.trod_int Try.underlying5 g0
    obtain ⟨z1, e1, _, hw1⟩ := DataW.trod_int Try.underlying5 g1
    obtain ⟨z2, e2, _, hw2⟩ := DataW.trod_int Try.underlying5 g2
    obtain ⟨c0, rfl⟩ := u8_of_wf hw0
    obtain ⟨c1, rfl⟩ := u8_of_wf hw1
    obtain ⟨c2, rfl⟩ := u8_of_wf hw2
    cases e0
    cases e1
    cases e2
    exact ⟨(c0, c1, c2), rfl, trivial⟩
set_option maxRecDepth 1000000 in
theorem arg_tris {r : Reach} {b0 : Nat} {v : Value} {d : DataW H} {p : List MemPlace} (hv : Value.okWide Try.prog W r b0 34 v) (h : DataW.Trod enc Try.prog W base sp held 34 v d p) : ∃ l : List Tri, SlAt 3 triCells W W.heap.size v l := by
  obtain ⟨fuel, hf⟩ := arg_slice Try.underlying34 hv h
  obtain ⟨l, h1, -⟩ := @open_list _ enc W base sp held Tri ⟨(0, 0, 0)⟩ _ triCells (fun _ => True) 3 _ _ _ _ _ Try.underlying34 (by kernel_rfl) (by omega) (fun _ => rfl) el_tri hf
  exact ⟨l, h1⟩
end
end Go.Proofs.Ytnnmdmodcmfelaa
