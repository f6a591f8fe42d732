/- How an array of two arrays of four bytes is opened. -/
import Derived.Test.YtnnmdmodcmfelabSFour
set_option linter.unusedSimpArgs false
set_option linter.unusedVariables false
namespace Go.Proofs.Ytnnmdmodcmfelab
open Go.ChangeShapes Go.WideShapes Go.ChangeAt Go.RowKit Go.Deep

section
variable {H : Type} {enc : TypeId × Value → H} {W : World} {base : Nat} {sp : Nat → Bool} {held : Bool}
set_option maxRecDepth 1000000 in
theorem el_four (n : Nat) (c0 c1 c2 c3 : Value) (x : DataW H × List MemPlace) (h : DataW.trod enc Try.prog W base sp held n 23 [c0, c1, c2, c3] = some x) : ∃ a b c d : UInt8, c0 = .int .u8 (a.toNat : Int) ∧ c1 = .int .u8 (b.toNat : Int) ∧ c2 = .int .u8 (c.toNat : Int) ∧ c3 = .int .u8 (d.toNat : Int) := by
  obtain ⟨xs, m, _, _, _, hn, hall⟩ := DataW.trod_array Try.underlying23 h
  match xs, hn with
  | [x0, x1, x2, x3], _ =>
    have a0 := hall 0 (by omega)
    have a1 := hall 1 (by omega)
    have a2 := hall 2 (by omega)
    have a3 := hall 3 (by omega)
    simp only [Value.cells, show Try.prog.cellsOf 5 = 1 by kernel_rfl] at a0 a1 a2 a3
    simp at a0 a1 a2 a3
    obtain ⟨z0, e0, _, hw0⟩ := DataW.trod_int Try.underlying5 a0
    obtain ⟨z1, e1, _, hw1⟩ := DataW.trod_int Try.underlying5 a1
    obtain ⟨z2, e2, _, hw2⟩ := DataW.trod_int Try.underlying5 a2
    obtain ⟨z3, e3, _, hw3⟩ := DataW.trod_int Try.underlying5 a3
    obtain ⟨u0, rfl⟩ := u8_of_wf hw0
    obtain ⟨u1, rfl⟩ := u8_of_wf hw1
    obtain ⟨u2, rfl⟩ := u8_of_wf hw2
    obtain ⟨u3, rfl⟩ := u8_of_wf hw3
    cases e0
    cases e1
    cases e2
    cases e3
    exact ⟨u0, u1, u2, u3, rfl, rfl, rfl, rfl⟩
set_option maxRecDepth 1000000 in
theorem arg_arr8 {r : Reach} {b0 : Nat} {v : Value} {d : DataW H} {p : List MemPlace} (hv : Value.okWide Try.prog W r b0 24 v) (h : DataW.Trod enc Try.prog W base sp held 24 v d p) : ∃ x0 x1 x2 x3 y0 y1 y2 y3 : UInt8, v = arr8 x0 x1 x2 x3 y0 y1 y2 y3 := by
  simp only [Value.okWide, Try.underlying24] at hv
  obtain ⟨cs, rfl, hsz, -⟩ := hv
  have hsz8 : cs.size = 8 := by rw [hsz]; kernel_rfl
  obtain ⟨fuel, hf⟩ := h
  obtain ⟨xs, m, _, _, _, hn, hall⟩ := DataW.trod_array Try.underlying24 hf
  rcases cs with ⟨l⟩
  match l, hsz8, xs, hn with
  | [c0, c1, c2, c3, c4, c5, c6, c7], _, [x0, x1], _ =>
    have a0 := hall 0 (by omega)
    have a1 := hall 1 (by omega)
    simp only [Value.cells, show Try.prog.cellsOf 23 = 4 by kernel_rfl] at a0 a1
    simp at a0 a1
    obtain ⟨u0, u1, u2, u3, rfl, rfl, rfl, rfl⟩ := el_four _ _ _ _ _ _ a0
    obtain ⟨u4, u5, u6, u7, rfl, rfl, rfl, rfl⟩ := el_four _ _ _ _ _ _ a1
    exact ⟨u0, u1, u2, u3, u4, u5, u6, u7, rfl⟩
end
end Go.Proofs.Ytnnmdmodcmfelab
