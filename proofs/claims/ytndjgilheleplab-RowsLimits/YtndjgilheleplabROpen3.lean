/- How an array of three bytes is opened. -/
import Derived.Test.YtndjgilheleplabROpen
set_option linter.unusedSimpArgs false
set_option linter.unusedVariables false
namespace Go.Proofs.Ytndjgilheleplab
open Go.ChangeShapes Go.WideShapes Go.ChangeAt Go.RowKit Go.Deep

section
variable {H : Type} {enc : TypeId × Value → H} {W : World} {base : Nat} {sp : Nat → Bool} {held : Bool}
set_option maxRecDepth 1000000 in
theorem arg_bytes3 {r : Reach} {b0 : Nat} {v : Value} {d : DataW H} {p : List MemPlace} (hv : Value.okWide Try.prog W r b0 42 v) (h : DataW.Trod enc Try.prog W base sp held 42 v d p) : ∃ x y z : UInt8, v = .agg #[.int .u8 (x.toNat : Int), .int .u8 (y.toNat : Int), .int .u8 (z.toNat : Int)] := by
  simp only [Value.okWide, Try.underlying42] at hv
  obtain ⟨cs, rfl, hsz, -⟩ := hv
  have hsz3 : cs.size = 3 := by rw [hsz]; kernel_rfl
  obtain ⟨fuel, hf⟩ := h
  obtain ⟨xs, m, _, _, _, hn, hall⟩ := DataW.trod_array Try.underlying42 hf
  rcases cs with ⟨l⟩
  match l, hsz3, xs, hn with
  | [c0, c1, c2], _, [x0, x1, x2], _ =>
    have a0 := hall 0 (by omega)
    have a1 := hall 1 (by omega)
    have a2 := hall 2 (by omega)
    simp only [Value.cells, show Try.prog.cellsOf 5 = 1 by kernel_rfl] at a0 a1 a2
    simp at a0 a1 a2
    obtain ⟨z0, e0, _, hw0⟩ := DataW.trod_int Try.underlying5 a0
    obtain ⟨z1, e1, _, hw1⟩ := DataW.trod_int Try.underlying5 a1
    obtain ⟨z2, e2, _, hw2⟩ := DataW.trod_int Try.underlying5 a2
    obtain ⟨u0, rfl⟩ := u8_of_wf hw0
    obtain ⟨u1, rfl⟩ := u8_of_wf hw1
    obtain ⟨u2, rfl⟩ := u8_of_wf hw2
    cases e0
    cases e1
    cases e2
    exact ⟨u0, u1, u2, rfl⟩
end
end Go.Proofs.Ytndjgilheleplab
