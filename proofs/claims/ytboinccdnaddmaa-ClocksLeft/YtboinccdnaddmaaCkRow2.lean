/- An argument of two bytes. -/
import Derived.Test.YtboinccdnaddmaaGArr
set_option linter.unusedSimpArgs false
set_option linter.unusedVariables false
namespace Go.Proofs.Ytboinccdnaddmaa
open Go.RowKit Go.ChangeShapes Go.WideShapes

section
variable {H : Type} {enc : TypeId × Value → H} {W : World} {base : Nat} {sp : Nat → Bool} {held : Bool}
theorem arg_row2 {r : Reach} {b0 : Nat} {v : Value} {d : DataW H} {p : List MemPlace} (hv : Value.okWide Try.prog W r b0 45 v) (h : DataW.Trod enc Try.prog W base sp held 45 v d p) : ∃ x y : UInt8, v = .agg #[bv x, bv y] := by
  obtain ⟨l, hl, rfl⟩ := @open_arr _ enc W base sp held UInt8 ⟨0⟩ _ bv _ _ 2 Try.underlying45 (by kernel_rfl) (by kernel_rfl) el_b1 _ _ _ _ _ hv h
  match l, hl with
  | [x, y], _ => exact ⟨x, y, rfl⟩
end
end Go.Proofs.Ytboinccdnaddmaa
