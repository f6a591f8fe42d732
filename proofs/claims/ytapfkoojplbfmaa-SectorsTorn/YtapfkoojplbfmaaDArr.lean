/- How an array of 64 bytes, and one of two yes or no, are opened. -/
import Derived.Test.YtapfkoojplbfmaaGArr
set_option linter.unusedSimpArgs false
set_option linter.unusedVariables false
namespace Go.Proofs.Ytapfkoojplbfmaa
open Go.ChangeShapes Go.WideShapes Go.ChangeAt Go.RowKit Go.Deep

section
variable {H : Type} {enc : TypeId × Value → H} {W : World} {base : Nat} {sp : Nat → Bool} {held : Bool}
theorem arg_row64 {r : Reach} {b0 : Nat} {v : Value} {d : DataW H} {p : List MemPlace} (hv : Value.okWide Try.prog W r b0 48 v) (h : DataW.Trod enc Try.prog W base sp held 48 v d p) : ∃ l : List UInt8, l.length = 64 ∧ v = .agg (bcells l).toArray :=
  @open_arr _ enc W base sp held UInt8 ⟨0⟩ _ bv _ _ 64 Try.underlying48 (by kernel_rfl) (by kernel_rfl) el_b1 _ _ _ _ _ hv h
theorem el_bool (m : Nat) (c : Value) (x : DataW H × List MemPlace) (h : DataW.trod enc Try.prog W base sp held m 4 [c] = some x) : ∃ a : Bool, c = .bool a := by
  obtain ⟨z, e, _⟩ := DataW.trod_bool Try.underlying4 h
  cases e
  exact ⟨z, rfl⟩
theorem arg_bools2 {r : Reach} {b0 : Nat} {v : Value} {d : DataW H} {p : List MemPlace} (hv : Value.okWide Try.prog W r b0 49 v) (h : DataW.Trod enc Try.prog W base sp held 49 v d p) : ∃ x y : Bool, v = .agg #[.bool x, .bool y] := by
  obtain ⟨l, hl, rfl⟩ := @open_arr _ enc W base sp held Bool ⟨false⟩ _ Value.bool _ _ 2 Try.underlying49 (by kernel_rfl) (by kernel_rfl) el_bool _ _ _ _ _ hv h
  match l, hl with
  | [x, y], _ => exact ⟨x, y, rfl⟩
end
end Go.Proofs.Ytapfkoojplbfmaa
