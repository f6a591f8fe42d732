/- How arguments are opened: lists of records, yes or no, what is kept. -/
import Derived.Test.YtjaidhglemnakabWArgs
set_option linter.unusedSimpArgs false
set_option linter.unusedVariables false
namespace Go.Proofs.Ytjaidhglemnakab
open Go.ChangeShapes Go.WideShapes Go.ChangeAt Go.RowKit Go.Deep

def boolCell (b : Bool) : List Value := [.bool b]
section
variable {H : Type} {enc : TypeId × Value → H} {W : World} {base : Nat} {sp : Nat → Bool} {held : Bool}
set_option maxRecDepth 1000000 in
theorem el_bool (n : Nat) (cs : List Value) (x : DataW H × List MemPlace) (h : DataW.trod enc Try.prog W base sp held n 4 cs = some x) (hl : cs.length = 1) : ∃ a : Bool, cs = boolCell a ∧ True := by
  obtain ⟨b, rfl, _⟩ := DataW.trod_bool Try.underlying4 h
  exact ⟨b, rfl, trivial⟩
set_option maxRecDepth 1000000 in
theorem arg_boolsL {r : Reach} {b0 : Nat} {v : Value} {d : DataW H} {p : List MemPlace} (hv : Value.okWide Try.prog W r b0 23 v) (h : DataW.Trod enc Try.prog W base sp held 23 v d p) : ∃ l : List Bool, SlAt 1 boolCell W W.heap.size v l := by
  obtain ⟨fuel, hf⟩ := arg_slice Try.underlying23 hv h
  obtain ⟨l, h1, -⟩ := @open_list _ enc W base sp held Bool ⟨false⟩ _ boolCell (fun _ => True) 1 _ _ _ _ _ Try.underlying23 (by kernel_rfl) (by omega) (fun _ => rfl) el_bool hf
  exact ⟨l, h1⟩
end
end Go.Proofs.Ytjaidhglemnakab
