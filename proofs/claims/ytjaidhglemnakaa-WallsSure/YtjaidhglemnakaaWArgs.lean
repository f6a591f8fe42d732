/- How arguments are opened: lists of records, yes or no, what is kept. -/
import Derived.Test.YtjaidhglemnakaaGOpenS
import Derived.Test.YtjaidhglemnakaaWSame
set_option linter.unusedSimpArgs false
set_option linter.unusedVariables false
namespace Go.Proofs.Ytjaidhglemnakaa
open Go.ChangeShapes Go.WideShapes Go.ChangeAt Go.RowKit Go.Deep

/-- A list of records as an argument. -/
structure RcArg (W : World) (v : Value) (l : List (Value × List UInt8)) : Prop where
  rc : RcIn W W.heap.size v l
  len : l.length ≤ 140737488351232
  els : ∀ x ∈ l, x.2.length ≤ 140737488351232
section
variable {H : Type} {enc : TypeId × Value → H} {W : World} {base : Nat} {sp : Nat → Bool} {held : Bool}
set_option maxRecDepth 1000000 in
theorem el_rec (n : Nat) (cs : List Value) (x : DataW H × List MemPlace) (h : DataW.trod enc Try.prog W base sp held n 22 cs = some x) (hw : Light Try.prog 22 x.1) (hl : cs.length = 1) : ∃ a : Value × List UInt8, cs = recCell a ∧ (InAt W W.heap.size a.1 a.2 ∧ a.2.length ≤ 140737488351232) := by
  match cs, hl with
  | [v], _ =>
    obtain ⟨l, h1, -⟩ := @open_list _ enc W base sp held UInt8 ⟨0⟩ _ bCell (fun _ => True) 1 _ _ _ _ _ Try.underlying22 (by kernel_rfl) (by omega) (fun _ => rfl) el_u8 h
    have hb := len_light (by_ := 1) Try.underlying22 (by kernel_rfl) h hw h1
    exact ⟨(v, l), rfl, h1, by show l.length ≤ _; omega⟩
set_option maxRecDepth 1000000 in
theorem recs_of {n : Nat} {v : Value} {x : DataW H × List MemPlace} (hf : DataW.trod enc Try.prog W base sp held n 34 [v] = some x) (hw : Light Try.prog 34 x.1) : ∃ l : List (Value × List UInt8), RcArg W v l := by
  obtain ⟨l, h1, h2⟩ := @open_listS _ enc W base sp held (Value × List UInt8) ⟨(.slice none 0 0, [])⟩ _ recCell (fun a => InAt W W.heap.size a.1 a.2 ∧ a.2.length ≤ 140737488351232) 1 _ _ _ _ _ Try.underlying34 (by kernel_rfl) (by omega) (fun _ => rfl) el_rec hf hw
  have hb := len_light (by_ := 24) Try.underlying34 (by kernel_rfl) hf hw h1
  exact ⟨l, ⟨h1, fun x hx => (h2 x hx).1⟩, by omega, fun x hx => (h2 x hx).2⟩
set_option maxRecDepth 1000000 in
theorem arg_recs {r : Reach} {b0 : Nat} {v : Value} {d : DataW H} {p : List MemPlace} (hv : Value.okWide Try.prog W r b0 34 v) (h : DataW.Trod enc Try.prog W base sp held 34 v d p) (hw : Light Try.prog 34 d) : ∃ l : List (Value × List UInt8), RcArg W v l := by
  obtain ⟨fuel, hf⟩ := arg_slice Try.underlying34 hv h
  exact recs_of hf hw
set_option maxRecDepth 1000000 in
theorem arg_bool {r : Reach} {b0 : Nat} {v : Value} {d : DataW H} {p : List MemPlace} (hv : Value.okWide Try.prog W r b0 4 v) (h : DataW.Trod enc Try.prog W base sp held 4 v d p) : ∃ b : Bool, v = .bool b := by
  obtain ⟨b, h1, -⟩ := open_bool Try.underlying4 hv h
  exact ⟨b, h1⟩
end
end Go.Proofs.Ytjaidhglemnakaa
