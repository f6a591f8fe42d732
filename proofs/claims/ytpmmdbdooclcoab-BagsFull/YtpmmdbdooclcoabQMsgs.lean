/- A list of messages as an argument; the walk of MsgsSize. -/
import Derived.Test.YtpmmdbdooclcoabQOpen
import Derived.Test.YtpmmdbdooclcoabQMsg
set_option linter.unusedSimpArgs false
set_option linter.unusedVariables false
namespace Go.Proofs.Ytpmmdbdooclcoab
open Go.ChangeShapes Go.WideShapes Go.ChangeAt Go.RowKit Go.Deep

/-- A list of messages that can be read, below block number 'lim'. -/
structure MsgsAt (w : World) (lim : Nat) (v : Value) (ms : List MsgO) : Prop where
  sl : SlAt 6 MsgO.cells w lim v ms
  at' : ∀ x ∈ ms, MsgAt w lim x.vo x.vr x.d x.rs
theorem MsgsAt.below {w w' : World} {lim B : Nat} {v : Value} {ms : List MsgO} (h : MsgsAt w lim v ms) (hb : Below B w w') (hB : lim ≤ B) : MsgsAt w' lim v ms := ⟨h.sl.below hb hB, fun x hx => (h.at' x hx).below hb hB⟩
theorem MsgsAt.mono {w : World} {lim lim' : Nat} {v : Value} {ms : List MsgO} (h : MsgsAt w lim v ms) (hB : lim ≤ lim') : MsgsAt w lim' v ms := ⟨h.sl.mono hB, fun x hx => (h.at' x hx).mono hB⟩
theorem MsgsAt.up {w w' : World} {v : Value} {ms : List MsgO} (h : MsgsAt w w.heap.size v ms) (hb : Below w.heap.size w w') : MsgsAt w' w'.heap.size v ms := (h.below hb (Nat.le_refl _)).mono hb.size
/-- How much a message may have in it by the reach. -/
structure MsgO.sz (x : MsgO) : Prop where
  o : ∀ o ∈ x.d.ops, opSz o
  r : ∀ p ∈ x.rs, resSz p
  lo : x.d.ops.length ≤ 140737488351232
  lr : x.rs.length ≤ 140737488351232
/-- And if it is but some. -/
structure MsgO.few (x : MsgO) : Prop where
  lo : x.d.ops.length ≤ 5000
  lr : x.rs.length ≤ 5000
  lw : ∀ p ∈ x.rs, p.2.length ≤ 5000
section
variable {H : Type} {enc : TypeId × Value → H} {W : World} {base : Nat} {sp : Nat → Bool} {held : Bool}
theorem el_msgO (n : Nat) (cs : List Value) (x : DataW H × List MemPlace) (h : DataW.trod enc Try.prog W base sp held n 27 cs = some x) (hw : Light Try.prog 27 x.1) (hl : cs.length = 6) :
    ∃ y : MsgO, cs = y.cells ∧ (MsgAt W W.heap.size y.vo y.vr y.d y.rs ∧ y.sz) := by
  obtain ⟨vo, vr, m, l, h1, h2, h3, h4, h5, h6⟩ := el_msgB n cs x h hw hl
  exact ⟨⟨m, vo, vr, l⟩, h1, h2, h3, h4, h5, h6⟩
theorem arg_msgsS {r : Reach} {b0 : Nat} {v : Value} {d : DataW H} {p : List MemPlace} (hv : Value.okWide Try.prog W r b0 41 v) (h : DataW.Trod enc Try.prog W base sp held 41 v d p) (hw : Light Try.prog 41 d) :
    ∃ ms : List MsgO, MsgsAt W W.heap.size v ms ∧ (∀ x ∈ ms, x.sz) ∧ ms.length ≤ 140737488351232 := by
  obtain ⟨fuel, hf⟩ := arg_slice Try.underlying41 hv h
  obtain ⟨l, h1, h2⟩ := @open_listS _ enc W base sp held MsgO ⟨⟨⟨0, 0, 0, 0, [], []⟩, .slice none 0 0, .slice none 0 0, []⟩⟩ _ MsgO.cells (fun y => MsgAt W W.heap.size y.vo y.vr y.d y.rs ∧ y.sz) 6 _ _ _ _ _ Try.underlying41 (by kernel_rfl) (by omega) MsgO.cells_len el_msgO hf hw
  obtain ⟨ao, cap, hv, -, -, -⟩ := id h1
  have hb := light_len Try.underlying41 hf hw hv
  rw [show Try.prog.bytesOf 27 = 56 by kernel_rfl] at hb
  exact ⟨l, ⟨h1, fun x hx => (h2 x hx).1⟩, fun x hx => (h2 x hx).2, by omega⟩
theorem arg_bool {r : Reach} {b0 : Nat} {v : Value} {d : DataW H} {p : List MemPlace} (hv : Value.okWide Try.prog W r b0 4 v) (h : DataW.Trod enc Try.prog W base sp held 4 v d p) : ∃ b : Bool, v = .bool b := by
  obtain ⟨b, h1, -⟩ := open_bool Try.underlying4 hv h
  exact ⟨b, h1⟩
end
theorem msgSizeO_any (w : World) (x : MsgO) (h : MsgAt w w.heap.size x.vo x.vr x.d x.rs) (hs : x.sz) :
    Calls Try.prog 5 #[x.v] w fun e w' => (∃ z : Int, e = .returned (.int .i64 z) ∧ 1 ≤ z ∧ z ≤ 1125899906842625 ∧ (z ≤ 5000 → x.few)) ∧ Below w.heap.size w w' :=
  (msgSizeC_any w _ _ x.d x.rs h hs.o hs.r hs.lo hs.lr).mono fun e w' ⟨⟨z, h1, h2, h3, h4⟩, h5⟩ => ⟨⟨z, h1, h2, h3, fun h => ⟨(h4 h).1, (h4 h).2.1, (h4 h).2.2⟩⟩, h5⟩
end Go.Proofs.Ytpmmdbdooclcoab
