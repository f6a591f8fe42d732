import Derived.Test.YtcgecdiaddcfkaaGreatDoorROpenRM
import Derived.Test.YtcgecdiaddcfkaaGreatDoorM18
/- How an argument that is a message is opened, with what the form's reach says of it. -/
set_option linter.unusedSimpArgs false
set_option linter.unusedVariables false
namespace Go.Proofs.YtcgecdiaddcfkaaGreatDoor
open Go.ChangeShapes Go.WideShapes Go.ChangeAt Go.RowKit Go.Deep

section
variable {H : Type} {enc : TypeId × Value → H} {W : World} {base : Nat} {sp : Nat → Bool} {held : Bool}
set_option maxRecDepth 1000000 in
theorem el_msgB (n : Nat) (cs : List Value) (x : DataW H × List MemPlace) (h : DataW.trod enc Tryz.prog W base sp held n 27 cs = some x) (hw : Light Tryz.prog 27 x.1) (hl : cs.length = 6) :
    ∃ vo vr m l, cs = [.int .u8 (m.say.toNat : Int), .int .u8 (m.src.toNat : Int), .int .u8 (m.dst.toNat : Int), .int .u32 (m.g.toNat : Int), vo, vr] ∧ MsgAt W W.heap.size vo vr m l ∧ (∀ x ∈ m.ops, opSz x) ∧ (∀ p ∈ l, resSz p) ∧ m.ops.length ≤ 140737488351232 ∧ l.length ≤ 140737488351232 := by
  obtain ⟨xs, k, _, rfl, _, hxl, hf⟩ := DataW.trod_struct Tryz.underlying27 h
  match xs, hxl, cs, hl with
  | [y0, y1, y2, y3, y4, y5], _, [v0, v1, v2, v3, v4, v5], _ =>
    have g0 := hf 0 _ rfl
    have g1 := hf 1 _ rfl
    have g2 := hf 2 _ rfl
    have g3 := hf 3 _ rfl
    have g4 := hf 4 _ rfl
    have g5 := hf 5 _ rfl
    simp only [show Tryz.prog.cellsOf 22 = 1 by kernel_rfl, show Tryz.prog.cellsOf 5 = 1 by kernel_rfl, show Tryz.prog.cellsOf 23 = 1 by kernel_rfl, show Tryz.prog.cellsOf 24 = 1 by kernel_rfl, show Tryz.prog.cellsOf 25 = 1 by kernel_rfl, List.drop_succ_cons, List.drop_zero, List.take_succ_cons, List.take_zero, List.getElem?_cons_succ, List.getElem?_cons_zero] at g0 g1 g2 g3 g4 g5
    obtain ⟨z0, e0, _, hw0⟩ := DataW.trod_int Tryz.underlying22 g0
    obtain ⟨z1, e1, _, hw1⟩ := DataW.trod_int Tryz.underlying5 g1
    obtain ⟨z2, e2, _, hw2⟩ := DataW.trod_int Tryz.underlying5 g2
    obtain ⟨z3, e3, _, hw3⟩ := DataW.trod_int Tryz.underlying23 g3
    obtain ⟨c0, rfl⟩ := u8_of_wf hw0
    obtain ⟨c1, rfl⟩ := u8_of_wf hw1
    obtain ⟨c2, rfl⟩ := u8_of_wf hw2
    obtain ⟨c3, rfl⟩ := u32_of_wf hw3
    have hw4 : Light Tryz.prog 24 y4.1 := light_part Tryz.underlying27 hw (j := 4) (u := 24) rfl rfl
    have hw5 : Light Tryz.prog 25 y5.1 := light_part Tryz.underlying27 hw (j := 5) (u := 25) rfl rfl
    obtain ⟨lo, a1, a2⟩ := @open_listS _ enc W base sp held OpD ⟨⟨0, ByteArray.empty, ByteArray.empty, 0⟩⟩ _ opCells opSz 4 _ _ _ _ _ Tryz.underlying24 (by kernel_rfl) (by omega) (fun _ => rfl) el_opS g4 hw4
    obtain ⟨lr, b1, b2⟩ := @open_listS _ enc W base sp held ResP ⟨(.slice none 0 0, [])⟩ _ resCells (fun p => RowsAt W W.heap.size p ∧ resSz p) 1 _ _ _ _ _ Tryz.underlying25 (by kernel_rfl) (by omega) (fun _ => rfl) el_resS g5 hw5
    obtain ⟨xo, xc, xv, -, -, -⟩ := id a1
    have bo := light_len Tryz.underlying24 g4 hw4 xv
    rw [show Tryz.prog.bytesOf 85 = 48 by kernel_rfl] at bo
    obtain ⟨yo, yc, yv, -, -, -⟩ := id b1
    have br := light_len Tryz.underlying25 g5 hw5 yv
    rw [show Tryz.prog.bytesOf 89 = 24 by kernel_rfl] at br
    cases e0
    cases e1
    cases e2
    cases e3
    refine ⟨v4, v5, ⟨c0, c1, c2, c3, lo, lr.map (·.2)⟩, lr, rfl, ⟨a1, fun x hx => ?_, ⟨b1, fun p hp => (b2 p hp).1⟩, rfl⟩, a2, fun p hp => (b2 p hp).2, by show lo.length ≤ _; omega, by omega⟩
    have := a2 x hx
    unfold opSz at this
    exact ⟨by unfold maxLen; omega, by unfold maxLen; omega⟩
set_option maxRecDepth 1000000 in
theorem arg_msgB {r : Reach} {b0 : Nat} {v : Value} {d : DataW H} {p : List MemPlace} (hv : Value.okWide Tryz.prog W r b0 27 v) (h : DataW.Trod enc Tryz.prog W base sp held 27 v d p) (hw : Light Tryz.prog 27 d) :
    ∃ vo vr m l, v = msgV m vo vr ∧ MsgAt W W.heap.size vo vr m l ∧ (∀ x ∈ m.ops, opSz x) ∧ (∀ p ∈ l, resSz p) ∧ m.ops.length ≤ 140737488351232 ∧ l.length ≤ 140737488351232 := by
  simp only [Value.okWide, Tryz.underlying27] at hv
  obtain ⟨cs, rfl, hsz, -⟩ := hv
  obtain ⟨fuel, hf⟩ := h
  obtain ⟨vo, vr, m, l, hx, h1, h2, h3, h4, h5⟩ := el_msgB fuel cs.toList _ hf hw (by rw [Array.length_toList, hsz]; kernel_rfl)
  refine ⟨vo, vr, m, l, ?_, h1, h2, h3, h4, h5⟩
  unfold msgV
  congr 1
  rw [← hx]
end
end Go.Proofs.YtcgecdiaddcfkaaGreatDoor
