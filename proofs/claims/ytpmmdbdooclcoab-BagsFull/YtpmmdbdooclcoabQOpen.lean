/- How arguments are opened: ops, rows, results, messages. -/
import Derived.Test.YtpmmdbdooclcoabQSize
import Derived.Test.YtpmmdbdooclcoabGOpenS
set_option linter.unusedSimpArgs false
set_option linter.unusedVariables false
namespace Go.Proofs.Ytpmmdbdooclcoab
open Go.ChangeShapes Go.WideShapes Go.ChangeAt Go.RowKit Go.Deep

section
variable {H : Type} {enc : TypeId × Value → H} {W : World} {base : Nat} {sp : Nat → Bool} {held : Bool}
set_option maxRecDepth 1000000 in
theorem el_op (n : Nat) (cs : List Value) (x : DataW H × List MemPlace) (h : DataW.trod enc Try.prog W base sp held n 63 cs = some x) (hl : cs.length = 4) : ∃ a : OpD, cs = opCells a ∧ opSm a := by
  obtain ⟨xs, k, _, _, _, hxl, hf⟩ := DataW.trod_struct Try.underlying63 h
  match xs, hxl, cs, hl with
  | [y0, y1, y2, y3], _, [v0, v1, v2, v3], _ =>
    have g0 := hf 0 _ rfl
    have g1 := hf 1 _ rfl
    have g2 := hf 2 _ rfl
    have g3 := hf 3 _ rfl
    simp only [show Try.prog.cellsOf 61 = 1 by kernel_rfl, show Try.prog.cellsOf 9 = 1 by kernel_rfl, show Try.prog.cellsOf 23 = 1 by kernel_rfl, List.drop_succ_cons, List.drop_zero, List.take_succ_cons, List.take_zero, List.getElem?_cons_succ, List.getElem?_cons_zero] at g0 g1 g2 g3
    obtain ⟨z0, e0, _, hw0⟩ := DataW.trod_int Try.underlying61 g0
    obtain ⟨s1, e1, _, hw1⟩ := DataW.trod_string Try.underlying9 g1
    obtain ⟨s2, e2, _, hw2⟩ := DataW.trod_string Try.underlying9 g2
    obtain ⟨z3, e3, _, hw3⟩ := DataW.trod_int Try.underlying23 g3
    obtain ⟨c0, rfl⟩ := u8_of_wf hw0
    obtain ⟨c3, rfl⟩ := u32_of_wf hw3
    cases e0
    cases e1
    cases e2
    cases e3
    exact ⟨⟨c0, s1, s2, c3⟩, rfl, hw1, hw2⟩
set_option maxRecDepth 1000000 in
theorem el_row (n : Nat) (cs : List Value) (x : DataW H × List MemPlace) (h : DataW.trod enc Try.prog W base sp held n 74 cs = some x) (hl : cs.length = 2) : ∃ a : RowD, cs = rowCells a ∧ rowSm a := by
  obtain ⟨xs, k, _, _, _, hxl, hf⟩ := DataW.trod_struct Try.underlying74 h
  match xs, hxl, cs, hl with
  | [y0, y1], _, [v0, v1], _ =>
    have g0 := hf 0 _ rfl
    have g1 := hf 1 _ rfl
    simp only [show Try.prog.cellsOf 9 = 1 by kernel_rfl, show Try.prog.cellsOf 23 = 1 by kernel_rfl, List.drop_succ_cons, List.drop_zero, List.take_succ_cons, List.take_zero, List.getElem?_cons_succ, List.getElem?_cons_zero] at g0 g1
    obtain ⟨s0, e0, _, hw0⟩ := DataW.trod_string Try.underlying9 g0
    obtain ⟨z1, e1, _, hw1⟩ := DataW.trod_int Try.underlying23 g1
    obtain ⟨c1, rfl⟩ := u32_of_wf hw1
    cases e0
    cases e1
    exact ⟨⟨s0, c1⟩, rfl, hw0⟩
set_option maxRecDepth 1000000 in
theorem el_res (n : Nat) (cs : List Value) (x : DataW H × List MemPlace) (h : DataW.trod enc Try.prog W base sp held n 67 cs = some x) (hl : cs.length = 1) : ∃ a : ResP, cs = resCells a ∧ RowsAt W W.heap.size a := by
  obtain ⟨xs, k, _, _, _, hxl, hf⟩ := DataW.trod_struct Try.underlying67 h
  match xs, hxl, cs, hl with
  | [y0], _, [v0], _ =>
    have g0 := hf 0 _ rfl
    simp only [show Try.prog.cellsOf 65 = 1 by kernel_rfl, List.drop_succ_cons, List.drop_zero, List.take_succ_cons, List.take_zero, List.getElem?_cons_succ, List.getElem?_cons_zero] at g0
    obtain ⟨l, h1, h2⟩ := @open_list _ enc W base sp held RowD ⟨⟨ByteArray.empty, 0⟩⟩ _ rowCells rowSm 2 _ _ _ _ _ Try.underlying65 (by kernel_rfl) (by omega) (fun _ => rfl) el_row g0
    exact ⟨(v0, l), rfl, h1, h2⟩
theorem light_text {P : Program} {t : TypeId} {s : ByteArray} (hw : Light P t (.lit (.string s.data.toList) : DataW H)) : s.size ≤ 140737488351232 := hw s.size (by simp only [DataW.weights]; exact List.mem_singleton.mpr rfl)
set_option maxRecDepth 1000000 in
theorem el_opS (n : Nat) (cs : List Value) (x : DataW H × List MemPlace) (h : DataW.trod enc Try.prog W base sp held n 63 cs = some x) (hw : Light Try.prog 63 x.1) (hl : cs.length = 4) : ∃ a : OpD, cs = opCells a ∧ opSz a := by
  obtain ⟨xs, k, _, rfl, _, hxl, hf⟩ := DataW.trod_struct Try.underlying63 h
  match xs, hxl, cs, hl with
  | [y0, y1, y2, y3], _, [v0, v1, v2, v3], _ =>
    have g0 := hf 0 _ rfl
    have g1 := hf 1 _ rfl
    have g2 := hf 2 _ rfl
    have g3 := hf 3 _ rfl
    simp only [show Try.prog.cellsOf 61 = 1 by kernel_rfl, show Try.prog.cellsOf 9 = 1 by kernel_rfl, show Try.prog.cellsOf 23 = 1 by kernel_rfl, List.drop_succ_cons, List.drop_zero, List.take_succ_cons, List.take_zero, List.getElem?_cons_succ, List.getElem?_cons_zero] at g0 g1 g2 g3
    obtain ⟨z0, e0, _, hw0⟩ := DataW.trod_int Try.underlying61 g0
    obtain ⟨s1, e1, x1, hw1⟩ := DataW.trod_string Try.underlying9 g1
    obtain ⟨s2, e2, x2, hw2⟩ := DataW.trod_string Try.underlying9 g2
    obtain ⟨z3, e3, _, hw3⟩ := DataW.trod_int Try.underlying23 g3
    obtain ⟨c0, rfl⟩ := u8_of_wf hw0
    obtain ⟨c3, rfl⟩ := u32_of_wf hw3
    cases e0
    cases e1
    cases e2
    cases e3
    subst x1
    subst x2
    exact ⟨⟨c0, s1, s2, c3⟩, rfl, light_text (light_part Try.underlying63 hw (j := 1) (u := 9) rfl rfl), light_text (light_part Try.underlying63 hw (j := 2) (u := 9) rfl rfl)⟩
theorem light_len {P : Program} {t e : TypeId} {fuel : Nat} {v : Value} {x : DataW H × List MemPlace} (ht : P.underlying t = some (.slice e)) (h : DataW.trod enc P W base sp held fuel t [v] = some x) (hw : Light P t x.1) {ao : Option Addr} {len cap : Nat} (hv : v = .slice ao len cap) : len * P.bytesOf e ≤ 140737488351232 := by
  rcases open_slice ht h with ⟨h1, _⟩ | ⟨a, ln, cp, m, n, D, Pl, h1, hb, hl, hm, hmm, hD, hx⟩
  · have e1 : v = .slice none 0 0 := by simpa using h1
    rw [e1] at hv
    simp only [Value.slice.injEq] at hv
    rw [← hv.2.1, Nat.zero_mul]; omega
  · have e1 : v = .slice (some a) ln cp := by simpa using h1
    rw [e1] at hv
    simp only [Value.slice.injEq] at hv
    have := hw ((ln + (m - ln)) * P.bytesOf e) (by rw [hD]; simp only [DataW.weights, ht, List.length_map, List.length_range]; exact List.mem_cons_self)
    rw [← hv.2.1]
    exact Nat.le_trans (Nat.mul_le_mul_right _ (by omega)) this
set_option maxRecDepth 1000000 in
theorem el_rowS (n : Nat) (cs : List Value) (x : DataW H × List MemPlace) (h : DataW.trod enc Try.prog W base sp held n 74 cs = some x) (hw : Light Try.prog 74 x.1) (hl : cs.length = 2) : ∃ a : RowD, cs = rowCells a ∧ rowSz a := by
  obtain ⟨xs, k, _, rfl, _, hxl, hf⟩ := DataW.trod_struct Try.underlying74 h
  match xs, hxl, cs, hl with
  | [y0, y1], _, [v0, v1], _ =>
    have g0 := hf 0 _ rfl
    have g1 := hf 1 _ rfl
    simp only [show Try.prog.cellsOf 9 = 1 by kernel_rfl, show Try.prog.cellsOf 23 = 1 by kernel_rfl, List.drop_succ_cons, List.drop_zero, List.take_succ_cons, List.take_zero, List.getElem?_cons_succ, List.getElem?_cons_zero] at g0 g1
    obtain ⟨s0, e0, x0, hw0⟩ := DataW.trod_string Try.underlying9 g0
    obtain ⟨z1, e1, _, hw1⟩ := DataW.trod_int Try.underlying23 g1
    obtain ⟨c1, rfl⟩ := u32_of_wf hw1
    cases e0
    cases e1
    subst x0
    exact ⟨⟨s0, c1⟩, rfl, light_text (light_part Try.underlying74 hw (j := 0) (u := 9) rfl rfl)⟩
set_option maxRecDepth 1000000 in
theorem el_resS (n : Nat) (cs : List Value) (x : DataW H × List MemPlace) (h : DataW.trod enc Try.prog W base sp held n 67 cs = some x) (hw : Light Try.prog 67 x.1) (hl : cs.length = 1) : ∃ a : ResP, cs = resCells a ∧ (RowsAt W W.heap.size a ∧ resSz a) := by
  obtain ⟨xs, k, _, rfl, _, hxl, hf⟩ := DataW.trod_struct Try.underlying67 h
  match xs, hxl, cs, hl with
  | [y0], _, [v0], _ =>
    have g0 := hf 0 _ rfl
    simp only [show Try.prog.cellsOf 65 = 1 by kernel_rfl, List.drop_succ_cons, List.drop_zero, List.take_succ_cons, List.take_zero, List.getElem?_cons_succ, List.getElem?_cons_zero] at g0
    have hw0 : Light Try.prog 65 y0.1 := light_part Try.underlying67 hw (j := 0) (u := 65) rfl rfl
    obtain ⟨l, h1, h2⟩ := @open_listS _ enc W base sp held RowD ⟨⟨ByteArray.empty, 0⟩⟩ _ rowCells rowSz 2 _ _ _ _ _ Try.underlying65 (by kernel_rfl) (by omega) (fun _ => rfl) el_rowS g0 hw0
    obtain ⟨ao, cap, hv, -, -, -⟩ := id h1
    have hb := light_len Try.underlying65 g0 hw0 hv
    rw [show Try.prog.bytesOf 74 = 24 by kernel_rfl] at hb
    exact ⟨(v0, l), rfl, ⟨h1, fun a ha => by have := h2 a ha; unfold rowSz at this; show a.key.size ≤ maxLen; unfold maxLen; omega⟩, by show l.length ≤ _; omega, h2⟩
set_option maxRecDepth 1000000 in
theorem el_msg (n : Nat) (cs : List Value) (x : DataW H × List MemPlace) (h : DataW.trod enc Try.prog W base sp held n 27 cs = some x) (hl : cs.length = 6) :
    ∃ vo vr m l, cs = [.int .u8 (m.say.toNat : Int), .int .u8 (m.src.toNat : Int), .int .u8 (m.dst.toNat : Int), .int .u32 (m.g.toNat : Int), vo, vr] ∧ MsgAt W W.heap.size vo vr m l := by
  obtain ⟨xs, k, _, rfl, _, hxl, hf⟩ := DataW.trod_struct Try.underlying27 h
  match xs, hxl, cs, hl with
  | [y0, y1, y2, y3, y4, y5], _, [v0, v1, v2, v3, v4, v5], _ =>
    have g0 := hf 0 _ rfl
    have g1 := hf 1 _ rfl
    have g2 := hf 2 _ rfl
    have g3 := hf 3 _ rfl
    have g4 := hf 4 _ rfl
    have g5 := hf 5 _ rfl
    simp only [show Try.prog.cellsOf 22 = 1 by kernel_rfl, show Try.prog.cellsOf 5 = 1 by kernel_rfl, show Try.prog.cellsOf 23 = 1 by kernel_rfl, show Try.prog.cellsOf 24 = 1 by kernel_rfl, show Try.prog.cellsOf 25 = 1 by kernel_rfl, List.drop_succ_cons, List.drop_zero, List.take_succ_cons, List.take_zero, List.getElem?_cons_succ, List.getElem?_cons_zero] at g0 g1 g2 g3 g4 g5
    obtain ⟨z0, e0, _, hw0⟩ := DataW.trod_int Try.underlying22 g0
    obtain ⟨z1, e1, _, hw1⟩ := DataW.trod_int Try.underlying5 g1
    obtain ⟨z2, e2, _, hw2⟩ := DataW.trod_int Try.underlying5 g2
    obtain ⟨z3, e3, _, hw3⟩ := DataW.trod_int Try.underlying23 g3
    obtain ⟨c0, rfl⟩ := u8_of_wf hw0
    obtain ⟨c1, rfl⟩ := u8_of_wf hw1
    obtain ⟨c2, rfl⟩ := u8_of_wf hw2
    obtain ⟨c3, rfl⟩ := u32_of_wf hw3
    obtain ⟨lo, a1, a2⟩ := @open_list _ enc W base sp held OpD ⟨⟨0, ByteArray.empty, ByteArray.empty, 0⟩⟩ _ opCells opSm 4 _ _ _ _ _ Try.underlying24 (by kernel_rfl) (by omega) (fun _ => rfl) el_op g4
    obtain ⟨lr, b1, b2⟩ := @open_list _ enc W base sp held ResP ⟨(.slice none 0 0, [])⟩ _ resCells (RowsAt W W.heap.size) 1 _ _ _ _ _ Try.underlying25 (by kernel_rfl) (by omega) (fun _ => rfl) el_res g5
    cases e0
    cases e1
    cases e2
    cases e3
    exact ⟨v4, v5, ⟨c0, c1, c2, c3, lo, lr.map (·.2)⟩, lr, rfl, ⟨a1, a2, ⟨b1, b2⟩, rfl⟩⟩
set_option maxRecDepth 1000000 in
theorem arg_msg {r : Reach} {b0 : Nat} {v : Value} {d : DataW H} {p : List MemPlace} (hv : Value.okWide Try.prog W r b0 27 v) (h : DataW.Trod enc Try.prog W base sp held 27 v d p) :
    ∃ vo vr m l, v = msgV m vo vr ∧ MsgAt W W.heap.size vo vr m l := by
  simp only [Value.okWide, Try.underlying27] at hv
  obtain ⟨cs, rfl, hsz, -⟩ := hv
  obtain ⟨fuel, hf⟩ := h
  obtain ⟨vo, vr, m, l, hx, h1⟩ := el_msg fuel cs.toList _ hf (by rw [Array.length_toList, hsz]; kernel_rfl)
  refine ⟨vo, vr, m, l, ?_, h1⟩
  unfold msgV
  congr 1
  rw [← hx]
set_option maxRecDepth 1000000 in
theorem el_msgB (n : Nat) (cs : List Value) (x : DataW H × List MemPlace) (h : DataW.trod enc Try.prog W base sp held n 27 cs = some x) (hw : Light Try.prog 27 x.1) (hl : cs.length = 6) :
    ∃ vo vr m l, cs = [.int .u8 (m.say.toNat : Int), .int .u8 (m.src.toNat : Int), .int .u8 (m.dst.toNat : Int), .int .u32 (m.g.toNat : Int), vo, vr] ∧ MsgAt W W.heap.size vo vr m l ∧ (∀ x ∈ m.ops, opSz x) ∧ (∀ p ∈ l, resSz p) ∧ m.ops.length ≤ 140737488351232 ∧ l.length ≤ 140737488351232 := by
  obtain ⟨xs, k, _, rfl, _, hxl, hf⟩ := DataW.trod_struct Try.underlying27 h
  match xs, hxl, cs, hl with
  | [y0, y1, y2, y3, y4, y5], _, [v0, v1, v2, v3, v4, v5], _ =>
    have g0 := hf 0 _ rfl
    have g1 := hf 1 _ rfl
    have g2 := hf 2 _ rfl
    have g3 := hf 3 _ rfl
    have g4 := hf 4 _ rfl
    have g5 := hf 5 _ rfl
    simp only [show Try.prog.cellsOf 22 = 1 by kernel_rfl, show Try.prog.cellsOf 5 = 1 by kernel_rfl, show Try.prog.cellsOf 23 = 1 by kernel_rfl, show Try.prog.cellsOf 24 = 1 by kernel_rfl, show Try.prog.cellsOf 25 = 1 by kernel_rfl, List.drop_succ_cons, List.drop_zero, List.take_succ_cons, List.take_zero, List.getElem?_cons_succ, List.getElem?_cons_zero] at g0 g1 g2 g3 g4 g5
    obtain ⟨z0, e0, _, hw0⟩ := DataW.trod_int Try.underlying22 g0
    obtain ⟨z1, e1, _, hw1⟩ := DataW.trod_int Try.underlying5 g1
    obtain ⟨z2, e2, _, hw2⟩ := DataW.trod_int Try.underlying5 g2
    obtain ⟨z3, e3, _, hw3⟩ := DataW.trod_int Try.underlying23 g3
    obtain ⟨c0, rfl⟩ := u8_of_wf hw0
    obtain ⟨c1, rfl⟩ := u8_of_wf hw1
    obtain ⟨c2, rfl⟩ := u8_of_wf hw2
    obtain ⟨c3, rfl⟩ := u32_of_wf hw3
    have hw4 : Light Try.prog 24 y4.1 := light_part Try.underlying27 hw (j := 4) (u := 24) rfl rfl
    have hw5 : Light Try.prog 25 y5.1 := light_part Try.underlying27 hw (j := 5) (u := 25) rfl rfl
    obtain ⟨lo, a1, a2⟩ := @open_listS _ enc W base sp held OpD ⟨⟨0, ByteArray.empty, ByteArray.empty, 0⟩⟩ _ opCells opSz 4 _ _ _ _ _ Try.underlying24 (by kernel_rfl) (by omega) (fun _ => rfl) el_opS g4 hw4
    obtain ⟨lr, b1, b2⟩ := @open_listS _ enc W base sp held ResP ⟨(.slice none 0 0, [])⟩ _ resCells (fun p => RowsAt W W.heap.size p ∧ resSz p) 1 _ _ _ _ _ Try.underlying25 (by kernel_rfl) (by omega) (fun _ => rfl) el_resS g5 hw5
    obtain ⟨xo, xc, xv, -, -, -⟩ := id a1
    have bo := light_len Try.underlying24 g4 hw4 xv
    rw [show Try.prog.bytesOf 63 = 48 by kernel_rfl] at bo
    obtain ⟨yo, yc, yv, -, -, -⟩ := id b1
    have br := light_len Try.underlying25 g5 hw5 yv
    rw [show Try.prog.bytesOf 67 = 24 by kernel_rfl] at br
    cases e0
    cases e1
    cases e2
    cases e3
    refine ⟨v4, v5, ⟨c0, c1, c2, c3, lo, lr.map (·.2)⟩, lr, rfl, ⟨a1, fun x hx => ?_, ⟨b1, fun p hp => (b2 p hp).1⟩, rfl⟩, a2, fun p hp => (b2 p hp).2, by show lo.length ≤ _; omega, by omega⟩
    have := a2 x hx
    unfold opSz at this
    exact ⟨by unfold maxLen; omega, by unfold maxLen; omega⟩
set_option maxRecDepth 1000000 in
theorem arg_msgB {r : Reach} {b0 : Nat} {v : Value} {d : DataW H} {p : List MemPlace} (hv : Value.okWide Try.prog W r b0 27 v) (h : DataW.Trod enc Try.prog W base sp held 27 v d p) (hw : Light Try.prog 27 d) :
    ∃ vo vr m l, v = msgV m vo vr ∧ MsgAt W W.heap.size vo vr m l ∧ (∀ x ∈ m.ops, opSz x) ∧ (∀ p ∈ l, resSz p) ∧ m.ops.length ≤ 140737488351232 ∧ l.length ≤ 140737488351232 := by
  simp only [Value.okWide, Try.underlying27] at hv
  obtain ⟨cs, rfl, hsz, -⟩ := hv
  obtain ⟨fuel, hf⟩ := h
  obtain ⟨vo, vr, m, l, hx, h1, h2, h3, h4, h5⟩ := el_msgB fuel cs.toList _ hf hw (by rw [Array.length_toList, hsz]; kernel_rfl)
  refine ⟨vo, vr, m, l, ?_, h1, h2, h3, h4, h5⟩
  unfold msgV
  congr 1
  rw [← hx]
end
end Go.Proofs.Ytpmmdbdooclcoab
