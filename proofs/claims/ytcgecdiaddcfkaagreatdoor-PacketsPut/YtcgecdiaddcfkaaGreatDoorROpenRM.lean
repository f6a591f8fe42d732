import Derived.Test.YtcgecdiaddcfkaaGreatDoorROpenSM
import Derived.Test.YtcgecdiaddcfkaaGreatDoorM23
/- How an argument list of results is opened, with what the form's reach says of it. -/
set_option linter.unusedSimpArgs false
set_option linter.unusedVariables false
namespace Go.Proofs.YtcgecdiaddcfkaaGreatDoor
open Go.ChangeShapes Go.WideShapes Go.ChangeAt Go.RowKit Go.Deep

section
variable {H : Type} {enc : TypeId × Value → H} {W : World} {base : Nat} {sp : Nat → Bool} {held : Bool}
theorem light_len {P : Program} {t e : TypeId} {fuel : Nat} {v : Value} {x : DataW H × List MemPlace} (ht : P.underlying t = some (.slice e)) (h : DataW.trod enc P W base sp held fuel t [v] = some x) (hw : Light P t x.1) {ao : Option Addr} {len cap : Nat} (hv : v = .slice ao len cap) : len * P.bytesOf e ≤ 140737488351232 := by
  rcases open_slice ht h with ⟨h1, _⟩ | ⟨a, ln, cp, m, n, D, Pl, h1, hb, hl, hm, hmm, hD, hx⟩
  · have e1 : v = .slice none 0 0 := by simpa using h1
    rw [e1] at hv
    simp only [Value.slice.injEq] at hv
    rw [← hv.2.1, Nat.zero_mul]; omega
  · have e1 : v = .slice (some a) ln cp := by simpa using h1
    rw [e1] at hv
    simp only [Value.slice.injEq] at hv
    have := hw ((ln + (m - ln)) * P.bytesOf e) (by rw [hD]; simp only [DataW.weights, ht, List.length_map, List.length_range]; exact List.mem_cons_self)
    rw [← hv.2.1]
    exact Nat.le_trans (Nat.mul_le_mul_right _ (by omega)) this
set_option maxRecDepth 1000000 in
theorem el_rowS (n : Nat) (cs : List Value) (x : DataW H × List MemPlace) (h : DataW.trod enc Tryz.prog W base sp held n 92 cs = some x) (hw : Light Tryz.prog 92 x.1) (hl : cs.length = 2) : ∃ a : RowD, cs = rowCells a ∧ rowSz a := by
  obtain ⟨xs, k, _, rfl, _, hxl, hf⟩ := DataW.trod_struct Tryz.underlying92 h
  match xs, hxl, cs, hl with
  | [y0, y1], _, [v0, v1], _ =>
    have g0 := hf 0 _ rfl
    have g1 := hf 1 _ rfl
    simp only [show Tryz.prog.cellsOf 9 = 1 by kernel_rfl, show Tryz.prog.cellsOf 23 = 1 by kernel_rfl, List.drop_succ_cons, List.drop_zero, List.take_succ_cons, List.take_zero, List.getElem?_cons_succ, List.getElem?_cons_zero] at g0 g1
    obtain ⟨s0, e0, x0, hw0⟩ := DataW.trod_string Tryz.underlying9 g0
    obtain ⟨z1, e1, _, hw1⟩ := DataW.trod_int Tryz.underlying23 g1
    obtain ⟨c1, rfl⟩ := u32_of_wf hw1
    cases e0
    cases e1
    subst x0
    exact ⟨⟨s0, c1⟩, rfl, light_text (light_part Tryz.underlying92 hw (j := 0) (u := 9) rfl rfl)⟩
set_option maxRecDepth 1000000 in
theorem el_resS (n : Nat) (cs : List Value) (x : DataW H × List MemPlace) (h : DataW.trod enc Tryz.prog W base sp held n 89 cs = some x) (hw : Light Tryz.prog 89 x.1) (hl : cs.length = 1) : ∃ a : ResP, cs = resCells a ∧ (RowsAt W W.heap.size a ∧ resSz a) := by
  obtain ⟨xs, k, _, rfl, _, hxl, hf⟩ := DataW.trod_struct Tryz.underlying89 h
  match xs, hxl, cs, hl with
  | [y0], _, [v0], _ =>
    have g0 := hf 0 _ rfl
    simp only [show Tryz.prog.cellsOf 87 = 1 by kernel_rfl, List.drop_succ_cons, List.drop_zero, List.take_succ_cons, List.take_zero, List.getElem?_cons_succ, List.getElem?_cons_zero] at g0
    have hw0 : Light Tryz.prog 87 y0.1 := light_part Tryz.underlying89 hw (j := 0) (u := 87) rfl rfl
    obtain ⟨l, h1, h2⟩ := @open_listS _ enc W base sp held RowD ⟨⟨ByteArray.empty, 0⟩⟩ _ rowCells rowSz 2 _ _ _ _ _ Tryz.underlying87 (by kernel_rfl) (by omega) (fun _ => rfl) el_rowS g0 hw0
    obtain ⟨ao, cap, hv, -, -, -⟩ := id h1
    have hb := light_len Tryz.underlying87 g0 hw0 hv
    rw [show Tryz.prog.bytesOf 92 = 24 by kernel_rfl] at hb
    exact ⟨(v0, l), rfl, ⟨h1, fun a ha => by have := h2 a ha; unfold rowSz at this; show a.key.size ≤ maxLen; unfold maxLen; omega⟩, by show l.length ≤ _; omega, h2⟩
set_option maxRecDepth 1000000 in
theorem arg_resS {r : Reach} {b0 : Nat} {v : Value} {d : DataW H} {p : List MemPlace} (hv : Value.okWide Tryz.prog W r b0 25 v) (h : DataW.Trod enc Tryz.prog W base sp held 25 v d p) (hw : Light Tryz.prog 25 d) : ∃ l : List ResP, ResAt W W.heap.size v l ∧ ∀ p ∈ l, resSz p := by
  obtain ⟨fuel, hf⟩ := arg_slice Tryz.underlying25 hv h
  obtain ⟨l, h1, h2⟩ := @open_listS _ enc W base sp held ResP ⟨(.slice none 0 0, [])⟩ _ resCells (fun p => RowsAt W W.heap.size p ∧ resSz p) 1 _ _ _ _ _ Tryz.underlying25 (by kernel_rfl) (by omega) (fun _ => rfl) el_resS hf hw
  exact ⟨l, ⟨h1, fun p hp => (h2 p hp).1⟩, fun p hp => (h2 p hp).2⟩
end
end Go.Proofs.YtcgecdiaddcfkaaGreatDoor
