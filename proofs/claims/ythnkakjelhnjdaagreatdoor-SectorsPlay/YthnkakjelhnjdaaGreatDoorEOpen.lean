/- How a list of acts is opened. -/
import Derived.Test.YthnkakjelhnjdaaGreatDoorGOpenS
import Derived.Test.YthnkakjelhnjdaaGreatDoorEActs
set_option linter.unusedSimpArgs false
set_option linter.unusedVariables false
namespace Go.Proofs.YthnkakjelhnjdaaGreatDoor
open Go.ChangeShapes Go.WideShapes Go.ChangeAt Go.RowKit Go.Deep

section
variable {H : Type} {enc : TypeId × Value → H} {W : World} {base : Nat} {sp : Nat → Bool} {held : Bool}
set_option maxRecDepth 1000000 in
theorem el_act (n : Nat) (cs : List Value) (x : DataW H × List MemPlace) (h : DataW.trod enc Tryz.prog W base sp held n 48 cs = some x) (hw : Light Tryz.prog 48 x.1) (hl : cs.length = 5) : ∃ a : ActV, cs = aCells a ∧ ActOk W a := by
  obtain ⟨xs, k, _, rfl, _, hxl, hf⟩ := DataW.trod_struct Tryz.underlying48 h
  match xs, hxl, cs, hl with
  | [y0, y1, y2, y3, y4], _, [v0, v1, v2, v3, v4], _ =>
    have g0 := hf 0 _ rfl
    have g1 := hf 1 _ rfl
    have g2 := hf 2 _ rfl
    have g3 := hf 3 _ rfl
    have g4 := hf 4 _ rfl
    simp only [show Tryz.prog.cellsOf 5 = 1 by kernel_rfl, show Tryz.prog.cellsOf 3 = 1 by kernel_rfl, show Tryz.prog.cellsOf 45 = 1 by kernel_rfl, show Tryz.prog.cellsOf 46 = 1 by kernel_rfl, List.drop_succ_cons, List.drop_zero, List.take_succ_cons, List.take_zero, List.getElem?_cons_succ, List.getElem?_cons_zero] at g0 g1 g2 g3 g4
    obtain ⟨z0, e0, _, w0⟩ := DataW.trod_int Tryz.underlying5 g0
    obtain ⟨z1, e1, _, w1⟩ := DataW.trod_int Tryz.underlying3 g1
    obtain ⟨z3, e3, _, w3⟩ := DataW.trod_int Tryz.underlying46 g3
    obtain ⟨z4, e4, _, w4⟩ := DataW.trod_int Tryz.underlying3 g4
    have hw2 : Light Tryz.prog 45 y2.1 := light_part Tryz.underlying48 hw (j := 2) (u := 45) rfl rfl
    obtain ⟨l, h1, -⟩ := @open_list _ enc W base sp held UInt8 ⟨0⟩ _ bCell (fun _ => True) 1 _ _ _ _ _ Tryz.underlying45 (by kernel_rfl) (by omega) (fun _ => rfl) el_u8 g2
    have hb := len_light (by_ := 1) Tryz.underlying45 (by kernel_rfl) g2 hw2 h1
    cases e0
    cases e1
    cases e3
    cases e4
    have b0 := bounds_u8 w0
    have b1 := bounds_i64 w1
    have b3 := bounds_u64 w3
    have b4 := bounds_i64 w4
    refine ⟨⟨z0.toNat, z1, v2, l, z3.toNat, z4⟩, ?_, ⟨by show z0.toNat < 256; omega, by show _ ≤ z1; omega, by show z1 ≤ _; omega, by show z3.toNat < _; omega, by show _ ≤ z4; omega, by show z4 ≤ _; omega, h1, by show l.length ≤ _; omega⟩⟩
    unfold aCells
    simp only
    rw [Int.toNat_of_nonneg b0.1, Int.toNat_of_nonneg b3.1]
set_option maxRecDepth 1000000 in
theorem arg_acts {r : Reach} {b0 : Nat} {v : Value} {d : DataW H} {p : List MemPlace} (hv : Value.okWide Tryz.prog W r b0 22 v) (h : DataW.Trod enc Tryz.prog W base sp held 22 v d p) (hw : Light Tryz.prog 22 d) : ∃ l : List ActV, ActsAt W v l := by
  obtain ⟨fuel, hf⟩ := arg_slice Tryz.underlying22 hv h
  obtain ⟨l, h1, h2⟩ := @open_listS _ enc W base sp held ActV ⟨⟨0, 0, .slice none 0 0, [], 0, 0⟩⟩ _ aCells (ActOk W) 5 _ _ _ _ _ Tryz.underlying22 (by kernel_rfl) (by omega) (fun _ => rfl) el_act hf hw
  exact ⟨l, h1, h2⟩
end
end Go.Proofs.YthnkakjelhnjdaaGreatDoor
