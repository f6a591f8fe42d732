/- How arguments are opened: lists of records, yes or no, what is kept. -/
import Derived.Test.YtjaidhglemnakaaWArgs
set_option linter.unusedSimpArgs false
set_option linter.unusedVariables false
namespace Go.Proofs.Ytjaidhglemnakaa
open Go.ChangeShapes Go.WideShapes Go.ChangeAt Go.RowKit Go.Deep

section
variable {H : Type} {enc : TypeId × Value → H} {W : World} {base : Nat} {sp : Nat → Bool} {held : Bool}
set_option maxRecDepth 1000000 in
theorem arg_kept {r : Reach} {b0 : Nat} {v : Value} {d : DataW H} {p : List MemPlace} (hv : Value.okWide Try.prog W r b0 45 v) (h : DataW.Trod enc Try.prog W base sp held 45 v d p) (hw : Light Try.prog 45 d) :
    ∃ (u : Value) (l : List (Value × List UInt8)) (f k t : Nat), v = .agg #[u, .int .u8 (f : Int), .int .u64 (k : Int), .int .u8 (t : Int)] ∧ RcArg W u l ∧ f < 256 ∧ k < 18446744073709551616 ∧ t < 256 := by
  simp only [Value.okWide, Try.underlying45] at hv
  obtain ⟨cs, rfl, hsz, -⟩ := hv
  obtain ⟨fuel, hf⟩ := h
  obtain ⟨L, hL⟩ : ∃ L : List Value, (Value.agg cs).cells.toList = L := ⟨_, rfl⟩
  have hcs : cs = L.toArray := by rw [← hL]; rfl
  have hl : L.length = 4 := by rw [← hL]; show cs.toList.length = 4; rw [Array.length_toList, hsz]; kernel_rfl
  rw [hL] at hf
  subst hcs
  clear hL hsz
  obtain ⟨xs, m, _, e2, _, hxl, hall⟩ := DataW.trod_struct Try.underlying45 hf
  match xs, hxl, L, hl with
  | [y0, y1, y2, y3], _, [v0, v1, v2, v3], _ =>
    have g0 := hall 0 _ rfl
    have g1 := hall 1 _ rfl
    have g2 := hall 2 _ rfl
    have g3 := hall 3 _ rfl
    simp only [show Try.prog.cellsOf 5 = 1 by kernel_rfl, show Try.prog.cellsOf 34 = 1 by kernel_rfl, show Try.prog.cellsOf 43 = 1 by kernel_rfl, List.drop_succ_cons, List.drop_zero, List.take_succ_cons, List.take_zero, List.getElem?_cons_succ, List.getElem?_cons_zero] at g0 g1 g2 g3
    obtain ⟨z1, e1, _, w1⟩ := DataW.trod_int Try.underlying5 g1
    obtain ⟨z2, e2', _, w2⟩ := DataW.trod_int Try.underlying43 g2
    obtain ⟨z3, e3, _, w3⟩ := DataW.trod_int Try.underlying5 g3
    have hd : d = DataW.agg (([y0, y1, y2, y3] : List (DataW H × List MemPlace)).map (·.1)) := by cases e2; rfl
    have hw0 : Light Try.prog 34 y0.1 := light_part (ds := ([y0, y1, y2, y3] : List (DataW H × List MemPlace)).map (·.1)) Try.underlying45 (by rw [← hd]; exact hw) (j := 0) (u := 34) rfl rfl
    obtain ⟨l, h1⟩ := recs_of g0 hw0
    cases e1
    cases e2'
    cases e3
    have b1 := bounds_u8 w1
    have b2 := bounds_u64 w2
    have b3 := bounds_u8 w3
    refine ⟨v0, l, z1.toNat, z2.toNat, z3.toNat, ?_, h1, by omega, by omega, by omega⟩
    rw [Int.toNat_of_nonneg b1.1, Int.toNat_of_nonneg b2.1, Int.toNat_of_nonneg b3.1]
end
end Go.Proofs.Ytjaidhglemnakaa
