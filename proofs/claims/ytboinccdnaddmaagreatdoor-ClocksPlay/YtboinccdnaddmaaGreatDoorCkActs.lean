/- A list of acts, of the law of the clocks. -/
import Derived.Test.YtboinccdnaddmaaGreatDoorGArr
import Derived.Test.YtboinccdnaddmaaGreatDoorGOpenS
set_option linter.unusedSimpArgs false
set_option linter.unusedVariables false
set_option maxRecDepth 1000000
namespace Go.Proofs.YtboinccdnaddmaaGreatDoor
open Go.ChangeShapes Go.WideShapes Go.ChangeAt Go.RowKit Go.Deep

structure ActC where
  kind : Nat
  id : Nat
  ticks : Int
def aCells (a : ActC) : List Value := [.int .u8 (a.kind : Int), .int .u32 (a.id : Int), .int .i64 a.ticks]
structure ActOk (w : World) (a : ActC) : Prop where
  kind : a.kind < 256
  id : a.id < 4294967296
structure ActsAt (w : World) (v : Value) (l : List ActC) : Prop where
  sl : SlAt 3 aCells w w.heap.size v l
  ok : ∀ a ∈ l, ActOk w a
theorem bd_u8 {n : Int} (h : (Lit.int .u8 n).wf = true) : 0 ≤ n ∧ n < 256 := by
  simp [Lit.wf, IntKind.min, IntKind.max, IntKind.signed, IntKind.bits] at h; omega
theorem bd_u32 {n : Int} (h : (Lit.int .u32 n).wf = true) : 0 ≤ n ∧ n < 4294967296 := by
  simp [Lit.wf, IntKind.min, IntKind.max, IntKind.signed, IntKind.bits] at h; omega
section
variable {H : Type} {enc : TypeId × Value → H} {W : World} {base : Nat} {sp : Nat → Bool} {held : Bool}
theorem el_act (n : Nat) (cs : List Value) (x : DataW H × List MemPlace) (h : DataW.trod enc Tryz.prog W base sp held n 45 cs = some x) (hw : Light Tryz.prog 45 x.1) (hl : cs.length = 3) : ∃ a : ActC, cs = aCells a ∧ ActOk W a := by
  obtain ⟨xs, k, _, rfl, _, hxl, hf⟩ := DataW.trod_struct Tryz.underlying45 h
  match xs, hxl, cs, hl with
  | [y0, y1, y2], _, [v0, v1, v2], _ =>
    have g0 := hf 0 _ rfl
    have g1 := hf 1 _ rfl
    have g2 := hf 2 _ rfl
    simp only [show Tryz.prog.cellsOf 5 = 1 by kernel_rfl, show Tryz.prog.cellsOf 43 = 1 by kernel_rfl, show Tryz.prog.cellsOf 3 = 1 by kernel_rfl, List.drop_succ_cons, List.drop_zero, List.take_succ_cons, List.take_zero, List.getElem?_cons_succ, List.getElem?_cons_zero] at g0 g1 g2
    obtain ⟨z0, e0, _, w0⟩ := DataW.trod_int Tryz.underlying5 g0
    obtain ⟨z1, e1, _, w1⟩ := DataW.trod_int Tryz.underlying43 g1
    obtain ⟨z2, e2, _, w2⟩ := DataW.trod_int Tryz.underlying3 g2
    cases e0
    cases e1
    cases e2
    have b0 := bd_u8 w0
    have b1 := bd_u32 w1
    clear hf h hw g0 g1 g2 w0 w1 w2
    refine ⟨⟨z0.toNat, z1.toNat, z2⟩, ?_, ⟨by show z0.toNat < 256; omega, by show z1.toNat < _; omega⟩⟩
    unfold aCells
    simp only
    rw [Int.toNat_of_nonneg b0.1, Int.toNat_of_nonneg b1.1]
theorem arg_acts {r : Reach} {b0 : Nat} {v : Value} {d : DataW H} {p : List MemPlace} (hv : Value.okWide Tryz.prog W r b0 22 v) (h : DataW.Trod enc Tryz.prog W base sp held 22 v d p) (hw : Light Tryz.prog 22 d) : ∃ l : List ActC, ActsAt W v l := by
  obtain ⟨fuel, hf⟩ := arg_slice Tryz.underlying22 hv h
  obtain ⟨l, h1, h2⟩ := @open_listS _ enc W base sp held ActC ⟨⟨0, 0, 0⟩⟩ _ aCells (ActOk W) 3 _ _ _ _ _ Tryz.underlying22 (by kernel_rfl) (by omega) (fun _ => rfl) el_act hf hw
  exact ⟨l, h1, h2⟩
end
end Go.Proofs.YtboinccdnaddmaaGreatDoor
