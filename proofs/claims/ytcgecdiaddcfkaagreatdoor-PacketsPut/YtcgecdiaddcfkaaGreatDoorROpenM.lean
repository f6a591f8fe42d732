import Derived.Test.YtcgecdiaddcfkaaGreatDoorM5
import Derived.Test.YtcgecdiaddcfkaaGreatDoorM3
import Derived.Deep.Slices
import Derived.ProofKit
import Derived.OpenShut
import Derived.ChangeOld
import Derived.Below
import Derived.SizedLaws
/- How arguments are opened: lists of bytes, of ops, of changes, of results; an op, a change by value. -/
set_option linter.unusedSimpArgs false
set_option linter.unusedVariables false
namespace Go.Proofs.YtcgecdiaddcfkaaGreatDoor
open Go.ChangeShapes Go.WideShapes Go.ChangeAt Go.RowKit Go.Deep

theorem own : ownKnob Tryz.prog.godebug = none := by kernel_rfl
theorem laidOut : laidOutB Tryz.prog = true := by kernel_rfl

section
variable {H : Type} {enc : TypeId × Value → H} {W : World} {base : Nat} {sp : Nat → Bool} {held : Bool}

theorem u8_of_wf {n : Int} (h : (Lit.int .u8 n).wf = true) : ∃ c : UInt8, n = (c.toNat : Int) := by
  have hb := bounds_u8 h
  exact ⟨UInt8.ofNat n.toNat, by rw [u8_nat (by omega)]; omega⟩
theorem u32_of_wf {n : Int} (h : (Lit.int .u32 n).wf = true) : ∃ c : UInt32, n = (c.toNat : Int) := by
  have hb := bounds_u32 h
  exact ⟨UInt32.ofNat n.toNat, by rw [u32_nat (by omega)]; omega⟩

theorem open_list {α : Type} [Inhabited α] {P : Program} {f : α → List Value} {sm : α → Prop} {size : Nat} {t e : TypeId} {fuel : Nat} {v : Value} {x : DataW H × List MemPlace} (ht : P.underlying t = some (.slice e)) (hc : P.cellsOf e = size) (h0 : 0 < size) (hf : ∀ a, (f a).length = size)
    (hel : ∀ n cs x, DataW.trod enc P W base sp held n e cs = some x → cs.length = size → ∃ a : α, cs = f a ∧ sm a) (h : DataW.trod enc P W base sp held fuel t [v] = some x) : ∃ l : List α, SlAt size f W W.heap.size v l ∧ ∀ a ∈ l, sm a := by
  rcases open_slice ht h with ⟨h1, _⟩ | ⟨a, len, cap, m, n, D, Pl, h1, hb, hl, hm, hmm, _, hx⟩
  · have hv : v = .slice none 0 0 := by simpa using h1
    subst hv
    exact ⟨[], ⟨none, 0, rfl, Nat.le_refl _, Nat.zero_le _, fun hp => by simp at hp⟩, fun a ha => by cases ha⟩
  · have hv : v = .slice (some a) len cap := by simpa using h1
    subst hv
    have hlm : len ≤ m := by rw [hmm]; split <;> omega
    have each : ∀ i, i < len → ∃ q : α, W.cells? base (a.add (i * size)) size = some (f q) ∧ sm q := fun i hi => by
      obtain ⟨cs', g1, g2⟩ := hx i (by omega)
      rw [hc] at g1
      obtain ⟨q, rfl, hq⟩ := hel n cs' _ g2 (World.cells?_some g1).2.1
      exact ⟨q, g1, hq⟩
    obtain ⟨q, hq⟩ := choose_lt each
    refine ⟨(List.range len).map q, ⟨some a, cap, by simp, by simpa using hl, hm, fun hp => ?_⟩, fun y hy => ?_⟩
    · have hp' : 0 < len := by simpa using hp
      have c0 := (World.cells?_some (hq 0 hp').1).2.2 0 h0
      rw [add_add] at c0
      simp only [Nat.zero_mul, Nat.add_zero, Addr.add, if_true] at c0
      have hsome : ∃ u, W.cell? a = some u := ⟨(f (q 0))[0]'(by rw [hf]; exact h0), by rw [c0]; simp⟩
      obtain ⟨u, hu⟩ := hsome
      obtain ⟨b, off, spot⟩ := a
      have hspot : spot = none := by
        cases spot with
        | none => rfl
        | some s => simp [World.cell?] at hu; split at hu <;> simp_all
      subst hspot
      refine ⟨b, off, rfl, World.block_lt_of_cell? W _ hu, fun i hi j u hu => ?_⟩
      have hi' : i < len := by simpa using hi
      have hj : j < size := by
        rcases Nat.lt_or_ge j size with h' | h'
        · exact h'
        · rw [List.getElem?_eq_none (by rw [hf]; exact h')] at hu; cases hu
      have cj := (World.cells?_some (hq i hi').1).2.2 j hj
      rw [add_add, Addr.add_lit] at cj
      rw [Nat.add_assoc, cj]
      simpa using hu
    · obtain ⟨i, hi, rfl⟩ := List.mem_map.mp hy
      exact (hq i (by simpa using hi)).2

set_option maxRecDepth 1000000 in
theorem el_u8 (n : Nat) (cs : List Value) (x : DataW H × List MemPlace) (h : DataW.trod enc Tryz.prog W base sp held n 5 cs = some x) (hl : cs.length = 1) : ∃ a : UInt8, cs = bCell a ∧ True := by
  obtain ⟨z, rfl, _, hw⟩ := DataW.trod_int Tryz.underlying5 h
  obtain ⟨c, rfl⟩ := u8_of_wf hw
  exact ⟨c, rfl, trivial⟩
set_option maxRecDepth 1000000 in
theorem el_op (n : Nat) (cs : List Value) (x : DataW H × List MemPlace) (h : DataW.trod enc Tryz.prog W base sp held n 85 cs = some x) (hl : cs.length = 4) : ∃ a : OpD, cs = opCells a ∧ opSm a := by
  obtain ⟨xs, k, _, _, _, hxl, hf⟩ := DataW.trod_struct Tryz.underlying85 h
  match xs, hxl, cs, hl with
  | [y0, y1, y2, y3], _, [v0, v1, v2, v3], _ =>
    have g0 := hf 0 _ rfl
    have g1 := hf 1 _ rfl
    have g2 := hf 2 _ rfl
    have g3 := hf 3 _ rfl
    simp only [show Tryz.prog.cellsOf 83 = 1 by kernel_rfl, show Tryz.prog.cellsOf 9 = 1 by kernel_rfl, show Tryz.prog.cellsOf 23 = 1 by kernel_rfl, List.drop_succ_cons, List.drop_zero, List.take_succ_cons, List.take_zero, List.getElem?_cons_succ, List.getElem?_cons_zero] at g0 g1 g2 g3
    obtain ⟨z0, e0, _, hw0⟩ := DataW.trod_int Tryz.underlying83 g0
    obtain ⟨s1, e1, _, hw1⟩ := DataW.trod_string Tryz.underlying9 g1
    obtain ⟨s2, e2, _, hw2⟩ := DataW.trod_string Tryz.underlying9 g2
    obtain ⟨z3, e3, _, hw3⟩ := DataW.trod_int Tryz.underlying23 g3
    obtain ⟨c0, rfl⟩ := u8_of_wf hw0
    obtain ⟨c3, rfl⟩ := u32_of_wf hw3
    cases e0
    cases e1
    cases e2
    cases e3
    exact ⟨⟨c0, s1, s2, c3⟩, rfl, hw1, hw2⟩
set_option maxRecDepth 1000000 in
theorem el_ch (n : Nat) (cs : List Value) (x : DataW H × List MemPlace) (h : DataW.trod enc Tryz.prog W base sp held n 144 cs = some x) (hl : cs.length = 3) : ∃ a : ChD, cs = chCells a ∧ chSm a := by
  obtain ⟨xs, k, _, _, _, hxl, hf⟩ := DataW.trod_struct Tryz.underlying144 h
  match xs, hxl, cs, hl with
  | [y0, y1, y2], _, [v0, v1, v2], _ =>
    have g0 := hf 0 _ rfl
    have g1 := hf 1 _ rfl
    have g2 := hf 2 _ rfl
    simp only [show Tryz.prog.cellsOf 4 = 1 by kernel_rfl, show Tryz.prog.cellsOf 9 = 1 by kernel_rfl, show Tryz.prog.cellsOf 23 = 1 by kernel_rfl, List.drop_succ_cons, List.drop_zero, List.take_succ_cons, List.take_zero, List.getElem?_cons_succ, List.getElem?_cons_zero] at g0 g1 g2
    obtain ⟨s0, e0, _, hw0⟩ := DataW.trod_string Tryz.underlying9 g0
    obtain ⟨z1, e1, _, hw1⟩ := DataW.trod_int Tryz.underlying23 g1
    obtain ⟨b2, e2, _⟩ := DataW.trod_bool Tryz.underlying4 g2
    obtain ⟨c1, rfl⟩ := u32_of_wf hw1
    cases e0
    cases e1
    cases e2
    exact ⟨⟨s0, c1, b2⟩, rfl, hw0⟩
set_option maxRecDepth 1000000 in
theorem el_row (n : Nat) (cs : List Value) (x : DataW H × List MemPlace) (h : DataW.trod enc Tryz.prog W base sp held n 92 cs = some x) (hl : cs.length = 2) : ∃ a : RowD, cs = rowCells a ∧ rowSm a := by
  obtain ⟨xs, k, _, _, _, hxl, hf⟩ := DataW.trod_struct Tryz.underlying92 h
  match xs, hxl, cs, hl with
  | [y0, y1], _, [v0, v1], _ =>
    have g0 := hf 0 _ rfl
    have g1 := hf 1 _ rfl
    simp only [show Tryz.prog.cellsOf 9 = 1 by kernel_rfl, show Tryz.prog.cellsOf 23 = 1 by kernel_rfl, List.drop_succ_cons, List.drop_zero, List.take_succ_cons, List.take_zero, List.getElem?_cons_succ, List.getElem?_cons_zero] at g0 g1
    obtain ⟨s0, e0, _, hw0⟩ := DataW.trod_string Tryz.underlying9 g0
    obtain ⟨z1, e1, _, hw1⟩ := DataW.trod_int Tryz.underlying23 g1
    obtain ⟨c1, rfl⟩ := u32_of_wf hw1
    cases e0
    cases e1
    exact ⟨⟨s0, c1⟩, rfl, hw0⟩
set_option maxRecDepth 1000000 in
theorem el_res (n : Nat) (cs : List Value) (x : DataW H × List MemPlace) (h : DataW.trod enc Tryz.prog W base sp held n 89 cs = some x) (hl : cs.length = 1) : ∃ a : ResP, cs = resCells a ∧ RowsAt W W.heap.size a := by
  obtain ⟨xs, k, _, _, _, hxl, hf⟩ := DataW.trod_struct Tryz.underlying89 h
  match xs, hxl, cs, hl with
  | [y0], _, [v0], _ =>
    have g0 := hf 0 _ rfl
    simp only [show Tryz.prog.cellsOf 87 = 1 by kernel_rfl, List.drop_succ_cons, List.drop_zero, List.take_succ_cons, List.take_zero, List.getElem?_cons_succ, List.getElem?_cons_zero] at g0
    obtain ⟨l, h1, h2⟩ := @open_list _ enc W base sp held RowD ⟨⟨ByteArray.empty, 0⟩⟩ _ rowCells rowSm 2 _ _ _ _ _ Tryz.underlying87 (by kernel_rfl) (by omega) (fun _ => rfl) el_row g0
    exact ⟨(v0, l), rfl, h1, h2⟩

set_option maxRecDepth 1000000 in
theorem arg_slice {P : Program} {r : Reach} {b0 : Nat} {t e : TypeId} {v : Value} {d : DataW H} {p : List MemPlace} (ht : P.underlying t = some (.slice e)) (hv : Value.okWide P W r b0 t v) (h : DataW.Trod enc P W base sp held t v d p) : ∃ fuel, DataW.trod enc P W base sp held fuel t [v] = some (d, p) := by
  obtain ⟨a, n, c, rfl⟩ := okWide_slice ht hv
  exact h
set_option maxRecDepth 1000000 in
theorem arg_bytes {r : Reach} {b0 : Nat} {v : Value} {d : DataW H} {p : List MemPlace} (hv : Value.okWide Tryz.prog W r b0 30 v) (h : DataW.Trod enc Tryz.prog W base sp held 30 v d p) : ∃ l : List UInt8, InAt W W.heap.size v l := by
  obtain ⟨fuel, hf⟩ := arg_slice Tryz.underlying30 hv h
  obtain ⟨l, h1, -⟩ := @open_list _ enc W base sp held UInt8 ⟨0⟩ _ bCell (fun _ => True) 1 _ _ _ _ _ Tryz.underlying30 (by kernel_rfl) (by omega) (fun _ => rfl) el_u8 hf
  exact ⟨l, h1⟩
set_option maxRecDepth 1000000 in
theorem arg_ops {r : Reach} {b0 : Nat} {v : Value} {d : DataW H} {p : List MemPlace} (hv : Value.okWide Tryz.prog W r b0 24 v) (h : DataW.Trod enc Tryz.prog W base sp held 24 v d p) : ∃ l : List OpD, SlAt 4 opCells W W.heap.size v l ∧ ∀ x ∈ l, opSm x := by
  obtain ⟨fuel, hf⟩ := arg_slice Tryz.underlying24 hv h
  exact @open_list _ enc W base sp held OpD ⟨⟨0, ByteArray.empty, ByteArray.empty, 0⟩⟩ _ opCells opSm 4 _ _ _ _ _ Tryz.underlying24 (by kernel_rfl) (by omega) (fun _ => rfl) el_op hf
set_option maxRecDepth 1000000 in
theorem arg_chs {r : Reach} {b0 : Nat} {v : Value} {d : DataW H} {p : List MemPlace} (hv : Value.okWide Tryz.prog W r b0 140 v) (h : DataW.Trod enc Tryz.prog W base sp held 140 v d p) : ∃ l : List ChD, SlAt 3 chCells W W.heap.size v l ∧ ∀ x ∈ l, chSm x := by
  obtain ⟨fuel, hf⟩ := arg_slice Tryz.underlying140 hv h
  exact @open_list _ enc W base sp held ChD ⟨⟨ByteArray.empty, 0, false⟩⟩ _ chCells chSm 3 _ _ _ _ _ Tryz.underlying140 (by kernel_rfl) (by omega) (fun _ => rfl) el_ch hf
set_option maxRecDepth 1000000 in
theorem arg_res {r : Reach} {b0 : Nat} {v : Value} {d : DataW H} {p : List MemPlace} (hv : Value.okWide Tryz.prog W r b0 25 v) (h : DataW.Trod enc Tryz.prog W base sp held 25 v d p) : ∃ l : List ResP, ResAt W W.heap.size v l := by
  obtain ⟨fuel, hf⟩ := arg_slice Tryz.underlying25 hv h
  exact @open_list _ enc W base sp held ResP ⟨(.slice none 0 0, [])⟩ _ resCells (RowsAt W W.heap.size) 1 _ _ _ _ _ Tryz.underlying25 (by kernel_rfl) (by omega) (fun _ => rfl) el_res hf
set_option maxRecDepth 1000000 in
theorem arg_op {r : Reach} {b0 : Nat} {v : Value} {d : DataW H} {p : List MemPlace} (hv : Value.okWide Tryz.prog W r b0 85 v) (h : DataW.Trod enc Tryz.prog W base sp held 85 v d p) : ∃ x : OpD, v = opV x ∧ opSm x := by
  simp only [Value.okWide, Tryz.underlying85] at hv
  obtain ⟨cs, rfl, hsz, -⟩ := hv
  obtain ⟨fuel, hf⟩ := h
  obtain ⟨x, hx, hs⟩ := el_op fuel cs.toList _ hf (by rw [Array.length_toList, hsz]; kernel_rfl)
  refine ⟨x, ?_, hs⟩
  unfold opV
  congr 1
  apply Array.ext'
  exact hx
set_option maxRecDepth 1000000 in
theorem arg_ch {r : Reach} {b0 : Nat} {v : Value} {d : DataW H} {p : List MemPlace} (hv : Value.okWide Tryz.prog W r b0 144 v) (h : DataW.Trod enc Tryz.prog W base sp held 144 v d p) : ∃ x : ChD, v = chV x ∧ chSm x := by
  simp only [Value.okWide, Tryz.underlying144] at hv
  obtain ⟨cs, rfl, hsz, -⟩ := hv
  obtain ⟨fuel, hf⟩ := h
  obtain ⟨x, hx, hs⟩ := el_ch fuel cs.toList _ hf (by rw [Array.length_toList, hsz]; kernel_rfl)
  refine ⟨x, ?_, hs⟩
  unfold chV
  congr 1
  apply Array.ext'
  exact hx
end
end Go.Proofs.YtcgecdiaddcfkaaGreatDoor
