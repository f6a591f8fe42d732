/- Texts of this proof, laid into one. -/
import Derived.Test.YtcgecdiaddcfkaaGreatDoorM5
import Derived.Test.YtcgecdiaddcfkaaGreatDoorM3
import Derived.Test.YtcgecdiaddcfkaaGreatDoorM6
import Derived.Deep.RegionHeld3
import Derived.Deep.RegionWith
import Derived.Deep.QuietTactic
import Derived.Laws.StructEq
import Derived.Test.YtcgecdiaddcfkaaGreatDoorM15
/- The walks of the statements' own helpers: whether two lists are the same, how much a list has in it. -/
set_option linter.unusedSimpArgs false
set_option linter.unusedVariables false
namespace Go.Proofs.YtcgecdiaddcfkaaGreatDoor
open Go.RowKit



set_option maxHeartbeats 2000000 in
set_option maxRecDepth 1000000 in
theorem sameRows_any (w : World) (la lb : Nat) (va vb : Value) (l : List RowD) (ha : SlAt 2 rowCells w la va l) (hb : SlAt 2 rowCells w lb vb l) :
    Calls Tryz.prog 171 #[va, vb] w fun e w' => e = .returned (.bool true) ∧ ∃ n, w' = w.drewN n := by
  obtain ⟨ao, ca, rfl, ha1, ha2, ha3⟩ := ha
  obtain ⟨bo, cb, rfl, hb1, hb2, hb3⟩ := hb
  unfold maxLen at ha2 hb2
  go_enter Tryz.func171, Tryz.ntmps171
  go_wp2
  go_loopw [5] (fun i wr => ∃ k n : Nat, k ≤ l.length ∧ i = .int .i64 k ∧ wr = w.drewN n) (fun i _ => l.length - (intOf i).toNat)
  case atStart => exact ⟨0, 0, by omega, rfl, rfl⟩
  case round =>
    obtain ⟨k, n, hk, rfl, rfl⟩ := hrel
    by_cases h1 : k < l.length
    · obtain ⟨b1, o1, rfl, hl1, hc1⟩ := ha3 (by omega)
      obtain ⟨b2, o2, rfl, hl2, hc2⟩ := hb3 (by omega)
      obtain ⟨x, hx⟩ : ∃ x, x = l[k]'h1 := ⟨_, rfl⟩
      have p : ∀ j u, (rowCells x)[j]? = some u → w.cell? ⟨b1, o1 + k * 2 + j, none⟩ = some u := fun j u hu => hc1 k h1 j u (by rw [← hx]; exact hu)
      have q : ∀ j u, (rowCells x)[j]? = some u → w.cell? ⟨b2, o2 + k * 2 + j, none⟩ = some u := fun j u hu => hc2 k h1 j u (by rw [← hx]; exact hu)
      have p0 := p 0 _ rfl
      have q0 := q 0 _ rfl
      have p1 := p 1 _ rfl
      have q1 := q 1 _ rfl
      simp only [Nat.add_zero, Nat.mul_one] at p0 q0
      clear p q hx hc1 hc2 ha3 hb3
      have i1 : (k : Int) < (l.length : Int) := by omega

      go_wp2
      go_quiet (fail)
      go_wp2
      go_roundw
      case rel => exact ⟨k + 1, _, by omega, by go_num, rfl⟩
      case measure => simp [intOf]; omega
    · clear ha3 hb3
      go_wp2
      go_ret
      exact ⟨rfl, n, rfl⟩

set_option maxHeartbeats 2000000 in
set_option maxRecDepth 1000000 in
theorem rowsSize_any (w : World) (la : Nat) (va : Value) (l : List RowD) (ha : SlAt 2 rowCells w la va l) (hsm : ∀ x ∈ l, rowSm x) :
    Calls Tryz.prog 156 #[va] w fun e w' => (∃ z : Int, e = .returned (.int .i64 z)) ∧ ∃ n, w' = w.drewN n := by
  obtain ⟨ao, ca, rfl, ha1, ha2, ha3⟩ := ha
  unfold maxLen at ha2
  go_enter Tryz.func156, Tryz.ntmps156
  go_wp2
  go_loopw [3, 4] (fun s i wr => ∃ (k n : Nat) (z : Int), k ≤ l.length ∧ i = .int .i64 k ∧ s = .int .i64 z ∧ wr = w.drewN n) (fun _ i _ => l.length - (intOf i).toNat)
  case atStart => exact ⟨0, 0, _, by omega, rfl, rfl, rfl⟩
  case round =>
    obtain ⟨k, n, z, hk, rfl, rfl, rfl⟩ := hrel
    by_cases h1 : k < l.length
    · by_cases h2 : z ≤ 1048576
      · obtain ⟨b1, o1, rfl, hl1, hc1⟩ := ha3 (by omega)
        obtain ⟨x, hx⟩ : ∃ x, x = l[k]'h1 := ⟨_, rfl⟩
        have p : ∀ j u, (rowCells x)[j]? = some u → w.cell? ⟨b1, o1 + k * 2 + j, none⟩ = some u := fun j u hu => hc1 k h1 j u (by rw [← hx]; exact hu)
        have p0 := p 0 _ rfl
        have p1 := p 1 _ rfl
        simp only [Nat.add_zero, Nat.mul_one] at p0
        clear p hx hc1 ha3
        have i1 : (k : Int) < (l.length : Int) := by omega
        go_wp2

        go_roundw
        case rel => exact ⟨k + 1, _, _, by omega, by go_num, rfl, rfl⟩
        case measure => simp [intOf]; omega
      · clear ha3
        go_wp2
        go_ret
        exact ⟨⟨_, rfl⟩, n, rfl⟩
    · clear ha3
      go_wp2
      go_ret
      exact ⟨⟨_, rfl⟩, n, rfl⟩

set_option maxHeartbeats 2000000 in
set_option maxRecDepth 1000000 in
theorem sameResult_any (w : World) (la lb : Nat) (x y : ResP) (ha : SlAt 2 rowCells w la x.1 x.2) (hb : SlAt 2 rowCells w lb y.1 y.2) (hxy : x.2 = y.2) (hla : la ≤ w.heap.size) (hlb : lb ≤ w.heap.size) :
    Calls Tryz.prog 155 #[resV x, resV y] w fun e w' => e = .returned (.bool true) ∧ Below w.heap.size w w' := by
  obtain ⟨vx, rx⟩ := x
  obtain ⟨vy, ry⟩ := y
  simp only at ha hb hxy
  subst hxy
  unfold resV
  simp only
  obtain ⟨W, hW⟩ : ∃ W, W = (w.alloc (.cells #[vx] 89)).alloc (.cells #[vy] 89) := ⟨_, rfl⟩
  have bW : Below w.heap.size w W := by rw [hW]; exact ((Below.refl _ _).alloc (Nat.le_refl _) _).alloc (by simp) _
  have k := sameRows_any W la lb vx vy rx (ha.below bW hla) (hb.below bW hlb)
  obtain ⟨ao, ca, rfl, -, -, -⟩ := ha
  obtain ⟨bo, cb, rfl, -, -, -⟩ := hb
  have fin : ∀ n, Below w.heap.size w (W.drewN n) := fun n => bW.trans ((below_drewN W n).mono bW.size)
  clear bW
  subst hW
  go_enter Tryz.func155, Tryz.ntmps155
  go_wp2_with fail
  refine k.mono ?_
  rintro e w1 ⟨rfl, n, rfl⟩
  have f := fin n
  clear fin k
  go_wp2
  go_ret
  exact ⟨rfl, f⟩

abbrev SrS (w : World) (b1 o1 b2 o2 : Nat) (x y : Value) (W : World) : Prop := W.cell? ⟨b1, o1, none⟩ = some x ∧ W.cell? ⟨b2, o2, none⟩ = some y ∧ Below w.heap.size w W
theorem SrS.drewN {w : World} {b1 o1 b2 o2 : Nat} {x y : Value} {W : World} (h : SrS w b1 o1 b2 o2 x y W) (n : Nat) : SrS w b1 o1 b2 o2 x y (W.drewN n) := ⟨h.1, h.2.1, h.2.2.trans ((below_drewN W n).mono h.2.2.size)⟩

set_option maxHeartbeats 2000000 in
set_option maxRecDepth 1000000 in
theorem sameResults_any (w : World) (va vb : Value) (l m : List ResP) (ha : ResAt w w.heap.size va l) (hb : ResAt w w.heap.size vb m) (hlm : l.map (·.2) = m.map (·.2)) :
    Calls Tryz.prog 86 #[va, vb] w fun e w' => e = .returned (.bool true) ∧ Below w.heap.size w w' := by
  obtain ⟨⟨ao, ca, rfl, ha1, ha2, ha3⟩, hra⟩ := ha
  obtain ⟨⟨bo, cb, rfl, hb1, hb2, hb3⟩, hrb⟩ := hb
  have hll : m.length = l.length := by have := congrArg List.length hlm; simpa using this.symm
  have heq : Hid (∀ (k : Nat) (h1 : k < l.length) (h2 : k < m.length), (l[k]'h1).2 = (m[k]'h2).2) := fun k h1 h2 => by
    have e1 : (l.map (·.2))[k]'(by simpa using h1) = (m.map (·.2))[k]'(by simpa using h2) := List.getElem_of_eq hlm _
    simpa using e1
  unfold maxLen at ha2 hb2
  have hb1' : l.length ≤ cb := by omega
  rw [hll]
  have HL : Hid (m.length = l.length) := hll
  clear hlm hll hb1
  go_enter Tryz.func86, Tryz.ntmps86
  go_wp2
  go_loopw [5] (fun i wr => ∃ k : Nat, k ≤ l.length ∧ i = .int .i64 k ∧ Below w.heap.size w wr) (fun i _ => l.length - (intOf i).toNat)
  case atStart => exact ⟨0, by omega, rfl, Below.refl _ _⟩
  case round =>
    obtain ⟨k, hk, rfl, hB⟩ := hrel
    by_cases h1 : k < l.length
    · have h2 : k < m.length := by have := HL.out; omega
      obtain ⟨b1, o1, rfl, hl1, hc1⟩ := ha3 (by omega)
      obtain ⟨b2, o2, rfl, hl2, hc2⟩ := hb3 (by omega)
      have hz := hB.size
      have p0 : wr.cell? ⟨b1, o1 + k, none⟩ = some (l[k]'h1).1 := by
        rw [hB.cell hl1]
        have := hc1 k h1 0 _ rfl
        simpa using this
      have q0 : wr.cell? ⟨b2, o2 + k, none⟩ = some (m[k]'h2).1 := by
        rw [hB.cell hl2]
        have := hc2 k h2 0 _ rfl
        simpa using this
      have r1 : RowsAt wr w.heap.size (l[k]'h1) := (hra _ (List.getElem_mem h1)).below hB (Nat.le_refl _)
      have r2 : RowsAt wr w.heap.size (m[k]'h2) := (hrb _ (List.getElem_mem h2)).below hB (Nat.le_refl _)
      have R1 : RowsAt w w.heap.size (l[k]'h1) := hra _ (List.getElem_mem h1)
      have R2 : RowsAt w w.heap.size (m[k]'h2) := hrb _ (List.getElem_mem h2)
      have e12 := heq.out k h1 h2
      generalize l[k]'h1 = x at *
      generalize m[k]'h2 = y at *
      obtain ⟨vx, rx⟩ := x
      obtain ⟨vy, ry⟩ := y
      obtain ⟨ax, cx, hvx, -, -, -⟩ := r1.1
      obtain ⟨ay, cy, hvy, -, -, -⟩ := r2.1
      simp only at hvx hvy p0 q0
      subst hvx
      subst hvy
      have kS : ∀ W, SrS w b1 (o1 + k) b2 (o2 + k) (.slice ax rx.length cx) (.slice ay ry.length cy) W → Calls Tryz.prog 155 #[.agg #[.slice ax rx.length cx], .agg #[.slice ay ry.length cy]] W fun e w' => e = .returned (.bool true) ∧ SrS w b1 (o1 + k) b2 (o2 + k) (.slice ax rx.length cx) (.slice ay ry.length cy) w' := by
        intro W hW
        refine (sameResult_any W w.heap.size w.heap.size (.slice ax rx.length cx, rx) (.slice ay ry.length cy, ry) (R1.1.below hW.2.2 (Nat.le_refl _)) (R2.1.below hW.2.2 (Nat.le_refl _)) e12 hW.2.2.size hW.2.2.size).mono ?_
        rintro e w' ⟨rfl, h'⟩
        have z := hW.2.2.size
        exact ⟨rfl, (h'.cell (by simp; omega)).trans hW.1, (h'.cell (by simp; omega)).trans hW.2.1, hW.2.2.trans (h'.mono z)⟩
      have hS : SrS w b1 (o1 + k) b2 (o2 + k) (.slice ax rx.length cx) (.slice ay ry.length cy) wr := ⟨p0, q0, hB⟩
      clear hc1 hc2 ha3 hb3 r1 r2 R1 R2 heq hra hrb p0 q0 hB e12
      have i1 : (k : Int) < (l.length : Int) := by omega
      go_wp2_with fail
      go_region_held3 (fun W => W.cell? ⟨b1, o1 + k, none⟩ = some (.slice ax rx.length cx) ∧ W.cell? ⟨b2, o2 + k, none⟩ = some (.slice ay ry.length cy) ∧ Below w.heap.size w W) (first | assumption | exact SrS.drewN (by assumption) 1)
        (first | (go_at_call 155; refine (kS _ (by assumption)).mono ?_; rintro e w' ⟨rfl, hb⟩))
      all_goals
        rename_i hlast
        clear kS
        go_wp2
        go_roundw
        case rel => exact ⟨k + 1, by omega, by go_num, hlast.2.2⟩
        case measure => simp [intOf]; omega
    · clear ha3 hb3 hra hrb heq
      go_wp2
      go_ret
      exact ⟨rfl, hB⟩

set_option maxHeartbeats 2000000 in
set_option maxRecDepth 1000000 in
theorem resultSize_any (w : World) (la : Nat) (x : ResP) (ha : RowsAt w la x) (hla : la ≤ w.heap.size) :
    Calls Tryz.prog 87 #[resV x] w fun e w' => (∃ z : Int, e = .returned (.int .i64 z)) ∧ Below w.heap.size w w' := by
  obtain ⟨vx, rx⟩ := x
  unfold resV
  simp only
  obtain ⟨W, hW⟩ : ∃ W, W = w.alloc (.cells #[vx] 89) := ⟨_, rfl⟩
  have bW : Below w.heap.size w W := by rw [hW]; exact (Below.refl _ _).alloc (Nat.le_refl _) _
  have hsW : SlAt 2 rowCells W la vx rx := ha.1.below bW hla
  have k := rowsSize_any W la vx rx hsW ha.2
  obtain ⟨ao, ca, hvx, -, -, -⟩ := ha.1
  simp only at hvx
  subst hvx
  have fin : ∀ n, Below w.heap.size w (W.drewN n) := fun n => bW.trans ((below_drewN W n).mono bW.size)
  clear bW hsW
  subst hW
  go_enter Tryz.func87, Tryz.ntmps87
  go_wp2_with fail
  refine k.mono ?_
  rintro e w1 ⟨⟨z, rfl⟩, n, rfl⟩
  have f := fin n
  clear fin k
  go_wp2
  go_ret
  exact ⟨⟨_, rfl⟩, f⟩

set_option maxHeartbeats 2000000 in
set_option maxRecDepth 1000000 in
theorem resultsSize_any (w : World) (va : Value) (l : List ResP) (ha : ResAt w w.heap.size va l) :
    Calls Tryz.prog 22 #[va] w fun e w' => (∃ z : Int, e = .returned (.int .i64 z)) ∧ Below w.heap.size w w' := by
  obtain ⟨⟨ao, ca, rfl, ha1, ha2, ha3⟩, hra⟩ := ha
  unfold maxLen at ha2
  go_enter Tryz.func22, Tryz.ntmps22
  go_wp2
  go_loopw [3, 4] (fun s i wr => ∃ (k : Nat) (z : Int), k ≤ l.length ∧ i = .int .i64 k ∧ s = .int .i64 z ∧ Below w.heap.size w wr) (fun _ i _ => l.length - (intOf i).toNat)
  case atStart => exact ⟨0, _, by omega, rfl, rfl, Below.refl _ _⟩
  case round =>
    obtain ⟨k, z, hk, rfl, rfl, hB⟩ := hrel
    by_cases h1 : k < l.length
    · by_cases h2 : z ≤ 1048576
      · obtain ⟨b1, o1, rfl, hl1, hc1⟩ := ha3 (by omega)
        have hz := hB.size
        have p0 : wr.cell? ⟨b1, o1 + k, none⟩ = some (l[k]'h1).1 := by
          rw [hB.cell hl1]
          have := hc1 k h1 0 _ rfl
          simpa using this
        have r1 : RowsAt wr w.heap.size (l[k]'h1) := (hra _ (List.getElem_mem h1)).below hB (Nat.le_refl _)
        generalize l[k]'h1 = x at *
        obtain ⟨vx, rx⟩ := x
        have kS := resultSize_any wr w.heap.size (vx, rx) r1 hz
        obtain ⟨ax, cx, hvx, -, -, -⟩ := r1.1
        simp only at hvx p0
        subst hvx
        unfold resV at kS
        simp only at kS
        clear hc1 ha3 r1 hra
        have i1 : (k : Int) < (l.length : Int) := by omega
        go_wp2_with fail
        refine kS.mono ?_
        rintro e w1 ⟨⟨z1, rfl⟩, b1'⟩
        have f1 := hB.trans (b1'.mono hz)
        clear kS b1'
        go_wp2
        go_roundw
        case rel => exact ⟨k + 1, _, by omega, by go_num, rfl, f1⟩
        case measure => simp [intOf]; omega
      · clear ha3 hra
        go_wp2
        go_ret
        exact ⟨⟨_, rfl⟩, hB⟩
    · clear ha3 hra
      go_wp2
      go_ret
      exact ⟨⟨_, rfl⟩, hB⟩
end Go.Proofs.YtcgecdiaddcfkaaGreatDoor
/- The walks of the document's own reader. -/
set_option linter.unusedSimpArgs false
set_option linter.unusedVariables false
namespace Go.Proofs.YtcgecdiaddcfkaaGreatDoor
open Go.RowKit

def takeR (n : Nat) (s : St) : List UInt8 × St := if s.bad = true ∨ s.rest.length < n then (List.replicate n 0, ⟨s.rest, true⟩) else (s.rest.take n, ⟨s.rest.drop n, s.bad⟩)
def highR (n : Nat) (s : St) : Nat × St := (hiN (takeR n s).1, (takeR n s).2)
def textR (s : St) : ByteArray × St := (⟨(takeR (highR 1 s).1 (highR 1 s).2).1.toArray⟩, (takeR (highR 1 s).1 (highR 1 s).2).2)
theorem takeR_len (n : Nat) (s : St) : (takeR n s).1.length = n := by
  unfold takeR
  split
  · simp
  · simp only [List.length_take]; omega
theorem takeR_no {n : Nat} {s : St} (h : s.bad = true ∨ s.rest.length < n) : takeR n s = (List.replicate n 0, ⟨s.rest, true⟩) := by unfold takeR; rw [if_pos h]
theorem takeR_yes {n : Nat} {s : St} (h : ¬ (s.bad = true ∨ s.rest.length < n)) : takeR n s = (s.rest.take n, ⟨s.rest.drop n, s.bad⟩) := by unfold takeR; rw [if_neg h]

/-- The document's reader in block R stands at s. -/
def RfAt (w : World) (R lim : Nat) (s : St) : Prop :=
  ∃ v, w.heap[R]? = some (.cells #[v, .bool s.bad] 196 (0, 0)) ∧ InAt w lim v s.rest ∧ lim ≤ R ∧ R < w.heap.size
theorem RfAt.kept {w w' : World} {R lim : Nat} {s : St} (h : RfAt w R lim s) (hz : w.heap.size ≤ w'.heap.size) (hb : ∀ k, k < w.heap.size → w'.heap[k]? = w.heap[k]?) : RfAt w' R lim s := by
  obtain ⟨v, h1, h2, h3, h4⟩ := h
  exact ⟨v, by rw [hb R h4]; exact h1, h2.kept (fun k hk => hb k (by omega)), h3, by omega⟩
theorem RfAt.drewN {w : World} {R lim : Nat} {s : St} (h : RfAt w R lim s) (n : Nat) : RfAt (w.drewN n) R lim s := h.kept (Nat.le_refl _) (fun _ _ => rfl)
theorem Kept.drewN {B base : Nat} {a w : World} (h : Kept B base a w) (n : Nat) : Kept B base a (w.drewN n) := ⟨h.os, h.tape, h.output, h.size, h.block⟩
theorem RfAt.below {w w' : World} {R lim : Nat} {s : St} (h : RfAt w R lim s) (hb : Below w.heap.size w w') : RfAt w' R lim s := h.kept hb.size hb.block

theorem made_zero (n : Nat) : (madeCells (Value.cells (.int .u8 0)) (n * 1)).toList = bcells (List.replicate n 0) := by
  rw [Nat.mul_one]
  show (madeCells #[.int .u8 0] n).toList = _
  rw [toList_madeCells_one]
  simp [bcells, bv]

set_option maxHeartbeats 2000000 in
set_option maxRecDepth 1000000 in
theorem rftake_any (w : World) (R lim n : Nat) (s : St) (h : RfAt w R lim s) (hn : n ≤ 65536) :
    Calls Tryz.prog 151 #[ptr R, .int .i64 (n : Int)] w fun e w' => ∃ v, e = .returned v ∧ InAt w' w'.heap.size v (takeR n s).1 ∧ RfAt w' R lim (takeR n s).2 ∧ Kept R w.heap.size w w' := by
  obtain ⟨i0, hi, hz0, hz1, hz2⟩ := info_parts info_u8
  obtain ⟨v, h1, h2, h3, h4⟩ := h
  obtain ⟨c0, c1⟩ := pair_cell h1
  have f0 := box_frozen (i := 0) h1
  have f1 := box_frozen (i := 1) h1
  have h2' := h2
  obtain ⟨ao, cap, rfl, hlc, hcm, hc⟩ := h2
  unfold maxLen at hcm
  by_cases hs : s.bad = true ∨ s.rest.length < n
  · rw [takeR_no hs]
    have R1 : RfAt (w.setCell ⟨R, 1, none⟩ (.bool true)) R lim ⟨s.rest, true⟩ := ⟨_, pair_set1 _ h1, h2'.set h3 _, h3, by simp [World.setCell]; omega⟩
    have K1 : Kept R w.heap.size w (w.setCell ⟨R, 1, none⟩ (.bool true)) := Kept.set _
    have Z1 : w.heap.size ≤ (w.setCell ⟨R, 1, none⟩ (.bool true)).heap.size := K1.size
    have hb : i0.bytes * n ≤ 281474976710656 := by rw [hz2]; omega
    have hnm : n ≤ maxLen := by unfold maxLen; omega
    have fin : ∀ w1 v, w1.ownsRow w.heap.size 5 1 v n (madeCells (Value.cells (.int .u8 0)) (n * 1)).toList → (w.setCell ⟨R, 1, none⟩ (.bool true)).grownBy w1 none → InAt w1 w1.heap.size v (List.replicate n 0) ∧ RfAt w1 R lim ⟨s.rest, true⟩ ∧ Kept R w.heap.size w w1 := by
      intro w1 v ho hg
      have hB : Below (w.setCell ⟨R, 1, none⟩ (.bool true)).heap.size (w.setCell ⟨R, 1, none⟩ (.bool true)) w1 := (Below.refl _ _).grown hg (Nat.le_refl _) (fun k e => by cases e)
      refine ⟨?_, R1.below hB, K1.trans ((Kept.of_below hB).mono Z1)⟩
      rw [made_zero] at ho
      have : BsAt w1 w.heap.size v (List.replicate n 0) := by unfold BsAt; rw [List.length_replicate]; exact ho
      exact in_own this
    clear h1 h2' hc R1 K1
    cases hbad : s.bad with
    | true =>
      rw [hbad] at c1
      clear hs hbad
      go_enter Tryz.func151, Tryz.ntmps151
      go_wp2_with (at_make; refine wpList_make_full _ rfl _ _ 30 rfl w.heap.size 5 i0 (.int .u8 0) 1 Tryz.underlying30 hi hz0 hz1 .i64 .i64 _ _ n rfl rfl rfl rfl hb hnm Z1 ?_; intro w1 hown hgr; have F := fin w1 _ hown hgr)
      rw [show (w.setCell ⟨R, 1, none⟩ (.bool true)).heap.size = w.heap.size by simp [World.setCell]] at F
      go_ret
      exact ⟨_, rfl, F⟩
    | false =>
      rw [hbad] at c1
      have hs2 : s.rest.length < n := by
        rcases hs with hs | hs
        · rw [hbad] at hs; cases hs
        · exact hs
      clear hs hbad
      go_enter Tryz.func151, Tryz.ntmps151
      go_wp2_with (at_make; refine wpList_make_full _ rfl _ _ 30 rfl w.heap.size 5 i0 (.int .u8 0) 1 Tryz.underlying30 hi hz0 hz1 .i64 .i64 _ _ n rfl rfl rfl rfl hb hnm Z1 ?_; intro w1 hown hgr; have F := fin w1 _ hown hgr)
      rw [show (w.setCell ⟨R, 1, none⟩ (.bool true)).heap.size = w.heap.size by simp [World.setCell]] at F
      go_ret
      exact ⟨_, rfl, F⟩
  · rw [takeR_yes hs]
    rw [not_or] at hs
    have hb : s.bad = false := Bool.eq_false_iff.mpr hs.1
    have hs2 := hs.2
    rw [hb] at h1 c1
    have T1 := in_take h2' (n := n) (by omega)
    have H : Hid (∀ ao', (n < cap → ∀ b off, ao = some ⟨b, off, none⟩ → ao' = some ⟨b, off + n, none⟩) → RfAt (w.setCell ⟨R, 0, none⟩ (.slice ao' (s.rest.length - n) (cap - n))) R lim ⟨s.rest.drop n, s.bad⟩) := fun ao' ha =>
      ⟨_, by rw [hb]; exact pair_set0 _ h1, (in_drop h2' (by omega) ha).set h3 _, h3, by simp [World.setCell]; omega⟩
    have T3 : ∀ u, InAt (w.setCell ⟨R, 0, none⟩ u) (w.setCell ⟨R, 0, none⟩ u).heap.size (.slice ao n cap) (s.rest.take n) := fun u => (T1.set h3 u).mono (by simp [World.setCell]; omega)
    clear h1 h2' hc hs T1
    go_enter Tryz.func151, Tryz.ntmps151
    go_wp2
    case inl =>
      subst h
      go_ret
      refine ⟨_, rfl, T3 _, ?_, Kept.set _⟩
      have := H.out ao (fun h => by omega)
      rwa [Nat.sub_self, hb] at this
    case inr =>
      go_ret
      refine ⟨_, rfl, T3 _, ?_, Kept.set _⟩
      have := H.out (Option.map (fun x => x.add n) ao) (fun _ b off e => by rw [e]; simp [Addr.add_lit])
      rwa [hb] at this

theorem list_2 {l : List UInt8} (h : l.length = 2) : ∃ a b, l = [a, b] := by
  match l, h with
  | [a, b], _ => exact ⟨a, b, rfl⟩
theorem list_4 {l : List UInt8} (h : l.length = 4) : ∃ a b c d, l = [a, b, c, d] := by
  match l, h with
  | [a, b, c, d], _ => exact ⟨a, b, c, d, rfl⟩
theorem list_1 {l : List UInt8} (h : l.length = 1) : ∃ a, l = [a] := by
  match l, h with
  | [a], _ => exact ⟨a, rfl⟩
theorem in_parts {w : World} {lim : Nat} {v : Value} {bs : List UInt8} (h : InAt w lim v bs) (hp : 0 < bs.length) : ∃ b off cap, v = .slice (some ⟨b, off, none⟩) bs.length cap ∧ bs.length ≤ cap ∧ cap ≤ maxLen ∧ ∀ i (hi : i < bs.length), w.cell? ⟨b, off + i, none⟩ = some (bv (bs[i]'hi)) := by
  obtain ⟨ao, cap, rfl, h1, h2, h3⟩ := h
  obtain ⟨b, off, rfl, _, hc⟩ := h3 hp
  refine ⟨b, off, cap, rfl, h1, h2, fun i hi => ?_⟩
  have := hc i hi 0 _ rfl
  simpa using this

theorem wrap_u32 {x : Int} (h0 : 0 ≤ x) (h1 : x < 4294967296) : IntKind.u32.wrap x = x := by
  rw [IntKind.wrap_u32]; omega
theorem wrap_i64 {x : Int} (h0 : 0 ≤ x) (h1 : x < 4294967296) : IntKind.i64.wrap x = x := by
  rw [IntKind.wrap_i64]; omega

set_option maxHeartbeats 2000000 in
set_option maxRecDepth 1000000 in
theorem rfcount_any (w : World) (R lim : Nat) (s : St) (h : RfAt w R lim s) :
    Calls Tryz.prog 150 #[ptr R] w fun e w' => e = .returned (.int .i64 ((highR 2 s).1 : Int)) ∧ RfAt w' R lim (highR 2 s).2 ∧ Kept R w.heap.size w w' := by
  have k := rftake_any w R lim 2 s h (by omega)
  have hl := takeR_len 2 s
  unfold highR
  generalize takeR 2 s = T at *
  obtain ⟨bs, s2⟩ := T
  simp only at k hl ⊢
  obtain ⟨a, b, rfl⟩ := list_2 hl
  rw [hiN_2]
  have ha := u8_lt a
  have hb := u8_lt b
  go_enter Tryz.func150, Tryz.ntmps150
  go_wp2_with fail
  refine k.mono ?_
  rintro e w1 ⟨v, rfl, hin, hr, q⟩
  clear k
  obtain ⟨bk, off, cap, rfl, h1, h2, h3⟩ := in_parts hin (by simp)
  have c0 := h3 0 (by simp)
  have c1 := h3 1 (by simp)
  simp only [Nat.add_zero, List.getElem_cons_zero, List.getElem_cons_succ, bv] at c0 c1
  unfold maxLen at h2
  simp only [List.length_cons, List.length_nil] at h1
  clear h3 hin
  simp only [List.length_cons, List.length_nil]
  go_wp2
  go_quiet (fail)
  go_wp2
  go_ret
  refine ⟨?_, hr.drewN _, q.drewN _⟩
  show Ending.returned (Value.int .i64 _) = _
  have e1 : IntKind.i64.wrap (a.toNat : Int) = (a.toNat : Int) := wrap_i64 (by omega) (by omega)
  have e2 : IntKind.i64.wrap (b.toNat : Int) = (b.toNat : Int) := wrap_i64 (by omega) (by omega)
  rw [e1, e2]
  have e3 : IntKind.i64.wrap (256 * (a.toNat : Int)) = 256 * (a.toNat : Int) := wrap_i64 (by omega) (by omega)
  rw [e3]
  have e4 : IntKind.i64.wrap (256 * (a.toNat : Int) + (b.toNat : Int)) = 256 * (a.toNat : Int) + (b.toNat : Int) := wrap_i64 (by omega) (by omega)
  rw [e4]
  congr 2
  omega

set_option maxHeartbeats 2000000 in
set_option maxRecDepth 1000000 in
theorem rfnumber_any (w : World) (R lim : Nat) (s : St) (h : RfAt w R lim s) :
    Calls Tryz.prog 153 #[ptr R] w fun e w' => e = .returned (.int .u32 ((highR 4 s).1 : Int)) ∧ RfAt w' R lim (highR 4 s).2 ∧ Kept R w.heap.size w w' := by
  have k := rftake_any w R lim 4 s h (by omega)
  have hl := takeR_len 4 s
  unfold highR
  generalize takeR 4 s = T at *
  obtain ⟨bs, s2⟩ := T
  simp only at k hl ⊢
  obtain ⟨a, b, c, d, rfl⟩ := list_4 hl
  rw [hiN_4]
  have ha := u8_lt a
  have hb := u8_lt b
  have hc := u8_lt c
  have hd := u8_lt d
  go_enter Tryz.func153, Tryz.ntmps153
  go_wp2_with fail
  refine k.mono ?_
  rintro e w1 ⟨v, rfl, hin, hr, q⟩
  clear k
  obtain ⟨bk, off, cap, rfl, h1, h2, h3⟩ := in_parts hin (by simp)
  have c0 := h3 0 (by simp)
  have c1 := h3 1 (by simp)
  have c2 := h3 2 (by simp)
  have c3 := h3 3 (by simp)
  simp only [Nat.add_zero, List.getElem_cons_zero, List.getElem_cons_succ, bv] at c0 c1 c2 c3
  unfold maxLen at h2
  simp only [List.length_cons, List.length_nil] at h1
  clear h3 hin
  simp only [List.length_cons, List.length_nil]
  go_wp2
  go_quiet (fail)
  go_wp2
  go_ret
  refine ⟨?_, hr.drewN _, q.drewN _⟩
  show Ending.returned (Value.int .u32 _) = _
  simp only [IntKind.wrap_u32]
  congr 2
  omega

set_option maxHeartbeats 2000000 in
set_option maxRecDepth 1000000 in
theorem rftext_any (w : World) (R lim : Nat) (s : St) (h : RfAt w R lim s) :
    Calls Tryz.prog 152 #[ptr R] w fun e w' => e = .returned (.string (textR s).1) ∧ RfAt w' R lim (textR s).2 ∧ Kept R w.heap.size w w' := by
  have k := rftake_any w R lim 1 s h (by omega)
  have hl := takeR_len 1 s
  unfold textR highR
  simp only
  generalize takeR 1 s = T at *
  obtain ⟨bs, s1⟩ := T
  simp only at k hl ⊢
  obtain ⟨a, rfl⟩ := list_1 hl
  rw [hiN_1]
  have ha := u8_lt a
  have k2 : ∀ w1, RfAt w1 R lim s1 → _ := fun w1 h1 => rftake_any w1 R lim a.toNat s1 h1 (by omega)
  generalize takeR a.toNat s1 = T at *
  obtain ⟨bs, s2⟩ := T
  simp only at k2 ⊢
  go_enter Tryz.func152, Tryz.ntmps152
  go_wp2_with fail
  refine k.mono ?_
  rintro e w1 ⟨v, rfl, hin, hr, q⟩
  clear k
  obtain ⟨bk, off, cap, rfl, h1, h2, h3⟩ := in_parts hin (by simp)
  have c0 := h3 0 (by simp)
  simp only [Nat.add_zero, List.getElem_cons_zero, bv] at c0
  unfold maxLen at h2
  simp only [List.length_cons, List.length_nil] at h1
  clear h3 hin
  simp only [List.length_cons, List.length_nil]
  have k3 := k2 w1 hr
  clear k2
  go_wp2_with fail
  refine k3.mono ?_
  rintro e w2 ⟨v, rfl, hin, h2, q2⟩
  clear k3
  have hcv := conv_in hin
  have q3 := q.trans (q2.mono q.size)
  obtain ⟨ao, cap, rfl, -, -, -⟩ := hin
  go_wp2
  go_ret
  exact ⟨rfl, h2, q3⟩

set_option maxHeartbeats 2000000 in
set_option maxRecDepth 1000000 in
theorem refSame_any (w : World) (la lb : Nat) (va vb : Value) (a b : List UInt8) (ha : InAt w la va a) (hb : InAt w lb vb b) :
    Calls Tryz.prog 154 #[va, vb] w fun e w' => e = .returned (.bool (decide (a = b))) ∧ ∃ n, w' = w.drewN n := by
  have h1 := conv_in ha
  have h2 := conv_in hb
  have h1' := fun n => conv_in (w := w.drewN n) (ha.kept (fun _ _ => rfl))
  have h2' := fun n => conv_in (w := w.drewN n) (hb.kept (fun _ _ => rfl))
  obtain ⟨ao, ca, rfl, -, -, -⟩ := ha
  obtain ⟨bo, cb, rfl, -, -, -⟩ := hb
  go_enter Tryz.func154, Tryz.ntmps154
  go_wp2
  go_ret
  refine ⟨?_, 0, rfl⟩
  show Ending.returned (Value.bool (a == b)) = _
  congr 2
  rw [Bool.eq_iff_iff]; simp
end Go.Proofs.YtcgecdiaddcfkaaGreatDoor
