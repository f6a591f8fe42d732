/- The walks of the statements' own helpers: whether two lists are the same, how much a list has in it. -/
import Derived.Test.YtpmmdbdooclcoaaQData
import Derived.Deep.RegionHeld3
import Derived.Deep.RegionWith
import Derived.Deep.QuietTactic
import Derived.Laws.StructEq
set_option linter.unusedSimpArgs false
set_option linter.unusedVariables false
namespace Go.Proofs.Ytpmmdbdooclcoaa
open Go.RowKit



set_option maxHeartbeats 2000000 in
set_option maxRecDepth 1000000 in
theorem sameRows_any (w : World) (la lb : Nat) (va vb : Value) (l : List RowD) (ha : SlAt 2 rowCells w la va l) (hb : SlAt 2 rowCells w lb vb l) :
    Calls Try.prog 42 #[va, vb] w fun e w' => e = .returned (.bool true) ∧ ∃ n, w' = w.drewN n := by
  obtain ⟨ao, ca, rfl, ha1, ha2, ha3⟩ := ha
  obtain ⟨bo, cb, rfl, hb1, hb2, hb3⟩ := hb
  unfold maxLen at ha2 hb2
  go_enter Try.func42, Try.ntmps42
  go_wp2
  go_loopw [5] (fun i wr => ∃ k n : Nat, k ≤ l.length ∧ i = .int .i64 k ∧ wr = w.drewN n) (fun i _ => l.length - (intOf i).toNat)
  case atStart => exact ⟨0, 0, by omega, rfl, rfl⟩
  case round =>
    obtain ⟨k, n, hk, rfl, rfl⟩ := hrel
    by_cases h1 : k < l.length
    · obtain ⟨b1, o1, rfl, hl1, hc1⟩ := ha3 (by omega)
      obtain ⟨b2, o2, rfl, hl2, hc2⟩ := hb3 (by omega)
      obtain ⟨x, hx⟩ : ∃ x, x = l[k]'h1 := ⟨_, rfl⟩
      have p : ∀ j u, (rowCells x)[j]? = some u → w.cell? ⟨b1, o1 + k * 2 + j, none⟩ = some u := fun j u hu => hc1 k h1 j u (by rw [← hx]; exact hu)
      have q : ∀ j u, (rowCells x)[j]? = some u → w.cell? ⟨b2, o2 + k * 2 + j, none⟩ = some u := fun j u hu => hc2 k h1 j u (by rw [← hx]; exact hu)
      have p0 := p 0 _ rfl
      have q0 := q 0 _ rfl
      have p1 := p 1 _ rfl
      have q1 := q 1 _ rfl
      simp only [Nat.add_zero, Nat.mul_one] at p0 q0
      clear p q hx hc1 hc2 ha3 hb3
      have i1 : (k : Int) < (l.length : Int) := by omega

      go_wp2
      go_quiet (fail)
      go_wp2
      go_roundw
      case rel => exact ⟨k + 1, _, by omega, by go_num, rfl⟩
      case measure => simp [intOf]; omega
    · clear ha3 hb3
      go_wp2
      go_ret
      exact ⟨rfl, n, rfl⟩

set_option maxHeartbeats 2000000 in
set_option maxRecDepth 1000000 in
theorem rowsSize_any (w : World) (la : Nat) (va : Value) (l : List RowD) (ha : SlAt 2 rowCells w la va l) (hsm : ∀ x ∈ l, rowSm x) :
    Calls Try.prog 43 #[va] w fun e w' => (∃ z : Int, e = .returned (.int .i64 z)) ∧ ∃ n, w' = w.drewN n := by
  obtain ⟨ao, ca, rfl, ha1, ha2, ha3⟩ := ha
  unfold maxLen at ha2
  go_enter Try.func43, Try.ntmps43
  go_wp2
  go_loopw [3, 4] (fun s i wr => ∃ (k n : Nat) (z : Int), k ≤ l.length ∧ i = .int .i64 k ∧ s = .int .i64 z ∧ wr = w.drewN n) (fun _ i _ => l.length - (intOf i).toNat)
  case atStart => exact ⟨0, 0, _, by omega, rfl, rfl, rfl⟩
  case round =>
    obtain ⟨k, n, z, hk, rfl, rfl, rfl⟩ := hrel
    by_cases h1 : k < l.length
    · by_cases h2 : z ≤ 1048576
      · obtain ⟨b1, o1, rfl, hl1, hc1⟩ := ha3 (by omega)
        obtain ⟨x, hx⟩ : ∃ x, x = l[k]'h1 := ⟨_, rfl⟩
        have p : ∀ j u, (rowCells x)[j]? = some u → w.cell? ⟨b1, o1 + k * 2 + j, none⟩ = some u := fun j u hu => hc1 k h1 j u (by rw [← hx]; exact hu)
        have p0 := p 0 _ rfl
        have p1 := p 1 _ rfl
        simp only [Nat.add_zero, Nat.mul_one] at p0
        clear p hx hc1 ha3
        have i1 : (k : Int) < (l.length : Int) := by omega
        go_wp2

        go_roundw
        case rel => exact ⟨k + 1, _, _, by omega, by go_num, rfl, rfl⟩
        case measure => simp [intOf]; omega
      · clear ha3
        go_wp2
        go_ret
        exact ⟨⟨_, rfl⟩, n, rfl⟩
    · clear ha3
      go_wp2
      go_ret
      exact ⟨⟨_, rfl⟩, n, rfl⟩

set_option maxHeartbeats 2000000 in
set_option maxRecDepth 1000000 in
theorem sameResult_any (w : World) (la lb : Nat) (x y : ResP) (ha : SlAt 2 rowCells w la x.1 x.2) (hb : SlAt 2 rowCells w lb y.1 y.2) (hxy : x.2 = y.2) (hla : la ≤ w.heap.size) (hlb : lb ≤ w.heap.size) :
    Calls Try.prog 40 #[resV x, resV y] w fun e w' => e = .returned (.bool true) ∧ Below w.heap.size w w' := by
  obtain ⟨vx, rx⟩ := x
  obtain ⟨vy, ry⟩ := y
  simp only at ha hb hxy
  subst hxy
  unfold resV
  simp only
  obtain ⟨W, hW⟩ : ∃ W, W = (w.alloc (.cells #[vx] 62)).alloc (.cells #[vy] 62) := ⟨_, rfl⟩
  have bW : Below w.heap.size w W := by rw [hW]; exact ((Below.refl _ _).alloc (Nat.le_refl _) _).alloc (by simp) _
  have k := sameRows_any W la lb vx vy rx (ha.below bW hla) (hb.below bW hlb)
  obtain ⟨ao, ca, rfl, -, -, -⟩ := ha
  obtain ⟨bo, cb, rfl, -, -, -⟩ := hb
  have fin : ∀ n, Below w.heap.size w (W.drewN n) := fun n => bW.trans ((below_drewN W n).mono bW.size)
  clear bW
  subst hW
  go_enter Try.func40, Try.ntmps40
  go_wp2_with fail
  refine k.mono ?_
  rintro e w1 ⟨rfl, n, rfl⟩
  have f := fin n
  clear fin k
  go_wp2
  go_ret
  exact ⟨rfl, f⟩

abbrev SrS (w : World) (b1 o1 b2 o2 : Nat) (x y : Value) (W : World) : Prop := W.cell? ⟨b1, o1, none⟩ = some x ∧ W.cell? ⟨b2, o2, none⟩ = some y ∧ Below w.heap.size w W
theorem SrS.drewN {w : World} {b1 o1 b2 o2 : Nat} {x y : Value} {W : World} (h : SrS w b1 o1 b2 o2 x y W) (n : Nat) : SrS w b1 o1 b2 o2 x y (W.drewN n) := ⟨h.1, h.2.1, h.2.2.trans ((below_drewN W n).mono h.2.2.size)⟩

set_option maxHeartbeats 2000000 in
set_option maxRecDepth 1000000 in
theorem sameResults_any (w : World) (va vb : Value) (l m : List ResP) (ha : ResAt w w.heap.size va l) (hb : ResAt w w.heap.size vb m) (hlm : l.map (·.2) = m.map (·.2)) :
    Calls Try.prog 31 #[va, vb] w fun e w' => e = .returned (.bool true) ∧ Below w.heap.size w w' := by
  obtain ⟨⟨ao, ca, rfl, ha1, ha2, ha3⟩, hra⟩ := ha
  obtain ⟨⟨bo, cb, rfl, hb1, hb2, hb3⟩, hrb⟩ := hb
  have hll : m.length = l.length := by have := congrArg List.length hlm; simpa using this.symm
  have heq : Hid (∀ (k : Nat) (h1 : k < l.length) (h2 : k < m.length), (l[k]'h1).2 = (m[k]'h2).2) := fun k h1 h2 => by
    have e1 : (l.map (·.2))[k]'(by simpa using h1) = (m.map (·.2))[k]'(by simpa using h2) := List.getElem_of_eq hlm _
    simpa using e1
  unfold maxLen at ha2 hb2
  have hb1' : l.length ≤ cb := by omega
  rw [hll]
  have HL : Hid (m.length = l.length) := hll
  clear hlm hll hb1
  go_enter Try.func31, Try.ntmps31
  go_wp2
  go_loopw [5] (fun i wr => ∃ k : Nat, k ≤ l.length ∧ i = .int .i64 k ∧ Below w.heap.size w wr) (fun i _ => l.length - (intOf i).toNat)
  case atStart => exact ⟨0, by omega, rfl, Below.refl _ _⟩
  case round =>
    obtain ⟨k, hk, rfl, hB⟩ := hrel
    by_cases h1 : k < l.length
    · have h2 : k < m.length := by have := HL.out; omega
      obtain ⟨b1, o1, rfl, hl1, hc1⟩ := ha3 (by omega)
      obtain ⟨b2, o2, rfl, hl2, hc2⟩ := hb3 (by omega)
      have hz := hB.size
      have p0 : wr.cell? ⟨b1, o1 + k, none⟩ = some (l[k]'h1).1 := by
        rw [hB.cell hl1]
        have := hc1 k h1 0 _ rfl
        simpa using this
      have q0 : wr.cell? ⟨b2, o2 + k, none⟩ = some (m[k]'h2).1 := by
        rw [hB.cell hl2]
        have := hc2 k h2 0 _ rfl
        simpa using this
      have r1 : RowsAt wr w.heap.size (l[k]'h1) := (hra _ (List.getElem_mem h1)).below hB (Nat.le_refl _)
      have r2 : RowsAt wr w.heap.size (m[k]'h2) := (hrb _ (List.getElem_mem h2)).below hB (Nat.le_refl _)
      have R1 : RowsAt w w.heap.size (l[k]'h1) := hra _ (List.getElem_mem h1)
      have R2 : RowsAt w w.heap.size (m[k]'h2) := hrb _ (List.getElem_mem h2)
      have e12 := heq.out k h1 h2
      generalize l[k]'h1 = x at *
      generalize m[k]'h2 = y at *
      obtain ⟨vx, rx⟩ := x
      obtain ⟨vy, ry⟩ := y
      obtain ⟨ax, cx, hvx, -, -, -⟩ := r1.1
      obtain ⟨ay, cy, hvy, -, -, -⟩ := r2.1
      simp only at hvx hvy p0 q0
      subst hvx
      subst hvy
      have kS : ∀ W, SrS w b1 (o1 + k) b2 (o2 + k) (.slice ax rx.length cx) (.slice ay ry.length cy) W → Calls Try.prog 40 #[.agg #[.slice ax rx.length cx], .agg #[.slice ay ry.length cy]] W fun e w' => e = .returned (.bool true) ∧ SrS w b1 (o1 + k) b2 (o2 + k) (.slice ax rx.length cx) (.slice ay ry.length cy) w' := by
        intro W hW
        refine (sameResult_any W w.heap.size w.heap.size (.slice ax rx.length cx, rx) (.slice ay ry.length cy, ry) (R1.1.below hW.2.2 (Nat.le_refl _)) (R2.1.below hW.2.2 (Nat.le_refl _)) e12 hW.2.2.size hW.2.2.size).mono ?_
        rintro e w' ⟨rfl, h'⟩
        have z := hW.2.2.size
        exact ⟨rfl, (h'.cell (by simp; omega)).trans hW.1, (h'.cell (by simp; omega)).trans hW.2.1, hW.2.2.trans (h'.mono z)⟩
      have hS : SrS w b1 (o1 + k) b2 (o2 + k) (.slice ax rx.length cx) (.slice ay ry.length cy) wr := ⟨p0, q0, hB⟩
      clear hc1 hc2 ha3 hb3 r1 r2 R1 R2 heq hra hrb p0 q0 hB e12
      have i1 : (k : Int) < (l.length : Int) := by omega
      go_wp2_with fail
      go_region_held3 (fun W => W.cell? ⟨b1, o1 + k, none⟩ = some (.slice ax rx.length cx) ∧ W.cell? ⟨b2, o2 + k, none⟩ = some (.slice ay ry.length cy) ∧ Below w.heap.size w W) (first | assumption | exact SrS.drewN (by assumption) 1)
        (first | (go_at_call 40; refine (kS _ (by assumption)).mono ?_; rintro e w' ⟨rfl, hb⟩))
      all_goals
        rename_i hlast
        clear kS
        go_wp2
        go_roundw
        case rel => exact ⟨k + 1, by omega, by go_num, hlast.2.2⟩
        case measure => simp [intOf]; omega
    · clear ha3 hb3 hra hrb heq
      go_wp2
      go_ret
      exact ⟨rfl, hB⟩

set_option maxHeartbeats 2000000 in
set_option maxRecDepth 1000000 in
theorem resultSize_any (w : World) (la : Nat) (x : ResP) (ha : RowsAt w la x) (hla : la ≤ w.heap.size) :
    Calls Try.prog 41 #[resV x] w fun e w' => (∃ z : Int, e = .returned (.int .i64 z)) ∧ Below w.heap.size w w' := by
  obtain ⟨vx, rx⟩ := x
  unfold resV
  simp only
  obtain ⟨W, hW⟩ : ∃ W, W = w.alloc (.cells #[vx] 62) := ⟨_, rfl⟩
  have bW : Below w.heap.size w W := by rw [hW]; exact (Below.refl _ _).alloc (Nat.le_refl _) _
  have hsW : SlAt 2 rowCells W la vx rx := ha.1.below bW hla
  have k := rowsSize_any W la vx rx hsW ha.2
  obtain ⟨ao, ca, hvx, -, -, -⟩ := ha.1
  simp only at hvx
  subst hvx
  have fin : ∀ n, Below w.heap.size w (W.drewN n) := fun n => bW.trans ((below_drewN W n).mono bW.size)
  clear bW hsW
  subst hW
  go_enter Try.func41, Try.ntmps41
  go_wp2_with fail
  refine k.mono ?_
  rintro e w1 ⟨⟨z, rfl⟩, n, rfl⟩
  have f := fin n
  clear fin k
  go_wp2
  go_ret
  exact ⟨⟨_, rfl⟩, f⟩

set_option maxHeartbeats 2000000 in
set_option maxRecDepth 1000000 in
theorem resultsSize_any (w : World) (va : Value) (l : List ResP) (ha : ResAt w w.heap.size va l) :
    Calls Try.prog 33 #[va] w fun e w' => (∃ z : Int, e = .returned (.int .i64 z)) ∧ Below w.heap.size w w' := by
  obtain ⟨⟨ao, ca, rfl, ha1, ha2, ha3⟩, hra⟩ := ha
  unfold maxLen at ha2
  go_enter Try.func33, Try.ntmps33
  go_wp2
  go_loopw [3, 4] (fun s i wr => ∃ (k : Nat) (z : Int), k ≤ l.length ∧ i = .int .i64 k ∧ s = .int .i64 z ∧ Below w.heap.size w wr) (fun _ i _ => l.length - (intOf i).toNat)
  case atStart => exact ⟨0, _, by omega, rfl, rfl, Below.refl _ _⟩
  case round =>
    obtain ⟨k, z, hk, rfl, rfl, hB⟩ := hrel
    by_cases h1 : k < l.length
    · by_cases h2 : z ≤ 1048576
      · obtain ⟨b1, o1, rfl, hl1, hc1⟩ := ha3 (by omega)
        have hz := hB.size
        have p0 : wr.cell? ⟨b1, o1 + k, none⟩ = some (l[k]'h1).1 := by
          rw [hB.cell hl1]
          have := hc1 k h1 0 _ rfl
          simpa using this
        have r1 : RowsAt wr w.heap.size (l[k]'h1) := (hra _ (List.getElem_mem h1)).below hB (Nat.le_refl _)
        generalize l[k]'h1 = x at *
        obtain ⟨vx, rx⟩ := x
        have kS := resultSize_any wr w.heap.size (vx, rx) r1 hz
        obtain ⟨ax, cx, hvx, -, -, -⟩ := r1.1
        simp only at hvx p0
        subst hvx
        unfold resV at kS
        simp only at kS
        clear hc1 ha3 r1 hra
        have i1 : (k : Int) < (l.length : Int) := by omega
        go_wp2_with fail
        refine kS.mono ?_
        rintro e w1 ⟨⟨z1, rfl⟩, b1'⟩
        have f1 := hB.trans (b1'.mono hz)
        clear kS b1'
        go_wp2
        go_roundw
        case rel => exact ⟨k + 1, _, by omega, by go_num, rfl, f1⟩
        case measure => simp [intOf]; omega
      · clear ha3 hra
        go_wp2
        go_ret
        exact ⟨⟨_, rfl⟩, hB⟩
    · clear ha3 hra
      go_wp2
      go_ret
      exact ⟨⟨_, rfl⟩, hB⟩
end Go.Proofs.Ytpmmdbdooclcoaa
