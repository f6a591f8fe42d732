/- The walks of the statements' own helpers: whether two lists are the same, how much a list has in it. -/
import Derived.Test.YtpmmdbdooclcoabQData
import Derived.Deep.RegionHeld3
import Derived.Deep.RegionWith
import Derived.Deep.QuietTactic
import Derived.Laws.StructEq
set_option linter.unusedSimpArgs false
set_option linter.unusedVariables false
namespace Go.Proofs.Ytpmmdbdooclcoab
open Go.RowKit



set_option maxHeartbeats 2000000 in
set_option maxRecDepth 1000000 in
theorem rowsSize_any (w : World) (la : Nat) (va : Value) (l : List RowD) (ha : SlAt 2 rowCells w la va l) (hsm : ∀ x ∈ l, rowSm x) :
    Calls Try.prog 31 #[va] w fun e w' => (∃ z : Int, e = .returned (.int .i64 z)) ∧ ∃ n, w' = w.drewN n := by
  obtain ⟨ao, ca, rfl, ha1, ha2, ha3⟩ := ha
  unfold maxLen at ha2
  go_enter Try.func31, Try.ntmps31
  go_wp2
  go_loopw [3, 4] (fun s i wr => ∃ (k n : Nat) (z : Int), k ≤ l.length ∧ i = .int .i64 k ∧ s = .int .i64 z ∧ wr = w.drewN n) (fun _ i _ => l.length - (intOf i).toNat)
  case atStart => exact ⟨0, 0, _, by omega, rfl, rfl, rfl⟩
  case round =>
    obtain ⟨k, n, z, hk, rfl, rfl, rfl⟩ := hrel
    by_cases h1 : k < l.length
    · by_cases h2 : z ≤ 1048576
      · obtain ⟨b1, o1, rfl, hl1, hc1⟩ := ha3 (by omega)
        obtain ⟨x, hx⟩ : ∃ x, x = l[k]'h1 := ⟨_, rfl⟩
        have p : ∀ j u, (rowCells x)[j]? = some u → w.cell? ⟨b1, o1 + k * 2 + j, none⟩ = some u := fun j u hu => hc1 k h1 j u (by rw [← hx]; exact hu)
        have p0 := p 0 _ rfl
        have p1 := p 1 _ rfl
        simp only [Nat.add_zero, Nat.mul_one] at p0
        clear p hx hc1 ha3
        have i1 : (k : Int) < (l.length : Int) := by omega
        go_wp2

        go_roundw
        case rel => exact ⟨k + 1, _, _, by omega, by go_num, rfl, rfl⟩
        case measure => simp [intOf]; omega
      · clear ha3
        go_wp2
        go_ret
        exact ⟨⟨_, rfl⟩, n, rfl⟩
    · clear ha3
      go_wp2
      go_ret
      exact ⟨⟨_, rfl⟩, n, rfl⟩

abbrev SrS (w : World) (b1 o1 b2 o2 : Nat) (x y : Value) (W : World) : Prop := W.cell? ⟨b1, o1, none⟩ = some x ∧ W.cell? ⟨b2, o2, none⟩ = some y ∧ Below w.heap.size w W
theorem SrS.drewN {w : World} {b1 o1 b2 o2 : Nat} {x y : Value} {W : World} (h : SrS w b1 o1 b2 o2 x y W) (n : Nat) : SrS w b1 o1 b2 o2 x y (W.drewN n) := ⟨h.1, h.2.1, h.2.2.trans ((below_drewN W n).mono h.2.2.size)⟩

set_option maxHeartbeats 2000000 in
set_option maxRecDepth 1000000 in
theorem resultSize_any (w : World) (la : Nat) (x : ResP) (ha : RowsAt w la x) (hla : la ≤ w.heap.size) :
    Calls Try.prog 24 #[resV x] w fun e w' => (∃ z : Int, e = .returned (.int .i64 z)) ∧ Below w.heap.size w w' := by
  obtain ⟨vx, rx⟩ := x
  unfold resV
  simp only
  obtain ⟨W, hW⟩ : ∃ W, W = w.alloc (.cells #[vx] 67) := ⟨_, rfl⟩
  have bW : Below w.heap.size w W := by rw [hW]; exact (Below.refl _ _).alloc (Nat.le_refl _) _
  have hsW : SlAt 2 rowCells W la vx rx := ha.1.below bW hla
  have k := rowsSize_any W la vx rx hsW ha.2
  obtain ⟨ao, ca, hvx, -, -, -⟩ := ha.1
  simp only at hvx
  subst hvx
  have fin : ∀ n, Below w.heap.size w (W.drewN n) := fun n => bW.trans ((below_drewN W n).mono bW.size)
  clear bW hsW
  subst hW
  go_enter Try.func24, Try.ntmps24
  go_wp2_with fail
  refine k.mono ?_
  rintro e w1 ⟨⟨z, rfl⟩, n, rfl⟩
  have f := fin n
  clear fin k
  go_wp2
  go_ret
  exact ⟨⟨_, rfl⟩, f⟩

set_option maxHeartbeats 2000000 in
set_option maxRecDepth 1000000 in
theorem resultsSize_any (w : World) (va : Value) (l : List ResP) (ha : ResAt w w.heap.size va l) :
    Calls Try.prog 15 #[va] w fun e w' => (∃ z : Int, e = .returned (.int .i64 z)) ∧ Below w.heap.size w w' := by
  obtain ⟨⟨ao, ca, rfl, ha1, ha2, ha3⟩, hra⟩ := ha
  unfold maxLen at ha2
  go_enter Try.func15, Try.ntmps15
  go_wp2
  go_loopw [3, 4] (fun s i wr => ∃ (k : Nat) (z : Int), k ≤ l.length ∧ i = .int .i64 k ∧ s = .int .i64 z ∧ Below w.heap.size w wr) (fun _ i _ => l.length - (intOf i).toNat)
  case atStart => exact ⟨0, _, by omega, rfl, rfl, Below.refl _ _⟩
  case round =>
    obtain ⟨k, z, hk, rfl, rfl, hB⟩ := hrel
    by_cases h1 : k < l.length
    · by_cases h2 : z ≤ 1048576
      · obtain ⟨b1, o1, rfl, hl1, hc1⟩ := ha3 (by omega)
        have hz := hB.size
        have p0 : wr.cell? ⟨b1, o1 + k, none⟩ = some (l[k]'h1).1 := by
          rw [hB.cell hl1]
          have := hc1 k h1 0 _ rfl
          simpa using this
        have r1 : RowsAt wr w.heap.size (l[k]'h1) := (hra _ (List.getElem_mem h1)).below hB (Nat.le_refl _)
        generalize l[k]'h1 = x at *
        obtain ⟨vx, rx⟩ := x
        have kS := resultSize_any wr w.heap.size (vx, rx) r1 hz
        obtain ⟨ax, cx, hvx, -, -, -⟩ := r1.1
        simp only at hvx p0
        subst hvx
        unfold resV at kS
        simp only at kS
        clear hc1 ha3 r1 hra
        have i1 : (k : Int) < (l.length : Int) := by omega
        go_wp2_with fail
        refine kS.mono ?_
        rintro e w1 ⟨⟨z1, rfl⟩, b1'⟩
        have f1 := hB.trans (b1'.mono hz)
        clear kS b1'
        go_wp2
        go_roundw
        case rel => exact ⟨k + 1, _, by omega, by go_num, rfl, f1⟩
        case measure => simp [intOf]; omega
      · clear ha3 hra
        go_wp2
        go_ret
        exact ⟨⟨_, rfl⟩, hB⟩
    · clear ha3 hra
      go_wp2
      go_ret
      exact ⟨⟨_, rfl⟩, hB⟩
end Go.Proofs.Ytpmmdbdooclcoab
