/- The walk of RowsMany: as many changes as there may be, and one more. -/
import Derived.Test.YtndjgilheleplaaRRefCh
import Derived.Test.YtndjgilheleplaaRSameB
import Derived.Test.YtndjgilheleplaaRCases
import Derived.OpenShut
set_option linter.unusedSimpArgs false
set_option linter.unusedVariables false
namespace Go.Proofs.Ytndjgilheleplaa
open Go.RowKit

theorem info_ch : (Try.prog.info? 24).map (fun i => (i.zero, i.size, i.bytes)) = some (some (.agg #[.string ⟨#[]⟩, .int .u32 0, .bool false]), 3, 24) := by kernel_rfl

/-- Block g is a row of n changes, the first k of which are x. -/
def Fill (g n : Nat) (x : ChD) (k : Nat) (w : World) : Prop :=
  ∃ arr : Array Value, w.heap[g]? = some (.cells arr 24 (0, 0)) ∧ arr.size = n * 3 ∧ ∀ i, i < k → ∀ j, j < 3 → arr[i * 3 + j]? = (chCells x)[j]?
theorem Fill.cell {g n k : Nat} {x : ChD} {w : World} (h : Fill g n x k w) (i : Nat) (hi : i < n * 3) : (∃ u, w.cell? ⟨g, i, none⟩ = some u) ∧ w.frozen? ⟨g, i, none⟩ = false := by
  obtain ⟨arr, h1, h2, -⟩ := h
  refine ⟨⟨arr[i]'(by omega), by simp [World.cell?, h1]⟩, box_frozen h1⟩
theorem Fill.step {g n k : Nat} {x : ChD} {w : World} (h : Fill g n x k w) (hk : k < n) :
    Fill g n x (k + 1) (((w.setCell ⟨g, k * 3, none⟩ (.string x.key)).setCell ⟨g, k * 3 + 1, none⟩ (.int .u32 (x.value.toNat : Int))).setCell ⟨g, k * 3 + 2, none⟩ (.bool x.gone)) := by
  obtain ⟨arr, h1, h2, h3⟩ := h
  have e1 := heap_setCell_same w g (k * 3) arr 24 (.string x.key) h1
  have e2 := heap_setCell_same _ g (k * 3 + 1) _ 24 (.int .u32 (x.value.toNat : Int)) e1
  have e3 := heap_setCell_same _ g (k * 3 + 2) _ 24 (.bool x.gone) e2
  refine ⟨_, e3, by simpa using h2, fun i hi j hj => ?_⟩
  have hsz : k * 3 + 2 < arr.size := by omega
  by_cases hik : i < k
  · rw [← h3 i hik j hj]
    simp only [Array.getElem?_setIfInBounds]
    rw [if_neg (by omega), if_neg (by omega), if_neg (by omega)]
  · have hik' : i = k := by omega
    subst hik'
    match j, hj with
    | 0, _ => simp [Array.getElem?_setIfInBounds, chCells]; omega
    | 1, _ => simp [Array.getElem?_setIfInBounds, chCells]; omega
    | 2, _ => simp [Array.getElem?_setIfInBounds, chCells]; omega
theorem Fill.sl {g n : Nat} {x : ChD} {w : World} (h : Fill g n x n w) (hn : n ≤ maxLen) : SlAt 3 chCells w (g + 1) (.slice (some ⟨g, 0, none⟩) n n) (List.replicate n x) := by
  obtain ⟨arr, h1, h2, h3⟩ := h
  refine ⟨_, n, by simp, by simp, hn, fun _ => ⟨g, 0, rfl, by omega, fun i hi j u hu => ?_⟩⟩
  have hi' : i < n := by simpa using hi
  have hj : j < 3 := by
    rcases Nat.lt_or_ge j 3 with h' | h'
    · exact h'
    · rw [List.getElem?_eq_none (by exact h')] at hu; cases hu
  rw [List.getElem_replicate] at hu
  rw [Nat.zero_add, cell_of_row w g _ arr _ _ h1, h3 i hi' j hj]
  exact hu
theorem fill_made {w w1 : World} {base n : Nat} {xs : List Value} {x : ChD} (ho : w1.ownsRow base 24 3 (.slice (some ⟨w.heap.size, 0, none⟩) n n) n xs) : Fill w.heap.size n x 0 w1 := by
  rcases ho.2 with ⟨h, _⟩ | ⟨g, cap, cur, h, _, hg, _, _, hs, _⟩
  · cases h
  · simp only [Value.slice.injEq, Option.some.injEq, Addr.mk.injEq, and_true, true_and] at h
    obtain ⟨rfl, rfl⟩ := h
    exact ⟨cur, hg, hs, fun i hi => absurd hi (Nat.not_lt_zero _)⟩
theorem below_three {B g : Nat} {a w : World} (h : Below B a w) (hg : B ≤ g) (i j k : Nat) (u v x : Value) : Below B a (((w.setCell ⟨g, i, none⟩ u).setCell ⟨g, j, none⟩ v).setCell ⟨g, k, none⟩ x) :=
  ((h.setCell (p := ⟨g, i, none⟩) hg u).setCell (p := ⟨g, j, none⟩) hg v).setCell (p := ⟨g, k, none⟩) hg x

set_option maxHeartbeats 4000000 in
set_option maxRecDepth 1000000 in
theorem many_nat (w : World) (c n : Nat) (x : ChD) (hs : chSm x) (hc : c < 256) (hn : n = 4094 + c % 5) :
    Calls Try.prog 3 #[.int .u8 (c : Int), chV x] w fun e w' => e = .returned (.bool true) ∧ Below w.heap.size w w' := by
  obtain ⟨i0, hi, hz0, hz1, hz2⟩ := info_parts info_ch
  unfold chV
  obtain ⟨W, hW⟩ : ∃ W, W = w.alloc (.cells #[.string x.key, .int .u32 (x.value.toNat : Int), .bool x.gone] 24) := ⟨_, rfl⟩
  have bW : Below w.heap.size w W := by rw [hW]; exact below_one w _
  have zW : W.heap.size = w.heap.size + 1 := by rw [hW]; simp
  have x0 : W.cell? ⟨w.heap.size, 0, none⟩ = some (.string x.key) := by rw [hW]; go_simp
  have x1 : W.cell? ⟨w.heap.size, 1, none⟩ = some (.int .u32 (x.value.toNat : Int)) := by rw [hW]; go_simp
  have x2 : W.cell? ⟨w.heap.size, 2, none⟩ = some (.bool x.gone) := by rw [hW]; go_simp
  have hb : i0.bytes * n ≤ 281474976710656 := by rw [hz2]; omega
  have hnm : n ≤ maxLen := by unfold maxLen; omega
  have hnI : (4094 : Int) + (c : Int) % 5 = (n : Int) := by omega
  have hn1 : n ≤ 5000 := by omega
  have HN : Hid (n = 4094 + c % 5) := hn
  have hsW : w.heap.size ≤ W.heap.size := by omega
  clear hn
  obtain ⟨W0, hW0⟩ : ∃ W0, W0 = W := ⟨_, rfl⟩
  have boxes : ∀ wr, Below (w.heap.size + 1) W wr → wr.cell? ⟨w.heap.size, 0, none⟩ = some (.string x.key) ∧ wr.cell? ⟨w.heap.size, 1, none⟩ = some (.int .u32 (x.value.toNat : Int)) ∧ wr.cell? ⟨w.heap.size, 2, none⟩ = some (.bool x.gone) := fun wr h =>
    ⟨(h.cell (by simp)).trans x0, (h.cell (by simp)).trans x1, (h.cell (by simp)).trans x2⟩
  have fin0 : ∀ w1, (W.grownBy w1 none) → Below (w.heap.size + 1) W w1 := fun w1 hg => (Below.refl _ _).grown hg (by omega) (fun k e => by cases e)
  clear x0 x1 x2 hW0 W0
  subst hW
  go_enter Try.func3, Try.ntmps3
  go_wp2_with (at_make; refine wpList_make_full _ rfl _ _ 25 rfl w.heap.size 24 i0 (.agg #[.string ⟨#[]⟩, .int .u32 0, .bool false]) 3 Try.underlying25 hi hz0 hz1 .i64 .i64 _ _ n rfl rfl rfl rfl hb hnm hsW ?_; intro w1 hown hgr; have hF := fill_made (x := x) hown; have hB1 := fin0 w1 hgr; rw [zW] at hF)
  clear hown hgr fin0
  have bW1 : Below w.heap.size w w1 := bW.trans (hB1.mono (by omega))
  generalize (w.alloc (.cells #[.string x.key, .int .u32 (x.value.toNat : Int), .bool x.gone] 24)) = W at *
  go_loopw [6] (fun i wr => ∃ k : Nat, k ≤ n ∧ i = .int .i64 k ∧ Fill (w.heap.size + 1) n x k wr ∧ Below (w.heap.size + 1) W wr) (fun i _ => n - (intOf i).toNat)
  case atStart => exact ⟨0, by omega, rfl, hF, hB1⟩
  case round =>
    clear hF hB1 bW1
    obtain ⟨k, hk, rfl, hF, hB⟩ := hrel
    obtain ⟨y0, y1, y2⟩ := boxes wr hB
    by_cases h1 : k < n
    · obtain ⟨⟨u0, c0⟩, f0⟩ := hF.cell (k * 3) (by omega)
      obtain ⟨⟨u1, c1⟩, f1⟩ := hF.cell (k * 3 + 1) (by omega)
      obtain ⟨⟨u2, c2⟩, f2⟩ := hF.cell (k * 3 + 2) (by omega)
      have hF2 := hF.step h1
      have hB2 := below_three hB (Nat.le_refl _) (k * 3) (k * 3 + 1) (k * 3 + 2) (.string x.key) (.int .u32 (x.value.toNat : Int)) (.bool x.gone)
      have HF : Hid _ := hF2
      have HB : Hid _ := hB2
      have i1 : (k : Int) < (n : Int) := by omega
      clear hF2 hB2 hF hB boxes
      go_wp2
      go_roundw
      case rel => exact ⟨k + 1, by omega, by go_num, HF.out, HB.out⟩
      case measure => simp [intOf]; omega
    · obtain rfl : k = n := by omega
      have hz := hB.size
      have hsl := (hF.sl hnm).mono (show w.heap.size + 1 + 1 ≤ wr.heap.size by
        obtain ⟨arr, h1, -⟩ := hF
        rcases Nat.lt_or_ge (w.heap.size + 1) wr.heap.size with h' | h'
        · omega
        · rw [Array.getElem?_eq_none h'] at h1; cases h1)
      have hsm : ∀ y ∈ List.replicate k x, chSm y := fun y hy => by rw [List.eq_of_mem_replicate hy]; exact hs
      have bw := bW.trans (hB.mono (by omega))
      have kP := PutChanges_any wr _ _ hsl hsm
      have kR := fun W2 (h2 : Below wr.heap.size wr W2) => refPutChanges_any W2 _ _ ((hsl.below h2 (Nat.le_refl _)).mono h2.size) hsm
      generalize putChs (List.replicate k x) = R at *
      clear hsl hF hs hsm
      go_wp2_with fail
      refine kP.mono ?_
      rintro e w3 ⟨v3, rfl, o3, b3⟩
      have kR3 := kR w3 b3
      have bw3 := bw.trans (b3.mono bw.size)
      have q0 := (boxes w3 (hB.trans (b3.mono (by omega)))).1
      clear kP kR b3 boxes y0 y1 y2
      obtain ⟨a3, c3, rfl⟩ := own_len o3
      go_wp2_with fail
      refine kR3.mono ?_
      rintro e w4 ⟨v4, rfl, o4, b4⟩
      have bw4 := bw3.trans (b4.mono bw3.size)
      have q1 := (b4.cell (p := ⟨w.heap.size, 0, none⟩) (by have := World.block_lt_of_cell? w3 _ q0; simpa using this)).trans q0
      have o3' := o3.below b4
      clear kR3 b4 o3 q0
      obtain ⟨a4, c4, rfl⟩ := own_len o4
      by_cases hk100 : 100 < x.key.size
      · clear o3' o4
        go_wp2
        go_ret
        exact ⟨rfl, bw4⟩
      · have ks := sameBytes_any w4 _ _ _ _ R.1 (in_own o3') (in_own o4)
        generalize R.1.length = N1 at *
        generalize (R.2 : Int) = E at *
        clear o3' o4
        go_wp2_with fail
        refine ks.mono ?_
        rintro e w5 ⟨rfl, n5, rfl⟩
        have bw5 := bw4.trans ((below_drewN w4 n5).mono bw4.size)
        generalize w4.drewN n5 = w5 at *
        clear ks
        go_wp2
        go_ret
        exact ⟨by simp, bw5⟩

theorem many_walk (w : World) (z : Int) (x : ChD) (hz : (Lit.int .u8 z).wf = true) (hs : chSm x) :
    Calls Try.prog 3 #[.int .u8 z, chV x] w fun e w' => e = .returned (.bool true) ∧ Below w.heap.size w w' := by
  have hb := bounds_u8 hz
  obtain ⟨c, rfl⟩ : ∃ c : Nat, z = (c : Int) := ⟨z.toNat, by omega⟩
  exact many_nat w c (4094 + c % 5) x hs (by omega) rfl
end Go.Proofs.Ytndjgilheleplaa
