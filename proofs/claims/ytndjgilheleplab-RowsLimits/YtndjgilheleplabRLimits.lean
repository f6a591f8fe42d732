/- The walk of RowsLimits: as many ops, results, and rows of one as there may be are put; one more is too many. -/
import Derived.Test.YtndjgilheleplabRAlive
import Derived.Test.YtndjgilheleplabRCases
import Derived.OpenShut
set_option linter.unusedSimpArgs false
set_option linter.unusedVariables false
namespace Go.Proofs.Ytndjgilheleplab
open Go.RowKit

theorem info_op : (Try.prog.info? 40).map (fun i => (i.zero, i.size, i.bytes)) = some (some (.agg #[.int .u8 0, .string ⟨#[]⟩, .string ⟨#[]⟩, .int .u32 0]), 4, 48) := by kernel_rfl
theorem info_row : (Try.prog.info? 49).map (fun i => (i.zero, i.size, i.bytes)) = some (some (.agg #[.string ⟨#[]⟩, .int .u32 0]), 2, 24) := by kernel_rfl
theorem info_res : (Try.prog.info? 47).map (fun i => (i.zero, i.size, i.bytes)) = some (some (.agg #[.slice none 0 0]), 1, 24) := by kernel_rfl

/-- The op that is put. -/
def getK : OpD := ⟨1, ⟨#[107]⟩, ⟨#[]⟩, 0⟩
def Fill (g n k : Nat) (w : World) : Prop :=
  ∃ arr : Array Value, w.heap[g]? = some (.cells arr 40 (0, 0)) ∧ arr.size = n * 4 ∧ ∀ i, i < k → ∀ j, j < 4 → arr[i * 4 + j]? = (opCells getK)[j]?
theorem Fill.cell {g n k : Nat} {w : World} (h : Fill g n k w) (i : Nat) (hi : i < n * 4) : (∃ u, w.cell? ⟨g, i, none⟩ = some u) ∧ w.frozen? ⟨g, i, none⟩ = false := by
  obtain ⟨arr, h1, h2, -⟩ := h
  refine ⟨⟨arr[i]'(by omega), by simp [World.cell?, h1]⟩, box_frozen h1⟩
theorem Fill.step {g n k : Nat} {w : World} (h : Fill g n k w) (hk : k < n) :
    Fill g n (k + 1) ((((w.setCell ⟨g, k * 4, none⟩ (.int .u8 1)).setCell ⟨g, k * 4 + 1, none⟩ (.string ⟨#[107]⟩)).setCell ⟨g, k * 4 + 2, none⟩ (.string ⟨#[]⟩)).setCell ⟨g, k * 4 + 3, none⟩ (.int .u32 0)) := by
  obtain ⟨arr, h1, h2, h3⟩ := h
  have e1 := heap_setCell_same w g (k * 4) arr 40 (.int .u8 1) h1
  have e2 := heap_setCell_same _ g (k * 4 + 1) _ 40 (.string ⟨#[107]⟩) e1
  have e3 := heap_setCell_same _ g (k * 4 + 2) _ 40 (.string ⟨#[]⟩) e2
  have e4 := heap_setCell_same _ g (k * 4 + 3) _ 40 (.int .u32 0) e3
  refine ⟨_, e4, by simpa using h2, fun i hi j hj => ?_⟩
  have hsz : k * 4 + 3 < arr.size := by omega
  by_cases hik : i < k
  · rw [← h3 i hik j hj]
    simp only [Array.getElem?_setIfInBounds]
    rw [if_neg (by omega), if_neg (by omega), if_neg (by omega), if_neg (by omega)]
  · have hik' : i = k := by omega
    subst hik'
    match j, hj with
    | 0, _ => simp [Array.getElem?_setIfInBounds, opCells, getK]; omega
    | 1, _ => simp [Array.getElem?_setIfInBounds, opCells, getK]; omega
    | 2, _ => simp [Array.getElem?_setIfInBounds, opCells, getK]; omega
    | 3, _ => simp [Array.getElem?_setIfInBounds, opCells, getK]; omega
theorem Fill.sl {g n : Nat} {w : World} (h : Fill g n n w) (hn : n ≤ maxLen) : SlAt 4 opCells w (g + 1) (.slice (some ⟨g, 0, none⟩) n n) (List.replicate n getK) := by
  obtain ⟨arr, h1, h2, h3⟩ := h
  refine ⟨_, n, by simp, by simp, hn, fun _ => ⟨g, 0, rfl, by omega, fun i hi j u hu => ?_⟩⟩
  have hi' : i < n := by simpa using hi
  have hj : j < 4 := by
    rcases Nat.lt_or_ge j 4 with h' | h'
    · exact h'
    · rw [List.getElem?_eq_none (by exact h')] at hu; cases hu
  rw [List.getElem_replicate] at hu
  rw [Nat.zero_add, cell_of_row w g _ arr _ _ h1, h3 i hi' j hj]
  exact hu
theorem fill_made {w w1 : World} {base n : Nat} {xs : List Value} (ho : w1.ownsRow base 40 4 (.slice (some ⟨w.heap.size, 0, none⟩) n n) n xs) : Fill w.heap.size n 0 w1 := by
  rcases ho.2 with ⟨h, _⟩ | ⟨g, cap, cur, h, _, hg, _, _, hs, _⟩
  · cases h
  · simp only [Value.slice.injEq, Option.some.injEq, Addr.mk.injEq, and_true, true_and] at h
    obtain ⟨rfl, rfl⟩ := h
    exact ⟨cur, hg, hs, fun i hi => absurd hi (Nat.not_lt_zero _)⟩
theorem below_four {B g : Nat} {a w : World} (h : Below B a w) (hg : B ≤ g) (i j k l : Nat) (u v x y : Value) : Below B a ((((w.setCell ⟨g, i, none⟩ u).setCell ⟨g, j, none⟩ v).setCell ⟨g, k, none⟩ x).setCell ⟨g, l, none⟩ y) :=
  (((h.setCell (p := ⟨g, i, none⟩) hg u).setCell (p := ⟨g, j, none⟩) hg v).setCell (p := ⟨g, k, none⟩) hg x).setCell (p := ⟨g, l, none⟩) hg y

/-- Block g is a row of m results without rows, but for the one at h, which is v. -/
def ResFill (g m h : Nat) (v : Value) (w : World) : Prop :=
  ∃ arr : Array Value, w.heap[g]? = some (.cells arr 47 (0, 0)) ∧ arr.size = m ∧ ∀ i, i < m → arr[i]? = some (if i = h then v else .slice none 0 0)
theorem ResFill.cell {g m h : Nat} {v : Value} {w : World} (hf : ResFill g m h v w) (hh : h < m) : w.cell? ⟨g, h, none⟩ = some v ∧ w.frozen? ⟨g, h, none⟩ = false := by
  obtain ⟨arr, h1, h2, h3⟩ := hf
  refine ⟨?_, box_frozen h1⟩
  rw [cell_of_row w g _ arr _ _ h1, h3 h hh, if_pos rfl]
theorem ResFill.set {g m h : Nat} {v : Value} {w : World} (hf : ResFill g m h v w) (v' : Value) : ResFill g m h v' (w.setCell ⟨g, h, none⟩ v') := by
  obtain ⟨arr, h1, h2, h3⟩ := hf
  refine ⟨_, heap_setCell_same w g h arr _ v' h1, by simpa using h2, fun i hi => ?_⟩
  rw [Array.getElem?_setIfInBounds]
  by_cases e : h = i
  · subst e
    rw [if_pos rfl, if_pos rfl, if_pos (by omega)]
  · rw [if_neg e, h3 i hi, if_neg (fun h => e h.symm), if_neg (fun h => e h.symm)]
theorem ResFill.kept {g m h : Nat} {v : Value} {w w' : World} (hf : ResFill g m h v w) (hb : w'.heap[g]? = w.heap[g]?) : ResFill g m h v w' := by
  obtain ⟨arr, h1, h2, h3⟩ := hf
  exact ⟨arr, by rw [hb]; exact h1, h2, h3⟩
theorem resfill_made {w w1 : World} {base m h : Nat} (ho : w1.ownsRow base 47 1 (.slice (some ⟨w.heap.size, 0, none⟩) m m) m (madeCells #[.slice none 0 0] (m * 1)).toList) : ResFill w.heap.size m h (.slice none 0 0) w1 := by
  rcases ho.2 with ⟨h, _⟩ | ⟨g, cap, cur, h, _, hg, _, _, hs, ht⟩
  · cases h
  · simp only [Value.slice.injEq, Option.some.injEq, Addr.mk.injEq, and_true, true_and] at h
    obtain ⟨rfl, rfl⟩ := h
    refine ⟨cur, hg, by omega, fun i hi => ?_⟩
    rw [List.take_of_length_le (by rw [Array.length_toList, hs]; exact Nat.le_refl _), toList_madeCells_one] at ht
    have : cur[i]? = cur.toList[i]? := by simp
    rw [this, ht, List.getElem?_replicate, if_pos (by omega)]
    split <;> rfl

/-- The rows of the one result. -/
def rowsK (k : Nat) : List RowD := (List.range k).map (fun i => ⟨⟨#[107]⟩, UInt32.ofNat i⟩)
theorem rowsK_len (k : Nat) : (rowsK k).length = k := by simp [rowsK]
theorem rowsK_succ (k : Nat) : rowsK (k + 1) = rowsK k ++ [⟨⟨#[107]⟩, UInt32.ofNat k⟩] := by simp [rowsK, List.range_succ]
theorem rowsK_ok (k : Nat) : resOk (rowsK k) = true := by
  unfold resOk
  rw [List.all_eq_true]
  intro x hx
  obtain ⟨i, _, rfl⟩ := List.mem_map.mp hx
  show chk ⟨#[107]⟩ = true
  decide
/-- The results. -/
def resL (m h k : Nat) (v : Value) : List ResP := (List.range m).map (fun i => if i = h then (v, rowsK k) else (.slice none 0 0, []))
theorem resL_len (m h k : Nat) (v : Value) : (resL m h k v).length = m := by simp [resL]
theorem resL_get {m h k : Nat} {v : Value} {i : Nat} (hi : i < (resL m h k v).length) : (resL m h k v)[i]'hi = if i = h then (v, rowsK k) else (.slice none 0 0, []) := by simp [resL]
theorem resL_ok (m h k : Nat) (v : Value) : (resL m h k v).all resOkP = true := by
  rw [List.all_eq_true]
  intro p hp
  obtain ⟨i, _, rfl⟩ := List.mem_map.mp hp
  split
  · exact rowsK_ok k
  · rfl
theorem resL_few {m h k : Nat} {v : Value} (hh : h < m) : (resL m h k v).all fewP = decide (k ≤ 256) := by
  rw [Bool.eq_iff_iff, List.all_eq_true, decide_eq_true_iff]
  constructor
  · intro H
    have := H _ (List.getElem_mem (show h < (resL m h k v).length by rw [resL_len]; exact hh))
    rw [resL_get, if_pos rfl] at this
    simpa [fewP, rowsK_len] using this
  · intro hk p hp
    obtain ⟨i, _, rfl⟩ := List.mem_map.mp hp
    split
    · simpa [fewP, rowsK_len] using hk
    · rfl
theorem resL_at {g m h k : Nat} {v : Value} {w : World} {base : Nat} (hf : ResFill g m h v w) (hm : m ≤ maxLen) (hg : g < w.heap.size) (ho : w.ownsRow base 49 2 v k ((rowsK k).flatMap rowCells)) : ResAt w w.heap.size (.slice (some ⟨g, 0, none⟩) m m) (resL m h k v) := by
  obtain ⟨arr, h1, h2, h3⟩ := hf
  refine ⟨⟨_, m, by rw [resL_len], by rw [resL_len]; exact Nat.le_refl _, hm, fun _ => ⟨g, 0, rfl, hg, fun i hi j u hu => ?_⟩⟩, fun p hp => ?_⟩
  · rw [resL_get] at hu
    have hi' : i < m := by rw [resL_len] at hi; exact hi
    have hj : j = 0 := by
      rcases Nat.lt_or_ge j 1 with h' | h'
      · omega
      · rw [List.getElem?_eq_none (by exact h')] at hu; cases hu
    subst hj
    rw [Nat.zero_add, Nat.mul_one, Nat.add_zero, cell_of_row w g _ arr _ _ h1, h3 i hi']
    split at hu
    · rw [if_pos (by assumption)]; exact hu
    · rw [if_neg (by assumption)]; exact hu
  · obtain ⟨i, _, rfl⟩ := List.mem_map.mp hp
    split
    · refine ⟨sl_own rowCells_len (by rw [rowsK_len]; exact ho), fun x hx => ?_⟩
      obtain ⟨i, _, rfl⟩ := List.mem_map.mp hx
      exact sm_lit (s := ⟨#[107]⟩) (by decide)
    · exact ⟨sl_own (e := 0) (base := 0) rowCells_len (World.ownsRow_nil _ _ _ _), fun x hx => by cases hx⟩
theorem repl_ok (n : Nat) : (List.replicate n getK).all opOk = true := by
  rw [List.all_eq_true]
  intro x hx
  rw [List.eq_of_mem_replicate hx]
  decide
theorem repl_sm (n : Nat) : ∀ x ∈ List.replicate n getK, opSm x := fun x hx => by
  rw [List.eq_of_mem_replicate hx]
  exact ⟨sm_lit (by decide), sm_lit (by decide)⟩

set_option maxHeartbeats 8000000 in
set_option maxRecDepth 1000000 in
theorem limits_nat (w : World) (a0 a1 a2 n m k h : Nat) (h0 : a0 < 256) (h1 : a1 < 256) (h2 : a2 < 256) (hn : n = 14 + a0 % 5) (hm : m = 14 + a1 % 5) (hk : k = 254 + a2 % 5) (hh : h = m / 2) :
    Calls Try.prog 5 #[.agg #[.int .u8 (a0 : Int), .int .u8 (a1 : Int), .int .u8 (a2 : Int)]] w fun e w' => e = .returned (.bool true) ∧ Below w.heap.size w w' := by
  obtain ⟨i0, hi, hz0, hz1, hz2⟩ := info_parts info_op
  obtain ⟨j0, ji, jz0, jz1, jz2⟩ := info_parts info_res
  obtain ⟨r0, ri, rz0, rz1, rz2⟩ := info_parts info_row
  have hnI : (14 : Int) + (a0 : Int) % 5 = (n : Int) := by omega
  have hmI : (14 : Int) + (a1 : Int) % 5 = (m : Int) := by omega
  have hkI : (254 : Int) + (a2 : Int) % 5 = (k : Int) := by omega
  have hhI : (m : Int) / 2 = (h : Int) := by omega
  have bn : n ≤ 18 := by omega
  have bm : m ≤ 18 ∧ 14 ≤ m := by omega
  have bk : k ≤ 258 := by omega
  have bh : h < m := by omega
  have hb1 : i0.bytes * n ≤ 281474976710656 := by rw [hz2]; omega
  have hb2 : j0.bytes * m ≤ 281474976710656 := by rw [jz2]; omega
  have hnm : n ≤ maxLen := by unfold maxLen; omega
  have hmm : m ≤ maxLen := by unfold maxLen; omega
  clear hn hm hk hh
  obtain ⟨W, hW⟩ : ∃ W, W = w.alloc (.cells #[.int .u8 (a0 : Int), .int .u8 (a1 : Int), .int .u8 (a2 : Int)] 42) := ⟨_, rfl⟩
  have bW : Below w.heap.size w W := by rw [hW]; exact below_one w _
  have hsW : w.heap.size ≤ W.heap.size := bW.size
  have fin0 : ∀ w1, (W.grownBy w1 none) → Below W.heap.size W w1 := fun w1 hg => (Below.refl _ _).grown hg (Nat.le_refl _) (fun k e => by cases e)
  have zW : W.heap.size = w.heap.size + 1 := by rw [hW]; simp
  subst hW
  go_enter Try.func5, Try.ntmps5
  go_wp2_with (at_make; refine wpList_make_full _ rfl (.tmp 31) (.tmp 31) 43 rfl w.heap.size 40 i0 _ 4 Try.underlying43 hi hz0 hz1 .i64 .i64 _ _ n rfl rfl rfl rfl hb1 hnm hsW ?_; intro w1 hown hgr; have hF := fill_made hown; have hB1 := fin0 w1 hgr; rw [zW] at hF)
  clear hown hgr fin0
  have bW1 : Below w.heap.size w w1 := bW.trans (hB1.mono hsW)
  go_loopw [7] (fun i wr => ∃ q : Nat, q ≤ n ∧ i = .int .i64 q ∧ Fill (w.heap.size + 1) n q wr ∧ Below (w.heap.size + 1) w1 wr) (fun i _ => n - (intOf i).toNat)
  case atStart => exact ⟨0, by omega, rfl, hF, Below.refl _ _⟩
  case round =>
    clear hF hB1
    obtain ⟨q, hq, rfl, hF, hB⟩ := hrel
    by_cases h1 : q < n
    · obtain ⟨⟨u0, c0⟩, f0⟩ := hF.cell (q * 4) (by omega)
      obtain ⟨⟨u1, c1⟩, f1⟩ := hF.cell (q * 4 + 1) (by omega)
      obtain ⟨⟨u2, c2⟩, f2⟩ := hF.cell (q * 4 + 2) (by omega)
      obtain ⟨⟨u3, c3⟩, f3⟩ := hF.cell (q * 4 + 3) (by omega)
      have HF : Hid _ := hF.step h1
      have HB : Hid _ := below_four hB (Nat.le_refl _) (q * 4) (q * 4 + 1) (q * 4 + 2) (q * 4 + 3) (.int .u8 1) (.string ⟨#[107]⟩) (.string ⟨#[]⟩) (.int .u32 0)
      have i1 : (q : Int) < (n : Int) := by omega
      clear hF hB
      go_wp2
      go_roundw
      case rel => exact ⟨q + 1, by omega, by go_num, HF.out, HB.out⟩
      case measure => simp [intOf]; omega
    · obtain rfl : q = n := by omega
      obtain ⟨wO, hwO⟩ : ∃ x, x = wr := ⟨_, rfl⟩
      subst hwO
      have hz := hB.size
      have hsl := hF.sl hnm
      have hgl : w.heap.size + 1 < wO.heap.size := by
        obtain ⟨arr, h1, -⟩ := hF
        rcases Nat.lt_or_ge (w.heap.size + 1) wO.heap.size with h' | h'
        · omega
        · rw [Array.getElem?_eq_none h'] at h1; cases h1
      have bw := bW1.trans (hB.mono (by omega))
      have fin1 : ∀ w2, (wO.grownBy w2 none) → Below wO.heap.size wO w2 := fun w2 hg => (Below.refl _ _).grown hg (Nat.le_refl _) (fun k e => by cases e)
      have hsr : w.heap.size ≤ wO.heap.size := bw.size
      clear hF hB bW1 bW
      go_wp2_with (at_make; refine wpList_make_full _ rfl (.tmp 42) (.tmp 42) 44 rfl w.heap.size 47 j0 _ 1 Try.underlying44 ji jz0 jz1 .i64 .i64 _ _ m rfl rfl rfl rfl hb2 hmm hsr ?_; intro w2 hown2 hgr2; have hR := resfill_made (h := h) hown2; have hB2 := fin1 w2 hgr2)
      clear hown2 hgr2 fin1
      have zr : wO.heap.size < w2.heap.size := by
        obtain ⟨arr, h1, -⟩ := hR
        rcases Nat.lt_or_ge wO.heap.size w2.heap.size with h' | h'
        · omega
        · rw [Array.getElem?_eq_none h'] at h1; cases h1
      go_loopw [9] (fun i wr => ∃ (q2 : Nat) (v : Value), q2 ≤ k ∧ i = .int .i64 q2 ∧ ResFill wO.heap.size m h v wr ∧ wr.ownsRow (wO.heap.size + 1) 49 2 v q2 ((rowsK q2).flatMap rowCells) ∧ Below wO.heap.size wO wr ∧ wO.heap.size < wr.heap.size) (fun i _ => k - (intOf i).toNat)
      case atStart => exact ⟨0, .slice none 0 0, by omega, rfl, hR, World.ownsRow_nil _ _ _ _, hB2, zr⟩
      case round =>
        clear hR hB2 zr
        obtain ⟨q2, v, hq2, rfl, hR, hO, hB, hzs⟩ := hrel
        by_cases h2 : q2 < k
        · obtain ⟨c0, f0⟩ := hR.cell bh
          obtain ⟨av, cv, rfl⟩ := own_len hO
          have i1 : (q2 : Int) < (k : Int) := by omega
          have i2 : (q2 : Int) % 4294967296 = (q2 : Int) := by omega
          obtain ⟨vs, hvs⟩ : ∃ vs, vs = rowCells ⟨⟨#[107]⟩, UInt32.ofNat q2⟩ := ⟨_, rfl⟩
          have hvs2 : vs = [.string ⟨#[107]⟩, .int .u32 (q2 : Int)] := by rw [hvs]; unfold rowCells; rw [u32_nat (by omega)]
          have hO4 := hO.alloc (.cells vs.toArray 49)
          have hn4 : ∀ j u, vs[j]? = some u → (wr.alloc (.cells vs.toArray 49)).cell? ((⟨wr.heap.size, 0, none⟩ : Addr).add j) = some u := news_ofv vs _
          have hs4 : wO.heap.size + 1 ≤ (wr.alloc (.cells vs.toArray 49)).heap.size := by simp; omega
          have hl4 : vs.length = 1 * 2 := by rw [hvs2]; rfl
          have ho4 : ∀ u ∈ vs, u.oneCell' = true := by rw [hvs2]; intro u hu; simp at hu; rcases hu with rfl | rfl <;> rfl
          have fin : ∀ v' w4, w4.ownsRow (wO.heap.size + 1) 49 2 v' (q2 + 1) ((rowsK q2).flatMap rowCells ++ vs) → (wr.alloc (.cells vs.toArray 49)).grownBy w4 (Value.ownBlock (.slice av q2 cv)) →
              w4.cell? ⟨wO.heap.size, h, none⟩ = some (.slice av q2 cv) ∧ w4.frozen? ⟨wO.heap.size, h, none⟩ = false ∧ ResFill wO.heap.size m h v' (w4.setCell ⟨wO.heap.size, h, none⟩ v') ∧ (w4.setCell ⟨wO.heap.size, h, none⟩ v').ownsRow (wO.heap.size + 1) 49 2 v' (q2 + 1) ((rowsK (q2 + 1)).flatMap rowCells) ∧ Below wO.heap.size wO (w4.setCell ⟨wO.heap.size, h, none⟩ v') ∧ wO.heap.size < (w4.setCell ⟨wO.heap.size, h, none⟩ v').heap.size := by
            intro v' w4 ho hg
            have hrow : ∀ k, Value.ownBlock (.slice av q2 cv) = some k → wO.heap.size + 1 ≤ k := own_row_ge hO4
            have hblk : ∀ i, i ≤ wO.heap.size → w4.heap[i]? = wr.heap[i]? := fun i hi => by
              rw [hg.block i (by simp; omega) (fun e => by have := hrow i e.symm; omega), Below.heap_alloc _ _ _ (by omega)]
            have hR4 : ResFill wO.heap.size m h (.slice av q2 cv) w4 := hR.kept (hblk _ (Nat.le_refl _))
            obtain ⟨d0, g0⟩ := hR4.cell bh
            refine ⟨d0, g0, hR4.set v', ?_, ?_, by have := hg.size; simp [World.setCell] at this ⊢; omega⟩
            · rw [rowsK_succ, flat_one, ← hvs]
              exact ownsRow_setCell_below ho (by simp) v'
            · exact Below.setCell ⟨by rw [hg.os]; exact hB.os, by rw [hg.tape]; exact hB.tape, by rw [hg.output]; exact hB.output, by have := hg.size; simp at this; omega, fun i hi => (hblk i (by omega)).trans (hB.block i hi)⟩ (Nat.le_refl _) v'
          have hq3 : (q2 + 1) * 24 ≤ 140737488355328 := by omega
          have hq4 : q2 + 1 ≤ maxLen := by unfold maxLen; omega
          clear hO hR hvs hB
          subst hvs2
          go_wp2_with (at_builtin; refine wpList_append_own_src _ rfl (.tmp 57) (.tmp 61) 45 45 rfl (wO.heap.size + 1) 49 r0 _ 2 24 Try.underlying45 ri rz0 rz1 rz2 rfl (by decide) (.slice av q2 cv) q2 _ rfl hO4 (.slice (some ⟨wr.heap.size, 0, none⟩) 1 1) 1 _ rfl (Src.ofSlice _ Try.underlying45 ⟨wr.heap.size, 0, none⟩ 1 1 _ hl4 hn4 ho4) hq4 hq3 hs4 ?_; intro v' w4 hown5 hg5 _; obtain ⟨av5, cv5, rfl⟩ := own_len hown5; have F := fin _ w4 hown5 hg5; obtain ⟨F1, F2, F3, F4, F5, F6⟩ := F)
          clear fin
          go_roundw
          case rel => exact ⟨q2 + 1, _, by omega, by go_num, F3, F4, F5, F6⟩
          case measure => simp [intOf]; omega
        · obtain rfl : q2 = k := by omega
          have hops := (hsl.below hB (by omega)).mono (show w.heap.size + 1 + 1 ≤ wr.heap.size by have := hB.size; omega)
          have hres := resL_at hR hmm hzs hO
          have b0 := bw.trans (hB.mono bw.size)
          have hok := resL_ok m h q2 v
          have hfw := resL_few (k := q2) (v := v) bh
          have hrl := resL_len m h q2 v
          have HG : Hid (∀ (i : Nat) (hi : i < (resL m h q2 v).length), i = h → ((resL m h q2 v)[i]'hi).2.length = q2) := fun i hi e => by rw [resL_get hi, if_pos e, rowsK_len]
          clear hsl hgl hR hO hB bw
          generalize resL m h q2 v = LP at *
          have i1 : ¬ ((q2 : Int) < (q2 : Int)) := by omega
          by_cases c1 : q ≤ 16
          · by_cases c2 : m ≤ 16
            · by_cases c3 : q2 ≤ 256
              · have kP := PutOps_fits hops (repl_sm q) (repl_ok q) (by simpa using c1)
                go_wp2_with fail
                refine kP.mono ?_
                rintro e w5 ⟨ao5, c5, rfl, o5, b5⟩
                clear o5
                have b6 := b0.trans (b5.mono b0.size)
                have hres5 := (hres.below b5 (Nat.le_refl _)).mono b5.size
                clear kP hops hres b5
                have kR := PutResults_fits hres5 hok ⟨by omega, by rw [hfw]; simpa using c3⟩
                go_wp2_with fail
                refine kR.mono ?_
                rintro e w6 ⟨ao6, c6, rfl, o6, b7⟩
                have b8 := b6.trans (b7.mono b6.size)
                clear kR hres5 b7
                have hgp : getRes (encList encResP LP) = (LP.map (·.2), 0) := by rw [encList_P]; exact getRes_put (by rw [all_P]; exact hok) (by rw [List.length_map]; omega) (by rw [few_P, hfw]; simpa using c3)
                have kg := GetResults_some (in_own o6) hgp
                simp only [List.length_map, hrl] at kg
                go_wp2_with fail
                refine kg.mono ?_
                rintro e w7 ⟨ao7, c7, l7, rfl, o7, m7, b9⟩
                have b10 := b8.trans (b9.mono b8.size)
                clear kg o6 b9 hgp
                have hl7 : l7.length = m := by have := congrArg List.length m7; simpa [hrl] using this
                have kA := alive_any w7
                obtain ⟨g7, cap7, hv7, _, hg7⟩ := o7.own.form (by omega)
                simp only [Value.slice.injEq] at hv7
                obtain ⟨rfl, -, rfl⟩ := hv7
                have hh7 : h < l7.length := by omega
                have hc7 : w7.cell? ⟨g7, h, none⟩ = some (l7[h]'hh7).1 := by
                  have e := o7.own
                  rw [hl7] at e
                  rw [World.ownsRow.cellAt e h (by omega)]
                  have := flat_get resCells_len l7 h hh7 0 (by omega)
                  rw [Nat.mul_one, Nat.add_zero] at this
                  rw [this]; rfl
                have hlen7 : (l7[h]'hh7).2.length = q2 := by
                  have e1 : (l7.map (·.2))[h]'(by simpa using hh7) = (LP.map (·.2))[h]'(by rw [List.length_map, hrl]; exact bh) := List.getElem_of_eq m7 _
                  simp only [List.getElem_map] at e1
                  rw [e1]
                  exact HG.out h (by rw [hrl]; exact bh) rfl
                obtain ⟨a8, c8, hv8⟩ := own_len (o7.rows _ (List.getElem_mem hh7))
                rw [hv8, hlen7] at hc7
                clear hv8 hlen7 o7 m7 HG
                go_wp2_with fail
                refine kA.mono ?_
                rintro e w8 ⟨rfl, b11⟩
                have b12 := b10.trans (b11.mono b10.size)
                have hc8 := (b11.cell (p := ⟨g7, h, none⟩) hg7).trans hc7
                clear kA b11 hc7
                go_wp2
                go_ret
                exact ⟨rfl, b12⟩

              · have hlim : ¬ (LP.length ≤ 16 ∧ LP.all fewP = true) := by rw [hfw]; simp; omega
                have kP := PutOps_fits hops (repl_sm q) (repl_ok q) (by simpa using c1)
                go_wp2_with fail
                refine kP.mono ?_
                rintro e w5 ⟨ao5, c5, rfl, o5, b5⟩
                clear o5
                have b6 := b0.trans (b5.mono b0.size)
                have hres5 := (hres.below b5 (Nat.le_refl _)).mono b5.size
                clear kP hops hres b5
                have kR := PutResults_limit hres5 hok hlim
                go_wp2_with fail
                refine kR.mono ?_
                rintro e w6 ⟨ao6, c6, rfl, b7⟩
                have b8 := b6.trans (b7.mono b6.size)
                clear kR hres5 b7 HG
                go_wp2_with fail
                refine (alive_any _).mono ?_
                rintro e w7 ⟨rfl, b9⟩
                have b10 := b8.trans (b9.mono b8.size)
                go_wp2
                go_ret
                exact ⟨rfl, b10⟩

            · have hlim : ¬ (LP.length ≤ 16 ∧ LP.all fewP = true) := by omega
              have kP := PutOps_fits hops (repl_sm q) (repl_ok q) (by simpa using c1)
              go_wp2_with fail
              refine kP.mono ?_
              rintro e w5 ⟨ao5, c5, rfl, o5, b5⟩
              clear o5
              have b6 := b0.trans (b5.mono b0.size)
              have hres5 := (hres.below b5 (Nat.le_refl _)).mono b5.size
              clear kP hops hres b5
              have kR := PutResults_limit hres5 hok hlim
              go_wp2_with fail
              refine kR.mono ?_
              rintro e w6 ⟨ao6, c6, rfl, b7⟩
              have b8 := b6.trans (b7.mono b6.size)
              clear kR hres5 b7 HG
              go_wp2_with fail
              refine (alive_any _).mono ?_
              rintro e w7 ⟨rfl, b9⟩
              have b10 := b8.trans (b9.mono b8.size)
              go_wp2
              go_ret
              exact ⟨rfl, b10⟩

          · by_cases c2 : m ≤ 16
            · by_cases c3 : q2 ≤ 256
              · have kP := PutOps_limit hops (repl_sm q) (repl_ok q) (by simpa using c1)
                go_wp2_with fail
                refine kP.mono ?_
                rintro e w5 ⟨ao5, c5, rfl, b5⟩
                have b6 := b0.trans (b5.mono b0.size)
                have hres5 := (hres.below b5 (Nat.le_refl _)).mono b5.size
                clear kP hops hres b5
                have kR := PutResults_fits hres5 hok ⟨by omega, by rw [hfw]; simpa using c3⟩
                go_wp2_with fail
                refine kR.mono ?_
                rintro e w6 ⟨ao6, c6, rfl, o6, b7⟩
                have b8 := b6.trans (b7.mono b6.size)
                clear kR hres5 b7
                have hgp : getRes (encList encResP LP) = (LP.map (·.2), 0) := by rw [encList_P]; exact getRes_put (by rw [all_P]; exact hok) (by rw [List.length_map]; omega) (by rw [few_P, hfw]; simpa using c3)
                have kg := GetResults_some (in_own o6) hgp
                simp only [List.length_map, hrl] at kg
                go_wp2_with fail
                refine kg.mono ?_
                rintro e w7 ⟨ao7, c7, l7, rfl, o7, m7, b9⟩
                have b10 := b8.trans (b9.mono b8.size)
                clear kg o6 b9 hgp
                have hl7 : l7.length = m := by have := congrArg List.length m7; simpa [hrl] using this
                have kA := alive_any w7
                obtain ⟨g7, cap7, hv7, _, hg7⟩ := o7.own.form (by omega)
                simp only [Value.slice.injEq] at hv7
                obtain ⟨rfl, -, rfl⟩ := hv7
                have hh7 : h < l7.length := by omega
                have hc7 : w7.cell? ⟨g7, h, none⟩ = some (l7[h]'hh7).1 := by
                  have e := o7.own
                  rw [hl7] at e
                  rw [World.ownsRow.cellAt e h (by omega)]
                  have := flat_get resCells_len l7 h hh7 0 (by omega)
                  rw [Nat.mul_one, Nat.add_zero] at this
                  rw [this]; rfl
                have hlen7 : (l7[h]'hh7).2.length = q2 := by
                  have e1 : (l7.map (·.2))[h]'(by simpa using hh7) = (LP.map (·.2))[h]'(by rw [List.length_map, hrl]; exact bh) := List.getElem_of_eq m7 _
                  simp only [List.getElem_map] at e1
                  rw [e1]
                  exact HG.out h (by rw [hrl]; exact bh) rfl
                obtain ⟨a8, c8, hv8⟩ := own_len (o7.rows _ (List.getElem_mem hh7))
                rw [hv8, hlen7] at hc7
                clear hv8 hlen7 o7 m7 HG
                go_wp2_with fail
                refine kA.mono ?_
                rintro e w8 ⟨rfl, b11⟩
                have b12 := b10.trans (b11.mono b10.size)
                have hc8 := (b11.cell (p := ⟨g7, h, none⟩) hg7).trans hc7
                clear kA b11 hc7
                go_wp2
                go_ret
                exact ⟨rfl, b12⟩

              · have hlim : ¬ (LP.length ≤ 16 ∧ LP.all fewP = true) := by rw [hfw]; simp; omega
                have kP := PutOps_limit hops (repl_sm q) (repl_ok q) (by simpa using c1)
                go_wp2_with fail
                refine kP.mono ?_
                rintro e w5 ⟨ao5, c5, rfl, b5⟩
                have b6 := b0.trans (b5.mono b0.size)
                have hres5 := (hres.below b5 (Nat.le_refl _)).mono b5.size
                clear kP hops hres b5
                have kR := PutResults_limit hres5 hok hlim
                go_wp2_with fail
                refine kR.mono ?_
                rintro e w6 ⟨ao6, c6, rfl, b7⟩
                have b8 := b6.trans (b7.mono b6.size)
                clear kR hres5 b7 HG
                go_wp2_with fail
                refine (alive_any _).mono ?_
                rintro e w7 ⟨rfl, b9⟩
                have b10 := b8.trans (b9.mono b8.size)
                go_wp2
                go_ret
                exact ⟨rfl, b10⟩

            · have hlim : ¬ (LP.length ≤ 16 ∧ LP.all fewP = true) := by omega
              have kP := PutOps_limit hops (repl_sm q) (repl_ok q) (by simpa using c1)
              go_wp2_with fail
              refine kP.mono ?_
              rintro e w5 ⟨ao5, c5, rfl, b5⟩
              have b6 := b0.trans (b5.mono b0.size)
              have hres5 := (hres.below b5 (Nat.le_refl _)).mono b5.size
              clear kP hops hres b5
              have kR := PutResults_limit hres5 hok hlim
              go_wp2_with fail
              refine kR.mono ?_
              rintro e w6 ⟨ao6, c6, rfl, b7⟩
              have b8 := b6.trans (b7.mono b6.size)
              clear kR hres5 b7 HG
              go_wp2_with fail
              refine (alive_any _).mono ?_
              rintro e w7 ⟨rfl, b9⟩
              have b10 := b8.trans (b9.mono b8.size)
              go_wp2
              go_ret
              exact ⟨rfl, b10⟩


theorem limits_walk (w : World) (x y z : UInt8) :
    Calls Try.prog 5 #[.agg #[.int .u8 (x.toNat : Int), .int .u8 (y.toNat : Int), .int .u8 (z.toNat : Int)]] w fun e w' => e = .returned (.bool true) ∧ Below w.heap.size w w' :=
  limits_nat w x.toNat y.toNat z.toNat _ _ _ _ (u8_lt x) (u8_lt y) (u8_lt z) rfl rfl rfl rfl
end Go.Proofs.Ytndjgilheleplab
