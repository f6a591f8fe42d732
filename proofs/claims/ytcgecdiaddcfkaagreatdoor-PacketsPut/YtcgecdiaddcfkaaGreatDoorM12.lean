/- Texts of this proof, laid into one. -/
import Derived.Test.YtcgecdiaddcfkaaGreatDoorM10
import Derived.Test.YtcgecdiaddcfkaaGreatDoorRBkOpM
/- The walk of a book's lists of this kind (Row): how they are looked at. -/
set_option linter.unusedSimpArgs false
set_option linter.unusedVariables false
namespace Go.Proofs.YtcgecdiaddcfkaaGreatDoor
open Go.RowKit Go.BigFrame

abbrev LkRow (w : World) (r b1 o1 b2 o2 n : Nat) (l lg : Value) (W : World) : Prop := W.cell? ⟨r, 0, none⟩ = some (l) ∧ W.cell? ⟨r, 1, none⟩ = some (lg) ∧ W.cell? ⟨r, 2, none⟩ = some (.int .i64 ((n : Nat) : Int)) ∧ W.cell? ⟨b1, o1, none⟩ = some (.string (wordB n)) ∧ W.cell? ⟨b1, o1 + 1, none⟩ = some (.int .u32 0) ∧ W.cell? ⟨b2, o2, none⟩ = some (.string (wordB n)) ∧ W.cell? ⟨b2, o2 + 1, none⟩ = some (.int .u32 0) ∧ Below w.heap.size w W
theorem LkRow.drewN {w : World} {r b1 o1 b2 o2 n : Nat} {l lg : Value} {W : World} (h : LkRow w r b1 o1 b2 o2 n l lg W) (m : Nat) : LkRow w r b1 o1 b2 o2 n l lg (W.drewN m) := by
  obtain ⟨h0, h1, h2, h3, h4, h5, h6, hb⟩ := h
  exact ⟨h0, h1, h2, h3, h4, h5, h6, below_drewN' hb m⟩
theorem LkRow.below {w : World} {r b1 o1 b2 o2 n : Nat} {l lg : Value} {W W' : World} (h : LkRow w r b1 o1 b2 o2 n l lg W) (hb : Below W.heap.size W W') : LkRow w r b1 o1 b2 o2 n l lg W' := by
  obtain ⟨h0, h1, h2, h3, h4, h5, h6, hB⟩ := h
  exact ⟨(hb.cell (World.block_lt_of_cell? W _ h0)).trans h0, (hb.cell (World.block_lt_of_cell? W _ h1)).trans h1, (hb.cell (World.block_lt_of_cell? W _ h2)).trans h2, (hb.cell (World.block_lt_of_cell? W _ h3)).trans h3, (hb.cell (World.block_lt_of_cell? W _ h4)).trans h4, (hb.cell (World.block_lt_of_cell? W _ h5)).trans h5, (hb.cell (World.block_lt_of_cell? W _ h6)).trans h6, hB.trans (hb.mono hB.size)⟩

set_option maxHeartbeats 4000000 in
set_option maxRecDepth 1000000 in
theorem lookRow_any (w : World) (bk top : Nat) (v : Value) (E : List Ent) (hb : w.cell? ⟨bk, 5, none⟩ = some v) (hbk : bk < w.heap.size) (h : GAt top w 129 2 mkRow v E) (htab : Tab w) :
    Calls Tryz.prog 71 #[ptr bk] w fun e w' => e = .returned (.bool true) ∧ Below w.heap.size w w' := by
  have hfew := h.few
  obtain ⟨ao, cap, rfl, hc1, hc2⟩ := own_len' h.held
  unfold maxLen at hc2
  go_enter Tryz.func71, Tryz.ntmps71
  go_wp2
  go_loopw [3] (fun i wr => ∃ k : Nat, k ≤ E.length ∧ i = .int .i64 k ∧ Below w.heap.size w wr) (fun i _ => E.length - (intOf i).toNat)
  case atStart => exact ⟨0, by omega, rfl, Below.refl _ _⟩
  case round =>
    obtain ⟨k, hk, rfl, hB⟩ := hrel
    have hb1 : wr.cell? ⟨bk, 5, none⟩ = some (.slice ao E.length cap) := (hB.cell (p := ⟨bk, 5, none⟩) hbk).trans hb
    by_cases h1 : k < E.length
    · obtain ⟨x, hx⟩ : ∃ x, E[k]? = some x := ⟨E[k]'h1, by simp [h1]⟩
      obtain ⟨hdone, hLn, hN⟩ := h.done x (List.mem_of_getElem? hx)
      obtain ⟨g, cap', e1, -, -, c0, c1, c2, -⟩ := held_cell h.held hx
      simp only [Value.slice.injEq, true_and] at e1
      obtain ⟨rfl, rfl⟩ := e1
      obtain ⟨al, cl, el, hl1, hl2, hlc⟩ := slp_parts hdone.1
      obtain ⟨am, cm, em, hm1, hm2, hmc⟩ := slp_parts hdone.2
      rw [el] at c0
      rw [em] at c1
      unfold maxLen at hl2 hm2
      have hgs : g < w.heap.size := (h.held.lt g rfl).2
      rw [← hB.cell (p := ⟨g, k * 3, none⟩) hgs] at c0
      rw [← hB.cell (p := ⟨g, k * 3 + 1, none⟩) hgs] at c1
      rw [← hB.cell (p := ⟨g, k * 3 + 2, none⟩) hgs] at c2
      have i1 : (k : Int) < (E.length : Int) := by omega
      have hz := hB.size
      obtain ⟨wO, hO⟩ : ∃ x, x = wr := ⟨_, rfl⟩
      subst hO
      go_wp2
      go_loopw [5] (fun j wq => ∃ q : Nat, q ≤ x.len + 40 ∧ j = .int .i64 q ∧ Below w.heap.size w wq ∧ Below (wO.heap.size + 1) (wO.alloc (.cells #[.slice al x.len cl, .slice am (x.len + 40) cm, .int .i64 (x.n : Int)] 129)) wq) (fun j _ => x.len + 40 - (intOf j).toNat)
      case atStart => exact ⟨0, by omega, rfl, hB.trans (((Below.refl _ _).alloc (Nat.le_refl _) _).mono hz), Below.refl _ _⟩
      case round =>
        clear c0 c1 c2 hb1 hB
        obtain ⟨q, hq, rfl, hB, hBo⟩ := hrel
        have hzq : wO.heap.size < wr.heap.size := by have := hBo.size; simp at this; omega
        have hH : wr.heap[wO.heap.size]? = some (.cells #[.slice al x.len cl, .slice am (x.len + 40) cm, .int .i64 (x.n : Int)] 129 (0, 0)) := (hBo.block _ (by omega)).trans (heap_alloc_new wO _)
        obtain ⟨d0, d1, d2⟩ := triple_cell hH
        by_cases hq1 : q < x.len + 40
        · obtain ⟨b1, o1, rfl, hb1, hcell1⟩ := hmc q hq1
          have e0 : wr.cell? ⟨b1, o1 + q * 2, none⟩ = some (.string (wordB x.n)) := (hB.cell (p := ⟨b1, _, none⟩) hb1).trans (hcell1 0 _ rfl)
          have e1 : wr.cell? ⟨b1, o1 + q * 2 + 1, none⟩ = some (.int .u32 0) := (hB.cell (p := ⟨b1, _, none⟩) hb1).trans (hcell1 1 _ rfl)
          have i2 : (q : Int) < (x.len : Int) + 40 := by omega
          have hbo2 := fun (W : World) (hW : Below wr.heap.size wr W) => hBo.trans (hW.mono (Nat.succ_le_of_lt hzq))
          by_cases hq2 : q < x.len
          · obtain ⟨b2, o2, rfl, hb2, hcell2⟩ := hlc q hq2
            have g0 : wr.cell? ⟨b2, o2 + q * 2, none⟩ = some (.string (wordB x.n)) := (hB.cell (p := ⟨b2, _, none⟩) hb2).trans (hcell2 0 _ rfl)
            have g1 : wr.cell? ⟨b2, o2 + q * 2 + 1, none⟩ = some (.int .u32 0) := (hB.cell (p := ⟨b2, _, none⟩) hb2).trans (hcell2 1 _ rfl)
            have i3 : (q : Int) < (x.len : Int) := by omega
            clear hcell2
            have hS : LkRow w wO.heap.size b1 (o1 + q * 2) b2 (o2 + q * 2) x.n (.slice (some ⟨b2, o2, none⟩) x.len cl) (.slice (some ⟨b1, o1, none⟩) (x.len + 40) cm) wr ∧ Below wr.heap.size wr wr := ⟨⟨d0, d1, d2, e0, e1, g0, g1, hB⟩, Below.refl _ _⟩
            have kis : ∀ W, (LkRow w wO.heap.size b1 (o1 + q * 2) b2 (o2 + q * 2) x.n (.slice (some ⟨b2, o2, none⟩) x.len cl) (.slice (some ⟨b1, o1, none⟩) (x.len + 40) cm) W ∧ Below wr.heap.size wr W) → Calls Tryz.prog 129 #[.agg #[.string (wordB x.n), .int .u32 0], .int .i64 (x.n : Int)] W fun e w' => e = .returned (.bool true) ∧ (LkRow w wO.heap.size b1 (o1 + q * 2) b2 (o2 + q * 2) x.n (.slice (some ⟨b2, o2, none⟩) x.len cl) (.slice (some ⟨b1, o1, none⟩) (x.len + 40) cm) w' ∧ Below wr.heap.size wr w') := by
              intro W hW
              refine (isRow_any W x.n hN (tab_below htab (hB.trans (hW.2.mono hB.size)))).mono ?_
              rintro e w' ⟨rfl, h'⟩
              exact ⟨rfl, hW.1.below h', hW.2.trans (h'.mono hW.2.size)⟩
            clear hcell1 hlc hmc hH
            go_wp2_with fail
            refine wp_region_class (C := fun W => LkRow w wO.heap.size b1 (o1 + q * 2) b2 (o2 + q * 2) x.n (.slice (some ⟨b2, o2, none⟩) x.len cl) (.slice (some ⟨b1, o1, none⟩) (x.len + 40) cm) W ∧ Below wr.heap.size wr W) (by kernel_rfl) (by kernel_rfl) ⟨hS.1.drewN 1, below_drew wr⟩ ?_
            clear hS
            repeat (first | go_big_quiet_skip | (go_big_quiet_want; go_big_quiet_op; go_big_quiet_on) | (go_big_quiet_want; apply Exists.intro; refine ⟨fun W hW => ?_, ?_⟩; (· first | (obtain ⟨⟨D0, D1, D2, E0, E1, G0, G1, -⟩, -⟩ := hW; unfold Oper.quietAt; go_simp; done) | (obtain ⟨⟨D0, D1, D2, E0, E1, G0, G1, -⟩, -⟩ := hW; unfold Oper.quietAt; go_simp; exact rfl) | (unfold Oper.quietAt; go_simp; exact kis W hW)); go_simp; go_big_quiet_on))
            refine wpQuiet_nil ?_
            intro W' hlast
            clear kis
            go_wp2
            go_roundw
            case rel => exact ⟨q + 1, by omega, by go_num, hB.trans (hlast.2.mono hB.size), hbo2 _ hlast.2⟩
            case measure => simp [intOf]; omega
          · have i3 : decide ((q : Int) < (x.len : Int)) = false := by simp; omega
            have hS : LkRow w wO.heap.size b1 (o1 + q * 2) b1 (o1 + q * 2) x.n (.slice al x.len cl) (.slice (some ⟨b1, o1, none⟩) (x.len + 40) cm) wr ∧ Below wr.heap.size wr wr := ⟨⟨d0, d1, d2, e0, e1, e0, e1, hB⟩, Below.refl _ _⟩
            have kis : ∀ W, (LkRow w wO.heap.size b1 (o1 + q * 2) b1 (o1 + q * 2) x.n (.slice al x.len cl) (.slice (some ⟨b1, o1, none⟩) (x.len + 40) cm) W ∧ Below wr.heap.size wr W) → Calls Tryz.prog 129 #[.agg #[.string (wordB x.n), .int .u32 0], .int .i64 (x.n : Int)] W fun e w' => e = .returned (.bool true) ∧ (LkRow w wO.heap.size b1 (o1 + q * 2) b1 (o1 + q * 2) x.n (.slice al x.len cl) (.slice (some ⟨b1, o1, none⟩) (x.len + 40) cm) w' ∧ Below wr.heap.size wr w') := by
              intro W hW
              refine (isRow_any W x.n hN (tab_below htab (hB.trans (hW.2.mono hB.size)))).mono ?_
              rintro e w' ⟨rfl, h'⟩
              exact ⟨rfl, hW.1.below h', hW.2.trans (h'.mono hW.2.size)⟩
            clear hcell1 hlc hmc hH
            go_wp2_with fail
            refine wp_region_class (C := fun W => LkRow w wO.heap.size b1 (o1 + q * 2) b1 (o1 + q * 2) x.n (.slice al x.len cl) (.slice (some ⟨b1, o1, none⟩) (x.len + 40) cm) W ∧ Below wr.heap.size wr W) (by kernel_rfl) (by kernel_rfl) ⟨hS.1.drewN 1, below_drew wr⟩ ?_
            clear hS
            repeat (first | go_big_quiet_skip | (go_big_quiet_want; go_big_quiet_op; go_big_quiet_on) | (go_big_quiet_want; apply Exists.intro; refine ⟨fun W hW => ?_, ?_⟩; (· first | (obtain ⟨⟨D0, D1, D2, E0, E1, G0, G1, -⟩, -⟩ := hW; unfold Oper.quietAt; go_simp; done) | (obtain ⟨⟨D0, D1, D2, E0, E1, G0, G1, -⟩, -⟩ := hW; unfold Oper.quietAt; go_simp; exact rfl) | (unfold Oper.quietAt; go_simp; exact kis W hW)); go_simp; go_big_quiet_on))
            refine wpQuiet_nil ?_
            intro W' hlast
            clear kis
            go_wp2
            go_roundw
            case rel => exact ⟨q + 1, by omega, by go_num, hB.trans (hlast.2.mono hB.size), hbo2 _ hlast.2⟩
            case measure => simp [intOf]; omega
        · obtain rfl : q = x.len + 40 := by omega
          have i2 : ¬ (((x.len + 40 : Nat) : Int) < (x.len : Int) + 40) := by omega
          clear hlc hmc
          go_wp2
          go_roundw
          case rel => exact ⟨k + 1, by omega, by go_num, hB⟩
          case measure => simp [intOf]; omega
    · obtain rfl : k = E.length := by omega
      go_wp2
      go_ret
      exact ⟨rfl, hB⟩
end Go.Proofs.YtcgecdiaddcfkaaGreatDoor
/- The walk of a book's lists of this kind (Op): how they are looked at. -/
set_option linter.unusedSimpArgs false
set_option linter.unusedVariables false
namespace Go.Proofs.YtcgecdiaddcfkaaGreatDoor
open Go.RowKit Go.BigFrame

abbrev LkOp (w : World) (r b1 o1 b2 o2 n : Nat) (l lg : Value) (W : World) : Prop := W.cell? ⟨r, 0, none⟩ = some (l) ∧ W.cell? ⟨r, 1, none⟩ = some (lg) ∧ W.cell? ⟨r, 2, none⟩ = some (.int .i64 ((n : Nat) : Int)) ∧ W.cell? ⟨b1, o1, none⟩ = some (.int .u8 0) ∧ W.cell? ⟨b1, o1 + 1, none⟩ = some (.string (wordB n)) ∧ W.cell? ⟨b1, o1 + 2, none⟩ = some (.string ⟨#[]⟩) ∧ W.cell? ⟨b1, o1 + 3, none⟩ = some (.int .u32 0) ∧ W.cell? ⟨b2, o2, none⟩ = some (.int .u8 0) ∧ W.cell? ⟨b2, o2 + 1, none⟩ = some (.string (wordB n)) ∧ W.cell? ⟨b2, o2 + 2, none⟩ = some (.string ⟨#[]⟩) ∧ W.cell? ⟨b2, o2 + 3, none⟩ = some (.int .u32 0) ∧ Below w.heap.size w W
theorem LkOp.drewN {w : World} {r b1 o1 b2 o2 n : Nat} {l lg : Value} {W : World} (h : LkOp w r b1 o1 b2 o2 n l lg W) (m : Nat) : LkOp w r b1 o1 b2 o2 n l lg (W.drewN m) := by
  obtain ⟨h0, h1, h2, h3, h4, h5, h6, h7, h8, h9, h10, hb⟩ := h
  exact ⟨h0, h1, h2, h3, h4, h5, h6, h7, h8, h9, h10, below_drewN' hb m⟩
theorem LkOp.below {w : World} {r b1 o1 b2 o2 n : Nat} {l lg : Value} {W W' : World} (h : LkOp w r b1 o1 b2 o2 n l lg W) (hb : Below W.heap.size W W') : LkOp w r b1 o1 b2 o2 n l lg W' := by
  obtain ⟨h0, h1, h2, h3, h4, h5, h6, h7, h8, h9, h10, hB⟩ := h
  exact ⟨(hb.cell (World.block_lt_of_cell? W _ h0)).trans h0, (hb.cell (World.block_lt_of_cell? W _ h1)).trans h1, (hb.cell (World.block_lt_of_cell? W _ h2)).trans h2, (hb.cell (World.block_lt_of_cell? W _ h3)).trans h3, (hb.cell (World.block_lt_of_cell? W _ h4)).trans h4, (hb.cell (World.block_lt_of_cell? W _ h5)).trans h5, (hb.cell (World.block_lt_of_cell? W _ h6)).trans h6, (hb.cell (World.block_lt_of_cell? W _ h7)).trans h7, (hb.cell (World.block_lt_of_cell? W _ h8)).trans h8, (hb.cell (World.block_lt_of_cell? W _ h9)).trans h9, (hb.cell (World.block_lt_of_cell? W _ h10)).trans h10, hB.trans (hb.mono hB.size)⟩

set_option maxHeartbeats 4000000 in
set_option maxRecDepth 1000000 in
theorem lookOp_any (w : World) (bk top : Nat) (v : Value) (E : List Ent) (hb : w.cell? ⟨bk, 6, none⟩ = some v) (hbk : bk < w.heap.size) (h : GAt top w 132 4 mkOp v E) (htab : Tab w) :
    Calls Tryz.prog 72 #[ptr bk] w fun e w' => e = .returned (.bool true) ∧ Below w.heap.size w w' := by
  have hfew := h.few
  obtain ⟨ao, cap, rfl, hc1, hc2⟩ := own_len' h.held
  unfold maxLen at hc2
  go_enter Tryz.func72, Tryz.ntmps72
  go_wp2
  go_loopw [3] (fun i wr => ∃ k : Nat, k ≤ E.length ∧ i = .int .i64 k ∧ Below w.heap.size w wr) (fun i _ => E.length - (intOf i).toNat)
  case atStart => exact ⟨0, by omega, rfl, Below.refl _ _⟩
  case round =>
    obtain ⟨k, hk, rfl, hB⟩ := hrel
    have hb1 : wr.cell? ⟨bk, 6, none⟩ = some (.slice ao E.length cap) := (hB.cell (p := ⟨bk, 6, none⟩) hbk).trans hb
    by_cases h1 : k < E.length
    · obtain ⟨x, hx⟩ : ∃ x, E[k]? = some x := ⟨E[k]'h1, by simp [h1]⟩
      obtain ⟨hdone, hLn, hN⟩ := h.done x (List.mem_of_getElem? hx)
      obtain ⟨g, cap', e1, -, -, c0, c1, c2, -⟩ := held_cell h.held hx
      simp only [Value.slice.injEq, true_and] at e1
      obtain ⟨rfl, rfl⟩ := e1
      obtain ⟨al, cl, el, hl1, hl2, hlc⟩ := slp_parts hdone.1
      obtain ⟨am, cm, em, hm1, hm2, hmc⟩ := slp_parts hdone.2
      rw [el] at c0
      rw [em] at c1
      unfold maxLen at hl2 hm2
      have hgs : g < w.heap.size := (h.held.lt g rfl).2
      rw [← hB.cell (p := ⟨g, k * 3, none⟩) hgs] at c0
      rw [← hB.cell (p := ⟨g, k * 3 + 1, none⟩) hgs] at c1
      rw [← hB.cell (p := ⟨g, k * 3 + 2, none⟩) hgs] at c2
      have i1 : (k : Int) < (E.length : Int) := by omega
      have hz := hB.size
      obtain ⟨wO, hO⟩ : ∃ x, x = wr := ⟨_, rfl⟩
      subst hO
      go_wp2
      go_loopw [5] (fun j wq => ∃ q : Nat, q ≤ x.len + 40 ∧ j = .int .i64 q ∧ Below w.heap.size w wq ∧ Below (wO.heap.size + 1) (wO.alloc (.cells #[.slice al x.len cl, .slice am (x.len + 40) cm, .int .i64 (x.n : Int)] 132)) wq) (fun j _ => x.len + 40 - (intOf j).toNat)
      case atStart => exact ⟨0, by omega, rfl, hB.trans (((Below.refl _ _).alloc (Nat.le_refl _) _).mono hz), Below.refl _ _⟩
      case round =>
        clear c0 c1 c2 hb1 hB
        obtain ⟨q, hq, rfl, hB, hBo⟩ := hrel
        have hzq : wO.heap.size < wr.heap.size := by have := hBo.size; simp at this; omega
        have hH : wr.heap[wO.heap.size]? = some (.cells #[.slice al x.len cl, .slice am (x.len + 40) cm, .int .i64 (x.n : Int)] 132 (0, 0)) := (hBo.block _ (by omega)).trans (heap_alloc_new wO _)
        obtain ⟨d0, d1, d2⟩ := triple_cell hH
        by_cases hq1 : q < x.len + 40
        · obtain ⟨b1, o1, rfl, hb1, hcell1⟩ := hmc q hq1
          have e0 : wr.cell? ⟨b1, o1 + q * 4, none⟩ = some (.int .u8 0) := (hB.cell (p := ⟨b1, _, none⟩) hb1).trans (hcell1 0 _ rfl)
          have e1 : wr.cell? ⟨b1, o1 + q * 4 + 1, none⟩ = some (.string (wordB x.n)) := (hB.cell (p := ⟨b1, _, none⟩) hb1).trans (hcell1 1 _ rfl)
          have e2 : wr.cell? ⟨b1, o1 + q * 4 + 2, none⟩ = some (.string ⟨#[]⟩) := (hB.cell (p := ⟨b1, _, none⟩) hb1).trans (hcell1 2 _ rfl)
          have e3 : wr.cell? ⟨b1, o1 + q * 4 + 3, none⟩ = some (.int .u32 0) := (hB.cell (p := ⟨b1, _, none⟩) hb1).trans (hcell1 3 _ rfl)
          have i2 : (q : Int) < (x.len : Int) + 40 := by omega
          have hbo2 := fun (W : World) (hW : Below wr.heap.size wr W) => hBo.trans (hW.mono (Nat.succ_le_of_lt hzq))
          by_cases hq2 : q < x.len
          · obtain ⟨b2, o2, rfl, hb2, hcell2⟩ := hlc q hq2
            have g0 : wr.cell? ⟨b2, o2 + q * 4, none⟩ = some (.int .u8 0) := (hB.cell (p := ⟨b2, _, none⟩) hb2).trans (hcell2 0 _ rfl)
            have g1 : wr.cell? ⟨b2, o2 + q * 4 + 1, none⟩ = some (.string (wordB x.n)) := (hB.cell (p := ⟨b2, _, none⟩) hb2).trans (hcell2 1 _ rfl)
            have g2 : wr.cell? ⟨b2, o2 + q * 4 + 2, none⟩ = some (.string ⟨#[]⟩) := (hB.cell (p := ⟨b2, _, none⟩) hb2).trans (hcell2 2 _ rfl)
            have g3 : wr.cell? ⟨b2, o2 + q * 4 + 3, none⟩ = some (.int .u32 0) := (hB.cell (p := ⟨b2, _, none⟩) hb2).trans (hcell2 3 _ rfl)
            have i3 : (q : Int) < (x.len : Int) := by omega
            clear hcell2
            have hS : LkOp w wO.heap.size b1 (o1 + q * 4) b2 (o2 + q * 4) x.n (.slice (some ⟨b2, o2, none⟩) x.len cl) (.slice (some ⟨b1, o1, none⟩) (x.len + 40) cm) wr ∧ Below wr.heap.size wr wr := ⟨⟨d0, d1, d2, e0, e1, e2, e3, g0, g1, g2, g3, hB⟩, Below.refl _ _⟩
            have kis : ∀ W, (LkOp w wO.heap.size b1 (o1 + q * 4) b2 (o2 + q * 4) x.n (.slice (some ⟨b2, o2, none⟩) x.len cl) (.slice (some ⟨b1, o1, none⟩) (x.len + 40) cm) W ∧ Below wr.heap.size wr W) → Calls Tryz.prog 130 #[.agg #[.int .u8 0, .string (wordB x.n), .string ⟨#[]⟩, .int .u32 0], .int .i64 (x.n : Int)] W fun e w' => e = .returned (.bool true) ∧ (LkOp w wO.heap.size b1 (o1 + q * 4) b2 (o2 + q * 4) x.n (.slice (some ⟨b2, o2, none⟩) x.len cl) (.slice (some ⟨b1, o1, none⟩) (x.len + 40) cm) w' ∧ Below wr.heap.size wr w') := by
              intro W hW
              refine (isOp_any W x.n hN (tab_below htab (hB.trans (hW.2.mono hB.size)))).mono ?_
              rintro e w' ⟨rfl, h'⟩
              exact ⟨rfl, hW.1.below h', hW.2.trans (h'.mono hW.2.size)⟩
            clear hcell1 hlc hmc hH
            go_wp2_with fail
            refine wp_region_class (C := fun W => LkOp w wO.heap.size b1 (o1 + q * 4) b2 (o2 + q * 4) x.n (.slice (some ⟨b2, o2, none⟩) x.len cl) (.slice (some ⟨b1, o1, none⟩) (x.len + 40) cm) W ∧ Below wr.heap.size wr W) (by kernel_rfl) (by kernel_rfl) ⟨hS.1.drewN 1, below_drew wr⟩ ?_
            clear hS
            repeat (first | go_big_quiet_skip | (go_big_quiet_want; go_big_quiet_op; go_big_quiet_on) | (go_big_quiet_want; apply Exists.intro; refine ⟨fun W hW => ?_, ?_⟩; (· first | (obtain ⟨⟨D0, D1, D2, E0, E1, E2, E3, G0, G1, G2, G3, -⟩, -⟩ := hW; unfold Oper.quietAt; go_simp; done) | (obtain ⟨⟨D0, D1, D2, E0, E1, E2, E3, G0, G1, G2, G3, -⟩, -⟩ := hW; unfold Oper.quietAt; go_simp; exact rfl) | (unfold Oper.quietAt; go_simp; exact kis W hW)); go_simp; go_big_quiet_on))
            refine wpQuiet_nil ?_
            intro W' hlast
            clear kis
            go_wp2
            go_roundw
            case rel => exact ⟨q + 1, by omega, by go_num, hB.trans (hlast.2.mono hB.size), hbo2 _ hlast.2⟩
            case measure => simp [intOf]; omega
          · have i3 : decide ((q : Int) < (x.len : Int)) = false := by simp; omega
            have hS : LkOp w wO.heap.size b1 (o1 + q * 4) b1 (o1 + q * 4) x.n (.slice al x.len cl) (.slice (some ⟨b1, o1, none⟩) (x.len + 40) cm) wr ∧ Below wr.heap.size wr wr := ⟨⟨d0, d1, d2, e0, e1, e2, e3, e0, e1, e2, e3, hB⟩, Below.refl _ _⟩
            have kis : ∀ W, (LkOp w wO.heap.size b1 (o1 + q * 4) b1 (o1 + q * 4) x.n (.slice al x.len cl) (.slice (some ⟨b1, o1, none⟩) (x.len + 40) cm) W ∧ Below wr.heap.size wr W) → Calls Tryz.prog 130 #[.agg #[.int .u8 0, .string (wordB x.n), .string ⟨#[]⟩, .int .u32 0], .int .i64 (x.n : Int)] W fun e w' => e = .returned (.bool true) ∧ (LkOp w wO.heap.size b1 (o1 + q * 4) b1 (o1 + q * 4) x.n (.slice al x.len cl) (.slice (some ⟨b1, o1, none⟩) (x.len + 40) cm) w' ∧ Below wr.heap.size wr w') := by
              intro W hW
              refine (isOp_any W x.n hN (tab_below htab (hB.trans (hW.2.mono hB.size)))).mono ?_
              rintro e w' ⟨rfl, h'⟩
              exact ⟨rfl, hW.1.below h', hW.2.trans (h'.mono hW.2.size)⟩
            clear hcell1 hlc hmc hH
            go_wp2_with fail
            refine wp_region_class (C := fun W => LkOp w wO.heap.size b1 (o1 + q * 4) b1 (o1 + q * 4) x.n (.slice al x.len cl) (.slice (some ⟨b1, o1, none⟩) (x.len + 40) cm) W ∧ Below wr.heap.size wr W) (by kernel_rfl) (by kernel_rfl) ⟨hS.1.drewN 1, below_drew wr⟩ ?_
            clear hS
            repeat (first | go_big_quiet_skip | (go_big_quiet_want; go_big_quiet_op; go_big_quiet_on) | (go_big_quiet_want; apply Exists.intro; refine ⟨fun W hW => ?_, ?_⟩; (· first | (obtain ⟨⟨D0, D1, D2, E0, E1, E2, E3, G0, G1, G2, G3, -⟩, -⟩ := hW; unfold Oper.quietAt; go_simp; done) | (obtain ⟨⟨D0, D1, D2, E0, E1, E2, E3, G0, G1, G2, G3, -⟩, -⟩ := hW; unfold Oper.quietAt; go_simp; exact rfl) | (unfold Oper.quietAt; go_simp; exact kis W hW)); go_simp; go_big_quiet_on))
            refine wpQuiet_nil ?_
            intro W' hlast
            clear kis
            go_wp2
            go_roundw
            case rel => exact ⟨q + 1, by omega, by go_num, hB.trans (hlast.2.mono hB.size), hbo2 _ hlast.2⟩
            case measure => simp [intOf]; omega
        · obtain rfl : q = x.len + 40 := by omega
          have i2 : ¬ (((x.len + 40 : Nat) : Int) < (x.len : Int) + 40) := by omega
          clear hlc hmc
          go_wp2
          go_roundw
          case rel => exact ⟨k + 1, by omega, by go_num, hB⟩
          case measure => simp [intOf]; omega
    · obtain rfl : k = E.length := by omega
      go_wp2
      go_ret
      exact ⟨rfl, hB⟩
end Go.Proofs.YtcgecdiaddcfkaaGreatDoor
