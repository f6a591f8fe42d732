/- Texts of this proof, laid into one. -/
import Derived.Test.YtcgecdiaddcfkaaGreatDoorRBkResM
import Derived.BigQuiet
import Derived.Deep.RegionHeld3
import Derived.Deep.RegionWith
import Derived.Laws.ResultCell
/- The walks of a book's lists of results: marks, how they are filled. -/
set_option linter.unusedSimpArgs false
set_option linter.unusedVariables false
namespace Go.Proofs.YtcgecdiaddcfkaaGreatDoor
open Go.RowKit

theorem MkR.weak {top top' n : Nat} {w : World} {u : Value} (h : MkR top w n u) (ht : top' ≤ top) : MkR top' w n u := by
  obtain ⟨b, h1, h2, h3⟩ := h
  exact ⟨b, Nat.le_trans ht h1, h2, h3⟩

set_option maxHeartbeats 1000000 in
set_option maxRecDepth 1000000 in
theorem markResult_any (w : World) (n : Nat) (hn : n ≤ 1000000000) (htab : Tab w) :
    Calls Tryz.prog 121 #[.int .i64 (n : Int)] w fun e w' => ∃ u, e = .returned (.agg #[u]) ∧ MkR w.heap.size w' n u ∧ Below w.heap.size w w' := by
  have bA := (Below.refl w.heap.size w).alloc (Nat.le_refl _) (.cells #[.slice none 0 0] 89)
  have k := word_any n hn _ (tab_below htab bA)
  go_enter Tryz.func121, Tryz.ntmps121
  go_wp2_with fail
  refine k.mono ?_
  rintro e w' ⟨rfl, hb⟩
  have hB0 : w'.heap[w.heap.size]? = some (.cells #[.slice none 0 0] 89 (0, 0)) := (hb.block _ (by simp)).trans (heap_alloc_new w _)
  have hz : w.heap.size < w'.heap.size := lt_of_some hB0
  have c0 : w'.cell? ⟨w.heap.size, 0, none⟩ = some (.slice none 0 0) := block_cell hB0 0 _ rfl
  have f0 := box_frozen (i := 0) hB0
  have e0 := heap_setCell_same _ w.heap.size 0 _ _ (.slice (some ⟨w'.heap.size, 0, none⟩) 1 1) hB0
  have hBF : Hid (((w'.setCell ⟨w.heap.size, 0, none⟩ (.slice (some ⟨w'.heap.size, 0, none⟩) 1 1)).alloc (.cells #[.string (wordB n), .int .u32 0] 92)).heap[w.heap.size]? = some (.cells #[.slice (some ⟨w'.heap.size, 0, none⟩) 1 1] 89 (0, 0))) := alloc_block e0 _
  have hM : Hid (MkR w.heap.size ((w'.setCell ⟨w.heap.size, 0, none⟩ (.slice (some ⟨w'.heap.size, 0, none⟩) 1 1)).alloc (.cells #[.string (wordB n), .int .u32 0] 92)) n (.slice (some ⟨w'.heap.size, 0, none⟩) 1 1)) := ⟨w'.heap.size, by omega, rfl, by
    have := heap_alloc_new (w'.setCell ⟨w.heap.size, 0, none⟩ (.slice (some ⟨w'.heap.size, 0, none⟩) 1 1)) (.cells #[.string (wordB n), .int .u32 0] 92)
    rw [show (w'.setCell ⟨w.heap.size, 0, none⟩ (.slice (some ⟨w'.heap.size, 0, none⟩) 1 1)).heap.size = w'.heap.size by simp [World.setCell]] at this
    exact this⟩
  have bF : Hid (Below w.heap.size w ((w'.setCell ⟨w.heap.size, 0, none⟩ (.slice (some ⟨w'.heap.size, 0, none⟩) 1 1)).alloc (.cells #[.string (wordB n), .int .u32 0] 92))) :=
    ((bA.trans (hb.mono (by simp))).setCell (p := ⟨w.heap.size, 0, none⟩) (Nat.le_refl _) _).alloc (by simp [World.setCell]; omega) _
  clear k hB0 hb bA e0
  go_wp2
  exact bodyPost_ret (results_cell_row rfl _ _ w.heap.size 89 #[.slice (some ⟨w'.heap.size, 0, none⟩) 1 1] (0, 0) _ rfl hBF.out Tryz.underlying89 rfl (by kernel_rfl)) rfl ⟨_, rfl, hM.out, bF.out⟩

abbrev IrS (w : World) (b n : Nat) (W : World) : Prop := W.cell? ⟨w.heap.size, 0, none⟩ = some (.slice (some ⟨b, 0, none⟩) 1 1) ∧ W.cell? ⟨b, 0, none⟩ = some (.string (wordB n)) ∧ Below w.heap.size w W
theorem IrS.drewN {w : World} {b n : Nat} {W : World} (h : IrS w b n W) (m : Nat) : IrS w b n (W.drewN m) := ⟨h.1, h.2.1, below_drewN' h.2.2 m⟩
set_option maxHeartbeats 1000000 in
set_option maxRecDepth 1000000 in
theorem isResult_any (w : World) (top n : Nat) (u : Value) (hu : MkR top w n u) (hn : n ≤ 1000000000) (htab : Tab w) :
    Calls Tryz.prog 133 #[.agg #[u], .int .i64 (n : Int)] w fun e w' => e = .returned (.bool true) ∧ Below w.heap.size w w' := by
  obtain ⟨b, -, rfl, hB⟩ := hu
  have hlt := lt_of_some hB
  have bA := (Below.refl w.heap.size w).alloc (Nat.le_refl _) (.cells #[.slice (some ⟨b, 0, none⟩) 1 1] 89)
  have hS : IrS w b n (w.alloc (.cells #[.slice (some ⟨b, 0, none⟩) 1 1] 89)) := ⟨block_cell (heap_alloc_new w _) 0 _ rfl, block_cell (alloc_block hB _) 0 _ rfl, bA⟩
  have kw : ∀ W, IrS w b n W → Calls Tryz.prog 167 #[.int .i64 (n : Int)] W fun e w' => e = .returned (.string (wordB n)) ∧ IrS w b n w' := fun W h => (word_any n hn W (tab_below htab h.2.2)).mono fun e w' h' => ⟨h'.1, (h'.2.cell (World.block_lt_of_cell? W _ h.1)).trans h.1, (h'.2.cell (World.block_lt_of_cell? W _ h.2.1)).trans h.2.1, h.2.2.trans (h'.2.mono h.2.2.size)⟩
  clear bA
  generalize hWW : w.alloc (.cells #[.slice (some ⟨b, 0, none⟩) 1 1] 89) = WW at hS
  go_enter Tryz.func133, Tryz.ntmps133
  go_wp2_with fail
  try rw [hWW]
  clear hWW hB
  go_region_held3 (fun W => W.cell? ⟨w.heap.size, 0, none⟩ = some (.slice (some ⟨b, 0, none⟩) 1 1) ∧ W.cell? ⟨b, 0, none⟩ = some (.string (wordB n)) ∧ Below w.heap.size w W) (first | assumption | exact IrS.drewN (by assumption) 1)
    (first | (go_at_call 167; refine (kw _ (by assumption)).mono ?_; rintro e w' ⟨rfl, hb⟩))
  all_goals
    rename_i hlast
    clear kw
    go_wp2
    go_ret
    exact ⟨rfl, hlast.2.2⟩

set_option maxHeartbeats 2000000 in
set_option maxRecDepth 1000000 in
theorem fillResult_any (w : World) (bk top : Nat) (v : Value) (E : List Ent) (hb : w.cell? ⟨bk, 9, none⟩ = some v) (hbk : bk < w.heap.size) (hD : ¬ LD E bk) (h : KAt w 147 89 1 v E) (htop : top ≤ w.heap.size) (hlt : ∀ b, DD v E b → b < top) (hT : ∀ W, Wrote (LD E) w W → Tab W) :
    Calls Tryz.prog 51 #[ptr bk] w fun e w' => e = .returned (.tuple #[]) ∧ FAtR top w' 147 v E ∧ Wrote (LD E) w w' := by
  have hfew := h.few
  go_enter Tryz.func51, Tryz.ntmps51
  go_wp2
  go_loopw [2] (fun i wr => ∃ k : Nat, k ≤ E.length ∧ i = .int .i64 k ∧ FInR top w wr E k 0) (fun i _ => E.length - (intOf i).toNat)
  case atStart => exact ⟨0, by omega, rfl, FInR.start h⟩
  case round =>
    obtain ⟨k, hk, rfl, hF⟩ := hrel
    have hb1 : wr.cell? ⟨bk, 9, none⟩ = some v := (hF.wrote.cell (p := ⟨bk, 9, none⟩) hbk hD).trans hb
    obtain ⟨ao, cap, rfl, hc1, hc2⟩ := own_len' h.held
    unfold maxLen at hc2
    by_cases h1 : k < E.length
    · obtain ⟨x, hx⟩ : ∃ x, E[k]? = some x := ⟨E[k]'h1, by simp [h1]⟩
      have hheld : wr.ownsRow 0 147 3 (.slice ao E.length cap) E.length (E.flatMap entCells) := own_wrote h.held hF.wrote (fun b hb hd => h.off b hd hb)
      obtain ⟨g, cap', e1, -, -, c0, c1, c2, -⟩ := held_cell hheld hx
      simp only [Value.slice.injEq, true_and] at e1
      obtain ⟨rfl, rfl⟩ := e1
      obtain ⟨ao, cp, hxl, hl1, hl2⟩ := hF.row hx
      rw [hxl] at c0
      have i1 : (k : Int) < (E.length : Int) := by omega
      have hlong := h.fresh x (List.mem_of_getElem? hx)
      rw [hlong] at c1
      have hN := (h.rows x (List.mem_of_getElem? hx)).2.1
      have hltw : ∀ b, LD E b → b < w.heap.size := fun b hb => h.lt (.inr hb)
      have hltt : ∀ b, LD E b → b < top := fun b hb => hlt b (.inr hb)
      have hsz := hF.wrote.size
      obtain ⟨wO, hO⟩ : ∃ x, x = wr := ⟨_, rfl⟩
      subst hO
      go_wp2
      go_loopw [4] (fun j wq => ∃ q : Nat, q ≤ x.len ∧ j = .int .i64 q ∧ FInR top w wq E k q ∧ wO.heap.size < wq.heap.size ∧ wq.heap[wO.heap.size]? = some (.cells #[.slice ao x.len cp, .slice none 0 0, .int .i64 (x.n : Int)] 147 (0, 0))) (fun j _ => x.len - (intOf j).toNat)
      case atStart =>
        exact ⟨0, Nat.zero_le _, rfl, hF.below ((Below.refl _ _).alloc (Nat.le_refl _) _), by simp, heap_alloc_new wO _⟩
      case round =>
        clear hF c0 c1 c2 hheld hb1
        obtain ⟨q, hq, rfl, hF, hz, hB⟩ := hrel
        obtain ⟨d0, d1, d2⟩ := triple_cell hB
        have hl2' := hl2
        unfold maxLen at hl2'
        by_cases hq1 : q < x.len
        · obtain ⟨xs0, ho0, -, -⟩ := hF.rows k x hx
          obtain ⟨g2, cp2, e2, -, -⟩ := ho0.form (by omega)
          have hLD : LD E g2 := ⟨x, List.mem_of_getElem? hx, by rw [e2]; rfl⟩
          rw [hxl] at e2
          simp only [Value.slice.injEq, true_and] at e2
          obtain ⟨rfl, rfl⟩ := e2
          have hne : g2 ≠ wO.heap.size := by have := hltw g2 hLD; omega
          have fin : ∀ W u, Below wr.heap.size wr W → MkR wr.heap.size W x.n u → ((∃ z, W.cell? ⟨g2, q, none⟩ = some z) ∧ W.frozen? ⟨g2, q, none⟩ = false) ∧ (W.cell? ⟨wO.heap.size, 0, none⟩ = some (.slice (some ⟨g2, 0, none⟩) x.len cp) ∧ W.cell? ⟨wO.heap.size, 2, none⟩ = some (.int .i64 (x.n : Int))) ∧ Hid (FInR top w (W.setCell ⟨g2, q, none⟩ u) E k (q + 1) ∧ wO.heap.size < (W.setCell ⟨g2, q, none⟩ u).heap.size ∧ (W.setCell ⟨g2, q, none⟩ u).heap[wO.heap.size]? = some (.cells #[.slice (some ⟨g2, 0, none⟩) x.len cp, .slice none 0 0, .int .i64 (x.n : Int)] 147 (0, 0))) := by
            intro W u hW hu
            obtain ⟨g3, cp3, e3, -, -, hcells, -, hF2⟩ := (hF.below hW).store hx hq1 hltt h.apart (hu.weak (top' := top) (by omega))
            rw [hxl] at e3
            simp only [Value.slice.injEq, true_and, Option.some.injEq, Addr.mk.injEq, and_true] at e3
            obtain ⟨rfl, rfl⟩ := e3
            have hBW : W.heap[wO.heap.size]? = _ := (hW.block _ hz).trans hB
            obtain ⟨d0', -, d2'⟩ := triple_cell hBW
            have hwr := Wrote.set (d := fun b => b = g2) W g2 q u rfl
            have hzW : wO.heap.size < W.heap.size := Nat.lt_of_lt_of_le hz hW.size
            exact ⟨hcells, ⟨d0', d2'⟩, hF2, Nat.lt_of_lt_of_le hzW hwr.size, (hwr.block _ hzW (fun e => hne e.symm)).trans hBW⟩
          have i2 : (q : Int) < (x.len : Int) := by omega
          have km := fun (W : World) (hW : Below wr.heap.size wr W) => markResult_any W x.n hN (hT W (hF.wrote.trans (.of_below hW)))
          clear hB hF ho0
          go_wp2
          go_region_with (go_at_call 121; refine (km _ (below_drew wr)).mono ?_; rintro e w' ⟨u, rfl, mu, bw⟩; have FF := fin w' u ((below_drew wr).trans bw) mu; obtain ⟨⟨⟨u0, k0⟩, f0⟩, ⟨d0', d2'⟩, HF⟩ := FF; obtain ⟨ub, -, rfl, -⟩ := mu)
          all_goals
            go_wp2
            go_roundw
            case rel => exact ⟨q + 1, by omega, by go_num, HF.out⟩
            case measure => simp [intOf]; omega
        · obtain rfl : q = x.len := by omega
          go_wp2
          go_roundw
          case rel => exact ⟨k + 1, by omega, by go_num, hF.next hx⟩
          case measure => simp [intOf]; omega
    · obtain rfl : k = E.length := by omega
      go_wp2
      go_end0
      exact ⟨rfl, hF.fin h hlt, hF.wrote⟩
end Go.Proofs.YtcgecdiaddcfkaaGreatDoor
/- The walk of a book's lists of results: how they grow. -/
set_option linter.unusedSimpArgs false
set_option linter.unusedVariables false
namespace Go.Proofs.YtcgecdiaddcfkaaGreatDoor
open Go.RowKit

theorem info_bkResult : (Tryz.prog.info? 89).map (fun i => (i.zero, i.size, i.bytes)) = some (some (.agg #[.slice none 0 0]), 1, 24) := by kernel_rfl

set_option maxHeartbeats 2000000 in
set_option maxRecDepth 1000000 in
theorem growResult_any (w : World) (bk top : Nat) (v : Value) (E : List Ent) (hb : w.cell? ⟨bk, 9, none⟩ = some v) (hbk : bk < w.heap.size) (hD : ¬ DD v E bk) (h : FAtR top w 147 v E) (htop : top ≤ w.heap.size) (hT : ∀ W, Wrote (DD v E) w W → Tab W) :
    Calls Tryz.prog 63 #[ptr bk] w fun e w' => e = .returned (.tuple #[]) ∧ ∃ E', E'.map (fun x => (x.l, x.len, x.n)) = E.map (fun x => (x.l, x.len, x.n)) ∧ GAtR top w' 147 v E' ∧ Wrote (DD v E) w w' := by
  have hfew := h.few
  obtain ⟨i0, hi, hz0, hz1, hz2⟩ := info_parts info_bkResult
  go_enter Tryz.func63, Tryz.ntmps63
  go_wp2
  go_loopw [2] (fun i wr => ∃ (k : Nat) (E' : List Ent), k ≤ E'.length ∧ E'.length = E.length ∧ i = .int .i64 k ∧ GInR top w wr 147 v E E' k) (fun i _ => E.length - (intOf i).toNat)
  case atStart => exact ⟨0, E, by omega, rfl, rfl, GInR.start h⟩
  case round =>
    obtain ⟨k, E', hk, hEl0, rfl, hG⟩ := hrel
    have hEl : Hid (E'.length = E.length) := hEl0
    clear hEl0
    have hb1 : wr.cell? ⟨bk, 9, none⟩ = some v := (hG.wrote.cell (p := ⟨bk, 9, none⟩) hbk hD).trans hb
    obtain ⟨ao, cap, rfl, hc1, hc2⟩ := own_len' hG.held
    unfold maxLen at hc2
    by_cases h1 : k < E'.length
    · obtain ⟨x, hx⟩ : ∃ x, E'[k]? = some x := ⟨E'[k]'h1, by simp [h1]⟩
      obtain ⟨g, cap', e1, -, -, c0, c1, c2, -⟩ := held_cell hG.held hx
      simp only [Value.slice.injEq, true_and] at e1
      obtain ⟨rfl, rfl⟩ := e1
      obtain ⟨us, hrow, hmk⟩ := hG.rest k x (Nat.le_refl _) hx
      have hul : Hid (us.length = x.len) := by show _ = _; have := hrow.1; omega
      obtain ⟨ao, cp, hxl, hl1, hl2⟩ := own_len' hrow
      rw [hxl] at c0
      have i1 : (k : Int) < (E'.length : Int) := by omega
      have hlong := hG.fresh k x (Nat.le_refl _) hx
      rw [hlong] at c1
      obtain ⟨y, hy, ey1, ey2, ey3⟩ := same_get hG.same hx
      have hN := (h.rows y (List.mem_of_getElem? hy)).2.1
      have hLn := (h.rows y (List.mem_of_getElem? hy)).1
      rw [ey3] at hN
      rw [ey2] at hLn
      have hsz := hG.wrote.size
      have hgs : g < w.heap.size := (h.held.lt g rfl).2
      have hlt : ∀ b, x.l.ownBlock = some b → b < top := fun b hb => h.lt b (.inr ⟨y, List.mem_of_getElem? hy, by rw [ey1]; exact hb⟩)
      have hlb : ∀ b, x.l.ownBlock = some b → b < wr.heap.size ∧ b ≠ bk ∧ b ≠ g := fun b hb => ⟨(hrow.lt b hb).2, fun e => hD (.inr ⟨y, List.mem_of_getElem? hy, by rw [ey1, ← e]; exact hb⟩), fun e => h.off b ⟨y, List.mem_of_getElem? hy, by rw [ey1]; exact hb⟩ (by rw [e]; rfl)⟩
      have hlD : ∀ b, x.l.ownBlock = some b → DD (.slice (some ⟨g, 0, none⟩) E'.length cap) E b := fun b hb => .inr ⟨y, List.mem_of_getElem? hy, by rw [ey1]; exact hb⟩
      have hGa := hG.below ((Below.refl _ _).alloc (Nat.le_refl _) (.cells #[.slice ao x.len cp, .slice none 0 0, .int .i64 (x.n : Int)] 147))
      have bAl := (Below.refl wr.heap.size wr).alloc (Nat.le_refl _) (.cells #[.slice ao x.len cp, .slice none 0 0, .int .i64 (x.n : Int)] 147)
      have hLa := LInR.start (own_of_block hrow (fun b hb' => bAl.block b (hrow.lt b hb').2)) (fun u hu => (hmk u hu).below bAl) hlt
      rw [hxl] at hLa
      have hzero := own_zero hrow
      clear hmk bAl
      obtain ⟨wO, hO⟩ : ∃ x, x = wr := ⟨_, rfl⟩
      subst hO
      go_wp2
      go_loopw [4, 5] (fun lg j wq => ∃ (q : Nat) (vs : List Value), q ≤ 40 ∧ vs.length = q ∧ j = .int .i64 q ∧ LInR top (wO.alloc (.cells #[.slice ao x.len cp, .slice none 0 0, .int .i64 (x.n : Int)] 147)) wq x us vs lg) (fun _ j _ => 40 - (intOf j).toNat)
      case atStart => exact ⟨0, [], by omega, rfl, rfl, hLa⟩
      case round =>
        clear hLa hb1
        obtain ⟨q, vs, hq, hvl0, rfl, hL⟩ := hrel
        have hvl : Hid (vs.length = q) := hvl0
        have hzz := hL.wrote.size
        have zz : (wO.alloc (.cells #[.slice ao x.len cp, .slice none 0 0, .int .i64 (x.n : Int)] 147)).heap.size = wO.heap.size + 1 := by simp
        have hnot : ¬ x.l.ownBlock = some wO.heap.size := fun e => by have := (hlb _ e).1; omega
        have hB : wr.heap[wO.heap.size]? = some (.cells #[.slice ao x.len cp, .slice none 0 0, .int .i64 (x.n : Int)] 147 (0, 0)) := (hL.wrote.block _ (by omega) hnot).trans (heap_alloc_new wO _)
        obtain ⟨d0, d1, d2⟩ := triple_cell hB
        have hb1 : wr.cell? ⟨bk, 9, none⟩ = some (.slice (some ⟨g, 0, none⟩) E'.length cap) := by
          rw [hL.wrote.cell (p := ⟨bk, 9, none⟩) (by simp only [zz]; omega) (fun e => (hlb _ e).2.1 rfl)]
          exact (hGa.wrote.cell (p := ⟨bk, 9, none⟩) hbk hD).trans hb
        have hown := hL.own
        rw [hvl0] at hown
        obtain ⟨al, cl, hlg, hl3, hl4⟩ := own_len' hown
        subst hlg
        clear hvl0
        unfold maxLen at hl4
        by_cases hq1 : q < 40
        · have i2 : (q : Int) < 40 := by omega
          have km := markResult_any wr x.n hN (hT wr ((hGa.wrote).trans (hL.wrote.weak (fun b _ hb => hlD b hb))))
          have hllt : ∀ b, (Value.slice al (x.len + q) cl).ownBlock = some b → b < wr.heap.size := fun b hb => (hown.lt b hb).2
          have fin := fun (W : World) (u : Value) (hW : Below wr.heap.size wr W) => (hL.below hW).below ((Below.refl _ _).alloc (Nat.le_refl _) (.cells #[u] 89))
          have ttop : top ≤ wr.heap.size := by omega
          have b1 : Hid (x.len + q + 1 ≤ maxLen ∧ (x.len + q + 1) * 24 ≤ 140737488355328) := by show _ ∧ _; unfold maxLen; omega
          clear hL hB hown
          go_wp2_with fail
          refine km.mono ?_
          rintro e w' ⟨u, rfl, mu, hw⟩
          have hL2 := fin w' u hw
          have hu2 : MkR top (w'.alloc (.cells #[u] 89)) x.n u := (mu.weak ttop).below ((Below.refl _ _).alloc (Nat.le_refl _) _)
          have hun : ∀ b, u.ownBlock = some b → (Value.slice al (x.len + q) cl).ownBlock ≠ some b := fun b h1 h2 => by
            have := (mu.lt b h1).1
            have := hllt b h2
            omega
          have h1c : ∀ z ∈ [u], z.oneCell' = true := fun z hz => by rw [List.mem_singleton.mp hz]; exact mu.one
          have src : Src Tryz.prog 1 25 (.slice (some ⟨w'.heap.size, 0, none⟩) 1 1) 1 [u] (w'.alloc (.cells #[u] 89)) := Src.ofSlice _ Tryz.underlying25 ⟨w'.heap.size, 0, none⟩ 1 1 [u] rfl (news_ofv _ _) h1c
          have hown2 := hL2.own
          rw [hvl.out] at hown2
          have HA : Hid (∀ v' w1, w1.ownsRow 0 89 1 v' (x.len + q + 1) (us ++ vs ++ [u]) → ((v'.ownBlock = (Value.slice al (x.len + q) cl).ownBlock ∧ (w'.alloc (.cells #[u] 89)).grownBy w1 (Value.slice al (x.len + q) cl).ownBlock) ∨ (v'.ownBlock = some (w'.alloc (.cells #[u] 89)).heap.size ∧ (w'.alloc (.cells #[u] 89)).grownBy w1 none)) → LInR top (wO.alloc (.cells #[.slice ao x.len cp, .slice none 0 0, .int .i64 (x.n : Int)] 147)) w1 x us (vs ++ [u]) v') := fun v' w1 ho hg => hL2.app hul.out hzero hu2 hun (by rw [hvl.out]; exact ho) hg
          obtain ⟨ub, -, rfl, -⟩ := mu
          clear km fin hw hL2 hu2 hun h1c hllt
          go_wp2_with (at_builtin; refine wpList_append_stays _ rfl (.tmp 28) (.tmp 32) 25 25 rfl 0 89 i0 (.agg #[.slice none 0 0]) 1 24 Tryz.underlying25 hi hz0 hz1 hz2 rfl (by decide) (.slice al (x.len + q) cl) (x.len + q) (us ++ vs) rfl hown2 (.slice (some ⟨w'.heap.size, 0, none⟩) 1 1) 1 [.slice (some ⟨ub, 0, none⟩) 1 1] rfl src b1.out.1 b1.out.2 (Nat.zero_le _) ?_; intro v' w1 ho hg; have R := HA.out v' w1 ho hg; obtain ⟨av, nv, cv, rfl⟩ := own_slice ho)
          go_roundw
          case rel => exact ⟨q + 1, _, by omega, by rw [List.length_append, hvl.out]; rfl, by go_num, R⟩
          case measure => simp [intOf]; omega
        · obtain rfl : q = 40 := by omega
          have hheld := own_wrote hGa.held hL.wrote (fun b hb e => (hlb b e).2.2 (by simpa [Value.ownBlock] using hb.symm))
          obtain ⟨g', cap', e1, -, -, c0', c1', c2', f1'⟩ := held_cell hheld hx
          simp only [Value.slice.injEq, true_and, Option.some.injEq, Addr.mk.injEq, and_true] at e1
          obtain ⟨rfl, rfl⟩ := e1
          have R := hGa.store hx h htop rfl hul.out hvl.out hL
          go_wp2
          go_roundw
          case rel => exact ⟨k + 1, _, by rw [List.length_set]; omega, by rw [List.length_set]; exact hEl.out, by go_num, R⟩
          case measure => have := hEl.out; simp [intOf]; omega
    · have hkE : k = E'.length := by omega
      subst hkE
      have i1 : ¬ ((E'.length : Int) < (E'.length : Int)) := by omega
      go_wp2
      go_end0
      exact ⟨rfl, E', hG.same, hG.fin h, hG.wrote⟩
end Go.Proofs.YtcgecdiaddcfkaaGreatDoor
