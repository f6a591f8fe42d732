import Derived.Test.YtndjgilheleplaaGreatDoorRBkResM
import Derived.BigQuiet
import Derived.Deep.RegionHeld3
import Derived.Deep.RegionWith
import Derived.Laws.ResultCell
/- The walks of a book's lists of results: marks, how they are filled. -/
set_option linter.unusedSimpArgs false
set_option linter.unusedVariables false
namespace Go.Proofs.YtndjgilheleplaaGreatDoor
open Go.RowKit

theorem MkR.weak {top top' n : Nat} {w : World} {u : Value} (h : MkR top w n u) (ht : top' ≤ top) : MkR top' w n u := by
  obtain ⟨b, h1, h2, h3⟩ := h
  exact ⟨b, Nat.le_trans ht h1, h2, h3⟩

set_option maxHeartbeats 1000000 in
set_option maxRecDepth 1000000 in
theorem markResult_any (w : World) (n : Nat) (hn : n ≤ 1000000000) (htab : Tab w) :
    Calls Tryz.prog 143 #[.int .i64 (n : Int)] w fun e w' => ∃ u, e = .returned (.agg #[u]) ∧ MkR w.heap.size w' n u ∧ Below w.heap.size w w' := by
  have bA := (Below.refl w.heap.size w).alloc (Nat.le_refl _) (.cells #[.slice none 0 0] 106)
  have k := word_any n hn _ (tab_below htab bA)
  go_enter Tryz.func143, Tryz.ntmps143
  go_wp2_with fail
  refine k.mono ?_
  rintro e w' ⟨rfl, hb⟩
  have hB0 : w'.heap[w.heap.size]? = some (.cells #[.slice none 0 0] 106 (0, 0)) := (hb.block _ (by simp)).trans (heap_alloc_new w _)
  have hz : w.heap.size < w'.heap.size := lt_of_some hB0
  have c0 : w'.cell? ⟨w.heap.size, 0, none⟩ = some (.slice none 0 0) := block_cell hB0 0 _ rfl
  have f0 := box_frozen (i := 0) hB0
  have e0 := heap_setCell_same _ w.heap.size 0 _ _ (.slice (some ⟨w'.heap.size, 0, none⟩) 1 1) hB0
  have hBF : Hid (((w'.setCell ⟨w.heap.size, 0, none⟩ (.slice (some ⟨w'.heap.size, 0, none⟩) 1 1)).alloc (.cells #[.string (wordB n), .int .u32 0] 109)).heap[w.heap.size]? = some (.cells #[.slice (some ⟨w'.heap.size, 0, none⟩) 1 1] 106 (0, 0))) := alloc_block e0 _
  have hM : Hid (MkR w.heap.size ((w'.setCell ⟨w.heap.size, 0, none⟩ (.slice (some ⟨w'.heap.size, 0, none⟩) 1 1)).alloc (.cells #[.string (wordB n), .int .u32 0] 109)) n (.slice (some ⟨w'.heap.size, 0, none⟩) 1 1)) := ⟨w'.heap.size, by omega, rfl, by
    have := heap_alloc_new (w'.setCell ⟨w.heap.size, 0, none⟩ (.slice (some ⟨w'.heap.size, 0, none⟩) 1 1)) (.cells #[.string (wordB n), .int .u32 0] 109)
    rw [show (w'.setCell ⟨w.heap.size, 0, none⟩ (.slice (some ⟨w'.heap.size, 0, none⟩) 1 1)).heap.size = w'.heap.size by simp [World.setCell]] at this
    exact this⟩
  have bF : Hid (Below w.heap.size w ((w'.setCell ⟨w.heap.size, 0, none⟩ (.slice (some ⟨w'.heap.size, 0, none⟩) 1 1)).alloc (.cells #[.string (wordB n), .int .u32 0] 109))) :=
    ((bA.trans (hb.mono (by simp))).setCell (p := ⟨w.heap.size, 0, none⟩) (Nat.le_refl _) _).alloc (by simp [World.setCell]; omega) _
  clear k hB0 hb bA e0
  go_wp2
  exact bodyPost_ret (results_cell_row rfl _ _ w.heap.size 106 #[.slice (some ⟨w'.heap.size, 0, none⟩) 1 1] (0, 0) _ rfl hBF.out Tryz.underlying106 rfl (by kernel_rfl)) rfl ⟨_, rfl, hM.out, bF.out⟩

abbrev IrS (w : World) (b n : Nat) (W : World) : Prop := W.cell? ⟨w.heap.size, 0, none⟩ = some (.slice (some ⟨b, 0, none⟩) 1 1) ∧ W.cell? ⟨b, 0, none⟩ = some (.string (wordB n)) ∧ Below w.heap.size w W
theorem IrS.drewN {w : World} {b n : Nat} {W : World} (h : IrS w b n W) (m : Nat) : IrS w b n (W.drewN m) := ⟨h.1, h.2.1, below_drewN' h.2.2 m⟩
set_option maxHeartbeats 1000000 in
set_option maxRecDepth 1000000 in
theorem isResult_any (w : World) (top n : Nat) (u : Value) (hu : MkR top w n u) (hn : n ≤ 1000000000) (htab : Tab w) :
    Calls Tryz.prog 155 #[.agg #[u], .int .i64 (n : Int)] w fun e w' => e = .returned (.bool true) ∧ Below w.heap.size w w' := by
  obtain ⟨b, -, rfl, hB⟩ := hu
  have hlt := lt_of_some hB
  have bA := (Below.refl w.heap.size w).alloc (Nat.le_refl _) (.cells #[.slice (some ⟨b, 0, none⟩) 1 1] 106)
  have hS : IrS w b n (w.alloc (.cells #[.slice (some ⟨b, 0, none⟩) 1 1] 106)) := ⟨block_cell (heap_alloc_new w _) 0 _ rfl, block_cell (alloc_block hB _) 0 _ rfl, bA⟩
  have kw : ∀ W, IrS w b n W → Calls Tryz.prog 167 #[.int .i64 (n : Int)] W fun e w' => e = .returned (.string (wordB n)) ∧ IrS w b n w' := fun W h => (word_any n hn W (tab_below htab h.2.2)).mono fun e w' h' => ⟨h'.1, (h'.2.cell (World.block_lt_of_cell? W _ h.1)).trans h.1, (h'.2.cell (World.block_lt_of_cell? W _ h.2.1)).trans h.2.1, h.2.2.trans (h'.2.mono h.2.2.size)⟩
  clear bA
  generalize hWW : w.alloc (.cells #[.slice (some ⟨b, 0, none⟩) 1 1] 106) = WW at hS
  go_enter Tryz.func155, Tryz.ntmps155
  go_wp2_with fail
  try rw [hWW]
  clear hWW hB
  go_region_held3 (fun W => W.cell? ⟨w.heap.size, 0, none⟩ = some (.slice (some ⟨b, 0, none⟩) 1 1) ∧ W.cell? ⟨b, 0, none⟩ = some (.string (wordB n)) ∧ Below w.heap.size w W) (first | assumption | exact IrS.drewN (by assumption) 1)
    (first | (go_at_call 167; refine (kw _ (by assumption)).mono ?_; rintro e w' ⟨rfl, hb⟩))
  all_goals
    rename_i hlast
    clear kw
    go_wp2
    go_ret
    exact ⟨rfl, hlast.2.2⟩

set_option maxHeartbeats 2000000 in
set_option maxRecDepth 1000000 in
theorem fillResult_any (w : World) (bk top : Nat) (v : Value) (E : List Ent) (hb : w.cell? ⟨bk, 9, none⟩ = some v) (hbk : bk < w.heap.size) (hD : ¬ LD E bk) (h : KAt w 167 106 1 v E) (htop : top ≤ w.heap.size) (hlt : ∀ b, DD v E b → b < top) (hT : ∀ W, Wrote (LD E) w W → Tab W) :
    Calls Tryz.prog 73 #[ptr bk] w fun e w' => e = .returned (.tuple #[]) ∧ FAtR top w' 167 v E ∧ Wrote (LD E) w w' := by
  have hfew := h.few
  go_enter Tryz.func73, Tryz.ntmps73
  go_wp2
  go_loopw [2] (fun i wr => ∃ k : Nat, k ≤ E.length ∧ i = .int .i64 k ∧ FInR top w wr E k 0) (fun i _ => E.length - (intOf i).toNat)
  case atStart => exact ⟨0, by omega, rfl, FInR.start h⟩
  case round =>
    obtain ⟨k, hk, rfl, hF⟩ := hrel
    have hb1 : wr.cell? ⟨bk, 9, none⟩ = some v := (hF.wrote.cell (p := ⟨bk, 9, none⟩) hbk hD).trans hb
    obtain ⟨ao, cap, rfl, hc1, hc2⟩ := own_len' h.held
    unfold maxLen at hc2
    by_cases h1 : k < E.length
    · obtain ⟨x, hx⟩ : ∃ x, E[k]? = some x := ⟨E[k]'h1, by simp [h1]⟩
      have hheld : wr.ownsRow 0 167 3 (.slice ao E.length cap) E.length (E.flatMap entCells) := own_wrote h.held hF.wrote (fun b hb hd => h.off b hd hb)
      obtain ⟨g, cap', e1, -, -, c0, c1, c2, -⟩ := held_cell hheld hx
      simp only [Value.slice.injEq, true_and] at e1
      obtain ⟨rfl, rfl⟩ := e1
      obtain ⟨ao, cp, hxl, hl1, hl2⟩ := hF.row hx
      rw [hxl] at c0
      have i1 : (k : Int) < (E.length : Int) := by omega
      have hlong := h.fresh x (List.mem_of_getElem? hx)
      rw [hlong] at c1
      have hN := (h.rows x (List.mem_of_getElem? hx)).2.1
      have hltw : ∀ b, LD E b → b < w.heap.size := fun b hb => h.lt (.inr hb)
      have hltt : ∀ b, LD E b → b < top := fun b hb => hlt b (.inr hb)
      have hsz := hF.wrote.size
      obtain ⟨wO, hO⟩ : ∃ x, x = wr := ⟨_, rfl⟩
      subst hO
      go_wp2
      go_loopw [4] (fun j wq => ∃ q : Nat, q ≤ x.len ∧ j = .int .i64 q ∧ FInR top w wq E k q ∧ wO.heap.size < wq.heap.size ∧ wq.heap[wO.heap.size]? = some (.cells #[.slice ao x.len cp, .slice none 0 0, .int .i64 (x.n : Int)] 167 (0, 0))) (fun j _ => x.len - (intOf j).toNat)
      case atStart =>
        exact ⟨0, Nat.zero_le _, rfl, hF.below ((Below.refl _ _).alloc (Nat.le_refl _) _), by simp, heap_alloc_new wO _⟩
      case round =>
        clear hF c0 c1 c2 hheld hb1
        obtain ⟨q, hq, rfl, hF, hz, hB⟩ := hrel
        obtain ⟨d0, d1, d2⟩ := triple_cell hB
        have hl2' := hl2
        unfold maxLen at hl2'
        by_cases hq1 : q < x.len
        · obtain ⟨xs0, ho0, -, -⟩ := hF.rows k x hx
          obtain ⟨g2, cp2, e2, -, -⟩ := ho0.form (by omega)
          have hLD : LD E g2 := ⟨x, List.mem_of_getElem? hx, by rw [e2]; rfl⟩
          rw [hxl] at e2
          simp only [Value.slice.injEq, true_and] at e2
          obtain ⟨rfl, rfl⟩ := e2
          have hne : g2 ≠ wO.heap.size := by have := hltw g2 hLD; omega
          have fin : ∀ W u, Below wr.heap.size wr W → MkR wr.heap.size W x.n u → ((∃ z, W.cell? ⟨g2, q, none⟩ = some z) ∧ W.frozen? ⟨g2, q, none⟩ = false) ∧ (W.cell? ⟨wO.heap.size, 0, none⟩ = some (.slice (some ⟨g2, 0, none⟩) x.len cp) ∧ W.cell? ⟨wO.heap.size, 2, none⟩ = some (.int .i64 (x.n : Int))) ∧ Hid (FInR top w (W.setCell ⟨g2, q, none⟩ u) E k (q + 1) ∧ wO.heap.size < (W.setCell ⟨g2, q, none⟩ u).heap.size ∧ (W.setCell ⟨g2, q, none⟩ u).heap[wO.heap.size]? = some (.cells #[.slice (some ⟨g2, 0, none⟩) x.len cp, .slice none 0 0, .int .i64 (x.n : Int)] 167 (0, 0))) := by
            intro W u hW hu
            obtain ⟨g3, cp3, e3, -, -, hcells, -, hF2⟩ := (hF.below hW).store hx hq1 hltt h.apart (hu.weak (top' := top) (by omega))
            rw [hxl] at e3
            simp only [Value.slice.injEq, true_and, Option.some.injEq, Addr.mk.injEq, and_true] at e3
            obtain ⟨rfl, rfl⟩ := e3
            have hBW : W.heap[wO.heap.size]? = _ := (hW.block _ hz).trans hB
            obtain ⟨d0', -, d2'⟩ := triple_cell hBW
            have hwr := Wrote.set (d := fun b => b = g2) W g2 q u rfl
            have hzW : wO.heap.size < W.heap.size := Nat.lt_of_lt_of_le hz hW.size
            exact ⟨hcells, ⟨d0', d2'⟩, hF2, Nat.lt_of_lt_of_le hzW hwr.size, (hwr.block _ hzW (fun e => hne e.symm)).trans hBW⟩
          have i2 : (q : Int) < (x.len : Int) := by omega
          have km := fun (W : World) (hW : Below wr.heap.size wr W) => markResult_any W x.n hN (hT W (hF.wrote.trans (.of_below hW)))
          clear hB hF ho0
          go_wp2
          go_region_with (go_at_call 143; refine (km _ (below_drew wr)).mono ?_; rintro e w' ⟨u, rfl, mu, bw⟩; have FF := fin w' u ((below_drew wr).trans bw) mu; obtain ⟨⟨⟨u0, k0⟩, f0⟩, ⟨d0', d2'⟩, HF⟩ := FF; obtain ⟨ub, -, rfl, -⟩ := mu)
          all_goals
            go_wp2
            go_roundw
            case rel => exact ⟨q + 1, by omega, by go_num, HF.out⟩
            case measure => simp [intOf]; omega
        · obtain rfl : q = x.len := by omega
          go_wp2
          go_roundw
          case rel => exact ⟨k + 1, by omega, by go_num, hF.next hx⟩
          case measure => simp [intOf]; omega
    · obtain rfl : k = E.length := by omega
      go_wp2
      go_end0
      exact ⟨rfl, hF.fin h hlt, hF.wrote⟩
end Go.Proofs.YtndjgilheleplaaGreatDoor
