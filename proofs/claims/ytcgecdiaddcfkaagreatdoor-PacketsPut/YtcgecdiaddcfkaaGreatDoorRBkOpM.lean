import Derived.Test.YtcgecdiaddcfkaaGreatDoorM9
import Derived.Test.YtcgecdiaddcfkaaGreatDoorM10
import Derived.BigQuiet
/- The walks of a book's lists of this kind (Op): how they are filled, grow, and are looked at. -/
set_option linter.unusedSimpArgs false
set_option linter.unusedVariables false
namespace Go.Proofs.YtcgecdiaddcfkaaGreatDoor
open Go.RowKit Go.BigFrame

def mkOp (n : Nat) : List Value := [.int .u8 0, .string (wordB n), .string ⟨#[]⟩, .int .u32 0]
theorem mkOp_len (n : Nat) : (mkOp n).length = 4 := rfl
theorem mkOp_one (n : Nat) : ∀ u ∈ mkOp n, u.oneCell' = true := by intro u hu; simp [mkOp] at hu; rcases hu with rfl | rfl | rfl | rfl <;> rfl
theorem info_bkOp : (Tryz.prog.info? 85).map (fun i => (i.zero, i.size, i.bytes)) = some (some (.agg #[.int .u8 0, .string ⟨#[]⟩, .string ⟨#[]⟩, .int .u32 0]), 4, 48) := by kernel_rfl

set_option maxHeartbeats 1000000 in
set_option maxRecDepth 1000000 in
theorem markOp_any (w : World) (n : Nat) (hn : n ≤ 1000000000) (htab : Tab w) :
    Calls Tryz.prog 118 #[.int .i64 (n : Int)] w fun e w' => e = .returned (.agg #[.int .u8 0, .string (wordB n), .string ⟨#[]⟩, .int .u32 0]) ∧ Below w.heap.size w w' := by
  have bA := (Below.refl w.heap.size w).alloc (Nat.le_refl _) (.cells #[.int .u8 0, .string ⟨#[]⟩, .string ⟨#[]⟩, .int .u32 0] 85)
  have k := word_any n hn _ (tab_below htab bA)
  go_enter Tryz.func118, Tryz.ntmps118
  go_wp2_with fail
  refine k.mono ?_
  rintro e w' ⟨rfl, hb⟩
  have hB : w'.heap[w.heap.size]? = some (.cells #[.int .u8 0, .string ⟨#[]⟩, .string ⟨#[]⟩, .int .u32 0] 85 (0, 0)) := (hb.block _ (by simp)).trans (heap_alloc_new w _)
  have c0 : w'.cell? ⟨w.heap.size, 0, none⟩ = some (.int .u8 0) := block_cell hB 0 _ rfl
  have f0 := box_frozen (i := 0) hB
  have c1 : w'.cell? ⟨w.heap.size, 1, none⟩ = some (.string ⟨#[]⟩) := block_cell hB 1 _ rfl
  have f1 := box_frozen (i := 1) hB
  have c2 : w'.cell? ⟨w.heap.size, 2, none⟩ = some (.string ⟨#[]⟩) := block_cell hB 2 _ rfl
  have f2 := box_frozen (i := 2) hB
  have c3 : w'.cell? ⟨w.heap.size, 3, none⟩ = some (.int .u32 0) := block_cell hB 3 _ rfl
  have f3 := box_frozen (i := 3) hB
  have bF := (Wrote.of_below (bA.trans (hb.mono (by simp)))).trans (setCells_wrote (d := fun b => b = w.heap.size) rfl (mkOp n) w' 0)
  have bF2 : Hid (Below w.heap.size w (setCells w' w.heap.size 0 (mkOp n))) := bF.below (Nat.le_refl _) (fun k hk e => by omega)
  have e0 := heap_setCell_same w' w.heap.size 0 _ _ (.int .u8 0) hB
  have e1 := heap_setCell_same _ w.heap.size 1 _ _ (.string (wordB n)) e0
  have e2 := heap_setCell_same _ w.heap.size 2 _ _ (.string ⟨#[]⟩) e1
  have e3 := heap_setCell_same _ w.heap.size 3 _ _ (.int .u32 0) e2
  have hBF : Hid ((setCells w' w.heap.size 0 (mkOp n)).heap[w.heap.size]? = some (.cells #[.int .u8 0, .string (wordB n), .string ⟨#[]⟩, .int .u32 0] 85 (0, 0))) := e3
  clear k hB hb bA bF e0 e1 e2 e3
  go_wp2
  exact bodyPost_ret (results_cell_row rfl _ _ w.heap.size 85 #[.int .u8 0, .string (wordB n), .string ⟨#[]⟩, .int .u32 0] (0, 0) _ rfl hBF.out Tryz.underlying85 rfl (by kernel_rfl)) rfl ⟨rfl, bF2.out⟩

set_option maxHeartbeats 1000000 in
set_option maxRecDepth 1000000 in
theorem isOp_any (w : World) (n : Nat) (hn : n ≤ 1000000000) (htab : Tab w) :
    Calls Tryz.prog 130 #[.agg #[.int .u8 0, .string (wordB n), .string ⟨#[]⟩, .int .u32 0], .int .i64 (n : Int)] w fun e w' => e = .returned (.bool true) ∧ Below w.heap.size w w' := by
  have bA := (Below.refl w.heap.size w).alloc (Nat.le_refl _) (.cells #[.int .u8 0, .string (wordB n), .string ⟨#[]⟩, .int .u32 0] 85)
  have k := word_any n hn _ (tab_below htab (bA.trans ((below_drew _).mono (by simp))))
  have fin : ∀ w', Below (w.alloc (.cells #[.int .u8 0, .string (wordB n), .string ⟨#[]⟩, .int .u32 0] 85)).drew.heap.size (w.alloc (.cells #[.int .u8 0, .string (wordB n), .string ⟨#[]⟩, .int .u32 0] 85)).drew w' → w'.cell? ⟨w.heap.size, 1, none⟩ = some (.string (wordB n)) ∧ Below w.heap.size w w' := fun w' hb =>
    ⟨block_cell ((hb.block _ (by simp)).trans (heap_alloc_new w _)) 1 _ rfl, (bA.trans ((below_drew _).mono (by simp))).trans (hb.mono (by simp))⟩
  clear bA
  go_enter Tryz.func130, Tryz.ntmps130
  go_wp2_with fail
  go_region_with (go_at_call 167; refine k.mono ?_; rintro e w' ⟨rfl, hb⟩; have FF := fin w' hb; obtain ⟨c1, bF⟩ := FF)
  all_goals
    go_wp2
    go_ret
    exact ⟨rfl, bF⟩

set_option maxHeartbeats 2000000 in
set_option maxRecDepth 1000000 in
theorem fillOp_any (w : World) (bk : Nat) (v : Value) (E : List Ent) (hb : w.cell? ⟨bk, 6, none⟩ = some v) (hbk : bk < w.heap.size) (hD : ¬ LD E bk) (h : KAt w 132 85 4 v E) (hT : ∀ W, Wrote (LD E) w W → Tab W) :
    Calls Tryz.prog 48 #[ptr bk] w fun e w' => e = .returned (.tuple #[]) ∧ FAt w' 132 85 4 mkOp v E ∧ Wrote (LD E) w w' := by
  have hfew := h.few
  go_enter Tryz.func48, Tryz.ntmps48
  go_wp2
  go_loopw [2] (fun i wr => ∃ k : Nat, k ≤ E.length ∧ i = .int .i64 k ∧ FIn w wr 85 4 mkOp E k 0) (fun i _ => E.length - (intOf i).toNat)
  case atStart => exact ⟨0, by omega, rfl, FIn.start mkOp h⟩
  case round =>
    obtain ⟨k, hk, rfl, hF⟩ := hrel
    have hb1 : wr.cell? ⟨bk, 6, none⟩ = some v := (hF.wrote.cell (p := ⟨bk, 6, none⟩) hbk hD).trans hb
    obtain ⟨ao, cap, rfl, hc1, hc2⟩ := own_len' h.held
    unfold maxLen at hc2
    by_cases h1 : k < E.length
    · obtain ⟨x, hx⟩ : ∃ x, E[k]? = some x := ⟨E[k]'h1, by simp [h1]⟩
      have hheld : wr.ownsRow 0 132 3 (.slice ao E.length cap) E.length (E.flatMap entCells) := own_wrote h.held hF.wrote (fun b hb hd => h.off b hd hb)
      obtain ⟨g, cap', e1, -, -, c0, c1, c2, -⟩ := held_cell hheld hx
      simp only [Value.slice.injEq, true_and] at e1
      obtain ⟨rfl, rfl⟩ := e1
      obtain ⟨ao, cp, hxl, hl1, hl2⟩ := hF.row hx
      rw [hxl] at c0
      have i1 : (k : Int) < (E.length : Int) := by omega
      have hlong := h.fresh x (List.mem_of_getElem? hx)
      rw [hlong] at c1
      have hN := (h.rows x (List.mem_of_getElem? hx)).2.1
      have hltw : ∀ b, LD E b → b < w.heap.size := fun b hb => h.lt (.inr hb)
      have hsz := hF.wrote.size
      obtain ⟨wO, hO⟩ : ∃ x, x = wr := ⟨_, rfl⟩
      subst hO
      go_wp2
      go_loopw [4] (fun j wq => ∃ q : Nat, q ≤ x.len ∧ j = .int .i64 q ∧ FIn w wq 85 4 mkOp E k q ∧ wO.heap.size < wq.heap.size ∧ wq.heap[wO.heap.size]? = some (.cells #[.slice ao x.len cp, .slice none 0 0, .int .i64 (x.n : Int)] 132 (0, 0))) (fun j _ => x.len - (intOf j).toNat)
      case atStart =>
        exact ⟨0, Nat.zero_le _, rfl, hF.below ((Below.refl _ _).alloc (Nat.le_refl _) _), by simp, heap_alloc_new wO _⟩
      case round =>
        clear hF c0 c1 c2 hheld hb1
        obtain ⟨q, hq, rfl, hF, hz, hB⟩ := hrel
        obtain ⟨d0, d1, d2⟩ := triple_cell hB
        have hl2' := hl2
        unfold maxLen at hl2'
        by_cases hq1 : q < x.len
        · obtain ⟨g2, cp2, e2, -, -, -, hLD, -⟩ := hF.store hx hq1 mkOp_len (by omega) h.apart
          rw [hxl] at e2
          simp only [Value.slice.injEq, true_and] at e2
          obtain ⟨rfl, rfl⟩ := e2
          have hne : g2 ≠ wO.heap.size := by have := hltw g2 hLD; omega
          have fin : ∀ W, Below wr.heap.size wr W → (∀ j, j < 4 → (∃ u, W.cell? ⟨g2, q * 4 + j, none⟩ = some u) ∧ W.frozen? ⟨g2, q * 4 + j, none⟩ = false) ∧ (W.cell? ⟨wO.heap.size, 0, none⟩ = some (.slice (some ⟨g2, 0, none⟩) x.len cp) ∧ W.cell? ⟨wO.heap.size, 2, none⟩ = some (.int .i64 (x.n : Int))) ∧ Hid (FIn w (setCells W g2 (q * 4) (mkOp x.n)) 85 4 mkOp E k (q + 1) ∧ wO.heap.size < (setCells W g2 (q * 4) (mkOp x.n)).heap.size ∧ (setCells W g2 (q * 4) (mkOp x.n)).heap[wO.heap.size]? = some (.cells #[.slice (some ⟨g2, 0, none⟩) x.len cp, .slice none 0 0, .int .i64 (x.n : Int)] 132 (0, 0))) := by
            intro W hW
            obtain ⟨g3, cp3, e3, -, -, hcells, -, hF2⟩ := (hF.below hW).store hx hq1 mkOp_len (by omega) h.apart
            rw [hxl] at e3
            simp only [Value.slice.injEq, true_and, Option.some.injEq, Addr.mk.injEq, and_true] at e3
            obtain ⟨rfl, rfl⟩ := e3
            have hBW : W.heap[wO.heap.size]? = _ := (hW.block _ hz).trans hB
            obtain ⟨d0', -, d2'⟩ := triple_cell hBW
            have hwr := setCells_wrote (d := fun b => b = g2) rfl (mkOp x.n) W (q * 4)
            have hzW : wO.heap.size < W.heap.size := Nat.lt_of_lt_of_le hz hW.size
            exact ⟨hcells, ⟨d0', d2'⟩, hF2, Nat.lt_of_lt_of_le hzW hwr.size, (hwr.block _ hzW (fun e => hne e.symm)).trans hBW⟩
          have i2 : (q : Int) < (x.len : Int) := by omega
          have km := fun (W : World) (hW : Below wr.heap.size wr W) => markOp_any W x.n hN (hT W (hF.wrote.trans (.of_below hW)))
          clear hB hF
          go_wp2
          go_region_with (go_at_call 118; refine (km _ (below_drew wr)).mono ?_; rintro e w' ⟨rfl, bw⟩; have FF := fin w' ((below_drew wr).trans bw); obtain ⟨hcells, ⟨d0', d2'⟩, HF⟩ := FF; obtain ⟨⟨u0, k0⟩, f0⟩ := hcells 0 (by omega); obtain ⟨⟨u1, k1⟩, f1⟩ := hcells 1 (by omega); obtain ⟨⟨u2, k2⟩, f2⟩ := hcells 2 (by omega); obtain ⟨⟨u3, k3⟩, f3⟩ := hcells 3 (by omega); clear hcells; simp only [Nat.add_zero] at k0 f0)
          all_goals
            go_wp2
            go_roundw
            case rel => exact ⟨q + 1, by omega, by go_num, HF.out⟩
            case measure => simp [intOf]; omega
        · obtain rfl : q = x.len := by omega
          go_wp2
          go_roundw
          case rel => exact ⟨k + 1, by omega, by go_num, hF.next hx⟩
          case measure => simp [intOf]; omega
    · obtain rfl : k = E.length := by omega
      go_wp2
      go_end0
      exact ⟨rfl, hF.fin h, hF.wrote⟩

set_option maxHeartbeats 2000000 in
set_option maxRecDepth 1000000 in
theorem growOp_any (w : World) (bk : Nat) (v : Value) (E : List Ent) (hb : w.cell? ⟨bk, 6, none⟩ = some v) (hbk : bk < w.heap.size) (hD : ¬ DD v E bk) (h : FAt w 132 85 4 mkOp v E) (hT : ∀ W, Wrote (DD v E) w W → Tab W) :
    Calls Tryz.prog 60 #[ptr bk] w fun e w' => e = .returned (.tuple #[]) ∧ ∃ E', E'.map (fun x => (x.l, x.len, x.n)) = E.map (fun x => (x.l, x.len, x.n)) ∧ GAt w.heap.size w' 132 4 mkOp v E' ∧ Wrote (DD v E) w w' := by
  have hfew := h.few
  obtain ⟨i0, hi, hz0, hz1, hz2⟩ := info_parts info_bkOp
  go_enter Tryz.func60, Tryz.ntmps60
  go_wp2
  go_loopw [2] (fun i wr => ∃ (k : Nat) (E' : List Ent), k ≤ E'.length ∧ E'.length = E.length ∧ i = .int .i64 k ∧ GIn w wr 132 85 4 mkOp v E E' k) (fun i _ => E.length - (intOf i).toNat)
  case atStart => exact ⟨0, E, by omega, rfl, rfl, GIn.start h⟩
  case round =>
    obtain ⟨k, E', hk, hEl0, rfl, hG⟩ := hrel
    have hEl : Hid (E'.length = E.length) := hEl0
    clear hEl0
    have hb1 : wr.cell? ⟨bk, 6, none⟩ = some v := (hG.wrote.cell (p := ⟨bk, 6, none⟩) hbk hD).trans hb
    obtain ⟨ao, cap, rfl, hc1, hc2⟩ := own_len' hG.held
    unfold maxLen at hc2
    by_cases h1 : k < E'.length
    · obtain ⟨x, hx⟩ : ∃ x, E'[k]? = some x := ⟨E'[k]'h1, by simp [h1]⟩
      obtain ⟨g, cap', e1, -, -, c0, c1, c2, -⟩ := held_cell hG.held hx
      simp only [Value.slice.injEq, true_and] at e1
      obtain ⟨rfl, rfl⟩ := e1
      have hrow := hG.rest k x (Nat.le_refl _) hx
      obtain ⟨ao, cp, hxl, hl1, hl2⟩ := own_len' hrow
      rw [hxl] at c0
      have i1 : (k : Int) < (E'.length : Int) := by omega
      have hlong := hG.fresh k x (Nat.le_refl _) hx
      rw [hlong] at c1
      obtain ⟨y, hy, ey1, ey2, ey3⟩ := same_get hG.same hx
      have hN := (h.rows y (List.mem_of_getElem? hy)).2.1
      have hLn := (h.rows y (List.mem_of_getElem? hy)).1
      rw [ey3] at hN
      rw [ey2] at hLn
      have hsz := hG.wrote.size
      have hgs : g < w.heap.size := (h.held.lt g rfl).2
      have hlb : ∀ b, x.l.ownBlock = some b → b < wr.heap.size ∧ b ≠ bk ∧ b ≠ g := fun b hb => ⟨(hrow.lt b hb).2, fun e => hD (.inr ⟨y, List.mem_of_getElem? hy, by rw [ey1, ← e]; exact hb⟩), fun e => h.off b ⟨y, List.mem_of_getElem? hy, by rw [ey1]; exact hb⟩ (by rw [e]; rfl)⟩
      have hlD : ∀ b, x.l.ownBlock = some b → DD (.slice (some ⟨g, 0, none⟩) E'.length cap) E b := fun b hb => .inr ⟨y, List.mem_of_getElem? hy, by rw [ey1]; exact hb⟩
      have hGa := hG.below ((Below.refl _ _).alloc (Nat.le_refl _) (.cells #[.slice ao x.len cp, .slice none 0 0, .int .i64 (x.n : Int)] 132))
      have hLa := LIn.start (hGa.rest k x (Nat.le_refl _) hx) mkOp_len
      rw [hxl] at hLa
      have hzero := own_zero hrow
      obtain ⟨wO, hO⟩ : ∃ x, x = wr := ⟨_, rfl⟩
      subst hO
      go_wp2
      go_loopw [4, 5] (fun lg j wq => ∃ q : Nat, q ≤ 40 ∧ j = .int .i64 q ∧ LIn (wO.alloc (.cells #[.slice ao x.len cp, .slice none 0 0, .int .i64 (x.n : Int)] 132)) wq 85 4 mkOp x lg q) (fun _ j _ => 40 - (intOf j).toNat)
      case atStart => exact ⟨0, by omega, rfl, hLa⟩
      case round =>
        clear hLa hb1
        obtain ⟨q, hq, rfl, hL⟩ := hrel
        have hzz := hL.wrote.size
        have zz : (wO.alloc (.cells #[.slice ao x.len cp, .slice none 0 0, .int .i64 (x.n : Int)] 132)).heap.size = wO.heap.size + 1 := by simp
        have hnot : ¬ x.l.ownBlock = some wO.heap.size := fun e => by have := (hlb _ e).1; omega
        have hB : wr.heap[wO.heap.size]? = some (.cells #[.slice ao x.len cp, .slice none 0 0, .int .i64 (x.n : Int)] 132 (0, 0)) := (hL.wrote.block _ (by omega) hnot).trans (heap_alloc_new wO _)
        obtain ⟨d0, d1, d2⟩ := triple_cell hB
        have hb1 : wr.cell? ⟨bk, 6, none⟩ = some (.slice (some ⟨g, 0, none⟩) E'.length cap) := by
          rw [hL.wrote.cell (p := ⟨bk, 6, none⟩) (by simp only [zz]; omega) (fun e => (hlb _ e).2.1 rfl)]
          exact (hGa.wrote.cell (p := ⟨bk, 6, none⟩) hbk hD).trans hb
        obtain ⟨al, cl, hlg, hl3, hl4⟩ := own_len' hL.own
        subst hlg
        unfold maxLen at hl4
        by_cases hq1 : q < 40
        · have i2 : (q : Int) < 40 := by omega
          have km := markOp_any wr x.n hN (hT wr ((hGa.wrote).trans (hL.wrote.weak (fun b _ hb => hlD b hb))))
          have fin := fun (W : World) (hW : Below wr.heap.size wr W) => (hL.below hW).below ((Below.refl _ _).alloc (Nat.le_refl _) (.cells #[.int .u8 0, .string (wordB x.n), .string ⟨#[]⟩, .int .u32 0] 85))
          have b1 : Hid (x.len + q + 1 ≤ maxLen ∧ (x.len + q + 1) * 48 ≤ 140737488355328) := by show _ ∧ _; unfold maxLen; omega
          clear hL hB
          go_wp2_with fail
          refine km.mono ?_
          rintro e w' ⟨rfl, hw⟩
          have hL2 := fin w' hw
          have src : Src Tryz.prog 4 24 (.slice (some ⟨w'.heap.size, 0, none⟩) 1 1) 1 (mkOp x.n) (w'.alloc (.cells #[.int .u8 0, .string (wordB x.n), .string ⟨#[]⟩, .int .u32 0] 85)) := Src.ofSlice _ Tryz.underlying24 ⟨w'.heap.size, 0, none⟩ 1 1 (mkOp x.n) rfl (news_ofv _ _) (mkOp_one _)
          clear km fin hw
          go_wp2_with (at_builtin; refine wpList_append_stays _ rfl (.tmp 28) (.tmp 32) 24 24 rfl 0 85 i0 (.agg #[.int .u8 0, .string ⟨#[]⟩, .string ⟨#[]⟩, .int .u32 0]) 4 48 Tryz.underlying24 hi hz0 hz1 hz2 rfl (by decide) (.slice al (x.len + q) cl) (x.len + q) (marks (mkOp x.n) (x.len + q)) rfl hL2.own (.slice (some ⟨w'.heap.size, 0, none⟩) 1 1) 1 (mkOp x.n) rfl src b1.out.1 b1.out.2 (Nat.zero_le _) ?_; intro v' w1 ho hg; have R := hL2.app mkOp_len hzero ho hg; obtain ⟨av, nv, cv, rfl⟩ := own_slice ho)
          go_roundw
          case rel => exact ⟨q + 1, by omega, by go_num, R⟩
          case measure => simp [intOf]; omega
        · obtain rfl : q = 40 := by omega
          have hheld := own_wrote hGa.held hL.wrote (fun b hb e => (hlb b e).2.2 (by simpa [Value.ownBlock] using hb.symm))
          obtain ⟨g', cap', e1, -, -, c0', c1', c2', f1'⟩ := held_cell hheld hx
          simp only [Value.slice.injEq, true_and, Option.some.injEq, Addr.mk.injEq, and_true] at e1
          obtain ⟨rfl, rfl⟩ := e1
          have R := hGa.store hx h mkOp_len rfl hL
          go_wp2
          go_roundw
          case rel => exact ⟨k + 1, _, by rw [List.length_set]; omega, by rw [List.length_set]; exact hEl.out, by go_num, R⟩
          case measure => have := hEl.out; simp [intOf]; omega
    · have hkE : k = E'.length := by omega
      subst hkE
      have i1 : ¬ ((E'.length : Int) < (E'.length : Int)) := by omega
      go_wp2
      go_end0
      exact ⟨rfl, E', hG.same, hG.fin h, hG.wrote⟩

end Go.Proofs.YtcgecdiaddcfkaaGreatDoor
