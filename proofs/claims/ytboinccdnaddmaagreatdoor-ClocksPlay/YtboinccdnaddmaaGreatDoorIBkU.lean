/- The walks of a book's lists of ids. -/
import Derived.Test.YtboinccdnaddmaaGreatDoorIBkT
set_option linter.unusedSimpArgs false
set_option linter.unusedVariables false
namespace Go.Proofs.YtboinccdnaddmaaGreatDoor
open Go.RowKit

theorem mkId_one (n : Nat) : ∀ u ∈ mkId n, u.oneCell' = true := by intro u hu; simp [mkId] at hu; subst hu; rfl

set_option maxHeartbeats 2000000 in
set_option maxRecDepth 1000000 in
theorem growId_any (w : World) (bk : Nat) (v : Value) (E : List Ent) (hb : w.cell? ⟨bk, 2, none⟩ = some v) (hbk : bk < w.heap.size) (hD : ¬ DD v E bk) (h : FAt w 81 43 1 mkId v E) :
    Calls Tryz.prog 37 #[ptr bk] w fun e w' => e = .returned (.tuple #[]) ∧ ∃ E', E'.map (fun x => (x.l, x.len, x.n)) = E.map (fun x => (x.l, x.len, x.n)) ∧ GAt w.heap.size w' 81 1 mkId v E' ∧ Wrote (DD v E) w w' := by
  have hfew := h.few
  obtain ⟨i0, hi, hz0, hz1, hz2⟩ := info_parts info_u32k
  go_enter Tryz.func37, Tryz.ntmps37
  go_wp2
  go_loopw [2] (fun i wr => ∃ (k : Nat) (E' : List Ent), k ≤ E'.length ∧ E'.length = E.length ∧ i = .int .i64 k ∧ GIn w wr 81 43 1 mkId v E E' k) (fun i _ => E.length - (intOf i).toNat)
  case atStart => exact ⟨0, E, by omega, rfl, rfl, GIn.start h⟩
  case round =>
    obtain ⟨k, E', hk, hEl0, rfl, hG⟩ := hrel
    have hEl : Hid (E'.length = E.length) := hEl0
    clear hEl0
    have hb1 : wr.cell? ⟨bk, 2, none⟩ = some v := (hG.wrote.cell (p := ⟨bk, 2, none⟩) hbk hD).trans hb
    obtain ⟨ao, cap, rfl, hc1, hc2⟩ := own_len' hG.held
    unfold maxLen at hc2
    by_cases h1 : k < E'.length
    · obtain ⟨x, hx⟩ : ∃ x, E'[k]? = some x := ⟨E'[k]'h1, by simp [h1]⟩
      obtain ⟨g, cap', e1, -, -, c0, c1, c2, -⟩ := held_cell hG.held hx
      simp only [Value.slice.injEq, true_and] at e1
      obtain ⟨rfl, rfl⟩ := e1
      have hrow := hG.rest k x (Nat.le_refl _) hx
      obtain ⟨ao, cp, hxl, hl1, hl2⟩ := own_len' hrow
      rw [hxl] at c0
      have i1 : (k : Int) < (E'.length : Int) := by omega
      have hlong := hG.fresh k x (Nat.le_refl _) hx
      rw [hlong] at c1
      obtain ⟨y, hy, ey1, ey2, ey3⟩ := same_get hG.same hx
      have hN := (h.rows y (List.mem_of_getElem? hy)).2.1
      have hLn := (h.rows y (List.mem_of_getElem? hy)).1
      rw [ey3] at hN
      rw [ey2] at hLn
      have hsz := hG.wrote.size
      have hgs : g < w.heap.size := (h.held.lt g rfl).2
      have hlb : ∀ b, x.l.ownBlock = some b → b < wr.heap.size ∧ b ≠ bk ∧ b ≠ g := fun b hb => ⟨(hrow.lt b hb).2, fun e => hD (.inr ⟨y, List.mem_of_getElem? hy, by rw [ey1, ← e]; exact hb⟩), fun e => h.off b ⟨y, List.mem_of_getElem? hy, by rw [ey1]; exact hb⟩ (by rw [e]; rfl)⟩
      have hGa := hG.below ((Below.refl _ _).alloc (Nat.le_refl _) (.cells #[.slice ao x.len cp, .slice none 0 0, .int .i64 (x.n : Int)] 81))
      have hLa := LIn.start (hGa.rest k x (Nat.le_refl _) hx) mkId_len
      rw [hxl] at hLa
      have hzero := own_zero hrow
      obtain ⟨wO, hO⟩ : ∃ x, x = wr := ⟨_, rfl⟩
      subst hO
      go_wp2
      go_loopw [4, 5] (fun lg j wq => ∃ q : Nat, q ≤ 40 ∧ j = .int .i64 q ∧ LIn (wO.alloc (.cells #[.slice ao x.len cp, .slice none 0 0, .int .i64 (x.n : Int)] 81)) wq 43 1 mkId x lg q) (fun _ j _ => 40 - (intOf j).toNat)
      case atStart => exact ⟨0, by omega, rfl, hLa⟩
      case round =>
        clear hLa hb1
        obtain ⟨q, hq, rfl, hL⟩ := hrel
        have hzz := hL.wrote.size
        have zz : (wO.alloc (.cells #[.slice ao x.len cp, .slice none 0 0, .int .i64 (x.n : Int)] 81)).heap.size = wO.heap.size + 1 := by simp
        have hnot : ¬ x.l.ownBlock = some wO.heap.size := fun e => by have := (hlb _ e).1; omega
        have hB : wr.heap[wO.heap.size]? = some (.cells #[.slice ao x.len cp, .slice none 0 0, .int .i64 (x.n : Int)] 81 (0, 0)) := (hL.wrote.block _ (by omega) hnot).trans (heap_alloc_new wO _)
        obtain ⟨d0, d1, d2⟩ := triple_cell hB
        have hb1 : wr.cell? ⟨bk, 2, none⟩ = some (.slice (some ⟨g, 0, none⟩) E'.length cap) := by
          rw [hL.wrote.cell (p := ⟨bk, 2, none⟩) (by simp only [zz]; omega) (fun e => (hlb _ e).2.1 rfl)]
          exact (hGa.wrote.cell (p := ⟨bk, 2, none⟩) hbk hD).trans hb
        obtain ⟨al, cl, hlg, hl3, hl4⟩ := own_len' hL.own
        subst hlg
        unfold maxLen at hl4
        by_cases hq1 : q < 40
        · have i2 : (q : Int) < 40 := by omega
          have km := fun W => markId_any W x.n hN
          have hL2 := hL.below ((Below.refl _ _).alloc (Nat.le_refl _) (.cells #[.int .u32 (1000 + (x.n : Int))] 43))
          have src : Src Tryz.prog 1 49 (.slice (some ⟨wr.heap.size, 0, none⟩) 1 1) 1 (mkId x.n) (wr.alloc (.cells #[.int .u32 (1000 + (x.n : Int))] 43)) := Src.ofSlice _ Tryz.underlying49 ⟨wr.heap.size, 0, none⟩ 1 1 (mkId x.n) rfl (news_ofv _ _) (mkId_one _)
          have b1 : Hid (x.len + q + 1 ≤ maxLen ∧ (x.len + q + 1) * 4 ≤ 140737488355328) := by show _ ∧ _; unfold maxLen; omega
          clear hL hB
          go_wp2_with fail
          refine (km _).mono ?_
          rintro e w' ⟨rfl, hw⟩
          rw [hw]
          clear hw w' km
          go_wp2_with (at_builtin; refine wpList_append_stays _ rfl (.tmp 28) (.tmp 32) 49 49 rfl 0 43 i0 (.int .u32 0) 1 4 Tryz.underlying49 hi hz0 hz1 hz2 rfl (by decide) (.slice al (x.len + q) cl) (x.len + q) (marks (mkId x.n) (x.len + q)) rfl hL2.own (.slice (some ⟨wr.heap.size, 0, none⟩) 1 1) 1 (mkId x.n) rfl src b1.out.1 b1.out.2 (Nat.zero_le _) ?_; intro v' w1 ho hg; have R := hL2.app mkId_len hzero ho hg; obtain ⟨av, nv, cv, rfl⟩ := own_slice ho)
          go_roundw
          case rel => exact ⟨q + 1, by omega, by go_num, R⟩
          case measure => simp [intOf]; omega
        · obtain rfl : q = 40 := by omega
          have hheld := own_wrote hGa.held hL.wrote (fun b hb e => (hlb b e).2.2 (by simpa [Value.ownBlock] using hb.symm))
          obtain ⟨g', cap', e1, -, -, c0', c1', c2', f1'⟩ := held_cell hheld hx
          simp only [Value.slice.injEq, true_and, Option.some.injEq, Addr.mk.injEq, and_true] at e1
          obtain ⟨rfl, rfl⟩ := e1
          have R := hGa.store hx h mkId_len rfl hL
          go_wp2
          go_roundw
          case rel => exact ⟨k + 1, _, by rw [List.length_set]; omega, by rw [List.length_set]; exact hEl.out, by go_num, R⟩
          case measure => have := hEl.out; simp [intOf]; omega
    · have hkE : k = E'.length := by omega
      subst hkE
      have i1 : ¬ ((E'.length : Int) < (E'.length : Int)) := by omega
      go_wp2
      go_end0
      exact ⟨rfl, E', hG.same, hG.fin h, hG.wrote⟩
end Go.Proofs.YtboinccdnaddmaaGreatDoor
