/- The walks of a book's lists of ids. -/
import Derived.Test.YtboinccdnaddmaaGreatDoorBBook2
import Derived.Test.YtboinccdnaddmaaGreatDoorGSame
import Derived.Deep.RegionWith
set_option linter.unusedSimpArgs false
set_option linter.unusedVariables false
namespace Go.Proofs.YtboinccdnaddmaaGreatDoor
open Go.RowKit

theorem below_drewB (w : World) : Below w.heap.size w w.drew := ⟨rfl, rfl, rfl, Nat.le_refl _, fun _ _ => rfl⟩
theorem triple_cell {w : World} {R : Nat} {a b c : Value} {t : TypeId} (h : w.heap[R]? = some (.cells #[a, b, c] t (0, 0))) : w.cell? ⟨R, 0, none⟩ = some a ∧ w.cell? ⟨R, 1, none⟩ = some b ∧ w.cell? ⟨R, 2, none⟩ = some c := by simp [World.cell?, h]
def mkId (n : Nat) : List Value := [.int .u32 (1000 + (n : Int))]
theorem info_u32k : (Tryz.prog.info? 43).map (fun i => (i.zero, i.size, i.bytes)) = some (some (.int .u32 0), 1, 4) := by kernel_rfl
theorem mkId_len (n : Nat) : (mkId n).length = 1 := rfl

set_option maxHeartbeats 1000000 in
set_option maxRecDepth 1000000 in
theorem markId_any (w : World) (n : Nat) (hn : n ≤ 1000000000) :
    Calls Tryz.prog 66 #[.int .i64 (n : Int)] w fun e w' => e = .returned (.int .u32 (1000 + (n : Int))) ∧ w' = w := by
  go_enter Tryz.func66, Tryz.ntmps66
  go_wp2
  go_ret
  exact ⟨rfl, rfl⟩

set_option maxHeartbeats 2000000 in
set_option maxRecDepth 1000000 in
theorem fillId_any (w : World) (bk : Nat) (v : Value) (E : List Ent) (hb : w.cell? ⟨bk, 2, none⟩ = some v) (hbk : bk < w.heap.size) (hD : ¬ LD E bk) (h : KAt w 81 43 1 v E) :
    Calls Tryz.prog 25 #[ptr bk] w fun e w' => e = .returned (.tuple #[]) ∧ FAt w' 81 43 1 mkId v E ∧ Wrote (LD E) w w' := by
  have hfew := h.few
  go_enter Tryz.func25, Tryz.ntmps25
  go_wp2
  go_loopw [2] (fun i wr => ∃ k : Nat, k ≤ E.length ∧ i = .int .i64 k ∧ FIn w wr 43 1 mkId E k 0) (fun i _ => E.length - (intOf i).toNat)
  case atStart => exact ⟨0, by omega, rfl, FIn.start mkId h⟩
  case round =>
    obtain ⟨k, hk, rfl, hF⟩ := hrel
    have hb1 : wr.cell? ⟨bk, 2, none⟩ = some v := (hF.wrote.cell (p := ⟨bk, 2, none⟩) hbk hD).trans hb
    obtain ⟨ao, cap, rfl, hc1, hc2⟩ := own_len' h.held
    unfold maxLen at hc2
    by_cases h1 : k < E.length
    · obtain ⟨x, hx⟩ : ∃ x, E[k]? = some x := ⟨E[k]'h1, by simp [h1]⟩
      have hheld : wr.ownsRow 0 81 3 (.slice ao E.length cap) E.length (E.flatMap entCells) := own_wrote h.held hF.wrote (fun b hb hd => h.off b hd hb)
      obtain ⟨g, cap', e1, -, -, c0, c1, c2, -⟩ := held_cell hheld hx
      simp only [Value.slice.injEq, true_and] at e1
      obtain ⟨rfl, rfl⟩ := e1
      obtain ⟨ao, cp, hxl, hl1, hl2⟩ := hF.row hx
      rw [hxl] at c0
      have i1 : (k : Int) < (E.length : Int) := by omega
      have hlong := h.fresh x (List.mem_of_getElem? hx)
      rw [hlong] at c1
      have hN := (h.rows x (List.mem_of_getElem? hx)).2.1
      have hltw : ∀ b, LD E b → b < w.heap.size := fun b hb => h.lt (.inr hb)
      have hsz := hF.wrote.size
      obtain ⟨wO, hO⟩ : ∃ x, x = wr := ⟨_, rfl⟩
      subst hO
      go_wp2
      go_loopw [4] (fun j wq => ∃ q : Nat, q ≤ x.len ∧ j = .int .i64 q ∧ FIn w wq 43 1 mkId E k q ∧ wO.heap.size < wq.heap.size ∧ wq.heap[wO.heap.size]? = some (.cells #[.slice ao x.len cp, .slice none 0 0, .int .i64 (x.n : Int)] 81 (0, 0))) (fun j _ => x.len - (intOf j).toNat)
      case atStart =>
        exact ⟨0, Nat.zero_le _, rfl, hF.below ((Below.refl _ _).alloc (Nat.le_refl _) _), by simp, heap_alloc_new wO _⟩
      case round =>
        clear hF c0 c1 c2 hheld hb1
        obtain ⟨q, hq, rfl, hF, hz, hB⟩ := hrel
        obtain ⟨d0, d1, d2⟩ := triple_cell hB
        have hl2' := hl2
        unfold maxLen at hl2'
        by_cases hq1 : q < x.len
        · obtain ⟨g2, cp2, e2, -, -, hcells, hLD, hF2⟩ := (hF.below (below_drewB wr)).store hx hq1 mkId_len (by omega) h.apart
          rw [hxl] at e2
          simp only [Value.slice.injEq, true_and] at e2
          obtain ⟨rfl, rfl⟩ := e2
          obtain ⟨⟨u0, k0⟩, f0⟩ := hcells 0 (by omega)
          simp only [Nat.mul_one, Nat.add_zero, World.cell?_drew, World.frozen?_drew] at k0 f0 hF2
          have hne : g2 ≠ wO.heap.size := by have := hltw g2 hLD; omega
          have hB2 : ((wr.drew).setCell ⟨g2, q, none⟩ (.int .u32 (1000 + (x.n : Int)))).heap[wO.heap.size]? = _ := (Below.heap_setCell _ _ _ _ (fun e => hne (by simpa using e.symm))).trans hB
          have HB : Hid _ := hB2
          have HF : Hid _ := hF2
          have i2 : (q : Int) < (x.len : Int) := by omega
          have hz2 : wO.heap.size < ((wr.drew).setCell ⟨g2, q, none⟩ (.int .u32 (1000 + (x.n : Int)))).heap.size := by simp [World.setCell]; exact hz
          clear hB hF hF2 hB2
          have km := fun W => markId_any W x.n hN
          go_wp2
          go_region_with (go_at_call 66; refine (km _).mono ?_; rintro e w' ⟨rfl, rfl⟩)
          all_goals
            go_wp2
            go_roundw
            case rel => exact ⟨q + 1, by omega, by go_num, HF.out, hz2, HB.out⟩
            case measure => simp [intOf]; omega
        · obtain rfl : q = x.len := by omega
          go_wp2
          go_roundw
          case rel => exact ⟨k + 1, by omega, by go_num, hF.next hx⟩
          case measure => simp [intOf]; omega
    · obtain rfl : k = E.length := by omega
      go_wp2
      go_end0
      exact ⟨rfl, hF.fin h, hF.wrote⟩
end Go.Proofs.YtboinccdnaddmaaGreatDoor
