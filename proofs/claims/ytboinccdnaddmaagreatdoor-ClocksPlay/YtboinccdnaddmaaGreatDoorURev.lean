/- The walk of reverseRangeOrdered at uint32: what lies between is permuted. -/
import Derived.Test.YtboinccdnaddmaaGreatDoorUBase
set_option linter.unusedSimpArgs false
set_option linter.unusedVariables false
namespace Go.Proofs.YtboinccdnaddmaaGreatDoor
open Go.RowKit Go.Sort

set_option maxHeartbeats 1000000 in
set_option maxRecDepth 1000000 in
theorem reverse_ok (g off cap a b len : Nat) (d : Array Nat) (w : World) (hlen : d.size = len) (hH : Holds u32e w g off d) (hg : g < w.heap.size) (hab : a ≤ b) (hb : b ≤ len) (hsz : len < 4611686018427387904) :
    Calls Tryz.prog 97 #[.slice (some ⟨g, off, none⟩) len cap, .int .i64 a, .int .i64 b] w fun e w' => e = .returned (.tuple #[]) ∧ ∃ d', RowIs w g off d d' w' ∧ PermIn a b d d' := by
  have HN : Hid (d.size = len) := hlen
  have HH : Hid (Holds u32e w g off d) := hH
  have r0 := RowIs.start hH hg
  clear hH hlen
  go_enter Tryz.func97, Tryz.ntmps97
  go_wp2
  go_loopw [6, 7] (fun v u W => ∃ (i : Nat) (z : Int) (dk : Array Nat), v = .int .i64 i ∧ u = .int .i64 z ∧ a ≤ i ∧ i ≤ b ∧ z < b ∧ -1 ≤ z ∧ RowIs w g off d dk W ∧ PermIn a b d dk) (fun v u _ => (intOf u - intOf v).toNat)
  case atStart => exact ⟨a, _, d, rfl, rfl, Nat.le_refl _, hab, by omega, by omega, r0, permIn_refl _ _ _⟩
  case round =>
    obtain ⟨i, z, dk, rfl, rfl, hi, hib, hz, hz1, hR, hP⟩ := hrel
    by_cases hlt : (i : Int) < z
    · obtain ⟨j, rfl⟩ : ∃ j : Nat, z = j := ⟨z.toNat, by omega⟩
      obtain ⟨G, hG⟩ : ∃ G : Nat → Nat, ∀ t, G t = dk[t]! := ⟨fun t => dk[t]!, fun _ => rfl⟩
      have cw : ∀ t, t < len → wr.cell? ⟨g, off + t, none⟩ = some (.int .u32 (G t : Int)) := fun t ht => by rw [hG]; exact hR.cell HH.out t (by rw [HN.out]; exact ht)
      have fw : ∀ t, t < len → wr.frozen? ⟨g, off + t, none⟩ = false := fun t ht => hR.frozen HH.out t (by rw [HN.out]; exact ht)
      have SW : Hid (RowIs w g off d (swp dk i j) ((wr.setCell ⟨g, off + i, none⟩ (.int .u32 (G j : Int))).setCell ⟨g, off + j, none⟩ (.int .u32 (G i : Int))).drew) := by
        show RowIs _ _ _ _ _ _
        rw [hG, hG]
        exact (hR.swap (j := i) (k := j) (by rw [HN.out]; omega) (by rw [HN.out]; omega)).drew 1
      have HP : Hid (PermIn a b d (swp dk i j)) := permIn_trans _ _ _ _ _ hP (swp_permIn _ _ _ _ _ hi (by omega) (by omega) (by omega) (by rw [hR.size, HN.out]; exact hb))
      clear hG hR hP r0
      go_wp2_with fail
      go_region
      go_wp2
      go_roundw
      case rel => exact ⟨i + 1, _, _, by go_num, by rfl, by omega, by omega, by omega, by omega, SW.out, HP.out⟩
      case measure => (simp [intOf]; try omega)
    · go_wp2
      go_end0
      exact ⟨rfl, dk, hR, hP⟩
end Go.Proofs.YtboinccdnaddmaaGreatDoor
