/- The walk of insertionSortOrdered at uint32. -/
import Derived.Test.YtboinccdnaddmaaGreatDoorUBase
set_option linter.unusedSimpArgs false
set_option linter.unusedVariables false
namespace Go.Proofs.YtboinccdnaddmaaGreatDoor
open Go.RowKit Go.Sort

set_option maxHeartbeats 1000000 in
set_option maxRecDepth 1000000 in
theorem insertion_ok (g off cap a b : Nat) (d : Array Nat) (w : World) (hH : Holds u32e w g off d) (hg : g < w.heap.size) (hab : a ≤ b) (hb : b ≤ d.size) (hsz : d.size < 4611686018427387904) :
    Calls Tryz.prog 93 #[.slice (some ⟨g, off, none⟩) d.size cap, .int .i64 a, .int .i64 b] w fun e w' => e = .returned (.tuple #[]) ∧ RowIs w g off d (insertionSort ltN d a b) w' := by
  obtain ⟨N, hN⟩ : ∃ N, N = d.size := ⟨_, rfl⟩
  have HN : Hid (N = d.size) := hN
  rw [← hN] at hb hsz ⊢
  have HH : Hid (Holds u32e w g off d) := hH
  have r0 := RowIs.start hH hg
  clear hN hH
  go_enter Tryz.func93, Tryz.ntmps93
  go_wp2
  go_loopw [6] (fun v W => ∃ (i : Nat) (dk : Array Nat), v = .int .i64 i ∧ a < i ∧ i ≤ b + 1 ∧ RowIs w g off d dk W ∧ insOuter ltN a b i dk = insOuter ltN a b (a + 1) d) (fun v _ => b + 1 - (intOf v).toNat)
  case atStart => exact ⟨a + 1, d, by go_num, by omega, by omega, r0, rfl⟩
  case round =>
    obtain ⟨i, dk, rfl, hai, hib, hR, hO⟩ := hrel
    have HO : Hid (insOuter ltN a b i dk = insOuter ltN a b (a + 1) d) := hO
    clear hO
    go_wp2
    · have hlt : i < b := by assumption
      go_loopw [7] (fun v W => ∃ (j : Nat) (dj : Array Nat), v = .int .i64 j ∧ a ≤ j ∧ j ≤ i ∧ RowIs w g off d dj W ∧ insInner ltN a j dj = insInner ltN a i dk) (fun v _ => (intOf v).toNat)
      case atStart => exact ⟨i, dk, rfl, by omega, Nat.le_refl _, hR, rfl⟩
      case round =>
        obtain ⟨j, dj, rfl, haj, hji, hRj, hI⟩ := hrel
        obtain ⟨G, hG⟩ : ∃ G : Nat → Nat, ∀ t, G t = dj[t]! := ⟨fun t => dj[t]!, fun _ => rfl⟩
        have cw : ∀ t, t < N → wr.cell? ⟨g, off + t, none⟩ = some (.int .u32 (G t : Int)) := fun t ht => by rw [hG]; exact hRj.cell HH.out t (by rw [← HN.out]; exact ht)
        have fw : ∀ t, t < N → wr.frozen? ⟨g, off + t, none⟩ = false := fun t ht => hRj.frozen HH.out t (by rw [← HN.out]; exact ht)
        have HG : Hid (∀ t, G t = dj[t]!) := hG
        have HR : Hid (RowIs w g off d dj wr) := hRj
        have HI : Hid (insInner ltN a j dj = insInner ltN a i dk) := hI
        clear hG hI hRj hR r0
        have OUT : Hid ((j ≤ a ∨ ltN dj[j]! dj[j - 1]! = false) → ∀ q, ∃ (i' : Nat) (dk' : Array Nat), Value.int .i64 ((i : Int) + 1) = .int .i64 (i' : Nat) ∧ a < i' ∧ i' ≤ b + 1 ∧ RowIs w g off d dk' (wr.drewN q) ∧ insOuter ltN a b i' dk' = insOuter ltN a b (a + 1) d) := fun hs q =>
          ⟨i + 1, dj, by go_num, by omega, by omega, HR.out.drew q, by rw [← HO.out, insOuter_go _ _ _ _ _ hlt, ← HI.out, insInner_stop _ _ _ _ hs]⟩
        go_wp2
        by_cases hja : a < j
        · go_quiet (first | (go_at_call 99; refine Calls.quiet_of_same (less_u32 _ _ _)))
          go_wp2
          · have hl : ltN (G j) (G (j - 1)) = true := by assumption
            go_region
            all_goals go_wp2
            go_roundw
            case rel =>
              refine ⟨j - 1, swp dj j (j - 1), by congr 1; omega, by omega, by omega, ?_, ?_⟩
              · rw [HG.out, HG.out]
                exact (HR.out.drew (nq + 1)).swap (by rw [← HN.out]; omega) (by rw [← HN.out]; omega)
              · rw [← HI.out, insInner_go ltN a j dj hja (by rw [← HG.out, ← HG.out]; exact hl)]
            case measure => simp [intOf]; omega
          · have hl : ltN (G j) (G (j - 1)) = false := by assumption
            go_roundw
            case rel => exact OUT.out (.inr (by rw [← HG.out, ← HG.out]; exact hl)) nq
            case measure => simp [intOf]; omega
        · go_quiet (first | (go_at_call 99; refine Calls.quiet_of_same (less_u32 _ _ _)))
          go_wp2
          go_roundw
          case rel => exact OUT.out (.inl (by omega)) nq
          case measure => simp [intOf]; omega
    · have hge : ¬ i < b := by assumption
      go_end0
      exact ⟨rfl, by unfold insertionSort; rw [← HO.out, insOuter_stop _ _ _ _ _ hge]; exact hR⟩
end Go.Proofs.YtboinccdnaddmaaGreatDoor
