/- The walk of KeysMarkers. -/
import Derived.Test.YthcngkikclaodaaDoorDigits
import Derived.OpenShut
set_option linter.unusedSimpArgs false
set_option linter.unusedVariables false
namespace Go.Proofs.YthcngkikclaodaaDoor
open Go.RowKit

set_option maxHeartbeats 4000000 in
set_option maxRecDepth 1000000 in
theorem markers_nat (g h : Nat) (w : World) (hg : g < 4294967296) (hh : h < 4294967296) (htab : Tab w) :
    Calls Tryd.prog 4 #[.int .u32 g, .int .u32 h] w fun e w' => e = .returned (.bool true) ∧ Below w.heap.size w w' := by
  have km := marker_any g w hg htab
  have km2 := fun w (t : Tab w) => marker_any h w hh t
  have hc := chk_mark g hg
  have hr := rsv_mark g hg
  have hs := mark_size g
  have hl := mark_long g hg
  have hp := dec_pos g
  have hinj := mark_inj g h
  have htwo := mark_two g
  have hhead := mark_head g
  obtain ⟨pv, pv2, pvs, pvle, pvstep⟩ := mark_facts g hg
  generalize mark g = M at *
  have hM : 3 ≤ M.size ∧ M.size ≤ 12 := by omega
  clear hs hl hp
  have kc := fun w => check_any M w (by unfold maxLen; omega)
  have kr := fun w => reserved_any M w (by unfold maxLen; omega)
  rw [hc] at kc
  rw [hr] at kr
  generalize mark h = M2 at *
  have H2 : Hid (pv 2 = 0) := pv2
  have HS : Hid (pv M.size = g) := pvs
  have HLE : Hid (∀ k, pv k ≤ g) := pvle
  have HST : Hid _ := pvstep
  have h2 : 2 < M.size := by omega
  have hcase : (3 < M.size ∧ (((M[2]'h2).toNat : Int) == 48) = false) ∨ M.size ≤ 3 := by
    rcases Nat.lt_or_ge 3 M.size with h3 | h3
    · exact .inl ⟨h3, by simpa using hhead h3 h2⟩
    · exact .inr (by omega)
  clear pv2 pvs pvle pvstep hc hr hhead
  go_enter Tryd.func4, Tryd.ntmps4
  go_wp2_with fail
  refine km.mono ?_
  rintro e w1 ⟨rfl, B1⟩
  go_wp2_with fail
  refine (alive_any w1 (tab_below htab B1)).mono ?_
  rintro e w2 ⟨rfl, hb⟩
  have B2 := B1.trans (hb.mono B1.size)
  clear hb
  go_wp2_with fail
  refine (kc w2).mono ?_
  rintro e w3 ⟨rfl, hb⟩
  have B3 := B2.trans (hb.mono B2.size)
  clear hb
  go_wp2_with fail
  refine (kr w3).mono ?_
  rintro e w4 ⟨rfl, hb⟩
  have B4 := B3.trans (hb.mono B3.size)
  clear hb
  go_wp2_with fail
  refine (km2 w4 (tab_below htab B4)).mono ?_
  rintro e w5 ⟨rfl, hb⟩
  have B5 := B4.trans (hb.mono B4.size)
  clear hb B1 B2 B3 B4 km km2 kc kr htab
  rcases hcase with ⟨h3, hne⟩ | h3
  all_goals
    go_wp2
    go_loop [6, 7] (fun n i => ∃ k : Nat, 2 ≤ k ∧ k ≤ M.size ∧ i = .int .i64 k ∧ n = .int .u64 (pv k)) (fun _ i => M.size - (intOf i).toNat)
    case atStart => exact ⟨2, by omega, by omega, rfl, by rw [H2.out]; rfl⟩
    case round =>
      obtain ⟨k, hk2, hks, rfl, rfl⟩ := hrel
      by_cases hlt : k < M.size
      · obtain ⟨⟨d1, d2⟩, hst⟩ := HST.out k hlt hk2
        have HT : Hid (pv (k + 1) = 10 * pv k + ((M[k]'hlt).toNat - 48)) := hst
        have hle := HLE.out k
        have hle2 := HLE.out (k + 1)
        have hle3 : 10 * pv k + ((M[k]'hlt).toNat - 48) ≤ g := by rw [← HT.out]; exact hle2
        clear hst hle2
        go_wp2
        go_round
        case rel => exact ⟨k + 1, by omega, by omega, by go_num, by rw [HT.out]; go_num⟩
        case measure => simp [intOf]; omega
      · obtain rfl : k = M.size := by omega
        have hpv := HS.out
        go_wp2
        go_ret
        exact ⟨rfl, B5⟩
theorem markers_walk (a b : Int) (w : World) (wa : (Lit.int .u32 a).wf = true) (wb : (Lit.int .u32 b).wf = true) (htab : Tab w) :
    Calls Tryd.prog 4 #[.int .u32 a, .int .u32 b] w fun e w' => e = .returned (.bool true) ∧ Below w.heap.size w w' := by
  have ha := bounds_u32 wa
  have hb := bounds_u32 wb
  obtain ⟨g, rfl⟩ : ∃ g : Nat, a = g := ⟨a.toNat, by omega⟩
  obtain ⟨h, rfl⟩ : ∃ h : Nat, b = h := ⟨b.toNat, by omega⟩
  exact markers_nat g h w (by omega) (by omega) htab
end Go.Proofs.YthcngkikclaodaaDoor
