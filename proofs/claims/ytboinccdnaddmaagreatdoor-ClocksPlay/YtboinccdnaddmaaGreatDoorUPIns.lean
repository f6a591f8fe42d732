/- The walk of partialInsertionSortOrdered at uint32. -/
import Derived.Test.YtboinccdnaddmaaGreatDoorUBase
import Derived.Deep.CutBlock
set_option linter.unusedSimpArgs false
set_option linter.unusedVariables false
namespace Go.Proofs.YtboinccdnaddmaaGreatDoor
open Go.RowKit Go.Sort

theorem below_le {a b : Nat} {d : Array Nat} (h : Sort.Below ltN a b d) (h0 : 0 < a) (hab : a < b) : ltN d[a]! d[a - 1]! = false := by
  rcases h with h | h
  · omega
  · exact h a (Nat.le_refl _) hab
theorem ins_start {a i : Nat} {dk : Array Nat} (h : SortedIn ltN a i dk) (hi : i < dk.size) (ha : a < i) : Ins ltN a (i - 1) (i - 1) (swp dk i (i - 1)) :=
  ⟨fun p q h1 h2 h3 h4 h5 => by
    rw [swp_other _ _ _ _ (by omega) (by omega), swp_other _ _ _ _ (by omega) (by omega)]
    exact h p q h1 h2 (by omega), fun q h1 h2 => by omega⟩
theorem sorted_few {a i : Nat} {dk : Array Nat} (h : i ≤ a + 1) : SortedIn ltN a i dk := fun p q h1 h2 h3 => by omega

set_option maxHeartbeats 4000000 in
set_option maxRecDepth 1000000 in
theorem partialIns_ok (g off cap a b len : Nat) (d : Array Nat) (w : World) (hlen : d.size = len) (hH : Holds u32e w g off d) (hg : g < w.heap.size) (hab : a < b) (hb : b ≤ len) (hsz : len < 4611686018427387904) (hB : Sort.Below ltN a b d) :
    Calls Tryz.prog 98 #[.slice (some ⟨g, off, none⟩) len cap, .int .i64 a, .int .i64 b] w fun e w' => ∃ (t : Bool) (d' : Array Nat), e = .returned (.bool t) ∧ RowIs w g off d d' w' ∧ PermIn a b d d' ∧ (t = true → SortedIn ltN a b d') := by
  have HN : Hid (d.size = len) := hlen
  have HH : Hid (Holds u32e w g off d) := hH
  have HB : Hid (∀ dk, PermIn a b d dk → Sort.Below ltN a b dk) := fun dk hp => hB.perm (by omega) hp
  have r0 : Hid (RowIs w g off d d w) := RowIs.start hH hg
  clear hH hlen hB
  go_enter Tryz.func98, Tryz.ntmps98
  go_wp2
  go_loopw [7, 8] (fun v u W => ∃ (i s : Nat) (dk : Array Nat), v = .int .i64 i ∧ u = .int .i64 s ∧ s ≤ 5 ∧ a < i ∧ i ≤ b ∧ SortedIn ltN a i dk ∧ PermIn a b d dk ∧ RowIs w g off d dk W) (fun _ u _ => 5 - (intOf u).toNat)
  case atStart => exact ⟨a + 1, 0, d, by go_num, rfl, by omega, by omega, by omega, sorted_few (by omega), permIn_refl _ _ _, r0.out⟩
  case round =>
    obtain ⟨i, s, dk, rfl, rfl, hs, hai, hib, S0, P0, R0⟩ := hrel
    have hS : Hid (SortedIn ltN a i dk) := S0
    have hP : Hid (PermIn a b d dk) := P0
    have hR : Hid (RowIs w g off d dk wr) := R0
    clear S0 P0 R0
    by_cases hs5 : s < 5
    · go_upto_block 2 with fail
      go_cut [7] from 17 to 132 (fun v W => ∃ i : Nat, v = .int .i64 i ∧ a < i ∧ i ≤ b ∧ SortedIn ltN a i dk ∧ (i = b ∨ ltN dk[i]! dk[i - 1]! = true) ∧ RowIs w g off d dk W)
      case first =>
        go_wp2
        go_loopw [7] (fun v W => ∃ i : Nat, v = .int .i64 i ∧ a < i ∧ i ≤ b ∧ SortedIn ltN a i dk ∧ RowIs w g off d dk W) (fun v _ => b - (intOf v).toNat)
        case atStart => exact ⟨_, rfl, hai, hib, hS.out, hR.out⟩
        case round =>
          obtain ⟨i, rfl, hai, hib, S0, R0⟩ := hrel
          obtain ⟨G, hG⟩ : ∃ G : Nat → Nat, ∀ t, G t = dk[t]! := ⟨fun t => dk[t]!, fun _ => rfl⟩
          have cw : ∀ t, t < len → wr.cell? ⟨g, off + t, none⟩ = some (.int .u32 (G t : Int)) := fun t ht => by rw [hG]; exact R0.cell HH.out t (by rw [HN.out]; exact ht)
          have HG : Hid (∀ t, G t = dk[t]!) := hG
          have hS : Hid (SortedIn ltN a i dk) := S0
          have hR : Hid (RowIs w g off d dk wr) := R0
          clear hG S0 R0
          go_wp2
          by_cases hlt : i < b
          · go_quiet (first | (go_at_call 99; refine Calls.quiet_of_same (less_u32 _ _ _)))
            go_wp2
            · have hl : ltN (G i) (G (i - 1)) = false := by
                have : (!ltN (G i) (G (i - 1))) = true := by assumption
                simpa using this
              rw [HG.out, HG.out] at hl
              go_roundw
              case rel => exact ⟨i + 1, by go_num, by omega, by omega, hS.out.snoc swo_ltN hl, hR.out.drew nq⟩
              case measure => (simp [intOf]; try omega)
            · have hl : ltN (G i) (G (i - 1)) = true := by
                have : (!ltN (G i) (G (i - 1))) = false := by assumption
                simpa using this
              rw [HG.out, HG.out] at hl
              go_meet
              case rel => exact ⟨i, rfl, hai, hib, hS.out, .inr hl, hR.out.drew nq⟩
          · go_quiet (first | (go_at_call 99; refine Calls.quiet_of_same (less_u32 _ _ _)))
            go_wp2
            go_meet
            case rel => exact ⟨i, rfl, hai, hib, hS.out, .inl (by omega), hR.out.drew nq⟩
      case rest =>
        obtain ⟨i, rfl, hai, hib, S1, T1, R1⟩ := hcut
        have hS : Hid (SortedIn ltN a i dk) := S1
        have hT : Hid (i = b ∨ ltN dk[i]! dk[i - 1]! = true) := T1
        have hR : Hid (RowIs w g off d dk wc) := R1
        clear S1 T1 R1
        by_cases hieq : i = b
        · go_wp2
          go_ret
          exact ⟨true, dk, rfl, hR.out, hP.out, fun _ => by rw [← hieq]; exact hS.out⟩
        · have hib2 : i < b := by omega
          have hieqz : ¬ (i : Int) = (b : Int) := by omega
          have hbeq : ((i : Int) == (b : Int)) = false := by simpa using hieqz
          go_wp2_with fail
          · go_ret
            exact ⟨false, dk, rfl, hR.out, hP.out, fun h => by cases h⟩
          · have hl : ltN dk[i]! dk[i - 1]! = true := hT.out.resolve_left hieq
            obtain ⟨G, hG⟩ : ∃ G : Nat → Nat, ∀ t, G t = dk[t]! := ⟨fun t => dk[t]!, fun _ => rfl⟩
            have cw : ∀ t, t < len → wc.cell? ⟨g, off + t, none⟩ = some (.int .u32 (G t : Int)) := fun t ht => by rw [hG]; exact hR.out.cell HH.out t (by rw [HN.out]; exact ht)
            have fw : ∀ t, t < len → wc.frozen? ⟨g, off + t, none⟩ = false := fun t ht => hR.out.frozen HH.out t (by rw [HN.out]; exact ht)
            have hsz2 : Hid (dk.size = len) := by show _ = _; rw [hR.out.size]; exact HN.out
            have SW : Hid (∀ q, RowIs w g off d (swp dk i (i - 1)) ((((wc.drewN q).setCell ⟨g, off + i, none⟩ (.int .u32 (G (i - 1) : Int))).setCell ⟨g, off + (i - 1), none⟩ (.int .u32 (G i : Int))))) := fun q => by
              rw [hG, hG]
              exact (hR.out.drew q).swap (j := i) (k := i - 1) (by rw [HN.out]; omega) (by rw [HN.out]; omega)
            obtain ⟨dk1, hdk1⟩ : ∃ dk1, dk1 = swp dk i (i - 1) := ⟨_, rfl⟩
            have I1 : Hid (Ins ltN a (i - 1) (i - 1) dk1) := by rw [hdk1]; exact ins_start hS.out (by rw [hsz2.out]; omega) hai
            have S1 : Hid (i ≤ a + 1 → SortedIn ltN a i dk1) := fun h => sorted_few h
            have P1 : Hid (PermIn a b d dk1) := by rw [hdk1]; exact permIn_trans _ _ _ _ _ hP.out (swp_permIn _ _ _ _ _ (by omega) hib2 (by omega) (by omega) (by rw [hsz2.out]; exact hb))
            rw [← hdk1] at SW
            clear hG hdk1 hl hP hR hS hT hsz2
            go_region
            generalize hwd : ((wc.setCell ⟨g, off + i, none⟩ (.int .u32 (G (i - 1) : Int))).setCell ⟨g, off + (i - 1), none⟩ (.int .u32 (G i : Int))).drew = wd
            have hR : Hid (RowIs w g off d dk1 wd) := by rw [← hwd]; exact SW.out 1
            clear hwd SW cw fw
            have hP := P1
            clear P1
            go_upto_if 61 with fail
            go_cut [] from 13 to 132 (fun W => ∃ dk2, SortedIn ltN a i dk2 ∧ PermIn a b d dk2 ∧ RowIs w g off d dk2 W)
            case first =>
              by_cases h2 : i - a ≥ 2
              · have h2z : (2 : Int) ≤ (i : Int) - (a : Int) := by omega
                go_wp2
                obtain ⟨dk, hdk⟩ : ∃ dk, dk = dk1 := ⟨_, rfl⟩
                have hI : Hid (Ins ltN a (i - 1) (i - 1) dk) := by rw [hdk]; exact I1.out
                rw [← hdk] at hP hR
                clear hdk I1 S1
                go_loopw [9] (fun v W => ∃ (x : Nat) (dk : Array Nat), v = .int .i64 x ∧ a ≤ x ∧ x < i ∧ Ins ltN a x (i - 1) dk ∧ PermIn a b d dk ∧ RowIs w g off d dk W) (fun v _ => (intOf v).toNat)
                case atStart => exact ⟨i - 1, dk, by congr 1; omega, by omega, by omega, hI.out, hP.out, hR.out⟩
                case round =>
                  obtain ⟨x, dk, rfl, hx1, hx2, I0, P0, R0⟩ := hrel
                  obtain ⟨G, hG⟩ : ∃ G : Nat → Nat, ∀ t, G t = dk[t]! := ⟨fun t => dk[t]!, fun _ => rfl⟩
                  have cw : ∀ t, t < len → wr.cell? ⟨g, off + t, none⟩ = some (.int .u32 (G t : Int)) := fun t ht => by rw [hG]; exact R0.cell HH.out t (by rw [HN.out]; exact ht)
                  have fw : ∀ t, t < len → wr.frozen? ⟨g, off + t, none⟩ = false := fun t ht => R0.frozen HH.out t (by rw [HN.out]; exact ht)
                  have HG : Hid (∀ t, G t = dk[t]!) := hG
                  have hsz2 : Hid (dk.size = len) := by show _ = _; rw [R0.size]; exact HN.out
                  have SW : Hid (∀ q, RowIs w g off d (swp dk x (x - 1)) ((((wr.drewN q).setCell ⟨g, off + x, none⟩ (.int .u32 (G (x - 1) : Int))).setCell ⟨g, off + (x - 1), none⟩ (.int .u32 (G x : Int))))) := fun q => by
                    rw [hG, hG]
                    exact (R0.drew q).swap (j := x) (k := x - 1) (by rw [HN.out]; omega) (by rw [HN.out]; omega)
                  have I : Hid (Ins ltN a x (i - 1) dk) := I0
                  have hP : Hid (PermIn a b d dk) := P0
                  have hR : Hid (RowIs w g off d dk wr) := R0
                  clear hG I0 P0 R0
                  by_cases h1 : 1 ≤ x
                  · go_wp2
                    go_quiet (first | (go_at_call 99; refine Calls.quiet_of_same (less_u32 _ _ _)))
                    go_wp2
                    · have hl : ltN (G x) (G (x - 1)) = false := by
                        have : (!ltN (G x) (G (x - 1))) = true := by assumption
                        simpa using this
                      rw [HG.out, HG.out] at hl
                      go_meet
                      case rel => exact ⟨dk, (by have := I.out.stop swo_ltN (.inr hl); rwa [Nat.sub_add_cancel (by omega)] at this), hP.out, hR.out.drew nq⟩
                    · have hl : ltN (G x) (G (x - 1)) = true := by
                        have : (!ltN (G x) (G (x - 1))) = false := by assumption
                        simpa using this
                      rw [HG.out, HG.out] at hl
                      have hax : a < x := by
                        rcases Nat.lt_or_ge a x with h | h
                        · exact h
                        · obtain rfl : x = a := by omega
                          have := below_le (HB.out dk hP.out) (by omega) hab
                          rw [hl] at this
                          cases this
                      have I2 : Hid (Ins ltN a (x - 1) (i - 1) (swp dk x (x - 1))) := by
                        obtain ⟨y, rfl⟩ : ∃ y, x = y + 1 := ⟨x - 1, by omega⟩
                        exact I.out.step hl (by omega) (by rw [hsz2.out]; omega)
                      have P2 : Hid (PermIn a b d (swp dk x (x - 1))) := permIn_trans _ _ _ _ _ hP.out (swp_permIn _ _ _ _ _ (by omega) (by omega) (by omega) (by omega) (by rw [hsz2.out]; exact hb))
                      clear hl
                      go_region
                      all_goals go_wp2
                      go_roundw
                      case rel => exact ⟨x - 1, _, by congr 1; omega, by omega, by omega, I2.out, P2.out, SW.out (nq + 1)⟩
                      case measure => (simp [intOf]; try omega)
                  · go_wp2
                    go_meet
                    case rel => exact ⟨dk, (by have := I.out.stop swo_ltN (.inl (by omega)); rwa [Nat.sub_add_cancel (by omega)] at this), hP.out, hR.out⟩
              · have h2z : ¬ (2 : Int) ≤ (i : Int) - (a : Int) := by omega
                go_wp2
                go_meet
                case rel => exact ⟨dk1, S1.out (by omega), hP.out, hR.out⟩
            case rest =>
              clear hP hR I1 S1
              obtain ⟨dk, S0, P0, R0⟩ := hcut
              have hI : Hid (SortedIn ltN a i dk) := S0
              have hP : Hid (PermIn a b d dk) := P0
              have hR : Hid (RowIs w g off d dk wc) := R0
              clear S0 P0 R0
              by_cases h2 : b - i ≥ 2
              · have h2z : (2 : Int) ≤ (b : Int) - (i : Int) := by omega
                go_wp2
                go_loopw [10] (fun v W => ∃ (x : Nat) (dk : Array Nat), v = .int .i64 x ∧ i < x ∧ x ≤ b ∧ SortedIn ltN a i dk ∧ PermIn a b d dk ∧ RowIs w g off d dk W) (fun v _ => b - (intOf v).toNat)
                case atStart => exact ⟨i + 1, dk, by go_num, by omega, by omega, hI.out, hP.out, hR.out⟩
                case round =>
                  obtain ⟨x, dk, rfl, hx1, hx2, I0, P0, R0⟩ := hrel
                  obtain ⟨G, hG⟩ : ∃ G : Nat → Nat, ∀ t, G t = dk[t]! := ⟨fun t => dk[t]!, fun _ => rfl⟩
                  have cw : ∀ t, t < len → wr.cell? ⟨g, off + t, none⟩ = some (.int .u32 (G t : Int)) := fun t ht => by rw [hG]; exact R0.cell HH.out t (by rw [HN.out]; exact ht)
                  have fw : ∀ t, t < len → wr.frozen? ⟨g, off + t, none⟩ = false := fun t ht => R0.frozen HH.out t (by rw [HN.out]; exact ht)
                  have HG : Hid (∀ t, G t = dk[t]!) := hG
                  have hsz2 : Hid (dk.size = len) := by show _ = _; rw [R0.size]; exact HN.out
                  have SW : Hid (∀ q, x < b → RowIs w g off d (swp dk x (x - 1)) ((((wr.drewN q).setCell ⟨g, off + x, none⟩ (.int .u32 (G (x - 1) : Int))).setCell ⟨g, off + (x - 1), none⟩ (.int .u32 (G x : Int))))) := fun q hxb => by
                    rw [hG, hG]
                    exact (R0.drew q).swap (j := x) (k := x - 1) (by rw [HN.out]; omega) (by rw [HN.out]; omega)
                  have I : Hid (SortedIn ltN a i dk) := I0
                  have hP : Hid (PermIn a b d dk) := P0
                  have hR : Hid (RowIs w g off d dk wr) := R0
                  clear hG I0 P0 R0
                  by_cases h1 : x < b
                  · go_wp2
                    go_quiet (first | (go_at_call 99; refine Calls.quiet_of_same (less_u32 _ _ _)))
                    go_wp2
                    · go_roundw
                      case rel => exact ⟨i, s + 1, dk, rfl, by go_num, by omega, hai, hib, I.out, hP.out, hR.out.drew nq⟩
                      case measure => (simp [intOf]; try omega)
                    · have I2 : Hid (SortedIn ltN a i (swp dk x (x - 1))) := fun p q k1 k2 k3 => by
                        rw [swp_other _ _ _ _ (by omega) (by omega), swp_other _ _ _ _ (by omega) (by omega)]
                        exact I.out p q k1 k2 k3
                      have P2 : Hid (PermIn a b d (swp dk x (x - 1))) := permIn_trans _ _ _ _ _ hP.out (swp_permIn _ _ _ _ _ (by omega) (by omega) (by omega) (by omega) (by rw [hsz2.out]; exact hb))
                      go_region
                      all_goals go_wp2
                      go_roundw
                      case rel => exact ⟨x + 1, _, by go_num, by omega, by omega, I2.out, P2.out, SW.out (nq + 1) h1⟩
                      case measure => (simp [intOf]; try omega)
                  · go_wp2
                    go_roundw
                    case rel => exact ⟨i, s + 1, dk, rfl, by go_num, by omega, hai, hib, I.out, hP.out, hR.out⟩
                    case measure => (simp [intOf]; try omega)
              · have h2z : ¬ (2 : Int) ≤ (b : Int) - (i : Int) := by omega
                go_wp2
                go_roundw
                case rel => exact ⟨i, s + 1, dk, rfl, by go_num, by omega, hai, hib, hI.out, hP.out, hR.out⟩
                case measure => (simp [intOf]; try omega)
    · go_wp2
      go_ret
      exact ⟨false, dk, rfl, hR.out, hP.out, fun h => by cases h⟩
end Go.Proofs.YtboinccdnaddmaaGreatDoor
