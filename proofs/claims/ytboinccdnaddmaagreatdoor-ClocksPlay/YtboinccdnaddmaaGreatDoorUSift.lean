/- The walks of siftDownOrdered and heapSortOrdered at uint32. -/
import Derived.Test.YtboinccdnaddmaaGreatDoorUBase
import Derived.Sort.WalkB3
set_option linter.unusedSimpArgs false
set_option linter.unusedVariables false
namespace Go.Proofs.YtboinccdnaddmaaGreatDoor
open Go.RowKit Go.Sort

set_option maxHeartbeats 2000000 in
set_option maxRecDepth 1000000 in
theorem siftDown_ok (g off cap lo hi F len : Nat) (d : Array Nat) (w : World) (hlen : d.size = len) (hH : Holds u32e w g off d) (hg : g < w.heap.size) (hlo : lo ≤ hi) (hb : F + hi ≤ len) (hsz : len < 4611686018427387904) :
    Calls Tryz.prog 105 #[.slice (some ⟨g, off, none⟩) len cap, .int .i64 lo, .int .i64 hi, .int .i64 F] w fun e w' => e = .returned (.tuple #[]) ∧ RowIs w g off d (siftDown ltN hi F lo d) w' := by
  have HN : Hid (d.size = len) := hlen
  have HH : Hid (Holds u32e w g off d) := hH
  have r0 := RowIs.start hH hg
  clear hH hlen
  go_enter Tryz.func105, Tryz.ntmps105
  go_wp2
  go_loopw [8] (fun v W => ∃ (root : Nat) (dk : Array Nat), v = .int .i64 root ∧ root ≤ hi ∧ RowIs w g off d dk W ∧ siftDown ltN hi F root dk = siftDown ltN hi F lo d) (fun v _ => hi - (intOf v).toNat)
  case atStart => exact ⟨lo, d, rfl, hlo, r0, rfl⟩
  case round =>
    obtain ⟨root, dk, rfl, hr, hR, hO⟩ := hrel
    have HO : Hid (siftDown ltN hi F root dk = siftDown ltN hi F lo d) := hO
    obtain ⟨G, hG⟩ : ∃ G : Nat → Nat, ∀ t, G t = dk[t]! := ⟨fun t => dk[t]!, fun _ => rfl⟩
    have CW : Hid (∀ W, RowIs w g off d dk W → (∀ t, t < len → W.cell? ⟨g, off + t, none⟩ = some (.int .u32 (G t : Int))) ∧ ∀ t, t < len → W.frozen? ⟨g, off + t, none⟩ = false) := fun W hW =>
      ⟨fun t ht => by rw [hG]; exact hW.cell HH.out t (by rw [HN.out]; exact ht), fun t ht => hW.frozen HH.out t (by rw [HN.out]; exact ht)⟩
    have HG : Hid (∀ t, G t = dk[t]!) := hG
    have HR : Hid (RowIs w g off d dk wr) := hR
    clear hO hG r0 hR
    -- the hole goes to c, whose number is greater
    have DOWN : Hid (∀ c, c ≤ hi → F + c < len → F + root < len → siftDown ltN hi F root dk = siftDown ltN hi F c (swp dk (F + root) (F + c)) → ∀ W, RowIs w g off d dk W →
        RowIs w g off d (swp dk (F + root) (F + c)) ((W.setCell ⟨g, off + (F + root), none⟩ (.int .u32 (G (F + c) : Int))).setCell ⟨g, off + (F + c), none⟩ (.int .u32 (G (F + root) : Int))) ∧ siftDown ltN hi F c (swp dk (F + root) (F + c)) = siftDown ltN hi F lo d) := fun c hc h1 h2 h3 W hW =>
      ⟨by rw [HG.out, HG.out]; exact hW.swap (by rw [HN.out]; omega) (by rw [HN.out]; omega), h3.symm.trans HO.out⟩
    obtain ⟨cw, fw⟩ := CW.out _ HR.out
    by_cases h0 : hi ≤ 2 * root + 1
    · have h0z : (hi : Int) ≤ 2 * (root : Int) + 1 := by omega
      go_wp2
      go_end0
      exact ⟨rfl, by rw [← HO.out, sd_end ltN dk h0]; exact HR.out⟩
    · have h0z : ¬ ((hi : Int) ≤ 2 * (root : Int) + 1) := by omega
      by_cases h1 : 2 * root + 2 < hi
      · have h1z : 2 * (root : Int) + 1 + 1 < (hi : Int) := by omega
        go_wp2_with fail
        go_big_quiet (first | (go_at_call 99; refine Calls.quiet_of_same (less_u32 _ _ _)))
        go_wp2_with fail
        · have hL : ltN (G (F + 2 * root + 1)) (G (F + 2 * root + 2)) = true := by assumption
          rw [HG.out, HG.out] at hL
          revert nq; intro nq1
          have RN : RowIs w g off d dk (wr.drewN nq1) := HR.out.drew nq1
          clear cw fw HR
          generalize wr.drewN nq1 = wr2 at RN ⊢
          obtain ⟨cw, fw⟩ := CW.out _ RN
          have HR : Hid (RowIs w g off d dk wr2) := RN
          clear RN
          go_big_quiet (first | (go_at_call 99; refine Calls.quiet_of_same (less_u32 _ _ _)))
          go_wp2_with fail
          · have hS : ltN (G (F + root)) (G (F + 2 * root + 2)) = false := by
              have : (!ltN (G (F + root)) (G (F + 2 * root + 2))) = true := by assumption
              simpa using this
            rw [HG.out, HG.out] at hS
            try simp only [Exit.inBlock, Exit.then]
            refine bodyPost_ret (results_none rfl _ _ _) rfl ?_
            refine ⟨rfl, ?_⟩
            rw [← HO.out, sd_right_stop ltN dk h1 hL hS]
            exact HR.out.drew nq
          · have hS : ltN (G (F + root)) (G (F + 2 * root + 2)) = true := by
              have : (!ltN (G (F + root)) (G (F + 2 * root + 2))) = false := by assumption
              simpa using this
            rw [HG.out, HG.out] at hS
            have RN : RowIs w g off d dk (wr2.drewN nq) := HR.out.drew nq
            clear cw fw HR
            generalize wr2.drewN nq = wr3 at RN ⊢
            obtain ⟨cw, fw⟩ := CW.out _ RN
            have HR : Hid (RowIs w g off d dk wr3) := RN
            obtain ⟨k1, k2⟩ := DOWN.out (2 * root + 2) (by omega) (by omega) (by omega) (sd_right_go ltN dk h1 hL hS) wr3 RN
            have K1 : Hid _ := k1
            have K2 : Hid _ := k2
            clear RN k1 k2 hS
            go_region
            go_wp2
            go_roundw
            case rel => exact ⟨2 * root + 2, swp dk (F + root) (F + (2 * root + 2)), by go_num, by omega, K1.out.drew 1, K2.out⟩
            case measure => simp [intOf]; omega
        · have hL : ltN (G (F + 2 * root + 1)) (G (F + 2 * root + 2)) = false := by assumption
          rw [HG.out, HG.out] at hL
          revert nq; intro nq1
          have RN : RowIs w g off d dk (wr.drewN nq1) := HR.out.drew nq1
          clear cw fw HR
          generalize wr.drewN nq1 = wr2 at RN ⊢
          obtain ⟨cw, fw⟩ := CW.out _ RN
          have HR : Hid (RowIs w g off d dk wr2) := RN
          clear RN
          go_big_quiet (first | (go_at_call 99; refine Calls.quiet_of_same (less_u32 _ _ _)))
          go_wp2_with fail
          · have hS : ltN (G (F + root)) (G (F + 2 * root + 1)) = false := by
              have : (!ltN (G (F + root)) (G (F + 2 * root + 1))) = true := by assumption
              simpa using this
            rw [HG.out, HG.out] at hS
            try simp only [Exit.inBlock, Exit.then]
            refine bodyPost_ret (results_none rfl _ _ _) rfl ?_
            refine ⟨rfl, ?_⟩
            rw [← HO.out, sd_left_stop ltN dk (by omega) (fun _ => hL) hS]
            exact HR.out.drew nq
          · have hS : ltN (G (F + root)) (G (F + 2 * root + 1)) = true := by
              have : (!ltN (G (F + root)) (G (F + 2 * root + 1))) = false := by assumption
              simpa using this
            rw [HG.out, HG.out] at hS
            have RN : RowIs w g off d dk (wr2.drewN nq) := HR.out.drew nq
            clear cw fw HR
            generalize wr2.drewN nq = wr3 at RN ⊢
            obtain ⟨cw, fw⟩ := CW.out _ RN
            have HR : Hid (RowIs w g off d dk wr3) := RN
            obtain ⟨k1, k2⟩ := DOWN.out (2 * root + 1) (by omega) (by omega) (by omega) (sd_left_go ltN dk (by omega) (fun _ => hL) hS) wr3 RN
            have K1 : Hid _ := k1
            have K2 : Hid _ := k2
            clear RN k1 k2 hS
            go_region
            go_wp2
            go_roundw
            case rel => exact ⟨2 * root + 1, swp dk (F + root) (F + (2 * root + 1)), by go_num, by omega, K1.out.drew 1, K2.out⟩
            case measure => simp [intOf]; omega
      · have h1z : decide (2 * (root : Int) + 1 + 1 < (hi : Int)) = false := decide_eq_false (by omega)
        go_wp2_with fail
        go_big_quiet (first | (go_at_call 99; refine Calls.quiet_of_same (less_u32 _ _ _)))
        go_wp2_with fail
        revert nq; intro nq1
        have RN : RowIs w g off d dk (wr.drewN nq1) := HR.out.drew nq1
        clear cw fw HR
        generalize wr.drewN nq1 = wr2 at RN ⊢
        obtain ⟨cw, fw⟩ := CW.out _ RN
        have HR : Hid (RowIs w g off d dk wr2) := RN
        clear RN
        go_big_quiet (first | (go_at_call 99; refine Calls.quiet_of_same (less_u32 _ _ _)))
        go_wp2_with fail
        · have hS : ltN (G (F + root)) (G (F + 2 * root + 1)) = false := by
            have : (!ltN (G (F + root)) (G (F + 2 * root + 1))) = true := by assumption
            simpa using this
          rw [HG.out, HG.out] at hS
          try simp only [Exit.inBlock, Exit.then]
          refine bodyPost_ret (results_none rfl _ _ _) rfl ?_
          refine ⟨rfl, ?_⟩
          rw [← HO.out, sd_left_stop ltN dk (by omega) (fun h => absurd h h1) hS]
          exact HR.out.drew nq
        · have hS : ltN (G (F + root)) (G (F + 2 * root + 1)) = true := by
            have : (!ltN (G (F + root)) (G (F + 2 * root + 1))) = false := by assumption
            simpa using this
          rw [HG.out, HG.out] at hS
          have RN : RowIs w g off d dk (wr2.drewN nq) := HR.out.drew nq
          clear cw fw HR
          generalize wr2.drewN nq = wr3 at RN ⊢
          obtain ⟨cw, fw⟩ := CW.out _ RN
          have HR : Hid (RowIs w g off d dk wr3) := RN
          obtain ⟨k1, k2⟩ := DOWN.out (2 * root + 1) (by omega) (by omega) (by omega) (sd_left_go ltN dk (by omega) (fun h => absurd h h1) hS) wr3 RN
          have K1 : Hid _ := k1
          have K2 : Hid _ := k2
          clear RN k1 k2 hS
          go_region
          go_wp2
          go_roundw
          case rel => exact ⟨2 * root + 1, swp dk (F + root) (F + (2 * root + 1)), by go_num, by omega, K1.out.drew 1, K2.out⟩
          case measure => simp [intOf]; omega

set_option maxHeartbeats 2000000 in
set_option maxRecDepth 1000000 in
theorem heapSort_ok (g off cap a b len : Nat) (d : Array Nat) (w : World) (hlen : d.size = len) (hH : Holds u32e w g off d) (hg : g < w.heap.size) (hab : a ≤ b) (hb : b ≤ len) (hsz : len < 4611686018427387904) :
    Calls Tryz.prog 94 #[.slice (some ⟨g, off, none⟩) len cap, .int .i64 a, .int .i64 b] w fun e w' => e = .returned (.tuple #[]) ∧ RowIs w g off d (heapSort ltN d a b) w' := by
  have HN : Hid (d.size = len) := hlen
  have HH : Hid (Holds u32e w g off d) := hH
  have r0 := RowIs.start hH hg
  have SIFT : Hid (∀ (dk : Array Nat) W, RowIs w g off d dk W → ∀ lo hi, lo ≤ hi → a + hi ≤ len → Calls Tryz.prog 105 #[.slice (some ⟨g, off, none⟩) len cap, .int .i64 lo, .int .i64 hi, .int .i64 a] W fun e w' => e = .returned (.tuple #[]) ∧ RowIs w g off d (siftDown ltN hi a lo dk) w') := fun dk W hR lo hi h1 h2 =>
    (siftDown_ok g off cap lo hi a len dk W (by rw [hR.size]; exact hlen) (hR.holds hH) (Nat.lt_of_lt_of_le hg hR.ge) h1 h2 hsz).mono fun e w' ⟨k1, k2⟩ => ⟨k1, hR.trans k2⟩
  have ecast : Hid (((b - a : Nat) : Int) = (b : Int) - (a : Int)) := by show _ = _; omega
  have HS : Hid (((b : Int) - (a : Int) - 1).tdiv 2 = (((b - a - 1) / 2 + 1 : Nat) : Int) - 1) := half_start hab
  clear hH hlen
  go_enter Tryz.func94, Tryz.ntmps94
  go_wp2
  go_loopw [9] (fun v W => ∃ (z : Int) (k : Nat) (dk : Array Nat), v = .int .i64 z ∧ Hid (z = (k : Int) - 1) ∧ k ≤ (b - a - 1) / 2 + 1 ∧ RowIs w g off d dk W ∧ heapBuild ltN (b - a) a k dk = heapBuild ltN (b - a) a ((b - a - 1) / 2 + 1) d) (fun v _ => (intOf v + 1).toNat)
  case atStart => exact ⟨_, _, d, by rfl, HS.out, Nat.le_refl _, r0, rfl⟩
  case round =>
    obtain ⟨z, k, dk, rfl, hz, hk, hR, hO⟩ := hrel
    have hz0 := hz.out
    have HO : Hid (heapBuild ltN (b - a) a k dk = heapBuild ltN (b - a) a ((b - a - 1) / 2 + 1) d) := hO
    clear hO
    cases k with
    | zero =>
      have i1 : ¬ 0 ≤ z := by simp at hz0; omega
      clear hz0
      have hB : Hid (dk = heapBuild ltN (b - a) a ((b - a - 1) / 2 + 1) d) := HO.out
      go_wp2
      go_loopw [10] (fun v W => ∃ (z : Int) (k : Nat) (dj : Array Nat), v = .int .i64 z ∧ Hid (z = (k : Int) - 1) ∧ k ≤ b - a ∧ RowIs w g off d dj W ∧ heapPop ltN a k dj = heapPop ltN a (b - a) dk) (fun v _ => (intOf v + 1).toNat)
      case atStart => exact ⟨_, b - a, dk, by rfl, (by show _ = _; rw [ecast.out]), Nat.le_refl _, hR, rfl⟩
      case round =>
        obtain ⟨y, k, dj, rfl, hy, hk2, hRj, hO2⟩ := hrel
        have hy0 := hy.out
        have HO2 : Hid (heapPop ltN a k dj = heapPop ltN a (b - a) dk) := hO2
        clear hO2 hR
        cases k with
        | zero =>
          have i2 : ¬ 0 ≤ y := by simp at hy0; omega
          clear hy0
          go_wp2
          go_end0
          refine ⟨rfl, ?_⟩
          have e : dj = heapSort ltN d a b := by rw [heapSort, ← hB.out, ← HO2.out]; rfl
          rw [← e]
          exact hRj
        | succ k =>
          obtain rfl : y = (k : Int) := by simp at hy0; omega
          clear hy0
          obtain ⟨G, hG⟩ : ∃ G : Nat → Nat, ∀ t, G t = dj[t]! := ⟨fun t => dj[t]!, fun _ => rfl⟩
          have cw : ∀ t, t < len → wr.cell? ⟨g, off + t, none⟩ = some (.int .u32 (G t : Int)) := fun t ht => by rw [hG]; exact hRj.cell HH.out t (by rw [HN.out]; exact ht)
          have fw : ∀ t, t < len → wr.frozen? ⟨g, off + t, none⟩ = false := fun t ht => hRj.frozen HH.out t (by rw [HN.out]; exact ht)
          have SW : Hid (RowIs w g off d (swp dj a (a + k)) ((wr.setCell ⟨g, off + a, none⟩ (.int .u32 (G (a + k) : Int))).setCell ⟨g, off + (a + k), none⟩ (.int .u32 (G a : Int))).drew) := by
            show RowIs _ _ _ _ _ _
            rw [hG, hG]
            exact (hRj.swap (j := a) (k := a + k) (by rw [HN.out]; omega) (by rw [HN.out]; omega)).drew 1
          clear hG hRj
          rcases Nat.eq_zero_or_pos k with hk0 | hkp
          · subst hk0
            have kc := SIFT.out _ _ SW.out 0 0 (Nat.le_refl _) (by omega)
            simp only [Nat.add_zero] at kc
            go_wp2_with fail
            go_region
            go_wp2_with fail
            refine kc.mono ?_
            rintro e w1 ⟨rfl, hR1⟩
            go_wp2
            go_roundw
            case rel => exact ⟨_, 0, _, by rfl, (by show _ = _; simp), by omega, hR1, HO2.out⟩
            case measure => (simp [intOf]; try omega)
          · have kc := SIFT.out _ _ SW.out 0 k (Nat.zero_le _) (by omega)
            go_wp2_with fail
            go_region
            go_wp2_with fail
            refine kc.mono ?_
            rintro e w1 ⟨rfl, hR1⟩
            go_wp2
            go_roundw
            case rel => exact ⟨_, k, _, by rfl, rfl, by omega, hR1, HO2.out⟩
            case measure => (simp [intOf]; try omega)
    | succ k =>
      obtain rfl : z = (k : Int) := by simp at hz0; omega
      clear hz0
      have kc := SIFT.out _ _ hR k (b - a) (by omega) (by omega)
      rw [ecast.out] at kc
      clear hR
      go_wp2_with fail
      refine kc.mono ?_
      rintro e w1 ⟨rfl, hR1⟩
      go_wp2
      go_roundw
      case rel => exact ⟨_, k, _, by rfl, rfl, by omega, hR1, HO.out⟩
      case measure => (simp [intOf]; try omega)
end Go.Proofs.YtboinccdnaddmaaGreatDoor
