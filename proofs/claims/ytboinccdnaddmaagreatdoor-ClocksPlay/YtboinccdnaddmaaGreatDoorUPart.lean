/- The walks of partitionOrdered and partitionEqualOrdered at uint32. -/
import Derived.Test.YtboinccdnaddmaaGreatDoorUBase
import Derived.Deep.CutBlock
set_option linter.unusedSimpArgs false
set_option linter.unusedVariables false
namespace Go.Proofs.YtboinccdnaddmaaGreatDoor
open Go.RowKit Go.Sort

/-- Under way: p at a, what lies behind it up to i is low, what lies from behind j on is not. -/
structure PartI (Lo : Nat → Prop) (d : Array Nat) (a b p i j : Nat) (dk : Array Nat) : Prop where
  perm : PermIn a b d dk
  bd : b ≤ d.size
  at_ : dk[a]! = p
  lo : ∀ k, a < k → k < i → Lo dk[k]!
  hi : ∀ k, j < k → k < b → ¬ Lo dk[k]!
  ai : a < i
  ij : i ≤ j + 1
  jb : j < b
section
variable {Lo : Nat → Prop} {d dk : Array Nat} {a b p i j : Nat}
theorem PartI.up (h : PartI Lo d a b p i j dk) (hij : i ≤ j) (hl : Lo dk[i]!) : PartI Lo d a b p (i + 1) j dk :=
  ⟨h.perm, h.bd, h.at_, fun k h1 h2 => by
    by_cases e : k = i
    · subst e; exact hl
    · exact h.lo k h1 (by omega), h.hi, Nat.lt_succ_of_lt h.ai, by omega, h.jb⟩
theorem PartI.down (h : PartI Lo d a b p i j dk) (hij : i ≤ j) (hl : ¬ Lo dk[j]!) : PartI Lo d a b p i (j - 1) dk :=
  ⟨h.perm, h.bd, h.at_, h.lo, fun k h1 h2 => by
    by_cases e : k = j
    · subst e; exact hl
    · exact h.hi k (by omega) h2, h.ai, by have := h.ai; omega, by have := h.jb; omega⟩
theorem PartI.swap (h : PartI Lo d a b p i j dk) (hij : i ≤ j) (h1 : ¬ Lo dk[i]!) (h2 : Lo dk[j]!) : i < j ∧ PartI Lo d a b p (i + 1) (j - 1) (swp dk i j) := by
  have hne : i ≠ j := fun e => h1 (by rw [e]; exact h2)
  have hs : dk.size = d.size := h.perm.1
  have hai := h.ai
  have hjb := h.jb
  have hbd := h.bd
  refine ⟨by omega, permIn_trans _ _ _ _ _ h.perm (swp_permIn _ _ _ _ _ (by omega) (by omega) (by omega) hjb (by omega)), hbd, ?_, fun k k1 k2 => ?_, fun k k1 k2 => ?_, by omega, by omega, by omega⟩
  · rw [swp_other _ _ _ _ (by omega) (by omega)]; exact h.at_
  · by_cases e : k = i
    · subst e; rw [swp_left _ _ _ (by omega) hne]; exact h2
    · rw [swp_other _ _ _ _ e (by omega)]; exact h.lo k k1 (by omega)
  · by_cases e : k = j
    · subst e; rw [swp_right _ _ _ (by omega)]; exact h1
    · rw [swp_other _ _ _ _ (by omega) e]; exact h.hi k (by omega) k2
end

theorem swp_first (d : Array Nat) {a b : Nat} (ha : a < d.size) (hb : b < d.size) : (swp d a b)[a]! = d[b]! := by
  by_cases e : a = b
  · subst e; rw [swp_right _ _ _ ha]
  · exact swp_left _ _ _ ha e
theorem PartI.final {d dk : Array Nat} {a b p i j : Nat} {Lo : Nat → Prop} (h : PartI Lo d a b p i j dk) (hL : Lo = fun x => ltN x p = true) (hij : i = j + 1) :
    PermIn a b d (swp dk j a) ∧ a ≤ j ∧ j < b ∧ (∀ k, a ≤ k → k < j → (swp dk j a)[k]! < (swp dk j a)[j]!) ∧ ∀ k, j < k → k < b → (swp dk j a)[j]! ≤ (swp dk j a)[k]! := by
  have hs : dk.size = d.size := h.perm.1
  have hai := h.ai
  have hjb := h.jb
  have hbd := h.bd
  have hj : (swp dk j a)[j]! = p := by rw [swp_first _ (by omega) (by omega)]; exact h.at_
  refine ⟨permIn_trans _ _ _ _ _ h.perm (swp_permIn _ _ _ _ _ (by omega) hjb (Nat.le_refl _) (by omega) (by omega)), by omega, hjb, fun k k1 k2 => ?_, fun k k1 k2 => ?_⟩
  · rw [hj]
    by_cases e : k = a
    · subst e
      rw [swp_right _ _ _ (by omega)]
      have := h.lo j (by omega) (by omega)
      rw [hL] at this
      simpa [ltN] using this
    · rw [swp_other _ _ _ _ (by omega) e]
      have := h.lo k (by omega) (by omega)
      rw [hL] at this
      simpa [ltN] using this
  · rw [hj, swp_other _ _ _ _ (by omega) (by omega)]
    have := h.hi k k1 k2
    rw [hL] at this
    simpa [ltN] using this

set_option maxHeartbeats 4000000 in
set_option maxRecDepth 1000000 in
theorem partition_ok (g off cap a b pv len : Nat) (d : Array Nat) (w : World) (hlen : d.size = len) (hH : Holds u32e w g off d) (hg : g < w.heap.size) (h1 : a ≤ pv) (h2 : pv < b) (hb : b ≤ len) (hsz : len < 4611686018427387904) :
    Calls Tryz.prog 101 #[.slice (some ⟨g, off, none⟩) len cap, .int .i64 a, .int .i64 b, .int .i64 pv] w fun e w' => ∃ (mid : Nat) (t : Bool) (d' : Array Nat), e = .returned (.tuple #[.int .i64 (mid : Int), .bool t]) ∧ RowIs w g off d d' w' ∧ PermIn a b d d' ∧ a ≤ mid ∧ mid < b ∧ (∀ k, a ≤ k → k < mid → d'[k]! < d'[mid]!) ∧ ∀ k, mid < k → k < b → d'[mid]! ≤ d'[k]! := by
  have HN : Hid (d.size = len) := hlen
  have HH : Hid (Holds u32e w g off d) := hH
  have r0 := RowIs.start hH hg
  obtain ⟨G, hG⟩ : ∃ G : Nat → Nat, ∀ t, G t = d[t]! := ⟨fun t => d[t]!, fun _ => rfl⟩
  have cw : ∀ t, t < len → w.cell? ⟨g, off + t, none⟩ = some (.int .u32 (G t : Int)) := fun t ht => by rw [hG]; exact r0.cell hH t (by rw [hlen]; exact ht)
  have fw : ∀ t, t < len → w.frozen? ⟨g, off + t, none⟩ = false := fun t ht => r0.frozen hH t (by rw [hlen]; exact ht)
  have SW : Hid (RowIs w g off d (swp d a pv) ((w.setCell ⟨g, off + a, none⟩ (.int .u32 (G pv : Int))).setCell ⟨g, off + pv, none⟩ (.int .u32 (G a : Int))).drew) := by
    show RowIs _ _ _ _ _ _
    rw [hG, hG]
    exact (r0.swap (j := a) (k := pv) (by omega) (by omega)).drew 1
  obtain ⟨p, hp⟩ : ∃ p, p = (swp d a pv)[a]! := ⟨_, rfl⟩
  have EP : Hid (p = d[pv]!) := hp.trans (swp_first d (by omega) (by omega))
  obtain ⟨Lo, hLo⟩ : ∃ Lo : Nat → Prop, Lo = fun x => ltN x p = true := ⟨_, rfl⟩
  have PI : Hid (PartI Lo d a b p (a + 1) (b - 1) (swp d a pv)) := ⟨swp_permIn _ _ _ _ _ (Nat.le_refl _) (by omega) h1 h2 (by omega), by omega, hp.symm, fun k k1 k2 => by omega, fun k k1 k2 => by omega, by omega, by omega, by omega⟩
  have HL : Hid (Lo = fun x => ltN x p = true) := hLo
  have LOW : Hid (∀ x, Lo x = (ltN x p = true)) := fun x => by rw [hLo]
  clear hH hlen hG hp hLo r0
  go_enter Tryz.func101, Tryz.ntmps101
  go_upto_region 1 with fail
  go_cut [] from 12 (fun W => RowIs w g off d (swp d a pv) W)
  case first =>
    by_cases e : a = pv
    all_goals
      go_wp2_with fail
      go_region
      go_wp2_with fail
      go_meet
      case rel => first | exact SW.out | (have hq := SW.out; rw [← e] at hq ⊢; exact hq)
  case rest =>
    have hR : Hid (RowIs w g off d (swp d a pv) wc) := hcut
    clear hcut cw fw SW
    obtain ⟨dk, hdk⟩ : ∃ dk, dk = swp d a pv := ⟨_, rfl⟩
    obtain ⟨j, hj⟩ : ∃ j, j = b - 1 := ⟨_, rfl⟩
    have P : Hid (PartI Lo d a b p (a + 1) j dk) := by rw [hdk, hj]; exact PI.out
    rw [← hdk] at hR
    have EJ : Hid ((b : Int) - 1 = (j : Int)) := by show _ = _; omega
    clear hdk hj PI
    go_upto_block 0 with fail
    rw [EJ.out]
    obtain ⟨i, hi⟩ : ∃ i, i = a + 1 := ⟨_, rfl⟩
    rw [show (a : Int) + 1 = (i : Int) by omega]
    rw [← hi] at P
    clear hi EJ
    obtain ⟨I, hI⟩ : ∃ I, I = i := ⟨_, rfl⟩
    have HI : Hid (I ≤ i) := by show _ ≤ _; omega
    have HIe : Hid (I = i) := hI
    clear hI
    go_cut [10] from 12 (fun v W => ∃ i : Nat, v = .int .i64 i ∧ I ≤ i ∧ PartI Lo d a b p i j dk ∧ (j < i ∨ ¬ Lo dk[i]!) ∧ RowIs w g off d dk W)
    case first =>
      go_wp2
      go_loopw [10] (fun v W => ∃ i : Nat, v = .int .i64 i ∧ I ≤ i ∧ PartI Lo d a b p i j dk ∧ RowIs w g off d dk W) (fun v _ => j + 1 - (intOf v).toNat)
      case atStart => exact ⟨_, rfl, HI.out, P.out, hR.out⟩
      case round =>
        obtain ⟨i, rfl, hI, P, hR⟩ := hrel
        obtain ⟨G, hG⟩ : ∃ G : Nat → Nat, ∀ t, G t = dk[t]! := ⟨fun t => dk[t]!, fun _ => rfl⟩
        have cw : ∀ t, t < len → wr.cell? ⟨g, off + t, none⟩ = some (.int .u32 (G t : Int)) := fun t ht => by rw [hG]; exact hR.cell HH.out t (by rw [HN.out]; exact ht)
        have HA : Hid (G a = p) := by show _ = _; rw [hG]; exact P.at_
        have HG : Hid (∀ t, G t = dk[t]!) := hG
        have hai := P.ai
        have hij := P.ij
        have hjb := P.jb
        have HP : Hid (PartI Lo d a b p i j dk) := P
        have HR : Hid (RowIs w g off d dk wr) := hR
        clear hG P hR
        go_wp2
        by_cases hle : i ≤ j
        · go_quiet (first | (go_at_call 99; refine Calls.quiet_of_same (less_u32 _ _ _)))
          go_wp2
          · have hl : ltN (G i) (G a) = true := by assumption
            have hL : Lo dk[i]! := by rw [LOW.out, ← HG.out i, ← HA.out]; first | exact hl | simp [hl]
            go_roundw
            case rel => exact ⟨i + 1, by go_num, (by omega), HP.out.up hle hL, HR.out.drew nq⟩
            case measure => (simp [intOf]; try omega)
          · have hl : ltN (G i) (G a) = false := by assumption
            have hL : ¬ Lo dk[i]! := by rw [LOW.out, ← HG.out i, ← HA.out]; first | exact hl | simp [hl]
            go_meet
            case rel => exact ⟨i, rfl, (by omega), HP.out, .inr hL, HR.out.drew nq⟩
        · go_quiet (first | (go_at_call 99; refine Calls.quiet_of_same (less_u32 _ _ _)))
          go_wp2
          go_meet
          case rel => exact ⟨i, rfl, (by omega), HP.out, .inl (by omega), HR.out.drew nq⟩
    case rest =>
      obtain ⟨i, rfl, hI, P0, S10, hR0⟩ := hcut
      have P : Hid (PartI Lo d a b p i j dk) := P0
      have HI2 : Hid (I ≤ i) := hI
      clear hI
      have S1 : Hid (j < i ∨ ¬ Lo dk[i]!) := S10
      have hR : Hid (RowIs w g off d dk wc) := hR0
      clear P0 S10 hR0
      go_upto_block 2 with fail
      obtain ⟨J, hJ⟩ : ∃ J, J = j := ⟨_, rfl⟩
      have HJ : Hid (j ≤ J) := by show _ ≤ _; omega
      have S1J : Hid (J < i ∨ ¬ Lo dk[i]!) := by rw [hJ]; exact S1.out
      have HJe : Hid (J = j) := hJ
      clear hJ S1
      go_cut [11] from 12 (fun v W => ∃ j : Nat, v = .int .i64 j ∧ j ≤ J ∧ PartI Lo d a b p i j dk ∧ (j < i ∨ Lo dk[j]!) ∧ RowIs w g off d dk W)
      case first =>
        go_wp2
        go_loopw [11] (fun v W => ∃ j : Nat, v = .int .i64 j ∧ j ≤ J ∧ PartI Lo d a b p i j dk ∧ RowIs w g off d dk W) (fun v _ => (intOf v).toNat)
        case atStart => exact ⟨_, rfl, HJ.out, P.out, hR.out⟩
        case round =>
          obtain ⟨j, rfl, hJ, P, hR⟩ := hrel
          obtain ⟨G, hG⟩ : ∃ G : Nat → Nat, ∀ t, G t = dk[t]! := ⟨fun t => dk[t]!, fun _ => rfl⟩
          have cw : ∀ t, t < len → wr.cell? ⟨g, off + t, none⟩ = some (.int .u32 (G t : Int)) := fun t ht => by rw [hG]; exact hR.cell HH.out t (by rw [HN.out]; exact ht)
          have HA : Hid (G a = p) := by show _ = _; rw [hG]; exact P.at_
          have HG : Hid (∀ t, G t = dk[t]!) := hG
          have hai := P.ai
          have hij := P.ij
          have hjb := P.jb
          have HP : Hid (PartI Lo d a b p i j dk) := P
          have HR : Hid (RowIs w g off d dk wr) := hR
          clear hG P hR
          go_wp2
          by_cases hle : i ≤ j
          · go_quiet (first | (go_at_call 99; refine Calls.quiet_of_same (less_u32 _ _ _)))
            go_wp2
            · have hl : ltN (G j) (G a) = false := by
                have : (!ltN (G j) (G a)) = true := by assumption
                simpa using this
              have hL : ¬ Lo dk[j]! := by rw [LOW.out, ← HG.out j, ← HA.out]; first | exact hl | simp [hl]
              go_roundw
              case rel => exact ⟨j - 1, by congr 1; omega, (by omega), HP.out.down hle hL, HR.out.drew nq⟩
              case measure => (simp [intOf]; try omega)
            · have hl : ltN (G j) (G a) = true := by
                have : (!ltN (G j) (G a)) = false := by assumption
                simpa using this
              have hL : Lo dk[j]! := by rw [LOW.out, ← HG.out j, ← HA.out]; first | exact hl | simp [hl]
              go_meet
              case rel => exact ⟨j, rfl, (by omega), HP.out, .inr hL, HR.out.drew nq⟩
          · go_quiet (first | (go_at_call 99; refine Calls.quiet_of_same (less_u32 _ _ _)))
            go_wp2
            go_meet
            case rel => exact ⟨j, rfl, (by omega), HP.out, .inl (by omega), HR.out.drew nq⟩
      case rest =>
        obtain ⟨j, rfl, hJ, P0, S20, hR0⟩ := hcut
        have P : Hid (PartI Lo d a b p i j dk) := P0
        have HJ2 : Hid (j ≤ J) := hJ
        clear hJ
        have S2 : Hid (j < i ∨ Lo dk[j]!) := S20
        have hR : Hid (RowIs w g off d dk wc) := hR0
        clear P0 S20 hR0
        go_wp2_with fail
        · have hgt : j < i := by omega
          obtain ⟨G, hG⟩ : ∃ G : Nat → Nat, ∀ t, G t = dk[t]! := ⟨fun t => dk[t]!, fun _ => rfl⟩
          have cw : ∀ t, t < len → wc.cell? ⟨g, off + t, none⟩ = some (.int .u32 (G t : Int)) := fun t ht => by rw [hG]; exact hR.out.cell HH.out t (by rw [HN.out]; exact ht)
          have fw : ∀ t, t < len → wc.frozen? ⟨g, off + t, none⟩ = false := fun t ht => hR.out.frozen HH.out t (by rw [HN.out]; exact ht)
          have hai := P.out.ai
          have hij := P.out.ij
          have hjb := P.out.jb
          have hgt : i = j + 1 := by omega
          have SW : Hid (RowIs w g off d (swp dk j a) ((wc.setCell ⟨g, off + j, none⟩ (.int .u32 (G a : Int))).setCell ⟨g, off + a, none⟩ (.int .u32 (G j : Int))).drew) := by
            show RowIs _ _ _ _ _ _
            rw [hG, hG]
            exact (hR.out.swap (j := j) (k := a) (by rw [HN.out]; omega) (by rw [HN.out]; omega)).drew 1
          have F : Hid (PermIn a b d (swp dk j a) ∧ a ≤ j ∧ j < b ∧ (∀ k, a ≤ k → k < j → (swp dk j a)[k]! < (swp dk j a)[j]!) ∧ ∀ k, j < k → k < b → (swp dk j a)[j]! ≤ (swp dk j a)[k]!) := P.out.final HL.out hgt
          clear hG hR P S1J S2 hgt hij hai
          by_cases e : j = a
          all_goals
            go_region
            go_wp2
            go_ret2
            exact ⟨j, true, swp dk j a, by first | rfl | (rw [e]; rfl), by first | exact SW.out | (have hq := SW.out; rw [e] at hq ⊢; exact hq), F.out⟩
        · have hng : ¬ j < i := by omega
          obtain ⟨G, hG⟩ : ∃ G : Nat → Nat, ∀ t, G t = dk[t]! := ⟨fun t => dk[t]!, fun _ => rfl⟩
          have cw : ∀ t, t < len → wc.cell? ⟨g, off + t, none⟩ = some (.int .u32 (G t : Int)) := fun t ht => by rw [hG]; exact hR.out.cell HH.out t (by rw [HN.out]; exact ht)
          have fw : ∀ t, t < len → wc.frozen? ⟨g, off + t, none⟩ = false := fun t ht => hR.out.frozen HH.out t (by rw [HN.out]; exact ht)
          have hai := P.out.ai
          have hij := P.out.ij
          have hjb := P.out.jb
          have hle : i ≤ j := by omega
          have SW : Hid (RowIs w g off d (swp dk i j) ((wc.setCell ⟨g, off + i, none⟩ (.int .u32 (G j : Int))).setCell ⟨g, off + j, none⟩ (.int .u32 (G i : Int))).drew) := by
            show RowIs _ _ _ _ _ _
            rw [hG, hG]
            exact (hR.out.swap (j := i) (k := j) (by rw [HN.out]; omega) (by rw [HN.out]; omega)).drew 1
          obtain ⟨hlt, PS0⟩ := P.out.swap hle (S1J.out.resolve_left (by have := HJ2.out; omega)) (S2.out.resolve_left (by omega))
          have PS : Hid (PartI Lo d a b p (i + 1) (j - 1) (swp dk i j)) := PS0
          have ej : Hid ((j : Int) - 1 = ((j - 1 : Nat) : Int)) := by show _ = _; omega
          clear hG PS0 hR P S1J S2
          go_region
          go_wp2_with fail
          rw [ej.out]
          try rw [show (i : Int) + 1 = ((i + 1 : Nat) : Int) by omega]
          go_loopw [10, 11] (fun v u W => ∃ (i j : Nat) (dk : Array Nat), v = .int .i64 i ∧ u = .int .i64 j ∧ PartI Lo d a b p i j dk ∧ RowIs w g off d dk W) (fun v u _ => (intOf u + 1 - intOf v).toNat)
          case atStart => exact ⟨i + 1, j - 1, _, by rfl, by rfl, PS.out, SW.out⟩
          case round =>
            obtain ⟨i, j, dk, rfl, rfl, P0, hR0⟩ := hrel
            have P : Hid (PartI Lo d a b p i j dk) := P0
            have hR : Hid (RowIs w g off d dk wr) := hR0
            have hm0 : i ≤ j + 1 := P0.ij
            obtain ⟨M, hM⟩ : ∃ M, M = j + 1 - i := ⟨_, rfl⟩
            have HM : Hid (j + 1 - i ≤ M) := by show _ ≤ _; omega
            clear hM
            clear P0 hR0
            go_upto_block 6 with fail
            obtain ⟨I, hI⟩ : ∃ I, I = i := ⟨_, rfl⟩
            have HI : Hid (I ≤ i) := by show _ ≤ _; omega
            have HIe : Hid (I = i) := hI
            clear hI
            go_cut [10] from 99 to 152 (fun v W => ∃ i : Nat, v = .int .i64 i ∧ I ≤ i ∧ PartI Lo d a b p i j dk ∧ (j < i ∨ ¬ Lo dk[i]!) ∧ RowIs w g off d dk W)
            case first =>
              go_wp2
              go_loopw [10] (fun v W => ∃ i : Nat, v = .int .i64 i ∧ I ≤ i ∧ PartI Lo d a b p i j dk ∧ RowIs w g off d dk W) (fun v _ => j + 1 - (intOf v).toNat)
              case atStart => exact ⟨_, rfl, HI.out, P.out, hR.out⟩
              case round =>
                obtain ⟨i, rfl, hI, P, hR⟩ := hrel
                obtain ⟨G, hG⟩ : ∃ G : Nat → Nat, ∀ t, G t = dk[t]! := ⟨fun t => dk[t]!, fun _ => rfl⟩
                have cw : ∀ t, t < len → wr.cell? ⟨g, off + t, none⟩ = some (.int .u32 (G t : Int)) := fun t ht => by rw [hG]; exact hR.cell HH.out t (by rw [HN.out]; exact ht)
                have HA : Hid (G a = p) := by show _ = _; rw [hG]; exact P.at_
                have HG : Hid (∀ t, G t = dk[t]!) := hG
                have hai := P.ai
                have hij := P.ij
                have hjb := P.jb
                have HP : Hid (PartI Lo d a b p i j dk) := P
                have HR : Hid (RowIs w g off d dk wr) := hR
                clear hG P hR
                go_wp2
                by_cases hle : i ≤ j
                · go_quiet (first | (go_at_call 99; refine Calls.quiet_of_same (less_u32 _ _ _)))
                  go_wp2
                  · have hl : ltN (G i) (G a) = true := by assumption
                    have hL : Lo dk[i]! := by rw [LOW.out, ← HG.out i, ← HA.out]; first | exact hl | simp [hl]
                    go_roundw
                    case rel => exact ⟨i + 1, by go_num, (by omega), HP.out.up hle hL, HR.out.drew nq⟩
                    case measure => (simp [intOf]; try omega)
                  · have hl : ltN (G i) (G a) = false := by assumption
                    have hL : ¬ Lo dk[i]! := by rw [LOW.out, ← HG.out i, ← HA.out]; first | exact hl | simp [hl]
                    go_meet
                    case rel => exact ⟨i, rfl, (by omega), HP.out, .inr hL, HR.out.drew nq⟩
                · go_quiet (first | (go_at_call 99; refine Calls.quiet_of_same (less_u32 _ _ _)))
                  go_wp2
                  go_meet
                  case rel => exact ⟨i, rfl, (by omega), HP.out, .inl (by omega), HR.out.drew nq⟩
            case rest =>
              obtain ⟨i, rfl, hI, P0, S10, hR0⟩ := hcut
              have P : Hid (PartI Lo d a b p i j dk) := P0
              have HI2 : Hid (I ≤ i) := hI
              clear hI
              have S1 : Hid (j < i ∨ ¬ Lo dk[i]!) := S10
              have hR : Hid (RowIs w g off d dk wc) := hR0
              clear P0 S10 hR0
              go_upto_block 8 with fail
              obtain ⟨J, hJ⟩ : ∃ J, J = j := ⟨_, rfl⟩
              have HJ : Hid (j ≤ J) := by show _ ≤ _; omega
              have S1J : Hid (J < i ∨ ¬ Lo dk[i]!) := by rw [hJ]; exact S1.out
              have HJe : Hid (J = j) := hJ
              clear hJ S1
              go_cut [11] from 99 to 152 (fun v W => ∃ j : Nat, v = .int .i64 j ∧ j ≤ J ∧ PartI Lo d a b p i j dk ∧ (j < i ∨ Lo dk[j]!) ∧ RowIs w g off d dk W)
              case first =>
                go_wp2
                go_loopw [11] (fun v W => ∃ j : Nat, v = .int .i64 j ∧ j ≤ J ∧ PartI Lo d a b p i j dk ∧ RowIs w g off d dk W) (fun v _ => (intOf v).toNat)
                case atStart => exact ⟨_, rfl, HJ.out, P.out, hR.out⟩
                case round =>
                  obtain ⟨j, rfl, hJ, P, hR⟩ := hrel
                  obtain ⟨G, hG⟩ : ∃ G : Nat → Nat, ∀ t, G t = dk[t]! := ⟨fun t => dk[t]!, fun _ => rfl⟩
                  have cw : ∀ t, t < len → wr.cell? ⟨g, off + t, none⟩ = some (.int .u32 (G t : Int)) := fun t ht => by rw [hG]; exact hR.cell HH.out t (by rw [HN.out]; exact ht)
                  have HA : Hid (G a = p) := by show _ = _; rw [hG]; exact P.at_
                  have HG : Hid (∀ t, G t = dk[t]!) := hG
                  have hai := P.ai
                  have hij := P.ij
                  have hjb := P.jb
                  have HP : Hid (PartI Lo d a b p i j dk) := P
                  have HR : Hid (RowIs w g off d dk wr) := hR
                  clear hG P hR
                  go_wp2
                  by_cases hle : i ≤ j
                  · go_quiet (first | (go_at_call 99; refine Calls.quiet_of_same (less_u32 _ _ _)))
                    go_wp2
                    · have hl : ltN (G j) (G a) = false := by
                        have : (!ltN (G j) (G a)) = true := by assumption
                        simpa using this
                      have hL : ¬ Lo dk[j]! := by rw [LOW.out, ← HG.out j, ← HA.out]; first | exact hl | simp [hl]
                      go_roundw
                      case rel => exact ⟨j - 1, by congr 1; omega, (by omega), HP.out.down hle hL, HR.out.drew nq⟩
                      case measure => (simp [intOf]; try omega)
                    · have hl : ltN (G j) (G a) = true := by
                        have : (!ltN (G j) (G a)) = false := by assumption
                        simpa using this
                      have hL : Lo dk[j]! := by rw [LOW.out, ← HG.out j, ← HA.out]; first | exact hl | simp [hl]
                      go_meet
                      case rel => exact ⟨j, rfl, (by omega), HP.out, .inr hL, HR.out.drew nq⟩
                  · go_quiet (first | (go_at_call 99; refine Calls.quiet_of_same (less_u32 _ _ _)))
                    go_wp2
                    go_meet
                    case rel => exact ⟨j, rfl, (by omega), HP.out, .inl (by omega), HR.out.drew nq⟩
              case rest =>
                obtain ⟨j, rfl, hJ, P0, S20, hR0⟩ := hcut
                have P : Hid (PartI Lo d a b p i j dk) := P0
                have HJ2 : Hid (j ≤ J) := hJ
                clear hJ
                have S2 : Hid (j < i ∨ Lo dk[j]!) := S20
                have hR : Hid (RowIs w g off d dk wc) := hR0
                clear P0 S20 hR0
                go_wp2_with fail
                · have hgt : j < i := by omega
                  obtain ⟨G, hG⟩ : ∃ G : Nat → Nat, ∀ t, G t = dk[t]! := ⟨fun t => dk[t]!, fun _ => rfl⟩
                  have cw : ∀ t, t < len → wc.cell? ⟨g, off + t, none⟩ = some (.int .u32 (G t : Int)) := fun t ht => by rw [hG]; exact hR.out.cell HH.out t (by rw [HN.out]; exact ht)
                  have fw : ∀ t, t < len → wc.frozen? ⟨g, off + t, none⟩ = false := fun t ht => hR.out.frozen HH.out t (by rw [HN.out]; exact ht)
                  have hai := P.out.ai
                  have hij := P.out.ij
                  have hjb := P.out.jb
                  have hgt : i = j + 1 := by omega
                  have SW : Hid (RowIs w g off d (swp dk j a) ((wc.setCell ⟨g, off + j, none⟩ (.int .u32 (G a : Int))).setCell ⟨g, off + a, none⟩ (.int .u32 (G j : Int))).drew) := by
                    show RowIs _ _ _ _ _ _
                    rw [hG, hG]
                    exact (hR.out.swap (j := j) (k := a) (by rw [HN.out]; omega) (by rw [HN.out]; omega)).drew 1
                  have F : Hid (PermIn a b d (swp dk j a) ∧ a ≤ j ∧ j < b ∧ (∀ k, a ≤ k → k < j → (swp dk j a)[k]! < (swp dk j a)[j]!) ∧ ∀ k, j < k → k < b → (swp dk j a)[j]! ≤ (swp dk j a)[k]!) := P.out.final HL.out hgt
                  clear hG hR P S1J S2 hgt hij hai
                  by_cases e : j = a
                  all_goals
                    go_region
                    go_wp2
                    go_ret2
                    exact ⟨j, false, swp dk j a, by first | rfl | (rw [e]; rfl), by first | exact SW.out | (have hq := SW.out; rw [e] at hq ⊢; exact hq), F.out⟩
                · have hng : ¬ j < i := by omega
                  obtain ⟨G, hG⟩ : ∃ G : Nat → Nat, ∀ t, G t = dk[t]! := ⟨fun t => dk[t]!, fun _ => rfl⟩
                  have cw : ∀ t, t < len → wc.cell? ⟨g, off + t, none⟩ = some (.int .u32 (G t : Int)) := fun t ht => by rw [hG]; exact hR.out.cell HH.out t (by rw [HN.out]; exact ht)
                  have fw : ∀ t, t < len → wc.frozen? ⟨g, off + t, none⟩ = false := fun t ht => hR.out.frozen HH.out t (by rw [HN.out]; exact ht)
                  have hai := P.out.ai
                  have hij := P.out.ij
                  have hjb := P.out.jb
                  have hle : i ≤ j := by omega
                  have SW : Hid (RowIs w g off d (swp dk i j) ((wc.setCell ⟨g, off + i, none⟩ (.int .u32 (G j : Int))).setCell ⟨g, off + j, none⟩ (.int .u32 (G i : Int))).drew) := by
                    show RowIs _ _ _ _ _ _
                    rw [hG, hG]
                    exact (hR.out.swap (j := i) (k := j) (by rw [HN.out]; omega) (by rw [HN.out]; omega)).drew 1
                  obtain ⟨hlt, PS0⟩ := P.out.swap hle (S1J.out.resolve_left (by have := HJ2.out; omega)) (S2.out.resolve_left (by omega))
                  have PS : Hid (PartI Lo d a b p (i + 1) (j - 1) (swp dk i j)) := PS0
                  have ej : Hid ((j : Int) - 1 = ((j - 1 : Nat) : Int)) := by show _ = _; omega
                  clear hG PS0 hR P S1J S2
                  go_region
                  go_wp2_with fail
                  rw [ej.out]
                  go_wp2
                  go_roundw
                  case rel => exact ⟨i + 1, j - 1, _, by go_num, by rfl, PS.out, SW.out⟩
                  case measure => (simp [intOf]; have := HI2.out; have := HIe.out; have := HJ2.out; have := HJe.out; omega)
theorem PartI.finalE {d dk : Array Nat} {a b p i j : Nat} {Lo : Nat → Prop} (h : PartI Lo d a b p i j dk) (hL : Lo = fun x => ltN p x = false) (hij : i = j + 1) :
    PermIn a b d dk ∧ a < i ∧ i ≤ b ∧ (∀ k, a ≤ k → k < i → dk[k]! ≤ p) ∧ ∀ k, i ≤ k → k < b → p < dk[k]! := by
  refine ⟨h.perm, h.ai, by have := h.jb; omega, fun k k1 k2 => ?_, fun k k1 k2 => ?_⟩
  · by_cases e : k = a
    · subst e; rw [h.at_]; exact Nat.le_refl _
    · have := h.lo k (by omega) k2
      rw [hL] at this
      simpa [ltN] using this
  · have := h.hi k (by omega) k2
    rw [hL] at this
    simpa [ltN] using this

set_option maxHeartbeats 4000000 in
set_option maxRecDepth 1000000 in
theorem partEq_ok (g off cap a b pv len : Nat) (d : Array Nat) (w : World) (hlen : d.size = len) (hH : Holds u32e w g off d) (hg : g < w.heap.size) (h1 : a ≤ pv) (h2 : pv < b) (hb : b ≤ len) (hsz : len < 4611686018427387904) :
    Calls Tryz.prog 100 #[.slice (some ⟨g, off, none⟩) len cap, .int .i64 a, .int .i64 b, .int .i64 pv] w fun e w' => ∃ (mid : Nat) (d' : Array Nat), e = .returned (.int .i64 (mid : Int)) ∧ RowIs w g off d d' w' ∧ PermIn a b d d' ∧ a < mid ∧ mid ≤ b ∧ (∀ k, a ≤ k → k < mid → d'[k]! ≤ d[pv]!) ∧ ∀ k, mid ≤ k → k < b → d[pv]! < d'[k]! := by
  have HN : Hid (d.size = len) := hlen
  have HH : Hid (Holds u32e w g off d) := hH
  have r0 := RowIs.start hH hg
  obtain ⟨G, hG⟩ : ∃ G : Nat → Nat, ∀ t, G t = d[t]! := ⟨fun t => d[t]!, fun _ => rfl⟩
  have cw : ∀ t, t < len → w.cell? ⟨g, off + t, none⟩ = some (.int .u32 (G t : Int)) := fun t ht => by rw [hG]; exact r0.cell hH t (by rw [hlen]; exact ht)
  have fw : ∀ t, t < len → w.frozen? ⟨g, off + t, none⟩ = false := fun t ht => r0.frozen hH t (by rw [hlen]; exact ht)
  have SW : Hid (RowIs w g off d (swp d a pv) ((w.setCell ⟨g, off + a, none⟩ (.int .u32 (G pv : Int))).setCell ⟨g, off + pv, none⟩ (.int .u32 (G a : Int))).drew) := by
    show RowIs _ _ _ _ _ _
    rw [hG, hG]
    exact (r0.swap (j := a) (k := pv) (by omega) (by omega)).drew 1
  obtain ⟨p, hp⟩ : ∃ p, p = (swp d a pv)[a]! := ⟨_, rfl⟩
  have EP : Hid (p = d[pv]!) := hp.trans (swp_first d (by omega) (by omega))
  obtain ⟨Lo, hLo⟩ : ∃ Lo : Nat → Prop, Lo = fun x => ltN p x = false := ⟨_, rfl⟩
  have PI : Hid (PartI Lo d a b p (a + 1) (b - 1) (swp d a pv)) := ⟨swp_permIn _ _ _ _ _ (Nat.le_refl _) (by omega) h1 h2 (by omega), by omega, hp.symm, fun k k1 k2 => by omega, fun k k1 k2 => by omega, by omega, by omega, by omega⟩
  have HL : Hid (Lo = fun x => ltN p x = false) := hLo
  have LOW : Hid (∀ x, Lo x = (ltN p x = false)) := fun x => by rw [hLo]
  clear hH hlen hG hp hLo r0
  go_enter Tryz.func100, Tryz.ntmps100
  go_upto_region 1 with fail
  go_cut [] from 11 (fun W => RowIs w g off d (swp d a pv) W)
  case first =>
    by_cases e : a = pv
    all_goals
      go_wp2_with fail
      go_region
      go_wp2_with fail
      go_meet
      case rel => first | exact SW.out | (have hq := SW.out; rw [← e] at hq ⊢; exact hq)
  case rest =>
    have hR : Hid (RowIs w g off d (swp d a pv) wc) := hcut
    clear hcut cw fw SW
    obtain ⟨dk, hdk⟩ : ∃ dk, dk = swp d a pv := ⟨_, rfl⟩
    obtain ⟨j, hj⟩ : ∃ j, j = b - 1 := ⟨_, rfl⟩
    have P : Hid (PartI Lo d a b p (a + 1) j dk) := by rw [hdk, hj]; exact PI.out
    rw [← hdk] at hR
    have EJ : Hid ((b : Int) - 1 = (j : Int)) := by show _ = _; omega
    clear hdk hj PI
    go_upto_block 0 with fail
    rw [EJ.out]
    obtain ⟨i, hi⟩ : ∃ i, i = a + 1 := ⟨_, rfl⟩
    rw [show (a : Int) + 1 = (i : Int) by omega]
    rw [← hi] at P
    clear hi EJ
    go_wp2
    go_loopw [9, 10] (fun v u W => ∃ (i j : Nat) (dk : Array Nat), v = .int .i64 i ∧ u = .int .i64 j ∧ PartI Lo d a b p i j dk ∧ RowIs w g off d dk W) (fun v u _ => (intOf u + 1 - intOf v).toNat)
    case atStart => exact ⟨i, j, dk, rfl, rfl, P.out, hR.out⟩
    case round =>
      obtain ⟨i, j, dk, rfl, rfl, P0, hR0⟩ := hrel
      have P : Hid (PartI Lo d a b p i j dk) := P0
      have hR : Hid (RowIs w g off d dk wr) := hR0
      have hm0 : i ≤ j + 1 := P0.ij
      obtain ⟨M, hM⟩ : ∃ M, M = j + 1 - i := ⟨_, rfl⟩
      have HM : Hid (j + 1 - i ≤ M) := by show _ ≤ _; omega
      clear hM
      clear P0 hR0
      go_upto_block 2 with fail
      obtain ⟨I, hI⟩ : ∃ I, I = i := ⟨_, rfl⟩
      have HI : Hid (I ≤ i) := by show _ ≤ _; omega
      have HIe : Hid (I = i) := hI
      clear hI
      go_cut [9] from 29 to 82 (fun v W => ∃ i : Nat, v = .int .i64 i ∧ I ≤ i ∧ PartI Lo d a b p i j dk ∧ (j < i ∨ ¬ Lo dk[i]!) ∧ RowIs w g off d dk W)
      case first =>
        go_wp2
        go_loopw [9] (fun v W => ∃ i : Nat, v = .int .i64 i ∧ I ≤ i ∧ PartI Lo d a b p i j dk ∧ RowIs w g off d dk W) (fun v _ => j + 1 - (intOf v).toNat)
        case atStart => exact ⟨_, rfl, HI.out, P.out, hR.out⟩
        case round =>
          obtain ⟨i, rfl, hI, P, hR⟩ := hrel
          obtain ⟨G, hG⟩ : ∃ G : Nat → Nat, ∀ t, G t = dk[t]! := ⟨fun t => dk[t]!, fun _ => rfl⟩
          have cw : ∀ t, t < len → wr.cell? ⟨g, off + t, none⟩ = some (.int .u32 (G t : Int)) := fun t ht => by rw [hG]; exact hR.cell HH.out t (by rw [HN.out]; exact ht)
          have HA : Hid (G a = p) := by show _ = _; rw [hG]; exact P.at_
          have HG : Hid (∀ t, G t = dk[t]!) := hG
          have hai := P.ai
          have hij := P.ij
          have hjb := P.jb
          have HP : Hid (PartI Lo d a b p i j dk) := P
          have HR : Hid (RowIs w g off d dk wr) := hR
          clear hG P hR
          go_wp2
          by_cases hle : i ≤ j
          · go_quiet (first | (go_at_call 99; refine Calls.quiet_of_same (less_u32 _ _ _)))
            go_wp2
            · have hl : ltN (G a) (G i) = false := by
                have : (!ltN (G a) (G i)) = true := by assumption
                simpa using this
              have hL : Lo dk[i]! := by rw [LOW.out, ← HG.out i, ← HA.out]; first | exact hl | simp [hl]
              go_roundw
              case rel => exact ⟨i + 1, by go_num, (by omega), HP.out.up hle hL, HR.out.drew nq⟩
              case measure => (simp [intOf]; try omega)
            · have hl : ltN (G a) (G i) = true := by
                have : (!ltN (G a) (G i)) = false := by assumption
                simpa using this
              have hL : ¬ Lo dk[i]! := by rw [LOW.out, ← HG.out i, ← HA.out]; first | exact hl | simp [hl]
              go_meet
              case rel => exact ⟨i, rfl, (by omega), HP.out, .inr hL, HR.out.drew nq⟩
          · go_quiet (first | (go_at_call 99; refine Calls.quiet_of_same (less_u32 _ _ _)))
            go_wp2
            go_meet
            case rel => exact ⟨i, rfl, (by omega), HP.out, .inl (by omega), HR.out.drew nq⟩
      case rest =>
        obtain ⟨i, rfl, hI, P0, S10, hR0⟩ := hcut
        have P : Hid (PartI Lo d a b p i j dk) := P0
        have HI2 : Hid (I ≤ i) := hI
        clear hI
        have S1 : Hid (j < i ∨ ¬ Lo dk[i]!) := S10
        have hR : Hid (RowIs w g off d dk wc) := hR0
        clear P0 S10 hR0
        go_upto_block 4 with fail
        obtain ⟨J, hJ⟩ : ∃ J, J = j := ⟨_, rfl⟩
        have HJ : Hid (j ≤ J) := by show _ ≤ _; omega
        have S1J : Hid (J < i ∨ ¬ Lo dk[i]!) := by rw [hJ]; exact S1.out
        have HJe : Hid (J = j) := hJ
        clear hJ S1
        go_cut [10] from 29 to 82 (fun v W => ∃ j : Nat, v = .int .i64 j ∧ j ≤ J ∧ PartI Lo d a b p i j dk ∧ (j < i ∨ Lo dk[j]!) ∧ RowIs w g off d dk W)
        case first =>
          go_wp2
          go_loopw [10] (fun v W => ∃ j : Nat, v = .int .i64 j ∧ j ≤ J ∧ PartI Lo d a b p i j dk ∧ RowIs w g off d dk W) (fun v _ => (intOf v).toNat)
          case atStart => exact ⟨_, rfl, HJ.out, P.out, hR.out⟩
          case round =>
            obtain ⟨j, rfl, hJ, P, hR⟩ := hrel
            obtain ⟨G, hG⟩ : ∃ G : Nat → Nat, ∀ t, G t = dk[t]! := ⟨fun t => dk[t]!, fun _ => rfl⟩
            have cw : ∀ t, t < len → wr.cell? ⟨g, off + t, none⟩ = some (.int .u32 (G t : Int)) := fun t ht => by rw [hG]; exact hR.cell HH.out t (by rw [HN.out]; exact ht)
            have HA : Hid (G a = p) := by show _ = _; rw [hG]; exact P.at_
            have HG : Hid (∀ t, G t = dk[t]!) := hG
            have hai := P.ai
            have hij := P.ij
            have hjb := P.jb
            have HP : Hid (PartI Lo d a b p i j dk) := P
            have HR : Hid (RowIs w g off d dk wr) := hR
            clear hG P hR
            go_wp2
            by_cases hle : i ≤ j
            · go_quiet (first | (go_at_call 99; refine Calls.quiet_of_same (less_u32 _ _ _)))
              go_wp2
              · have hl : ltN (G a) (G j) = true := by assumption
                have hL : ¬ Lo dk[j]! := by rw [LOW.out, ← HG.out j, ← HA.out]; first | exact hl | simp [hl]
                go_roundw
                case rel => exact ⟨j - 1, by congr 1; omega, (by omega), HP.out.down hle hL, HR.out.drew nq⟩
                case measure => (simp [intOf]; try omega)
              · have hl : ltN (G a) (G j) = false := by assumption
                have hL : Lo dk[j]! := by rw [LOW.out, ← HG.out j, ← HA.out]; first | exact hl | simp [hl]
                go_meet
                case rel => exact ⟨j, rfl, (by omega), HP.out, .inr hL, HR.out.drew nq⟩
            · go_quiet (first | (go_at_call 99; refine Calls.quiet_of_same (less_u32 _ _ _)))
              go_wp2
              go_meet
              case rel => exact ⟨j, rfl, (by omega), HP.out, .inl (by omega), HR.out.drew nq⟩
        case rest =>
          obtain ⟨j, rfl, hJ, P0, S20, hR0⟩ := hcut
          have P : Hid (PartI Lo d a b p i j dk) := P0
          have HJ2 : Hid (j ≤ J) := hJ
          clear hJ
          have S2 : Hid (j < i ∨ Lo dk[j]!) := S20
          have hR : Hid (RowIs w g off d dk wc) := hR0
          clear P0 S20 hR0
          go_wp2_with fail
          · have hgt : j < i := by omega
            have hij := P.out.ij
            have F : Hid (PermIn a b d dk ∧ a < i ∧ i ≤ b ∧ (∀ k, a ≤ k → k < i → dk[k]! ≤ d[pv]!) ∧ ∀ k, i ≤ k → k < b → d[pv]! < dk[k]!) := by rw [← EP.out]; exact P.out.finalE HL.out (by omega)
            go_ret
            exact ⟨i, dk, rfl, hR.out, F.out⟩
          · have hng : ¬ j < i := by omega
            obtain ⟨G, hG⟩ : ∃ G : Nat → Nat, ∀ t, G t = dk[t]! := ⟨fun t => dk[t]!, fun _ => rfl⟩
            have cw : ∀ t, t < len → wc.cell? ⟨g, off + t, none⟩ = some (.int .u32 (G t : Int)) := fun t ht => by rw [hG]; exact hR.out.cell HH.out t (by rw [HN.out]; exact ht)
            have fw : ∀ t, t < len → wc.frozen? ⟨g, off + t, none⟩ = false := fun t ht => hR.out.frozen HH.out t (by rw [HN.out]; exact ht)
            have hai := P.out.ai
            have hij := P.out.ij
            have hjb := P.out.jb
            have hle : i ≤ j := by omega
            have SW : Hid (RowIs w g off d (swp dk i j) ((wc.setCell ⟨g, off + i, none⟩ (.int .u32 (G j : Int))).setCell ⟨g, off + j, none⟩ (.int .u32 (G i : Int))).drew) := by
              show RowIs _ _ _ _ _ _
              rw [hG, hG]
              exact (hR.out.swap (j := i) (k := j) (by rw [HN.out]; omega) (by rw [HN.out]; omega)).drew 1
            obtain ⟨hlt, PS0⟩ := P.out.swap hle (S1J.out.resolve_left (by have := HJ2.out; omega)) (S2.out.resolve_left (by omega))
            have PS : Hid (PartI Lo d a b p (i + 1) (j - 1) (swp dk i j)) := PS0
            have ej : Hid ((j : Int) - 1 = ((j - 1 : Nat) : Int)) := by show _ = _; omega
            clear hG PS0 hR P S1J S2
            go_region
            go_wp2_with fail
            rw [ej.out]
            go_wp2
            go_roundw
            case rel => exact ⟨i + 1, j - 1, _, by go_num, by rfl, PS.out, SW.out⟩
            case measure => (simp [intOf]; have := HI2.out; have := HIe.out; have := HJ2.out; have := HJe.out; omega)
end Go.Proofs.YtboinccdnaddmaaGreatDoor
