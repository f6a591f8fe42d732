/- The walk of ClocksLeft. -/
import Derived.Test.YtboinccdnaddmaaCkFarL
import Derived.Test.YtboinccdnaddmaaCkRow2
set_option linter.unusedSimpArgs false
set_option linter.unusedVariables false
namespace Go.Proofs.Ytboinccdnaddmaa
open Go.RowKit Go.Maps

/-- Who is set behind tick t: x for tick N, y for tick 1000. -/
def lF (x y N t : Nat) : Nat → Option Nat := updF (updF noneD x (if t < N then some N else none)) y (some 1000)
theorem lF_zero (x y N : Nat) (h : 0 < N) : updF (updF noneD x (some (0 + N))) y (some (0 + 1000)) = lF x y N 0 := by
  unfold lF; rw [if_pos h, Nat.zero_add, Nat.zero_add]
theorem lF_x {x y : Nat} (N t : Nat) (h : x ≠ y) : lF x y N t x = if t < N then some N else none := by
  unfold lF; rw [updF_other _ _ h, updF_same]
theorem lF_y (x y N t : Nat) : lF x y N t y = some 1000 := updF_same _ _ _
theorem lF_else {x y z : Nat} (N t : Nat) (h1 : z ≠ x) (h2 : z ≠ y) : lF x y N t z = none := by
  unfold lF; rw [updF_other _ _ h2, updF_other _ _ h1]; rfl
theorem lF_tick {x y : Nat} (N t : Nat) (h : x ≠ y) (ht : t + 1 < 1000) : tickF (lF x y N t) (t + 1) = lF x y N (t + 1) := by
  funext z
  unfold tickF
  by_cases e1 : z = y
  · subst e1; rw [lF_y, lF_y, if_neg (by simp; omega)]
  · by_cases e2 : z = x
    · subst e2; rw [lF_x _ _ h, lF_x _ _ h]
      by_cases h1 : t + 1 < N
      · have q1 : t < N := by omega
        have q2 : ¬ N = t + 1 := by omega
        simp [h1, q1, q2]
      · by_cases h2 : t < N
        · have q2 : N = t + 1 := by omega
          simp [h1, h2, q2]
        · simp [h1, h2]
    · rw [lF_else _ _ e2 e1, lF_else _ _ e2 e1, if_neg (by simp)]
theorem lF_told {x y : Nat} (N t z : Nat) (h : x ≠ y) (ht : t + 1 < 1000) : lF x y N t z = some (t + 1) ↔ z ∈ (if t + 1 = N then [x] else []) := by
  by_cases e1 : z = y
  · subst e1; rw [lF_y]
    constructor
    · intro q; simp at q; omega
    · intro q; split at q
      · simp at q; exact absurd q.symm h
      · cases q
  · by_cases e2 : z = x
    · subst e2; rw [lF_x _ _ h]
      by_cases h1 : t + 1 = N
      · rw [if_pos (by omega), if_pos h1]; simp; omega
      · rw [if_neg h1]; split
        · simp; omega
        · simp
    · rw [lF_else _ _ e2 e1]
      constructor
      · intro q; cases q
      · intro q; split at q
        · simp at q; exact absurd q e2
        · cases q
theorem lF_near {x y N : Nat} (t : Nat) (hx : x < 4294967296) (hy : y < 4294967296) (hN : N ≤ 4000000000) : Near (lF x y N t) := fun j u hj => by
  by_cases e1 : j = y
  · subst e1; rw [lF_y] at hj; simp at hj; omega
  · by_cases e2 : j = x
    · subst e2; unfold lF at hj; rw [updF_other _ _ e1, updF_same] at hj; split at hj
      · simp at hj; omega
      · cases hj
    · rw [lF_else _ _ e2 e1] at hj; cases hj
theorem lF_reset {x y : Nat} (N t M : Nat) (h : x ≠ y) (ht : t < M) : updF (lF x y N t) x (some M) = lF x y M t := by
  funext z
  by_cases e2 : z = x
  · subst e2; rw [updF_same, lF_x _ _ h, if_pos ht]
  · rw [updF_other _ _ e2]; unfold lF
    by_cases e1 : z = y
    · subst e1; rw [updF_same, updF_same]
    · rw [updF_other _ _ e1, updF_other _ _ e1, updF_other _ _ e2, updF_other _ _ e2]
theorem asc_one (b : Prop) [Decidable b] (x : Nat) : (if b then [x] else []).Pairwise (· < ·) := by split <;> simp
set_option maxHeartbeats 1000000 in
set_option maxRecDepth 1000000 in
theorem left_walk (w : World) (x N M : Nat) (h : Nat) (hx : x < 4294967296) (y z : Nat) (hy : y < 4294967296) (hz : z < 4294967296) (ey : IntKind.u32.wrap ((x : Int) + 1) = (y : Int)) (ez : IntKind.u32.wrap ((x : Int) + 2) = (z : Int)) (hxy : x ≠ y) (hzx : z ≠ x) (hzy : z ≠ y) (hN0 : 1 ≤ N) (hN : N ≤ 256) (hM : M < 256) (hh : h < 256) (a : Nat) (haN : N = 1 + a) :
    Calls Try.prog 5 #[.int .u32 (x : Int), .agg #[.int .u8 (a : Int), .int .u8 (M : Int)], .int .u8 (h : Int)] w fun e w' => e = .returned (.bool true) ∧ Below w.heap.size w w' := by
  have ka := alive_ok
  obtain ⟨A, hA⟩ : ∃ A, A = w.alloc (.cells #[.int .u8 (a : Int), .int .u8 (M : Int)] 45) := ⟨_, rfl⟩
  have p0 : A.heap[w.heap.size]? = some (.cells #[.int .u8 (a : Int), .int .u8 (M : Int)] 45 (0, 0)) := by rw [hA]; exact World.alloc_heap_new w _
  have b0 : Below w.heap.size w A := by rw [hA]; exact below_one w _
  have lA : w.heap.size < A.heap.size := by rw [hA]; simp
  have HA : Hid (w.alloc (.cells #[.int .u8 (a : Int), .int .u8 (M : Int)] 45) = A) := hA.symm
  clear hA
  have kn := New_ok A
  have HC : Hid (∀ {W' : World}, Below A.heap.size A W' → W'.cell? ⟨w.heap.size, 0, none⟩ = some (.int .u8 (a : Int)) ∧ W'.cell? ⟨w.heap.size, 1, none⟩ = some (.int .u8 (M : Int))) := fun {W'} hb => by
    have q : W'.heap[w.heap.size]? = _ := (hb.block _ lA).trans p0
    exact ⟨by simp [World.cell?, q], by simp [World.cell?, q]⟩
  have hN2 : (1 : Int) + (a : Int) = (N : Int) := by omega
  go_enter Try.func5, Try.ntmps5
  go_wp2_with fail
  rw [HA.out]
  refine kn.mono ?_
  rintro e w1 ⟨rfl, s1⟩
  clear kn HA
  obtain ⟨C, hC⟩ : ∃ C, C = A.heap.size + 3 := ⟨_, rfl⟩
  rw [← hC] at s1 ⊢
  clear hC
  have k1 := Set_ok x N hx (by omega) (by omega) (by omega) (by omega) near_none s1
  obtain ⟨c0, c1⟩ := HC.out s1.below
  have HN2 : Hid ((1 : Int) + (a : Int) = (N : Int)) := hN2
  have ha : a < 256 := by omega
  clear s1 hN2 haN
  go_wp2_with fail
  rw [HN2.out]
  refine k1.mono ?_
  rintro e w2 ⟨rfl, s2⟩
  have k2 := Set_ok y 1000 hy (by omega) (by omega) (by omega) (by omega) (near_none.set (id := x) (t := 0 + N) hx (by omega)) s2
  rw [lF_zero x y N (by omega)] at k2
  clear k1 s2 c0 c1
  go_wp2_with fail
  refine k2.mono ?_
  rintro e w3 ⟨rfl, s3⟩
  have S3 : Hid (St noB A w3 [clkP C 0 (lF x y N 0) 2]) := s3
  clear k2 s3
  obtain ⟨c0, c1⟩ := HC.out S3.out.below
  go_wp2_with fail
  go_loopw [9] (fun v W => ∃ (k : Nat) (t : Int), v = .int .i64 t ∧ t = (k : Int) + 1 ∧ k ≤ M ∧ St noB A W [clkP C k (lF x y N k) 2]) (fun v _ => M + 1 - (intOf v).toNat)
  case atStart => exact ⟨0, 1, rfl, rfl, by omega, S3.out⟩
  case round =>
    obtain ⟨k, t, rfl, ht, hk, s4⟩ := hrel
    clear S3 c0 c1
    obtain ⟨c0, c1⟩ := HC.out s4.below
    have t1 : 1 ≤ t := by omega
    have t3 : t ≤ 257 := by omega
    by_cases hlt : k < M
    · have t2 : t ≤ (M : Int) := by omega
      have kt := Tick_ok (by omega) (by omega) (lF_near (y := y) (N := N) k hx hy (by omega)) s4
      rw [lF_tick N k hxy (by omega)] at kt
      have HT : Hid (t = (k : Int) + 1) := ht
      clear s4 ht
      go_wp2_with fail
      refine kt.mono ?_
      rintro e w5 ⟨v, ys, rfl, h1, h2, h3, s5⟩
      have hys := told_is h1 h2 (asc_one _ _) (fun q => lF_told N k q hxy (by omega))
      have S5 : Hid (St noB A w5 [clkP C (k + 1) (lF x y N (k + 1)) 2]) := s5.drop
      by_cases hkN : k + 1 = N
      · rw [if_pos hkN] at hys
        subst hys
        obtain ⟨ao, cap, hv, hao⟩ := row_form s5.row
        obtain ⟨g, rfl⟩ := hao (by simp)
        have rc := row_at s5.row hv 0 (u32V x) rfl rfl
        subst hv
        have kl := Left_none x hx (by rw [lF_x _ _ hxy, if_neg (by omega)]) S5.out
        have e1 : (t == (N : Int)) = true := by have := HT.out; simpa using (by omega : t = (N : Int))
        have e2 : ¬ t < (N : Int) := by have := HT.out; omega
        clear kt s5 h1 h2 h3
        go_wp2_with fail
        refine kl.mono ?_
        rintro e w6 ⟨rfl, ew⟩
        rw [← ew]
        clear ew w6 kl
        go_wp2_with fail
        go_roundw
        case rel => exact ⟨k + 1, t + 1, rfl, by have := HT.out; omega, by omega, S5.out⟩
        case measure => (simp [intOf]; try omega)
      · rw [if_neg hkN] at hys
        subst hys
        obtain ⟨ao, cap, hv, -⟩ := row_form s5.row
        subst hv
        have e1 : (t == (N : Int)) = false := by have := HT.out; simpa using (by omega : ¬ t = (N : Int))
        by_cases hlN : k + 1 < N
        · have kl := Left_some x N hx (by rw [lF_x _ _ hxy, if_pos hlN]) (by omega) (by omega) S5.out
          rw [show (N : Int) - ((k + 1 : Nat) : Int) = (N : Int) - t by have := HT.out; omega] at kl
          have e2 : t < (N : Int) := by have := HT.out; omega
          clear kt s5 h1 h2 h3
          go_wp2_with fail
          refine kl.mono ?_
          rintro e w6 ⟨rfl, ew⟩
          rw [← ew]
          clear ew w6 kl
          go_wp2_with fail
          go_roundw
          case rel => exact ⟨k + 1, t + 1, rfl, by have := HT.out; omega, by omega, S5.out⟩
          case measure => (simp [intOf]; try omega)
        · have kl := Left_none x hx (by rw [lF_x _ _ hxy, if_neg hlN]) S5.out
          have e2 : ¬ t < (N : Int) := by have := HT.out; omega
          clear kt s5 h1 h2 h3
          go_wp2_with fail
          refine kl.mono ?_
          rintro e w6 ⟨rfl, ew⟩
          rw [← ew]
          clear ew w6 kl
          go_wp2_with fail
          go_roundw
          case rel => exact ⟨k + 1, t + 1, rfl, by have := HT.out; omega, by omega, S5.out⟩
          case measure => (simp [intOf]; try omega)
    · obtain rfl : k = M := by omega
      have t2 : ¬ t ≤ (k : Int) := by omega
      have S4 : Hid (St noB A wr [clkP C k (lF x y N k) 2]) := s4
      clear s4 ht
      have nF : Hid (Near (lF x y N k)) := lF_near k hx hy (by omega)
      by_cases r0 : h % 3 = 0
      · have q0 : (((h : Int) % 3) == 0) = true := by simpa using (by omega : (h : Int) % 3 = 0)
        have kc := Clear_ok x hx nF.out S4.out
        rw [lF_x _ _ hxy] at kc
        clear nF
        by_cases hs : k < N
        · rw [if_pos hs] at kc
          rw [show (some N).isSome = true from rfl, if_pos rfl] at kc
          go_wp2_with fail
          refine kc.mono ?_
          rintro e w5 ⟨rfl, s5⟩
          have kn := Left_none x hx (updF_same _ _ _) s5
          have S5 : Hid (St noB A w5 [clkP C k (updF (lF x y N k) x none) 2]) := s5
          clear kc s5 S4
          go_wp2_with fail
          refine kn.mono ?_
          rintro e wz ⟨rfl, ew⟩
          rw [← ew]
          clear ew wz kn
          have kl := Left_some y 1000 hy (by rw [updF_other _ _ (fun e => hxy e.symm)]; exact lF_y _ _ _ _) (by omega) (by omega) S5.out
          have B : Hid (Below A.heap.size A w5) := S5.out.below
          clear S5
          go_wp2_with fail
          refine kl.mono ?_
          rintro e wz ⟨rfl, ew⟩
          rw [← ew]
          clear ew wz kl
          go_wp2_with fail
          refine (ka w5).mono ?_
          rintro e wz ⟨rfl, bz⟩
          go_wp2
          go_ret
          exact ⟨by simp, (b0.trans (B.out.mono b0.size)).trans (bz.mono (Nat.le_trans b0.size B.out.size))⟩
        · rw [if_neg hs] at kc
          rw [show (none : Option Nat).isSome = false from rfl, if_neg (by simp)] at kc
          go_wp2_with fail
          refine kc.mono ?_
          rintro e w5 ⟨rfl, s5⟩
          have kn := Left_none x hx (updF_same _ _ _) s5
          have S5 : Hid (St noB A w5 [clkP C k (updF (lF x y N k) x none) 2]) := s5
          clear kc s5 S4
          go_wp2_with fail
          refine kn.mono ?_
          rintro e wz ⟨rfl, ew⟩
          rw [← ew]
          clear ew wz kn
          have kl := Left_some y 1000 hy (by rw [updF_other _ _ (fun e => hxy e.symm)]; exact lF_y _ _ _ _) (by omega) (by omega) S5.out
          have B : Hid (Below A.heap.size A w5) := S5.out.below
          clear S5
          go_wp2_with fail
          refine kl.mono ?_
          rintro e wz ⟨rfl, ew⟩
          rw [← ew]
          clear ew wz kl
          go_wp2_with fail
          refine (ka w5).mono ?_
          rintro e wz ⟨rfl, bz⟩
          go_wp2
          go_ret
          exact ⟨by simp, (b0.trans (B.out.mono b0.size)).trans (bz.mono (Nat.le_trans b0.size B.out.size))⟩
      · have q0 : (((h : Int) % 3) == 0) = false := by simpa using (by omega : ¬ (h : Int) % 3 = 0)
        by_cases r1 : h % 3 = 1
        · have q1 : (((h : Int) % 3) == 1) = true := by simpa using (by omega : (h : Int) % 3 = 1)
          have kz := Left_none z hz (lF_else _ _ hzx hzy) S4.out
          have ks := Set_ok x 5 hx (by omega) (by omega) (by omega) (by omega) nF.out S4.out
          rw [lF_reset N k (k + 5) hxy (by omega)] at ks
          clear nF S4
          go_wp2_with fail
          refine kz.mono ?_
          rintro e wz ⟨rfl, ew⟩
          rw [← ew]
          clear ew wz kz
          go_wp2_with fail
          refine ks.mono ?_
          rintro e w5 ⟨rfl, s5⟩
          have S5 : Hid (St noB A w5 [clkP C k (lF x y (k + 5) k) 3]) := s5
          clear ks s5
          go_wp2_with fail
          go_loopw [19] (fun v W => ∃ (j : Nat) (u : Int), v = .int .i64 u ∧ u = (j : Int) + 1 ∧ j ≤ 5 ∧ St noB A W [clkP C (k + j) (lF x y (k + 5) (k + j)) 3]) (fun v _ => 6 - (intOf v).toNat)
          case atStart => exact ⟨0, 1, rfl, rfl, by omega, S5.out⟩
          case round =>
            obtain ⟨j, u, rfl, hu, hj, s6⟩ := hrel
            clear S5
            have u1 : 1 ≤ u := by omega
            have u3 : u ≤ 6 := by omega
            by_cases hj5 : j < 5
            · have u2 : u ≤ 5 := by omega
              have kt := Tick_ok (by omega) (by omega) (lF_near (y := y) (N := k + 5) (k + j) hx hy (by omega)) s6
              rw [lF_tick (k + 5) (k + j) hxy (by omega)] at kt
              have HU : Hid (u = (j : Int) + 1) := hu
              clear s6 hu
              go_wp2_with fail
              refine kt.mono ?_
              rintro e w7 ⟨v, ys, rfl, h1, h2, h3, s7⟩
              have hys := told_is h1 h2 (asc_one _ _) (fun q => lF_told (k + 5) (k + j) q hxy (by omega))
              have S7 : Hid (St noB A w7 [clkP C (k + (j + 1)) (lF x y (k + 5) (k + (j + 1))) 3]) := s7.drop
              obtain ⟨ao, cap, hv, -⟩ := row_form s7.row
              subst hv
              by_cases h5 : j = 4
              · rw [if_pos (by omega)] at hys
                subst hys
                have e1 : (u == (5 : Int)) = true := by have := HU.out; simpa using (by omega : u = (5 : Int))
                clear kt s7 h1 h2 h3
                go_wp2_with fail
                go_roundw
                case rel => exact ⟨j + 1, u + 1, rfl, by have := HU.out; omega, by omega, S7.out⟩
                case measure => (simp [intOf]; try omega)
              · rw [if_neg (by omega)] at hys
                subst hys
                have e1 : (u == (5 : Int)) = false := by have := HU.out; simpa using (by omega : ¬ u = (5 : Int))
                clear kt s7 h1 h2 h3
                go_wp2_with fail
                go_roundw
                case rel => exact ⟨j + 1, u + 1, rfl, by have := HU.out; omega, by omega, S7.out⟩
                case measure => (simp [intOf]; try omega)
            · obtain rfl : j = 5 := by omega
              have u2 : ¬ u ≤ 5 := by omega
              have S7 : Hid (St noB A wr [clkP C (k + 5) (lF x y (k + 5) (k + 5)) 3]) := s6
              clear s6 hu
              have kl := Left_some y 1000 hy (lF_y _ _ _ _) (by omega) (by omega) S7.out
              have B : Hid (Below A.heap.size A wr) := S7.out.below
              clear S7
              go_wp2_with fail
              refine kl.mono ?_
              rintro e wz ⟨rfl, ew⟩
              rw [← ew]
              clear ew wz kl
              go_wp2_with fail
              refine (ka wr).mono ?_
              rintro e wz ⟨rfl, bz⟩
              go_wp2
              go_ret
              exact ⟨by simp, (b0.trans (B.out.mono b0.size)).trans (bz.mono (Nat.le_trans b0.size B.out.size))⟩
        · have q1 : (((h : Int) % 3) == 1) = false := by simpa using (by omega : ¬ (h : Int) % 3 = 1)
          clear nF
          have kl := Left_some y 1000 hy (lF_y _ _ _ _) (by omega) (by omega) S4.out
          have B : Hid (Below A.heap.size A wr) := S4.out.below
          clear S4
          go_wp2_with fail
          refine kl.mono ?_
          rintro e wz ⟨rfl, ew⟩
          rw [← ew]
          clear ew wz kl
          go_wp2_with fail
          refine (ka wr).mono ?_
          rintro e wz ⟨rfl, bz⟩
          go_wp2
          go_ret
          exact ⟨by simp, (b0.trans (B.out.mono b0.size)).trans (bz.mono (Nat.le_trans b0.size B.out.size))⟩
theorem left_any (w : World) (n : Int) (p q : UInt8) (c : Int) (hn : (Lit.int .u32 n).wf = true) (hc : (Lit.int .u8 c).wf = true) :
    Calls Try.prog 5 #[.int .u32 n, .agg #[bv p, bv q], .int .u8 c] w fun e w' => e = .returned (.bool true) ∧ Below w.heap.size w w' := by
  obtain ⟨x, rfl, hx⟩ := nat_u32 hn
  obtain ⟨h, rfl⟩ := nat_u8 hc
  have h1 := p.toNat_lt
  have h2 := q.toNat_lt
  have h3 := h.toNat_lt
  have hw : ∀ j : Nat, j ≤ 2 → IntKind.u32.wrap ((x : Int) + (j : Int)) = (((x + j) % 4294967296 : Nat) : Int) := fun j hj => by
    simp [IntKind.wrap, IntKind.bits, IntKind.signed]
  exact left_walk w x (1 + p.toNat) q.toNat h.toNat hx ((x + 1) % 4294967296) ((x + 2) % 4294967296) (by omega) (by omega) (hw 1 (by omega)) (hw 2 (by omega)) (by omega) (by omega) (by omega) (by omega) (by omega) h2 h3 p.toNat rfl
end Go.Proofs.Ytboinccdnaddmaa
