/- The walk of ClocksOrder. -/
import Derived.Test.YtboinccdnaddmabCkUtil
set_option linter.unusedSimpArgs false
set_option linter.unusedVariables false
namespace Go.Proofs.Ytboinccdnaddmab
open Go.RowKit Go.Maps

theorem mod_two {a L : Nat} (h0 : 0 < L) (h : a < L + L) : a % L = if a < L then a else a - L := by
  split
  · exact Nat.mod_eq_of_lt (by assumption)
  · rw [Nat.mod_eq_sub_mod (by omega)]; exact Nat.mod_eq_of_lt (by omega)
/-- Set one after another. -/
def gA (D : Nat → Nat) (i : Nat) : Nat → Option Nat := fun x => if x < i then some (D x) else none
/-- Set one after another, from another place on. -/
def gB (D : Nat → Nat) (L F i : Nat) : Nat → Option Nat := fun x => if x < L ∧ (x + (L - F % L)) % L < i then some (D x) else none
/-- Who is set behind tick t. -/
def oF (D : Nat → Nat) (L t : Nat) : Nat → Option Nat := fun x => if x < L ∧ t < D x then some (D x) else none
theorem gA_step (D : Nat → Nat) (i : Nat) : updF (gA D i) i (some (0 + D i)) = gA D (i + 1) := by
  funext x
  by_cases e : x = i
  · subst e; rw [updF_same]; unfold gA; rw [if_pos (by omega), Nat.zero_add]
  · rw [updF_other _ _ e]; unfold gA
    by_cases h : x < i
    · rw [if_pos h, if_pos (by omega)]
    · rw [if_neg h, if_neg (by omega)]
theorem rot0 (L f i x : Nat) (hf : f < L) (hi : i < L) (hx : x < L) : (x + (L - f)) % L = i ↔ x = (i + f) % L := by
  by_cases f0 : f = 0
  · subst f0
    rw [Nat.sub_zero, Nat.add_mod_right, Nat.mod_eq_of_lt hx, Nat.add_zero, Nat.mod_eq_of_lt hi]
  · rw [mod_two (by omega) (by omega), mod_two (by omega) (by omega)]
    split <;> split <;> omega
theorem rot (L F i x : Nat) (hi : i < L) (hx : x < L) : (x + (L - F % L)) % L = i ↔ x = (i + F) % L := by
  rw [rot0 L (F % L) i x (Nat.mod_lt _ (by omega)) hi hx, Nat.add_mod_mod]
theorem gB_step (D : Nat → Nat) (L F i : Nat) (hi : i < L) : updF (gB D L F i) ((i + F) % L) (some (0 + D ((i + F) % L))) = gB D L F (i + 1) := by
  funext x
  have hl : (i + F) % L < L := Nat.mod_lt _ (by omega)
  by_cases e : x = (i + F) % L
  · rw [← e, updF_same]; unfold gB
    rw [if_pos ⟨by omega, by rw [(rot L F i x hi (by omega)).2 e]; omega⟩, Nat.zero_add]
  · rw [updF_other _ _ e]; unfold gB
    by_cases hx : x < L
    · have h1 : (x + (L - F % L)) % L ≠ i := fun q => e ((rot L F i x hi hx).1 q)
      by_cases h : (x + (L - F % L)) % L < i
      · rw [if_pos ⟨hx, h⟩, if_pos ⟨hx, by omega⟩]
      · rw [if_neg (fun q => h q.2), if_neg (fun q => by have := q.2; omega)]
    · rw [if_neg (fun q => hx q.1), if_neg (fun q => hx q.1)]
theorem gA_end (D : Nat → Nat) (L : Nat) (hD : ∀ x, 1 ≤ D x) : gA D L = oF D L 0 := by
  funext x; unfold gA oF
  have := hD x
  by_cases h : x < L
  · rw [if_pos h, if_pos ⟨h, by omega⟩]
  · rw [if_neg h, if_neg (fun q => h q.1)]
theorem gB_end (D : Nat → Nat) (L F : Nat) (hD : ∀ x, 1 ≤ D x) : gB D L F L = oF D L 0 := by
  funext x; unfold gB oF
  have := hD x
  by_cases h : x < L
  · rw [if_pos ⟨h, Nat.mod_lt _ (by omega)⟩, if_pos ⟨h, by omega⟩]
  · rw [if_neg (fun q => h q.1), if_neg (fun q => h q.1)]
theorem gA_near (D : Nat → Nat) (i : Nat) (hi : i < 256) (hD : ∀ x, D x ≤ 50) : Near (gA D i) := fun x t h => by
  unfold gA at h; split at h
  · simp at h; have := hD x; omega
  · cases h
theorem gB_near (D : Nat → Nat) (L F i : Nat) (hi : L < 256) (hD : ∀ x, D x ≤ 50) : Near (gB D L F i) := fun x t h => by
  unfold gB at h; split at h
  · rename_i q; simp at h; have := hD x; omega
  · cases h
theorem oF_near (D : Nat → Nat) (L t : Nat) (hi : L < 256) (hD : ∀ x, D x ≤ 50) : Near (oF D L t) := fun x t h => by
  unfold oF at h; split at h
  · rename_i q; simp at h; have := hD x; omega
  · cases h
theorem oF_tick (D : Nat → Nat) (L t : Nat) : tickF (oF D L t) (t + 1) = oF D L (t + 1) := by
  funext x
  unfold tickF oF
  by_cases h : x < L
  · by_cases h1 : t + 1 < D x
    · have h2 : t < D x := by omega
      have h3 : ¬ D x = t + 1 := by omega
      simp [h, h1, h2, h3]
    · by_cases h2 : t < D x
      · have h3 : D x = t + 1 := by omega
        simp [h, h3]
      · simp [h, h1, h2]
  · simp [h]
def toldL (D : Nat → Nat) (L t : Nat) : List Nat := (List.range L).filter (fun x => decide (D x = t))
def pastL (D : Nat → Nat) (L t : Nat) : Nat := ((List.range L).filter (fun x => decide (D x ≤ t))).length
theorem toldL_asc (D : Nat → Nat) (L t : Nat) : (toldL D L t).Pairwise (· < ·) := List.Pairwise.filter _ List.pairwise_lt_range
theorem toldL_mem (D : Nat → Nat) (L t x : Nat) : oF D L t x = some (t + 1) ↔ x ∈ toldL D L (t + 1) := by
  unfold oF toldL
  simp only [List.mem_filter, List.mem_range, decide_eq_true_eq]
  constructor
  · intro h
    split at h
    · rename_i q; simp at h; exact ⟨q.1, h⟩
    · cases h
  · rintro ⟨h1, h2⟩
    rw [if_pos ⟨h1, by omega⟩, h2]
theorem past_step (D : Nat → Nat) (L t : Nat) : pastL D L t + (toldL D L (t + 1)).length = pastL D L (t + 1) := by
  unfold pastL toldL
  induction L with
  | zero => rfl
  | succ L ih =>
    rw [List.range_succ]
    simp only [List.filter_append, List.length_append]
    have : ((List.filter (fun x => decide (D x ≤ t)) [L]).length : Nat) + (List.filter (fun x => decide (D x = t + 1)) [L]).length = (List.filter (fun x => decide (D x ≤ t + 1)) [L]).length := by
      by_cases h1 : D L ≤ t
      · have h2 : ¬ D L = t + 1 := by omega
        have h3 : D L ≤ t + 1 := by omega
        simp [h1, h2, h3]
      · by_cases h2 : D L = t + 1
        · simp [h2]
        · have h3 : ¬ D L ≤ t + 1 := by omega
          simp [h1, h2, h3]
    omega
theorem past_zero (D : Nat → Nat) (L : Nat) (hD : ∀ x, 1 ≤ D x) : pastL D L 0 = 0 := by
  unfold pastL
  rw [List.filter_eq_nil_iff.2 (fun x _ => by have := hD x; simp; omega)]
  rfl
theorem past_all (D : Nat → Nat) (L : Nat) (hD : ∀ x, D x ≤ 50) : pastL D L 50 = L := by
  unfold pastL
  rw [List.filter_eq_self.2 (fun x _ => by simpa using hD x)]
  simp
theorem past_le (D : Nat → Nat) (L t : Nat) : pastL D L t ≤ L := by
  unfold pastL
  exact Nat.le_trans (List.length_filter_le _ _) (by simp)
set_option maxHeartbeats 1000000 in
set_option maxRecDepth 1000000 in
theorem order_walk (w : World) (F : Nat) (hF : F < 256) (vo : Value) (os : List UInt8) (ho : InAt w w.heap.size vo os) :
    Calls Try.prog 3 #[vo, .int .u8 (F : Int)] w fun e w' => e = .returned (.bool true) ∧ Below w.heap.size w w' := by
  have ka := alive_ok
  obtain ⟨bo, cb, rfl, hb1, hb2, hb3⟩ := in_cells ho
  clear ho
  go_enter Try.func3, Try.ntmps3
  go_wp2_with fail
  refine (ka w).mono ?_
  rintro e w1 ⟨rfl, b1⟩
  by_cases h60 : 60 < os.length
  · have h60z : (60 : Int) < (os.length : Int) := by omega
    clear hb3
    go_wp2_with fail
    refine (ka w1).mono ?_
    rintro e w2 ⟨rfl, b2⟩
    go_wp2
    go_ret
    exact ⟨rfl, b1.trans (b2.mono b1.size)⟩
  · have h60z : ¬ (60 : Int) < (os.length : Int) := by omega
    obtain ⟨l, hl⟩ : ∃ l, l = os.length := ⟨_, rfl⟩
    rw [← hl] at hb1 hb3 h60 h60z ⊢
    obtain ⟨D, hDe⟩ : ∃ D : Nat → Nat, ∀ k, D k = 1 + (os.getD k 0).toNat % 50 := ⟨fun k => 1 + (os.getD k 0).toNat % 50, fun _ => rfl⟩
    have hD1 : Hid (∀ k, 1 ≤ D k) := fun k => by rw [hDe]; omega
    have hD2 : Hid (∀ k, D k ≤ 50) := fun k => by rw [hDe]; omega
    have HB : Hid (0 < l → ∃ b off, bo = some ⟨b, off, none⟩ ∧ b < w.heap.size ∧ ∀ k, k < l → ∃ x : Nat, x < 256 ∧ (1 : Int) + (x : Int) % 50 = (D k : Int) ∧ w.cell? ⟨b, off + k, none⟩ = some (.int .u8 (x : Int))) := fun h => by
      obtain ⟨b, off, e, h1, h2⟩ := hb3 h
      exact ⟨b, off, e, h1, fun k hk => ⟨(os.getD k 0).toNat, (os.getD k 0).toNat_lt, by rw [hDe]; omega, h2 k hk⟩⟩
    clear hb3 hl hDe ka
    have kn := New_ok w1
    go_wp2_with fail
    refine kn.mono ?_
    rintro e w2 ⟨rfl, s1⟩
    clear kn
    obtain ⟨A, hA⟩ : ∃ A, A = w1.heap.size + 3 := ⟨_, rfl⟩
    rw [← hA] at s1 ⊢
    clear hA
    have kn := New_ok w2
    go_wp2_with fail
    refine kn.mono ?_
    rintro e w3 ⟨rfl, s2⟩
    clear kn
    obtain ⟨B, hB⟩ : ∃ B, B = w2.heap.size + 3 := ⟨_, rfl⟩
    rw [← hB] at s2 ⊢
    clear hB
    have S3 : Hid (St noB w1 w3 [clkP A 0 noneD 0, clkP B 0 noneD 0]) := (s1.and s2).swap
    clear s1 s2
    go_wp2_with fail
    go_loopw [7] (fun v W => ∃ i : Nat, v = .int .i64 i ∧ i ≤ l ∧ St noB w1 W [clkP A 0 (gA D i) i, clkP B 0 (gB D l F i) i]) (fun v _ => l - (intOf v).toNat)
    case atStart => exact ⟨0, rfl, by omega, by rw [show gA D 0 = noneD from by funext x; simp [gA, noneD], show gB D l F 0 = noneD from by funext x; simp [gB, noneD]]; exact S3.out⟩
    case round =>
      obtain ⟨i, rfl, hi, s6⟩ := hrel
      clear S3
      by_cases hkl : i < l
      · obtain ⟨bb, ob, rfl, hbb, hcb⟩ := HB.out (by omega)
        have BW : Below w.heap.size w wr := b1.trans (s6.below.mono b1.size)
        obtain ⟨k, hk⟩ : ∃ k : Nat, k = (i + F) % l := ⟨_, rfl⟩
        have hkl2 : k < l := by rw [hk]; exact Nat.mod_lt _ (by omega)
        obtain ⟨x, hx256, hxm, hxc⟩ := hcb i hkl
        obtain ⟨y, hy256, hym, hyc⟩ := hcb k hkl2
        have q0 : wr.cell? ⟨bb, ob + i, none⟩ = some (.int .u8 (x : Int)) := (BW.cell (p := ⟨bb, ob + i, none⟩) hbb).trans hxc
        have HQ : Hid (∀ {W : World}, Below w1.heap.size w1 W → W.cell? ⟨bb, ob + k, none⟩ = some (.int .u8 (y : Int))) := fun {W} hb => ((b1.trans (hb.mono b1.size)).cell (p := ⟨bb, ob + k, none⟩) hbb).trans hyc
        have HX : Hid ((1 : Int) + (x : Int) % 50 = (D i : Int)) := hxm
        have HY : Hid ((1 : Int) + (y : Int) % 50 = (D k : Int)) := hym
        have d1 := hD1.out i
        have d2 := hD2.out i
        have d3 := hD1.out k
        have d4 := hD2.out k
        have hl0 : 0 < l := by omega
        have HK : Hid (((i : Int) + (F : Int)) % (l : Int) = (k : Int)) := by show _ = _; rw [hk]; simp
        have HK2 : Hid (updF (gB D l F i) k (some (0 + D k)) = gB D l F (i + 1)) := by show _ = _; rw [hk]; exact gB_step D l F i hkl
        have kx := Set_ok i (D i) (by omega) (by omega) (by omega) (by omega) (by omega) (gA_near D i (by omega) hD2.out) s6
        rw [gA_step] at kx
        have hN : Hid (Near (gB D l F i)) := gB_near D l F i (by omega) hD2.out
        obtain ⟨di, hdi⟩ : ∃ di, di = D i := ⟨_, rfl⟩
        obtain ⟨dk, hdk⟩ : ∃ dk, dk = D k := ⟨_, rfl⟩
        rw [← hdi] at HX kx d1 d2
        rw [← hdk] at HY HK2 d3 d4
        have hlz : ¬ (l : Int) = 0 := by omega
        have hlz2 : ((l : Int) == 0) = false := by simpa using hlz
        clear hdi hdk hk hxm hym hxc hyc hcb BW s6 HB
        go_wp2_with fail
        rw [HK.out, HX.out]
        refine kx.mono ?_
        rintro e w7 ⟨rfl, s7⟩
        have q1 := HQ.out s7.below
        have ky := Set_ok k dk (by omega) (by omega) (by omega) (by omega) (by omega) hN.out s7.swap
        rw [HK2.out] at ky
        clear kx s7 q0
        go_wp2_with fail
        rw [HY.out]
        refine ky.mono ?_
        rintro e w8 ⟨rfl, s8⟩
        have S8 : Hid (St noB w1 w8 [clkP A 0 (gA D (i + 1)) (i + 1), clkP B 0 (gB D l F (i + 1)) (i + 1)]) := s8.swap
        clear ky s8 q1
        go_wp2_with fail
        go_roundw
        case rel => exact ⟨i + 1, by go_num, by omega, S8.out⟩
        case measure => (simp [intOf]; try omega)
      · obtain rfl : i = l := by omega
        rw [gA_end D i hD1.out, gB_end D i F hD1.out] at s6
        have S6 : Hid (St noB w1 wr [clkP A 0 (oF D i 0) i, clkP B 0 (oF D i 0) i]) := s6
        clear s6 HB
        go_wp2_with fail
        go_loopw [9, 10] (fun u v W => ∃ (j m : Nat) (t : Int), u = .int .i64 (m : Int) ∧ v = .int .i64 t ∧ t = (j : Int) + 1 ∧ j ≤ 50 ∧ m = pastL D i j ∧ St noB w1 W [clkP A j (oF D i j) i, clkP B j (oF D i j) i]) (fun _ v _ => 51 - (intOf v).toNat)
        case atStart => exact ⟨0, 0, 1, rfl, rfl, rfl, by omega, (past_zero D i hD1.out).symm, S6.out⟩
        case round =>
          obtain ⟨j, m, t, rfl, rfl, ht, hj, hm, s7⟩ := hrel
          clear S6
          have hmi : m ≤ i := by rw [hm]; exact past_le _ _ _
          have HM : Hid (m = pastL D i j) := hm
          have HT : Hid (t = (j : Int) + 1) := ht
          have t1 : 1 ≤ t := by omega
          have t3 : t ≤ 51 := by omega
          by_cases hj41 : j < 50
          · have t2 : t ≤ 50 := by omega
            have hN := oF_near D i j (by omega) hD2.out
            have kt := Tick_ok (by omega) (by omega) hN s7
            rw [oF_tick] at kt
            clear s7 ht hm
            go_wp2_with fail
            refine kt.mono ?_
            rintro e w8 ⟨v, ys, rfl, h1, h2, h3, s8⟩
            have hys : Hid (ys = toldL D i (j + 1)) := told_is h1 h2 (toldL_asc _ _ _) (fun x => toldL_mem D i j x)
            have ku := Tick_ok (by omega) (by omega) hN (s8.rt (K := [_, _, _]) 3 [2, 0, 1] (by decide))
            rw [oF_tick] at ku
            obtain ⟨ao, cap, hv, -⟩ := row_form s8.row
            subst hv
            obtain ⟨n, hn⟩ : ∃ n, n = ys.length := ⟨_, rfl⟩
            have HN : Hid (n = ys.length) := hn
            have hmn : Hid (m + n = pastL D i (j + 1)) := by show _ = _; rw [hn, HM.out, hys.out]; exact past_step D i j
            have hmn2 : m + n ≤ i := by rw [hmn.out]; exact past_le _ _ _
            rw [← hn]
            clear kt s8 hn
            go_wp2_with fail
            refine ku.mono ?_
            rintro e w9 ⟨v, zs, rfl, g1, g2, g3, s9⟩
            obtain rfl : zs = ys := told_is g1 g2 h1 (fun x => (h2 x).symm)
            have s10 := s9.rt (K := [_, _, _, _]) 4 [2, 0, 3, 1] (by decide)
            have ks := sameIds_ok w9 _ v _ _ (ids_row s10.row) (ids_row (s10.pick 1 rfl).row)
            rw [← HN.out] at ks
            have S10 : Hid (St noB w1 w9 [clkP A (j + 1) (oF D i (j + 1)) i, clkP B (j + 1) (oF D i (j + 1)) i]) := s10.drop.drop
            obtain ⟨av, cv, hv, -⟩ := row_form (s10.pick 1 rfl).row
            rw [← HN.out] at hv
            subst hv
            clear s9 s10 ku h1 h2 h3 g1 g2 g3 hN
            go_wp2_with fail
            refine ks.mono ?_
            rintro e w10 ⟨rfl, n6, rfl⟩
            have S11 : Hid (St noB w1 (w9.drewN n6) [clkP A (j + 1) (oF D i (j + 1)) i, clkP B (j + 1) (oF D i (j + 1)) i]) := S10.out.up (below_drewN _ _)
            clear ks S10
            rw [show decide True = true from decide_eq_true trivial]
            go_wp2
            go_roundw
            case rel => exact ⟨j + 1, m + n, t + 1, by simp, rfl, by have := HT.out; omega, by omega, hmn.out, S11.out⟩
            case measure => (simp [intOf]; try omega)
          · obtain rfl : j = 50 := by omega
            have e0 : m = i := by rw [hm]; exact past_all D i hD2.out
            subst e0
            have t2 : ¬ t ≤ 50 := by omega
            have BB : Hid (Below w1.heap.size w1 wr) := s7.below
            clear s7 ht hm HM
            go_wp2_with fail
            go_ret
            exact ⟨by simp, b1.trans (BB.out.mono b1.size)⟩
theorem order_any (w : World) (vo : Value) (os : List UInt8) (a : Int) (ho : InAt w w.heap.size vo os) (ha : (Lit.int .u8 a).wf = true) :
    Calls Try.prog 3 #[vo, .int .u8 a] w fun e w' => e = .returned (.bool true) ∧ Below w.heap.size w w' := by
  obtain ⟨q, rfl⟩ := nat_u8 ha
  exact order_walk w q.toNat q.toNat_lt vo os ho
end Go.Proofs.Ytboinccdnaddmab
