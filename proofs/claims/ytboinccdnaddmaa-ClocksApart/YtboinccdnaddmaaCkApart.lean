/- The walk of ClocksApart. (mk_apart.py) -/
import Derived.Test.YtboinccdnaddmaaCkFarL
import Derived.Test.YtboinccdnaddmaaCkTell
set_option linter.unusedSimpArgs false
set_option linter.unusedVariables false
namespace Go.Proofs.Ytboinccdnaddmaa
open Go.RowKit Go.Maps

set_option maxHeartbeats 1000000 in
set_option maxRecDepth 1000000 in
theorem apart_walk (w : World) (q : Nat) (hq : q < 256) (vo : Value) (os : List UInt8) (ho : InAt w w.heap.size vo os) :
    Calls Try.prog 7 #[.int .u8 (q : Int), vo] w fun e w' => e = .returned (.bool true) ∧ Below w.heap.size w w' := by
  have ka := alive_ok
  obtain ⟨bo, cb, rfl, hb1, hb2, hb3⟩ := in_cells ho
  clear ho
  go_enter Try.func7, Try.ntmps7
  go_wp2_with fail
  refine (ka w).mono ?_
  rintro e w1 ⟨rfl, b1⟩
  by_cases h60 : 100 < os.length
  · have h60z : (100 : Int) < (os.length : Int) := by omega
    clear hb3
    go_wp2_with fail
    refine (ka w1).mono ?_
    rintro e w2 ⟨rfl, b2⟩
    go_wp2
    go_ret
    exact ⟨rfl, b1.trans (b2.mono b1.size)⟩
  · have h60z : ¬ (100 : Int) < (os.length : Int) := by omega
    obtain ⟨l, hl⟩ : ∃ l, l = os.length := ⟨_, rfl⟩
    rw [← hl] at hb1 hb3 h60 h60z ⊢
    obtain ⟨oc, hoc⟩ : ∃ oc : Nat → UInt8, ∀ k, oc k = os.getD k 0 := ⟨fun k => os.getD k 0, fun _ => rfl⟩
    have HB : Hid (0 < l → ∃ b off, bo = some ⟨b, off, none⟩ ∧ b < w.heap.size ∧ ∀ k, k < l → w.cell? ⟨b, off + k, none⟩ = some (.int .u8 ((oc k).toNat : Int))) := fun h => by simp only [hoc]; exact hb3 h
    clear hb3 hl hoc
    have kn := New_ok w1
    go_wp2_with fail
    refine kn.mono ?_
    rintro e w2 ⟨rfl, s1⟩
    clear kn
    obtain ⟨A, hA⟩ : ∃ A, A = w1.heap.size + 3 := ⟨_, rfl⟩
    rw [← hA] at s1 ⊢
    clear hA
    have kn := New_ok w2
    go_wp2_with fail
    refine kn.mono ?_
    rintro e w3 ⟨rfl, s2⟩
    clear kn
    obtain ⟨B, hB⟩ : ∃ B, B = w2.heap.size + 3 := ⟨_, rfl⟩
    rw [← hB] at s2 ⊢
    clear hB
    have s3 := (s1.and s2).swap
    obtain ⟨N, hN⟩ : ∃ N : Nat, N = 1 + q % 40 := ⟨_, rfl⟩
    have HN : Hid ((1 : Int) + (q : Int) % 40 = (N : Int)) := by show _ = _; omega
    have hN1 : 1 ≤ N := by omega
    have hN40 : N ≤ 40 := by omega
    have ks := Set_ok 1000 N (by omega) (by omega) (by omega) (by omega) (by omega) near_none s3
    have nn := near_none.set (id := 1000) (t := 0 + N) (by omega) (by omega)
    clear hN s3 s1 s2
    go_wp2_with fail
    rw [HN.out]
    refine ks.mono ?_
    rintro e w4 ⟨rfl, s4⟩
    have S4 : Hid (St noB w1 w4 [clkP A 0 (updF noneD 1000 (some (0 + N))) 1, clkP B 0 noneD 0]) := s4
    clear ks s4
    go_wp2_with fail
    go_loopw [8] (fun v W => ∃ (k : Nat) (t : Int) (fA : Nat → Option Nat) (nA : Nat), v = .int .i64 t ∧ t = (k : Int) + 1 ∧ k ≤ N ∧ Near fA ∧ fA 1000 = (if k < N then some N else none) ∧ nA ≤ k + 1 ∧ St noB w1 W [clkP A k fA nA, clkP B k noneD 0]) (fun v _ => N + 1 - (intOf v).toNat)
    case atStart => exact ⟨0, 1, _, 1, rfl, rfl, by omega, nn, by rw [updF_same, if_pos (by omega), Nat.zero_add], by omega, S4.out⟩
    case round =>
      obtain ⟨k, t, fA, nA, rfl, ht, hk, hNr, hF, hnA, s5⟩ := hrel
      clear S4 nn HN
      have t1 : 1 ≤ t := by omega
      have t3 : t ≤ 41 := by omega
      have et : t - 1 = (k : Int) := by omega
      by_cases hlt : k < N
      · have t2 : t ≤ (N : Int) := by omega
        rw [if_pos hlt] at hF
        by_cases hkl : k < l
        · have kl1 : (k : Int) < (l : Int) := by omega
          obtain ⟨bb, ob, rfl, hbb, hcb⟩ := HB.out (by omega)
          have BW : Below w.heap.size w wr := b1.trans (s5.below.mono b1.size)
          obtain ⟨x, hx⟩ : ∃ x, x = (oc k).toNat := ⟨_, rfl⟩
          have q0 : wr.cell? ⟨bb, ob + k, none⟩ = some (.int .u8 (x : Int)) := by rw [hx]; exact (BW.cell (p := ⟨bb, ob + k, none⟩) hbb).trans (hcb k hkl)
          have hx256 : x < 256 := by rw [hx]; exact (oc k).toNat_lt
          clear hx hcb BW
          by_cases hx2 : x % 2 = 0
          · have r0 : (((x : Int) % 2) == 0) = true := by simpa using (by omega : (x : Int) % 2 = 0)
            obtain ⟨m7, hm7⟩ : ∃ m7 : Nat, m7 = 1 + x / 2 % 7 := ⟨_, rfl⟩
            have HM7 : Hid ((1 : Int) + (x : Int) / 2 % 7 = (m7 : Int)) := by show _ = _; omega
            have hm1 : 1 ≤ m7 := by omega
            have hm2 : m7 ≤ 7 := by omega
            have kx := Set_ok x m7 (by omega) (by omega) (by omega) (by omega) (by omega) hNr s5
            have hN' : Near (updF fA x (some (k + m7))) := hNr.set (by omega) (by omega)
            have hF' : updF fA x (some (k + m7)) 1000 = some N := by rw [updF_other _ _ (by omega)]; exact hF
            obtain ⟨fA', hfA⟩ : ∃ fA', fA' = updF fA x (some (k + m7)) := ⟨_, rfl⟩
            obtain ⟨nA', hnA2⟩ : ∃ nA', nA' = nA + 1 := ⟨_, rfl⟩
            have hnA' : nA' ≤ k + 2 := by omega
            rw [← hfA] at hN' hF' kx
            rw [← hnA2] at kx
            have hT0 : Hid (t = (k : Int) + 1) := ht
            clear hm7 s5 hF hNr hfA hnA2 ht HB hx2
            go_wp2_with fail
            rw [HM7.out]
            refine kx.mono ?_
            rintro e w6 ⟨rfl, s6⟩
            have ht := hT0.out
            have s5 := trivial
            clear kx hT0 HM7 hm1 hm2 q0 r0
            have HF : Hid (fA' 1000 = some N) := hF'
            have kt := Tick_ok (by omega) (by omega) hN' s6
            have HT : Hid (t = (k : Int) + 1) := ht
            clear s6 s5 hF' ht
            go_wp2_with fail
            refine kt.mono ?_
            rintro e w7 ⟨v, ys, rfl, h1, h2, h3, s7⟩
            have HM : Hid (1000 ∈ ys ↔ k + 1 = N) := by
              rw [h2, HF.out]
              show _ ↔ _
              simp; omega
            have hNt := hN'.told (k + 1)
            have hFt : Hid (tickF fA' (k + 1) 1000 = if k + 1 < N then some N else none) := by
              show _ = _
              unfold tickF
              rw [HF.out]
              by_cases q : k + 1 = N
              · subst q; simp
              · have : k + 1 < N := by omega
                have q2 : ¬ N = k + 1 := fun e => q e.symm
                simp [this, q2]
            obtain ⟨ao, cap, hv, hao⟩ := row_form s7.row
            have rc : Hid (∀ i y, ys[i]? = some y → ∃ g, ao = some ⟨g, 0, none⟩ ∧ w7.cell? ⟨g, i, none⟩ = some (u32V y)) := fun i y hi => by
              obtain ⟨g, rfl⟩ := hao (by obtain ⟨h, -⟩ := List.getElem?_eq_some_iff.1 hi; omega)
              exact ⟨g, rfl, row_at s7.row hv i (u32V y) (by rw [List.getElem?_map, hi]; rfl) (by simp)⟩
            subst hv
            have S7 : Hid (St noB w1 w7 (clkP B k noneD 0 :: [clkP A (k + 1) (tickF fA' (k + 1)) nA'])) := s7.drop.swap
            obtain ⟨m, hm⟩ : ∃ m, m = ys.length := ⟨_, rfl⟩
            have HL : Hid (m = ys.length) := hm
            rw [← hm] at h3 ⊢
            clear kt s7 h1 h2 hao hm
            go_wp2_with fail
            go_loopw [11, 12] (fun b v W => ∃ i : Nat, b = .bool (decide (1000 ∈ ys.take i)) ∧ v = .int .i64 i ∧ i ≤ m ∧ W = w7) (fun _ v _ => m - (intOf v).toNat)
            case atStart => exact ⟨0, by simp, rfl, by omega, rfl⟩
            case round =>
              obtain ⟨i, rfl, rfl, hi, rfl⟩ := hrel
              by_cases him : i < m
              · obtain ⟨y, hy⟩ : ∃ y, ys[i]? = some y := ⟨_, List.getElem?_eq_getElem (by rw [← HL.out]; exact him)⟩
                obtain ⟨g, rfl, c0⟩ := rc.out i y hy
                have hstep : ∀ b : Bool, (b = true ↔ (1000 ∈ ys.take i ∨ 1000 = y)) → Hid (decide (1000 ∈ ys.take (i + 1)) = b) := fun b hb => by
                  have e : (1000 ∈ ys.take (i + 1)) ↔ (1000 ∈ ys.take i ∨ 1000 = y) := by rw [List.take_add_one, hy, Option.toList_some, List.mem_append, List.mem_singleton]
                  show _ = _
                  rw [show decide (1000 ∈ ys.take (i + 1)) = decide (1000 ∈ ys.take i ∨ 1000 = y) from decide_eq_decide.2 e]
                  cases b
                  · exact decide_eq_false (fun h => by simpa using hb.2 h)
                  · exact decide_eq_true (hb.1 rfl)
                by_cases hin : 1000 ∈ ys.take i
                · have e0 : Hid _ := hstep true ⟨fun _ => .inl hin, fun _ => rfl⟩
                  rw [show decide (1000 ∈ ys.take i) = true from decide_eq_true hin]
                  clear hstep hin hy
                  go_wp2_with fail
                  go_roundw
                  case rel => exact ⟨i + 1, by rw [e0.out], by go_num, by omega, by trivial⟩
                  case measure => (simp [intOf]; try omega)
                · rw [show decide (1000 ∈ ys.take i) = false from decide_eq_false hin]
                  by_cases hy0 : y = 1000
                  · have e0 : Hid _ := hstep true ⟨fun _ => .inr hy0.symm, fun _ => rfl⟩
                    have e1 : ((y : Int) == 1000) = true := by simpa using (by omega : (y : Int) = 1000)
                    clear hstep hin hy hy0
                    go_wp2_with fail
                    go_roundw
                    case rel => exact ⟨i + 1, by rw [e0.out], by go_num, by omega, by trivial⟩
                    case measure => (simp [intOf]; try omega)
                  · have e0 : Hid _ := hstep false ⟨fun h => (by cases h), fun h => h.elim (fun h => absurd h hin) (fun h => absurd h.symm hy0)⟩
                    have e1 : ((y : Int) == 1000) = false := by simpa using (by omega : ¬ (y : Int) = 1000)
                    clear hstep hin hy hy0
                    go_wp2_with fail
                    go_roundw
                    case rel => exact ⟨i + 1, by rw [e0.out], by go_num, by omega, by trivial⟩
                    case measure => (simp [intOf]; try omega)
              · obtain rfl : i = m := by omega
                have ktb := Tick_ok (by omega) (by omega) near_none S7.out
                have hT : ∀ x, noneD x ≠ some (k + 1) := fun x h => by cases h
                rw [tickF_idle hT] at ktb
                have HNT : Hid (Near (tickF fA' (k + 1))) := hNt
                rw [List.take_of_length_le (by rw [HL.out]; exact Nat.le_refl _)]
                clear S7 rc hT hNt
                by_cases hkN : k + 1 = N
                · rw [show decide (1000 ∈ ys) = true from decide_eq_true (HM.out.2 hkN)]
                  have e1 : (t == (N : Int)) = true := by have := HT.out; simpa using (by omega : t = (N : Int))
                  clear HM
                  go_wp2_with fail
                  refine ktb.mono ?_
                  rintro e w8 ⟨vb, zs, rfl, g1, g2, g3, s8⟩
                  obtain rfl := nil_of g2 (fun x h => by cases h)
                  obtain ⟨bo, bcap, hv, -⟩ := row_form s8.row
                  subst hv
                  have S8 : Hid (St noB w1 w8 [clkP A (k + 1) (tickF fA' (k + 1)) nA', clkP B (k + 1) noneD 0]) := s8.drop.swap
                  clear ktb s8 g1 g2 g3
                  go_wp2
                  go_roundw
                  case rel => exact ⟨k + 1, t + 1, _, nA', rfl, by have := HT.out; omega, by omega, HNT.out, hFt.out, by omega, S8.out⟩
                  case measure => (simp [intOf]; try omega)
                · rw [show decide (1000 ∈ ys) = false from decide_eq_false (fun h => hkN (HM.out.1 h))]
                  have e1 : (t == (N : Int)) = false := by have := HT.out; simpa using (by omega : ¬ t = (N : Int))
                  clear HM
                  go_wp2_with fail
                  refine ktb.mono ?_
                  rintro e w8 ⟨vb, zs, rfl, g1, g2, g3, s8⟩
                  obtain rfl := nil_of g2 (fun x h => by cases h)
                  obtain ⟨bo, bcap, hv, -⟩ := row_form s8.row
                  subst hv
                  have S8 : Hid (St noB w1 w8 [clkP A (k + 1) (tickF fA' (k + 1)) nA', clkP B (k + 1) noneD 0]) := s8.drop.swap
                  clear ktb s8 g1 g2 g3
                  go_wp2
                  go_roundw
                  case rel => exact ⟨k + 1, t + 1, _, nA', rfl, by have := HT.out; omega, by omega, HNT.out, hFt.out, by omega, S8.out⟩
                  case measure => (simp [intOf]; try omega)
          · have r0 : (((x : Int) % 2) == 0) = false := by simpa using (by omega : ¬ (x : Int) % 2 = 0)
            have x1 : 1 ≤ x := by omega
            obtain ⟨xx, hxx⟩ : ∃ xx : Nat, xx = x - 1 := ⟨_, rfl⟩
            have HXX : Hid ((x : Int) - 1 = (xx : Int)) := by show _ = _; omega
            have hxx2 : xx < 256 := by omega
            have kx := Clear_ok xx (by omega) hNr s5
            have hN' : Near (updF fA xx none) := hNr.clear xx
            have hF' : updF fA xx none 1000 = some N := by rw [updF_other _ _ (by omega)]; exact hF
            obtain ⟨fA', hfA⟩ : ∃ fA', fA' = updF fA xx none := ⟨_, rfl⟩
            obtain ⟨nA', hnA2⟩ : ∃ nA', nA' = nA := ⟨_, rfl⟩
            have hnA' : nA' ≤ k + 2 := by omega
            rw [← hfA] at hN' hF' kx
            rw [← hnA2] at kx
            generalize (if (fA xx).isSome = true then (0 : Int) else 6) = ce at kx
            have hT0 : Hid (t = (k : Int) + 1) := ht
            clear hxx s5 hF hNr hfA hnA2 ht HB hx2
            go_wp2_with fail
            rw [HXX.out]
            refine kx.mono ?_
            rintro e w6 ⟨rfl, s6⟩
            have ht := hT0.out
            have s5 := trivial
            clear kx hT0 HXX x1 q0 r0
            have HF : Hid (fA' 1000 = some N) := hF'
            have kt := Tick_ok (by omega) (by omega) hN' s6
            have HT : Hid (t = (k : Int) + 1) := ht
            clear s6 s5 hF' ht
            go_wp2_with fail
            refine kt.mono ?_
            rintro e w7 ⟨v, ys, rfl, h1, h2, h3, s7⟩
            have HM : Hid (1000 ∈ ys ↔ k + 1 = N) := by
              rw [h2, HF.out]
              show _ ↔ _
              simp; omega
            have hNt := hN'.told (k + 1)
            have hFt : Hid (tickF fA' (k + 1) 1000 = if k + 1 < N then some N else none) := by
              show _ = _
              unfold tickF
              rw [HF.out]
              by_cases q : k + 1 = N
              · subst q; simp
              · have : k + 1 < N := by omega
                have q2 : ¬ N = k + 1 := fun e => q e.symm
                simp [this, q2]
            obtain ⟨ao, cap, hv, hao⟩ := row_form s7.row
            have rc : Hid (∀ i y, ys[i]? = some y → ∃ g, ao = some ⟨g, 0, none⟩ ∧ w7.cell? ⟨g, i, none⟩ = some (u32V y)) := fun i y hi => by
              obtain ⟨g, rfl⟩ := hao (by obtain ⟨h, -⟩ := List.getElem?_eq_some_iff.1 hi; omega)
              exact ⟨g, rfl, row_at s7.row hv i (u32V y) (by rw [List.getElem?_map, hi]; rfl) (by simp)⟩
            subst hv
            have S7 : Hid (St noB w1 w7 (clkP B k noneD 0 :: [clkP A (k + 1) (tickF fA' (k + 1)) nA'])) := s7.drop.swap
            obtain ⟨m, hm⟩ : ∃ m, m = ys.length := ⟨_, rfl⟩
            have HL : Hid (m = ys.length) := hm
            rw [← hm] at h3 ⊢
            clear kt s7 h1 h2 hao hm
            go_wp2_with fail
            go_loopw [11, 12] (fun b v W => ∃ i : Nat, b = .bool (decide (1000 ∈ ys.take i)) ∧ v = .int .i64 i ∧ i ≤ m ∧ W = w7) (fun _ v _ => m - (intOf v).toNat)
            case atStart => exact ⟨0, by simp, rfl, by omega, rfl⟩
            case round =>
              obtain ⟨i, rfl, rfl, hi, rfl⟩ := hrel
              by_cases him : i < m
              · obtain ⟨y, hy⟩ : ∃ y, ys[i]? = some y := ⟨_, List.getElem?_eq_getElem (by rw [← HL.out]; exact him)⟩
                obtain ⟨g, rfl, c0⟩ := rc.out i y hy
                have hstep : ∀ b : Bool, (b = true ↔ (1000 ∈ ys.take i ∨ 1000 = y)) → Hid (decide (1000 ∈ ys.take (i + 1)) = b) := fun b hb => by
                  have e : (1000 ∈ ys.take (i + 1)) ↔ (1000 ∈ ys.take i ∨ 1000 = y) := by rw [List.take_add_one, hy, Option.toList_some, List.mem_append, List.mem_singleton]
                  show _ = _
                  rw [show decide (1000 ∈ ys.take (i + 1)) = decide (1000 ∈ ys.take i ∨ 1000 = y) from decide_eq_decide.2 e]
                  cases b
                  · exact decide_eq_false (fun h => by simpa using hb.2 h)
                  · exact decide_eq_true (hb.1 rfl)
                by_cases hin : 1000 ∈ ys.take i
                · have e0 : Hid _ := hstep true ⟨fun _ => .inl hin, fun _ => rfl⟩
                  rw [show decide (1000 ∈ ys.take i) = true from decide_eq_true hin]
                  clear hstep hin hy
                  go_wp2_with fail
                  go_roundw
                  case rel => exact ⟨i + 1, by rw [e0.out], by go_num, by omega, by trivial⟩
                  case measure => (simp [intOf]; try omega)
                · rw [show decide (1000 ∈ ys.take i) = false from decide_eq_false hin]
                  by_cases hy0 : y = 1000
                  · have e0 : Hid _ := hstep true ⟨fun _ => .inr hy0.symm, fun _ => rfl⟩
                    have e1 : ((y : Int) == 1000) = true := by simpa using (by omega : (y : Int) = 1000)
                    clear hstep hin hy hy0
                    go_wp2_with fail
                    go_roundw
                    case rel => exact ⟨i + 1, by rw [e0.out], by go_num, by omega, by trivial⟩
                    case measure => (simp [intOf]; try omega)
                  · have e0 : Hid _ := hstep false ⟨fun h => (by cases h), fun h => h.elim (fun h => absurd h hin) (fun h => absurd h.symm hy0)⟩
                    have e1 : ((y : Int) == 1000) = false := by simpa using (by omega : ¬ (y : Int) = 1000)
                    clear hstep hin hy hy0
                    go_wp2_with fail
                    go_roundw
                    case rel => exact ⟨i + 1, by rw [e0.out], by go_num, by omega, by trivial⟩
                    case measure => (simp [intOf]; try omega)
              · obtain rfl : i = m := by omega
                have ktb := Tick_ok (by omega) (by omega) near_none S7.out
                have hT : ∀ x, noneD x ≠ some (k + 1) := fun x h => by cases h
                rw [tickF_idle hT] at ktb
                have HNT : Hid (Near (tickF fA' (k + 1))) := hNt
                rw [List.take_of_length_le (by rw [HL.out]; exact Nat.le_refl _)]
                clear S7 rc hT hNt
                by_cases hkN : k + 1 = N
                · rw [show decide (1000 ∈ ys) = true from decide_eq_true (HM.out.2 hkN)]
                  have e1 : (t == (N : Int)) = true := by have := HT.out; simpa using (by omega : t = (N : Int))
                  clear HM
                  go_wp2_with fail
                  refine ktb.mono ?_
                  rintro e w8 ⟨vb, zs, rfl, g1, g2, g3, s8⟩
                  obtain rfl := nil_of g2 (fun x h => by cases h)
                  obtain ⟨bo, bcap, hv, -⟩ := row_form s8.row
                  subst hv
                  have S8 : Hid (St noB w1 w8 [clkP A (k + 1) (tickF fA' (k + 1)) nA', clkP B (k + 1) noneD 0]) := s8.drop.swap
                  clear ktb s8 g1 g2 g3
                  go_wp2
                  go_roundw
                  case rel => exact ⟨k + 1, t + 1, _, nA', rfl, by have := HT.out; omega, by omega, HNT.out, hFt.out, by omega, S8.out⟩
                  case measure => (simp [intOf]; try omega)
                · rw [show decide (1000 ∈ ys) = false from decide_eq_false (fun h => hkN (HM.out.1 h))]
                  have e1 : (t == (N : Int)) = false := by have := HT.out; simpa using (by omega : ¬ t = (N : Int))
                  clear HM
                  go_wp2_with fail
                  refine ktb.mono ?_
                  rintro e w8 ⟨vb, zs, rfl, g1, g2, g3, s8⟩
                  obtain rfl := nil_of g2 (fun x h => by cases h)
                  obtain ⟨bo, bcap, hv, -⟩ := row_form s8.row
                  subst hv
                  have S8 : Hid (St noB w1 w8 [clkP A (k + 1) (tickF fA' (k + 1)) nA', clkP B (k + 1) noneD 0]) := s8.drop.swap
                  clear ktb s8 g1 g2 g3
                  go_wp2
                  go_roundw
                  case rel => exact ⟨k + 1, t + 1, _, nA', rfl, by have := HT.out; omega, by omega, HNT.out, hFt.out, by omega, S8.out⟩
                  case measure => (simp [intOf]; try omega)
        · have kl1 : ¬ (k : Int) < (l : Int) := by omega
          obtain ⟨fA', hfA⟩ : ∃ fA', fA' = fA := ⟨_, rfl⟩
          obtain ⟨nA', hnA2⟩ : ∃ nA', nA' = nA := ⟨_, rfl⟩
          have hnA' : nA' ≤ k + 2 := by omega
          have hN' : Near fA' := by rw [hfA]; exact hNr
          have hF' : fA' 1000 = some N := by rw [hfA]; exact hF
          have s6 : St noB w1 wr [clkP A k fA' nA', clkP B k noneD 0] := by rw [hfA, hnA2]; exact s5
          clear hfA hF hNr HB hnA2
          have HF : Hid (fA' 1000 = some N) := hF'
          have kt := Tick_ok (by omega) (by omega) hN' s6
          have HT : Hid (t = (k : Int) + 1) := ht
          clear s6 s5 hF' ht
          go_wp2_with fail
          refine kt.mono ?_
          rintro e w7 ⟨v, ys, rfl, h1, h2, h3, s7⟩
          have HM : Hid (1000 ∈ ys ↔ k + 1 = N) := by
            rw [h2, HF.out]
            show _ ↔ _
            simp; omega
          have hNt := hN'.told (k + 1)
          have hFt : Hid (tickF fA' (k + 1) 1000 = if k + 1 < N then some N else none) := by
            show _ = _
            unfold tickF
            rw [HF.out]
            by_cases q : k + 1 = N
            · subst q; simp
            · have : k + 1 < N := by omega
              have q2 : ¬ N = k + 1 := fun e => q e.symm
              simp [this, q2]
          obtain ⟨ao, cap, hv, hao⟩ := row_form s7.row
          have rc : Hid (∀ i y, ys[i]? = some y → ∃ g, ao = some ⟨g, 0, none⟩ ∧ w7.cell? ⟨g, i, none⟩ = some (u32V y)) := fun i y hi => by
            obtain ⟨g, rfl⟩ := hao (by obtain ⟨h, -⟩ := List.getElem?_eq_some_iff.1 hi; omega)
            exact ⟨g, rfl, row_at s7.row hv i (u32V y) (by rw [List.getElem?_map, hi]; rfl) (by simp)⟩
          subst hv
          have S7 : Hid (St noB w1 w7 (clkP B k noneD 0 :: [clkP A (k + 1) (tickF fA' (k + 1)) nA'])) := s7.drop.swap
          obtain ⟨m, hm⟩ : ∃ m, m = ys.length := ⟨_, rfl⟩
          have HL : Hid (m = ys.length) := hm
          rw [← hm] at h3 ⊢
          clear kt s7 h1 h2 hao hm
          go_wp2_with fail
          go_loopw [11, 12] (fun b v W => ∃ i : Nat, b = .bool (decide (1000 ∈ ys.take i)) ∧ v = .int .i64 i ∧ i ≤ m ∧ W = w7) (fun _ v _ => m - (intOf v).toNat)
          case atStart => exact ⟨0, by simp, rfl, by omega, rfl⟩
          case round =>
            obtain ⟨i, rfl, rfl, hi, rfl⟩ := hrel
            by_cases him : i < m
            · obtain ⟨y, hy⟩ : ∃ y, ys[i]? = some y := ⟨_, List.getElem?_eq_getElem (by rw [← HL.out]; exact him)⟩
              obtain ⟨g, rfl, c0⟩ := rc.out i y hy
              have hstep : ∀ b : Bool, (b = true ↔ (1000 ∈ ys.take i ∨ 1000 = y)) → Hid (decide (1000 ∈ ys.take (i + 1)) = b) := fun b hb => by
                have e : (1000 ∈ ys.take (i + 1)) ↔ (1000 ∈ ys.take i ∨ 1000 = y) := by rw [List.take_add_one, hy, Option.toList_some, List.mem_append, List.mem_singleton]
                show _ = _
                rw [show decide (1000 ∈ ys.take (i + 1)) = decide (1000 ∈ ys.take i ∨ 1000 = y) from decide_eq_decide.2 e]
                cases b
                · exact decide_eq_false (fun h => by simpa using hb.2 h)
                · exact decide_eq_true (hb.1 rfl)
              by_cases hin : 1000 ∈ ys.take i
              · have e0 : Hid _ := hstep true ⟨fun _ => .inl hin, fun _ => rfl⟩
                rw [show decide (1000 ∈ ys.take i) = true from decide_eq_true hin]
                clear hstep hin hy
                go_wp2_with fail
                go_roundw
                case rel => exact ⟨i + 1, by rw [e0.out], by go_num, by omega, by trivial⟩
                case measure => (simp [intOf]; try omega)
              · rw [show decide (1000 ∈ ys.take i) = false from decide_eq_false hin]
                by_cases hy0 : y = 1000
                · have e0 : Hid _ := hstep true ⟨fun _ => .inr hy0.symm, fun _ => rfl⟩
                  have e1 : ((y : Int) == 1000) = true := by simpa using (by omega : (y : Int) = 1000)
                  clear hstep hin hy hy0
                  go_wp2_with fail
                  go_roundw
                  case rel => exact ⟨i + 1, by rw [e0.out], by go_num, by omega, by trivial⟩
                  case measure => (simp [intOf]; try omega)
                · have e0 : Hid _ := hstep false ⟨fun h => (by cases h), fun h => h.elim (fun h => absurd h hin) (fun h => absurd h.symm hy0)⟩
                  have e1 : ((y : Int) == 1000) = false := by simpa using (by omega : ¬ (y : Int) = 1000)
                  clear hstep hin hy hy0
                  go_wp2_with fail
                  go_roundw
                  case rel => exact ⟨i + 1, by rw [e0.out], by go_num, by omega, by trivial⟩
                  case measure => (simp [intOf]; try omega)
            · obtain rfl : i = m := by omega
              have ktb := Tick_ok (by omega) (by omega) near_none S7.out
              have hT : ∀ x, noneD x ≠ some (k + 1) := fun x h => by cases h
              rw [tickF_idle hT] at ktb
              have HNT : Hid (Near (tickF fA' (k + 1))) := hNt
              rw [List.take_of_length_le (by rw [HL.out]; exact Nat.le_refl _)]
              clear S7 rc hT hNt
              by_cases hkN : k + 1 = N
              · rw [show decide (1000 ∈ ys) = true from decide_eq_true (HM.out.2 hkN)]
                have e1 : (t == (N : Int)) = true := by have := HT.out; simpa using (by omega : t = (N : Int))
                clear HM
                go_wp2_with fail
                refine ktb.mono ?_
                rintro e w8 ⟨vb, zs, rfl, g1, g2, g3, s8⟩
                obtain rfl := nil_of g2 (fun x h => by cases h)
                obtain ⟨bo, bcap, hv, -⟩ := row_form s8.row
                subst hv
                have S8 : Hid (St noB w1 w8 [clkP A (k + 1) (tickF fA' (k + 1)) nA', clkP B (k + 1) noneD 0]) := s8.drop.swap
                clear ktb s8 g1 g2 g3
                go_wp2
                go_roundw
                case rel => exact ⟨k + 1, t + 1, _, nA', rfl, by have := HT.out; omega, by omega, HNT.out, hFt.out, by omega, S8.out⟩
                case measure => (simp [intOf]; try omega)
              · rw [show decide (1000 ∈ ys) = false from decide_eq_false (fun h => hkN (HM.out.1 h))]
                have e1 : (t == (N : Int)) = false := by have := HT.out; simpa using (by omega : ¬ t = (N : Int))
                clear HM
                go_wp2_with fail
                refine ktb.mono ?_
                rintro e w8 ⟨vb, zs, rfl, g1, g2, g3, s8⟩
                obtain rfl := nil_of g2 (fun x h => by cases h)
                obtain ⟨bo, bcap, hv, -⟩ := row_form s8.row
                subst hv
                have S8 : Hid (St noB w1 w8 [clkP A (k + 1) (tickF fA' (k + 1)) nA', clkP B (k + 1) noneD 0]) := s8.drop.swap
                clear ktb s8 g1 g2 g3
                go_wp2
                go_roundw
                case rel => exact ⟨k + 1, t + 1, _, nA', rfl, by have := HT.out; omega, by omega, HNT.out, hFt.out, by omega, S8.out⟩
                case measure => (simp [intOf]; try omega)
      · obtain rfl : k = N := by omega
        have t2 : ¬ t ≤ (k : Int) := by omega
        have B : Hid (Below w1.heap.size w1 wr) := s5.below
        clear s5 hF hNr ht HB
        go_wp2
        go_ret
        exact ⟨rfl, b1.trans (B.out.mono b1.size)⟩
theorem apart_any (w : World) (vo : Value) (a : Int) (os : List UInt8) (ha : (Lit.int .u8 a).wf = true) (ho : InAt w w.heap.size vo os) :
    Calls Try.prog 7 #[.int .u8 a, vo] w fun e w' => e = .returned (.bool true) ∧ Below w.heap.size w w' := by
  obtain ⟨q, rfl⟩ := nat_u8 ha
  exact apart_walk w q.toNat q.toNat_lt vo os ho
end Go.Proofs.Ytboinccdnaddmaa
