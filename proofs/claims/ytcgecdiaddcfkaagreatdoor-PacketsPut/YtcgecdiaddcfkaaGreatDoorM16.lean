/- Texts of this proof, laid into one. -/
import Derived.Test.YtcgecdiaddcfkaaGreatDoorM15
import Derived.Test.YtcgecdiaddcfkaaGreatDoorM13
/- The walk of the document's own PutOps. -/
set_option linter.unusedSimpArgs false
set_option linter.unusedVariables false
namespace Go.Proofs.YtcgecdiaddcfkaaGreatDoor
open Go.RowKit

set_option maxHeartbeats 4000000 in
set_option maxRecDepth 1000000 in
theorem refPutOps_any (w : World) (vl : Value) (l : List OpD) (hs : SlAt 4 opCells w w.heap.size vl l) (hsm : ∀ x ∈ l, opSm x) :
    Calls Tryz.prog 33 #[vl] w fun e w' => ∃ v, e = .returned (.tuple #[v, .int .i64 ((putOps l).2 : Int)]) ∧ BsAt w' w.heap.size v (putOps l).1 ∧ Below w.heap.size w w' := by
  obtain ⟨i0, hi, hz0, hz1, hz2⟩ := info_parts info_u8
  obtain ⟨ao, cap, rfl, hlc, hcm, hc⟩ := hs
  unfold maxLen at hcm
  obtain ⟨R, hR⟩ : ∃ R, R = putOps l := ⟨_, rfl⟩
  rw [← hR]
  have HR : Hid (R = putOps l) := hR
  clear hR
  go_enter Tryz.func33, Tryz.ntmps33
  go_wp2
  go_loopw [4] (fun i wr => ∃ k : Nat, k ≤ l.length ∧ i = .int .i64 k ∧ Hid ((l.take k).all opOk = true) ∧ Below w.heap.size w wr) (fun i _ => l.length - (intOf i).toNat)
  case atStart => exact ⟨0, by omega, rfl, rfl, Below.refl _ _⟩
  case round =>
    obtain ⟨k, hk, rfl, hH, hbw⟩ := hrel
    by_cases h1 : k < l.length
    · obtain ⟨b, off, rfl, hbl, hcell⟩ := hc (by omega)
      obtain ⟨x, hx⟩ : ∃ x, x = l[k]'h1 := ⟨_, rfl⟩
      have cc : ∀ j u, (opCells x)[j]? = some u → wr.cell? ⟨b, off + k * 4 + j, none⟩ = some u := fun j u hu => (hbw.cell (p := ⟨b, _, none⟩) hbl).trans (hcell k h1 j u (by rw [← hx]; exact hu))
      have c0 := cc 0 _ rfl
      have c1 := cc 1 _ rfl
      have c2 := cc 2 _ rfl
      have c3 := cc 3 _ rfl
      simp only [Nat.add_zero] at c0
      have kc := refCheckOp_any wr x (hsm x (by rw [hx]; exact List.getElem_mem _))
      unfold opV at kc
      have HX : Hid (x = l[k]'h1) := hx
      clear cc hx hcell hc
      have i1 : (k : Int) < (l.length : Int) := by omega
      have hyes : Hid (opOk x = true → (l.take (k + 1)).all opOk = true) := fun h => all_take_succ l _ k h1 hH.out (by rw [← HX.out]; exact h)
      have hno : Hid (opOk x = false → R = ([], 1)) := fun h => by rw [HR.out]; exact putOps_arg (all_get_false l _ k h1 (by rw [← HX.out]; exact h))
      clear HX
      generalize opOk x = ok at *
      cases ok with
      | false =>
        have hn : Hid (R = ([], 1)) := hno.out rfl
        clear hno hyes hH
        go_wp2_with fail
        refine kc.mono ?_
        rintro e w1 ⟨rfl, hb1⟩
        clear kc
        go_wp2
        go_ret2
        exact ⟨_, by rw [hn.out]; rfl, by rw [hn.out]; exact BsAt_nil _ _, hbw.trans (hb1.mono hbw.size)⟩
      | true =>
        have hy : Hid ((l.take (k + 1)).all opOk = true) := hyes.out rfl
        clear hno hyes hH
        go_wp2_with fail
        refine kc.mono ?_
        rintro e w1 ⟨rfl, hb1⟩
        clear kc
        go_wp2
        go_roundw
        case rel => exact ⟨k + 1, by omega, by go_num, hy, hbw.trans (hb1.mono hbw.size)⟩
        case measure => simp [intOf]; omega
    · have hall : l.all opOk = true := by
        have h := hH.out
        rwa [List.take_of_length_le (by omega)] at h
      clear hH
      by_cases hn : l.length ≤ 16
      case neg =>
        have hR : Hid (R = ([], 3)) := by show _ = _; rw [HR.out]; exact putOps_limit hall hn
        clear hc hall HR
        go_wp2
        go_ret2
        exact ⟨_, by rw [hR.out]; rfl, by rw [hR.out]; exact BsAt_nil _ _, hbw⟩
      have hR : Hid (R = (encList encOp l, 0)) := by show _ = _; rw [HR.out]; exact putOps_fits hall hn
      have HA : Hid (l.all opOk = true) := hall
      have hlen := putOps_len hall
      have kct := refCount_any wr l.length (by omega)
      clear hall HR
      go_wp2_with fail
      refine kct.mono ?_
      rintro e w1 ⟨v1, rfl, o1, b1⟩
      have b1' := hbw.trans (b1.mono hbw.size)
      have o1' : BsAt w1 w.heap.size v1 (be2 l.length) := own_mono' o1 hbw.size
      clear kct o1 b1 hbw
      obtain ⟨a1, n1, c1, rfl⟩ := own_slice o1'
      go_wp2
      go_loopw [5, 6] (fun vb i wr => ∃ k : Nat, k ≤ l.length ∧ i = .int .i64 k ∧ BsAt wr w.heap.size vb (be2 l.length ++ (l.take k).flatMap encOp) ∧ Below w.heap.size w wr) (fun _ i _ => l.length - (intOf i).toNat)
      case atStart => exact ⟨0, by omega, rfl, by simpa using o1', b1'⟩
      case round =>
        clear o1' b1'
        obtain ⟨k, hk, rfl, hB, hb⟩ := hrel
        by_cases h1 : k < l.length
        · obtain ⟨b, off, rfl, hbl, hcell⟩ := hc (by omega)
          obtain ⟨x, hx⟩ : ∃ x, x = l[k]'h1 := ⟨_, rfl⟩
          have cc : ∀ W, Below w.heap.size w W → ∀ j u, (opCells x)[j]? = some u → W.cell? ⟨b, off + k * 4 + j, none⟩ = some u := fun W hW j u hu => (hW.cell hbl).trans (hcell k h1 j u (by rw [← hx]; exact hu))
          have hE : Hid (be2 l.length ++ (l.take (k + 1)).flatMap encOp = be2 l.length ++ (l.take k).flatMap encOp ++ [x.kind] ++ txt x.key ++ txt x.to ++ be4 x.value.toNat) := by
            show _ = _
            rw [flat_take_succ encOp l k h1, ← hx]; simp [encOp]
          have hlk := flat_take_len encOp l k
          have hok := List.all_eq_true.mp HA.out _ (List.getElem_mem h1)
          rw [← hx] at hok
          have hxk := opOk_key hok
          have hxt := opOk_to hok
          clear hx hcell hc hok
          have HL : Hid ((be2 l.length ++ (l.take k).flatMap encOp).length ≤ 200000) := by show _ ≤ _; rw [List.length_append, be2_len]; omega
          clear hlk
          generalize be2 l.length ++ (l.take k).flatMap encOp = B0 at *
          have i1 : (k : Int) < (l.length : Int) := by omega
          obtain ⟨av, nv, cv, rfl⟩ := own_slice hB
          have c0 := cc wr hb 0 _ rfl
          simp only [Nat.add_zero] at c0
          have hB' := BsAt.below hB (below_one wr (.cells #[.int .u8 (x.kind.toNat : Int)] 5))
          have hb' := hb.trans ((below_one wr (.cells #[.int .u8 (x.kind.toNat : Int)] 5)).mono hb.size)
          have hz' := hb'.size
          have src : Src Tryz.prog 1 30 (.slice (some ⟨wr.heap.size, 0, none⟩) 1 1) 1 (bcells [x.kind]) (wr.alloc (.cells #[.int .u8 (x.kind.toNat : Int)] 5)) := Src.ofSlice _ Tryz.underlying30 ⟨wr.heap.size, 0, none⟩ 1 1 (bcells [x.kind]) rfl (news_of [x.kind] _) (bcells_one _)
          clear hB hb
          go_wp2_with (at_builtin; refine wpList_append_own_src _ rfl (.tmp 31) (.tmp 37) 30 30 rfl w.heap.size 5 i0 (.int .u8 0) 1 1 Tryz.underlying30 hi hz0 hz1 hz2 rfl (by decide) (.slice av nv cv) B0.length _ rfl hB' (.slice (some ⟨wr.heap.size, 0, none⟩) 1 1) 1 _ rfl src (by have := HL.out; unfold maxLen; omega) (by have := HL.out; omega) hz' ?_; intro v2 w2 ho2 hg2 _; have R2 := bs_next (news := [x.kind]) hB' hb' hz' ho2 hg2; obtain ⟨hB2, hb2⟩ := R2; obtain ⟨av2, nv2, cv2, rfl⟩ := own_slice hB2; have d1 := cc w2 hb2 1 _ rfl)
          clear src hB' hb' hz' c0
          have L1 : Hid ((B0 ++ [x.kind]).length ≤ 200001) := by have := HL.out; show _ ≤ _; rw [List.length_append, List.length_singleton]; omega
          clear HL
          generalize B0 ++ [x.kind] = B1 at *
          have kt := refText_any w2 x.key (by omega)
          refine kt.mono ?_
          rintro e w3 ⟨v3, rfl, o3, b3⟩
          have hB3 := hB2.below b3
          have hb3 := hb2.trans (b3.mono hb2.size)
          obtain ⟨g3, cap3, rfl, src3⟩ := src_own o3 (by rw [txt_len]; omega)
          have hz3 := hb3.size
          have M3 : Hid (B1.length + (txt x.key).length ≤ maxLen ∧ (B1.length + (txt x.key).length) * 1 ≤ 140737488355328) := by
            have := L1.out
            show _ ∧ _
            rw [txt_len]; unfold maxLen; omega
          clear kt hB2 o3 b3 d1
          go_wp2_with (at_builtin; refine wpList_append_own_src _ rfl (.tmp 39) (.tmp 45) 30 30 rfl w.heap.size 5 i0 (.int .u8 0) 1 1 Tryz.underlying30 hi hz0 hz1 hz2 rfl (by decide) (.slice av2 nv2 cv2) B1.length _ rfl hB3 (.slice (some ⟨g3, 0, none⟩) (txt x.key).length cap3) (txt x.key).length _ rfl src3 M3.out.1 M3.out.2 hz3 ?_; intro v4 w4 ho4 hg4 _; have R4 := bs_next hB3 hb3 hz3 ho4 hg4; obtain ⟨hB4, hb4⟩ := R4; obtain ⟨av4, nv4, cv4, rfl⟩ := own_slice hB4; have d2 := cc w4 hb4 2 _ rfl)
          clear src3 hB3 hb3 hz3 M3
          have L2 : Hid ((B1 ++ txt x.key).length ≤ 200301) := by have := L1.out; show _ ≤ _; rw [List.length_append, txt_len]; omega
          clear L1
          generalize B1 ++ txt x.key = B2 at *
          have kt := refText_any w4 x.to (by omega)
          refine kt.mono ?_
          rintro e w5 ⟨v5, rfl, o5, b5⟩
          have hB5 := hB4.below b5
          have hb5 := hb4.trans (b5.mono hb4.size)
          obtain ⟨g5, cap5, rfl, src5⟩ := src_own o5 (by rw [txt_len]; omega)
          have hz5 := hb5.size
          have M5 : Hid (B2.length + (txt x.to).length ≤ maxLen ∧ (B2.length + (txt x.to).length) * 1 ≤ 140737488355328) := by
            have := L2.out
            show _ ∧ _
            rw [txt_len]; unfold maxLen; omega
          clear kt hB4 o5 b5 d2
          go_wp2_with (at_builtin; refine wpList_append_own_src _ rfl (.tmp 47) (.tmp 53) 30 30 rfl w.heap.size 5 i0 (.int .u8 0) 1 1 Tryz.underlying30 hi hz0 hz1 hz2 rfl (by decide) (.slice av4 nv4 cv4) B2.length _ rfl hB5 (.slice (some ⟨g5, 0, none⟩) (txt x.to).length cap5) (txt x.to).length _ rfl src5 M5.out.1 M5.out.2 hz5 ?_; intro v6 w6 ho6 hg6 _; have R6 := bs_next hB5 hb5 hz5 ho6 hg6; obtain ⟨hB6, hb6⟩ := R6; obtain ⟨av6, nv6, cv6, rfl⟩ := own_slice hB6; have d3 := cc w6 hb6 3 _ rfl)
          clear src5 hB5 hb5 hz5 M5
          have L3 : Hid ((B2 ++ txt x.to).length ≤ 200601) := by have := L2.out; show _ ≤ _; rw [List.length_append, txt_len]; omega
          clear L2
          generalize B2 ++ txt x.to = B3 at *
          have kn := refNumber_any w6 x.value
          refine kn.mono ?_
          rintro e w7 ⟨v7, rfl, o7, b7⟩
          have hB7 := hB6.below b7
          have hb7 := hb6.trans (b7.mono hb6.size)
          obtain ⟨g7, cap7, rfl, src7⟩ := src_own o7 (by rw [be4_len]; omega)
          have hz7 := hb7.size
          have M7 : Hid (B3.length + (be4 x.value.toNat).length ≤ maxLen ∧ (B3.length + (be4 x.value.toNat).length) * 1 ≤ 140737488355328) := by
            have := L3.out
            show _ ∧ _
            rw [be4_len]; unfold maxLen; omega
          clear kn hB6 o7 b7 d3
          go_wp2_with (at_builtin; refine wpList_append_own_src _ rfl (.tmp 55) (.tmp 61) 30 30 rfl w.heap.size 5 i0 (.int .u8 0) 1 1 Tryz.underlying30 hi hz0 hz1 hz2 rfl (by decide) (.slice av6 nv6 cv6) B3.length _ rfl hB7 (.slice (some ⟨g7, 0, none⟩) (be4 x.value.toNat).length cap7) (be4 x.value.toNat).length _ rfl src7 M7.out.1 M7.out.2 hz7 ?_; intro v8 w8 ho8 hg8 _; have R8 := bs_next hB7 hb7 hz7 ho8 hg8; obtain ⟨hB8, hb8⟩ := R8)
          go_roundw
          case rel => exact ⟨k + 1, by omega, by go_num, by rw [hE.out]; exact hB8, hb8⟩
          case measure => simp [intOf]; omega
        · have e : l.take k = l := List.take_of_length_le (by omega)
          rw [e] at hB
          clear hc e
          obtain ⟨av, nv, cv, rfl⟩ := own_slice hB
          go_wp2
          go_ret2
          exact ⟨_, by rw [hR.out]; rfl, by rw [hR.out]; exact hB, hb⟩
end Go.Proofs.YtcgecdiaddcfkaaGreatDoor
/- The walk of the document's own PutResults. -/
set_option linter.unusedSimpArgs false
set_option linter.unusedVariables false
namespace Go.Proofs.YtcgecdiaddcfkaaGreatDoor
open Go.RowKit

theorem append_cases {α : Type} (B : List α) (a b : List α) : B ++ (a ++ b) = B ++ a ++ b := (List.append_assoc B a b).symm

set_option maxHeartbeats 4000000 in
set_option maxRecDepth 1000000 in
theorem refPutResults_any (w : World) (vl : Value) (l : List ResP) (hs : ResAt w w.heap.size vl l) :
    Calls Tryz.prog 34 #[vl] w fun e w' => ∃ v, e = .returned (.tuple #[v, .int .i64 ((putRes (l.map (·.2))).2 : Int)]) ∧ BsAt w' w.heap.size v (putRes (l.map (·.2))).1 ∧ Below w.heap.size w w' := by
  obtain ⟨i0, hi, hz0, hz1, hz2⟩ := info_parts info_u8
  obtain ⟨⟨ao, cap, rfl, hlc, hcm, hc⟩, hrows⟩ := hs
  unfold maxLen at hcm
  obtain ⟨R, hR⟩ : ∃ R, R = putRes (l.map (·.2)) := ⟨_, rfl⟩
  rw [← hR]
  have HR : Hid (R = putRes (l.map (·.2))) := hR
  clear hR
  go_enter Tryz.func34, Tryz.ntmps34
  go_wp2
  go_loop [4, 5] (fun m i => ∃ k : Nat, k ≤ l.length ∧ i = .int .i64 k ∧ m = .bool (decide (16 < l.length) || !(l.take k).all fewP) ∧ Hid ((l.take k).all resOkP = true)) (fun _ i => l.length - (intOf i).toNat)
  case atStart => exact ⟨0, by omega, rfl, by simp; omega, rfl⟩
  case round =>
    obtain ⟨k, hk, rfl, rfl, hH⟩ := hrel
    by_cases h1 : k < l.length
    · obtain ⟨b, off, rfl, hbl, hcell⟩ := hc (by omega)
      obtain ⟨x, hx⟩ : ∃ x, x = l[k]'h1 := ⟨_, rfl⟩
      have hxm : x ∈ l := by rw [hx]; exact List.getElem_mem _
      have c0 : w.cell? ⟨b, off + k, none⟩ = some x.1 := by
        have := hcell k h1 0 x.1 (by rw [← hx]; rfl)
        simpa using this
      have hxr := hrows x hxm
      have HX : Hid (x = l[k]'h1) := hx
      clear hx hcell hc
      have i1 : (k : Int) < (l.length : Int) := by omega
      have hno : Hid (resOkP x = false → R = ([], 1)) := fun h => by rw [HR.out]; exact putResP_arg (all_get_false l _ k h1 (by rw [← HX.out]; exact h))
      have hyes : Hid (resOkP x = true → (l.take (k + 1)).all resOkP = true) := fun h => all_take_succ l _ k h1 hH.out (by rw [← HX.out]; exact h)
      have hfew : Hid ((decide (16 < l.length) || !(l.take (k + 1)).all fewP) = ((decide (16 < l.length) || !(l.take k).all fewP) || !fewP x)) := by
        show _ = _
        rw [List.take_succ_eq_append_getElem h1, List.all_append, ← HX.out]
        cases decide (16 < l.length) <;> cases (l.take k).all fewP <;> simp
      clear HX hxm
      obtain ⟨xv, xr⟩ := x
      obtain ⟨ax, cx, hvx, hx1, hx2, hx3⟩ := id hxr.1
      have hsm : ∀ y ∈ xr, rowSm y := hxr.2
      simp only at hvx c0 hx1 hx3
      subst hvx
      unfold maxLen at hx2
      unfold resOkP resOk at hno hyes
      simp only at hno hyes
      clear hxr
      generalize (decide (16 < l.length) || !(l.take k).all fewP) = mm at *
      go_wp2
      go_loop [6] (fun j => ∃ q : Nat, q ≤ xr.length ∧ j = .int .i64 q ∧ Hid ((xr.take q).all rowOk = true)) (fun j => xr.length - (intOf j).toNat)
      case atStart => exact ⟨0, by omega, rfl, rfl⟩
      case round =>
        obtain ⟨q, hq, rfl, hQ⟩ := hrel
        by_cases hq1 : q < xr.length
        · obtain ⟨b2, off2, rfl, hbl2, hcell2⟩ := hx3 (by omega)
          obtain ⟨y, hy⟩ : ∃ y, y = xr[q]'hq1 := ⟨_, rfl⟩
          have d0 : w.cell? ⟨b2, off2 + q * 2, none⟩ = some (.string y.key) := by
            have := hcell2 q hq1 0 (.string y.key) (by rw [← hy]; rfl)
            simpa using this
          have kc := refCheck_any y.key w (hsm y (by rw [hy]; exact List.getElem_mem _))
          have i2 : (q : Int) < (xr.length : Int) := by omega
          have yno : Hid (chk y.key = false → R = ([], 1)) := fun h => hno.out (all_get_false xr _ q hq1 (by rw [← hy]; exact h))
          have yyes : Hid (chk y.key = true → (xr.take (q + 1)).all rowOk = true) := fun h => all_take_succ xr _ q hq1 hQ.out (by rw [← hy]; exact h)
          clear hy hcell2 hx3 hQ hno hyes hfew
          generalize chk y.key = ck at *
          cases ck with
          | false =>
            have hn : Hid (R = ([], 1)) := yno.out rfl
            clear yno yyes
            go_wp2_with fail
            refine kc.mono ?_
            rintro e w1 ⟨rfl, rfl⟩
            clear kc
            go_wp2
            go_ret2
            exact ⟨_, by rw [hn.out]; rfl, by rw [hn.out]; exact BsAt_nil _ _, Below.refl _ _⟩
          | true =>
            have hy2 : Hid ((xr.take (q + 1)).all rowOk = true) := yyes.out rfl
            clear yno yyes
            go_wp2_with fail
            refine kc.mono ?_
            rintro e w1 ⟨rfl, rfl⟩
            clear kc
            go_wp2
            go_round
            case rel => exact ⟨q + 1, by omega, by go_num, hy2⟩
            case measure => simp [intOf]; omega
        · obtain rfl : q = xr.length := by omega
          have hall : Hid ((l.take (k + 1)).all resOkP = true) := hyes.out (by have := hQ.out; rwa [List.take_of_length_le (Nat.le_refl _)] at this)
          have i2 : ¬ ((xr.length : Int) < (xr.length : Int)) := by omega
          clear hx3 hQ hno hyes
          cases mm with
          | true =>
            go_wp2
            go_round
            case rel => exact ⟨k + 1, by omega, by go_num, by rw [hfew.out]; rfl, hall⟩
            case measure => simp [intOf]; omega
          | false =>
            have e3 : decide ((xr.length : Int) > 256) = !decide (xr.length ≤ 256) := by
              by_cases h : xr.length ≤ 256
              · simp [h]; omega
              · simp [h]; omega
            go_wp2
            go_round
            case rel => exact ⟨k + 1, by omega, by go_num, by rw [hfew.out]; rfl, hall⟩
            case measure => simp [intOf]; omega
    · have hall : l.all resOkP = true := by
        have h := hH.out
        rwa [List.take_of_length_le (by omega)] at h
      rw [List.take_of_length_le (by omega)]
      clear hH
      by_cases hn : l.length ≤ 16 ∧ l.all fewP = true
      case neg =>
        have hR : Hid (R = ([], 3)) := by show _ = _; rw [HR.out]; exact putResP_limit hall hn
        have em : (decide (16 < l.length) || !l.all fewP) = true := by
          by_cases h : l.length ≤ 16
          · have : l.all fewP = false := by cases h' : l.all fewP with
              | false => rfl
              | true => exact absurd ⟨h, h'⟩ hn
            rw [this]; simp
          · have : 16 < l.length := by omega
            simp [this]
        rw [em]
        clear hc hall HR hrows
        go_wp2
        go_ret2
        exact ⟨_, by rw [hR.out]; rfl, by rw [hR.out]; exact BsAt_nil _ _, Below.refl _ _⟩
      have em : (decide (16 < l.length) || !l.all fewP) = false := by
        rw [hn.2]
        have : ¬ 16 < l.length := by omega
        simp [this]
      rw [em]
      have hR : Hid (R = (encList encResP l, 0)) := by show _ = _; rw [HR.out]; exact putResP_fits hall hn
      have HA : Hid (l.all resOkP = true) := hall
      have HF : Hid (l.all fewP = true) := hn.2
      have hl16 := hn.1
      have hlen := res_len hall hn.2
      have kct := refCount_any w l.length (by omega)
      clear hall HR hn em
      go_wp2_with fail
      refine kct.mono ?_
      rintro e w1 ⟨v1, rfl, o1, b1⟩
      clear kct
      obtain ⟨a1, n1, c1, rfl⟩ := own_slice o1
      go_wp2
      go_loopw [7, 8] (fun vb i wr => ∃ k : Nat, k ≤ l.length ∧ i = .int .i64 k ∧ BsAt wr w.heap.size vb (be2 l.length ++ (l.take k).flatMap encResP) ∧ Below w.heap.size w wr) (fun _ i _ => l.length - (intOf i).toNat)
      case atStart => exact ⟨0, by omega, rfl, by simpa using o1, b1⟩
      case round =>
        clear o1 b1
        obtain ⟨k, hk, rfl, hB, hb⟩ := hrel
        by_cases h1 : k < l.length
        · obtain ⟨b, off, rfl, hbl, hcell⟩ := hc (by omega)
          obtain ⟨x, hx⟩ : ∃ x, x = l[k]'h1 := ⟨_, rfl⟩
          have hxm : x ∈ l := by rw [hx]; exact List.getElem_mem _
          have cc : Hid (∀ W, Below w.heap.size w W → W.cell? ⟨b, off + k, none⟩ = some x.1) := fun W hW => by
            rw [hW.cell (p := ⟨b, off + k, none⟩) hbl]
            have := hcell k h1 0 x.1 (by rw [← hx]; rfl)
            simpa using this
          have hxr := hrows x hxm
          have hok : resOkP x = true := List.all_eq_true.mp HA.out x hxm
          have hfw : fewP x = true := List.all_eq_true.mp HF.out x hxm
          have hE : Hid (be2 l.length ++ (l.take (k + 1)).flatMap encResP = be2 l.length ++ (l.take k).flatMap encResP ++ be2 x.2.length ++ x.2.flatMap encRow) := by
            show _ = _
            rw [flat_take_succ encResP l k h1, ← hx]; simp [encResP, encRes, encList]
          have hlk := flat_take_len encResP l k
          clear hx hcell hxm
          have HL : Hid ((be2 l.length ++ (l.take k).flatMap encResP).length ≤ 200000) := by show _ ≤ _; rw [List.length_append, be2_len]; omega
          clear hlk
          generalize be2 l.length ++ (l.take k).flatMap encResP = B0 at *
          have i1 : (k : Int) < (l.length : Int) := by omega
          obtain ⟨xv, xr⟩ := x
          obtain ⟨ax, cx, hvx, hx1, hx2, hx3⟩ := id hxr.1
          have hsm : ∀ y ∈ xr, rowSm y := hxr.2
          unfold resOkP resOk at hok
          unfold fewP at hfw
          simp only [decide_eq_true_eq] at hvx hx1 hx3 hok hfw hE
          subst hvx
          simp only at cc
          unfold maxLen at hx2
          have hrl := row_len hok
          have HOK : Hid (xr.all rowOk = true) := hok
          clear hxr hok
          obtain ⟨av, nv, cv, rfl⟩ := own_slice hB
          have c0 := cc.out wr hb
          have kt := refCount_any wr xr.length (by omega)
          go_wp2_with fail
          refine kt.mono ?_
          rintro e w2 ⟨v2, rfl, o2, b2⟩
          have hB2 := hB.below b2
          have hb2 := hb.trans (b2.mono hb.size)
          obtain ⟨g2, cap2, rfl, src2⟩ := src_own o2 (by rw [be2_len]; omega)
          clear kt hB o2 b2 c0
          have hz := hb2.size
          go_wp2_with (at_builtin; refine wpList_append_own_src _ rfl (.tmp 60) (.tmp 67) 30 30 rfl w.heap.size 5 i0 (.int .u8 0) 1 1 Tryz.underlying30 hi hz0 hz1 hz2 rfl (by decide) (.slice av nv cv) B0.length _ rfl hB2 (.slice (some ⟨g2, 0, none⟩) (be2 xr.length).length cap2) (be2 xr.length).length _ rfl src2 (by have := HL.out; rw [be2_len]; unfold maxLen; omega) (by have := HL.out; rw [be2_len]; omega) hz ?_; intro v3 w3 ho3 hg3 _; have R3 := bs_next hB2 hb2 hz ho3 hg3; obtain ⟨hB3, hb3⟩ := R3; obtain ⟨av3, nv3, cv3, rfl⟩ := own_slice hB3)
          clear hB2 hb2 ho3 hg3 src2
          have HL2 : Hid ((B0 ++ be2 xr.length).length ≤ 200002) := by show _ ≤ _; have := HL.out; rw [List.length_append, be2_len]; omega
          generalize B0 ++ be2 xr.length = B1 at *
          go_loopw [7, 9] (fun vb j wq => ∃ q : Nat, q ≤ xr.length ∧ j = .int .i64 q ∧ BsAt wq w.heap.size vb (B1 ++ (xr.take q).flatMap encRow) ∧ Below w.heap.size w wq) (fun _ j _ => xr.length - (intOf j).toNat)
          case atStart => exact ⟨0, by omega, rfl, by simpa using hB3, hb3⟩
          case round =>
            clear hB3 hb3
            obtain ⟨q, hq, rfl, hB, hb⟩ := hrel
            have c0 := cc.out wr hb
            by_cases hq1 : q < xr.length
            · obtain ⟨bb, off2, rfl, hbl2, hcell2⟩ := hx3 (by omega)
              obtain ⟨y, hy⟩ : ∃ y, y = xr[q]'hq1 := ⟨_, rfl⟩
              have dd : Hid (∀ W, Below w.heap.size w W → W.cell? ⟨bb, off2 + q * 2, none⟩ = some (.string y.key) ∧ W.cell? ⟨bb, off2 + q * 2 + 1, none⟩ = some (.int .u32 (y.value.toNat : Int))) := fun W hW => ⟨by
                rw [hW.cell (p := ⟨bb, off2 + q * 2, none⟩) hbl2]
                have := hcell2 q hq1 0 (.string y.key) (by rw [← hy]; rfl)
                simpa using this, by
                rw [hW.cell (p := ⟨bb, off2 + q * 2 + 1, none⟩) hbl2]
                exact hcell2 q hq1 1 (.int .u32 (y.value.toNat : Int)) (by rw [← hy]; rfl)⟩
              have hEq : Hid (B1 ++ (xr.take (q + 1)).flatMap encRow = B1 ++ (xr.take q).flatMap encRow ++ txt y.key ++ be4 y.value.toNat) := by
                show _ = _
                rw [flat_take_succ encRow xr q hq1, ← hy]; simp [encRow]
              have hlq := flat_take_len encRow xr q
              have hyk : y.key.size ≤ 16 := by
                have h := List.all_eq_true.mp HOK.out _ (List.getElem_mem hq1)
                rw [← hy] at h
                exact chk_size h
              clear hy hcell2 hx3
              have HL3 : Hid ((B1 ++ (xr.take q).flatMap encRow).length ≤ 300000) := by show _ ≤ _; have := HL2.out; rw [List.length_append]; omega
              clear hlq
              generalize B1 ++ (xr.take q).flatMap encRow = B2 at *
              have i2 : (q : Int) < (xr.length : Int) := by omega
              obtain ⟨av, nv, cv, rfl⟩ := own_slice hB
              obtain ⟨e0, -⟩ := dd.out wr hb
              have kt := refText_any wr y.key (by omega)
              go_wp2_with fail
              refine kt.mono ?_
              rintro e w2 ⟨v2, rfl, o2, b2⟩
              have hB2 := hB.below b2
              have hb2 := hb.trans (b2.mono hb.size)
              obtain ⟨g2, cap2, rfl, src2⟩ := src_own o2 (by rw [txt_len]; omega)
              clear kt hB o2 b2 c0 e0
              have hz := hb2.size
              go_wp2_with (at_builtin; refine wpList_append_own_src _ rfl (.tmp 79) (.tmp 89) 30 30 rfl w.heap.size 5 i0 (.int .u8 0) 1 1 Tryz.underlying30 hi hz0 hz1 hz2 rfl (by decide) (.slice av nv cv) B2.length _ rfl hB2 (.slice (some ⟨g2, 0, none⟩) (txt y.key).length cap2) (txt y.key).length _ rfl src2 (by have := HL3.out; rw [txt_len]; unfold maxLen; omega) (by have := HL3.out; rw [txt_len]; omega) hz ?_; intro v3 w3 ho3 hg3 _; have R3 := bs_next hB2 hb2 hz ho3 hg3; obtain ⟨hB3, hb3⟩ := R3; obtain ⟨av3, nv3, cv3, rfl⟩ := own_slice hB3; have c3 := cc.out w3 hb3; have E3 := dd.out w3 hb3; obtain ⟨-, e3⟩ := E3)
              have kn := refNumber_any w3 y.value
              refine kn.mono ?_
              rintro e w5 ⟨v5, rfl, o5, b5⟩
              have hB5 := hB3.below b5
              have hb5 := hb3.trans (b5.mono hb3.size)
              obtain ⟨g5, cap5, rfl, src5⟩ := src_own o5 (by rw [be4_len]; omega)
              have hz5 := hb5.size
              have L5 : Hid ((B2 ++ txt y.key).length + (be4 y.value.toNat).length ≤ maxLen ∧ ((B2 ++ txt y.key).length + (be4 y.value.toNat).length) * 1 ≤ 140737488355328) := by
                have := HL3.out
                show _ ∧ _
                rw [List.length_append, txt_len, be4_len]; unfold maxLen; omega
              clear kn hB3 o5 b5 c3 e3 hB2 hb2 ho3 hg3
              go_wp2_with (at_builtin; refine wpList_append_own_src _ rfl (.tmp 91) (.tmp 101) 30 30 rfl w.heap.size 5 i0 (.int .u8 0) 1 1 Tryz.underlying30 hi hz0 hz1 hz2 rfl (by decide) (.slice av3 nv3 cv3) (B2 ++ txt y.key).length _ rfl hB5 (.slice (some ⟨g5, 0, none⟩) (be4 y.value.toNat).length cap5) (be4 y.value.toNat).length _ rfl src5 L5.out.1 L5.out.2 hz5 ?_; intro v6 w6 ho6 hg6 _; have R6 := bs_next hB5 hb5 hz5 ho6 hg6; obtain ⟨hB6, hb6⟩ := R6)
              go_roundw
              case rel => exact ⟨q + 1, by omega, by go_num, by rw [hEq.out]; exact hB6, hb6⟩
              case measure => simp [intOf]; omega
            · obtain rfl : q = xr.length := by omega
              have i2 : ¬ ((xr.length : Int) < (xr.length : Int)) := by omega
              rw [List.take_of_length_le (Nat.le_refl _)] at hB
              clear hx3 hc hrows
              go_wp2
              go_roundw
              case rel => exact ⟨k + 1, by omega, by go_num, by rw [hE.out]; exact hB, hb⟩
              case measure => simp [intOf]; omega
        · have e : l.take k = l := List.take_of_length_le (by omega)
          rw [e] at hB
          clear hc e hrows
          obtain ⟨av, nv, cv, rfl⟩ := own_slice hB
          go_wp2
          go_ret2
          exact ⟨_, by rw [hR.out]; rfl, by rw [hR.out]; exact hB, hb⟩
end Go.Proofs.YtcgecdiaddcfkaaGreatDoor
