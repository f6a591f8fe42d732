/- The walk of the document's own PutChanges. -/
import Derived.Test.YtndjgilheleplaaGreatDoorRRef
set_option linter.unusedSimpArgs false
set_option linter.unusedVariables false
namespace Go.Proofs.YtndjgilheleplaaGreatDoor
open Go.RowKit

theorem goneB_cells (g : Bool) : [Value.int .u8 (if g then 1 else 0)] = bcells [if g then 1 else 0] := by cases g <;> rfl

set_option maxHeartbeats 4000000 in
set_option maxRecDepth 1000000 in
theorem refPutChanges_any (w : World) (vl : Value) (l : List ChD) (hs : SlAt 3 chCells w w.heap.size vl l) (hsm : ∀ x ∈ l, chSm x) :
    Calls Tryz.prog 35 #[vl] w fun e w' => ∃ v, e = .returned (.tuple #[v, .int .i64 ((putChs l).2 : Int)]) ∧ BsAt w' w.heap.size v (putChs l).1 ∧ Below w.heap.size w w' := by
  obtain ⟨i0, hi, hz0, hz1, hz2⟩ := info_parts info_u8
  obtain ⟨ao, cap, rfl, hlc, hcm, hc⟩ := hs
  unfold maxLen at hcm
  obtain ⟨R, hR⟩ : ∃ R, R = putChs l := ⟨_, rfl⟩
  rw [← hR]
  have HR : Hid (R = putChs l) := hR
  clear hR
  go_enter Tryz.func35, Tryz.ntmps35
  go_wp2
  go_loop [4] (fun i => ∃ k : Nat, k ≤ l.length ∧ i = .int .i64 k ∧ Hid ((l.take k).all chOk = true)) (fun i => l.length - (intOf i).toNat)
  case atStart => exact ⟨0, by omega, rfl, rfl⟩
  case round =>
    obtain ⟨k, hk, rfl, hH⟩ := hrel
    by_cases h1 : k < l.length
    · obtain ⟨b, off, rfl, hbl, hcell⟩ := hc (by omega)
      obtain ⟨x, hx⟩ : ∃ x, x = l[k]'h1 := ⟨_, rfl⟩
      have cc : ∀ j u, (chCells x)[j]? = some u → w.cell? ⟨b, off + k * 3 + j, none⟩ = some u := fun j u hu => hcell k h1 j u (by rw [← hx]; exact hu)
      have c0 := cc 0 _ rfl
      have c1 := cc 1 _ rfl
      have c2 := cc 2 _ rfl
      simp only [Nat.add_zero] at c0
      have kc := refCheck_any x.key w (hsm x (by rw [hx]; exact List.getElem_mem _))
      have HX : Hid (x = l[k]'h1) := hx
      clear cc hx hcell hc
      have i1 : (k : Int) < (l.length : Int) := by omega
      obtain ⟨key, value, gone⟩ := x
      have hp := chOk_parts key value gone
      have hyes : Hid (chOk ⟨key, value, gone⟩ = true → (l.take (k + 1)).all chOk = true) := fun h => all_take_succ l _ k h1 hH.out (by rw [← HX.out]; exact h)
      have hno : Hid (chOk ⟨key, value, gone⟩ = false → R = ([], 1)) := fun h => by rw [HR.out]; exact putChs_arg (all_get_false l _ k h1 (by rw [← HX.out]; exact h))
      clear HX
      rw [hp] at hyes hno
      clear hp
      simp only at kc c0 c1 c2
      generalize (value.toNat : Int) = vl at *
      generalize chk key = ck at *
      cases ck with
      | false =>
        have hn : Hid (R = ([], 1)) := hno.out rfl
        clear hno hyes hH
        go_wp2_with fail
        refine kc.mono ?_
        rintro e w1 ⟨rfl, rfl⟩
        clear kc
        go_wp2
        go_ret2
        exact ⟨_, by rw [hn.out]; rfl, by rw [hn.out]; exact BsAt_nil _ _, Below.refl _ _⟩
      | true =>
      cases gone with
      | false =>
        have hy : Hid ((l.take (k + 1)).all chOk = true) := hyes.out rfl
        clear hno hyes hH
        go_wp2_with fail
        refine kc.mono ?_
        rintro e w1 ⟨rfl, rfl⟩
        clear kc
        go_wp2
        go_round
        case rel => exact ⟨k + 1, by omega, by go_num, hy⟩
        case measure => simp [intOf]; omega
      | true =>
      cases hv : (vl == 0) with
      | true =>
        have hy : Hid ((l.take (k + 1)).all chOk = true) := hyes.out (by rw [hv]; rfl)
        have hv2 : vl = 0 := by simpa using hv
        subst hv2
        clear hno hyes hH hv
        go_wp2_with fail
        refine kc.mono ?_
        rintro e w1 ⟨rfl, rfl⟩
        clear kc
        go_wp2
        go_round
        case rel => exact ⟨k + 1, by omega, by go_num, hy⟩
        case measure => simp [intOf]; omega
      | false =>
        have hn : Hid (R = ([], 1)) := hno.out (by rw [hv]; rfl)
        have hv2 : (vl != 0) = true := by simpa using hv
        clear hno hyes hH hv
        go_wp2_with fail
        refine kc.mono ?_
        rintro e w1 ⟨rfl, rfl⟩
        clear kc
        go_wp2
        go_ret2
        exact ⟨_, by rw [hn.out]; rfl, by rw [hn.out]; exact BsAt_nil _ _, Below.refl _ _⟩
    · have hall : l.all chOk = true := by
        have h := hH.out
        rwa [List.take_of_length_le (by omega)] at h
      clear hH
      by_cases hn : l.length ≤ 4096
      case neg =>
        have hR : Hid (R = ([], 3)) := by show _ = _; rw [HR.out]; exact putChs_limit hall hn
        clear hc hall HR
        go_wp2
        go_ret2
        exact ⟨_, by rw [hR.out]; rfl, by rw [hR.out]; exact BsAt_nil _ _, Below.refl _ _⟩
      have hR : Hid (R = (encList encCh l, 0)) := by show _ = _; rw [HR.out]; exact putChs_fits hall hn
      have HA : Hid (l.all chOk = true) := hall
      have hlen := putChs_len hall
      have kct := refCount_any w l.length (by omega)
      clear hall HR
      go_wp2_with fail
      refine kct.mono ?_
      rintro e w1 ⟨v1, rfl, o1, b1⟩
      clear kct
      obtain ⟨a1, n1, c1, rfl⟩ := own_slice o1
      go_wp2
      go_loopw [5, 6] (fun vb i wr => ∃ k : Nat, k ≤ l.length ∧ i = .int .i64 k ∧ BsAt wr w.heap.size vb (be2 l.length ++ (l.take k).flatMap encCh) ∧ Below w.heap.size w wr) (fun _ i _ => l.length - (intOf i).toNat)
      case atStart => exact ⟨0, by omega, rfl, by simpa using o1, b1⟩
      case round =>
        clear o1 b1
        obtain ⟨k, hk, rfl, hB, hb⟩ := hrel
        by_cases h1 : k < l.length
        · obtain ⟨b, off, rfl, hbl, hcell⟩ := hc (by omega)
          obtain ⟨x, hx⟩ : ∃ x, x = l[k]'h1 := ⟨_, rfl⟩
          have cc : ∀ W, Below w.heap.size w W → ∀ j u, (chCells x)[j]? = some u → W.cell? ⟨b, off + k * 3 + j, none⟩ = some u := fun W hW j u hu => (hW.cell hbl).trans (hcell k h1 j u (by rw [← hx]; exact hu))
          have hE : Hid (be2 l.length ++ (l.take (k + 1)).flatMap encCh = be2 l.length ++ (l.take k).flatMap encCh ++ txt x.key ++ [if x.gone then 1 else 0] ++ be4 x.value.toNat) := by
            show _ = _
            rw [flat_take_succ encCh l k h1, ← hx]; simp [encCh]
          have hlk := flat_take_len encCh l k
          have hxk : x.key.size ≤ 16 := by
            have h := List.all_eq_true.mp HA.out _ (List.getElem_mem h1)
            rw [← hx] at h
            unfold chOk at h; rw [Bool.and_eq_true] at h
            exact chk_size h.1
          clear hx hcell hc
          have HL : Hid ((be2 l.length ++ (l.take k).flatMap encCh).length ≤ 200000) := by show _ ≤ _; rw [List.length_append, be2_len]; omega
          clear hlk
          generalize be2 l.length ++ (l.take k).flatMap encCh = B0 at *
          have i1 : (k : Int) < (l.length : Int) := by omega
          obtain ⟨av, nv, cv, rfl⟩ := own_slice hB
          have c0 := cc wr hb 0 _ rfl
          simp only [Nat.add_zero] at c0
          have kt := refText_any wr x.key (by omega)
          go_wp2_with fail
          refine kt.mono ?_
          rintro e w2 ⟨v2, rfl, o2, b2⟩
          have hB2 := hB.below b2
          have hb2 := hb.trans (b2.mono hb.size)
          obtain ⟨g2, cap2, rfl, src2⟩ := src_own o2 (by rw [txt_len]; omega)
          clear kt hB o2 b2 c0
          have hz := hb2.size
          obtain ⟨key, value, gone⟩ := x
          simp only at hxk src2 hE
          cases gone with
          | true =>
            go_wp2_with (first | (at_builtin; refine wpList_append_own_src _ rfl (.tmp 47) (.tmp 53) 27 27 rfl w.heap.size 5 i0 (.int .u8 0) 1 1 Tryz.underlying27 hi hz0 hz1 hz2 rfl (by decide) (.slice av nv cv) B0.length _ rfl hB2 (.slice (some ⟨g2, 0, none⟩) (txt key).length cap2) (txt key).length _ rfl src2 (by have := HL.out; rw [txt_len]; unfold maxLen; omega) (by have := HL.out; rw [txt_len]; omega) hz ?_; intro v3 w3 ho3 hg3 _; have R3 := bs_next hB2 hb2 hz ho3 hg3; obtain ⟨hB3, hb3⟩ := R3; obtain ⟨av3, nv3, cv3, rfl⟩ := own_slice hB3; have d2 := cc w3 hb3 2 _ rfl; have hB3' := BsAt.below hB3 (below_one w3 (.cells #[.int .u8 1] 5)); have hb3' := hb3.trans ((below_one w3 (.cells #[.int .u8 1] 5)).mono hb3.size); have hz3 := hb3'.size; have src3 : Src Tryz.prog 1 27 (.slice (some ⟨w3.heap.size, 0, none⟩) 1 1) 1 (bcells [1]) (w3.alloc (.cells #[.int .u8 1] 5)) := Src.ofSlice _ Tryz.underlying27 ⟨w3.heap.size, 0, none⟩ 1 1 (bcells [1]) rfl (news_of [1] _) (bcells_one _)) | (at_builtin; refine wpList_append_own_src _ rfl (.tmp 60) (.tmp 61) 27 27 rfl w.heap.size 5 i0 (.int .u8 0) 1 1 Tryz.underlying27 hi hz0 hz1 hz2 rfl (by decide) (.slice av3 nv3 cv3) (B0 ++ txt key).length _ rfl hB3' (.slice (some ⟨w3.heap.size, 0, none⟩) 1 1) 1 _ rfl src3 (by have := HL.out; rw [List.length_append, txt_len]; unfold maxLen; omega) (by have := HL.out; rw [List.length_append, txt_len]; omega) hz3 ?_; intro v4 w4 ho4 hg4 _; have R4 := bs_next (news := [1]) hB3' hb3' hz3 ho4 hg4; obtain ⟨hB4, hb4⟩ := R4; obtain ⟨av4, nv4, cv4, rfl⟩ := own_slice hB4; have d1 := cc w4 hb4 1 _ rfl))
            have kn := refNumber_any w4 value
            refine kn.mono ?_
            rintro e w5 ⟨v5, rfl, o5, b5⟩
            have hB5 := hB4.below b5
            have hb5 := hb4.trans (b5.mono hb4.size)
            obtain ⟨g5, cap5, rfl, src5⟩ := src_own o5 (by rw [be4_len]; omega)
            have hz5 := hb5.size
            have L5 : Hid ((B0 ++ txt key ++ ([1] : List UInt8)).length + (be4 value.toNat).length ≤ maxLen ∧ ((B0 ++ txt key ++ ([1] : List UInt8)).length + (be4 value.toNat).length) * 1 ≤ 140737488355328) := by
              have := HL.out
              have e : (B0 ++ txt key ++ ([1] : List UInt8)).length + (be4 value.toNat).length = B0.length + (key.size + 1) + 1 + 4 := by rw [List.length_append, List.length_append, txt_len, be4_len]; rfl
              show _ ∧ _
              rw [e]; unfold maxLen; omega
            clear kn hB4 o5 b5 d1
            go_wp2_with (at_builtin; refine wpList_append_own_src _ rfl (.tmp 66) (.tmp 72) 27 27 rfl w.heap.size 5 i0 (.int .u8 0) 1 1 Tryz.underlying27 hi hz0 hz1 hz2 rfl (by decide) (.slice av4 nv4 cv4) (B0 ++ txt key ++ ([1] : List UInt8)).length _ rfl hB5 (.slice (some ⟨g5, 0, none⟩) (be4 value.toNat).length cap5) (be4 value.toNat).length _ rfl src5 L5.out.1 L5.out.2 hz5 ?_; intro v6 w6 ho6 hg6 _; have R6 := bs_next hB5 hb5 hz5 ho6 hg6; obtain ⟨hB6, hb6⟩ := R6)
            go_roundw
            case rel => exact ⟨k + 1, by omega, by go_num, by rw [hE.out]; exact hB6, hb6⟩
            case measure => simp [intOf]; omega
          | false =>
            go_wp2_with (first | (at_builtin; refine wpList_append_own_src _ rfl (.tmp 47) (.tmp 53) 27 27 rfl w.heap.size 5 i0 (.int .u8 0) 1 1 Tryz.underlying27 hi hz0 hz1 hz2 rfl (by decide) (.slice av nv cv) B0.length _ rfl hB2 (.slice (some ⟨g2, 0, none⟩) (txt key).length cap2) (txt key).length _ rfl src2 (by have := HL.out; rw [txt_len]; unfold maxLen; omega) (by have := HL.out; rw [txt_len]; omega) hz ?_; intro v3 w3 ho3 hg3 _; have R3 := bs_next hB2 hb2 hz ho3 hg3; obtain ⟨hB3, hb3⟩ := R3; obtain ⟨av3, nv3, cv3, rfl⟩ := own_slice hB3; have d2 := cc w3 hb3 2 _ rfl; have hB3' := BsAt.below hB3 (below_one w3 (.cells #[.int .u8 0] 5)); have hb3' := hb3.trans ((below_one w3 (.cells #[.int .u8 0] 5)).mono hb3.size); have hz3 := hb3'.size; have src3 : Src Tryz.prog 1 27 (.slice (some ⟨w3.heap.size, 0, none⟩) 1 1) 1 (bcells [0]) (w3.alloc (.cells #[.int .u8 0] 5)) := Src.ofSlice _ Tryz.underlying27 ⟨w3.heap.size, 0, none⟩ 1 1 (bcells [0]) rfl (news_of [0] _) (bcells_one _)) | (at_builtin; refine wpList_append_own_src _ rfl (.tmp 63) (.tmp 64) 27 27 rfl w.heap.size 5 i0 (.int .u8 0) 1 1 Tryz.underlying27 hi hz0 hz1 hz2 rfl (by decide) (.slice av3 nv3 cv3) (B0 ++ txt key).length _ rfl hB3' (.slice (some ⟨w3.heap.size, 0, none⟩) 1 1) 1 _ rfl src3 (by have := HL.out; rw [List.length_append, txt_len]; unfold maxLen; omega) (by have := HL.out; rw [List.length_append, txt_len]; omega) hz3 ?_; intro v4 w4 ho4 hg4 _; have R4 := bs_next (news := [0]) hB3' hb3' hz3 ho4 hg4; obtain ⟨hB4, hb4⟩ := R4; obtain ⟨av4, nv4, cv4, rfl⟩ := own_slice hB4; have d1 := cc w4 hb4 1 _ rfl))
            have kn := refNumber_any w4 value
            refine kn.mono ?_
            rintro e w5 ⟨v5, rfl, o5, b5⟩
            have hB5 := hB4.below b5
            have hb5 := hb4.trans (b5.mono hb4.size)
            obtain ⟨g5, cap5, rfl, src5⟩ := src_own o5 (by rw [be4_len]; omega)
            have hz5 := hb5.size
            have L5 : Hid ((B0 ++ txt key ++ ([0] : List UInt8)).length + (be4 value.toNat).length ≤ maxLen ∧ ((B0 ++ txt key ++ ([0] : List UInt8)).length + (be4 value.toNat).length) * 1 ≤ 140737488355328) := by
              have := HL.out
              have e : (B0 ++ txt key ++ ([0] : List UInt8)).length + (be4 value.toNat).length = B0.length + (key.size + 1) + 1 + 4 := by rw [List.length_append, List.length_append, txt_len, be4_len]; rfl
              show _ ∧ _
              rw [e]; unfold maxLen; omega
            clear kn hB4 o5 b5 d1
            go_wp2_with (at_builtin; refine wpList_append_own_src _ rfl (.tmp 66) (.tmp 72) 27 27 rfl w.heap.size 5 i0 (.int .u8 0) 1 1 Tryz.underlying27 hi hz0 hz1 hz2 rfl (by decide) (.slice av4 nv4 cv4) (B0 ++ txt key ++ ([0] : List UInt8)).length _ rfl hB5 (.slice (some ⟨g5, 0, none⟩) (be4 value.toNat).length cap5) (be4 value.toNat).length _ rfl src5 L5.out.1 L5.out.2 hz5 ?_; intro v6 w6 ho6 hg6 _; have R6 := bs_next hB5 hb5 hz5 ho6 hg6; obtain ⟨hB6, hb6⟩ := R6)
            go_roundw
            case rel => exact ⟨k + 1, by omega, by go_num, by rw [hE.out]; exact hB6, hb6⟩
            case measure => simp [intOf]; omega
        · have e : l.take k = l := List.take_of_length_le (by omega)
          rw [e] at hB
          clear hc e
          obtain ⟨av, nv, cv, rfl⟩ := own_slice hB
          go_wp2
          go_ret2
          exact ⟨_, by rw [hR.out]; rfl, by rw [hR.out]; exact hB, hb⟩
end Go.Proofs.YtndjgilheleplaaGreatDoor
