/- The walk of SectorsAll. -/
import Derived.Test.YtapfkoojplbfmabDSureM
import Derived.Test.YtapfkoojplbfmabDTwo
import Derived.Test.YtapfkoojplbfmabGSame
set_option linter.unusedSimpArgs false
set_option linter.unusedVariables false
namespace Go.Proofs.Ytapfkoojplbfmab
open Go.RowKit Go.Maps Go.ChangeShapes Go.WideShapes

theorem wrA_take (l : List UInt16) {k i : Nat} (h : i < k) : wrA (l.take k) i = wrA l i := by
  unfold wrA
  simp [List.getElem?_take, h]
theorem wrB_take (l : List UInt16) {k i : Nat} (h : i < k) : wrB (l.take k) i = wrB l i := by
  unfold wrB
  simp [List.getElem?_take, h]
theorem sel_take (l : List UInt16) (k a : Nat) : sel (l.take k) (lastK (fun i => wrA (l.take k) i == a) k) = sel l (lastK (fun i => wrA l i == a) k) := by
  have h1 : lastK (fun i => wrA (l.take k) i == a) k = lastK (fun i => wrA l i == a) k := lastK_congr (fun i hi => by rw [wrA_take l hi])
  rw [h1]
  cases h : lastK (fun i => wrA l i == a) k with
  | none => rfl
  | some m => simp only [sel]; rw [wrB_take l (lastK_lt h)]
theorem fail_none_to (sure : List Sec) (ws : List (Nat × Sec)) (torn : Int) (t : Nat) : failTo sure ws 0 torn t = sure := by
  induction t with
  | zero => rfl
  | succ t ih =>
    rw [failTo]
    split
    · unfold failStep
      rw [ih]
      simp
    · exact ih
theorem wrNone (l : List UInt16) (k n : Nat) (h : k ≤ n) (a : Nat) (ha : a < 8) : ((wrD l k n).fail 0 (-1)).view a = (wrTo (l.take k) k k).view a := by
  show (failTo (wrD l k n).sure (wrD l k n).ws 0 (-1) (min 64 (wrD l k n).ws.length)).getD a [] = _
  rw [fail_none_to, (wrD_is l k n h).2.2 a ha, wrTo_view _ _ _ a ha, sel_take]
theorem allBits : ∀ i, i < 64 → Nat.testBit 18446744073709551615 i = true := by decide
theorem wrD_ok (l : List UInt16) (k n : Nat) (h : k ≤ n) : (wrD l k n).ok := by
  obtain ⟨h1, h2, h3⟩ := wrD_is l k n h
  refine ⟨by omega, by omega, fun i hi => ?_, fun p hp => ?_⟩
  · have := h3 i (by omega)
    rw [List.getD_eq_getElem?_getD, List.getElem?_eq_getElem hi, Option.getD_some] at this
    rw [this]
    cases lastK (fun x => wrA l x == i) k with
    | none => simp [sel, z64]
    | some m => exact wrB_pad l m
  · rw [h2] at hp
    obtain ⟨m, _, rfl⟩ := List.mem_map.1 hp
    exact ⟨by rw [h1]; exact wrA_lt l _, wrB_pad l _⟩

set_option maxHeartbeats 16000000 in
set_option maxRecDepth 1000000 in
theorem all_loop (w : World) (vl : Value) (l : List UInt16) (sn : Nat) (hl : In16 w w.heap.size vl l) (hs : sn ≤ 255) (h60 : l.length ≤ 60) (h0 : 0 < l.length) :
    Calls Try.prog 3 #[vl, .int .u8 (sn : Int)] w fun e w' => e = .returned (.bool true) ∧ Below w.heap.size w w' := by
  obtain ⟨al, cl, el, hl1, hl2, -⟩ := id hl
  subst el
  unfold maxLen at hl2
  have i1 : ¬ (60 : Int) < (l.length : Int) := by omega
  have i2 : (0 : Int) < (l.length : Int) := by omega
  obtain ⟨k, hk⟩ : ∃ k, k = sn % (l.length + 1) := ⟨_, rfl⟩
  have hkl : k ≤ l.length := by have := Nat.mod_lt sn (show l.length + 1 > 0 by omega); omega
  have ts : ((sn : Int)).tmod ((l.length : Int) + 1) = (k : Int) := by rw [hk]; exact tmod_nat sn (l.length + 1)
  have i3 : ((l.length : Int) + 1 == 0) = false := by simp; omega
  have i4 : (k : Int) ≤ (cl : Int) := by omega
  have ws := wrap_i64 sn (by omega)
  have htk : (l.take k).length = k := by simp; omega
  clear hk
  obtain ⟨dd, hdd⟩ : ∃ dd, Hid (dd = wrD l k l.length) := ⟨_, rfl⟩
  have hsl : dd.sure.length = 8 := by rw [hdd.out]; exact (wrD_is l k l.length hkl).1
  have hok : dd.ok := by rw [hdd.out]; exact wrD_ok l k l.length hkl
  have hww : dd.ws.length ≤ 64 := by rw [hdd.out, (wrD_is l k l.length hkl).2.1, wrWs_len]; omega
  have hva : ∀ a, a < 8 → (dd.fail 18446744073709551615 (-1)).view a = dd.view a := fun a ha => fail_all hok _ _ (fun i hi => allBits i (by omega)) (by omega) hww a (by rw [hsl]; exact ha)
  have hvn : ∀ a, a < 8 → (dd.fail 0 (-1)).view a = (wrTo (l.take k) k k).view a := fun a ha => by rw [hdd.out]; exact wrNone l k l.length hkl a ha
  have hal : (dd.fail 18446744073709551615 (-1)).sure.length = 8 := by unfold Dk.fail; rw [failTo_len]; exact hsl
  have hnl : (dd.fail 0 (-1)).sure.length = 8 := by unfold Dk.fail; rw [failTo_len]; exact hsl
  have hwl : (wrTo (l.take k) k k).sure.length = 8 := wrTo_len _ _ _
  have kA := alive_any w
  go_enter Try.func3, Try.ntmps3
  go_wp2_with fail
  refine kA.mono ?_
  rintro e w0 ⟨rfl, b0⟩
  clear kA
  go_wp2_with fail
  refine (written_ok w0 _ l k ((hl.below b0 (Nat.le_refl _)).mono b0.size) (by omega) (by omega)).mono ?_
  rintro e w1 ⟨B, rfl, o1, b1'⟩
  have b1 := b0.trans (b1'.mono b0.size)
  have hsz0 := b0.size
  go_wp2_with fail
  have kw := written_ok w1 _ (l.take k) k ((in16_take (hl.below b1 (Nat.le_refl _)) hkl).mono b1.size) (by omega) (by omega)
  rw [htk] at kw
  refine kw.mono ?_
  rintro e w2 ⟨Bw, rfl, o2, b2'⟩
  have t2 : Two w0.heap.size w2 B (wrTo l k l.length) Bw (wrTo (l.take k) k k) := two_of o1 o2 b2' b1'.size
  have b2 := b1.trans (b2'.mono b1.size)
  have hs2 := Nat.le_trans b1'.size b2'.size
  clear o1 o2 b1 b1' b2' kw htk hl
  by_cases hkl2 : k = l.length
  · subst hkl2
    go_wp2_with fail
    refine (two_sync t2 hs2).mono ?_
    rintro e w3 ⟨rfl, t3', b3'⟩
    have t3 : Two w0.heap.size w3 B dd Bw (wrTo (l.take l.length) l.length l.length) := by rw [hdd.out]; unfold wrD; rw [if_pos rfl]; exact t3'
    have b3 := b2.trans (b3'.mono hsz0)
    clear t2 t3' b2 b3' hdd hs2
    go_wp2_with fail
    refine (al_fail t3.own1 b3 b3.size 18446744073709551615 (by decide) 18446744073709551615 rfl (-1) (by decide)).mono ?_
    rintro e w4 ⟨Ba, rfl, b4, c4, f4⟩
    have t4 := t3.below c4
    clear t3 b3 c4
    go_wp2_with fail
    refine (al_fail t4.own1 b4 b4.size 0 (by decide) 0 rfl (-1) (by decide)).mono ?_
    rintro e w5 ⟨Bn, rfl, b5, c5, f5⟩
    have t5 := t4.below c5
    have f45 := f4.below c5
    have b5s := b5.size
    clear t4 b4 c5 f4
    generalize dd.fail 18446744073709551615 (-1) = da at *
    generalize dd.fail 0 (-1) = dn at *
    generalize wrTo (l.take l.length) l.length l.length = dw at *
    obtain ⟨ba, f6⟩ : ∃ ba, Own ba w5 Ba da := ⟨_, f45⟩
    obtain ⟨bn, f7⟩ : ∃ bn, Own bn w5 Bn dn := ⟨_, f5⟩
    obtain ⟨bt, t7⟩ : ∃ bt, Two bt w5 B dd Bw dw := ⟨_, t5⟩
    clear f45 f5 t5
    go_wp2_with fail
    go_loopw [12] (fun i wr => ∃ a : Nat, a ≤ 8 ∧ i = .int .i64 (a : Int) ∧ Two bt wr B dd Bw dw ∧ Own ba wr Ba da ∧ Own bn wr Bn dn ∧ Below w.heap.size w wr ∧ w.heap.size ≤ wr.heap.size) (fun i _ => 8 - (intOf i).toNat)
    case atStart => exact ⟨0, by omega, rfl, t7, f6, f7, b5, b5s⟩
    case round =>
      obtain ⟨a, ha, rfl, ht, hfa, hfn, hb, hs⟩ := hrel
      by_cases ha8 : a < 8
      · have a1 : (a : Int) < 8 := by omega
        have fin : ∀ W, Below wr.heap.size wr W → ∃ a1 : Nat, a1 ≤ 8 ∧ Value.int .i64 ((a : Int) + 1) = .int .i64 (a1 : Int) ∧ Two bt W B dd Bw dw ∧ Own ba W Ba da ∧ Own bn W Bn dn ∧ Below w.heap.size w W ∧ w.heap.size ≤ W.heap.size := fun W hW => ⟨a + 1, by omega, by simp, ht.below hW, hfa.below hW, hfn.below hW, hb.trans (hW.mono hs), Nat.le_trans hs hW.size⟩
        have finH : Hid (∀ W, Below wr.heap.size wr W → _) := fin
        have va := hva a ha8
        have vn := hvn a ha8
        have la : (dd.view a).length = 64 := Dk.view_len hok (by rw [hsl]; exact ha8)
        have ln : (dw.view a).length = 64 := Dk.view_len ht.own2.ok (by rw [hwl]; exact ha8)
        have k1 := read_own hfa a (by rw [hal]; exact ha8)
        rw [va] at k1
        clear fin
        go_wp2_with fail
        refine k1.mono ?_
        rintro e w1 ⟨rfl, r1, c1⟩
        clear k1
        go_wp2_with fail
        refine (read_own (ht.below c1).own1 a (by rw [hsl]; exact ha8)).mono ?_
        rintro e w2 ⟨rfl, r2, c2'⟩
        have c2 := c1.trans (c2'.mono c1.size)
        have r12 := (c2'.block _ (lt_of_block r1)).trans r1
        clear r1
        go_wp2_with fail
        have k3 := read_own (hfn.below c2) a (by rw [hnl]; exact ha8)
        rw [vn] at k3
        refine k3.mono ?_
        rintro e w3 ⟨rfl, r3, c3'⟩
        have c3 := c2.trans (c3'.mono c2.size)
        have r13 := (c3'.block _ (lt_of_block r12)).trans r12
        have r23 := (c3'.block _ (lt_of_block r2)).trans r2
        clear r12 r2 k3
        go_wp2_with fail
        refine (read_own (ht.below c3).own2 a (by rw [hwl]; exact ha8)).mono ?_
        rintro e w4 ⟨rfl, r4, c4'⟩
        have c4 := c3.trans (c4'.mono c3.size)
        have r14 := (c4'.block _ (lt_of_block r13)).trans r13
        have r24 := (c4'.block _ (lt_of_block r23)).trans r23
        have r34 := (c4'.block _ (lt_of_block r3)).trans r3
        clear r13 r23 r3
        go_wp2_with fail
        refine (sameBytes_any w4 _ _ _ _ (dd.view a) (row_in r14 64 la.symm (by omega)) (row_in r24 64 la.symm (by omega))).mono ?_
        rintro e w5 ⟨rfl, n5, hw5⟩
        have c5 := c4.trans ((below_drewN w4 n5).mono c4.size)
        rw [← hw5] at c5
        have r35 := (show w5.heap[w2.heap.size + 1]? = w4.heap[w2.heap.size + 1]? by rw [hw5]; rfl).trans r34
        have r45 := (show w5.heap[w3.heap.size + 1]? = w4.heap[w3.heap.size + 1]? by rw [hw5]; rfl).trans r4
        clear hw5 r14 r24 r34 r4
        go_wp2_with fail
        refine (sameBytes_any w5 _ _ _ _ (dw.view a) (row_in r35 64 ln.symm (by omega)) (row_in r45 64 ln.symm (by omega))).mono ?_
        rintro e w6 ⟨rfl, n6, hw6⟩
        have f6 := finH.out w6 (by rw [hw6]; exact c5.trans ((below_drewN w5 n6).mono c5.size))
        clear finH hw6 r35 r45 va vn la ln
        go_wp2
        go_roundw
        case rel => exact f6
        case measure => simp [intOf]; omega
      · have a1 : ¬ (a : Int) < 8 := by omega
        go_wp2
        go_ret
        exact ⟨rfl, hb⟩
  · have e4 : ((k : Int) == (l.length : Int)) = false := by simp; omega
    have t3 : Two w0.heap.size w2 B dd Bw (wrTo (l.take k) k k) := by rw [hdd.out]; unfold wrD; rw [if_neg hkl2]; exact t2
    have b3 := b2
    clear t2 b2 hdd hs2 hkl2
    go_wp2_with fail
    refine (al_fail t3.own1 b3 b3.size 18446744073709551615 (by decide) 18446744073709551615 rfl (-1) (by decide)).mono ?_
    rintro e w4 ⟨Ba, rfl, b4, c4, f4⟩
    have t4 := t3.below c4
    clear t3 b3 c4
    go_wp2_with fail
    refine (al_fail t4.own1 b4 b4.size 0 (by decide) 0 rfl (-1) (by decide)).mono ?_
    rintro e w5 ⟨Bn, rfl, b5, c5, f5⟩
    have t5 := t4.below c5
    have f45 := f4.below c5
    have b5s := b5.size
    clear t4 b4 c5 f4
    generalize dd.fail 18446744073709551615 (-1) = da at *
    generalize dd.fail 0 (-1) = dn at *
    generalize wrTo (l.take k) k k = dw at *
    obtain ⟨ba, f6⟩ : ∃ ba, Own ba w5 Ba da := ⟨_, f45⟩
    obtain ⟨bn, f7⟩ : ∃ bn, Own bn w5 Bn dn := ⟨_, f5⟩
    obtain ⟨bt, t7⟩ : ∃ bt, Two bt w5 B dd Bw dw := ⟨_, t5⟩
    clear f45 f5 t5
    go_wp2_with fail
    go_loopw [12] (fun i wr => ∃ a : Nat, a ≤ 8 ∧ i = .int .i64 (a : Int) ∧ Two bt wr B dd Bw dw ∧ Own ba wr Ba da ∧ Own bn wr Bn dn ∧ Below w.heap.size w wr ∧ w.heap.size ≤ wr.heap.size) (fun i _ => 8 - (intOf i).toNat)
    case atStart => exact ⟨0, by omega, rfl, t7, f6, f7, b5, b5s⟩
    case round =>
      obtain ⟨a, ha, rfl, ht, hfa, hfn, hb, hs⟩ := hrel
      by_cases ha8 : a < 8
      · have a1 : (a : Int) < 8 := by omega
        have fin : ∀ W, Below wr.heap.size wr W → ∃ a1 : Nat, a1 ≤ 8 ∧ Value.int .i64 ((a : Int) + 1) = .int .i64 (a1 : Int) ∧ Two bt W B dd Bw dw ∧ Own ba W Ba da ∧ Own bn W Bn dn ∧ Below w.heap.size w W ∧ w.heap.size ≤ W.heap.size := fun W hW => ⟨a + 1, by omega, by simp, ht.below hW, hfa.below hW, hfn.below hW, hb.trans (hW.mono hs), Nat.le_trans hs hW.size⟩
        have finH : Hid (∀ W, Below wr.heap.size wr W → _) := fin
        have va := hva a ha8
        have vn := hvn a ha8
        have la : (dd.view a).length = 64 := Dk.view_len hok (by rw [hsl]; exact ha8)
        have ln : (dw.view a).length = 64 := Dk.view_len ht.own2.ok (by rw [hwl]; exact ha8)
        have k1 := read_own hfa a (by rw [hal]; exact ha8)
        rw [va] at k1
        clear fin
        go_wp2_with fail
        refine k1.mono ?_
        rintro e w1 ⟨rfl, r1, c1⟩
        clear k1
        go_wp2_with fail
        refine (read_own (ht.below c1).own1 a (by rw [hsl]; exact ha8)).mono ?_
        rintro e w2 ⟨rfl, r2, c2'⟩
        have c2 := c1.trans (c2'.mono c1.size)
        have r12 := (c2'.block _ (lt_of_block r1)).trans r1
        clear r1
        go_wp2_with fail
        have k3 := read_own (hfn.below c2) a (by rw [hnl]; exact ha8)
        rw [vn] at k3
        refine k3.mono ?_
        rintro e w3 ⟨rfl, r3, c3'⟩
        have c3 := c2.trans (c3'.mono c2.size)
        have r13 := (c3'.block _ (lt_of_block r12)).trans r12
        have r23 := (c3'.block _ (lt_of_block r2)).trans r2
        clear r12 r2 k3
        go_wp2_with fail
        refine (read_own (ht.below c3).own2 a (by rw [hwl]; exact ha8)).mono ?_
        rintro e w4 ⟨rfl, r4, c4'⟩
        have c4 := c3.trans (c4'.mono c3.size)
        have r14 := (c4'.block _ (lt_of_block r13)).trans r13
        have r24 := (c4'.block _ (lt_of_block r23)).trans r23
        have r34 := (c4'.block _ (lt_of_block r3)).trans r3
        clear r13 r23 r3
        go_wp2_with fail
        refine (sameBytes_any w4 _ _ _ _ (dd.view a) (row_in r14 64 la.symm (by omega)) (row_in r24 64 la.symm (by omega))).mono ?_
        rintro e w5 ⟨rfl, n5, hw5⟩
        have c5 := c4.trans ((below_drewN w4 n5).mono c4.size)
        rw [← hw5] at c5
        have r35 := (show w5.heap[w2.heap.size + 1]? = w4.heap[w2.heap.size + 1]? by rw [hw5]; rfl).trans r34
        have r45 := (show w5.heap[w3.heap.size + 1]? = w4.heap[w3.heap.size + 1]? by rw [hw5]; rfl).trans r4
        clear hw5 r14 r24 r34 r4
        go_wp2_with fail
        refine (sameBytes_any w5 _ _ _ _ (dw.view a) (row_in r35 64 ln.symm (by omega)) (row_in r45 64 ln.symm (by omega))).mono ?_
        rintro e w6 ⟨rfl, n6, hw6⟩
        have f6 := finH.out w6 (by rw [hw6]; exact c5.trans ((below_drewN w5 n6).mono c5.size))
        clear finH hw6 r35 r45 va vn la ln
        go_wp2
        go_roundw
        case rel => exact f6
        case measure => simp [intOf]; omega
      · have a1 : ¬ (a : Int) < 8 := by omega
        go_wp2
        go_ret
        exact ⟨rfl, hb⟩

set_option maxHeartbeats 16000000 in
set_option maxRecDepth 1000000 in
theorem all_nil (w : World) (al : Option Addr) (cl sn : Nat) (hcl : cl ≤ 9223372036854775807) (hs : sn ≤ 255) :
    Calls Try.prog 3 #[.slice al 0 cl, .int .u8 (sn : Int)] w fun e w' => e = .returned (.bool true) ∧ Below w.heap.size w w' := by
  have kA := alive_any w
  have hl0 : ∀ (W : World) (n : Nat), In16 W n (.slice al 0 cl) [] := fun W n => ⟨al, cl, rfl, Nat.zero_le _, hcl, fun hp => by simp at hp⟩
  obtain ⟨l, hln⟩ : ∃ l : List UInt16, l = [] := ⟨_, rfl⟩
  have h60 : l.length ≤ 60 := by rw [hln]; simp
  have hll : l.length = 0 := by rw [hln]; rfl
  obtain ⟨k, hk0⟩ : ∃ k, k = 0 := ⟨_, rfl⟩
  have hkl : k ≤ l.length := by omega
  obtain ⟨dd, hdd⟩ : ∃ dd, Hid (dd = wrD l k l.length) := ⟨_, rfl⟩
  have hsl : dd.sure.length = 8 := by rw [hdd.out]; exact (wrD_is l k l.length hkl).1
  have hok : dd.ok := by rw [hdd.out]; exact wrD_ok l k l.length hkl
  have hww : dd.ws.length ≤ 64 := by rw [hdd.out, (wrD_is l k l.length hkl).2.1, wrWs_len]; omega
  have hva : ∀ a, a < 8 → (dd.fail 18446744073709551615 (-1)).view a = dd.view a := fun a ha => fail_all hok _ _ (fun i hi => allBits i (by omega)) (by omega) hww a (by rw [hsl]; exact ha)
  have hvn : ∀ a, a < 8 → (dd.fail 0 (-1)).view a = (wrTo (l.take k) k k).view a := fun a ha => by rw [hdd.out]; exact wrNone l k l.length hkl a ha
  have hal : (dd.fail 18446744073709551615 (-1)).sure.length = 8 := by unfold Dk.fail; rw [failTo_len]; exact hsl
  have hnl : (dd.fail 0 (-1)).sure.length = 8 := by unfold Dk.fail; rw [failTo_len]; exact hsl
  have hwl : (wrTo (l.take k) k k).sure.length = 8 := wrTo_len _ _ _
  have hl1 : ∀ (W : World) (n : Nat), In16 W n (.slice al 0 cl) l := fun W n => by rw [hln]; exact hl0 W n
  have kw : ∀ W, Calls Try.prog 6 #[.int .i64 8, .slice al 0 cl, .int .i64 0] W fun e w' => ∃ B, e = .returned (.pointer (some ⟨B, 0, none⟩)) ∧ Own W.heap.size w' B (wrTo l k l.length) ∧ Below W.heap.size W w' := fun W => by
    have := written_ok W _ l k (hl1 W _) (by omega) (by omega)
    rw [hk0] at this ⊢
    exact this
  have he2 : wrTo l k l.length = wrTo (l.take k) k k := by rw [hln, hk0]; rfl
  have he1 : Hid (dd = (wrTo l k l.length).sync) := by show _ = _; rw [hdd.out]; unfold wrD; rw [if_pos (by omega)]
  clear hdd hl0 hl1 hln h60 hkl
  go_enter Try.func3, Try.ntmps3
  go_wp2_with fail
  refine kA.mono ?_
  rintro e w0 ⟨rfl, b0⟩
  clear kA
  go_wp2_with fail
  refine (kw w0).mono ?_
  rintro e w1 ⟨B, rfl, o1, b1'⟩
  have b1 := b0.trans (b1'.mono b0.size)
  have hsz0 := b0.size
  go_wp2_with fail
  refine (kw w1).mono ?_
  rintro e w2 ⟨Bw, rfl, o2, b2'⟩
  have t2 := two_of o1 o2 b2' b1'.size
  have b2 := b1.trans (b2'.mono b1.size)
  have hs2 := Nat.le_trans b1'.size b2'.size
  clear o1 o2 b1 b1' b2' kw
  go_wp2_with fail
  refine (two_sync t2 hs2).mono ?_
  rintro e w3 ⟨rfl, t3', b3'⟩
  have t3 : Two w0.heap.size w3 B dd Bw (wrTo (l.take k) k k) := by rw [he1.out, ← he2]; exact t3'
  have b3 := b2.trans (b3'.mono hsz0)
  clear t2 t3' b2 b3' he1 hs2 he2
  go_wp2_with fail
  refine (al_fail t3.own1 b3 b3.size 18446744073709551615 (by decide) 18446744073709551615 rfl (-1) (by decide)).mono ?_
  rintro e w4 ⟨Ba, rfl, b4, c4, f4⟩
  have t4 := t3.below c4
  clear t3 b3 c4
  go_wp2_with fail
  refine (al_fail t4.own1 b4 b4.size 0 (by decide) 0 rfl (-1) (by decide)).mono ?_
  rintro e w5 ⟨Bn, rfl, b5, c5, f5⟩
  have t5 := t4.below c5
  have f45 := f4.below c5
  have b5s := b5.size
  clear t4 b4 c5 f4
  generalize dd.fail 18446744073709551615 (-1) = da at *
  generalize dd.fail 0 (-1) = dn at *
  generalize wrTo (l.take k) k k = dw at *
  obtain ⟨ba, f6⟩ : ∃ ba, Own ba w5 Ba da := ⟨_, f45⟩
  obtain ⟨bn, f7⟩ : ∃ bn, Own bn w5 Bn dn := ⟨_, f5⟩
  obtain ⟨bt, t7⟩ : ∃ bt, Two bt w5 B dd Bw dw := ⟨_, t5⟩
  clear f45 f5 t5
  go_wp2_with fail
  go_loopw [12] (fun i wr => ∃ a : Nat, a ≤ 8 ∧ i = .int .i64 (a : Int) ∧ Two bt wr B dd Bw dw ∧ Own ba wr Ba da ∧ Own bn wr Bn dn ∧ Below w.heap.size w wr ∧ w.heap.size ≤ wr.heap.size) (fun i _ => 8 - (intOf i).toNat)
  case atStart => exact ⟨0, by omega, rfl, t7, f6, f7, b5, b5s⟩
  case round =>
    obtain ⟨a, ha, rfl, ht, hfa, hfn, hb, hs⟩ := hrel
    by_cases ha8 : a < 8
    · have a1 : (a : Int) < 8 := by omega
      have fin : ∀ W, Below wr.heap.size wr W → ∃ a1 : Nat, a1 ≤ 8 ∧ Value.int .i64 ((a : Int) + 1) = .int .i64 (a1 : Int) ∧ Two bt W B dd Bw dw ∧ Own ba W Ba da ∧ Own bn W Bn dn ∧ Below w.heap.size w W ∧ w.heap.size ≤ W.heap.size := fun W hW => ⟨a + 1, by omega, by simp, ht.below hW, hfa.below hW, hfn.below hW, hb.trans (hW.mono hs), Nat.le_trans hs hW.size⟩
      have finH : Hid (∀ W, Below wr.heap.size wr W → _) := fin
      have va := hva a ha8
      have vn := hvn a ha8
      have la : (dd.view a).length = 64 := Dk.view_len hok (by rw [hsl]; exact ha8)
      have ln : (dw.view a).length = 64 := Dk.view_len ht.own2.ok (by rw [hwl]; exact ha8)
      have k1 := read_own hfa a (by rw [hal]; exact ha8)
      rw [va] at k1
      clear fin
      go_wp2_with fail
      refine k1.mono ?_
      rintro e w1 ⟨rfl, r1, c1⟩
      clear k1
      go_wp2_with fail
      refine (read_own (ht.below c1).own1 a (by rw [hsl]; exact ha8)).mono ?_
      rintro e w2 ⟨rfl, r2, c2'⟩
      have c2 := c1.trans (c2'.mono c1.size)
      have r12 := (c2'.block _ (lt_of_block r1)).trans r1
      clear r1
      go_wp2_with fail
      have k3 := read_own (hfn.below c2) a (by rw [hnl]; exact ha8)
      rw [vn] at k3
      refine k3.mono ?_
      rintro e w3 ⟨rfl, r3, c3'⟩
      have c3 := c2.trans (c3'.mono c2.size)
      have r13 := (c3'.block _ (lt_of_block r12)).trans r12
      have r23 := (c3'.block _ (lt_of_block r2)).trans r2
      clear r12 r2 k3
      go_wp2_with fail
      refine (read_own (ht.below c3).own2 a (by rw [hwl]; exact ha8)).mono ?_
      rintro e w4 ⟨rfl, r4, c4'⟩
      have c4 := c3.trans (c4'.mono c3.size)
      have r14 := (c4'.block _ (lt_of_block r13)).trans r13
      have r24 := (c4'.block _ (lt_of_block r23)).trans r23
      have r34 := (c4'.block _ (lt_of_block r3)).trans r3
      clear r13 r23 r3
      go_wp2_with fail
      refine (sameBytes_any w4 _ _ _ _ (dd.view a) (row_in r14 64 la.symm (by omega)) (row_in r24 64 la.symm (by omega))).mono ?_
      rintro e w5 ⟨rfl, n5, hw5⟩
      have c5 := c4.trans ((below_drewN w4 n5).mono c4.size)
      rw [← hw5] at c5
      have r35 := (show w5.heap[w2.heap.size + 1]? = w4.heap[w2.heap.size + 1]? by rw [hw5]; rfl).trans r34
      have r45 := (show w5.heap[w3.heap.size + 1]? = w4.heap[w3.heap.size + 1]? by rw [hw5]; rfl).trans r4
      clear hw5 r14 r24 r34 r4
      go_wp2_with fail
      refine (sameBytes_any w5 _ _ _ _ (dw.view a) (row_in r35 64 ln.symm (by omega)) (row_in r45 64 ln.symm (by omega))).mono ?_
      rintro e w6 ⟨rfl, n6, hw6⟩
      have f6 := finH.out w6 (by rw [hw6]; exact c5.trans ((below_drewN w5 n6).mono c5.size))
      clear finH hw6 r35 r45 va vn la ln
      go_wp2
      go_roundw
      case rel => exact f6
      case measure => simp [intOf]; omega
    · have a1 : ¬ (a : Int) < 8 := by omega
      go_wp2
      go_ret
      exact ⟨rfl, hb⟩

theorem all_any (w : World) (vl : Value) (l : List UInt16) (z : Int) (hl : In16 w w.heap.size vl l) (hz : (Lit.int .u8 z).wf = true) :
    Calls Try.prog 3 #[vl, .int .u8 z] w fun e w' => e = .returned (.bool true) ∧ Below w.heap.size w w' := by
  have zb := bounds_u8 hz
  obtain ⟨zn, rfl⟩ : ∃ zn : Nat, z = (zn : Int) := ⟨z.toNat, by omega⟩
  clear hz
  by_cases h60 : l.length ≤ 60
  · by_cases h0 : 0 < l.length
    · exact all_loop w vl l zn hl (by omega) h60 h0
    · obtain rfl : l = [] := List.eq_nil_of_length_eq_zero (by omega)
      obtain ⟨al, cl, rfl, hl1, hl2, -⟩ := hl
      unfold maxLen at hl2
      exact all_nil w al cl zn (by omega) (by omega)
  · obtain ⟨al, cl, rfl, hl1, hl2, -⟩ := hl
    unfold maxLen at hl2
    have i1 : (60 : Int) < (l.length : Int) := by omega
    go_enter Try.func3, Try.ntmps3
    go_wp2_with fail
    refine (alive_any w).mono ?_
    rintro e w1 ⟨rfl, b1⟩
    go_wp2_with fail
    refine (alive_any _).mono ?_
    rintro e w2 ⟨rfl, b2⟩
    go_wp2
    go_ret
    exact ⟨rfl, b1.trans (b2.mono b1.size)⟩
end Go.Proofs.Ytapfkoojplbfmab
