import Derived.Test.YtcgecdiaddcfkaaGreatDoorM18
import Derived.Test.YtcgecdiaddcfkaaGreatDoorM20
/- The walk of the document's own GetOps. -/
set_option linter.unusedSimpArgs false
set_option linter.unusedVariables false
namespace Go.Proofs.YtcgecdiaddcfkaaGreatDoor
open Go.RowKit

theorem rf_newOp (w : World) (v : Value) (bs : List UInt8) (h : InAt w w.heap.size v bs) : RfAt (w.alloc (.cells #[v, .bool false] 196)) w.heap.size w.heap.size ⟨bs, false⟩ :=
  ⟨v, heap_alloc_new w _, h.kept (fun k hk => Below.heap_alloc w _ k hk), Nat.le_refl _, by simp⟩

set_option maxHeartbeats 8000000 in
set_option maxRecDepth 1000000 in
theorem refGetOps_any (w : World) (vb : Value) (bs : List UInt8) (hb : InAt w w.heap.size vb bs) :
    Calls Tryz.prog 83 #[vb] w fun e w' => ∃ v, e = .returned (.tuple #[v, .int .i64 ((getOps bs).2 : Int)]) ∧
      w'.ownsRow w.heap.size 85 4 v (getOps bs).1.length ((getOps bs).1.flatMap opCells) ∧ Below w.heap.size w w' := by
  obtain ⟨i0, hi, hz0, hz1, hz2⟩ := info_parts info_Op
  have hR := rf_newOp w vb bs hb
  have hbs : Hid (InAt w w.heap.size vb bs) := hb
  obtain ⟨aob, capb, hvb, -, -, -⟩ := hb
  subst hvb
  have bW : Below w.heap.size w (w.alloc (.cells #[.slice aob bs.length capb, .bool false] 196)) := below_one w _
  have zW : (w.alloc (.cells #[.slice aob bs.length capb, .bool false] 196)).heap.size = w.heap.size + 1 := by simp
  have kc := rfcount_any _ w.heap.size w.heap.size ⟨bs, false⟩ hR
  have hn2 := highR2_lt ⟨bs, false⟩
  rw [getOps_read]
  unfold readOp
  generalize (highR 2 ⟨bs, false⟩).1 = n at *
  generalize (highR 2 ⟨bs, false⟩).2 = s1 at *
  obtain ⟨tot, htot⟩ : ∃ tot, tot = loopS stepROp n s1 := ⟨_, rfl⟩
  rw [← htot]
  have HT : Hid (tot = loopS stepROp n s1) := htot
  obtain ⟨RES, hRES⟩ : ∃ RES, RES = (if tot.2.bad = true ∨ (putOps tot.1).2 ≠ 0 ∨ bs ≠ (putOps tot.1).1 then (([] : List OpD), 4) else (tot.1, 0)) := ⟨_, rfl⟩
  rw [← hRES]
  have HR : Hid (RES = (if tot.2.bad = true ∨ (putOps tot.1).2 ≠ 0 ∨ bs ≠ (putOps tot.1).1 then (([] : List OpD), 4) else (tot.1, 0))) := hRES
  have HB : Hid (∀ u, Kept w.heap.size (w.heap.size + 1) (w.alloc (.cells #[.slice aob bs.length capb, .bool false] 196)) u → Below w.heap.size w u) := fun u q => bW.trans (q.below (Nat.le_refl _) (by omega))
  rw [zW] at kc
  clear htot hRES hR bW zW
  go_enter Tryz.func83, Tryz.ntmps83
  go_wp2_with fail
  refine kc.mono ?_
  rintro e w1 ⟨rfl, h1, q1⟩
  clear kc
  go_wp2
  go_loopw [5, 6] (fun vk i wr => ∃ (k : Nat) (acc : List OpD) (st : St), k ≤ n ∧ i = .int .i64 k ∧ wr.ownsRow (w.heap.size + 1) 85 4 vk acc.length (acc.flatMap opCells) ∧ RfAt wr w.heap.size w.heap.size st ∧ Kept w.heap.size (w.heap.size + 1) (w.alloc (.cells #[.slice aob bs.length capb, .bool false] 196)) wr ∧ Hid (acc.length + k ≤ n ∧ acc ++ (loopS stepROp k st).1 = tot.1 ∧ (loopS stepROp k st).2 = tot.2) ∧ Hid (∀ x ∈ acc, opSm x)) (fun _ i _ => (intOf i).toNat)
  case atStart => exact ⟨n, [], s1, Nat.le_refl _, rfl, World.ownsRow_nil _ _ _ _, h1, q1, ⟨by simp, by rw [HT.out]; rfl, by rw [HT.out]⟩, (fun x hx => absurd hx List.not_mem_nil)⟩
  case round =>
    clear q1 h1 HT
    obtain ⟨k, acc, st, hk, rfl, hown, hr, hq, hH, hsm⟩ := hrel
    have hbad := hr.badCell
    have hbase : w.heap.size + 1 ≤ wr.heap.size := by have := hq.size; simp at this; omega
    cases hb : st.bad with
    | true =>
      rw [hb] at hbad
      have E : Hid (tot = (acc, st)) := by
        have h := hH.out
        rw [loopS_bad _ _ hb, List.append_nil] at h
        exact Prod.ext h.2.1.symm h.2.2.symm
      have hbd : Hid (st.bad = true) := hb
      obtain ⟨ao, na, ca, rfl⟩ := own_slice hown
      by_cases hkn : 0 < k
      · have i1 : (0 : Int) < (k : Int) := by omega
        have kp := refPutOps_any wr _ acc (sl_own (fun _ => rfl) hown) hsm.out
        have hcal : Hid (∀ W, Below wr.heap.size wr W → Below w.heap.size w W ∧ W.cell? ⟨w.heap.size, 1, none⟩ = some (.bool st.bad) ∧ InAt W W.heap.size (.slice aob bs.length capb) bs ∧ W.ownsRow w.heap.size 85 4 (.slice ao na ca) acc.length (acc.flatMap opCells)) := fun W hW => by
          have b1 := HB.out wr hq
          have b2 := b1.trans (hW.mono (by omega))
          exact ⟨b2, (hW.cell (p := ⟨w.heap.size, 1, none⟩) (by show w.heap.size < _; omega)).trans hr.badCell, (hbs.out.kept (fun k hk => b2.block k hk)).mono (by have := b2.size; omega), own_mono' (own_below hown hW) (by omega)⟩
        rw [hb] at hcal
        clear hown hr hq hH hb HB
        go_wp2_with fail
        refine kp.mono ?_
        rintro e w5 ⟨v5, rfl, ho5, b5⟩
        obtain ⟨d1, d2, d3, d4⟩ := hcal.out w5 b5
        clear kp hcal
        have E4 : Hid (RES = ([], 4)) := by show _ = _; rw [HR.out, E.out, if_pos (.inl hbd.out)]
        obtain ⟨a5, n5, c5, rfl⟩ := own_slice ho5
        clear HR E ho5 b5 d3
        generalize (putOps acc).2 = ec at *
        go_wp2
        go_ret2
        exact ⟨_, by rw [E4.out]; rfl, by rw [E4.out]; exact World.ownsRow_nil _ _ _ _, d1⟩
      · have hk0 : k = 0 := by omega
        subst hk0
        have kp := refPutOps_any wr _ acc (sl_own (fun _ => rfl) hown) hsm.out
        have hcal : Hid (∀ W, Below wr.heap.size wr W → Below w.heap.size w W ∧ W.cell? ⟨w.heap.size, 1, none⟩ = some (.bool st.bad) ∧ InAt W W.heap.size (.slice aob bs.length capb) bs ∧ W.ownsRow w.heap.size 85 4 (.slice ao na ca) acc.length (acc.flatMap opCells)) := fun W hW => by
          have b1 := HB.out wr hq
          have b2 := b1.trans (hW.mono (by omega))
          exact ⟨b2, (hW.cell (p := ⟨w.heap.size, 1, none⟩) (by show w.heap.size < _; omega)).trans hr.badCell, (hbs.out.kept (fun k hk => b2.block k hk)).mono (by have := b2.size; omega), own_mono' (own_below hown hW) (by omega)⟩
        rw [hb] at hcal
        clear hown hr hq hH hb HB
        go_wp2_with fail
        refine kp.mono ?_
        rintro e w5 ⟨v5, rfl, ho5, b5⟩
        obtain ⟨d1, d2, d3, d4⟩ := hcal.out w5 b5
        clear kp hcal
        have E4 : Hid (RES = ([], 4)) := by show _ = _; rw [HR.out, E.out, if_pos (.inl hbd.out)]
        obtain ⟨a5, n5, c5, rfl⟩ := own_slice ho5
        clear HR E ho5 b5 d3
        generalize (putOps acc).2 = ec at *
        go_wp2
        go_ret2
        exact ⟨_, by rw [E4.out]; rfl, by rw [E4.out]; exact World.ownsRow_nil _ _ _ _, d1⟩
    | false =>
      rw [hb] at hbad
      by_cases hkn : 0 < k
      · obtain ⟨k, rfl⟩ : ∃ j, k = j + 1 := ⟨k - 1, by omega⟩
        have hH2 : Hid ((acc ++ [(stepROp st).1]).length + k ≤ n ∧ (acc ++ [(stepROp st).1]) ++ (loopS stepROp k (stepROp st).2).1 = tot.1 ∧ (loopS stepROp k (stepROp st).2).2 = tot.2) := by
          have h := hH.out
          rw [loopS_next _ _ hb] at h
          refine ⟨by simp; omega, ?_, h.2.2⟩
          rw [← h.2.1]; simp
        have hsm2 : Hid (∀ x ∈ acc ++ [(stepROp st).1], opSm x) := fun x hx => by
          rcases List.mem_append.mp hx with hx | hx
          · exact hsm.out x hx
          · simp only [List.mem_singleton] at hx; rw [hx]; exact stepROp_sm st
        have HL : Hid (acc.length ≤ 65536) := by have := hH.out.1; show _ ≤ _; omega
        have i1 : (0 : Int) < ((k + 1 : Nat) : Int) := by omega
        obtain ⟨ao, na, ca, rfl⟩ := own_slice hown
        clear hH hb hsm hbs HR
        unfold stepROp at hH2 hsm2
        have km := rftake_any wr w.heap.size w.heap.size 1 st hr (by omega)
        have hl1 := takeR_len 1 st
        generalize takeR 1 st = t at *
        obtain ⟨b1, st1⟩ := t
        simp only at km hl1 hH2 hsm2
        obtain ⟨c, rfl⟩ := list_1 hl1
        rw [hiN_1] at hH2 hsm2
        have kt := fun u (h : RfAt u w.heap.size w.heap.size st1) => rftext_any u w.heap.size w.heap.size st1 h
        generalize textR st1 = t at *
        obtain ⟨key, st2⟩ := t
        simp only at kt hH2 hsm2
        have ku := fun u (h : RfAt u w.heap.size w.heap.size st2) => rftext_any u w.heap.size w.heap.size st2 h
        generalize textR st2 = t at *
        obtain ⟨to, st3⟩ := t
        simp only at ku hH2 hsm2
        have kn := fun u (h : RfAt u w.heap.size w.heap.size st3) => rfnumber_any u w.heap.size w.heap.size st3 h
        have hv4 := highR4_lt st3
        generalize highR 4 st3 = t at *
        obtain ⟨vn, st4⟩ := t
        simp only at kn hv4 hH2 hsm2
        have hval : (vn : Int) = ((UInt32.ofNat vn).toNat : Int) := by rw [u32_nat hv4]
        obtain ⟨x, hx⟩ : ∃ x, x = OpD.mk (UInt8.ofNat c.toNat) key to (UInt32.ofNat vn) := ⟨_, rfl⟩
        rw [← hx] at hH2 hsm2
        have HX : Hid ([Value.int .u8 (c.toNat : Int), .string key, .string to, .int .u32 (vn : Int)] = opCells x) := by show _ = _; rw [hx, hval]; simp [opCells]
        clear hx hval hl1 hv4
        go_wp2_with fail
        refine km.mono ?_
        rintro e u1 ⟨v2, rfl, in2, r1, q1⟩
        obtain ⟨bk, off, cap2, rfl, hc1, hc2, hc3⟩ := in_parts in2 (by simp)
        have c0 := hc3 0 (by simp)
        simp only [Nat.add_zero, List.getElem_cons_zero, bv] at c0
        unfold maxLen at hc2
        simp only [List.length_cons, List.length_nil] at hc1
        simp only [List.length_cons, List.length_nil]
        have o1 := own_kept hown (by omega) q1
        have p1 : Kept w.heap.size (w.heap.size + 1) (w.alloc (.cells #[.slice aob bs.length capb, .bool false] 196)) u1 := hq.trans (q1.mono hbase)
        have z1 : w.heap.size + 1 ≤ u1.heap.size := Nat.le_trans hbase q1.size
        clear km hown hr hq hbad q1 hc3 in2
        have g := GR.start r1 o1 p1 (by omega) z1 85 #[.int .u8 (c.toNat : Int), .string ⟨#[]⟩, .string ⟨#[]⟩, .int .u32 0]
        have kt1 := kt _ g.r
        clear kt r1 o1 p1
        go_wp2_with fail
        refine kt1.mono ?_
        rintro e u2 ⟨rfl, r2, q2⟩
        have g2 := g.call r2 q2
        clear kt1 g r2 q2 c0
        have x1 := block_cell' g2.x 1 _ rfl
        have f1 := box_frozen (i := 1) g2.x
        have g3 := g2.store 1 (.string key)
        have ku1 := ku _ g3.r
        have G3 : Hid _ := g3
        clear ku g2 g3
        go_wp2_with fail
        refine ku1.mono ?_
        rintro e u3 ⟨rfl, r3, q3⟩
        have g4 := G3.out.call r3 q3
        clear ku1 G3 r3 q3 x1 f1
        have x2 := block_cell' g4.x 2 _ rfl
        have f2 := box_frozen (i := 2) g4.x
        have g5' := g4.store 2 (.string to)
        have kn1 := kn _ g5'.r
        have G5 : Hid _ := g5'
        clear kn g4 g5'
        go_wp2_with fail
        refine kn1.mono ?_
        rintro e u4 ⟨rfl, r4, q4⟩
        have g6 := G5.out.call r4 q4
        have x3 := block_cell' g6.x 3 _ rfl
        have f3 := box_frozen (i := 3) g6.x
        have g5 := g6.store 3 (.int .u32 (vn : Int))
        clear kn1 G5 r4 q4 x2 f2
        have y0 := block_cell' g5.x 0 _ rfl
        have y1 := block_cell' g5.x 1 _ rfl
        have y2 := block_cell' g5.x 2 _ rfl
        have y3 := block_cell' g5.x 3 _ rfl
        have hz5 : w.heap.size + 1 ≤ (u4.setCell ⟨u1.heap.size, 3, none⟩ (.int .u32 (vn : Int))).heap.size := by have := g5.xz; have := g5.bx; omega
        have GX : Hid (GR (w.alloc (.cells #[.slice aob bs.length capb, .bool false] 196)) w.heap.size w.heap.size (w.heap.size + 1) u1.heap.size 85 _ 85 4 (.slice ao na ca) acc.length (acc.flatMap opCells) st4 (u4.setCell ⟨u1.heap.size, 3, none⟩ (.int .u32 (vn : Int)))) := g5
        have ROW : Hid ((u4.setCell ⟨u1.heap.size, 3, none⟩ (.int .u32 (vn : Int))).alloc (.cells #[.int .u8 (c.toNat : Int), .string key, .string to, .int .u32 (vn : Int)] 85) |>.ownsRow (w.heap.size + 1) 85 4 (.slice ao na ca) acc.length (acc.flatMap opCells)) := g5.own.alloc _
        have ZS : Hid (w.heap.size + 1 ≤ ((u4.setCell ⟨u1.heap.size, 3, none⟩ (.int .u32 (vn : Int))).alloc (.cells #[.int .u8 (c.toNat : Int), .string key, .string to, .int .u32 (vn : Int)] 85)).heap.size) := Nat.le_trans hz5 (below_one _ _).size
        have SRC : Hid (Src Tryz.prog 4 24 (.slice (some ⟨(u4.setCell ⟨u1.heap.size, 3, none⟩ (.int .u32 (vn : Int))).heap.size, 0, none⟩) 1 1) 1 [.int .u8 (c.toNat : Int), .string key, .string to, .int .u32 (vn : Int)] ((u4.setCell ⟨u1.heap.size, 3, none⟩ (.int .u32 (vn : Int))).alloc (.cells #[.int .u8 (c.toNat : Int), .string key, .string to, .int .u32 (vn : Int)] 85))) := Src.ofSlice _ Tryz.underlying24 ⟨(u4.setCell ⟨u1.heap.size, 3, none⟩ (.int .u32 (vn : Int))).heap.size, 0, none⟩ 1 1 [.int .u8 (c.toNat : Int), .string key, .string to, .int .u32 (vn : Int)] rfl (news_ofv [.int .u8 (c.toNat : Int), .string key, .string to, .int .u32 (vn : Int)] _) (by rw [HX.out]; exact opCells_one x)
        have fin : Hid (∀ v' w4, w4.ownsRow (w.heap.size + 1) 85 4 v' (acc.length + 1) (acc.flatMap opCells ++ [.int .u8 (c.toNat : Int), .string key, .string to, .int .u32 (vn : Int)]) → ((u4.setCell ⟨u1.heap.size, 3, none⟩ (.int .u32 (vn : Int))).alloc (.cells #[.int .u8 (c.toNat : Int), .string key, .string to, .int .u32 (vn : Int)] 85)).grownBy w4 (Value.ownBlock (.slice ao na ca)) →
            w4.ownsRow (w.heap.size + 1) 85 4 v' (acc ++ [x]).length ((acc ++ [x]).flatMap opCells) ∧ RfAt w4 w.heap.size w.heap.size st4 ∧ Kept w.heap.size (w.heap.size + 1) (w.alloc (.cells #[.slice aob bs.length capb, .bool false] 196)) w4) := by
          intro v' w4 ho hg
          have hrow : ∀ k, Value.ownBlock (.slice ao na ca) = some k → w.heap.size + 1 ≤ k := own_row_ge ROW.out
          refine ⟨?_, (GX.out.r.below (below_one _ _)).grown hg hrow (by omega), (GX.out.q.alloc hz5 _).grown hg ZS.out hrow⟩
          rw [flat_one, List.length_append, List.length_singleton, ← HX.out]; exact ho
        have hzz : (u4.setCell ⟨u1.heap.size, 3, none⟩ (.int .u32 (vn : Int))).heap.size = u4.heap.size := by simp [World.setCell]
        rw [hzz] at SRC
        clear g5 g6 hz5 GX hzz
        go_wp2_with (at_builtin; refine wpList_append_own_src _ rfl (.tmp 40) (.tmp 42) 24 24 rfl (w.heap.size + 1) 85 i0 (.agg #[.int .u8 0, .string ⟨#[]⟩, .string ⟨#[]⟩, .int .u32 0]) 4 48 Tryz.underlying24 hi hz0 hz1 hz2 rfl (by decide) _ acc.length _ rfl ROW.out (.slice (some ⟨u4.heap.size, 0, none⟩) 1 1) 1 _ rfl SRC.out (by have := HL.out; unfold maxLen; omega) (by have := HL.out; omega) ZS.out ?_; intro v' w4 hown5 hg5 _; have F := fin.out v' w4 hown5 hg5)
        obtain ⟨F1, F2, F3⟩ := F
        clear fin
        go_roundw
        case rel => exact ⟨k, acc ++ [x], st4, by omega, by go_num, F1, F2, F3, hH2, hsm2⟩
        case measure => simp [intOf]
      · have hk0 : k = 0 := by omega
        subst hk0
        have E : Hid (tot = (acc, st)) := by
          have h := hH.out
          exact Prod.ext (by simpa [loopS] using h.2.1.symm) h.2.2.symm
        have hbd : Hid (st.bad = false) := hb
        obtain ⟨ao, na, ca, rfl⟩ := own_slice hown
        have kp := refPutOps_any wr _ acc (sl_own (fun _ => rfl) hown) hsm.out
        have hcal : Hid (∀ W, Below wr.heap.size wr W → Below w.heap.size w W ∧ W.cell? ⟨w.heap.size, 1, none⟩ = some (.bool st.bad) ∧ InAt W W.heap.size (.slice aob bs.length capb) bs ∧ W.ownsRow w.heap.size 85 4 (.slice ao na ca) acc.length (acc.flatMap opCells)) := fun W hW => by
          have b1 := HB.out wr hq
          have b2 := b1.trans (hW.mono (by omega))
          exact ⟨b2, (hW.cell (p := ⟨w.heap.size, 1, none⟩) (by show w.heap.size < _; omega)).trans hr.badCell, (hbs.out.kept (fun k hk => b2.block k hk)).mono (by have := b2.size; omega), own_mono' (own_below hown hW) (by omega)⟩
        rw [hb] at hcal
        clear hown hr hq hH hb HB
        go_wp2_with fail
        refine kp.mono ?_
        rintro e w5 ⟨v5, rfl, ho5, b5⟩
        obtain ⟨d1, d2, d3, d4⟩ := hcal.out w5 b5
        clear kp hcal
        have ks := refSame_any w5 _ _ _ _ bs (putOps acc).1 d3 (in_own ho5)
        obtain ⟨a5, n5, c5, rfl⟩ := own_slice ho5
        have e1 : RES = if (putOps acc).2 ≠ 0 ∨ bs ≠ (putOps acc).1 then ([], 4) else (acc, 0) := by
          rw [HR.out, E.out]
          simp only [hbd.out, Bool.false_eq_true, false_or]
        have E1 : Hid (RES = if (putOps acc).2 ≠ 0 ∨ bs ≠ (putOps acc).1 then ([], 4) else (acc, 0)) := e1
        clear e1 HR E b5 d3 ho5 hbs
        generalize (putOps acc).2 = ec at *
        generalize (putOps acc).1 = pc at *
        by_cases hec : ec = 0
        case neg =>
          have E4 : Hid (RES = ([], 4)) := by show _ = _; rw [E1.out, if_pos (.inl hec)]
          have hne : ((ec : Int) != 0) = true := by simp; omega
          clear E1 ks
          go_wp2
          go_ret2
          exact ⟨_, by rw [E4.out]; rfl, by rw [E4.out]; exact World.ownsRow_nil _ _ _ _, d1⟩
        subst hec
        by_cases hsame : bs = pc
        · have E4 : Hid (RES = (acc, 0)) := by show _ = _; rw [E1.out, if_neg (by simp [hsame])]
          rw [decide_eq_true hsame] at ks
          clear E1 hsame
          go_wp2_with fail
          refine ks.mono ?_
          rintro e w6 ⟨rfl, n6, rfl⟩
          clear ks
          go_wp2
          go_ret2
          exact ⟨_, by rw [E4.out]; rfl, by rw [E4.out]; exact d4, d1.trans ((below_dn w5 n6).mono d1.size)⟩
        · have E4 : Hid (RES = ([], 4)) := by show _ = _; rw [E1.out, if_pos (.inr hsame)]
          rw [decide_eq_false hsame] at ks
          clear E1 hsame
          go_wp2_with fail
          refine ks.mono ?_
          rintro e w6 ⟨rfl, n6, rfl⟩
          clear ks
          go_wp2
          go_ret2
          exact ⟨_, by rw [E4.out]; rfl, by rw [E4.out]; exact World.ownsRow_nil _ _ _ _, d1.trans ((below_dn w5 n6).mono d1.size)⟩
end Go.Proofs.YtcgecdiaddcfkaaGreatDoor
