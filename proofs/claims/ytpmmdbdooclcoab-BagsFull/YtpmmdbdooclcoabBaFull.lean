/- The walk of BagsFull. -/
import Derived.Test.YtpmmdbdooclcoabBaAlive
set_option linter.unusedSimpArgs false
set_option linter.unusedVariables false
namespace Go.Proofs.Ytpmmdbdooclcoab
open Go.RowKit

/-- The message with another number. -/
def setG (m : MsgD) (g : UInt32) : MsgD := ⟨m.say, m.src, m.dst, g, m.ops, m.res⟩
theorem setG_at {w : World} {lim : Nat} {vo vr : Value} {m : MsgD} {l : List ResP} (h : MsgAt w lim vo vr m l) (g : UInt32) : MsgAt w lim vo vr (setG m g) l := ⟨h.ops, h.sm, h.res, h.eq⟩
def idsTo (n : Nat) : List UInt32 := (List.range n).map UInt32.ofNat
theorem idsTo_succ (n : Nat) : idsTo (n + 1) = idsTo n ++ [UInt32.ofNat n] := by unfold idsTo; rw [List.range_succ]; simp
set_option maxHeartbeats 1000000 in
set_option maxRecDepth 1000000 in
theorem full_walk (w : World) (vo vr : Value) (most at_ : Int) (m : MsgD) (l : List ResP) (hmo : (Lit.int .u8 most).wf = true) (hat : (Lit.int .u8 at_).wf = true) (hm : MsgAt w w.heap.size vo vr m l) (ho : ∀ x ∈ m.ops, opSz x) (hr : ∀ p ∈ l, resSz p) (hl1 : m.ops.length ≤ 140737488351232) (hl2 : l.length ≤ 140737488351232) :
    Calls Try.prog 3 #[.int .u8 most, .int .u8 at_, msgV m vo vr] w fun e w' => e = .returned (.bool true) ∧ Below w.heap.size w w' := by
  obtain ⟨mo, rfl⟩ := u8_of_wf hmo
  obtain ⟨ac, rfl⟩ := u8_of_wf hat
  obtain ⟨ao, ca, bo, cb, rfl, rfl⟩ := hm.form
  have hmu : mo.toNat < 256 := mo.toNat_lt
  have hau : ac.toNat < 256 := ac.toNat_lt
  obtain ⟨M, hM⟩ : ∃ M, M = w.heap.size := ⟨_, rfl⟩
  obtain ⟨n, hn⟩ : ∃ n, n = 1 + mo.toNat % 60 := ⟨_, rfl⟩
  have hn1 : 1 ≤ n := by omega
  have hn2 : n ≤ 60 := by have := Nat.mod_lt mo.toNat (show 0 < 60 by omega); omega
  have st0 : St noB w (w.alloc (.cells (mdCells m (.slice ao m.ops.length ca) (.slice bo l.length cb)) 27)) [Part.blk M (.cells (mdCells m (.slice ao m.ops.length ca) (.slice bo l.length cb)) 27 (0, 0))] := by
    rw [hM]; exact (St.nil w).alloc _
  have HM : Hid (MsgAt w w.heap.size (.slice ao m.ops.length ca) (.slice bo l.length cb) m l) := hm
  have k1 := alive_ok (w.alloc (.cells (mdCells m (.slice ao m.ops.length ca) (.slice bo l.length cb)) 27))
  have kout : Hid (∀ W, St noB w W [Part.blk M (.cells (mdCells m (.slice ao m.ops.length ca) (.slice bo l.length cb)) 27 (0, 0))] → Calls Try.prog 4 #[] W fun e w' => e = .returned (.bool true) ∧ Below w.heap.size w w') := fun W hW => (alive_ok W).mono fun e w' ⟨e1, e2⟩ => ⟨e1, (hW.up e2).below⟩
  have ksz : Hid (∀ W, St noB w W [Part.blk M (.cells (mdCells m (.slice ao m.ops.length ca) (.slice bo l.length cb)) 27 (0, 0))] → Calls Try.prog 5 #[.agg #[.int .u8 (m.say.toNat : Int), .int .u8 (m.src.toNat : Int), .int .u8 (m.dst.toNat : Int), .int .u32 (m.g.toNat : Int), .slice ao m.ops.length ca, .slice bo l.length cb]] W fun e w' => (∃ z : Int, e = .returned (.int .i64 z) ∧ Hid (z ≤ 5000 → m.ops.length ≤ 5000 ∧ l.length ≤ 5000 ∧ ∀ p ∈ l, p.2.length ≤ 5000)) ∧ St noB w w' [Part.blk M (.cells (mdCells m (.slice ao m.ops.length ca) (.slice bo l.length cb)) 27 (0, 0))]) := fun W hW =>
    (msgSizeB_any W _ _ m l (HM.out.up hW.below) ho hr hl1 hl2).mono fun e w' ⟨e1, e2⟩ => ⟨e1, hW.up e2⟩
  have HN : Hid (n = 1 + mo.toNat % 60) := hn
  have inn : (1 : Int) + (mo.toNat : Int) % 60 = (n : Int) := by rw [hn]; omega
  have HM2 : Hid (M = w.heap.size) := hM
  have S0 : Hid (∀ W, Below (w.alloc (.cells (mdCells m (.slice ao m.ops.length ca) (.slice bo l.length cb)) 27)).heap.size (w.alloc (.cells (mdCells m (.slice ao m.ops.length ca) (.slice bo l.length cb)) 27)) W → St noB w W [Part.blk M (.cells (mdCells m (.slice ao m.ops.length ca) (.slice bo l.length cb)) 27 (0, 0))]) := fun W hW => st0.up hW
  unfold mdCells at k1
  unfold msgV
  clear hm ho hr hn hmo hat st0
  go_enter Try.func3, Try.ntmps3
  go_wp2_with fail
  refine k1.mono ?_
  rintro e w1 ⟨rfl, b1⟩
  have st1 := S0.out w1 b1
  obtain ⟨c0, c1, c2, c3, c4, c5⟩ := six_cells st1.blk.1
  rw [HM2.out] at c0 c1 c2 c3 c4 c5
  have k2 := ksz.out w1 st1
  clear k1 ksz b1 S0 st1
  go_wp2_with fail
  refine k2.mono ?_
  rintro e w2 ⟨⟨z, rfl, hz⟩, st2⟩
  have ko := kout.out w2 st2
  clear k2 kout c0 c1 c2 c3 c4 c5
  by_cases hz3 : 3000 < z
  · clear st2
    go_wp2_with fail
    refine ko.mono ?_
    rintro e w3 ⟨rfl, b3⟩
    clear ko
    go_wp2
    go_ret
    exact ⟨rfl, b3⟩
  have hfew : Hid (m.ops.length ≤ 5000 ∧ l.length ≤ 5000 ∧ ∀ p ∈ l, p.2.length ≤ 5000) := hz.out (by omega)
  have ST2 : Hid _ := st2
  have kN := New_ok w2 n (by omega) (by omega)
  obtain ⟨B, hB⟩ : ∃ B, B = w2.heap.size := ⟨_, rfl⟩
  rw [← hB] at kN
  clear ko hz st2 hB
  go_wp2_with fail
  refine kN.mono ?_
  rintro e w3 ⟨rfl, s3⟩
  have S3 : Hid (∃ (ys : List MsgO) (g : UInt32), ys.length = 0 ∧ idsOf ys = idsTo 0 ∧ St noB w w3 [bagP B n ys, Part.blk M (.cells (mdCells (setG m g) (.slice ao m.ops.length ca) (.slice bo l.length cb)) 27 (0, 0))]) := ⟨[], m.g, rfl, rfl, ST2.out.and s3⟩
  clear kN s3 ST2
  go_wp2
  go_loopw [10] (fun i wr => ∃ k : Nat, k ≤ n ∧ i = .int .i64 (k : Int) ∧ Hid (∃ (ys : List MsgO) (g : UInt32), ys.length = k ∧ idsOf ys = idsTo k ∧ St noB w wr [bagP B n ys, Part.blk M (.cells (mdCells (setG m g) (.slice ao m.ops.length ca) (.slice bo l.length cb)) 27 (0, 0))])) (fun i _ => n - (intOf i).toNat)
  case atStart => exact ⟨0, by omega, rfl, S3⟩
  case round =>
    clear S3
    obtain ⟨k, hk, rfl, hI⟩ := hrel
    by_cases hkn : k < n
    · obtain ⟨ys, g, hyl, hyi, st⟩ := hI.out
      have st2 := st.swap
      have f3 := box_frozen (i := 3) st2.blk.1
      obtain ⟨c0, c1, c2, c3, c4, c5⟩ := six_cells st2.blk.1
      have eg : ((UInt32.ofNat k).toNat : Int) = (k : Int) := by rw [u32_nat (by omega)]
      have st3 := st2.set' (i := 3) (u := .int .u32 (k : Int)) (mdCells (setG m (UInt32.ofNat k)) (.slice ao m.ops.length ca) (.slice bo l.length cb)) (by simp [mdCells, setG]; omega) rfl
      obtain ⟨d0, d1, d2, d3, d4, d5⟩ := six_cells st3.blk.1
      have ka := Add_ok B n ys (.slice ao m.ops.length ca) (.slice bo l.length cb) (setG m (UInt32.ofNat k)) l (st3.pick 1 rfl) (setG_at (HM.out.up st3.below) _) (by omega) (by omega) (by omega) (by have := hfew.out.1; show m.ops.length ≤ _; omega) (by have := hfew.out.2.1; omega) (fun p hp => by have := hfew.out.2.2 p hp; omega)
      have HY : Hid (ys.length = k ∧ idsOf ys = idsTo k) := ⟨hyl, hyi⟩
      have i1 : (k : Int) < (n : Int) := by omega
      have wk : IntKind.u32.wrap (k : Int) = (k : Int) := by rw [IntKind.wrap_u32]; omega
      unfold msgV setG at ka
      simp only at ka
      rw [eg] at ka
      rw [HM2.out] at f3 c0 c1 c2 c3 c4 c5 d0 d1 d2 d3 d4 d5 ka
      unfold setG at c0 c1 c2 d0 d1 d2 d3
      simp only at c0 c1 c2 d0 d1 d2 d3
      rw [eg] at d3
      clear hI hyl hyi st st2 st3
      go_wp2_with fail
      refine ka.mono ?_
      rintro e w4 ⟨rfl, y, hy, s4⟩
      have R : Hid (∃ (ys : List MsgO) (g : UInt32), ys.length = k + 1 ∧ idsOf ys = idsTo (k + 1) ∧ St noB w w4 [bagP B n ys, Part.blk M (.cells (mdCells (setG m g) (.slice ao m.ops.length ca) (.slice bo l.length cb)) 27 (0, 0))]) := ⟨ys ++ [y], UInt32.ofNat k, by simp [HY.out.1], by
        rw [idsTo_succ, ← HY.out.2]; unfold idsOf; rw [List.map_append, List.map_cons, List.map_nil, hy], by rw [HM2.out]; exact s4⟩
      clear ka hy s4 f3 c0 c1 c2 c3 c4 c5 d0 d1 d2 d3 d4 d5 wk eg
      go_wp2
      go_roundw
      case rel => exact ⟨k + 1, by omega, by go_num, R⟩
      case measure => simp [intOf]; omega
    · obtain ⟨ys, g, hyl, hyi, st⟩ := hI.out
      obtain rfl : k = n := by omega
      have kt := tell_ok B k ys st (by omega) (by omega) (by omega)
      have HY : Hid (ys.length = k ∧ idsOf ys = idsTo k) := ⟨hyl, hyi⟩
      clear hI hyl hyi st inn
      go_wp2_with fail
      refine kt.mono ?_
      rintro e w4 ⟨v4, rfl, s4⟩
      obtain ⟨⟨a4, c4, rfl, -, -⟩, -⟩ := s4.form
      have hidl : (idsOf ys).length = k := by rw [HY.out.2]; simp [idsTo]
      rw [hidl] at s4
      have S4 : Hid (St noB w w4 [Part.row 23 1 (.slice a4 k c4) k ((idsOf ys).flatMap idCell), bagP B k ys, Part.blk M (.cells (mdCells (setG m g) (.slice ao m.ops.length ca) (.slice bo l.length cb)) 27 (0, 0))]) := s4
      rw [hidl]
      have kt1 := Take_bad B k ys (-1) (.inl (by omega)) (s4.pick 1 rfl) (by omega) (by omega) (by have := HY.out.1; omega)
      clear kt s4
      go_wp2_with fail
      refine kt1.mono ?_
      rintro e w5 ⟨rfl, b5⟩
      have s6 := (S4.out.up b5).up (below_one w5 (.cells #[.int .u8 0, .int .u8 0, .int .u8 0, .int .u32 0, .slice none 0 0, .slice none 0 0] 27))
      have S6 : Hid _ := s6
      have kt2 := Take_bad B k ys (k : Int) (.inr (by have := HY.out.1; omega)) (s6.pick 1 rfl) (by omega) (by omega) (by have := HY.out.1; omega)
      clear kt1 b5 S4 s6
      go_wp2_with fail
      refine kt2.mono ?_
      rintro e w7 ⟨rfl, b7⟩
      have s8 := (S6.out.up b7).up (below_one w7 (.cells #[.int .u8 0, .int .u8 0, .int .u8 0, .int .u32 0, .slice none 0 0, .slice none 0 0] 27))
      have S8 : Hid _ := s8
      obtain ⟨c0, c1, c2, c3, c4', c5⟩ := six_cells (s8.pick 2 rfl).blk.1
      have ka := Add_full B k ys (.slice ao m.ops.length ca) (.slice bo l.length cb) (setG m g) l (s8.pick 1 rfl) (setG_at (HM.out.up s8.below) _) (by omega) (by omega) (by have := HY.out.1; omega)
      unfold msgV setG at ka
      unfold setG at c0 c1 c2 c3
      simp only at ka c0 c1 c2 c3
      rw [HM2.out] at c0 c1 c2 c3 c4' c5
      clear kt2 b7 S6 s8
      go_wp2_with fail
      refine ka.mono ?_
      rintro e w9 ⟨rfl, b9⟩
      have s9 := S8.out.up b9
      have S9 : Hid _ := s9
      obtain ⟨x0, hx0⟩ : ∃ x, ys[0]? = some x := ⟨_, List.getElem?_eq_getElem (by have := HY.out.1; omega)⟩
      have kc := Copy_full B k ys 0 x0 hx0 (by have := HY.out.1; omega) (s9.pick 1 rfl) (by omega) (by omega) (by have := HY.out.1; omega)
      rw [show ((0 : Nat) : Int) = 0 from rfl] at kc
      clear ka b9 S8 s9 c0 c1 c2 c3 c4' c5 hx0
      go_wp2_with fail
      refine kc.mono ?_
      rintro e w10 ⟨rfl, b10⟩
      have s10 := S9.out.up b10
      have S10 : Hid _ := s10
      have kc2 := Copy_bad B k ys (k : Int) (.inr (by have := HY.out.1; omega)) (s10.pick 1 rfl) (by omega) (by omega) (by have := HY.out.1; omega)
      clear kc b10 S9 s10
      go_wp2_with fail
      refine kc2.mono ?_
      rintro e w11 ⟨rfl, b11⟩
      have s11 := S10.out.up b11
      have kt := tell_ok B k ys (s11.pick 1 rfl) (by omega) (by omega) (by have := HY.out.1; omega)
      clear kc2 b11 S10 s11
      go_wp2_with fail
      refine kt.mono ?_
      rintro e w12 ⟨v12, rfl, s12⟩
      obtain ⟨⟨a12, c12, rfl, -, -⟩, -⟩ := s12.form
      have r1 := sl_own idCell_len s12.row
      have r2 := (s12.pick 2 rfl).row
      rw [← hidl] at r2
      have ks := sameIds_any w12 _ _ _ _ (idsOf ys) r1 (sl_own idCell_len r2)
      rw [hidl] at ks ⊢
      have S12 : Hid (St noB w w12 [bagP B k ys, Part.blk M (.cells (mdCells (setG m g) (.slice ao m.ops.length ca) (.slice bo l.length cb)) 27 (0, 0))]) := by
        have s := s12
        rw [hidl] at s
        exact (s.re 4 [1, 3, 0, 2] (by decide)).front (K := [_, _]) (L := [_, _])
      clear kt s12 r1 r2
      go_wp2_with fail
      refine ks.mono ?_
      rintro e w13 ⟨rfl, n13, rfl⟩
      have s13 := S12.out.up (below_drewN w12 n13)
      clear ks S12 hidl
      obtain ⟨q, hq⟩ : ∃ q, q = ac.toNat % k := ⟨_, rfl⟩
      have hqk : q < k := by rw [hq]; exact Nat.mod_lt _ (by omega)
      have itm : (ac.toNat : Int).tmod (k : Int) = (q : Int) := by rw [hq]; exact (Int.ofNat_tmod _ _).symm
      have iem : (ac.toNat : Int) % (k : Int) = (q : Int) := by rw [hq]; exact (Int.natCast_emod _ _).symm
      have ik0 : ¬ ((k : Int) = 0) := by omega
      have ik1 : ((k : Int) == 0) = false := by simp; omega
      obtain ⟨x, hx⟩ : ∃ x, ys[q]? = some x := ⟨_, List.getElem?_eq_getElem (by have := HY.out.1; omega)⟩
      have hxg : x.d.g = UInt32.ofNat q := by
        have := congrArg (fun l => l[q]?) HY.out.2
        unfold idsOf idsTo at this
        simp only [List.getElem?_map, hx, Option.map_some] at this
        rw [List.getElem?_range hqk] at this
        simpa using this
      have eg : ((UInt32.ofNat q).toNat : Int) = (q : Int) := by rw [u32_nat (by omega)]
      obtain ⟨⟨a7, n7, d7, ex1⟩, a8, n8, d8, ex2⟩ := MsgO.slices_of (bag_mem s13 (List.mem_of_getElem? hx)).2
      have hxv : x.v = .agg #[.int .u8 (x.d.say.toNat : Int), .int .u8 (x.d.src.toNat : Int), .int .u8 (x.d.dst.toNat : Int), .int .u32 (q : Int), .slice a7 n7 d7, .slice a8 n8 d8] := by show msgV _ _ _ = _; rw [ex1, ex2]; unfold msgV; rw [hxg, eg]
      have kt := Take_ok B k ys q x hx s13 (by omega) (by omega) (by have := HY.out.1; omega)
      rw [hxv] at kt
      have wq : IntKind.u32.wrap (q : Int) = (q : Int) := by rw [IntKind.wrap_u32]; omega
      have hel : Hid ((ys.eraseIdx q).length + 1 = k) := by
        have h1 : q < ys.length := by have := HY.out.1; omega
        show _ = _
        rw [List.length_eraseIdx_of_lt h1, HY.out.1]; omega
      clear s13 hq hx hxg eg hxv ex1 ex2
      go_wp2_with fail
      refine kt.mono ?_
      rintro e w14 ⟨rfl, s14⟩
      have s15 := s14.alloc (.cells #[.int .u8 (x.d.say.toNat : Int), .int .u8 (x.d.src.toNat : Int), .int .u8 (x.d.dst.toNat : Int), .int .u32 (q : Int), .slice a7 n7 d7, .slice a8 n8 d8] 27)
      have hall : ∀ (V : World) (zs : List MsgO), St noB w V [bagP B k zs, Part.blk w14.heap.size (.cells #[.int .u8 (x.d.say.toNat : Int), .int .u8 (x.d.src.toNat : Int), .int .u8 (x.d.dst.toNat : Int), .int .u32 (q : Int), .slice a7 n7 d7, .slice a8 n8 d8] 27 (0, 0)), x.part, Part.blk M (.cells (mdCells (setG m g) (.slice ao m.ops.length ca) (.slice bo l.length cb)) 27 (0, 0))] → V.cell? ⟨w14.heap.size, 3, none⟩ = some (.int .u32 (q : Int)) ∧ V.cell? ⟨w.heap.size, 0, none⟩ = some (.int .u8 (m.say.toNat : Int)) ∧ V.cell? ⟨w.heap.size, 1, none⟩ = some (.int .u8 (m.src.toNat : Int)) ∧ V.cell? ⟨w.heap.size, 2, none⟩ = some (.int .u8 (m.dst.toNat : Int)) ∧ V.cell? ⟨w.heap.size, 3, none⟩ = some (.int .u32 (g.toNat : Int)) ∧ V.cell? ⟨w.heap.size, 4, none⟩ = some (.slice ao m.ops.length ca) ∧ V.cell? ⟨w.heap.size, 5, none⟩ = some (.slice bo l.length cb) := fun V zs s => by
        have c := (six_cells (s.pick 1 rfl).blk.1).2.2.2.1
        have d := six_cells (s.pick 3 rfl).blk.1
        rw [HM2.out] at d
        exact ⟨c, d⟩
      have s15p : St noB w _ [bagP B k (ys.eraseIdx q), Part.blk w14.heap.size (.cells #[.int .u8 (x.d.say.toNat : Int), .int .u8 (x.d.src.toNat : Int), .int .u8 (x.d.dst.toNat : Int), .int .u32 (q : Int), .slice a7 n7 d7, .slice a8 n8 d8] 27 (0, 0)), x.part, Part.blk M (.cells (mdCells (setG m g) (.slice ao m.ops.length ca) (.slice bo l.length cb)) 27 (0, 0))] := (s15.drew).swap
      have hN0 := hall _ _ s15p
      have ka1 := Add_ok B k (ys.eraseIdx q) (.slice ao m.ops.length ca) (.slice bo l.length cb) (setG m g) l s15p (setG_at (HM.out.up s15p.below) _) (by omega) (by omega) (by have := hel.out; omega) (by have := hfew.out.1; show m.ops.length ≤ _; omega) (by have := hfew.out.2.1; omega) (fun p hp => by have := hfew.out.2.2 p hp; omega)
      unfold msgV at ka1
      rw [show (setG m g).say = m.say from rfl, show (setG m g).src = m.src from rfl, show (setG m g).dst = m.dst from rfl, show (setG m g).g = g from rfl] at ka1
      have hk0' : ¬ k = 0 := by omega
      have wac : IntKind.i64.wrap (ac.toNat : Int) = (ac.toNat : Int) := by rw [IntKind.wrap_i64]; omega
      clear kt s14 s15 s15p
      go_wp2_with fail
      refine wp_region_noPanic ?_
      refine wp_region_held_drew (S := fun V => V.cell? ⟨w14.heap.size, 3, none⟩ = some (.int .u32 (q : Int)) ∧ V.cell? ⟨w.heap.size, 0, none⟩ = some (.int .u8 (m.say.toNat : Int)) ∧ V.cell? ⟨w.heap.size, 1, none⟩ = some (.int .u8 (m.src.toNat : Int)) ∧ V.cell? ⟨w.heap.size, 2, none⟩ = some (.int .u8 (m.dst.toNat : Int)) ∧ V.cell? ⟨w.heap.size, 3, none⟩ = some (.int .u32 (g.toNat : Int)) ∧ V.cell? ⟨w.heap.size, 4, none⟩ = some (.slice ao m.ops.length ca) ∧ V.cell? ⟨w.heap.size, 5, none⟩ = some (.slice bo l.length cb)) (by kernel_rfl) hN0 (fun hHeld => ?_)
      clear hN0
      refine wpAnyH_take (i := 0) (oi := { dst := some 101, op := Go.Op.move (Go.Operand.tmp 17), type := 31, pos := _, after := #[], guard := none }) (v := .int .i64 0) rfl (by kernel_rfl) (by kernel_rfl) (by kernel_rfl) (fun _ _ _ h => h) (Or.inl ⟨by rfl, fun W hW => by go_simp⟩) (by assumption) ?_
      try simp only [Act.put, List.setIfInBounds_toArray, List.set_cons_zero, List.set_cons_succ]
      refine wpAnyH_take (i := 1) (oi := { dst := some 102, op := Go.Op.binOp Go.BinOp.neq 31 (Go.Operand.tmp 101) (Go.Operand.const (Go.Value.int Go.IntKind.i64 0)) 31, type := 4, pos := _, after := #[{ on := 0, ground := Go.Ground.data }], guard := none }) (v := .bool false) rfl (by kernel_rfl) (by kernel_rfl) (by kernel_rfl) (fun _ _ _ h => h) (Or.inl ⟨by rfl, fun W hW => by go_simp⟩) (by assumption) ?_
      try simp only [Act.put, List.setIfInBounds_toArray, List.set_cons_zero, List.set_cons_succ]
      refine wpAnyH_take (i := 2) (oi := { dst := some 103, op := Go.Op.move (Go.Operand.tmp 102), type := 4, pos := _, after := #[{ on := 1, ground := Go.Ground.data }], guard := none }) (v := .bool false) rfl (by kernel_rfl) (by kernel_rfl) (by kernel_rfl) (fun _ _ _ h => h) (Or.inl ⟨by rfl, fun W hW => by go_simp⟩) (by assumption) ?_
      try simp only [Act.put, List.setIfInBounds_toArray, List.set_cons_zero, List.set_cons_succ]
      refine wpAnyH_take (i := 3) (oi := { dst := some 104, op := Go.Op.fieldAddr 27 (Go.Operand.tmp 16) 3, type := 0, pos := _, after := #[{ on := 2, ground := Go.Ground.guard }], guard := some (2, false) }) (v := .pointer (some ⟨w14.heap.size, 3, none⟩)) rfl (by kernel_rfl) (by kernel_rfl) (by kernel_rfl) (fun _ _ _ h => h) (Or.inl ⟨by rfl, fun W hW => by go_simp⟩) (by assumption) ?_
      try simp only [Act.put, List.setIfInBounds_toArray, List.set_cons_zero, List.set_cons_succ]
      refine wpAnyH_take (i := 4) (oi := { dst := some 105, op := Go.Op.load 23 (Go.Operand.tmp 104), type := 23, pos := _, after := #[{ on := 3, ground := Go.Ground.data }, { on := 2, ground := Go.Ground.guard }], guard := some (2, false) }) (v := .int .u32 (q : Int)) rfl (by kernel_rfl) (by kernel_rfl) (by kernel_rfl) (fun _ _ _ h => h) (Or.inl ⟨by rfl, fun W hW => by obtain ⟨g0, r0, r1, r2, r3, r4, r5⟩ := hW; go_simp⟩) (by assumption) ?_
      try simp only [Act.put, List.setIfInBounds_toArray, List.set_cons_zero, List.set_cons_succ]
      refine wpAnyH_take (i := 5) (oi := { dst := some 106, op := Go.Op.move (Go.Operand.tmp 1), type := 5, pos := _, after := #[{ on := 2, ground := Go.Ground.guard }], guard := some (2, false) }) (v := .int .u8 (ac.toNat : Int)) rfl (by kernel_rfl) (by kernel_rfl) (by kernel_rfl) (fun _ _ _ h => h) (Or.inl ⟨by rfl, fun W hW => by go_simp⟩) (by assumption) ?_
      try simp only [Act.put, List.setIfInBounds_toArray, List.set_cons_zero, List.set_cons_succ]
      refine wpAnyH_take (i := 6) (oi := { dst := some 107, op := Go.Op.convert 5 3 (Go.Operand.tmp 106), type := 3, pos := _, after := #[{ on := 5, ground := Go.Ground.data }, { on := 2, ground := Go.Ground.guard }], guard := some (2, false) }) (v := .int .i64 (ac.toNat : Int)) rfl (by kernel_rfl) (by kernel_rfl) (by kernel_rfl) (fun _ _ _ h => h) (Or.inl ⟨by rfl, fun W hW => by go_simp⟩) (by assumption) ?_
      try simp only [Act.put, List.setIfInBounds_toArray, List.set_cons_zero, List.set_cons_succ]
      refine wpAnyH_take (i := 7) (oi := { dst := some 108, op := Go.Op.move (Go.Operand.tmp 7), type := 3, pos := _, after := #[{ on := 2, ground := Go.Ground.guard }], guard := some (2, false) }) (v := .int .i64 (k : Int)) rfl (by kernel_rfl) (by kernel_rfl) (by kernel_rfl) (fun _ _ _ h => h) (Or.inl ⟨by rfl, fun W hW => by go_simp⟩) (by assumption) ?_
      try simp only [Act.put, List.setIfInBounds_toArray, List.set_cons_zero, List.set_cons_succ]
      refine wpAnyH_take (i := 8) (oi := { dst := some 109, op := Go.Op.binOp Go.BinOp.rem 3 (Go.Operand.tmp 107) (Go.Operand.tmp 108) 3, type := 3, pos := _, after := #[{ on := 6, ground := Go.Ground.data }, { on := 7, ground := Go.Ground.data }, { on := 2, ground := Go.Ground.guard }], guard := some (2, false) }) (v := .int .i64 (q : Int)) rfl (by kernel_rfl) (by kernel_rfl) (by kernel_rfl) (fun _ _ _ h => h) (Or.inl ⟨by rfl, fun W hW => by go_simp⟩) (by assumption) ?_
      try simp only [Act.put, List.setIfInBounds_toArray, List.set_cons_zero, List.set_cons_succ]
      refine wpAnyH_take (i := 9) (oi := { dst := some 110, op := Go.Op.convert 3 23 (Go.Operand.tmp 109), type := 23, pos := _, after := #[{ on := 8, ground := Go.Ground.data }, { on := 2, ground := Go.Ground.guard }], guard := some (2, false) }) (v := .int .u32 (q : Int)) rfl (by kernel_rfl) (by kernel_rfl) (by kernel_rfl) (fun _ _ _ h => h) (Or.inl ⟨by rfl, fun W hW => by go_simp⟩) (by assumption) ?_
      try simp only [Act.put, List.setIfInBounds_toArray, List.set_cons_zero, List.set_cons_succ]
      refine wpAnyH_take (i := 10) (oi := { dst := some 111, op := Go.Op.binOp Go.BinOp.neq 23 (Go.Operand.tmp 105) (Go.Operand.tmp 110) 23, type := 4, pos := _, after := #[{ on := 4, ground := Go.Ground.data }, { on := 9, ground := Go.Ground.data }, { on := 2, ground := Go.Ground.guard }], guard := some (2, false) }) (v := .bool false) rfl (by kernel_rfl) (by kernel_rfl) (by kernel_rfl) (fun _ _ _ h => h) (Or.inl ⟨by rfl, fun W hW => by go_simp⟩) (by assumption) ?_
      try simp only [Act.put, List.setIfInBounds_toArray, List.set_cons_zero, List.set_cons_succ]
      refine wpAnyH_take (i := 11) (oi := { dst := some 112, op := Go.Op.pick (Go.Operand.tmp 103) (Go.Operand.const (Go.Value.bool true)) (Go.Operand.tmp 111), type := 4, pos := _, after := #[{ on := 2, ground := Go.Ground.data }, { on := 10, ground := Go.Ground.data }], guard := none }) (v := .bool false) rfl (by kernel_rfl) (by kernel_rfl) (by kernel_rfl) (fun _ _ _ h => h) (Or.inl ⟨by rfl, fun W hW => by go_simp⟩) (by assumption) ?_
      try simp only [Act.put, List.setIfInBounds_toArray, List.set_cons_zero, List.set_cons_succ]
      refine wpAnyH_take (i := 12) (oi := { dst := some 113, op := Go.Op.move (Go.Operand.tmp 112), type := 4, pos := _, after := #[{ on := 11, ground := Go.Ground.data }, { on := 2, ground := Go.Ground.chain }], guard := none }) (v := .bool false) rfl (by kernel_rfl) (by kernel_rfl) (by kernel_rfl) (fun _ _ _ h => h) (Or.inl ⟨by rfl, fun W hW => by go_simp⟩) (by assumption) ?_
      try simp only [Act.put, List.setIfInBounds_toArray, List.set_cons_zero, List.set_cons_succ]
      refine wpAnyH_take (i := 13) (oi := { dst := some 114, op := Go.Op.move (Go.Operand.tmp 8), type := 30, pos := _, after := #[{ on := 12, ground := Go.Ground.guard }], guard := some (12, false) }) (v := ptr B) rfl (by kernel_rfl) (by kernel_rfl) (by kernel_rfl) (fun _ _ _ h => h) (Or.inl ⟨by rfl, fun W hW => by go_simp⟩) (by assumption) ?_
      try simp only [Act.put, List.setIfInBounds_toArray, List.set_cons_zero, List.set_cons_succ]
      refine wpAnyH_take (i := 14) (oi := { dst := some 115, op := Go.Op.load 27 (Go.Operand.tmp 5), type := 27, pos := _, after := #[{ on := 12, ground := Go.Ground.guard }], guard := some (12, false) }) (v := .agg #[.int .u8 (m.say.toNat : Int), .int .u8 (m.src.toNat : Int), .int .u8 (m.dst.toNat : Int), .int .u32 (g.toNat : Int), .slice ao m.ops.length ca, .slice bo l.length cb]) rfl (by kernel_rfl) (by kernel_rfl) (by kernel_rfl) (fun _ _ _ h => h) (Or.inl ⟨by rfl, fun W hW => by obtain ⟨g0, r0, r1, r2, r3, r4, r5⟩ := hW; go_simp⟩) (by assumption) ?_
      try simp only [Act.put, List.setIfInBounds_toArray, List.set_cons_zero, List.set_cons_succ]
      refine wpAnyH_ready (rs := [15]) (by kernel_rfl) (by simp) ?_
      refine AllReadyH.cons (o := { dst := some 116, op := Go.Op.call { callee := Go.Callee.value (Go.Operand.func 7), args := #[Go.Operand.tmp 114, Go.Operand.tmp 115], argTypes := #[30, 27] }, type := 31, pos := _, after := #[{ on := 13, ground := Go.Ground.data }, { on := 14, ground := Go.Ground.data }, { on := 12, ground := Go.Ground.chain }, { on := 12, ground := Go.Ground.guard }], guard := some (12, false) }) rfl (fun K hK => ?_) AllReadyH.nil
      go_simp
      refine ka1.mono ?_
      rintro e w16 ⟨rfl, y, hy, s16⟩
      have hS16 := hall w16 _ s16
      have ka2 := Add_full B k (ys.eraseIdx q ++ [y]) (.slice ao m.ops.length ca) (.slice bo l.length cb) (setG m g) l s16 (setG_at (HM.out.up s16.below) _) (by omega) (by omega) (by rw [List.length_append, List.length_singleton, hel.out]; omega)
      unfold msgV setG at ka2
      simp only at ka2
      have S16 : Hid (St noB w w16 [bagP B k (ys.eraseIdx q ++ [y]), Part.blk w14.heap.size (.cells #[.int .u8 (x.d.say.toNat : Int), .int .u8 (x.d.src.toNat : Int), .int .u8 (x.d.dst.toNat : Int), .int .u32 (q : Int), .slice a7 n7 d7, .slice a8 n8 d8] 27 (0, 0)), x.part, Part.blk M (.cells (mdCells (setG m g) (.slice ao m.ops.length ca) (.slice bo l.length cb)) 27 (0, 0))]) := s16
      clear s16 ka1 hy
      go_wp2_with fail
      refine hK.out _ _ hS16 (fun hHeld => ?_)
      clear hK K hS16
      try simp only [Act.put, List.setIfInBounds_toArray, List.set_cons_zero, List.set_cons_succ]
      refine wpAnyH_take (i := 16) (oi := { dst := some 117, op := Go.Op.binOp Go.BinOp.neq 31 (Go.Operand.tmp 116) (Go.Operand.const (Go.Value.int Go.IntKind.i64 0)) 31, type := 4, pos := _, after := #[{ on := 15, ground := Go.Ground.data }, { on := 12, ground := Go.Ground.guard }], guard := some (12, false) }) (v := .bool false) rfl (by kernel_rfl) (by kernel_rfl) (by kernel_rfl) (fun _ _ _ h => h) (Or.inl ⟨by rfl, fun W hW => by go_simp⟩) (by assumption) ?_
      try simp only [Act.put, List.setIfInBounds_toArray, List.set_cons_zero, List.set_cons_succ]
      refine wpAnyH_take (i := 17) (oi := { dst := some 118, op := Go.Op.pick (Go.Operand.tmp 113) (Go.Operand.const (Go.Value.bool true)) (Go.Operand.tmp 117), type := 4, pos := _, after := #[{ on := 12, ground := Go.Ground.data }, { on := 16, ground := Go.Ground.data }], guard := none }) (v := .bool false) rfl (by kernel_rfl) (by kernel_rfl) (by kernel_rfl) (fun _ _ _ h => h) (Or.inl ⟨by rfl, fun W hW => by go_simp⟩) (by assumption) ?_
      try simp only [Act.put, List.setIfInBounds_toArray, List.set_cons_zero, List.set_cons_succ]
      refine wpAnyH_take (i := 18) (oi := { dst := some 119, op := Go.Op.move (Go.Operand.tmp 118), type := 4, pos := _, after := #[{ on := 17, ground := Go.Ground.data }, { on := 15, ground := Go.Ground.chain }], guard := none }) (v := .bool false) rfl (by kernel_rfl) (by kernel_rfl) (by kernel_rfl) (fun _ _ _ h => h) (Or.inl ⟨by rfl, fun W hW => by go_simp⟩) (by assumption) ?_
      try simp only [Act.put, List.setIfInBounds_toArray, List.set_cons_zero, List.set_cons_succ]
      refine wpAnyH_take (i := 19) (oi := { dst := some 120, op := Go.Op.move (Go.Operand.tmp 8), type := 30, pos := _, after := #[{ on := 18, ground := Go.Ground.guard }], guard := some (18, false) }) (v := ptr B) rfl (by kernel_rfl) (by kernel_rfl) (by kernel_rfl) (fun _ _ _ h => h) (Or.inl ⟨by rfl, fun W hW => by go_simp⟩) (by assumption) ?_
      try simp only [Act.put, List.setIfInBounds_toArray, List.set_cons_zero, List.set_cons_succ]
      refine wpAnyH_take (i := 20) (oi := { dst := some 121, op := Go.Op.load 27 (Go.Operand.tmp 5), type := 27, pos := _, after := #[{ on := 18, ground := Go.Ground.guard }], guard := some (18, false) }) (v := .agg #[.int .u8 (m.say.toNat : Int), .int .u8 (m.src.toNat : Int), .int .u8 (m.dst.toNat : Int), .int .u32 (g.toNat : Int), .slice ao m.ops.length ca, .slice bo l.length cb]) rfl (by kernel_rfl) (by kernel_rfl) (by kernel_rfl) (fun _ _ _ h => h) (Or.inl ⟨by rfl, fun W hW => by obtain ⟨g0, r0, r1, r2, r3, r4, r5⟩ := hW; go_simp⟩) (by assumption) ?_
      try simp only [Act.put, List.setIfInBounds_toArray, List.set_cons_zero, List.set_cons_succ]
      refine wpAnyH_ready (rs := [21]) (by kernel_rfl) (by simp) ?_
      refine AllReadyH.cons (o := { dst := some 122, op := Go.Op.call { callee := Go.Callee.value (Go.Operand.func 7), args := #[Go.Operand.tmp 120, Go.Operand.tmp 121], argTypes := #[30, 27] }, type := 31, pos := _, after := #[{ on := 19, ground := Go.Ground.data }, { on := 20, ground := Go.Ground.data }, { on := 18, ground := Go.Ground.chain }, { on := 18, ground := Go.Ground.guard }], guard := some (18, false) }) rfl (fun K hK => ?_) AllReadyH.nil
      go_simp
      refine ka2.mono ?_
      rintro e w17 ⟨rfl, b17⟩
      have s17 := S16.out.up b17
      have S17 : Hid (St noB w w17 [bagP B k (ys.eraseIdx q ++ [y]), Part.blk w14.heap.size (.cells #[.int .u8 (x.d.say.toNat : Int), .int .u8 (x.d.src.toNat : Int), .int .u8 (x.d.dst.toNat : Int), .int .u32 (q : Int), .slice a7 n7 d7, .slice a8 n8 d8] 27 (0, 0)), x.part, Part.blk M (.cells (mdCells (setG m g) (.slice ao m.ops.length ca) (.slice bo l.length cb)) 27 (0, 0))]) := s17
      have hS17 := hall w17 _ s17
      clear s17 S16 ka2 b17
      go_wp2_with fail
      refine hK.out _ _ hS17 (fun hHeld => ?_)
      clear hK K hS17
      try simp only [Act.put, List.setIfInBounds_toArray, List.set_cons_zero, List.set_cons_succ]
      refine wpAnyH_take (i := 22) (oi := { dst := some 123, op := Go.Op.binOp Go.BinOp.neq 31 (Go.Operand.tmp 122) (Go.Operand.const (Go.Value.int Go.IntKind.i64 5)) 31, type := 4, pos := _, after := #[{ on := 21, ground := Go.Ground.data }, { on := 18, ground := Go.Ground.guard }], guard := some (18, false) }) (v := .bool false) rfl (by kernel_rfl) (by kernel_rfl) (by kernel_rfl) (fun _ _ _ h => h) (Or.inl ⟨by rfl, fun W hW => by go_simp⟩) (by assumption) ?_
      try simp only [Act.put, List.setIfInBounds_toArray, List.set_cons_zero, List.set_cons_succ]
      refine wpAnyH_take (i := 23) (oi := { dst := some 124, op := Go.Op.pick (Go.Operand.tmp 119) (Go.Operand.const (Go.Value.bool true)) (Go.Operand.tmp 123), type := 4, pos := _, after := #[{ on := 18, ground := Go.Ground.data }, { on := 22, ground := Go.Ground.data }], guard := none }) (v := .bool false) rfl (by kernel_rfl) (by kernel_rfl) (by kernel_rfl) (fun _ _ _ h => h) (Or.inl ⟨by rfl, fun W hW => by go_simp⟩) (by assumption) ?_
      try simp only [Act.put, List.setIfInBounds_toArray, List.set_cons_zero, List.set_cons_succ]
      refine wpAnyH_done (by kernel_rfl) ?_ _
      refine NoPanic.normal ?_
      have kl := List_ok B k (ys.eraseIdx q ++ [y]) S17.out (by omega) (by omega) (by rw [List.length_append, List.length_singleton, hel.out]; omega)
      clear hHeld hall S17 wac
      go_wp2_with fail
      refine kl.mono ?_
      rintro e w18 ⟨v18, rfl, ms18, h18, s18⟩
      have hl18 : ms18.length = k := by have := congrArg List.length h18; simp only [List.length_map, List.length_append, List.length_singleton] at this; have := hel.out; omega
      obtain ⟨a18, c18, hv18, -, -, -⟩ := (msgsAt_of s18).sl
      rw [hl18] at hv18
      subst hv18
      have b18 := s18.below
      clear kl s18 h18
      go_wp2
      go_ret
      exact ⟨rfl, b18⟩
end Go.Proofs.Ytpmmdbdooclcoab
