/- The walk of BagsTwo. -/
import Derived.Test.YtpmmdbdooclcoaaBaWhole
set_option linter.unusedSimpArgs false
set_option linter.unusedVariables false
namespace Go.Proofs.Ytpmmdbdooclcoaa
open Go.RowKit

/-- Two bags, of whose messages i have gone over. -/
def TwI (w2 wr : World) (A B n i : Nat) : Prop := ∃ xs ys : List MsgO, xs.length = n - i ∧ ys.length = i ∧ St noB w2 wr [bagP A 20 xs, bagP B 20 ys]
theorem Add_own {S0 : Nat → Prop} {w0 w : World} {L : List Part} (B most : Nat) (ms : List MsgO) (x : MsgO) (h : St S0 w0 w (bagP B most ms :: L)) (hx : x.fine ∧ MsgAt w w.heap.size x.vo x.vr x.d x.rs) (h0 : 0 < most) (hn : most ≤ 256) (hf : ms.length < most) :
    Calls Try.prog 9 #[ptr B, x.v] w fun e w' => e = .returned (.int .i64 0) ∧ ∃ y : MsgO, y.d = x.d ∧ St S0 w0 w' (bagP B most (ms ++ [y]) :: L) :=
  Add_ok B most ms x.vo x.vr x.d x.rs h hx.2 h0 hn hf hx.1.lo hx.1.lr hx.1.lw
set_option maxHeartbeats 4000000 in
set_option maxRecDepth 1000000 in
theorem two_walk (w : World) (v va : Value) (ms : List MsgO) (bs : List UInt8) (hm : MsgsAt w w.heap.size v ms) (hs : ∀ x ∈ ms, x.sz) (hl : ms.length ≤ 140737488351232) (hb : InAt w w.heap.size va bs) :
    Calls Try.prog 7 #[v, va] w fun e w' => e = .returned (.bool true) ∧ Below w.heap.size w w' := by
  obtain ⟨ao, cap, rfl, hc1, hc2, hc3⟩ := id hm.sl
  obtain ⟨bo, bcap, rfl, hd1, hd2, hd3⟩ := id hb
  unfold maxLen at hc2 hd2
  obtain ⟨N, hN⟩ : ∃ N, N = ms.length := ⟨_, rfl⟩
  rw [← hN] at hc1 hm hl ⊢
  have HN : Hid (N = ms.length) := hN
  have HM : Hid (MsgsAt w w.heap.size (.slice ao N cap) ms) := hm
  have HS : Hid (∀ x ∈ ms, x.sz) := hs
  have hbc : Hid (∀ i, i < bs.length → ∃ b o, bo = some ⟨b, o, none⟩ ∧ ∃ c : UInt8, ∀ W, Below w.heap.size w W → W.cell? ⟨b, o + i, none⟩ = some (.int .u8 (c.toNat : Int))) := fun i hi => by
    obtain ⟨b, o, rfl, hlt, hcc⟩ := hd3 (by omega)
    refine ⟨b, o, rfl, bs[i]'hi, fun W hW => (hW.cell (p := ⟨b, _, none⟩) hlt).trans ?_⟩
    have := hcc i hi 0 _ rfl
    simpa [bv] using this
  have k1 := alive_ok w
  have kout : Hid (∀ W, Below w.heap.size w W → Calls Try.prog 12 #[] W fun e w' => e = .returned (.bool true) ∧ Below w.heap.size w w') := fun W hb => (alive_ok W).mono fun e w' ⟨e1, e2⟩ => ⟨e1, hb.trans (e2.mono hb.size)⟩
  have ksz : Hid (∀ W, Below w.heap.size w W → Calls Try.prog 16 #[.slice ao N cap] W fun e w' => (∃ z : Int, e = .returned (.int .i64 z) ∧ 0 ≤ z ∧ Hid (z ≤ 5000 → ∀ x ∈ ms, x.few)) ∧ Below w.heap.size w w') := fun W hb =>
    (msgsSize_any W _ ms (HM.out.up hb) HS.out (by rw [← HN.out]; exact hl)).mono fun e w' ⟨e1, e2⟩ => ⟨e1, hb.trans (e2.mono hb.size)⟩
  clear hm hs hN hc3 hb hd3
  go_enter Try.func7, Try.ntmps7
  go_wp2_with fail
  refine k1.mono ?_
  rintro e w1 ⟨rfl, b1⟩
  have ko := kout.out w1 b1
  clear k1
  by_cases h20 : 20 < N
  · clear ksz
    go_wp2_with fail
    refine ko.mono ?_
    rintro e w2 ⟨rfl, b2⟩
    clear ko kout
    go_wp2
    go_ret
    exact ⟨rfl, b2⟩
  have k2 := ksz.out w1 b1
  clear ksz ko b1
  go_wp2_with fail
  refine k2.mono ?_
  rintro e w2 ⟨⟨z, rfl, hz0, hz⟩, b2⟩
  have ko := kout.out w2 b2
  clear k2 kout
  by_cases hz3 : 3000 < z
  · go_wp2_with fail
    refine ko.mono ?_
    rintro e w3 ⟨rfl, b3⟩
    clear ko
    go_wp2
    go_ret
    exact ⟨rfl, b3⟩
  by_cases h100 : 100 < bs.length
  · go_wp2_with fail
    refine ko.mono ?_
    rintro e w3 ⟨rfl, b3⟩
    clear ko
    go_wp2
    go_ret
    exact ⟨rfl, b3⟩
  have hfew : Hid (∀ x ∈ ms, x.few) := hz.out (by omega)
  have B2 : Hid (Below w.heap.size w w2) := b2
  have kA := New_ok w2 20 (by omega) (by omega)
  obtain ⟨A, hA⟩ : ∃ A, A = w2.heap.size := ⟨_, rfl⟩
  rw [← hA] at kA
  have i20 : ¬ 20 < (N : Int) := by omega
  have i100 : ¬ 100 < (bs.length : Int) := by omega
  rw [show ((20 : Nat) : Int) = 20 from rfl] at kA
  clear ko hz hA hz0 b2
  go_wp2_with fail
  refine kA.mono ?_
  rintro e w3 ⟨rfl, s3⟩
  have kB := New_ok w3 20 (by omega) (by omega)
  obtain ⟨B, hB⟩ : ∃ B, B = w3.heap.size := ⟨_, rfl⟩
  rw [← hB] at kB
  rw [show ((20 : Nat) : Int) = 20 from rfl] at kB
  have S3 : Hid (St noB w2 w3 [bagP A 20 []]) := s3
  clear kA s3 hB
  go_wp2_with fail
  refine kB.mono ?_
  rintro e w4 ⟨rfl, s4⟩
  have S4 : Hid (St noB w2 w4 [bagP A 20 [], bagP B 20 []]) := (S3.out.and s4).swap
  clear kB s4 S3
  go_wp2
  go_loopw [9] (fun i wr => ∃ k : Nat, k ≤ N ∧ i = .int .i64 (k : Int) ∧ Hid (∃ xs : List MsgO, xs.length = k ∧ St noB w2 wr [bagP A 20 xs, bagP B 20 []])) (fun i _ => N - (intOf i).toNat)
  case atStart => exact ⟨0, by omega, rfl, [], rfl, S4.out⟩
  case round =>
    clear S4
    obtain ⟨k, hk, rfl, hI⟩ := hrel
    by_cases hkn : k < N
    · obtain ⟨xs, hxl, st⟩ := hI.out
      have hkm : k < ms.length := by rw [← HN.out]; exact hkn
      obtain ⟨x, hx⟩ : ∃ x, ms[k]? = some x := ⟨_, List.getElem?_eq_getElem hkm⟩
      have hxm : x ∈ ms := List.mem_of_getElem? hx
      have bw : Below w.heap.size w wr := B2.out.trans (st.below.mono B2.out.size)
      obtain ⟨b, o, a1, n1, d1, a2, n2, d2, rfl, hv, e1, e2, p0, p1, p2, p3, p4, p5⟩ := msgs_get HM.out bw k x hx
      have ka := Add_arg A 20 xs x st ((HM.out.up bw).at' x hxm) (hfew.out x hxm) (by omega) (by omega) (by omega)
      rw [hv] at ka
      have i1 : (k : Int) < (N : Int) := by omega
      have HL : Hid (xs.length = k) := hxl
      clear hI hxl st hkm hx hxm bw e1 e2 hv
      go_wp2_with fail
      refine ka.mono ?_
      rintro e w5 ⟨rfl, y, hy, s5⟩
      have R : Hid (∃ xs : List MsgO, xs.length = k + 1 ∧ St noB w2 w5 [bagP A 20 xs, bagP B 20 []]) := ⟨_, by simp [HL.out], s5⟩
      clear ka hy s5
      go_wp2
      go_roundw
      case rel => exact ⟨k + 1, by omega, by go_num, R⟩
      case measure => simp [intOf]; omega
    · obtain rfl : k = N := by omega
      have hI0 : Hid (TwI w2 wr A B k 0) := by
        obtain ⟨xs, h1, h2⟩ := hI.out
        exact ⟨xs, [], h1, rfl, h2⟩
      have hkl : k ≤ 20 := by omega
      clear hI hc1 hc2 hz3 hfew
      go_wp2
      go_loopw [10] (fun i wr => ∃ j : Nat, j ≤ k ∧ i = .int .i64 (j : Int) ∧ Hid (TwI w2 wr A B k j)) (fun i _ => k - (intOf i).toNat)
      case atStart => exact ⟨0, by omega, rfl, hI0⟩
      case round =>
        clear hI0
        obtain ⟨j, hj, rfl, hJ⟩ := hrel
        by_cases hjk : j < k
        · by_cases hjb : j < bs.length
          · obtain ⟨xs, ys, hxl, hyl, st⟩ := hJ.out
            obtain ⟨bb, ob, rfl, c, hbW⟩ := hbc.out j hjb
            have bw : Below w.heap.size w wr := B2.out.trans (st.below.mono B2.out.size)
            have kl := List_ok A 20 xs st (by omega) (by omega) (by omega)
            obtain ⟨K, hK⟩ : ∃ K, K = k - j := ⟨_, rfl⟩
            have i2 : (j : Int) < (k : Int) := by omega
            have i3 : (j : Int) < (bs.length : Int) := by omega
            have iK : (k : Int) - (j : Int) = (K : Int) := by omega
            have hK0 : 0 < K := by omega
            have HX : Hid (xs.length = K ∧ ys.length = j) := ⟨by omega, hyl⟩
            have HK : Hid (K = k - j) := hK
            have HBW : Hid (∀ W : World, Below w.heap.size w W → W.cell? ⟨bb, ob + j, none⟩ = some (.int .u8 (c.toNat : Int))) := hbW
            clear hJ hxl hyl st hbc bw hK hbW
            go_wp2_with fail
            refine kl.mono ?_
            rintro e w5 ⟨v5, rfl, ms5, h5, s5⟩
            have hl5 : ms5.length = K := by have := congrArg List.length h5; simp at this; have := HX.out.1; omega
            have hm5 := msgsAt_of s5
            obtain ⟨a5, c5, hv5, hcap5, hmx5, -⟩ := id hm5.sl
            rw [hl5] at hv5
            subst hv5
            have bw5 : Below w.heap.size w w5 := B2.out.trans (s5.below.mono B2.out.size)
            have cb := HBW.out w5 bw5
            obtain ⟨q, hq⟩ : ∃ q, q = c.toNat % K := ⟨_, rfl⟩
            have hqK : q < K := by rw [hq]; exact Nat.mod_lt _ hK0
            have itm : (c.toNat : Int).tmod (K : Int) = (q : Int) := by rw [hq]; exact (Int.ofNat_tmod _ _).symm
            obtain ⟨x, hx⟩ : ∃ x, xs[q]? = some x := ⟨_, List.getElem?_eq_getElem (by have := HX.out.1; omega)⟩
            obtain ⟨z, hz⟩ : ∃ z, ms5[q]? = some z := ⟨_, List.getElem?_eq_getElem (by omega)⟩
            have hxz : z.d = x.d := by
              have := congrArg (fun l => l[q]?) h5
              simp only [List.getElem?_map, hx, hz, Option.map_some] at this
              simpa using this
            obtain ⟨b6, o6, az, nz, dz, az2, nz2, dz2, rfl, hzv, ez1, ez2, p0, p1, p2, p3, p4, p5⟩ := msgs_get hm5 (Below.refl _ _) q z hz
            have hcu : c.toNat < 256 := c.toNat_lt
            have iq : (q : Int) < (K : Int) := by omega
            have iK0 : ¬ ((K : Int) = 0) := by omega
            have iK1 : ((K : Int) == 0) = false := by simp; omega
            unfold maxLen at hmx5
            rw [hl5] at hcap5
            rw [hxz] at p0 p1 p2 p3
            have s6 := s5.alloc (.cells (mdCells x.d (.slice az nz dz) (.slice az2 nz2 dz2)) 27)
            have kt := Take_ok A 20 xs q x hx (s6.pick 2 rfl) (by omega) (by omega) (by have := HX.out.1; omega)
            obtain ⟨⟨a7, n7, d7, ex1⟩, a8, n8, d8, ex2⟩ := MsgO.slices_of (bag_mem (s5.pick 1 rfl) (List.mem_of_getElem? hx)).2
            have hxv : x.v = .agg #[.int .u8 (x.d.say.toNat : Int), .int .u8 (x.d.src.toNat : Int), .int .u8 (x.d.dst.toNat : Int), .int .u32 (x.d.g.toNat : Int), .slice a7 n7 d7, .slice a8 n8 d8] := by show msgV _ _ _ = _; rw [ex1, ex2]; rfl
            rw [hxv] at kt
            have HZ : Hid (z.d = x.d ∧ ms5[q]? = some z ∧ z.vo = .slice az nz dz ∧ z.vr = .slice az2 nz2 dz2 ∧ x.vo = .slice a7 n7 d7 ∧ x.vr = .slice a8 n8 d8 ∧ ms5.length = K) := ⟨hxz, hz, ez1, ez2, ex1, ex2, hl5⟩
            unfold mdCells at kt
            clear kl h5 hl5 hm5 s5 s6 hq hx hz hxz hzv ez1 ez2 ex1 ex2 hxv bw5 HBW
            go_wp2_with fail
            refine kt.mono ?_
            rintro e w6 ⟨rfl, s7⟩
            have s8 := s7.alloc (.cells (mdCells x.d (.slice a7 n7 d7) (.slice a8 n8 d8)) 27)
            have S8 : Hid (St noB w2 (w6.alloc (.cells (mdCells x.d (.slice a7 n7 d7) (.slice a8 n8 d8)) 27)) [Part.blk w6.heap.size (.cells (mdCells x.d (.slice a7 n7 d7) (.slice a8 n8 d8)) 27 (0, 0)), bagP A 20 (xs.eraseIdx q), x.part, Part.blk w5.heap.size (.cells (mdCells x.d (.slice az nz dz) (.slice az2 nz2 dz2)) 27 (0, 0)), msgsP (.slice (some ⟨b6, o6, none⟩) K c5) ms5, bagP B 20 ys]) := s8
            obtain ⟨y0, y1, y2, y3, y4, y5⟩ := six_cells s8.blk.1
            obtain ⟨z0, z1, z2, z3, z4, z5⟩ := six_cells (s8.pick 3 rfl).blk.1
            have hxm := MsgO.at (s8.pick 2 rfl)
            have hzm := (msgsAt_of (s8.pick 4 rfl)).at' z (List.mem_of_getElem? HZ.out.2.1)
            rw [HZ.out.1, HZ.out.2.2.1, HZ.out.2.2.2.1] at hzm
            have hxm2 := hxm.2
            rw [HZ.out.2.2.2.2.1, HZ.out.2.2.2.2.2.1] at hxm2
            have kS := sameMsg_any _ _ _ _ _ x.d x.rs z.rs hxm2 hzm
            unfold msgV at kS
            unfold mdCells at kS y0 y1 y2 y3 y4 y5 z0 z1 z2 z3 z4 z5
            have HW8 : Hid ((w6.alloc (.cells (mdCells x.d (.slice a7 n7 d7) (.slice a8 n8 d8)) 27)) = w6.alloc (.cells #[.int .u8 (x.d.say.toNat : Int), .int .u8 (x.d.src.toNat : Int), .int .u8 (x.d.dst.toNat : Int), .int .u32 (x.d.g.toNat : Int), .slice a7 n7 d7, .slice a8 n8 d8] 27)) := rfl
            clear kt s7 s8 hxm hzm hxm2
            go_wp2_with fail
            refine kS.mono ?_
            rintro e w9 ⟨rfl, b9⟩
            have s9 := S8.out.up b9
            obtain ⟨y0', y1', y2', y3', y4', y5'⟩ := six_cells s9.blk.1
            have hxm := MsgO.at (s9.pick 2 rfl)
            have ka := Add_own B 20 ys x (s9.pick 5 rfl) hxm (by omega) (by omega) (by have := HX.out.2; omega)
            rw [show x.v = .agg #[.int .u8 (x.d.say.toNat : Int), .int .u8 (x.d.src.toNat : Int), .int .u8 (x.d.dst.toNat : Int), .int .u32 (x.d.g.toNat : Int), .slice a7 n7 d7, .slice a8 n8 d8] by (show msgV _ _ _ = _; rw [HZ.out.2.2.2.2.1, HZ.out.2.2.2.2.2.1]; rfl)] at ka
            clear kS S8 y0 y1 y2 y3 y4 y5 z0 z1 z2 z3 z4 z5 b9 s9 hxm HW8
            go_wp2_with fail
            refine ka.mono ?_
            rintro e w10 ⟨rfl, y, hy, s10⟩
            have S10 : Hid (St noB w2 w10 [bagP B 20 (ys ++ [y]), Part.blk w6.heap.size (.cells (mdCells x.d (.slice a7 n7 d7) (.slice a8 n8 d8)) 27 (0, 0)), bagP A 20 (xs.eraseIdx q), x.part, Part.blk w5.heap.size (.cells (mdCells x.d (.slice az nz dz) (.slice az2 nz2 dz2)) 27 (0, 0)), msgsP (.slice (some ⟨b6, o6, none⟩) K c5) ms5]) := s10
            have kl := List_ok B 20 (ys ++ [y]) s10 (by omega) (by omega) (by simp; have := HX.out.2; omega)
            clear ka s10 y0' y1' y2' y3' y4' y5'
            go_wp2_with fail
            refine kl.mono ?_
            rintro e w11 ⟨v11, rfl, ms11, h11, s11⟩
            have hl11 : ms11.length = j + 1 := by have := congrArg List.length h11; simp at this; have := HX.out.2; omega
            have hm11 := msgsAt_of s11
            obtain ⟨a11, c11, hv11, hcap11, hmx11, -⟩ := id hm11.sl
            obtain ⟨J, hJe⟩ : ∃ J, J = j + 1 := ⟨_, rfl⟩
            rw [hl11, ← hJe] at hv11 hcap11
            subst hv11
            have iJ1 : (j : Int) + 1 = (J : Int) := by omega
            unfold maxLen at hmx11
            obtain ⟨u, hu⟩ : ∃ u, ms11[j]? = some u := ⟨_, List.getElem?_eq_getElem (by omega)⟩
            have hux : u.d = x.d := by
              have := congrArg (fun l => l[j]?) h11
              simp only [List.getElem?_map, hu, Option.map_some] at this
              rw [List.getElem?_append_right (by have := HX.out.2; omega), show j - ys.length = 0 by have := HX.out.2; omega] at this
              simp at this
              rw [this, hy]
            have s11d := s11.drew
            have hm11d := msgsAt_of s11d
            obtain ⟨b12, o12, au, nu, du, au2, nu2, du2, rfl, huv, eu1, eu2, r0, r1, r2, r3, r4, r5⟩ := msgs_get hm11d (Below.refl _ _) j u hu
            rw [hux] at r0 r1 r2 r3
            have hum0 := hm11d.at' u (List.mem_of_getElem? hu)
            have HU : Hid (u.d = x.d ∧ ms11[j]? = some u ∧ u.vo = .slice au nu du ∧ u.vr = .slice au2 nu2 du2) := ⟨hux, hu, eu1, eu2⟩
            have hall : ∀ V, Hid (St noB w2 V [msgsP (.slice (some ⟨b12, o12, none⟩) J c11) ms11, bagP B 20 (ys ++ [y]), Part.blk w6.heap.size (.cells (mdCells x.d (.slice a7 n7 d7) (.slice a8 n8 d8)) 27 (0, 0)), bagP A 20 (xs.eraseIdx q), x.part, Part.blk w5.heap.size (.cells (mdCells x.d (.slice az nz dz) (.slice az2 nz2 dz2)) 27 (0, 0)), msgsP (.slice (some ⟨b6, o6, none⟩) K c5) ms5]) → V.cell? ⟨w5.heap.size, 0, none⟩ = some (.int .u8 (x.d.say.toNat : Int)) ∧ V.cell? ⟨w5.heap.size, 1, none⟩ = some (.int .u8 (x.d.src.toNat : Int)) ∧ V.cell? ⟨w5.heap.size, 2, none⟩ = some (.int .u8 (x.d.dst.toNat : Int)) ∧ V.cell? ⟨w5.heap.size, 3, none⟩ = some (.int .u32 (x.d.g.toNat : Int)) ∧ V.cell? ⟨w5.heap.size, 4, none⟩ = some (.slice az nz dz) ∧ V.cell? ⟨w5.heap.size, 5, none⟩ = some (.slice az2 nz2 dz2) ∧ V.cell? ⟨b12, o12 + j * 6, none⟩ = some (.int .u8 (x.d.say.toNat : Int)) ∧ V.cell? ⟨b12, o12 + j * 6 + 1, none⟩ = some (.int .u8 (x.d.src.toNat : Int)) ∧ V.cell? ⟨b12, o12 + j * 6 + 2, none⟩ = some (.int .u8 (x.d.dst.toNat : Int)) ∧ V.cell? ⟨b12, o12 + j * 6 + 3, none⟩ = some (.int .u32 (x.d.g.toNat : Int)) ∧ V.cell? ⟨b12, o12 + j * 6 + 4, none⟩ = some (.slice au nu du) ∧ V.cell? ⟨b12, o12 + j * 6 + 5, none⟩ = some (.slice au2 nu2 du2) ∧ Hid (St noB w2 V [msgsP (.slice (some ⟨b12, o12, none⟩) J c11) ms11, bagP B 20 (ys ++ [y]), Part.blk w6.heap.size (.cells (mdCells x.d (.slice a7 n7 d7) (.slice a8 n8 d8)) 27 (0, 0)), bagP A 20 (xs.eraseIdx q), x.part, Part.blk w5.heap.size (.cells (mdCells x.d (.slice az nz dz) (.slice az2 nz2 dz2)) 27 (0, 0)), msgsP (.slice (some ⟨b6, o6, none⟩) K c5) ms5]) := fun V hV => by
              have sV := hV.out
              obtain ⟨g0, g1, g2, g3, g4, g5⟩ := six_cells (sV.pick 5 rfl).blk.1
              obtain ⟨b13, o13, p1, p2, p3, p4, p5, p6, hbo, -, e5, e6, r0, r1, r2, r3, r4, r5⟩ := msgs_get (msgsAt_of sV) (Below.refl _ _) j u HU.out.2.1
              simp only [Option.some.injEq, Addr.mk.injEq, and_true] at hbo
              obtain ⟨rfl, rfl⟩ := hbo
              rw [HU.out.2.2.1] at e5
              rw [HU.out.2.2.2] at e6
              simp only [Value.slice.injEq] at e5 e6
              obtain ⟨rfl, rfl, rfl⟩ := e5
              obtain ⟨rfl, rfl, rfl⟩ := e6
              rw [HU.out.1] at r0 r1 r2 r3
              exact ⟨g0, g1, g2, g3, g4, g5, r0, r1, r2, r3, r4, r5, hV⟩
            obtain ⟨K1, hK1⟩ : ∃ K1, K1 = K - 1 := ⟨_, rfl⟩
            have kS : ∀ V, (V.cell? ⟨w5.heap.size, 0, none⟩ = some (.int .u8 (x.d.say.toNat : Int)) ∧ V.cell? ⟨w5.heap.size, 1, none⟩ = some (.int .u8 (x.d.src.toNat : Int)) ∧ V.cell? ⟨w5.heap.size, 2, none⟩ = some (.int .u8 (x.d.dst.toNat : Int)) ∧ V.cell? ⟨w5.heap.size, 3, none⟩ = some (.int .u32 (x.d.g.toNat : Int)) ∧ V.cell? ⟨w5.heap.size, 4, none⟩ = some (.slice az nz dz) ∧ V.cell? ⟨w5.heap.size, 5, none⟩ = some (.slice az2 nz2 dz2) ∧ V.cell? ⟨b12, o12 + j * 6, none⟩ = some (.int .u8 (x.d.say.toNat : Int)) ∧ V.cell? ⟨b12, o12 + j * 6 + 1, none⟩ = some (.int .u8 (x.d.src.toNat : Int)) ∧ V.cell? ⟨b12, o12 + j * 6 + 2, none⟩ = some (.int .u8 (x.d.dst.toNat : Int)) ∧ V.cell? ⟨b12, o12 + j * 6 + 3, none⟩ = some (.int .u32 (x.d.g.toNat : Int)) ∧ V.cell? ⟨b12, o12 + j * 6 + 4, none⟩ = some (.slice au nu du) ∧ V.cell? ⟨b12, o12 + j * 6 + 5, none⟩ = some (.slice au2 nu2 du2) ∧ Hid (St noB w2 V [msgsP (.slice (some ⟨b12, o12, none⟩) J c11) ms11, bagP B 20 (ys ++ [y]), Part.blk w6.heap.size (.cells (mdCells x.d (.slice a7 n7 d7) (.slice a8 n8 d8)) 27 (0, 0)), bagP A 20 (xs.eraseIdx q), x.part, Part.blk w5.heap.size (.cells (mdCells x.d (.slice az nz dz) (.slice az2 nz2 dz2)) 27 (0, 0)), msgsP (.slice (some ⟨b6, o6, none⟩) K c5) ms5])) → Calls Try.prog 18 #[.agg #[.int .u8 (x.d.say.toNat : Int), .int .u8 (x.d.src.toNat : Int), .int .u8 (x.d.dst.toNat : Int), .int .u32 (x.d.g.toNat : Int), .slice au nu du, .slice au2 nu2 du2], .agg #[.int .u8 (x.d.say.toNat : Int), .int .u8 (x.d.src.toNat : Int), .int .u8 (x.d.dst.toNat : Int), .int .u32 (x.d.g.toNat : Int), .slice az nz dz, .slice az2 nz2 dz2]] V fun e w' => e = .returned (.bool true) ∧ w'.cell? ⟨w5.heap.size, 0, none⟩ = some (.int .u8 (x.d.say.toNat : Int)) ∧ w'.cell? ⟨w5.heap.size, 1, none⟩ = some (.int .u8 (x.d.src.toNat : Int)) ∧ w'.cell? ⟨w5.heap.size, 2, none⟩ = some (.int .u8 (x.d.dst.toNat : Int)) ∧ w'.cell? ⟨w5.heap.size, 3, none⟩ = some (.int .u32 (x.d.g.toNat : Int)) ∧ w'.cell? ⟨w5.heap.size, 4, none⟩ = some (.slice az nz dz) ∧ w'.cell? ⟨w5.heap.size, 5, none⟩ = some (.slice az2 nz2 dz2) ∧ w'.cell? ⟨b12, o12 + j * 6, none⟩ = some (.int .u8 (x.d.say.toNat : Int)) ∧ w'.cell? ⟨b12, o12 + j * 6 + 1, none⟩ = some (.int .u8 (x.d.src.toNat : Int)) ∧ w'.cell? ⟨b12, o12 + j * 6 + 2, none⟩ = some (.int .u8 (x.d.dst.toNat : Int)) ∧ w'.cell? ⟨b12, o12 + j * 6 + 3, none⟩ = some (.int .u32 (x.d.g.toNat : Int)) ∧ w'.cell? ⟨b12, o12 + j * 6 + 4, none⟩ = some (.slice au nu du) ∧ w'.cell? ⟨b12, o12 + j * 6 + 5, none⟩ = some (.slice au2 nu2 du2) ∧ Hid (St noB w2 w' [msgsP (.slice (some ⟨b12, o12, none⟩) J c11) ms11, bagP B 20 (ys ++ [y]), Part.blk w6.heap.size (.cells (mdCells x.d (.slice a7 n7 d7) (.slice a8 n8 d8)) 27 (0, 0)), bagP A 20 (xs.eraseIdx q), x.part, Part.blk w5.heap.size (.cells (mdCells x.d (.slice az nz dz) (.slice az2 nz2 dz2)) 27 (0, 0)), msgsP (.slice (some ⟨b6, o6, none⟩) K c5) ms5]) := fun V hV => by
              have sV := hV.2.2.2.2.2.2.2.2.2.2.2.2.out
              have hzm := (msgsAt_of (sV.pick 6 rfl)).at' z (List.mem_of_getElem? HZ.out.2.1)
              rw [HZ.out.1, HZ.out.2.2.1, HZ.out.2.2.2.1] at hzm
              have hum := (msgsAt_of sV).at' u (List.mem_of_getElem? HU.out.2.1)
              rw [HU.out.1, HU.out.2.2.1, HU.out.2.2.2] at hum
              exact (sameMsg_any _ _ _ _ _ x.d u.rs z.rs hum hzm).mono fun e w' ⟨e1, e2⟩ => ⟨e1, hall w' (sV.up e2)⟩
            have kL : ∀ V, (V.cell? ⟨w5.heap.size, 0, none⟩ = some (.int .u8 (x.d.say.toNat : Int)) ∧ V.cell? ⟨w5.heap.size, 1, none⟩ = some (.int .u8 (x.d.src.toNat : Int)) ∧ V.cell? ⟨w5.heap.size, 2, none⟩ = some (.int .u8 (x.d.dst.toNat : Int)) ∧ V.cell? ⟨w5.heap.size, 3, none⟩ = some (.int .u32 (x.d.g.toNat : Int)) ∧ V.cell? ⟨w5.heap.size, 4, none⟩ = some (.slice az nz dz) ∧ V.cell? ⟨w5.heap.size, 5, none⟩ = some (.slice az2 nz2 dz2) ∧ V.cell? ⟨b12, o12 + j * 6, none⟩ = some (.int .u8 (x.d.say.toNat : Int)) ∧ V.cell? ⟨b12, o12 + j * 6 + 1, none⟩ = some (.int .u8 (x.d.src.toNat : Int)) ∧ V.cell? ⟨b12, o12 + j * 6 + 2, none⟩ = some (.int .u8 (x.d.dst.toNat : Int)) ∧ V.cell? ⟨b12, o12 + j * 6 + 3, none⟩ = some (.int .u32 (x.d.g.toNat : Int)) ∧ V.cell? ⟨b12, o12 + j * 6 + 4, none⟩ = some (.slice au nu du) ∧ V.cell? ⟨b12, o12 + j * 6 + 5, none⟩ = some (.slice au2 nu2 du2) ∧ Hid (St noB w2 V [msgsP (.slice (some ⟨b12, o12, none⟩) J c11) ms11, bagP B 20 (ys ++ [y]), Part.blk w6.heap.size (.cells (mdCells x.d (.slice a7 n7 d7) (.slice a8 n8 d8)) 27 (0, 0)), bagP A 20 (xs.eraseIdx q), x.part, Part.blk w5.heap.size (.cells (mdCells x.d (.slice az nz dz) (.slice az2 nz2 dz2)) 27 (0, 0)), msgsP (.slice (some ⟨b6, o6, none⟩) K c5) ms5])) → Calls Try.prog 11 #[ptr A] V fun e w' => ∃ a' c', e = .returned (.slice a' K1 c') ∧ w'.cell? ⟨w5.heap.size, 0, none⟩ = some (.int .u8 (x.d.say.toNat : Int)) ∧ w'.cell? ⟨w5.heap.size, 1, none⟩ = some (.int .u8 (x.d.src.toNat : Int)) ∧ w'.cell? ⟨w5.heap.size, 2, none⟩ = some (.int .u8 (x.d.dst.toNat : Int)) ∧ w'.cell? ⟨w5.heap.size, 3, none⟩ = some (.int .u32 (x.d.g.toNat : Int)) ∧ w'.cell? ⟨w5.heap.size, 4, none⟩ = some (.slice az nz dz) ∧ w'.cell? ⟨w5.heap.size, 5, none⟩ = some (.slice az2 nz2 dz2) ∧ w'.cell? ⟨b12, o12 + j * 6, none⟩ = some (.int .u8 (x.d.say.toNat : Int)) ∧ w'.cell? ⟨b12, o12 + j * 6 + 1, none⟩ = some (.int .u8 (x.d.src.toNat : Int)) ∧ w'.cell? ⟨b12, o12 + j * 6 + 2, none⟩ = some (.int .u8 (x.d.dst.toNat : Int)) ∧ w'.cell? ⟨b12, o12 + j * 6 + 3, none⟩ = some (.int .u32 (x.d.g.toNat : Int)) ∧ w'.cell? ⟨b12, o12 + j * 6 + 4, none⟩ = some (.slice au nu du) ∧ w'.cell? ⟨b12, o12 + j * 6 + 5, none⟩ = some (.slice au2 nu2 du2) ∧ Hid (St noB w2 w' [msgsP (.slice (some ⟨b12, o12, none⟩) J c11) ms11, bagP B 20 (ys ++ [y]), Part.blk w6.heap.size (.cells (mdCells x.d (.slice a7 n7 d7) (.slice a8 n8 d8)) 27 (0, 0)), bagP A 20 (xs.eraseIdx q), x.part, Part.blk w5.heap.size (.cells (mdCells x.d (.slice az nz dz) (.slice az2 nz2 dz2)) 27 (0, 0)), msgsP (.slice (some ⟨b6, o6, none⟩) K c5) ms5]) := fun V hV => by
              have sV := hV.2.2.2.2.2.2.2.2.2.2.2.2.out
              have hl : (xs.eraseIdx q).length = K - 1 := by
                have h1 : q < xs.length := by have := HX.out.1; omega
                rw [List.length_eraseIdx_of_lt h1, HX.out.1]
              refine (List_ok A 20 _ (sV.pick 3 rfl) (by omega) (by omega) (by omega)).mono ?_
              rintro e w' ⟨vv, rfl, mm, hh, ss⟩
              have hlm : mm.length = K1 := by have := congrArg List.length hh; simp only [List.length_map] at this; omega
              obtain ⟨a', c', e', -⟩ := (msgsAt_of ss).sl
              rw [hlm] at e'
              exact ⟨a', c', by rw [e'], hall w' ((ss.re 8 [2, 3, 4, 1, 5, 6, 7, 0] (by decide)).front (K := [_, _, _, _, _, _, _]) (L := [_]))⟩
            have kR : Hid (∀ V, Hid (St noB w2 V [msgsP (.slice (some ⟨b12, o12, none⟩) J c11) ms11, bagP B 20 (ys ++ [y]), Part.blk w6.heap.size (.cells (mdCells x.d (.slice a7 n7 d7) (.slice a8 n8 d8)) 27 (0, 0)), bagP A 20 (xs.eraseIdx q), x.part, Part.blk w5.heap.size (.cells (mdCells x.d (.slice az nz dz) (.slice az2 nz2 dz2)) 27 (0, 0)), msgsP (.slice (some ⟨b6, o6, none⟩) K c5) ms5]) → Hid (TwI w2 V A B k (j + 1))) := fun V hV => by
              have hl : (xs.eraseIdx q).length = K - 1 := by
                have h1 : q < xs.length := by have := HX.out.1; omega
                rw [List.length_eraseIdx_of_lt h1, HX.out.1]
              exact ⟨xs.eraseIdx q, ys ++ [y], by rw [hl, HK.out]; omega, by simp [HX.out.2], (hV.out.re 7 [3, 1, 0, 2, 4, 5, 6] (by decide)).front (K := [_, _]) (L := [_, _, _, _, _])⟩
            have hN0 := hall w11.drew s11d
            have hdrew : ∀ V n, (V.cell? ⟨w5.heap.size, 0, none⟩ = some (.int .u8 (x.d.say.toNat : Int)) ∧ V.cell? ⟨w5.heap.size, 1, none⟩ = some (.int .u8 (x.d.src.toNat : Int)) ∧ V.cell? ⟨w5.heap.size, 2, none⟩ = some (.int .u8 (x.d.dst.toNat : Int)) ∧ V.cell? ⟨w5.heap.size, 3, none⟩ = some (.int .u32 (x.d.g.toNat : Int)) ∧ V.cell? ⟨w5.heap.size, 4, none⟩ = some (.slice az nz dz) ∧ V.cell? ⟨w5.heap.size, 5, none⟩ = some (.slice az2 nz2 dz2) ∧ V.cell? ⟨b12, o12 + j * 6, none⟩ = some (.int .u8 (x.d.say.toNat : Int)) ∧ V.cell? ⟨b12, o12 + j * 6 + 1, none⟩ = some (.int .u8 (x.d.src.toNat : Int)) ∧ V.cell? ⟨b12, o12 + j * 6 + 2, none⟩ = some (.int .u8 (x.d.dst.toNat : Int)) ∧ V.cell? ⟨b12, o12 + j * 6 + 3, none⟩ = some (.int .u32 (x.d.g.toNat : Int)) ∧ V.cell? ⟨b12, o12 + j * 6 + 4, none⟩ = some (.slice au nu du) ∧ V.cell? ⟨b12, o12 + j * 6 + 5, none⟩ = some (.slice au2 nu2 du2) ∧ Hid (St noB w2 V [msgsP (.slice (some ⟨b12, o12, none⟩) J c11) ms11, bagP B 20 (ys ++ [y]), Part.blk w6.heap.size (.cells (mdCells x.d (.slice a7 n7 d7) (.slice a8 n8 d8)) 27 (0, 0)), bagP A 20 (xs.eraseIdx q), x.part, Part.blk w5.heap.size (.cells (mdCells x.d (.slice az nz dz) (.slice az2 nz2 dz2)) 27 (0, 0)), msgsP (.slice (some ⟨b6, o6, none⟩) K c5) ms5])) → (V.drewN n).cell? ⟨w5.heap.size, 0, none⟩ = some (.int .u8 (x.d.say.toNat : Int)) ∧ (V.drewN n).cell? ⟨w5.heap.size, 1, none⟩ = some (.int .u8 (x.d.src.toNat : Int)) ∧ (V.drewN n).cell? ⟨w5.heap.size, 2, none⟩ = some (.int .u8 (x.d.dst.toNat : Int)) ∧ (V.drewN n).cell? ⟨w5.heap.size, 3, none⟩ = some (.int .u32 (x.d.g.toNat : Int)) ∧ (V.drewN n).cell? ⟨w5.heap.size, 4, none⟩ = some (.slice az nz dz) ∧ (V.drewN n).cell? ⟨w5.heap.size, 5, none⟩ = some (.slice az2 nz2 dz2) ∧ (V.drewN n).cell? ⟨b12, o12 + j * 6, none⟩ = some (.int .u8 (x.d.say.toNat : Int)) ∧ (V.drewN n).cell? ⟨b12, o12 + j * 6 + 1, none⟩ = some (.int .u8 (x.d.src.toNat : Int)) ∧ (V.drewN n).cell? ⟨b12, o12 + j * 6 + 2, none⟩ = some (.int .u8 (x.d.dst.toNat : Int)) ∧ (V.drewN n).cell? ⟨b12, o12 + j * 6 + 3, none⟩ = some (.int .u32 (x.d.g.toNat : Int)) ∧ (V.drewN n).cell? ⟨b12, o12 + j * 6 + 4, none⟩ = some (.slice au nu du) ∧ (V.drewN n).cell? ⟨b12, o12 + j * 6 + 5, none⟩ = some (.slice au2 nu2 du2) ∧ Hid (St noB w2 (V.drewN n) [msgsP (.slice (some ⟨b12, o12, none⟩) J c11) ms11, bagP B 20 (ys ++ [y]), Part.blk w6.heap.size (.cells (mdCells x.d (.slice a7 n7 d7) (.slice a8 n8 d8)) 27 (0, 0)), bagP A 20 (xs.eraseIdx q), x.part, Part.blk w5.heap.size (.cells (mdCells x.d (.slice az nz dz) (.slice az2 nz2 dz2)) 27 (0, 0)), msgsP (.slice (some ⟨b6, o6, none⟩) K c5) ms5]) := fun V n hV => hall (V.drewN n) (hV.2.2.2.2.2.2.2.2.2.2.2.2.out.up (below_drewN V n))
            have hall0 := hall w11 s11
            have iJ : (K : Int) - 1 = (K1 : Int) := by omega
            have ij : (j : Int) < (J : Int) := by omega
            clear kl S10 hK1 hJe s11 h11 hm11 hl11 hu hux s11d hm11d huv eu1 eu2 hy HZ hqK hum0 r0 r1 r2 r3 r4 r5 hall hall0 hdrew
            have wJ : IntKind.i64.wrap (J : Int) = (J : Int) := by rw [IntKind.wrap_i64]; omega
            have wK : IntKind.i64.wrap (K : Int) = (K : Int) := by rw [IntKind.wrap_i64]; omega
            have wK1 : IntKind.i64.wrap (K1 : Int) = (K1 : Int) := by rw [IntKind.wrap_i64]; omega
            go_wp2_with fail
            refine wp_region_noPanic ?_
            refine wp_region_held_drew (S := fun V => V.cell? ⟨w5.heap.size, 0, none⟩ = some (.int .u8 (x.d.say.toNat : Int)) ∧ V.cell? ⟨w5.heap.size, 1, none⟩ = some (.int .u8 (x.d.src.toNat : Int)) ∧ V.cell? ⟨w5.heap.size, 2, none⟩ = some (.int .u8 (x.d.dst.toNat : Int)) ∧ V.cell? ⟨w5.heap.size, 3, none⟩ = some (.int .u32 (x.d.g.toNat : Int)) ∧ V.cell? ⟨w5.heap.size, 4, none⟩ = some (.slice az nz dz) ∧ V.cell? ⟨w5.heap.size, 5, none⟩ = some (.slice az2 nz2 dz2) ∧ V.cell? ⟨b12, o12 + j * 6, none⟩ = some (.int .u8 (x.d.say.toNat : Int)) ∧ V.cell? ⟨b12, o12 + j * 6 + 1, none⟩ = some (.int .u8 (x.d.src.toNat : Int)) ∧ V.cell? ⟨b12, o12 + j * 6 + 2, none⟩ = some (.int .u8 (x.d.dst.toNat : Int)) ∧ V.cell? ⟨b12, o12 + j * 6 + 3, none⟩ = some (.int .u32 (x.d.g.toNat : Int)) ∧ V.cell? ⟨b12, o12 + j * 6 + 4, none⟩ = some (.slice au nu du) ∧ V.cell? ⟨b12, o12 + j * 6 + 5, none⟩ = some (.slice au2 nu2 du2) ∧ Hid (St noB w2 V [msgsP (.slice (some ⟨b12, o12, none⟩) J c11) ms11, bagP B 20 (ys ++ [y]), Part.blk w6.heap.size (.cells (mdCells x.d (.slice a7 n7 d7) (.slice a8 n8 d8)) 27 (0, 0)), bagP A 20 (xs.eraseIdx q), x.part, Part.blk w5.heap.size (.cells (mdCells x.d (.slice az nz dz) (.slice az2 nz2 dz2)) 27 (0, 0)), msgsP (.slice (some ⟨b6, o6, none⟩) K c5) ms5])) (by kernel_rfl) hN0 (fun hHeld => ?_)
            refine wpAnyH_take (i := 0) (oi := { dst := some 117, op := Go.Op.move (Go.Operand.tmp 16), type := 29, pos := _, after := #[], guard := none }) (v := .slice (some ⟨b12, o12, none⟩) J c11) rfl (by kernel_rfl) (by kernel_rfl) (by kernel_rfl) (fun _ _ _ h => h) (Or.inl ⟨by rfl, fun W hW => by go_simp⟩) (by assumption) ?_
            try simp only [Act.put, List.setIfInBounds_toArray, List.set_cons_zero, List.set_cons_succ]
            refine wpAnyH_take (i := 1) (oi := { dst := some 118, op := Go.Op.call { callee := Go.Callee.builtin Go.Builtin.len, args := #[Go.Operand.tmp 117], argTypes := #[29] }, type := 3, pos := _, after := #[{ on := 0, ground := Go.Ground.data }], guard := none }) (v := .int .i64 (J : Int)) rfl (by kernel_rfl) (by kernel_rfl) (by kernel_rfl) (fun _ _ _ h => h) (Or.inl ⟨by rfl, fun W hW => by go_simp⟩) (by assumption) ?_
            try simp only [Act.put, List.setIfInBounds_toArray, List.set_cons_zero, List.set_cons_succ]
            refine wpAnyH_take (i := 2) (oi := { dst := some 119, op := Go.Op.move (Go.Operand.tmp 10), type := 3, pos := _, after := #[], guard := none }) (v := .int .i64 (j : Int)) rfl (by kernel_rfl) (by kernel_rfl) (by kernel_rfl) (fun _ _ _ h => h) (Or.inl ⟨by rfl, fun W hW => by go_simp⟩) (by assumption) ?_
            try simp only [Act.put, List.setIfInBounds_toArray, List.set_cons_zero, List.set_cons_succ]
            refine wpAnyH_take (i := 3) (oi := { dst := some 120, op := Go.Op.binOp Go.BinOp.add 3 (Go.Operand.tmp 119) (Go.Operand.const (Go.Value.int Go.IntKind.i64 1)) 3, type := 3, pos := _, after := #[{ on := 2, ground := Go.Ground.data }], guard := none }) (v := .int .i64 (J : Int)) rfl (by kernel_rfl) (by kernel_rfl) (by kernel_rfl) (fun _ _ _ h => h) (Or.inl ⟨by rfl, fun W hW => by go_simp⟩) (by assumption) ?_
            try simp only [Act.put, List.setIfInBounds_toArray, List.set_cons_zero, List.set_cons_succ]
            refine wpAnyH_take (i := 4) (oi := { dst := some 121, op := Go.Op.binOp Go.BinOp.neq 3 (Go.Operand.tmp 118) (Go.Operand.tmp 120) 3, type := 4, pos := _, after := #[{ on := 1, ground := Go.Ground.data }, { on := 3, ground := Go.Ground.data }], guard := none }) (v := .bool false) rfl (by kernel_rfl) (by kernel_rfl) (by kernel_rfl) (fun _ _ _ h => h) (Or.inl ⟨by rfl, fun W hW => by go_simp⟩) (by assumption) ?_
            try simp only [Act.put, List.setIfInBounds_toArray, List.set_cons_zero, List.set_cons_succ]
            refine wpAnyH_take (i := 5) (oi := { dst := some 122, op := Go.Op.move (Go.Operand.tmp 121), type := 4, pos := _, after := #[{ on := 4, ground := Go.Ground.data }], guard := none }) (v := .bool false) rfl (by kernel_rfl) (by kernel_rfl) (by kernel_rfl) (fun _ _ _ h => h) (Or.inl ⟨by rfl, fun W hW => by go_simp⟩) (by assumption) ?_
            try simp only [Act.put, List.setIfInBounds_toArray, List.set_cons_zero, List.set_cons_succ]
            refine wpAnyH_take (i := 6) (oi := { dst := some 123, op := Go.Op.move (Go.Operand.tmp 16), type := 29, pos := _, after := #[{ on := 5, ground := Go.Ground.guard }], guard := some (5, false) }) (v := .slice (some ⟨b12, o12, none⟩) J c11) rfl (by kernel_rfl) (by kernel_rfl) (by kernel_rfl) (fun _ _ _ h => h) (Or.inl ⟨by rfl, fun W hW => by go_simp⟩) (by assumption) ?_
            try simp only [Act.put, List.setIfInBounds_toArray, List.set_cons_zero, List.set_cons_succ]
            refine wpAnyH_take (i := 7) (oi := { dst := some 124, op := Go.Op.move (Go.Operand.tmp 10), type := 3, pos := _, after := #[{ on := 5, ground := Go.Ground.guard }], guard := some (5, false) }) (v := .int .i64 (j : Int)) rfl (by kernel_rfl) (by kernel_rfl) (by kernel_rfl) (fun _ _ _ h => h) (Or.inl ⟨by rfl, fun W hW => by go_simp⟩) (by assumption) ?_
            try simp only [Act.put, List.setIfInBounds_toArray, List.set_cons_zero, List.set_cons_succ]
            refine wpAnyH_take (i := 8) (oi := { dst := some 125, op := Go.Op.indexAddr 29 (Go.Operand.tmp 123) (Go.Operand.tmp 124), type := 0, pos := _, after := #[{ on := 6, ground := Go.Ground.data }, { on := 7, ground := Go.Ground.data }, { on := 5, ground := Go.Ground.guard }], guard := some (5, false) }) (v := .pointer (some ⟨b12, o12 + j * 6, none⟩)) rfl (by kernel_rfl) (by kernel_rfl) (by kernel_rfl) (fun _ _ _ h => h) (Or.inl ⟨by rfl, fun W hW => by go_simp⟩) (by assumption) ?_
            try simp only [Act.put, List.setIfInBounds_toArray, List.set_cons_zero, List.set_cons_succ]
            refine wpAnyH_take (i := 9) (oi := { dst := some 126, op := Go.Op.load 27 (Go.Operand.tmp 125), type := 27, pos := _, after := #[{ on := 8, ground := Go.Ground.data }, { on := 5, ground := Go.Ground.guard }], guard := some (5, false) }) (v := .agg #[.int .u8 (x.d.say.toNat : Int), .int .u8 (x.d.src.toNat : Int), .int .u8 (x.d.dst.toNat : Int), .int .u32 (x.d.g.toNat : Int), .slice au nu du, .slice au2 nu2 du2]) rfl (by kernel_rfl) (by kernel_rfl) (by kernel_rfl) (fun _ _ _ h => h) (Or.inl ⟨by rfl, fun W hW => by obtain ⟨g0, g1, g2, g3, g4, g5, r0, r1, r2, r3, r4, r5, hSt⟩ := hW; clear hSt; go_simp⟩) (by assumption) ?_
            try simp only [Act.put, List.setIfInBounds_toArray, List.set_cons_zero, List.set_cons_succ]
            refine wpAnyH_take (i := 10) (oi := { dst := some 127, op := Go.Op.load 27 (Go.Operand.tmp 13), type := 27, pos := _, after := #[{ on := 5, ground := Go.Ground.guard }], guard := some (5, false) }) (v := .agg #[.int .u8 (x.d.say.toNat : Int), .int .u8 (x.d.src.toNat : Int), .int .u8 (x.d.dst.toNat : Int), .int .u32 (x.d.g.toNat : Int), .slice az nz dz, .slice az2 nz2 dz2]) rfl (by kernel_rfl) (by kernel_rfl) (by kernel_rfl) (fun _ _ _ h => h) (Or.inl ⟨by rfl, fun W hW => by obtain ⟨g0, g1, g2, g3, g4, g5, r0, r1, r2, r3, r4, r5, hSt⟩ := hW; clear hSt; go_simp⟩) (by assumption) ?_
            try simp only [Act.put, List.setIfInBounds_toArray, List.set_cons_zero, List.set_cons_succ]
            refine wpAnyH_ready (rs := [11]) (by kernel_rfl) (by simp) ?_
            refine AllReadyH.cons (o := { dst := some 128, op := Go.Op.call { callee := Go.Callee.value (Go.Operand.func 18), args := #[Go.Operand.tmp 126, Go.Operand.tmp 127], argTypes := #[27, 27] }, type := 4, pos := _, after := #[{ on := 9, ground := Go.Ground.data }, { on := 10, ground := Go.Ground.data }, { on := 5, ground := Go.Ground.chain }, { on := 5, ground := Go.Ground.guard }], guard := some (5, false) }) rfl (fun K hK => ?_) AllReadyH.nil
            go_simp
            refine (kS _ hHeld).mono ?_
            rintro e w12 ⟨rfl, hb⟩
            go_wp2_with fail
            refine hK.out _ _ hb (fun hHeld => ?_)
            clear hK K
            try simp only [Act.put, List.setIfInBounds_toArray, List.set_cons_zero, List.set_cons_succ]
            refine wpAnyH_take (i := 12) (oi := { dst := some 129, op := Go.Op.unOp Go.UnOp.not 4 (Go.Operand.tmp 128), type := 4, pos := _, after := #[{ on := 11, ground := Go.Ground.data }, { on := 5, ground := Go.Ground.guard }], guard := some (5, false) }) (v := .bool false) rfl (by kernel_rfl) (by kernel_rfl) (by kernel_rfl) (fun _ _ _ h => h) (Or.inl ⟨by rfl, fun W hW => by go_simp⟩) (by assumption) ?_
            try simp only [Act.put, List.setIfInBounds_toArray, List.set_cons_zero, List.set_cons_succ]
            refine wpAnyH_take (i := 13) (oi := { dst := some 130, op := Go.Op.pick (Go.Operand.tmp 122) (Go.Operand.const (Go.Value.bool true)) (Go.Operand.tmp 129), type := 4, pos := _, after := #[{ on := 5, ground := Go.Ground.data }, { on := 12, ground := Go.Ground.data }], guard := none }) (v := .bool false) rfl (by kernel_rfl) (by kernel_rfl) (by kernel_rfl) (fun _ _ _ h => h) (Or.inl ⟨by rfl, fun W hW => by go_simp⟩) (by assumption) ?_
            try simp only [Act.put, List.setIfInBounds_toArray, List.set_cons_zero, List.set_cons_succ]
            refine wpAnyH_take (i := 14) (oi := { dst := some 131, op := Go.Op.move (Go.Operand.tmp 130), type := 4, pos := _, after := #[{ on := 13, ground := Go.Ground.data }, { on := 11, ground := Go.Ground.chain }], guard := none }) (v := .bool false) rfl (by kernel_rfl) (by kernel_rfl) (by kernel_rfl) (fun _ _ _ h => h) (Or.inl ⟨by rfl, fun W hW => by go_simp⟩) (by assumption) ?_
            try simp only [Act.put, List.setIfInBounds_toArray, List.set_cons_zero, List.set_cons_succ]
            refine wpAnyH_take (i := 15) (oi := { dst := some 132, op := Go.Op.move (Go.Operand.tmp 5), type := 28, pos := _, after := #[{ on := 14, ground := Go.Ground.guard }], guard := some (14, false) }) (v := ptr A) rfl (by kernel_rfl) (by kernel_rfl) (by kernel_rfl) (fun _ _ _ h => h) (Or.inl ⟨by rfl, fun W hW => by go_simp⟩) (by assumption) ?_
            try simp only [Act.put, List.setIfInBounds_toArray, List.set_cons_zero, List.set_cons_succ]
            refine wpAnyH_take (i := 18) (oi := { dst := some 135, op := Go.Op.move (Go.Operand.tmp 0), type := 29, pos := _, after := #[{ on := 14, ground := Go.Ground.guard }], guard := some (14, false) }) (v := .slice ao k cap) rfl (by kernel_rfl) (by kernel_rfl) (by kernel_rfl) (fun _ _ _ h => h) (Or.inl ⟨by rfl, fun W hW => by go_simp⟩) (by assumption) ?_
            try simp only [Act.put, List.setIfInBounds_toArray, List.set_cons_zero, List.set_cons_succ]
            refine wpAnyH_take (i := 19) (oi := { dst := some 136, op := Go.Op.call { callee := Go.Callee.builtin Go.Builtin.len, args := #[Go.Operand.tmp 135], argTypes := #[29] }, type := 3, pos := _, after := #[{ on := 18, ground := Go.Ground.data }, { on := 14, ground := Go.Ground.guard }], guard := some (14, false) }) (v := .int .i64 (k : Int)) rfl (by kernel_rfl) (by kernel_rfl) (by kernel_rfl) (fun _ _ _ h => h) (Or.inl ⟨by rfl, fun W hW => by go_simp⟩) (by assumption) ?_
            try simp only [Act.put, List.setIfInBounds_toArray, List.set_cons_zero, List.set_cons_succ]
            refine wpAnyH_take (i := 20) (oi := { dst := some 137, op := Go.Op.move (Go.Operand.tmp 10), type := 3, pos := _, after := #[{ on := 14, ground := Go.Ground.guard }], guard := some (14, false) }) (v := .int .i64 (j : Int)) rfl (by kernel_rfl) (by kernel_rfl) (by kernel_rfl) (fun _ _ _ h => h) (Or.inl ⟨by rfl, fun W hW => by go_simp⟩) (by assumption) ?_
            try simp only [Act.put, List.setIfInBounds_toArray, List.set_cons_zero, List.set_cons_succ]
            refine wpAnyH_take (i := 21) (oi := { dst := some 138, op := Go.Op.binOp Go.BinOp.sub 3 (Go.Operand.tmp 136) (Go.Operand.tmp 137) 3, type := 3, pos := _, after := #[{ on := 19, ground := Go.Ground.data }, { on := 20, ground := Go.Ground.data }, { on := 14, ground := Go.Ground.guard }], guard := some (14, false) }) (v := .int .i64 (K : Int)) rfl (by kernel_rfl) (by kernel_rfl) (by kernel_rfl) (fun _ _ _ h => h) (Or.inl ⟨by rfl, fun W hW => by go_simp⟩) (by assumption) ?_
            try simp only [Act.put, List.setIfInBounds_toArray, List.set_cons_zero, List.set_cons_succ]
            refine wpAnyH_take (i := 22) (oi := { dst := some 139, op := Go.Op.binOp Go.BinOp.sub 3 (Go.Operand.tmp 138) (Go.Operand.const (Go.Value.int Go.IntKind.i64 1)) 3, type := 3, pos := _, after := #[{ on := 21, ground := Go.Ground.data }, { on := 14, ground := Go.Ground.guard }], guard := some (14, false) }) (v := .int .i64 (K1 : Int)) rfl (by kernel_rfl) (by kernel_rfl) (by kernel_rfl) (fun _ _ _ h => h) (Or.inl ⟨by rfl, fun W hW => by go_simp⟩) (by assumption) ?_
            try simp only [Act.put, List.setIfInBounds_toArray, List.set_cons_zero, List.set_cons_succ]
            refine wpAnyH_ready (rs := [16]) (by kernel_rfl) (by simp) ?_
            refine AllReadyH.cons (o := { dst := some 133, op := Go.Op.call { callee := Go.Callee.value (Go.Operand.func 11), args := #[Go.Operand.tmp 132], argTypes := #[28] }, type := 29, pos := _, after := #[{ on := 15, ground := Go.Ground.data }, { on := 14, ground := Go.Ground.chain }, { on := 14, ground := Go.Ground.guard }], guard := some (14, false) }) rfl (fun K hK => ?_) AllReadyH.nil
            go_simp
            refine (kL _ hHeld).mono ?_
            rintro e w13 ⟨a', c', rfl, hb⟩
            go_wp2_with fail
            refine hK.out _ _ hb (fun hHeld => ?_)
            clear hK K
            try simp only [Act.put, List.setIfInBounds_toArray, List.set_cons_zero, List.set_cons_succ]
            refine wpAnyH_take (i := 17) (oi := { dst := some 134, op := Go.Op.call { callee := Go.Callee.builtin Go.Builtin.len, args := #[Go.Operand.tmp 133], argTypes := #[29] }, type := 3, pos := _, after := #[{ on := 16, ground := Go.Ground.data }, { on := 14, ground := Go.Ground.guard }], guard := some (14, false) }) (v := .int .i64 (K1 : Int)) rfl (by kernel_rfl) (by kernel_rfl) (by kernel_rfl) (fun _ _ _ h => h) (Or.inl ⟨by rfl, fun W hW => by go_simp⟩) (by assumption) ?_
            try simp only [Act.put, List.setIfInBounds_toArray, List.set_cons_zero, List.set_cons_succ]
            refine wpAnyH_take (i := 23) (oi := { dst := some 140, op := Go.Op.binOp Go.BinOp.neq 3 (Go.Operand.tmp 134) (Go.Operand.tmp 139) 3, type := 4, pos := _, after := #[{ on := 17, ground := Go.Ground.data }, { on := 22, ground := Go.Ground.data }, { on := 14, ground := Go.Ground.guard }], guard := some (14, false) }) (v := .bool false) rfl (by kernel_rfl) (by kernel_rfl) (by kernel_rfl) (fun _ _ _ h => h) (Or.inl ⟨by rfl, fun W hW => by go_simp⟩) (by assumption) ?_
            try simp only [Act.put, List.setIfInBounds_toArray, List.set_cons_zero, List.set_cons_succ]
            refine wpAnyH_take (i := 24) (oi := { dst := some 141, op := Go.Op.pick (Go.Operand.tmp 131) (Go.Operand.const (Go.Value.bool true)) (Go.Operand.tmp 140), type := 4, pos := _, after := #[{ on := 14, ground := Go.Ground.data }, { on := 23, ground := Go.Ground.data }], guard := none }) (v := .bool false) rfl (by kernel_rfl) (by kernel_rfl) (by kernel_rfl) (fun _ _ _ h => h) (Or.inl ⟨by rfl, fun W hW => by go_simp⟩) (by assumption) ?_
            try simp only [Act.put, List.setIfInBounds_toArray, List.set_cons_zero, List.set_cons_succ]
            refine wpAnyH_done (by kernel_rfl) ?_ _
            refine NoPanic.normal ?_
            have R := kR.out _ hHeld.2.2.2.2.2.2.2.2.2.2.2.2
            clear kS kL kR hHeld iJ1 iJ iK
            go_wp2
            go_roundw
            case rel => exact ⟨j + 1, by omega, by go_num, R⟩
            case measure => simp [intOf]; omega
          · have bw : Below w.heap.size w wr := by
              obtain ⟨xs, ys, h1, h2, st⟩ := hJ.out
              exact B2.out.trans (st.below.mono B2.out.size)
            clear hJ hbc
            go_wp2
            go_ret
            exact ⟨rfl, bw⟩
        · have bw : Below w.heap.size w wr := by
            obtain ⟨xs, ys, h1, h2, st⟩ := hJ.out
            exact B2.out.trans (st.below.mono B2.out.size)
          clear hJ hbc
          go_wp2
          go_ret
          exact ⟨rfl, bw⟩
end Go.Proofs.Ytpmmdbdooclcoaa
