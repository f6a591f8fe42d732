/- The walk of BagsWhole. -/
import Derived.Test.YtpmmdbdooclcoaaBaAlive
set_option linter.unusedSimpArgs false
set_option linter.unusedVariables false
namespace Go.Proofs.Ytpmmdbdooclcoaa
open Go.RowKit

/-- A message of an argument is added. -/
theorem Add_arg {S0 : Nat → Prop} {w0 w : World} {L : List Part} (B most : Nat) (ms : List MsgO) (x : MsgO) (h : St S0 w0 w (bagP B most ms :: L)) (hx : MsgAt w w.heap.size x.vo x.vr x.d x.rs) (hfew : x.few) (h0 : 0 < most) (hn : most ≤ 256) (hf : ms.length < most) :
    Calls Try.prog 9 #[ptr B, x.v] w fun e w' => e = .returned (.int .i64 0) ∧ ∃ y : MsgO, y.d = x.d ∧ St S0 w0 w' (bagP B most (ms ++ [y]) :: L) :=
  Add_ok B most ms x.vo x.vr x.d x.rs h hx h0 hn hf (by have := hfew.lo; omega) (by have := hfew.lr; omega) (fun p hp => by have := hfew.lw p hp; omega)
/-- The cells of a message of a list. -/
theorem msgs_get {w W : World} {ao : Option Addr} {N cap : Nat} {ms : List MsgO} (h : MsgsAt w w.heap.size (.slice ao N cap) ms) (hb : Below w.heap.size w W) (k : Nat) (x : MsgO) (hx : ms[k]? = some x) :
    ∃ b o a1 n1 d1 a2 n2 d2, ao = some ⟨b, o, none⟩ ∧ x.v = .agg #[.int .u8 (x.d.say.toNat : Int), .int .u8 (x.d.src.toNat : Int), .int .u8 (x.d.dst.toNat : Int), .int .u32 (x.d.g.toNat : Int), .slice a1 n1 d1, .slice a2 n2 d2] ∧ x.vo = .slice a1 n1 d1 ∧ x.vr = .slice a2 n2 d2 ∧
      (W.cell? ⟨b, o + k * 6, none⟩ = some (.int .u8 (x.d.say.toNat : Int)) ∧ W.cell? ⟨b, o + k * 6 + 1, none⟩ = some (.int .u8 (x.d.src.toNat : Int)) ∧ W.cell? ⟨b, o + k * 6 + 2, none⟩ = some (.int .u8 (x.d.dst.toNat : Int)) ∧ W.cell? ⟨b, o + k * 6 + 3, none⟩ = some (.int .u32 (x.d.g.toNat : Int)) ∧ W.cell? ⟨b, o + k * 6 + 4, none⟩ = some (.slice a1 n1 d1) ∧ W.cell? ⟨b, o + k * 6 + 5, none⟩ = some (.slice a2 n2 d2)) := by
  have hk : k < ms.length := (List.getElem?_eq_some_iff.mp hx).1
  have hxe : ms[k]'hk = x := (List.getElem?_eq_some_iff.mp hx).2
  obtain ⟨ao', cap', e, -, -, hc⟩ := (h.up hb).sl
  simp only [Value.slice.injEq] at e
  obtain ⟨rfl, -, rfl⟩ := e
  obtain ⟨b, o, rfl, -, hcc⟩ := hc (by omega)
  obtain ⟨⟨a1, n1, d1, e1⟩, a2, n2, d2, e2⟩ := MsgO.slices_of ((h.up hb).at' x (List.mem_of_getElem? hx))
  have c : ∀ j u, x.cells[j]? = some u → W.cell? ⟨b, o + k * 6 + j, none⟩ = some u := fun j u hu => hcc k hk j u (by rw [hxe]; exact hu)
  exact ⟨b, o, a1, n1, d1, a2, n2, d2, rfl, (by show msgV _ _ _ = _; rw [e1, e2]; rfl), e1, e2, by simpa using c 0 _ rfl, c 1 _ rfl, c 2 _ rfl, c 3 _ rfl, by rw [c 4 _ rfl, e1], by rw [c 5 _ rfl, e2]⟩
/-- What is left of the messages behind i rounds. -/
def restD (last : Bool) (ms : List MsgO) (i : Nat) : List MsgD := if last then (ms.map (·.d)).take (ms.length - i) else (ms.map (·.d)).drop i
def restAt (last : Bool) (N i : Nat) : Nat := if last then N - 1 - i else 0
theorem restD_len (last : Bool) (ms : List MsgO) (i : Nat) (hi : i ≤ ms.length) : (restD last ms i).length = ms.length - i := by
  unfold restD; cases last <;> simp
def wantAt (last : Bool) (N i : Nat) : Nat := if last then N - 1 - i else i
theorem restD_get (last : Bool) (ms : List MsgO) (i : Nat) (hi : i < ms.length) : (restD last ms i)[restAt last ms.length i]? = (ms.map (·.d))[wantAt last ms.length i]? := by
  unfold restD restAt wantAt
  cases last
  · simp
  · simp only [if_true]
    rw [List.getElem?_take, if_pos (by omega)]
theorem erase_last {α : Type} (l : List α) (n : Nat) (h : n + 1 ≤ l.length) : (l.take (n + 1)).eraseIdx n = l.take n := by
  apply List.ext_getElem?
  intro i
  rw [List.getElem?_eraseIdx]
  by_cases hi : i < n
  · rw [if_pos hi, List.getElem?_take, List.getElem?_take, if_pos (by omega), if_pos hi]
  · rw [if_neg hi, List.getElem?_take, List.getElem?_take, if_neg (by omega), if_neg hi]
theorem restD_erase (last : Bool) (ms : List MsgO) (i : Nat) (hi : i < ms.length) : (restD last ms i).eraseIdx (restAt last ms.length i) = restD last ms (i + 1) := by
  unfold restD restAt
  cases last
  · simp only [if_false, Bool.false_eq_true]
    rw [List.drop_eq_getElem_cons (by simpa using hi)]
    rfl
  · simp only [if_true]
    rw [show ms.length - i = ms.length - (i + 1) + 1 by omega, show ms.length - 1 - i = ms.length - (i + 1) by omega]
    exact erase_last _ _ (by simp; omega)
set_option maxHeartbeats 4000000 in
set_option maxRecDepth 1000000 in
theorem whole_walk (w : World) (v : Value) (ms : List MsgO) (last : Bool) (hm : MsgsAt w w.heap.size v ms) (hs : ∀ x ∈ ms, x.sz) (hl : ms.length ≤ 140737488351232) :
    Calls Try.prog 5 #[v, .bool last] w fun e w' => e = .returned (.bool true) ∧ Below w.heap.size w w' := by
  obtain ⟨ao, cap, rfl, hc1, hc2, hc3⟩ := id hm.sl
  unfold maxLen at hc2
  obtain ⟨N, hN⟩ : ∃ N, N = ms.length := ⟨_, rfl⟩
  rw [← hN] at hc1 hm hl ⊢
  have HN : Hid (N = ms.length) := hN
  have HM : Hid (MsgsAt w w.heap.size (.slice ao N cap) ms) := hm
  have HS : Hid (∀ x ∈ ms, x.sz) := hs
  have k1 := alive_ok w
  have kout : Hid (∀ W, Below w.heap.size w W → Calls Try.prog 12 #[] W fun e w' => e = .returned (.bool true) ∧ Below w.heap.size w w') := fun W hb => (alive_ok W).mono fun e w' ⟨e1, e2⟩ => ⟨e1, hb.trans (e2.mono hb.size)⟩
  have ksz : Hid (∀ W, Below w.heap.size w W → Calls Try.prog 16 #[.slice ao N cap] W fun e w' => (∃ z : Int, e = .returned (.int .i64 z) ∧ 0 ≤ z ∧ Hid (z ≤ 5000 → ∀ x ∈ ms, x.few)) ∧ Below w.heap.size w w') := fun W hb =>
    (msgsSize_any W _ ms (HM.out.up hb) HS.out (by rw [← HN.out]; exact hl)).mono fun e w' ⟨e1, e2⟩ => ⟨e1, hb.trans (e2.mono hb.size)⟩
  clear hm hs hN hc3
  go_enter Try.func5, Try.ntmps5
  go_wp2_with fail
  refine k1.mono ?_
  rintro e w1 ⟨rfl, b1⟩
  have ko := kout.out w1 b1
  clear k1
  by_cases h30 : 30 < N
  · clear ksz
    go_wp2_with fail
    refine ko.mono ?_
    rintro e w2 ⟨rfl, b2⟩
    clear ko kout
    go_wp2
    go_ret
    exact ⟨rfl, b2⟩
  have k2 := ksz.out w1 b1
  clear ksz ko b1
  go_wp2_with fail
  refine k2.mono ?_
  rintro e w2 ⟨⟨z, rfl, hz0, hz⟩, b2⟩
  have ko := kout.out w2 b2
  clear k2 kout
  by_cases hz3 : 3000 < z
  · go_wp2_with fail
    refine ko.mono ?_
    rintro e w3 ⟨rfl, b3⟩
    clear ko
    go_wp2
    go_ret
    exact ⟨rfl, b3⟩
  by_cases h0 : N = 0
  · subst h0
    go_wp2_with fail
    refine ko.mono ?_
    rintro e w3 ⟨rfl, b3⟩
    clear ko
    go_wp2
    go_ret
    exact ⟨rfl, b3⟩
  have hfew : Hid (∀ x ∈ ms, x.few) := hz.out (by omega)
  have B2 : Hid (Below w.heap.size w w2) := b2
  have kN := New_ok w2 N (by omega) (by omega)
  obtain ⟨B, hB⟩ : ∃ B, B = w2.heap.size := ⟨_, rfl⟩
  rw [← hB] at kN
  have i30 : ¬ 30 < (N : Int) := by omega
  have h0' : ((N : Int) == 0) = false := by simp; omega
  clear ko hz hB hz0 b2
  go_wp2_with fail
  refine kN.mono ?_
  rintro e w3 ⟨rfl, s3⟩
  have S3 : Hid (St noB w2 w3 [bagP B N []]) := s3
  clear kN s3
  go_wp2
  go_loopw [7] (fun i wr => ∃ k : Nat, k ≤ N ∧ i = .int .i64 (k : Int) ∧ Hid (∃ ys : List MsgO, ys.map (·.d) = (ms.map (·.d)).take k ∧ St noB w2 wr [bagP B N ys])) (fun i _ => N - (intOf i).toNat)
  case atStart => exact ⟨0, by omega, rfl, [], rfl, S3.out⟩
  case round =>
    clear S3
    obtain ⟨k, hk, rfl, hI⟩ := hrel
    by_cases hkn : k < N
    · obtain ⟨ys, hys, st⟩ := hI.out
      have hyl : ys.length = k := by have := congrArg List.length hys; simp at this; have := HN.out; omega
      have hkm : k < ms.length := by rw [← HN.out]; exact hkn
      obtain ⟨x, hx⟩ : ∃ x, ms[k]? = some x := ⟨_, List.getElem?_eq_getElem hkm⟩
      have hxm : x ∈ ms := List.mem_of_getElem? hx
      have bw : Below w.heap.size w wr := B2.out.trans (st.below.mono B2.out.size)
      obtain ⟨b, o, a1, n1, d1, a2, n2, d2, rfl, hv, e1, e2, p0, p1, p2, p3, p4, p5⟩ := msgs_get HM.out bw k x hx
      have ka := Add_arg B N ys x st ((HM.out.up bw).at' x hxm) (hfew.out x hxm) (by omega) (by omega) (by omega)
      have hnx : Hid (∀ (y : MsgO), y.d = x.d → (ys ++ [y]).map (·.d) = (ms.map (·.d)).take (k + 1)) := fun y hy => by
        rw [List.map_append, hys, List.take_add_one, List.getElem?_map, hx]; simp [hy]
      rw [hv] at ka
      have i1 : (k : Int) < (N : Int) := by omega
      clear hI hys st hyl hkm hx hxm bw e1 e2 hv
      go_wp2_with fail
      refine ka.mono ?_
      rintro e w4 ⟨rfl, y, hy, s4⟩
      have R : Hid (∃ ys : List MsgO, ys.map (·.d) = (ms.map (·.d)).take (k + 1) ∧ St noB w2 w4 [bagP B N ys]) := ⟨_, hnx.out y hy, s4⟩
      clear ka hnx hy s4
      go_wp2
      go_roundw
      case rel => exact ⟨k + 1, by omega, by go_num, R⟩
      case measure => simp [intOf]; omega
    · obtain rfl : k = N := by omega
      obtain ⟨ys, hys, st⟩ := hI.out
      rw [List.take_of_length_le (by simp; have := HN.out; omega)] at hys
      have hyl : ys.length = k := by have := congrArg List.length hys; simp at this; have := HN.out; omega
      have hkm : 0 < ms.length := by rw [← HN.out]; omega
      obtain ⟨x, hx⟩ : ∃ x, ms[0]? = some x := ⟨_, List.getElem?_eq_getElem hkm⟩
      have hxm : x ∈ ms := List.mem_of_getElem? hx
      have bw : Below w.heap.size w wr := B2.out.trans (st.below.mono B2.out.size)
      obtain ⟨b, o, a1, n1, d1, a2, n2, d2, rfl, hv, e1, e2, p0, p1, p2, p3, p4, p5⟩ := msgs_get HM.out bw 0 x hx
      have ka := Add_full B k ys x.vo x.vr x.d x.rs st ((HM.out.up bw).at' x hxm) (by omega) (by omega) (by omega)
      rw [show msgV x.d x.vo x.vr = x.v from rfl, hv] at ka
      have ST : Hid (St noB w2 wr [bagP B k ys]) := st
      have HY : Hid (ys.map (·.d) = ms.map (·.d)) := hys
      have i1 : (0 : Int) < (k : Int) := by omega
      simp only [Nat.zero_mul, Nat.add_zero] at p0 p1 p2 p3 p4 p5
      clear hI hys st hkm hx hxm bw e1 e2 hv
      go_wp2_with fail
      refine ka.mono ?_
      rintro e w4 ⟨rfl, b4⟩
      have kl := List_ok B k ys (ST.out.up b4) (by omega) (by omega) (by omega)
      clear ka b4 ST p0 p1 p2 p3 p4 p5
      go_wp2_with fail
      refine kl.mono ?_
      rintro e w5 ⟨v5, rfl, ms5, h5, s5⟩
      have hm5 := msgsAt_of s5
      obtain ⟨a5, c5, hv5, -, -, -⟩ := id hm5.sl
      have bw5 : Below w.heap.size w w5 := B2.out.trans (s5.below.mono B2.out.size)
      have ks := sameMsgs_any w5 _ _ ms5 ms hm5 (HM.out.up bw5) (h5.trans HY.out)
      have S5 : Hid (St noB w2 w5 [bagP B k ys]) := s5.swap.front (K := [_]) (L := [_])
      rw [hv5] at ks
      subst hv5
      clear kl hm5 s5 h5 bw5
      go_wp2_with fail
      refine ks.mono ?_
      rintro e w6 ⟨rfl, b6⟩
      have S6 : Hid (∃ zs : List MsgO, zs.map (·.d) = restD last ms 0 ∧ St noB w2 w6 [bagP B k zs]) := ⟨ys, by
        rw [HY.out]; unfold restD; cases last
        · simp
        · rw [if_pos rfl, List.take_of_length_le (by simp)], S5.out.up b6⟩
      clear ks S5 b6
      go_wp2
      go_loopw [8] (fun i wr => ∃ j : Nat, j ≤ k ∧ i = .int .i64 (j : Int) ∧ Hid (∃ zs : List MsgO, zs.map (·.d) = restD last ms j ∧ St noB w2 wr [bagP B k zs])) (fun i _ => k - (intOf i).toNat)
      case atStart => exact ⟨0, by omega, rfl, S6⟩
      case round =>
        clear S6 HY
        obtain ⟨j, hj, rfl, hJ⟩ := hrel
        by_cases hjk : j < k
        · obtain ⟨zs, hzs, st⟩ := hJ.out
          have hjm : j < ms.length := by rw [← HN.out]; exact hjk
          have hzl : zs.length = k - j := by have := congrArg List.length hzs; rw [restD_len _ _ _ (by omega)] at this; simp at this; have := HN.out; omega
          have hwl : wantAt last ms.length j < ms.length := by unfold wantAt; cases last <;> simp <;> omega
          obtain ⟨x, hx⟩ : ∃ x, ms[j]? = some x := ⟨_, List.getElem?_eq_getElem hjm⟩
          obtain ⟨y, hy⟩ : ∃ y, ms[wantAt last ms.length j]? = some y := ⟨_, List.getElem?_eq_getElem hwl⟩
          have hg := restD_get last ms j hjm
          rw [← hzs, List.getElem?_map, List.getElem?_map, hy] at hg
          obtain ⟨z, hz, hzd⟩ : ∃ z, zs[restAt last ms.length j]? = some z ∧ z.d = y.d := by
            cases hzz : zs[restAt last ms.length j]? with
            | none => rw [hzz] at hg; simp at hg
            | some z => rw [hzz] at hg; simp at hg; exact ⟨z, rfl, hg⟩
          have bw : Below w.heap.size w wr := B2.out.trans (st.below.mono B2.out.size)
          obtain ⟨b2, o2, a3, n3, d3, a4, n4, d4, hbo, hvx, ex1, ex2, p0, p1, p2, p3, p4, p5⟩ := msgs_get HM.out bw j x hx
          simp only [Option.some.injEq, Addr.mk.injEq, and_true] at hbo
          obtain ⟨rfl, rfl⟩ := hbo
          obtain ⟨b3, o3, a5, n5, d5, a6, n6, d6, hbo, hvy, ey1, ey2, q0, q1, q2, q3, q4, q5⟩ := msgs_get HM.out (bw.trans ((below_one wr (.cells (mdCells x.d (.slice a3 n3 d3) (.slice a4 n4 d4)) 27)).mono bw.size)) _ y hy
          unfold mdCells at q0 q1 q2 q3 q4 q5
          simp only [Option.some.injEq, Addr.mk.injEq, and_true] at hbo
          obtain ⟨rfl, rfl⟩ := hbo
          have RY := (HM.out.up bw).at' y (List.mem_of_getElem? hy)
          have i2 : (j : Int) < (k : Int) := by omega
          have ST := st.alloc (.cells (mdCells y.d (.slice a5 n5 d5) (.slice a6 n6 d6)) 27)
          have kt := Take_ok B k zs _ z hz ST.swap (by omega) (by omega) (by omega)
          have hnext : Hid ((zs.eraseIdx (restAt last ms.length j)).map (·.d) = restD last ms (j + 1)) := by
            show _ = _
            rw [← map_erase, hzs, restD_erase last ms j hjm]
          obtain ⟨⟨a7, n7, d7, ez1⟩, a8, n8, d8, ez2⟩ := MsgO.slices_of (bag_mem st (List.mem_of_getElem? hz)).2
          have hzv : z.v = .agg #[.int .u8 (z.d.say.toNat : Int), .int .u8 (z.d.src.toNat : Int), .int .u8 (z.d.dst.toNat : Int), .int .u32 (z.d.g.toNat : Int), .slice a7 n7 d7, .slice a8 n8 d8] := by show msgV _ _ _ = _; rw [ez1, ez2]; rfl
          rw [hzv, hzd] at kt
          have HYY : Hid (ms[wantAt last ms.length j]? = some y) := hy
          cases last
          · have hw0 : wantAt false ms.length j = j := rfl
            have hr0 : restAt false ms.length j = 0 := rfl
            rw [hw0, hx] at hy
            obtain rfl : x = y := by simpa using hy
            obtain ⟨rfl, rfl, rfl⟩ : a3 = a5 ∧ n3 = n5 ∧ d3 = d5 := by rw [ex1] at ey1; simpa using ey1
            obtain ⟨rfl, rfl, rfl⟩ : a4 = a6 ∧ n4 = n6 ∧ d4 = d6 := by rw [ex2] at ey2; simpa using ey2
            rw [hr0] at kt hnext
            unfold mdCells at kt
            rw [show ((0 : Nat) : Int) = 0 from rfl] at kt
            clear hy hJ hzs hjm hwl hg bw q0 q1 q2 q3 q4 q5 ST st hz hzv
            go_wp2_with fail
            refine kt.mono ?_
            rintro e w7 ⟨rfl, s7⟩
            have s8 := s7.alloc (.cells (mdCells x.d (.slice a7 n7 d7) (.slice a8 n8 d8)) 27)
            have hzm := MsgO.at (s8.pick 2 rfl)
            obtain ⟨y0, y1, y2, y3, y4, y5⟩ := six_cells (s8.pick 3 rfl).blk.1
            obtain ⟨z0, z1, z2, z3, z4, z5⟩ := six_cells s8.blk.1
            have hz2 := hzm.2
            rw [hzd] at hz2
            have kS := sameMsg_any _ _ _ _ _ x.d z.rs x.rs hz2 (((HM.out.up (B2.out.trans (s8.below.mono B2.out.size))).at' x (List.mem_of_getElem? HYY.out)))
            rw [ez1, ez2, ex1, ex2] at kS
            have R : Hid (∃ zs : List MsgO, zs.map (·.d) = restD false ms (j + 1) ∧ St noB w2 (w7.alloc (.cells (mdCells x.d (.slice a7 n7 d7) (.slice a8 n8 d8)) 27)) [bagP B k zs]) := ⟨_, hnext.out, (s8.rt (K := [_, _, _, _]) 4 [1, 0, 2, 3] (by decide)).front (K := [_]) (L := [_, _, _])⟩
            unfold msgV at kS
            unfold mdCells at kS z0 z1 z2 z3 z4 z5 y0 y1 y2 y3 y4 y5 R
            clear kt s7 s8 hzm hz2 hnext
            go_wp2_with fail
            refine kS.mono ?_
            rintro e w9 ⟨rfl, b9⟩
            have R2 : Hid (∃ zs : List MsgO, zs.map (·.d) = restD false ms (j + 1) ∧ St noB w2 w9 [bagP B k zs]) := by
              obtain ⟨zs', h1, h2⟩ := R.out
              exact ⟨zs', h1, h2.up b9⟩
            clear kS R b9 z0 z1 z2 z3 z4 z5 y0 y1 y2 y3 y4 y5
            go_wp2
            go_roundw
            case rel => exact ⟨j + 1, by omega, by go_num, R2⟩
            case measure => simp [intOf]; omega
          · have hw0 : wantAt true ms.length j = k - 1 - j := by rw [← HN.out]; rfl
            have hr0 : restAt true ms.length j = k - 1 - j := by rw [← HN.out]; rfl
            rw [hr0] at kt hnext
            rw [hw0] at q0 q1 q2 q3 q4 q5
            have jk : ((k - 1 - j : Nat) : Int) = (k : Int) - 1 - j := by omega
            rw [jk] at kt
            unfold mdCells at kt
            clear hy hJ hzs hjm hwl hg bw jk ST st hz hzv
            go_wp2_with fail
            refine kt.mono ?_
            rintro e w7 ⟨rfl, s7⟩
            have s8 := s7.alloc (.cells (mdCells y.d (.slice a7 n7 d7) (.slice a8 n8 d8)) 27)
            have hzm := MsgO.at (s8.pick 2 rfl)
            obtain ⟨y0, y1, y2, y3, y4, y5⟩ := six_cells (s8.pick 3 rfl).blk.1
            obtain ⟨z0, z1, z2, z3, z4, z5⟩ := six_cells s8.blk.1
            have hz2 := hzm.2
            rw [hzd] at hz2
            have kS := sameMsg_any _ _ _ _ _ y.d z.rs y.rs hz2 (((HM.out.up (B2.out.trans (s8.below.mono B2.out.size))).at' y (List.mem_of_getElem? HYY.out)))
            rw [ez1, ez2, ey1, ey2] at kS
            have R : Hid (∃ zs : List MsgO, zs.map (·.d) = restD true ms (j + 1) ∧ St noB w2 (w7.alloc (.cells (mdCells y.d (.slice a7 n7 d7) (.slice a8 n8 d8)) 27)) [bagP B k zs]) := ⟨_, hnext.out, (s8.rt (K := [_, _, _, _]) 4 [1, 0, 2, 3] (by decide)).front (K := [_]) (L := [_, _, _])⟩
            unfold msgV at kS
            unfold mdCells at kS z0 z1 z2 z3 z4 z5 y0 y1 y2 y3 y4 y5 R
            clear kt s7 s8 hzm hz2 hnext
            go_wp2_with fail
            refine kS.mono ?_
            rintro e w9 ⟨rfl, b9⟩
            have R2 : Hid (∃ zs : List MsgO, zs.map (·.d) = restD true ms (j + 1) ∧ St noB w2 w9 [bagP B k zs]) := by
              obtain ⟨zs', h1, h2⟩ := R.out
              exact ⟨zs', h1, h2.up b9⟩
            clear kS R b9 z0 z1 z2 z3 z4 z5 y0 y1 y2 y3 y4 y5
            go_wp2
            go_roundw
            case rel => exact ⟨j + 1, by omega, by go_num, R2⟩
            case measure => simp [intOf]; omega
        · obtain ⟨zs, hzs, st⟩ := hJ.out
          obtain rfl : j = k := by omega
          have hz0 : zs = [] := by
            have := congrArg List.length hzs
            rw [restD_len _ _ _ (by have := HN.out; omega)] at this
            simp at this
            exact List.eq_nil_of_length_eq_zero (by have := HN.out; omega)
          subst hz0
          have kl := List_ok B j [] st (by omega) (by omega) (by simp)
          clear hJ hzs st
          go_wp2_with fail
          refine kl.mono ?_
          rintro e w5 ⟨v5, rfl, ms5, h5, s5⟩
          have hl5 : ms5.length = 0 := by have := congrArg List.length h5; simpa using this
          have hm5 := msgsAt_of s5
          obtain ⟨a5, c5, hv5, -, -, -⟩ := id hm5.sl
          rw [hl5] at hv5
          subst hv5
          have bw5 : Below w.heap.size w w5 := B2.out.trans (s5.below.mono B2.out.size)
          clear kl hm5 s5 h5
          go_wp2
          go_ret
          exact ⟨rfl, bw5⟩
end Go.Proofs.Ytpmmdbdooclcoaa
