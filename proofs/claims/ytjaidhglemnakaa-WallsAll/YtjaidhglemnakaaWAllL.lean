/- The walk of WallsAll. -/
import Derived.Test.YtjaidhglemnakaaWStep
set_option linter.unusedSimpArgs false
set_option linter.unusedVariables false
namespace Go.Proofs.Ytjaidhglemnakaa
open Go.RowKit Go.Maps

set_option maxHeartbeats 1600000 in
set_option maxRecDepth 1000000 in
theorem all_big (w : World) (vl : Value) (l : List (Value × List UInt8)) (b : Bool) (hl : RcArg w vl l) (h : 40 < l.length ∨ 20000 < weigh l) :
    Calls Try.prog 5 #[vl, .bool b] w fun e w' => e = .returned (.bool true) ∧ Below w.heap.size w w' := by
  have ha := hl.rc
  obtain ⟨ao, ca, rfl, ha1, ha2⟩ := rc_len ha
  unfold maxLen at ha2
  by_cases h1 : 40 < l.length
  · have i1 : (40 : Int) < (l.length : Int) := by omega
    clear hl ha h
    go_enter Try.func5, Try.ntmps5
    go_wp2_with fail
    refine (walive_any w).mono ?_
    rintro e w1 ⟨rfl, b1⟩
    go_wp2_with fail
    refine (walive_any _).mono ?_
    rintro e w2 ⟨rfl, b2⟩
    go_wp2
    go_ret
    exact ⟨rfl, b1.trans (b2.mono b1.size)⟩
  · have i1 : ¬ (40 : Int) < (l.length : Int) := by omega
    have hw : 20000 < weigh l := by omega
    have kr := fun (W : World) (hW : Below w.heap.size w W) => recsSize_any W _ _ l (ha.below hW (Nat.le_refl _)) hl.len hl.els
    clear hl ha h
    go_enter Try.func5, Try.ntmps5
    go_wp2_with fail
    refine (walive_any w).mono ?_
    rintro e w1 ⟨rfl, b1⟩
    go_wp2_with fail
    refine (kr w1 b1).mono ?_
    rintro e w' ⟨⟨z, rfl, hz, hz2⟩, rfl⟩
    have i2 : (20000 : Int) < z := by
      by_cases hh : z ≤ 1048576
      · have := hz hh; omega
      · omega
    clear hz hz2 kr
    go_wp2_with fail
    refine (walive_any _).mono ?_
    rintro e w2 ⟨rfl, b2⟩
    go_wp2
    go_ret
    exact ⟨rfl, b1.trans (b2.mono b1.size)⟩
set_option maxHeartbeats 1600000 in
set_option maxRecDepth 1000000 in
theorem all_loop (w : World) (vl : Value) (l : List (Value × List UInt8)) (b : Bool) (hl : RcArg w vl l) (h1 : l.length ≤ 40) (h2 : weigh l ≤ 20000) :
    Calls Try.prog 5 #[vl, .bool b] w fun e w' => e = .returned (.bool true) ∧ Below w.heap.size w w' := by
  have ha := hl.rc
  obtain ⟨ao, ca, rfl, ha1, ha2⟩ := rc_len ha
  unfold maxLen at ha2
  have i1 : ¬ (40 : Int) < (l.length : Int) := by omega
  have hsp : span (l.map (·.2)) ≤ 1200 := by have := span_weigh h2 h1; omega
  have kr := fun (W : World) (hW : Below w.heap.size w W) => recsSize_any W _ _ l (ha.below hW (Nat.le_refl _)) hl.len hl.els
  have hspH : Hid (span (l.map (·.2)) ≤ 1200) := hsp
  have hwH : Hid (weigh l ≤ 20000) := h2
  clear hl hsp h2
  go_enter Try.func5, Try.ntmps5
  go_wp2_with fail
  refine (walive_any w).mono ?_
  rintro e w0 ⟨rfl, b0⟩
  go_wp2_with fail
  refine (kr w0 b0).mono ?_
  rintro e w' ⟨⟨z, rfl, hz, hz2⟩, rfl⟩
  have i2 : ¬ (20000 : Int) < z := by
    have := hwH.out
    by_cases hh : z ≤ 1048576
    · have := hz hh; omega
    · exfalso
      have := hz2 (by omega)
      omega
  clear hz hz2 kr
  go_wp2_with fail
  refine (new_own w0 1200 (by omega) (by omega)).mono ?_
  rintro e w1 ⟨B, rfl, b1, o1⟩
  have o1' : Own w.heap.size w1 B (Dk.new 1200) := own_weak o1 b0.size
  replace b1 := b0.trans (b1.mono b0.size)
  go_wp2_with fail
  refine (ls_open o1' b1.size (by show (0 : Nat) ≤ _; omega)).mono ?_
  rintro e w2 ⟨L, v, X, rfl, l2, r2, x2, b2, -⟩
  rw [(Clean.new (by omega) (by omega)).recs] at l2 x2
  obtain ⟨a3, c3, rfl⟩ := rc_nil r2 x2
  replace b2 := b1.trans b2
  have A2 : AddI w w2 L B 1200 l 0 (Dk.new 1200).opened := AddI.start (w0 := w) l2 b2
  have hq2 : (Dk.new 1200).opened.ws = [] := Dk.opened_ws _
  generalize (Dk.new 1200).opened = d2 at *
  clear r2 x2 o1 o1' b1 b0 l2
  go_wp2_with fail
  go_loopw [10] (fun i wr => ∃ (j : Nat) (d : Dk), j ≤ l.length ∧ i = .int .i64 (j : Int) ∧ AddI w wr L B 1200 l j d ∧ (b = true → d.ws = [])) (fun i _ => l.length - (intOf i).toNat)
  case atStart => exact ⟨0, d2, by omega, rfl, A2, fun _ => hq2⟩
  case round =>
    obtain ⟨j, d, hj, rfl, hA, hq⟩ := hrel
    clear A2 hq2
    by_cases hjl : j < l.length
    · have i3 : (j : Int) < (l.length : Int) := by omega
      obtain ⟨b1, o1, u1, rfl, hb1, p0, f1, -⟩ := rc_cell (ha.below hA.be (Nat.le_refl _)) hjl
      have f1' := SlAt.mono f1 hA.be.size
      by_cases hbig : 16384 < (l[j]'hjl).2.length
      · have i4 : (16384 : Int) < ((l[j]'hjl).2.length : Int) := by omega
        have kb := ls_big hA.ls u1 _ f1' hbig
        obtain ⟨x1, y1, rfl⟩ := in_slice f1
        have be := hA.be
        generalize (l[j]'hjl).2.length = z1 at *
        clear f1 f1' hA hq ha hbig
        go_wp2_with fail
        refine kb.mono ?_
        rintro e w' ⟨rfl, rfl⟩
        go_wp2
        go_ret
        exact ⟨rfl, be⟩
      · have ka := add_step hA hjl u1 f1' (by omega) hspH.out (by omega)
        obtain ⟨x1, y1, rfl⟩ := in_slice f1
        generalize (l[j]'hjl).2 = r1 at *
        clear f1 f1' ha hbig hq
        cases b with
        | false =>
          go_wp2_with fail
          refine ka.mono ?_
          rintro e w3 ⟨rfl, A3⟩
          clear ka hA
          go_wp2
          go_roundw
          case rel => exact ⟨j + 1, _, by omega, by go_num, A3, fun h => by cases h⟩
          case measure => simp [intOf]; omega
        | true =>
          go_wp2_with fail
          refine ka.mono ?_
          rintro e w3 ⟨rfl, A3⟩
          clear ka hA
          go_wp2_with fail
          refine (force_step A3).mono ?_
          rintro e w4 ⟨rfl, A4⟩
          go_wp2
          go_roundw
          case rel => exact ⟨j + 1, _, by omega, by go_num, A4, fun _ => rfl⟩
          case measure => simp [intOf]; omega
    · have i3 : ¬ (j : Int) < (l.length : Int) := by omega
      have hls := hA.ls
      rw [pfx_all (by omega)] at hls
      have cl := hls.clean
      have hrecs := cl.recs
      have hdw := hA.dw
      have be := hA.be
      have od := hls.own
      have kw := waits_own od
      have hok := od.ok
      obtain ⟨nw, hnw⟩ : ∃ nw, nw = d.ws.length := ⟨_, rfl⟩
      have hnw2 : nw ≤ 20000 := by omega
      have hq' : b = true → nw = 0 := fun h => by rw [hnw, hq h]; rfl
      have hsame : Hid (nw ≤ 64 → recs (d.fail 18446744073709551615 (-1)).all = l.map (·.2)) := fun h => by rw [Dk.fail_same hok _ _ (fun i hi => bits64 i (by omega)) (by omega) (by omega), hrecs]
      have hds2 : Hid (d.ws.length ≤ 800000) := (by omega : d.ws.length ≤ 800000)
      rw [← hnw] at kw
      have hrH : Hid (recs d.all = l.map (·.2)) := hrecs
      clear hnw hq hA hls hdw hrecs cl
      go_wp2_with fail
      refine kw.mono ?_
      rintro e w' ⟨rfl, rfl⟩
      clear kw
      go_wp2_with fail
      refine (fail_own od 18446744073709551615 (by decide) (-1) (by omega)).mono ?_
      rintro e w3 ⟨C, rfl, b3, o3⟩
      have t3 := two_of od o3 b3 be.size
      have b3' := be.trans (b3.mono be.size)
      clear od o3 b3 be
      go_wp2_with fail
      refine (two_open t3 b3'.size hds2.out).mono ?_
      rintro e w4 ⟨L4, p, X4, rfl, o4, c4, r4, x4, b4, -⟩
      have b4' := b3'.trans b4
      have k4 := sameRecs_any w4 _ _ p _ _ l r4.in (ha.below b4' (Nat.le_refl _)) (by rw [List.map_map]; exact x4.trans hrH.out)
      obtain ⟨ap, cp, ep, -, -⟩ := own_len' r4.row
      subst ep
      clear t3 b4 b3' x4 r4
      go_wp2_with fail
      refine k4.mono ?_
      rintro e w5 ⟨rfl, n5, rfl⟩
      have b5 := b4'.trans ((below_drewN w4 n5).mono b4'.size)
      have o5 := o4.below (below_drewN w4 n5)
      have c5 := c4.below (below_drewN w4 n5)
      have kw5 := waits_own o5
      rw [show d.opened.ws.length = 0 by rw [Dk.opened_ws]; rfl] at kw5
      clear k4 o4 c4 b4' o5
      have ko := ls_open c5 b5.size (by rw [show (d.fail 18446744073709551615 (-1)).ws = [] from rfl]; simp)
      generalize X4.length = n4 at *
      have hfin : (nw : Int) ≤ 64 ∨ (64 : Int) < (nw : Int) := by omega
      have hsame2 := hsame.out
      rcases hfin with i5 | i5
      · have hrc : recs (d.fail 18446744073709551615 (-1)).all = l.map (·.2) := hsame2 (by omega)
        rw [hrc] at ko
        clear hsame2 hrc hsame
        generalize d.fail 18446744073709551615 (-1) = df at *
        cases b with
        | false =>
          clear hq'
          go_wp2_with (first
            | (go_at_call 18; refine kw5.mono ?_; rintro e w' ⟨rfl, rfl⟩))
          refine ko.mono ?_
          rintro e w6 ⟨L6, q, X6, rfl, -, r6, x6, b6, -⟩
          have b6' := b5.trans b6
          have k6 := sameRecs_any w6 _ _ q _ _ l r6.in (ha.below b6' (Nat.le_refl _)) (by rw [List.map_map]; exact x6)
          obtain ⟨aq, cq, eq, -, -⟩ := own_len' r6.row
          subst eq
          generalize X6.length = n6 at *
          clear ko b5 b6 x6 r6 c5 ha
          go_wp2_with fail
          refine k6.mono ?_
          rintro e w7 ⟨rfl, n7, rfl⟩
          go_wp2
          go_ret
          exact ⟨rfl, b6'.trans ((below_drewN w6 n7).mono b6'.size)⟩
        | true =>
          have hn0 := hq' rfl
          subst hn0
          clear hq'
          go_wp2_with (first
            | (go_at_call 18; refine kw5.mono ?_; rintro e w' ⟨rfl, rfl⟩))
          refine ko.mono ?_
          rintro e w6 ⟨L6, q, X6, rfl, -, r6, x6, b6, -⟩
          have b6' := b5.trans b6
          have k6 := sameRecs_any w6 _ _ q _ _ l r6.in (ha.below b6' (Nat.le_refl _)) (by rw [List.map_map]; exact x6)
          obtain ⟨aq, cq, eq, -, -⟩ := own_len' r6.row
          subst eq
          generalize X6.length = n6 at *
          clear ko b5 b6 x6 r6 c5 ha
          go_wp2_with fail
          refine k6.mono ?_
          rintro e w7 ⟨rfl, n7, rfl⟩
          go_wp2
          go_ret
          exact ⟨rfl, b6'.trans ((below_drewN w6 n7).mono b6'.size)⟩
      · clear hsame2 hsame
        generalize d.fail 18446744073709551615 (-1) = df at *
        cases b with
        | false =>
          clear hq'
          go_wp2_with (first
            | (go_at_call 18; refine kw5.mono ?_; rintro e w' ⟨rfl, rfl⟩))
          refine ko.mono ?_
          rintro e w6 ⟨L6, q, X6, rfl, -, r6, x6, b6, -⟩
          have b6' := b5.trans b6
          obtain ⟨aq, cq, eq, -, -⟩ := own_len' r6.row
          subst eq
          generalize X6.length = n6 at *
          clear ko b5 b6 x6 r6 c5 ha
          go_wp2
          go_ret
          exact ⟨rfl, b6'⟩
        | true =>
          have hn0 := hq' rfl
          subst hn0
          exfalso
          omega
theorem all_any (w : World) (vl : Value) (l : List (Value × List UInt8)) (b : Bool) (hl : RcArg w vl l) :
    Calls Try.prog 5 #[vl, .bool b] w fun e w' => e = .returned (.bool true) ∧ Below w.heap.size w w' := by
  by_cases h : 40 < l.length ∨ 20000 < weigh l
  · exact all_big w vl l b hl h
  · exact all_loop w vl l b hl (by omega) (by omega)
end Go.Proofs.Ytjaidhglemnakaa
