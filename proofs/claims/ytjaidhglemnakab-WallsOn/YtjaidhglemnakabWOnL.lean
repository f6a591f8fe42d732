/- The walk of WallsOn. -/
import Derived.Test.YtjaidhglemnakabWForcedL
import Derived.Test.YtjaidhglemnakabWArgsB
set_option linter.unusedSimpArgs false
set_option linter.unusedVariables false
namespace Go.Proofs.Ytjaidhglemnakab
open Go.RowKit Go.Maps Go.ChangeShapes Go.WideShapes

theorem rc_pre {w : World} {lim n c k : Nat} {ao : Option Addr} {l : List (Value × List UInt8)} (h : RcIn w lim (.slice ao n c) l) (hk : k ≤ l.length) : RcIn w lim (.slice ao k c) (l.take k) := by
  refine ⟨?_, fun x hx => h.els x (List.mem_of_mem_take hx)⟩
  obtain ⟨ao', c', e, h1, h2, h3⟩ := h.sl
  cases e
  have hl : (l.take k).length = k := by rw [List.length_take]; omega
  refine ⟨ao, c, by rw [hl], by omega, h2, fun hp => ?_⟩
  obtain ⟨b, off, rfl, hb, hc⟩ := h3 (by omega)
  refine ⟨b, off, rfl, hb, fun i hi j v hv => hc i (by omega) j v ?_⟩
  rw [List.getElem_take] at hv
  exact hv
theorem bool_cell {w : World} {lim n c : Nat} {ao : Option Addr} {l : List Bool} (h : SlAt 1 boolCell w lim (.slice ao n c) l) {k : Nat} (hk : k < l.length) : ∃ b off, ao = some ⟨b, off, none⟩ ∧ b < lim ∧ w.cell? ⟨b, off + k, none⟩ = some (.bool (l[k]'hk)) := by
  obtain ⟨ao', c', e, h1, h2, h3⟩ := h
  cases e
  obtain ⟨b, off, rfl, hb, hc⟩ := h3 (by omega)
  have := hc k hk 0 _ rfl
  rw [Nat.mul_one, Nat.add_zero] at this
  exact ⟨b, off, rfl, hb, this⟩
set_option maxHeartbeats 1600000 in
set_option maxRecDepth 1000000 in
theorem on_big (w : World) (vl vo : Value) (l : List (Value × List UInt8)) (os : List Bool) (hl : RcArg w vl l) (ho : SlAt 1 boolCell w w.heap.size vo os) (h : 30 < l.length ∨ 10000 < weigh l ∨ 100 < os.length) :
    Calls Try.prog 3 #[vl, vo] w fun e w' => e = .returned (.bool true) ∧ Below w.heap.size w w' := by
  have ha := hl.rc
  obtain ⟨ao, ca, rfl, ha1, ha2⟩ := rc_len ha
  unfold maxLen at ha2
  obtain ⟨bo, cb, rfl, hb1, hb2, -⟩ := ho
  unfold maxLen at hb2
  by_cases h1 : 30 < l.length
  · have i1 : (30 : Int) < (l.length : Int) := by omega
    clear hl ha h
    go_enter Try.func3, Try.ntmps3
    go_wp2_with fail
    refine (walive_any w).mono ?_
    rintro e w1 ⟨rfl, b1⟩
    go_wp2_with fail
    refine (walive_any _).mono ?_
    rintro e w2 ⟨rfl, b2⟩
    go_wp2
    go_ret
    exact ⟨rfl, b1.trans (b2.mono b1.size)⟩
  · have i1 : ¬ (30 : Int) < (l.length : Int) := by omega
    have kr := fun (W : World) (hW : Below w.heap.size w W) => recsSize_any W _ _ l (ha.below hW (Nat.le_refl _)) hl.len hl.els
    have hwl : Hid (30 < l.length ∨ 10000 < weigh l ∨ 100 < os.length) := h
    clear hl ha h
    go_enter Try.func3, Try.ntmps3
    go_wp2_with fail
    refine (walive_any w).mono ?_
    rintro e w1 ⟨rfl, b1⟩
    go_wp2_with fail
    refine (kr w1 b1).mono ?_
    rintro e w' ⟨⟨z, rfl, hz, hz2⟩, rfl⟩
    by_cases h2 : (10000 : Int) < z
    · clear hz hz2 hwl kr
      go_wp2_with fail
      refine (walive_any _).mono ?_
      rintro e w2 ⟨rfl, b2⟩
      go_wp2
      go_ret
      exact ⟨rfl, b1.trans (b2.mono b1.size)⟩
    · have h3 : (100 : Int) < (os.length : Int) := by
        have h4 := hwl.out
        have h5 := hz (by omega)
        omega
      clear hz hz2 hwl kr
      go_wp2_with fail
      refine (walive_any _).mono ?_
      rintro e w2 ⟨rfl, b2⟩
      go_wp2
      go_ret
      exact ⟨rfl, b1.trans (b2.mono b1.size)⟩
set_option maxHeartbeats 1600000 in
set_option maxRecDepth 1000000 in
theorem on_loop (w : World) (vl vo : Value) (l : List (Value × List UInt8)) (os : List Bool) (hl : RcArg w vl l) (ho : SlAt 1 boolCell w w.heap.size vo os) (h1 : l.length ≤ 30) (h2 : weigh l ≤ 10000) (h3 : os.length ≤ 100) :
    Calls Try.prog 3 #[vl, vo] w fun e w' => e = .returned (.bool true) ∧ Below w.heap.size w w' := by
  have ha := hl.rc
  obtain ⟨ao, ca, rfl, ha1, ha2⟩ := rc_len ha
  unfold maxLen at ha2
  have ho0 := ho
  obtain ⟨bo, cb, rfl, hb1, hb2, -⟩ := ho
  unfold maxLen at hb2
  have i1 : ¬ (30 : Int) < (l.length : Int) := by omega
  have i10 : ¬ (100 : Int) < (os.length : Int) := by omega
  have hsp : span (l.map (·.2)) ≤ 190 := by have := span_weigh h2 h1; omega
  have kr := fun (W : World) (hW : Below w.heap.size w W) => recsSize_any W _ _ l (ha.below hW (Nat.le_refl _)) hl.len hl.els
  have hspH : Hid (span (l.map (·.2)) ≤ 190) := hsp
  have hwH : Hid (weigh l ≤ 10000) := h2
  have helsH : Hid (∀ x ∈ l, x.2.length ≤ 10000) := els_weigh h2
  have ha1 : l.length ≤ ca := ha1
  clear hl hsp h2
  go_enter Try.func3, Try.ntmps3
  go_wp2_with fail
  refine (walive_any w).mono ?_
  rintro e w0 ⟨rfl, b0⟩
  go_wp2_with fail
  refine (kr w0 b0).mono ?_
  rintro e w' ⟨⟨z, rfl, hz, hz2⟩, rfl⟩
  have i2 : ¬ (10000 : Int) < z := by
    have := hwH.out
    by_cases hh : z ≤ 1048576
    · have := hz hh; omega
    · exfalso
      have := hz2 (by omega)
      omega
  clear hz hz2 kr
  go_wp2_with fail
  refine (new_own w0 600 (by omega) (by omega)).mono ?_
  rintro e w1 ⟨B, rfl, b1, o1⟩
  have o1' : Own w.heap.size w1 B (Dk.new 600) := own_weak o1 b0.size
  replace b1 := b0.trans (b1.mono b0.size)
  go_wp2_with fail
  refine (ls_open o1' b1.size (by show (0 : Nat) ≤ _; omega)).mono ?_
  rintro e w2 ⟨L, v, X, rfl, l2, r2, x2, b2, -⟩
  rw [(Clean.new (by omega) (by omega)).recs] at l2 x2
  obtain ⟨a3, c3, rfl⟩ := rc_nil r2 x2
  replace b2 := b1.trans b2
  have A2 : AddI w w2 L B 600 l 0 (Dk.new 600).opened := AddI.start (w0 := w) l2 b2
  generalize (Dk.new 600).opened = d2 at *
  clear r2 x2 o1 o1' b1 b0 l2
  go_wp2_with fail
  go_loopw [7, 10] (fun a i wr => ∃ (j L : Nat) (d : Dk), j ≤ l.length ∧ i = .int .i64 (j : Int) ∧ a = .pointer (some ⟨L, 0, none⟩) ∧ AddI w wr L B 600 l j d) (fun _ i _ => l.length - (intOf i).toNat)
  case atStart => exact ⟨0, L, d2, by omega, rfl, rfl, A2⟩
  case round =>
    obtain ⟨j, L, d, hj, rfl, rfl, hA⟩ := hrel
    clear A2
    by_cases hjl : j < l.length
    · have i3 : (j : Int) < (l.length : Int) := by omega
      have hr5 := helsH.out _ (List.getElem_mem hjl)
      have hspo := hspH.out
      obtain ⟨b1, o1, u1, rfl, hb1', p0, f1, -⟩ := rc_cell ha hjl
      have ka : ∀ (W : World) (L' : Nat) (d' : Dk), AddI w W L' B 600 l j d' → Calls Try.prog 11 #[.pointer (some ⟨L', 0, none⟩), u1] W fun e w' => e = .returned (.int .i64 0) ∧ ∃ d'', AddI w w' L' B 600 l (j + 1) d'' := fun W L' d' h =>
        (add_step h hjl u1 (SlAt.mono (SlAt.below f1 h.be (Nat.le_refl _)) h.be.size) (by omega) (by omega) (by omega)).mono fun e w' ⟨a1, a2⟩ => ⟨a1, _, a2⟩
      have pc : ∀ W, Below w.heap.size w W → W.cell? ⟨b1, o1 + j, none⟩ = some u1 := fun W h => (h.cell (show b1 < w.heap.size from hb1')).trans p0
      have kn : ∀ W L' d', AddI w W L' B 600 l j d' → Below w.heap.size w W := fun W L' d' h => h.be
      have ja : (j : Int) ≤ (ca : Int) := by omega
      obtain ⟨x1, y1, rfl⟩ := in_slice f1
      generalize (l[j]'hjl).2.length = z1 at *
      by_cases hop : ∃ hjo : j < os.length, (os[j]'hjo) = true
      · obtain ⟨hjo, hot⟩ := hop
        have i4 : (j : Int) < (os.length : Int) := by omega
        obtain ⟨b2, o2, rfl, hb2', q0⟩ := bool_cell ho0 hjo
        rw [hot] at q0
        have q1 := (hA.be.cell (show b2 < w.heap.size from hb2')).trans q0
        have hls := hA.ls
        have hrc := hls.clean.recs
        have be := hA.be
        have hdw := hA.dw
        have ko := ls_open hls.own be.size (by omega)
        rw [hrc] at ko
        have hdo : d.opened.sure.length = 600 := by rw [Dk.opened_len]; exact hA.ds
        have hdo2 : d.opened.ws.length ≤ j * 260 := by rw [Dk.opened_ws]; simp
        have hpx : Hid (∀ (X : List Rec), X.map (·.2) = pfx l j → (X.map recP).map (·.2) = (l.take j).map (·.2)) := fun X h => by rw [List.map_map]; exact h
        have t2 : ∀ W, Below w.heap.size w W → RcIn W w.heap.size (.slice (some ⟨b1, o1, none⟩) j ca) (l.take j) := fun W h => rc_pre (ha.below h (Nat.le_refl _)) (by omega)
        have hxl : Hid ((pfx l j).length = j) := (by unfold pfx; rw [List.length_map, List.length_take]; omega : (pfx l j).length = j)
        clear hls hrc hA hot q0 hr5 hspo f1 p0 ha ho0 hdw
        generalize d.opened = d' at *
        go_wp2_with fail
        refine ko.mono ?_
        rintro e w3 ⟨L', p, X', rfl, l3, r3, x3, b3, -⟩
        have b3' := be.trans b3
        have A3 : AddI w w3 L' B 600 l j d' := ⟨l3, hdo, hdo2, b3'⟩
        have k3 := sameRecs_any w3 _ _ p _ _ (l.take j) r3.in (t2 w3 b3') (hpx.out X' x3)
        obtain ⟨ap, cp, ep, -, -⟩ := own_len' r3.row
        subst ep
        generalize X'.length = n3 at *
        clear ko r3 x3 b3 l3 t2 be hpx hxl
        go_wp2_with fail
        refine k3.mono ?_
        rintro e w4 ⟨rfl, n4, rfl⟩
        have A4 : AddI w (w3.drewN n4) L' B 600 l j d' := ⟨A3.ls.below (below_drewN w3 n4), A3.ds, A3.dw, A3.be.trans ((below_drewN w3 n4).mono A3.be.size)⟩
        have p4 := pc _ A4.be
        have k4 := ka _ L' d' A4
        clear k3 A3 pc ka b3'
        go_wp2_with fail
        refine k4.mono ?_
        rintro e w5 ⟨rfl, d'', A5⟩
        clear k4
        go_wp2
        go_roundw
        case rel => exact ⟨j + 1, L', d'', by omega, by go_num, rfl, A5⟩
        case measure => simp [intOf]; omega
      · have p4 := pc _ hA.be
        have k4 := ka _ L d hA
        by_cases hjo : j < os.length
        · have i4 : (j : Int) < (os.length : Int) := by omega
          have hof : (os[j]'hjo) = false := by
            cases h : (os[j]'hjo) with
            | false => rfl
            | true => exact absurd ⟨hjo, h⟩ hop
          obtain ⟨b2, o2, rfl, hb2', q0⟩ := bool_cell ho0 hjo
          rw [hof] at q0
          have q1 := (hA.be.cell (show b2 < w.heap.size from hb2')).trans q0
          clear hop hof q0 hr5 hspo f1 p0 ha ho0 pc ka hA kn
          go_wp2_with fail
          refine k4.mono ?_
          rintro e w5 ⟨rfl, d'', A5⟩
          clear k4
          go_wp2
          go_roundw
          case rel => exact ⟨j + 1, L, d'', by omega, by go_num, rfl, A5⟩
          case measure => simp [intOf]; omega
        · have i4 : ¬ (j : Int) < (os.length : Int) := by omega
          clear hop hr5 hspo f1 p0 ha ho0 pc ka hA kn
          go_wp2_with fail
          refine k4.mono ?_
          rintro e w5 ⟨rfl, d'', A5⟩
          clear k4
          go_wp2
          go_roundw
          case rel => exact ⟨j + 1, L, d'', by omega, by go_num, rfl, A5⟩
          case measure => simp [intOf]; omega
    · have i3 : ¬ (j : Int) < (l.length : Int) := by omega
      have hls := hA.ls
      rw [pfx_all (by omega)] at hls
      have hrc := hls.clean.recs
      have be := hA.be
      have hdw := hA.dw
      have ko := ls_open hls.own be.size (by omega)
      rw [hrc] at ko
      clear hls hrc hA hdw ho0
      go_wp2_with fail
      refine ko.mono ?_
      rintro e w3 ⟨L', p, X', rfl, -, r3, x3, b3, -⟩
      have b3' := be.trans b3
      have k3 := sameRecs_any w3 _ _ p _ _ l r3.in (ha.below b3' (Nat.le_refl _)) (by rw [List.map_map]; exact x3)
      obtain ⟨ap, cp, ep, -, -⟩ := own_len' r3.row
      subst ep
      generalize X'.length = n3 at *
      clear ko r3 x3 b3 ha be
      go_wp2_with fail
      refine k3.mono ?_
      rintro e w4 ⟨rfl, n4, rfl⟩
      go_wp2
      go_ret
      exact ⟨rfl, b3'.trans ((below_drewN w3 n4).mono b3'.size)⟩
theorem wallsOn_any (w : World) (vl vo : Value) (l : List (Value × List UInt8)) (os : List Bool) (hl : RcArg w vl l) (ho : SlAt 1 boolCell w w.heap.size vo os) :
    Calls Try.prog 3 #[vl, vo] w fun e w' => e = .returned (.bool true) ∧ Below w.heap.size w w' := by
  by_cases h : 30 < l.length ∨ 10000 < weigh l ∨ 100 < os.length
  · exact on_big w vl vo l os hl ho h
  · exact on_loop w vl vo l os hl ho (by omega) (by omega) (by omega)
end Go.Proofs.Ytjaidhglemnakab
