/- Texts of this proof, laid into one. -/
import Derived.Test.YtcgecdiaddcfkaaGreatDoorM17
import Derived.Test.YtcgecdiaddcfkaaGreatDoorRSameRM
import Derived.Test.YtcgecdiaddcfkaaGreatDoorM6
import Derived.Test.YtcgecdiaddcfkaaGreatDoorM13
/- The walks of MsgSize and of SameMsg, where the messages are the same. -/
set_option linter.unusedSimpArgs false
set_option linter.unusedVariables false
namespace Go.Proofs.YtcgecdiaddcfkaaGreatDoor
open Go.RowKit

/-- The values vo and vr hold a message's ops and results, below block number 'lim'. -/
structure MsgAt (w : World) (lim : Nat) (vo vr : Value) (m : MsgD) (l : List ResP) : Prop where
  ops : SlAt 4 opCells w lim vo m.ops
  sm : ∀ x ∈ m.ops, opSm x
  res : ResAt w lim vr l
  eq : l.map (·.2) = m.res
theorem MsgAt.below {w w' : World} {lim B : Nat} {vo vr : Value} {m : MsgD} {l : List ResP} (h : MsgAt w lim vo vr m l) (hb : Below B w w') (hB : lim ≤ B) : MsgAt w' lim vo vr m l := ⟨h.ops.below hb hB, h.sm, h.res.below hb hB, h.eq⟩
theorem MsgAt.mono {w : World} {lim lim' : Nat} {vo vr : Value} {m : MsgD} {l : List ResP} (h : MsgAt w lim vo vr m l) (hB : lim ≤ lim') : MsgAt w lim' vo vr m l := ⟨h.ops.mono hB, h.sm, h.res.mono hB, h.eq⟩
theorem MsgAt.up {w w' : World} {vo vr : Value} {m : MsgD} {l : List ResP} (h : MsgAt w w.heap.size vo vr m l) (hb : Below w.heap.size w w') : MsgAt w' w'.heap.size vo vr m l := (h.below hb (Nat.le_refl _)).mono hb.size
theorem MsgAt.form {w : World} {lim : Nat} {vo vr : Value} {m : MsgD} {l : List ResP} (h : MsgAt w lim vo vr m l) : ∃ ao ca bo cb, vo = .slice ao m.ops.length ca ∧ vr = .slice bo l.length cb := by
  obtain ⟨ao, ca, h1, -, -, -⟩ := h.ops
  obtain ⟨bo, cb, h2, -, -, -⟩ := h.res.1
  exact ⟨ao, ca, bo, cb, h1, h2⟩
/-- What Get gave can be read. -/
theorem MsgOwn.at {w : World} {base : Nat} {vo vr : Value} {m : MsgD} (h : MsgOwn w base vo vr m) (hm : m.ok = true) : ∃ l, MsgAt w w.heap.size vo vr m l := by
  obtain ⟨h1, l, h2, h3⟩ := h
  unfold MsgD.ok at hm
  rw [Bool.and_eq_true, Bool.and_eq_true] at hm
  refine ⟨l, sl_own opCells_len h1, fun x hx => ?_, h2.at (fun p hp x hx => ?_), h3⟩
  · have h := List.all_eq_true.mp hm.2.1 x hx
    have h1 := opOk_key h
    have h2 := opOk_to h
    exact ⟨by unfold maxLen; omega, by unfold maxLen; omega⟩
  · have h : p.2 ∈ m.res := by rw [← h3]; exact List.mem_map.2 ⟨p, hp, rfl⟩
    have h5 := List.all_eq_true.mp hm.2.2 _ h
    exact small16 (List.all_eq_true.mp h5 x hx)
theorem MsgAt.put {w : World} {vo vr : Value} {m : MsgD} {l : List ResP} (h : MsgAt w w.heap.size vo vr m l) :
    Calls Tryz.prog 7 #[msgV m vo vr] w fun e w' => ∃ a c, e = .returned (.tuple #[.slice a (putM m).1.length c, .int .i64 ((putM m).2 : Int)]) ∧ BsAt w' w.heap.size (.slice a (putM m).1.length c) (putM m).1 ∧ Below w.heap.size w w' := Put_any w m vo vr l h.ops h.sm h.res h.eq

set_option maxHeartbeats 2000000 in
set_option maxRecDepth 1000000 in
theorem msgSize_any (w : World) (vo vr : Value) (m : MsgD) (l : List ResP) (h : MsgAt w w.heap.size vo vr m l) :
    Calls Tryz.prog 5 #[msgV m vo vr] w fun e w' => (∃ z : Int, e = .returned (.int .i64 z)) ∧ Below w.heap.size w w' := by
  obtain ⟨ao, ca, bo, cb, rfl, rfl⟩ := h.form
  unfold msgV
  obtain ⟨W, hW⟩ : ∃ W, W = w.alloc (.cells #[.int .u8 (m.say.toNat : Int), .int .u8 (m.src.toNat : Int), .int .u8 (m.dst.toNat : Int), .int .u32 (m.g.toNat : Int), .slice ao m.ops.length ca, .slice bo l.length cb] 27) := ⟨_, rfl⟩
  have B0 : Below w.heap.size w W := by rw [hW]; exact below_one w _
  have HW := h.up B0
  have k1 := opsSize_any W _ _ _ HW.ops HW.sm
  have k2 := fun n => resultsSize_any (W.drewN n) _ l (HW.up (below_drewN W n)).res
  have c5 : ∀ n, (W.drewN n).cell? ⟨w.heap.size, 5, none⟩ = some (.slice bo l.length cb) := fun n => by
    show W.cell? ⟨w.heap.size, 5, none⟩ = _
    rw [hW]; go_simp
  have fin : ∀ n, Below w.heap.size w (W.drewN n) := fun n => B0.trans ((below_drewN W n).mono B0.size)
  clear B0 HW h
  subst hW
  go_enter Tryz.func5, Tryz.ntmps5
  go_wp2_with fail
  refine k1.mono ?_
  rintro e w1 ⟨⟨z1, rfl⟩, n1, rfl⟩
  obtain ⟨y, hy⟩ : ∃ y, IntKind.i64.wrap (1 + z1) = y := ⟨_, rfl⟩
  have b1 := fin n1
  have k3 := k2 n1
  have d5 := c5 n1
  clear k1 k2 fin c5
  generalize World.drewN _ n1 = w2 at *
  by_cases hle : y ≤ 1048576
  · go_wp2_with fail
    refine k3.mono ?_
    rintro e w3 ⟨⟨z2, rfl⟩, b3⟩
    have b4 := b1.trans (b3.mono b1.size)
    clear k3 d5 b1 b3
    go_wp2
    go_ret
    exact ⟨⟨_, rfl⟩, b4⟩
  · clear k3 d5
    go_wp2
    go_ret
    exact ⟨⟨_, rfl⟩, b1⟩

set_option maxHeartbeats 2000000 in
set_option maxRecDepth 1000000 in
theorem sameMsg_any (w : World) (vo vr uo ur : Value) (m : MsgD) (l k : List ResP) (h1 : MsgAt w w.heap.size vo vr m l) (h2 : MsgAt w w.heap.size uo ur m k) :
    Calls Tryz.prog 19 #[msgV m vo vr, msgV m uo ur] w fun e w' => e = .returned (.bool true) ∧ Below w.heap.size w w' := by
  obtain ⟨ao, ca, bo, cb, rfl, rfl⟩ := h1.form
  obtain ⟨co, cc, eo, ce, rfl, rfl⟩ := h2.form
  unfold msgV
  obtain ⟨W, hW⟩ : ∃ W, W = (w.alloc (.cells #[.int .u8 (m.say.toNat : Int), .int .u8 (m.src.toNat : Int), .int .u8 (m.dst.toNat : Int), .int .u32 (m.g.toNat : Int), .slice ao m.ops.length ca, .slice bo l.length cb] 27)).alloc (.cells #[.int .u8 (m.say.toNat : Int), .int .u8 (m.src.toNat : Int), .int .u8 (m.dst.toNat : Int), .int .u32 (m.g.toNat : Int), .slice co m.ops.length cc, .slice eo k.length ce] 27) := ⟨_, rfl⟩
  have B0 : Below w.heap.size w W := by rw [hW]; exact ((Below.refl _ _).alloc (Nat.le_refl _) _).alloc (by simp) _
  have H1 := h1.up B0
  have H2 := h2.up B0
  have ko := sameOps_any W _ _ _ _ _ H1.ops H2.ops
  have kr := fun n => sameResults_any (W.drewN n) _ _ l k (H1.up (below_drewN W n)).res (H2.up (below_drewN W n)).res (by rw [h1.eq, h2.eq])
  have c5 : ∀ n, (W.drewN n).cell? ⟨w.heap.size, 5, none⟩ = some (.slice bo l.length cb) := fun n => by
    show W.cell? ⟨w.heap.size, 5, none⟩ = _
    rw [hW]; go_simp
  have e5 : ∀ n, (W.drewN n).cell? ⟨w.heap.size + 1, 5, none⟩ = some (.slice eo k.length ce) := fun n => by
    show W.cell? ⟨w.heap.size + 1, 5, none⟩ = _
    rw [hW]; go_simp
  have fin : ∀ n, Below w.heap.size w (W.drewN n) := fun n => B0.trans ((below_drewN W n).mono B0.size)
  clear B0 H1 H2 h1 h2
  subst hW
  go_enter Tryz.func19, Tryz.ntmps19
  go_wp2_with fail
  refine ko.mono ?_
  rintro e w1 ⟨rfl, n1, rfl⟩
  have b1 := fin n1
  have k3 := kr n1
  have d5 := c5 n1
  have f5 := e5 n1
  clear ko kr fin c5 e5
  generalize World.drewN _ n1 = w2 at *
  go_wp2_with fail
  refine k3.mono ?_
  rintro e w3 ⟨rfl, b3⟩
  have b4 := b1.trans (b3.mono b1.size)
  clear k3 d5 f5 b1 b3
  go_wp2
  go_ret
  exact ⟨rfl, b4⟩
end Go.Proofs.YtcgecdiaddcfkaaGreatDoor
/- The walk of the document's Check: may a message be? -/
set_option linter.unusedSimpArgs false
set_option linter.unusedVariables false
namespace Go.Proofs.YtcgecdiaddcfkaaGreatDoor
open Go.RowKit

theorem ok_head {m : MsgD} (h : headOk m.say.toNat m.src.toNat m.dst.toNat = false) : m.ok = false := by unfold MsgD.ok; rw [show m.head = false from h]; rfl
theorem ok_ops {m : MsgD} (h : m.ops.all opOk = false) : m.ok = false := by unfold MsgD.ok; rw [h]; simp
theorem ok_res {m : MsgD} (h : m.res.all resOk = false) : m.ok = false := by unfold MsgD.ok; rw [h]; simp
theorem all_map {l : List ResP} : (l.map (·.2)).all resOk = l.all (fun p => resOk p.2) := by rw [List.all_map]; rfl

set_option maxHeartbeats 3000000 in
set_option maxRecDepth 1000000 in
theorem refCheck7_any (w : World) (vo vr : Value) (m : MsgD) (l : List ResP) (hm : MsgAt w w.heap.size vo vr m l) :
    Calls Tryz.prog 32 #[msgV m vo vr] w fun e w' => e = .returned (.bool m.ok) ∧ Below w.heap.size w w' := by
  obtain ⟨ao, ca, bo, cb, rfl, rfl⟩ := hm.form
  unfold msgV
  have B0 := below_one w (.cells #[.int .u8 (m.say.toNat : Int), .int .u8 (m.src.toNat : Int), .int .u8 (m.dst.toNat : Int), .int .u32 (m.g.toNat : Int), .slice ao m.ops.length ca, .slice bo l.length cb] 27)
  by_cases h1 : 1 ≤ m.say.toNat
  case neg =>
    have E := ok_head (m := m) (by unfold headOk; exact decide_eq_false (by omega))
    have i1 : (m.say.toNat : Int) < 1 := by omega
    rw [E]; clear E h1 hm
    go_enter Tryz.func32, Tryz.ntmps32
    go_wp2
    go_ret
    exact ⟨rfl, B0⟩
  by_cases h2 : m.say.toNat ≤ 7
  case neg =>
    have E := ok_head (m := m) (by unfold headOk; exact decide_eq_false (by omega))
    have i1 : ¬ (m.say.toNat : Int) < 1 := by omega
    have i2 : (7 : Int) < (m.say.toNat : Int) := by omega
    rw [E]; clear E h1 h2 hm
    go_enter Tryz.func32, Tryz.ntmps32
    go_wp2
    go_ret
    exact ⟨rfl, B0⟩
  by_cases h3 : m.src.toNat ≤ 3
  case neg =>
    have E := ok_head (m := m) (by unfold headOk; exact decide_eq_false (by omega))
    have i1 : ¬ (m.say.toNat : Int) < 1 := by omega
    have i2 : ¬ (7 : Int) < (m.say.toNat : Int) := by omega
    have i3 : (3 : Int) < (m.src.toNat : Int) := by omega
    rw [E]; clear E h1 h2 h3 hm
    go_enter Tryz.func32, Tryz.ntmps32
    go_wp2
    go_ret
    exact ⟨rfl, B0⟩
  by_cases h4 : m.dst.toNat ≤ 3
  case neg =>
    have E := ok_head (m := m) (by unfold headOk; exact decide_eq_false (by omega))
    have i1 : ¬ (m.say.toNat : Int) < 1 := by omega
    have i2 : ¬ (7 : Int) < (m.say.toNat : Int) := by omega
    have i3 : ¬ (3 : Int) < (m.src.toNat : Int) := by omega
    have i4 : (3 : Int) < (m.dst.toNat : Int) := by omega
    rw [E]; clear E h1 h2 h3 h4 hm
    go_enter Tryz.func32, Tryz.ntmps32
    go_wp2
    go_ret
    exact ⟨rfl, B0⟩
  have hh : m.head = true := by show headOk _ _ _ = true; unfold headOk; exact decide_eq_true ⟨h1, h2, h3, h4⟩
  have i1 : ¬ (m.say.toNat : Int) < 1 := by omega
  have i2 : ¬ (7 : Int) < (m.say.toNat : Int) := by omega
  have i3 : ¬ (3 : Int) < (m.src.toNat : Int) := by omega
  have i4 : ¬ (3 : Int) < (m.dst.toNat : Int) := by omega
  obtain ⟨R, hR⟩ : ∃ R, R = m.ok := ⟨_, rfl⟩
  rw [← hR]
  have noO : Hid (m.ops.all opOk = false → R = false) := fun h => by rw [hR]; exact ok_ops h
  have noR : Hid (l.all (fun p => resOk p.2) = false → R = false) := fun h => by rw [hR]; exact ok_res (by rw [← hm.eq, all_map]; exact h)
  have yes : Hid (m.ops.all opOk = true → l.all (fun p => resOk p.2) = true → R = true) := fun a b => by rw [hR]; exact ok_of hh a (by rw [← hm.eq, all_map]; exact b)
  clear hR hh h1 h2 h3 h4
  obtain ⟨W1, hW1⟩ : ∃ W1, W1 = w.alloc (.cells #[.int .u8 (m.say.toNat : Int), .int .u8 (m.src.toNat : Int), .int .u8 (m.dst.toNat : Int), .int .u32 (m.g.toNat : Int), .slice ao m.ops.length ca, .slice bo l.length cb] 27) := ⟨_, rfl⟩
  have M1 : MsgAt W1 w.heap.size (.slice ao m.ops.length ca) (.slice bo l.length cb) m l := by rw [hW1]; exact hm.below B0 (Nat.le_refl _)
  have c4 : W1.cell? ⟨w.heap.size, 4, none⟩ = some (.slice ao m.ops.length ca) := by rw [hW1]; go_simp
  have c5 : W1.cell? ⟨w.heap.size, 5, none⟩ = some (.slice bo l.length cb) := by rw [hW1]; go_simp
  have B1 : Below w.heap.size w W1 := by rw [hW1]; exact B0
  have z1 : w.heap.size < W1.heap.size := by rw [hW1]; simp
  obtain ⟨⟨ao', ca', hv, h1, h2, hc⟩, hsm, ⟨⟨bo', cb', hv2, h3, h4, hd⟩, hrows⟩, -⟩ := M1
  cases hv
  cases hv2
  unfold maxLen at h2 h4
  have X : Hid (∀ W, Below W1.heap.size W1 W → W.cell? ⟨w.heap.size, 4, none⟩ = some (.slice ao m.ops.length ca) ∧ W.cell? ⟨w.heap.size, 5, none⟩ = some (.slice bo l.length cb) ∧ Below w.heap.size w W) := fun W hW => ⟨(hW.cell (p := ⟨w.heap.size, 4, none⟩) z1).trans c4, (hW.cell (p := ⟨w.heap.size, 5, none⟩) z1).trans c5, B1.trans (hW.mono B1.size)⟩
  clear hm B0 c4 c5
  generalize m.ops = lo at *
  go_enter Tryz.func32, Tryz.ntmps32
  go_wp2
  rw [← hW1]
  clear hW1
  go_loopw [3] (fun i wr => ∃ k : Nat, k ≤ lo.length ∧ i = .int .i64 k ∧ Hid ((lo.take k).all opOk = true) ∧ Below W1.heap.size W1 wr) (fun i _ => lo.length - (intOf i).toNat)
  case atStart => exact ⟨0, by omega, rfl, rfl, Below.refl _ _⟩
  case round =>
    obtain ⟨k, hk, rfl, hH, hbw⟩ := hrel
    obtain ⟨x4, x5, xb⟩ := X.out wr hbw
    by_cases h1 : k < lo.length
    · obtain ⟨b, off, rfl, hbl, hcell⟩ := hc (by omega)
      obtain ⟨x, hx⟩ : ∃ x, x = lo[k]'h1 := ⟨_, rfl⟩
      have cc : ∀ j u, (opCells x)[j]? = some u → wr.cell? ⟨b, off + k * 4 + j, none⟩ = some u := fun j u hu => (hbw.cell (p := ⟨b, _, none⟩) (Nat.lt_trans hbl z1)).trans (hcell k h1 j u (by rw [← hx]; exact hu))
      have c0 := cc 0 _ rfl
      have c1 := cc 1 _ rfl
      have c2 := cc 2 _ rfl
      have c3 := cc 3 _ rfl
      simp only [Nat.add_zero] at c0
      have kc := refCheckOp_any wr x (hsm x (by rw [hx]; exact List.getElem_mem _))
      unfold opV at kc
      have HX : Hid (x = lo[k]'h1) := hx
      clear cc hx hcell hc
      have j1 : (k : Int) < (lo.length : Int) := by omega
      have hyes : Hid (opOk x = true → (lo.take (k + 1)).all opOk = true) := fun h => all_take_succ lo _ k h1 hH.out (by rw [← HX.out]; exact h)
      have hno : Hid (opOk x = false → R = false) := fun h => noO.out (all_get_false lo _ k h1 (by rw [← HX.out]; exact h))
      clear HX
      generalize opOk x = ok at *
      cases ok with
      | false =>
        obtain rfl := hno.out rfl
        clear hno hyes hH hd hrows
        go_wp2_with fail
        refine kc.mono ?_
        rintro e w1 ⟨rfl, hb1⟩
        have b5 := xb.trans (hb1.mono xb.size)
        clear kc
        go_wp2
        go_ret
        exact ⟨rfl, b5⟩
      | true =>
        have hy : Hid ((lo.take (k + 1)).all opOk = true) := hyes.out rfl
        clear hno hyes hH hd hrows
        go_wp2_with fail
        refine kc.mono ?_
        rintro e w1 ⟨rfl, hb1⟩
        have b5 := hbw.trans (hb1.mono hbw.size)
        clear kc
        go_wp2
        go_roundw
        case rel => exact ⟨k + 1, by omega, by go_num, hy, b5⟩
        case measure => simp [intOf]; omega
    · have hOK : Hid (lo.all opOk = true) := by
        have h := hH.out
        rw [List.take_of_length_le (by omega)] at h
        exact h
      clear hH hc hsm
      obtain ⟨wo, hwo⟩ : ∃ wo, wo = wr := ⟨_, rfl⟩
      subst hwo
      go_wp2
      go_loopw [4, 5] (fun i j wr => ∃ k : Nat, k ≤ l.length ∧ i = .int .i64 k ∧ Hid ((l.take k).all (fun p => resOk p.2) = true) ∧ Below W1.heap.size W1 wr) (fun i _ _ => l.length - (intOf i).toNat)
      case atStart => exact ⟨0, by omega, rfl, rfl, hbw⟩
      case round =>
        obtain ⟨k2, hk2, rfl, hH2, hbw2⟩ := hrel
        obtain ⟨w5, hw5⟩ : ∃ w5, w5 = wr := ⟨_, rfl⟩
        subst hw5
        obtain ⟨y4, y5, yb⟩ := X.out w5 hbw2
        by_cases h5 : k2 < l.length
        · obtain ⟨b, off, rfl, hbl, hcell⟩ := hd (by omega)
          obtain ⟨x, hx⟩ : ∃ x, x = l[k2]'h5 := ⟨_, rfl⟩
          have hxm : x ∈ l := by rw [hx]; exact List.getElem_mem _
          have c0' : W1.cell? ⟨b, off + k2, none⟩ = some x.1 := by
            have := hcell k2 h5 0 x.1 (by rw [← hx]; rfl)
            simpa using this
          have hbl2 : b < W1.heap.size := Nat.lt_trans hbl z1
          have hxr := hrows x hxm
          have hyes : Hid (resOk x.2 = true → (l.take (k2 + 1)).all (fun p => resOk p.2) = true) := fun h => all_take_succ l _ k2 h5 hH2.out (by rw [← hx]; exact h)
          have hno : Hid (resOk x.2 = false → R = false) := fun h => noR.out (all_get_false l _ k2 h5 (by rw [← hx]; exact h))
          clear hx hxm hcell hd hrows hH2 noR noO
          obtain ⟨xv, xr⟩ := x
          obtain ⟨ax, cx, hvx, hx1, hx2, hx3⟩ := id hxr.1
          have hsm2 : ∀ y ∈ xr, rowSm y := hxr.2
          simp only at hvx c0' hx1 hx3 hyes hno
          subst hvx
          unfold maxLen at hx2
          unfold resOk at hyes hno
          clear hxr
          have c0 : w5.cell? ⟨b, off + k2, none⟩ = some (.slice ax xr.length cx) := (hbw2.cell (p := ⟨b, _, none⟩) hbl2).trans c0'
          have j2 : (k2 : Int) < (l.length : Int) := by omega
          go_wp2
          go_loopw [5] (fun j wr => ∃ q : Nat, q ≤ xr.length ∧ j = .int .i64 q ∧ Hid ((xr.take q).all rowOk = true) ∧ Below W1.heap.size W1 wr) (fun j _ => xr.length - (intOf j).toNat)
          case atStart => exact ⟨0, by omega, rfl, rfl, hbw2⟩
          case round =>
            obtain ⟨q, hq, rfl, hQ, hbw3⟩ := hrel
            obtain ⟨u4, u5, ub⟩ := X.out wr hbw3
            have d5 : wr.cell? ⟨b, off + k2, none⟩ = some (.slice ax xr.length cx) := (hbw3.cell (p := ⟨b, _, none⟩) hbl2).trans c0'
            by_cases hq1 : q < xr.length
            · obtain ⟨b2, off2, rfl, hbl3, hcell2⟩ := hx3 (by omega)
              obtain ⟨y, hy⟩ : ∃ y, y = xr[q]'hq1 := ⟨_, rfl⟩
              have d0 : wr.cell? ⟨b2, off2 + q * 2, none⟩ = some (.string y.key) := by
                have := hcell2 q hq1 0 (.string y.key) (by rw [← hy]; rfl)
                rw [hbw3.cell (p := ⟨b2, _, none⟩) (Nat.lt_trans hbl3 z1)]
                simpa using this
              have kc := refCheck_any y.key wr (hsm2 y (by rw [hy]; exact List.getElem_mem _))
              have j3 : (q : Int) < (xr.length : Int) := by omega
              have yno : Hid (chk y.key = false → R = false) := fun h => hno.out (all_get_false xr _ q hq1 (by rw [← hy]; exact h))
              have yyes : Hid (chk y.key = true → (xr.take (q + 1)).all rowOk = true) := fun h => all_take_succ xr _ q hq1 hQ.out (by rw [← hy]; exact h)
              clear hy hcell2 hx3 hQ hno hyes
              generalize chk y.key = ck at *
              cases ck with
              | false =>
                obtain rfl := yno.out rfl
                clear yno yyes
                go_wp2_with fail
                refine kc.mono ?_
                rintro e w1 ⟨rfl, rfl⟩
                clear kc
                go_wp2
                go_ret
                exact ⟨rfl, ub⟩
              | true =>
                have hy2 : Hid ((xr.take (q + 1)).all rowOk = true) := yyes.out rfl
                clear yno yyes
                go_wp2_with fail
                refine kc.mono ?_
                rintro e w1 ⟨rfl, rfl⟩
                clear kc
                go_wp2
                go_roundw
                case rel => exact ⟨q + 1, by omega, by go_num, hy2, hbw3⟩
                case measure => simp [intOf]; omega
            · obtain rfl : q = xr.length := by omega
              have hall : Hid ((l.take (k2 + 1)).all (fun p => resOk p.2) = true) := hyes.out (by have := hQ.out; rwa [List.take_of_length_le (Nat.le_refl _)] at this)
              have j3 : ¬ ((xr.length : Int) < (xr.length : Int)) := by omega
              clear hx3 hQ hno hyes
              go_wp2
              go_roundw
              case rel => exact ⟨k2 + 1, by omega, by go_num, hall, hbw3⟩
              case measure => simp [intOf]; omega
        · have hOK2 : l.all (fun p => resOk p.2) = true := by
            have h := hH2.out
            rw [List.take_of_length_le (by omega)] at h
            exact h
          obtain rfl := yes.out hOK.out hOK2
          clear hH2 hd hrows hOK2
          go_wp2
          go_ret
          exact ⟨rfl, yb⟩
end Go.Proofs.YtcgecdiaddcfkaaGreatDoor
