/- The walk of PacketsBack. -/
import Derived.Test.YtcgecdiaddcfkaaDoorPAlive
import Derived.Test.YtcgecdiaddcfkaaDoorRSameB
set_option linter.unusedSimpArgs false
set_option linter.unusedVariables false
namespace Go.Proofs.YtcgecdiaddcfkaaDoor
open Go.RowKit

theorem putM_cases (m : MsgD) : (m.ok = true ∧ fewM m.ops m.res ∧ putM m = (encM m, 0)) ∨ (putM m = ([], 3)) ∨ (putM m = ([], 1)) := by
  unfold putM
  cases h : m.ok with
  | false => exact .inr (.inr rfl)
  | true =>
    by_cases hf : fewM m.ops m.res
    · exact .inl ⟨rfl, hf, by rw [if_pos rfl, if_pos hf]⟩
    · exact .inr (.inl (by rw [if_pos rfl, if_neg hf]))

set_option maxHeartbeats 3000000 in
set_option maxRecDepth 1000000 in
theorem back_walk (w : World) (vo vr vb : Value) (m : MsgD) (l : List ResP) (bs : List UInt8) (hm : MsgAt w w.heap.size vo vr m l) (hb : InAt w w.heap.size vb bs) (htab : Tab w) :
    Calls Tryd.prog 3 #[msgV m vo vr, vb] w fun e w' => e = .returned (.bool true) ∧ Below w.heap.size w w' := by
  obtain ⟨ao, ca, bo, cb, rfl, rfl⟩ := hm.form
  unfold msgV
  have hbS : ∃ ab cpb, vb = .slice ab bs.length cpb ∧ cpb ≤ maxLen ∧ bs.length ≤ cpb := by
    obtain ⟨ab, cpb, h1, h2, h3, -⟩ := id hb
    exact ⟨ab, cpb, h1, h3, h2⟩
  obtain ⟨ab0, cpb0, hvb, hcpb, hlb⟩ := hbS
  unfold maxLen at hcpb
  subst hvb
  obtain ⟨W1, hW1⟩ : ∃ W1, W1 = w.alloc (.cells #[.int .u8 (m.say.toNat : Int), .int .u8 (m.src.toNat : Int), .int .u8 (m.dst.toNat : Int), .int .u32 (m.g.toNat : Int), .slice ao m.ops.length ca, .slice bo l.length cb] 27) := ⟨_, rfl⟩
  have B1 : Below w.heap.size w W1 := by rw [hW1]; exact below_one w _
  have P1 : W1.heap[w.heap.size]? = some (.cells #[.int .u8 (m.say.toNat : Int), .int .u8 (m.src.toNat : Int), .int .u8 (m.dst.toNat : Int), .int .u32 (m.g.toNat : Int), .slice ao m.ops.length ca, .slice bo l.length cb] 27 (0, 0)) := by rw [hW1]; exact heap_alloc_new w _
  have z1 : w.heap.size < W1.heap.size := by rw [hW1]; simp
  have M1 := hm.up B1
  go_enter Tryd.func3, Tryd.ntmps3
  go_wp2_with fail
  rw [← hW1]
  clear hW1 hm
  refine (alive_any W1 (tab_below htab B1)).mono ?_
  rintro e w2 ⟨rfl, b2⟩
  have B2 := B1.trans (b2.mono B1.size)
  have P2 := (b2.block _ z1).trans P1
  have z2 := Nat.lt_of_lt_of_le z1 b2.size
  have M2 := M1.up b2
  clear B1 P1 z1 M1 b2
  obtain ⟨m0, m1, m2, m3, m4, m5⟩ := six_cells P2
  go_wp2_with fail
  refine (msgSize_any w2 _ _ m l M2).mono ?_
  rintro e w3 ⟨⟨z, rfl⟩, b3⟩
  have B3 := B2.trans (b3.mono B2.size)
  have P3 := (b3.block _ z2).trans P2
  have z3 := Nat.lt_of_lt_of_le z2 b3.size
  have M3 := M2.up b3
  clear B2 P2 z2 M2 b3 m0 m1 m2 m3 m4 m5
  obtain ⟨m0, m1, m2, m3, m4, m5⟩ := six_cells P3
  by_cases hz : 5000 < z
  · clear P3 z3 M3 hb m0 m1 m2 m3 m4 m5
    go_wp2_with fail
    refine (alive_any _ (tab_below htab B3)).mono ?_
    rintro e w4 ⟨rfl, b4⟩
    have B4 := B3.trans (b4.mono B3.size)
    clear b4 B3
    go_wp2
    go_ret
    exact ⟨rfl, B4⟩
  by_cases hl : (100000 : Int) < (bs.length : Int)
  · clear P3 z3 M3 hb m0 m1 m2 m3 m4 m5
    go_wp2_with fail
    refine (alive_any _ (tab_below htab B3)).mono ?_
    rintro e w4 ⟨rfl, b4⟩
    have B4 := B3.trans (b4.mono B3.size)
    clear b4 B3
    go_wp2
    go_ret
    exact ⟨rfl, B4⟩
  have kp := M3.put
  unfold msgV at kp
  go_wp2_with fail
  rcases putM_cases m with ⟨h1, hf, h2⟩ | h2 | h2
  · rw [h2] at kp
    simp only at kp
    refine kp.mono ?_
    rintro e w4 ⟨a4, c4, rfl, o4, b4⟩
    have B4 := B3.trans (b4.mono B3.size)
    have P4 := (b4.block _ z3).trans P3
    have z4 := Nat.lt_of_lt_of_le z3 b4.size
    have M4 := M3.up b4
    have kg := Get_any w4 _ _ (in_own o4)
    rw [getM_put h1 hf] at kg
    clear kp b4 B3 P3 z3 M3 o4 h2 hf m0 m1 m2 m3 m4 m5
    go_wp2_with fail
    refine kg.mono ?_
    rintro e w5 ⟨oa, on, oc, ra, rn, rc, rfl, hO, b5⟩
    obtain ⟨k5, hK⟩ := hO.at h1
    have hh : headOk m.say.toNat m.src.toNat m.dst.toNat = true := by
      unfold MsgD.ok at h1
      rw [Bool.and_eq_true] at h1
      exact h1.1
    unfold headOk at hh
    obtain ⟨j1, j2, j3, j4⟩ := of_decide_eq_true hh
    have i1 : ¬ (m.say.toNat : Int) < 1 := by omega
    have i2 : ¬ (7 : Int) < (m.say.toNat : Int) := by omega
    have i3 : ¬ (3 : Int) < (m.src.toNat : Int) := by omega
    have i4 : ¬ (3 : Int) < (m.dst.toNat : Int) := by omega
    clear kg hO hh j1 j2 j3 j4 h1
    unfold msgV
    have d5 := below_one w5 (.cells #[.int .u8 (m.say.toNat : Int), .int .u8 (m.src.toNat : Int), .int .u8 (m.dst.toNat : Int), .int .u32 (m.g.toNat : Int), .slice oa on oc, .slice ra rn rc] 27)
    have B5 := B4.trans (b5.mono B4.size)
    have M5 := (M4.up b5).up d5
    have N5 := hK.up d5
    have P5 := (d5.block _ (Nat.lt_of_lt_of_le z4 b5.size)).trans ((b5.block _ z4).trans P4)
    have z5 := Nat.lt_of_lt_of_le (Nat.lt_of_lt_of_le z4 b5.size) d5.size
    replace B5 := B5.trans (d5.mono B5.size)
    clear B4 M4 hK b5 d5 P4 z4
    obtain ⟨m0, m1, m2, m3, m4, m5⟩ := six_cells P5
    go_wp2_with fail
    generalize w5.alloc (.cells #[.int .u8 (m.say.toNat : Int), .int .u8 (m.src.toNat : Int), .int .u8 (m.dst.toNat : Int), .int .u32 (m.g.toNat : Int), .slice oa on oc, .slice ra rn rc] 27) = w6 at *
    have ks := sameMsg_any w6 _ _ _ _ m _ _ N5 M5
    unfold msgV at ks
    refine ks.mono ?_
    rintro e w7 ⟨rfl, b7⟩
    have P7 := (b7.block _ z5).trans P5
    have B7 := B5.trans (b7.mono B5.size)
    clear ks N5 M5 P5 z5 B5 b7 m0 m1 m2 m3 m4 m5
    obtain ⟨m0, m1, m2, m3, m4, m5⟩ := six_cells P7
    clear P7
    have kg := Get_any w7 _ bs (hb.below B7 (Nat.le_refl _) |>.mono B7.size)
    rcases getM_two bs with ⟨n, hg, g1, g2, g3⟩ | hg
    · rw [hg] at kg
      have hp2 : putM n = (bs, 0) := by unfold putM; rw [if_pos g1, if_pos g2, g3]
      go_wp2_with fail
      refine kg.mono ?_
      rintro e x1 ⟨oa, on, oc, ra, rn, rc, rfl, hO, c1⟩
      obtain ⟨k, hK⟩ := hO.at g1
      clear kg hO
      unfold msgV
      have d1 := below_one x1 (.cells #[.int .u8 (n.say.toNat : Int), .int .u8 (n.src.toNat : Int), .int .u8 (n.dst.toNat : Int), .int .u32 (n.g.toNat : Int), .slice oa on oc, .slice ra rn rc] 27)
      have C2 := B7.trans (c1.mono B7.size)
      replace C2 := C2.trans (d1.mono C2.size)
      have K2 := hK.up d1
      have kp2 := K2.put
      rw [hp2] at kp2
      simp only at kp2
      clear hK c1 d1 hg g1 g2 g3 hp2
      go_wp2_with fail
      refine kp2.mono ?_
      rintro e x3 ⟨a3, c3, rfl, o3, b3⟩
      have C3 := C2.trans (b3.mono C2.size)
      have ks := sameBytes_any x3 _ _ _ _ bs (in_own o3) (hb.below C3 (Nat.le_refl _))
      clear kp2 b3 o3 C2 K2
      go_wp2_with fail
      refine ks.mono ?_
      rintro e x4 ⟨rfl, n4, rfl⟩
      have C4 := C3.trans ((below_drewN x3 n4).mono C3.size)
      clear ks C3
      go_wp2
      go_ret
      exact ⟨rfl, C4⟩
    · rw [hg] at kg
      go_wp2_with fail
      refine kg.mono ?_
      rintro e x1 ⟨oa, on, oc, ra, rn, rc, rfl, hO, c1⟩
      obtain ⟨oa', oc', e1⟩ := own_len hO.1
      obtain ⟨l2, h2, h3⟩ := hO.2
      obtain rfl : l2 = [] := by simpa [zeroM] using h3
      obtain ⟨ra', rc', e2⟩ := own_len h2.own
      cases e1
      cases e2
      unfold msgV
      have d1 := below_one x1 (.cells #[.int .u8 0, .int .u8 0, .int .u8 0, .int .u32 0, .slice oa 0 oc, .slice ra 0 rc] 27)
      have C2 := B7.trans (c1.mono B7.size)
      replace C2 := C2.trans (d1.mono C2.size)
      clear kg hO h2 h3 c1 d1 hg
      simp only [show ((zeroM.say.toNat : Nat) : Int) = 0 from rfl, show ((zeroM.src.toNat : Nat) : Int) = 0 from rfl, show ((zeroM.dst.toNat : Nat) : Int) = 0 from rfl, show ((zeroM.g.toNat : Nat) : Int) = 0 from rfl, show zeroM.ops.length = 0 from rfl, List.length_nil]
      go_wp2
      go_ret
      exact ⟨rfl, C2⟩
  · rw [h2] at kp
    simp only at kp
    refine kp.mono ?_
    rintro e w4 ⟨a4, c4, rfl, -, b4⟩
    have B4 := B3.trans (b4.mono B3.size)
    clear kp b4 B3 P3 z3 M3
    have kg := Get_any w4 _ bs (hb.below B4 (Nat.le_refl _) |>.mono B4.size)
    rcases getM_two bs with ⟨n, hg, g1, g2, g3⟩ | hg
    · rw [hg] at kg
      have hp2 : putM n = (bs, 0) := by unfold putM; rw [if_pos g1, if_pos g2, g3]
      go_wp2_with fail
      refine kg.mono ?_
      rintro e x1 ⟨oa, on, oc, ra, rn, rc, rfl, hO, c1⟩
      obtain ⟨k, hK⟩ := hO.at g1
      clear kg hO
      unfold msgV
      have d1 := below_one x1 (.cells #[.int .u8 (n.say.toNat : Int), .int .u8 (n.src.toNat : Int), .int .u8 (n.dst.toNat : Int), .int .u32 (n.g.toNat : Int), .slice oa on oc, .slice ra rn rc] 27)
      have C2 := B4.trans (c1.mono B4.size)
      replace C2 := C2.trans (d1.mono C2.size)
      have K2 := hK.up d1
      have kp2 := K2.put
      rw [hp2] at kp2
      simp only at kp2
      clear hK c1 d1 hg g1 g2 g3 hp2
      go_wp2_with fail
      refine kp2.mono ?_
      rintro e x3 ⟨a3, c3, rfl, o3, b3⟩
      have C3 := C2.trans (b3.mono C2.size)
      have ks := sameBytes_any x3 _ _ _ _ bs (in_own o3) (hb.below C3 (Nat.le_refl _))
      clear kp2 b3 o3 C2 K2
      go_wp2_with fail
      refine ks.mono ?_
      rintro e x4 ⟨rfl, n4, rfl⟩
      have C4 := C3.trans ((below_drewN x3 n4).mono C3.size)
      clear ks C3
      go_wp2
      go_ret
      exact ⟨rfl, C4⟩
    · rw [hg] at kg
      go_wp2_with fail
      refine kg.mono ?_
      rintro e x1 ⟨oa, on, oc, ra, rn, rc, rfl, hO, c1⟩
      obtain ⟨oa', oc', e1⟩ := own_len hO.1
      obtain ⟨l2, h2, h3⟩ := hO.2
      obtain rfl : l2 = [] := by simpa [zeroM] using h3
      obtain ⟨ra', rc', e2⟩ := own_len h2.own
      cases e1
      cases e2
      unfold msgV
      have d1 := below_one x1 (.cells #[.int .u8 0, .int .u8 0, .int .u8 0, .int .u32 0, .slice oa 0 oc, .slice ra 0 rc] 27)
      have C2 := B4.trans (c1.mono B4.size)
      replace C2 := C2.trans (d1.mono C2.size)
      clear kg hO h2 h3 c1 d1 hg
      simp only [show ((zeroM.say.toNat : Nat) : Int) = 0 from rfl, show ((zeroM.src.toNat : Nat) : Int) = 0 from rfl, show ((zeroM.dst.toNat : Nat) : Int) = 0 from rfl, show ((zeroM.g.toNat : Nat) : Int) = 0 from rfl, show zeroM.ops.length = 0 from rfl, List.length_nil]
      go_wp2
      go_ret
      exact ⟨rfl, C2⟩
  · rw [h2] at kp
    simp only at kp
    refine kp.mono ?_
    rintro e w4 ⟨a4, c4, rfl, -, b4⟩
    have B4 := B3.trans (b4.mono B3.size)
    clear kp b4 B3 P3 z3 M3
    have kg := Get_any w4 _ bs (hb.below B4 (Nat.le_refl _) |>.mono B4.size)
    rcases getM_two bs with ⟨n, hg, g1, g2, g3⟩ | hg
    · rw [hg] at kg
      have hp2 : putM n = (bs, 0) := by unfold putM; rw [if_pos g1, if_pos g2, g3]
      go_wp2_with fail
      refine kg.mono ?_
      rintro e x1 ⟨oa, on, oc, ra, rn, rc, rfl, hO, c1⟩
      obtain ⟨k, hK⟩ := hO.at g1
      clear kg hO
      unfold msgV
      have d1 := below_one x1 (.cells #[.int .u8 (n.say.toNat : Int), .int .u8 (n.src.toNat : Int), .int .u8 (n.dst.toNat : Int), .int .u32 (n.g.toNat : Int), .slice oa on oc, .slice ra rn rc] 27)
      have C2 := B4.trans (c1.mono B4.size)
      replace C2 := C2.trans (d1.mono C2.size)
      have K2 := hK.up d1
      have kp2 := K2.put
      rw [hp2] at kp2
      simp only at kp2
      clear hK c1 d1 hg g1 g2 g3 hp2
      go_wp2_with fail
      refine kp2.mono ?_
      rintro e x3 ⟨a3, c3, rfl, o3, b3⟩
      have C3 := C2.trans (b3.mono C2.size)
      have ks := sameBytes_any x3 _ _ _ _ bs (in_own o3) (hb.below C3 (Nat.le_refl _))
      clear kp2 b3 o3 C2 K2
      go_wp2_with fail
      refine ks.mono ?_
      rintro e x4 ⟨rfl, n4, rfl⟩
      have C4 := C3.trans ((below_drewN x3 n4).mono C3.size)
      clear ks C3
      go_wp2
      go_ret
      exact ⟨rfl, C4⟩
    · rw [hg] at kg
      go_wp2_with fail
      refine kg.mono ?_
      rintro e x1 ⟨oa, on, oc, ra, rn, rc, rfl, hO, c1⟩
      obtain ⟨oa', oc', e1⟩ := own_len hO.1
      obtain ⟨l2, h2, h3⟩ := hO.2
      obtain rfl : l2 = [] := by simpa [zeroM] using h3
      obtain ⟨ra', rc', e2⟩ := own_len h2.own
      cases e1
      cases e2
      unfold msgV
      have d1 := below_one x1 (.cells #[.int .u8 0, .int .u8 0, .int .u8 0, .int .u32 0, .slice oa 0 oc, .slice ra 0 rc] 27)
      have C2 := B4.trans (c1.mono B4.size)
      replace C2 := C2.trans (d1.mono C2.size)
      clear kg hO h2 h3 c1 d1 hg
      simp only [show ((zeroM.say.toNat : Nat) : Int) = 0 from rfl, show ((zeroM.src.toNat : Nat) : Int) = 0 from rfl, show ((zeroM.dst.toNat : Nat) : Int) = 0 from rfl, show ((zeroM.g.toNat : Nat) : Int) = 0 from rfl, show zeroM.ops.length = 0 from rfl, List.length_nil]
      go_wp2
      go_ret
      exact ⟨rfl, C2⟩
end Go.Proofs.YtcgecdiaddcfkaaDoor
