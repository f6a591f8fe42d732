/- The walk of PacketsParts. -/
import Derived.Test.YtcgecdiaddcfkaaDoorPAlive
import Derived.Test.YtcgecdiaddcfkaaDoorRSameB
set_option linter.unusedSimpArgs false
set_option linter.unusedVariables false
namespace Go.Proofs.YtcgecdiaddcfkaaDoor
open Go.RowKit

theorem head_vals (m : MsgD) (n : Nat) (hn : n ≤ 1000) : [Value.int .u8 (m.say.toNat : Int), Value.int .u8 (m.src.toNat : Int), Value.int .u8 (m.dst.toNat : Int), Value.int .u8 ((m.g.toNat : Int) / 16777216 % 256), Value.int .u8 ((m.g.toNat : Int) / 65536 % 256), Value.int .u8 ((m.g.toNat : Int) / 256 % 256), Value.int .u8 ((m.g.toNat : Int) % 256), Value.int .u8 ((n : Int) / 16777216), Value.int .u8 ((n : Int) / 65536), Value.int .u8 ((n : Int) / 256), Value.int .u8 ((n : Int) % 256)] = bcells (headM m ++ be4 n) := by
  unfold headM
  rw [show m.say :: m.src :: m.dst :: be4 m.g.toNat = [m.say, m.src, m.dst] ++ be4 m.g.toNat from rfl, bcells_app, bcells_app, ← be4_cells (show n < 4294967296 by omega), ← be4_cells (u32_lt m.g), show (n : Int) / 16777216 % 256 = (n : Int) / 16777216 by omega, show (n : Int) / 65536 % 256 = (n : Int) / 65536 by omega, show (n : Int) / 256 % 256 = (n : Int) / 256 by omega]
  rfl
theorem head_no (m : MsgD) (h : headOk m.say.toNat m.src.toNat m.dst.toNat = false) : putM m = ([], 1) := put_one m 0 (by omega) (by show (if m.head then 0 else 1) = 1; rw [show m.head = false from h]; rfl)

set_option maxHeartbeats 3000000 in
set_option maxRecDepth 1000000 in
theorem parts_walk (w : World) (vo vr : Value) (m : MsgD) (l : List ResP) (hm : MsgAt w w.heap.size vo vr m l) (htab : Tab w) :
    Calls Tryd.prog 4 #[msgV m vo vr] w fun e w' => e = .returned (.bool true) ∧ Below w.heap.size w w' := by
  obtain ⟨i0, hi, hz0, hz1, hz2⟩ := info_parts info_u8
  obtain ⟨ao, ca, bo, cb, rfl, rfl⟩ := hm.form
  unfold msgV
  obtain ⟨W1, hW1⟩ : ∃ W1, W1 = w.alloc (.cells #[.int .u8 (m.say.toNat : Int), .int .u8 (m.src.toNat : Int), .int .u8 (m.dst.toNat : Int), .int .u32 (m.g.toNat : Int), .slice ao m.ops.length ca, .slice bo l.length cb] 27) := ⟨_, rfl⟩
  have B1 : Below w.heap.size w W1 := by rw [hW1]; exact below_one w _
  have P1 : W1.heap[w.heap.size]? = some (.cells #[.int .u8 (m.say.toNat : Int), .int .u8 (m.src.toNat : Int), .int .u8 (m.dst.toNat : Int), .int .u32 (m.g.toNat : Int), .slice ao m.ops.length ca, .slice bo l.length cb] 27 (0, 0)) := by rw [hW1]; exact heap_alloc_new w _
  have z1 : w.heap.size < W1.heap.size := by rw [hW1]; simp
  have M1 := hm.up B1
  go_enter Tryd.func4, Tryd.ntmps4
  go_wp2_with fail
  rw [← hW1]
  clear hW1 hm
  refine (alive_any W1 (tab_below htab B1)).mono ?_
  rintro e w2 ⟨rfl, b2⟩
  have B2 := B1.trans (b2.mono B1.size)
  have P2 := (b2.block _ z1).trans P1
  have z2 := Nat.lt_of_lt_of_le z1 b2.size
  have M2 := M1.up b2
  clear B1 P1 z1 M1 b2
  obtain ⟨m0, m1, m2, m3, m4, m5⟩ := six_cells P2
  go_wp2_with fail
  refine (msgSize_any w2 _ _ m l M2).mono ?_
  rintro e w3 ⟨⟨z, rfl⟩, b3⟩
  have B3 := B2.trans (b3.mono B2.size)
  have P3 := (b3.block _ z2).trans P2
  have z3 := Nat.lt_of_lt_of_le z2 b3.size
  have M3 := M2.up b3
  clear B2 P2 z2 M2 b3 m0 m1 m2 m3 m4 m5
  obtain ⟨m0, m1, m2, m3, m4, m5⟩ := six_cells P3
  by_cases hz : 5000 < z
  · clear P3 z3 M3 m0 m1 m2 m3 m4 m5
    go_wp2_with fail
    refine (alive_any _ (tab_below htab B3)).mono ?_
    rintro e w4 ⟨rfl, b4⟩
    have B4 := B3.trans (b4.mono B3.size)
    clear b4 B3
    go_wp2
    go_ret
    exact ⟨rfl, B4⟩
  have kp := M3.put
  unfold msgV at kp
  go_wp2_with fail
  refine kp.mono ?_
  rintro e w4 ⟨a4, c4, rfl, o4, b4⟩
  have B4 := B3.trans (b4.mono B3.size)
  have P4 := (b4.block _ z3).trans P3
  have z4 := Nat.lt_of_lt_of_le z3 b4.size
  have M4 := M3.up b4
  clear kp b4 B3 P3 z3 M3 m0 m1 m2 m3 m4 m5
  obtain ⟨m0, m1, m2, m3, m4, m5⟩ := six_cells P4
  have ko := PutOps_any w4 _ _ M4.ops M4.sm
  go_wp2_with fail
  refine ko.mono ?_
  rintro e w5 ⟨vo5, rfl, o5, b5⟩
  obtain ⟨a5, c5, rfl⟩ := own_len o5
  have B5 := B4.trans (b5.mono B4.size)
  have P5 := (b5.block _ z4).trans P4
  have z5 := Nat.lt_of_lt_of_le z4 b5.size
  have M5 := M4.up b5
  have o45 := o4.below b5
  clear ko b5 B4 P4 z4 M4 o4 m0 m1 m2 m3 m4 m5
  obtain ⟨m0, m1, m2, m3, m4, m5⟩ := six_cells P5
  have kr := PutResults_any w5 _ _ M5.res
  rw [M5.eq] at kr
  go_wp2_with fail
  refine kr.mono ?_
  rintro e w6 ⟨vr6, rfl, o6, b6⟩
  obtain ⟨a6, c6, rfl⟩ := own_len o6
  have B6 := B5.trans (b6.mono B5.size)
  have P6 := (b6.block _ z5).trans P5
  have o46 := o45.below b6
  have o56 := o5.below b6
  clear kr b6 B5 P5 z5 M5 o45 o5 m0 m1 m2 m3 m4 m5
  obtain ⟨m0, m1, m2, m3, m4, m5⟩ := six_cells P6
  by_cases h1 : 1 ≤ m.say.toNat
  case neg =>
    have e1 := head_no m (by unfold headOk; exact decide_eq_false (by omega))
    have j1 : ¬ (1 : Int) ≤ (m.say.toNat : Int) := by omega
    rw [e1]
    clear o46 o56 o6 P6 e1 h1
    simp only [List.length_nil]
    go_wp2
    go_ret
    exact ⟨rfl, B6⟩
  by_cases h2 : m.say.toNat ≤ 7
  case neg =>
    have e1 := head_no m (by unfold headOk; exact decide_eq_false (by omega))
    have j1 : (1 : Int) ≤ (m.say.toNat : Int) := by omega
    have j2 : ¬ (m.say.toNat : Int) ≤ 7 := by omega
    rw [e1]
    clear o46 o56 o6 P6 e1 h1 h2
    simp only [List.length_nil]
    go_wp2
    go_ret
    exact ⟨rfl, B6⟩
  by_cases h3 : m.src.toNat ≤ 3
  case neg =>
    have e1 := head_no m (by unfold headOk; exact decide_eq_false (by omega))
    have j1 : (1 : Int) ≤ (m.say.toNat : Int) := by omega
    have j2 : (m.say.toNat : Int) ≤ 7 := by omega
    have j3 : ¬ (m.src.toNat : Int) ≤ 3 := by omega
    rw [e1]
    clear o46 o56 o6 P6 e1 h1 h2 h3
    simp only [List.length_nil]
    go_wp2
    go_ret
    exact ⟨rfl, B6⟩
  by_cases h4 : m.dst.toNat ≤ 3
  case neg =>
    have e1 := head_no m (by unfold headOk; exact decide_eq_false (by omega))
    have j1 : (1 : Int) ≤ (m.say.toNat : Int) := by omega
    have j2 : (m.say.toNat : Int) ≤ 7 := by omega
    have j3 : (m.src.toNat : Int) ≤ 3 := by omega
    have j4 : ¬ (m.dst.toNat : Int) ≤ 3 := by omega
    rw [e1]
    clear o46 o56 o6 P6 e1 h1 h2 h3 h4
    simp only [List.length_nil]
    go_wp2
    go_ret
    exact ⟨rfl, B6⟩
  have hh : m.head = true := by show headOk _ _ _ = true; unfold headOk; exact decide_eq_true ⟨h1, h2, h3, h4⟩
  have j1 : (1 : Int) ≤ (m.say.toNat : Int) := by omega
  have j2 : (m.say.toNat : Int) ≤ 7 := by omega
  have j3 : (m.src.toNat : Int) ≤ 3 := by omega
  have j4 : (m.dst.toNat : Int) ≤ 3 := by omega
  clear h1 h2 h3 h4
  rcases putOps_cases m.ops with ⟨p1, p2, p3⟩ | ⟨p1, p2, p3⟩ | ⟨p1, p3⟩
  · rcases putRes_cases m.res with ⟨q1, q2, q3⟩ | ⟨q1, q2, q3⟩ | ⟨q1, q3⟩
    · have e1 : putM m = (encM m, 0) := by unfold putM; rw [if_pos (ok_of hh p1 q1), if_pos ⟨p2, q2⟩]
      rw [e1] at o46
      rw [p3] at o56
      rw [q3] at o6
      rw [e1, p3, q3]
      simp only at o46 o56 o6 ⊢
      have hl1 := encOps_small p1 p2
      have hl2 := encRes_small q1 q2.1 q2.2
      have hE : Hid (encM m = (headM m ++ be4 (encList encOp m.ops).length) ++ encList encOp m.ops ++ encList encRes m.res) := by show _ = _; unfold encM; simp
      obtain ⟨A, hA⟩ : ∃ A, A = encList encOp m.ops := ⟨_, rfl⟩
      obtain ⟨C, hC⟩ : ∃ C, C = encList encRes m.res := ⟨_, rfl⟩
      rw [← hA] at o56 hl1 hE ⊢
      rw [← hC] at o6 hl2 hE ⊢
      obtain ⟨n, hn⟩ : ∃ n, n = A.length := ⟨_, rfl⟩
      have HN : Hid (n = A.length) := hn
      rw [← hn] at hl1 hE ⊢
      clear p1 p2 p3 q1 q2 q3 e1 hA hC hn hh
      have hv := head_vals m n hl1
      have B6s := B6.size
      have o7 := bs_lit w6 (headM m ++ be4 n) _ hv 11 rfl (by decide)
      have b7 := below_one w6 (.cells #[.int .u8 (m.say.toNat : Int), .int .u8 (m.src.toNat : Int), .int .u8 (m.dst.toNat : Int), .int .u8 ((m.g.toNat : Int) / 16777216 % 256), .int .u8 ((m.g.toNat : Int) / 65536 % 256), .int .u8 ((m.g.toNat : Int) / 256 % 256), .int .u8 ((m.g.toNat : Int) % 256), .int .u8 ((n : Int) / 16777216), .int .u8 ((n : Int) / 65536), .int .u8 ((n : Int) / 256), .int .u8 ((n : Int) % 256)] 5)
      have B7 := B6.trans (b7.mono B6.size)
      have s56 := src_inP (in_own (o56.below b7))
      clear hv P6 B6 o56
      rw [← HN.out] at s56
      obtain ⟨W7, hW7⟩ : ∃ W7, W7 = w6.alloc (.cells #[.int .u8 (m.say.toNat : Int), .int .u8 (m.src.toNat : Int), .int .u8 (m.dst.toNat : Int), .int .u8 ((m.g.toNat : Int) / 16777216 % 256), .int .u8 ((m.g.toNat : Int) / 65536 % 256), .int .u8 ((m.g.toNat : Int) / 256 % 256), .int .u8 ((m.g.toNat : Int) % 256), .int .u8 ((n : Int) / 16777216), .int .u8 ((n : Int) / 65536), .int .u8 ((n : Int) / 256), .int .u8 ((n : Int) % 256)] 5) := ⟨_, rfl⟩
      have z67 : w6.heap.size ≤ W7.heap.size := by rw [hW7]; simp
      replace o7 : BsAt W7 w6.heap.size (.slice (some ⟨w6.heap.size, 0, none⟩) 11 11) (headM m ++ be4 n) := by rw [hW7]; exact o7
      rw [← hW7] at B7 s56
      have fin1 : ∀ v' W8, W8.ownsRow w6.heap.size 5 1 v' (11 + n) (bcells (headM m ++ be4 n) ++ bcells A) → W7.grownBy W8 (Value.ownBlock (.slice (some ⟨w6.heap.size, 0, none⟩) 11 11)) →
          (W8.ownsRow w6.heap.size 5 1 v' (11 + n) (bcells (headM m ++ be4 n ++ A)) ∧ Below w.heap.size w W8 ∧ w6.heap.size ≤ W8.heap.size ∧ BsAt W8 w3.heap.size (.slice a4 (encM m).length c4) (encM m)) ∧ Src Tryd.prog 1 28 (.slice a6 C.length c6) C.length (bcells C) W8 := by
        intro v' W8 ho hg
        have k0 : Below w6.heap.size w6 W7 := by rw [hW7]; exact below_one w6 _
        have k := k0.grown hg z67 (fun k hk => own_row_ge o7 k hk)
        have kb : Below w.heap.size w W8 := B7.grown hg (Nat.le_trans B6s z67) (fun k hk => Nat.le_trans B6s (own_row_ge o7 k hk))
        rw [bcells_app] 
        exact ⟨⟨ho, kb, Nat.le_trans z67 hg.size, o46.below k⟩, src_inP (in_own (o6.below k))⟩
      have fin2 : ∀ v' v2 W8 W9, W8.ownsRow w6.heap.size 5 1 v' (11 + n) (bcells (headM m ++ be4 n ++ A)) → Below w.heap.size w W8 → BsAt W8 w3.heap.size (.slice a4 (encM m).length c4) (encM m) → w6.heap.size ≤ W8.heap.size →
          W9.ownsRow w6.heap.size 5 1 v2 (11 + n + C.length) (bcells (headM m ++ be4 n ++ A) ++ bcells C) → W8.grownBy W9 v'.ownBlock →
          BsAt W9 w6.heap.size v2 (encM m) ∧ Below w.heap.size w W9 ∧ BsAt W9 w3.heap.size (.slice a4 (encM m).length c4) (encM m) := by
        intro v' v2 W8 W9 ho8 hb8 ha8 z8 ho hg
        refine ⟨?_, hb8.grown hg (Nat.le_trans B6s z8) (fun k hk => Nat.le_trans B6s (own_row_ge ho8 k hk)), ?_⟩
        · have hlen : (encM m).length = 11 + n + C.length := by rw [hE.out]; simp only [List.length_append, be4_len, ← HN.out]; rfl
          unfold BsAt
          rw [hlen, hE.out, bcells_app]
          exact ho
        · refine own_of_block ha8 (fun k hk => hg.block k ?_ (fun e => ?_))
          · exact (ha8.lt k hk).2
          · have h1 := own_row_ge ho8 k e.symm
            have h2 := (o46.lt k hk).2
            omega
      clear B7 o46 o6 b7
      subst hW7
      go_wp2_with (at_builtin; refine wpList_append_own_src _ rfl (.tmp 120) (.tmp 121) 28 28 rfl w6.heap.size 5 i0 (.int .u8 0) 1 1 Tryd.underlying28 hi hz0 hz1 hz2 rfl (by decide) _ 11 _ rfl o7 _ n _ rfl s56 (by unfold maxLen; omega) (by omega) z67 ?_; intro v8 w8 ho8 hg8 _; obtain ⟨⟨ho8', hb8, z8, ha8⟩, sC⟩ := fin1 v8 w8 ho8 hg8; obtain ⟨q8, r8, t8, rfl⟩ := own_slice ho8; go_wp2_with (at_builtin; refine wpList_append_own_src _ rfl (.tmp 122) (.tmp 123) 28 28 rfl w6.heap.size 5 i0 (.int .u8 0) 1 1 Tryd.underlying28 hi hz0 hz1 hz2 rfl (by decide) _ (11 + n) _ rfl ho8' _ C.length _ rfl sC (by unfold maxLen; omega) (by omega) z8 ?_; intro v9 w9 ho9 hg9 _; obtain ⟨o9, B9, ha9⟩ := fin2 _ v9 w8 w9 ho8' hb8 ha8 z8 ho9 hg9; obtain ⟨q9, r9, t9, rfl⟩ := own_slice o9))
      clear fin1 fin2 ho8 hg8 ho8' hb8 z8 ha8 sC ho9 hg9 s56 o7
      have ks := sameBytes_any w9 _ _ _ _ (encM m) (in_own ha9) (in_own o9)
      refine ks.mono ?_
      rintro e wx ⟨rfl, nx, rfl⟩
      have Bx := B9.trans ((below_drewN w9 nx).mono B9.size)
      clear ks B9 ha9 o9
      go_wp2
      go_ret
      exact ⟨rfl, Bx⟩
    · have e1 : putM m = ([], 3) := by unfold putM; rw [if_pos (ok_of hh p1 q1), if_neg (fun hf => q2 hf.2)]
      rw [e1, p3, q3]
      clear o46 o56 o6 P6 e1 p1 p2 p3 q1 q2 q3 hh
      simp only [List.length_nil]
      go_wp2
      go_ret
      exact ⟨rfl, B6⟩
    · have e1 : putM m = ([], 1) := put_one m 2 (by omega) (by show (putRes m.res).2 = 1; rw [q3])
      rw [e1, p3, q3]
      clear o46 o56 o6 P6 e1 p1 p2 p3 q1 q3 hh
      simp only [List.length_nil]
      go_wp2
      go_ret
      exact ⟨rfl, B6⟩
  · rcases putRes_cases m.res with ⟨q1, q2, q3⟩ | ⟨q1, q2, q3⟩ | ⟨q1, q3⟩
    · have e1 : putM m = ([], 3) := by unfold putM; rw [if_pos (ok_of hh p1 q1), if_neg (fun hf => p2 hf.1)]
      rw [e1, p3, q3]
      clear o46 o56 o6 P6 e1 p1 p2 p3 q1 q2 q3 hh
      simp only [List.length_nil]
      go_wp2
      go_ret
      exact ⟨rfl, B6⟩
    · have e1 : putM m = ([], 3) := by unfold putM; rw [if_pos (ok_of hh p1 q1), if_neg (fun hf => p2 hf.1)]
      rw [e1, p3, q3]
      clear o46 o56 o6 P6 e1 p1 p2 p3 q1 q2 q3 hh
      simp only [List.length_nil]
      go_wp2
      go_ret
      exact ⟨rfl, B6⟩
    · have e1 : putM m = ([], 1) := put_one m 2 (by omega) (by show (putRes m.res).2 = 1; rw [q3])
      rw [e1, p3, q3]
      clear o46 o56 o6 P6 e1 p1 p2 p3 q1 q3 hh
      simp only [List.length_nil]
      go_wp2
      go_ret
      exact ⟨rfl, B6⟩
  · have e1 : putM m = ([], 1) := put_one m 1 (by omega) (by show (putOps m.ops).2 = 1; rw [p3])
    rw [e1, p3]
    clear o46 o56 o6 P6 e1 p1 p3 hh
    simp only [List.length_nil]
    go_wp2
    go_ret
    exact ⟨rfl, B6⟩
end Go.Proofs.YtcgecdiaddcfkaaDoor
