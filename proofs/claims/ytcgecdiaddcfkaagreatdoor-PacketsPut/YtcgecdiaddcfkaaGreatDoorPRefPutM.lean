import Derived.Test.YtcgecdiaddcfkaaGreatDoorM18
import Derived.Test.YtcgecdiaddcfkaaGreatDoorM16
import Derived.Test.YtcgecdiaddcfkaaGreatDoorPHeadM
/- The walk of the document's Put. -/
set_option linter.unusedSimpArgs false
set_option linter.unusedVariables false
namespace Go.Proofs.YtcgecdiaddcfkaaGreatDoor
open Go.RowKit

theorem num_of (w : World) (n : Nat) (hn : n < 4294967296) :
    Calls Tryz.prog 35 #[.int .u32 (n : Int)] w fun e w' => ∃ v, e = .returned v ∧ BsAt w' w.heap.size v (be4 n) ∧ Below w.heap.size w w' := by
  have h := refNumber_any w (UInt32.ofNat n)
  rw [u32_nat hn] at h
  exact h
theorem put_few {m : MsgD} (hok : m.ok = true) : (m.ops.all opOk = true ∧ m.res.all resOk = true) := by
  unfold MsgD.ok at hok
  rw [Bool.and_eq_true, Bool.and_eq_true] at hok
  exact hok.2

set_option maxHeartbeats 4000000 in
set_option maxRecDepth 1000000 in
theorem refPut7_any (w : World) (vo vr : Value) (m : MsgD) (l : List ResP) (hm : MsgAt w w.heap.size vo vr m l) :
    Calls Tryz.prog 8 #[msgV m vo vr] w fun e w' => ∃ v, e = .returned (.tuple #[v, .int .i64 ((putM m).2 : Int)]) ∧ BsAt w' w.heap.size v (putM m).1 ∧ Below w.heap.size w w' := by
  obtain ⟨i0, hi, hz0, hz1, hz2⟩ := info_parts info_u8
  obtain ⟨ao, ca, bo, cb, rfl, rfl⟩ := hm.form
  unfold msgV
  have bs3 := three_lit m.say m.src m.dst
  obtain ⟨W1, hW1⟩ : ∃ W1, W1 = w.alloc (.cells #[.int .u8 (m.say.toNat : Int), .int .u8 (m.src.toNat : Int), .int .u8 (m.dst.toNat : Int), .int .u32 (m.g.toNat : Int), .slice ao m.ops.length ca, .slice bo l.length cb] 27) := ⟨_, rfl⟩
  have B1 : Below w.heap.size w W1 := by rw [hW1]; exact below_one w _
  have P1 : W1.heap[w.heap.size]? = some (.cells #[.int .u8 (m.say.toNat : Int), .int .u8 (m.src.toNat : Int), .int .u8 (m.dst.toNat : Int), .int .u32 (m.g.toNat : Int), .slice ao m.ops.length ca, .slice bo l.length cb] 27 (0, 0)) := by rw [hW1]; exact heap_alloc_new w _
  have z1 : w.heap.size < W1.heap.size := by rw [hW1]; simp
  have M1 := hm.up B1
  go_enter Tryz.func8, Tryz.ntmps8
  go_wp2_with fail
  rw [← hW1]
  clear hW1 hm
  obtain ⟨m0, m1, m2, m3, m4, m5⟩ := six_cells P1
  have kc := refCheck7_any W1 _ _ m l M1
  unfold msgV at kc
  go_wp2_with fail
  refine kc.mono ?_
  rintro e w2 ⟨rfl, b2⟩
  have B2 := B1.trans (b2.mono B1.size)
  have P2 := (b2.block _ z1).trans P1
  have z2 := Nat.lt_of_lt_of_le z1 b2.size
  have M2 := M1.up b2
  clear kc b2 B1 P1 z1 M1 m0 m1 m2 m3 m4 m5
  obtain ⟨m0, m1, m2, m3, m4, m5⟩ := six_cells P2
  have hpn : Hid (m.ok = false → putM m = ([], 1)) := fun h => by unfold putM; rw [if_neg (by rw [h]; decide)]
  have hpy : Hid (m.ok = true → (m.ops.all opOk = true ∧ m.res.all resOk = true) ∧ putM m = if fewM m.ops m.res then (encM m, 0) else ([], 3)) := fun h => ⟨put_few h, by unfold putM; rw [if_pos h]⟩
  generalize m.ok = ok at *
  cases ok with
  | false =>
    have HE1 : Hid _ := hpn.out rfl
    clear hpn hpy P2 z2 M2 m0 m1 m2 m3 m4 m5 bs3
    go_wp2
    go_ret2
    rw [HE1.out]
    exact ⟨_, rfl, BsAt_nil _ _, B2⟩
  | true =>
    have HP : Hid _ := hpy.out rfl
    clear hpn hpy
    have ko := refPutOps_any w2 _ _ M2.ops M2.sm
    go_wp2_with fail
    refine ko.mono ?_
    rintro e w5 ⟨vo5, rfl, o5, b5⟩
    obtain ⟨a5, c5, rfl⟩ := own_len o5
    have B5 := B2.trans (b5.mono B2.size)
    have P5 := (b5.block _ z2).trans P2
    have z5 := Nat.lt_of_lt_of_le z2 b5.size
    have M5 := M2.up b5
    clear ko b5 B2 P2 z2 M2 m0 m1 m2 m3 m4 m5
    obtain ⟨m0, m1, m2, m3, m4, m5⟩ := six_cells P5
    have kr := refPutResults_any w5 _ _ M5.res
    rw [M5.eq] at kr
    go_wp2_with fail
    refine kr.mono ?_
    rintro e w6 ⟨vr6, rfl, o6, b6⟩
    obtain ⟨a6, c6, rfl⟩ := own_len o6
    have B6 := B5.trans (b6.mono B5.size)
    have P6 := (b6.block _ z5).trans P5
    have z6 := Nat.lt_of_lt_of_le z5 b6.size
    have o56 := o5.below b6
    clear kr b6 B5 P5 z5 M5 o5 m0 m1 m2 m3 m4 m5
    obtain ⟨⟨h1, h2⟩, h3⟩ := HP.out
    clear HP
    rcases putOps_cases m.ops with ⟨p1, p2, p3⟩ | ⟨p1, p2, p3⟩ | ⟨p1, p3⟩
    · rcases putRes_cases m.res with ⟨q1, q2, q3⟩ | ⟨q1, q2, q3⟩ | ⟨q1, q3⟩
      · have HE1 : Hid (putM m = (encM m, 0)) := by show _ = _; rw [h3, if_pos ⟨p2, q2⟩]
        rw [p3] at o56
        rw [q3] at o6
        rw [p3, q3]
        simp only at o56 o6 ⊢
        have hl1 := encOps_small p1 p2
        have hl2 := encRes_small q1 q2.1 q2.2
        have hE : Hid (encM m = (headM m ++ be4 (encList encOp m.ops).length) ++ encList encOp m.ops ++ encList encRes m.res) := by show _ = _; unfold encM; simp
        obtain ⟨A, hA⟩ : ∃ A, A = encList encOp m.ops := ⟨_, rfl⟩
        obtain ⟨C, hC⟩ : ∃ C, C = encList encRes m.res := ⟨_, rfl⟩
        rw [← hA] at o56 hl1 hE ⊢
        rw [← hC] at o6 hl2 hE ⊢
        obtain ⟨n, hn⟩ : ∃ n, n = A.length := ⟨_, rfl⟩
        obtain ⟨k, hk⟩ : ∃ k, k = C.length := ⟨_, rfl⟩
        have HN : Hid (n = A.length) := hn
        have HK : Hid (k = C.length) := hk
        have sA : ∀ W, Below w6.heap.size w6 W → Src Tryz.prog 1 30 (.slice a5 n c5) n (bcells A) W := fun W hW => by rw [hn]; exact src_inP (in_own (o56.below hW))
        have sC : ∀ W, Below w6.heap.size w6 W → Src Tryz.prog 1 30 (.slice a6 k c6) k (bcells C) W := fun W hW => by rw [hk]; exact src_inP (in_own (o6.below hW))
        rw [← hn] at hl1 hE ⊢
        rw [← hk] at hl2 ⊢
        clear p1 p2 p3 q1 q2 q3 h1 h2 h3 hA hC hn hk o56 o6
        have hn9 : n < 4294967296 := by omega
        have hcells : ∀ W, Below w6.heap.size w6 W → W.cell? ⟨w.heap.size, 0, none⟩ = some (.int .u8 (m.say.toNat : Int)) ∧ W.cell? ⟨w.heap.size, 1, none⟩ = some (.int .u8 (m.src.toNat : Int)) ∧ W.cell? ⟨w.heap.size, 2, none⟩ = some (.int .u8 (m.dst.toNat : Int)) ∧ W.cell? ⟨w.heap.size, 3, none⟩ = some (.int .u32 (m.g.toNat : Int)) := fun W hb => by
          obtain ⟨t0, t1, t2, t3, -, -⟩ := six_cells ((hb.block _ z6).trans P6)
          exact ⟨t0, t1, t2, t3⟩
        have fin : ∀ w9 a9 c9, BsAt w9 w6.heap.size (.slice a9 7 c9) (headM m) → Below w6.heap.size w6 w9 → ∀ wn, Below w9.heap.size w9 wn → ∀ v10 w10, w10.ownsRow w6.heap.size 5 1 v10 (7 + 4) (bcells (headM m) ++ bcells (be4 n)) → wn.grownBy w10 (Value.ownBlock (.slice a9 7 c9)) →
            BsAt w10 w6.heap.size v10 (headM m ++ be4 n) ∧ Below w6.heap.size w6 w10 ∧ Src Tryz.prog 1 30 (.slice a5 n c5) n (bcells A) w10 ∧ w6.heap.size ≤ w10.heap.size ∧
            ∀ v11 w11, w11.ownsRow w6.heap.size 5 1 v11 (11 + n) (bcells (headM m ++ be4 n) ++ bcells A) → w10.grownBy w11 v10.ownBlock →
              w11.ownsRow w6.heap.size 5 1 v11 (11 + n) (bcells (headM m ++ be4 n ++ A)) ∧ Src Tryz.prog 1 30 (.slice a6 k c6) k (bcells C) w11 ∧ w6.heap.size ≤ w11.heap.size ∧
              ∀ v12 w12, w12.ownsRow w6.heap.size 5 1 v12 (11 + n + k) (bcells (headM m ++ be4 n ++ A) ++ bcells C) → w11.grownBy w12 v11.ownBlock → BsAt w12 w.heap.size v12 (encM m) ∧ Below w.heap.size w w12 := by
          intro w9 a9 c9 q7 b9 wn bn v10 w10 ho10 hg10
          have bN := b9.trans (bn.mono b9.size)
          obtain ⟨q10, b10⟩ := bs_next (q7.below bn) bN bN.size ho10 hg10
          refine ⟨q10, b10, sA w10 b10, b10.size, fun v11 w11 ho11 hg11 => ?_⟩
          have hNN := HN.out
          have hKK := HK.out
          obtain ⟨q11, b11⟩ := bs_next (news := A) q10 b10 b10.size (by rw [List.length_append, show (headM m).length = 7 from rfl, be4_len, ← hNN]; exact ho11) hg11
          refine ⟨by rw [bcells_app]; exact ho11, sC w11 b11, b11.size, fun v12 w12 ho12 hg12 => ?_⟩
          obtain ⟨q12, b12⟩ := bs_next (news := C) q11 b11 b11.size (by rw [List.length_append, List.length_append, show (headM m).length = 7 from rfl, be4_len, ← hNN, ← hKK]; exact ho12) hg12
          rw [← hE.out] at q12
          exact ⟨q12.mono B6.size, B6.trans (b12.mono B6.size)⟩
        clear sA sC B6 P6 z6 hE
        have b0 : Below w6.heap.size w6 w6.drew := ⟨rfl, rfl, rfl, Nat.le_refl _, fun _ _ => rfl⟩
        have z0 : w6.heap.size ≤ w6.drew.heap.size := Nat.le_refl _
        go_wp2_with fail
        refine wp_region_noPanic ?_
        refine wp_region_held_drew (S := fun W => W.cell? ⟨w.heap.size, 0, none⟩ = some (.int .u8 (m.say.toNat : Int)) ∧ W.cell? ⟨w.heap.size, 1, none⟩ = some (.int .u8 (m.src.toNat : Int)) ∧ W.cell? ⟨w.heap.size, 2, none⟩ = some (.int .u8 (m.dst.toNat : Int)) ∧ W.cell? ⟨w.heap.size, 3, none⟩ = some (.int .u32 (m.g.toNat : Int))) (by kernel_rfl) (hcells _ b0) (fun hHeld => ?_)
        refine wpAnyH_take (i := 0) (oi := { dst := some 30, op := Go.Op.fieldAddr 27 (Go.Operand.tmp 1) 0, type := 0, pos := _, after := #[], guard := none }) (v := .pointer (some ⟨w.heap.size, 0, none⟩)) rfl (by kernel_rfl) (by kernel_rfl) (by kernel_rfl) (fun _ _ _ h => h) (Or.inl ⟨by rfl, fun W hW => by go_simp⟩) (by assumption) ?_
        try simp only [Act.put, List.setIfInBounds_toArray, List.set_cons_zero, List.set_cons_succ]
        refine wpAnyH_take (i := 1) (oi := { dst := some 31, op := Go.Op.load 22 (Go.Operand.tmp 30), type := 22, pos := _, after := #[{ on := 0, ground := Go.Ground.data }], guard := none }) (v := .int .u8 (m.say.toNat : Int)) rfl (by kernel_rfl) (by kernel_rfl) (by kernel_rfl) (fun _ _ _ h => h) (Or.inl ⟨by rfl, fun W hW => by obtain ⟨c0, c1, c2, c3⟩ := hW; go_simp⟩) (by assumption) ?_
        try simp only [Act.put, List.setIfInBounds_toArray, List.set_cons_zero, List.set_cons_succ]
        refine wpAnyH_take (i := 2) (oi := { dst := some 32, op := Go.Op.fieldAddr 27 (Go.Operand.tmp 1) 1, type := 0, pos := _, after := #[], guard := none }) (v := .pointer (some ⟨w.heap.size, 1, none⟩)) rfl (by kernel_rfl) (by kernel_rfl) (by kernel_rfl) (fun _ _ _ h => h) (Or.inl ⟨by rfl, fun W hW => by go_simp⟩) (by assumption) ?_
        try simp only [Act.put, List.setIfInBounds_toArray, List.set_cons_zero, List.set_cons_succ]
        refine wpAnyH_take (i := 3) (oi := { dst := some 33, op := Go.Op.load 5 (Go.Operand.tmp 32), type := 5, pos := _, after := #[{ on := 2, ground := Go.Ground.data }], guard := none }) (v := .int .u8 (m.src.toNat : Int)) rfl (by kernel_rfl) (by kernel_rfl) (by kernel_rfl) (fun _ _ _ h => h) (Or.inl ⟨by rfl, fun W hW => by obtain ⟨c0, c1, c2, c3⟩ := hW; go_simp⟩) (by assumption) ?_
        try simp only [Act.put, List.setIfInBounds_toArray, List.set_cons_zero, List.set_cons_succ]
        refine wpAnyH_take (i := 4) (oi := { dst := some 34, op := Go.Op.fieldAddr 27 (Go.Operand.tmp 1) 2, type := 0, pos := _, after := #[], guard := none }) (v := .pointer (some ⟨w.heap.size, 2, none⟩)) rfl (by kernel_rfl) (by kernel_rfl) (by kernel_rfl) (fun _ _ _ h => h) (Or.inl ⟨by rfl, fun W hW => by go_simp⟩) (by assumption) ?_
        try simp only [Act.put, List.setIfInBounds_toArray, List.set_cons_zero, List.set_cons_succ]
        refine wpAnyH_take (i := 5) (oi := { dst := some 35, op := Go.Op.load 5 (Go.Operand.tmp 34), type := 5, pos := _, after := #[{ on := 4, ground := Go.Ground.data }], guard := none }) (v := .int .u8 (m.dst.toNat : Int)) rfl (by kernel_rfl) (by kernel_rfl) (by kernel_rfl) (fun _ _ _ h => h) (Or.inl ⟨by rfl, fun W hW => by obtain ⟨c0, c1, c2, c3⟩ := hW; go_simp⟩) (by assumption) ?_
        try simp only [Act.put, List.setIfInBounds_toArray, List.set_cons_zero, List.set_cons_succ]
        refine wpAnyH_take (i := 7) (oi := { dst := some 37, op := Go.Op.fieldAddr 27 (Go.Operand.tmp 1) 3, type := 0, pos := _, after := #[], guard := none }) (v := .pointer (some ⟨w.heap.size, 3, none⟩)) rfl (by kernel_rfl) (by kernel_rfl) (by kernel_rfl) (fun _ _ _ h => h) (Or.inl ⟨by rfl, fun W hW => by go_simp⟩) (by assumption) ?_
        try simp only [Act.put, List.setIfInBounds_toArray, List.set_cons_zero, List.set_cons_succ]
        refine wpAnyH_take (i := 8) (oi := { dst := some 38, op := Go.Op.load 23 (Go.Operand.tmp 37), type := 23, pos := _, after := #[{ on := 7, ground := Go.Ground.data }], guard := none }) (v := .int .u32 (m.g.toNat : Int)) rfl (by kernel_rfl) (by kernel_rfl) (by kernel_rfl) (fun _ _ _ h => h) (Or.inl ⟨by rfl, fun W hW => by obtain ⟨c0, c1, c2, c3⟩ := hW; go_simp⟩) (by assumption) ?_
        try simp only [Act.put, List.setIfInBounds_toArray, List.set_cons_zero, List.set_cons_succ]
        refine wpAnyH_ready (rs := [6, 9]) (by kernel_rfl) (by simp) ?_
        refine AllReadyH.cons (o := { dst := some 36, op := Go.Op.buildSlice 30 3 #[(0, Go.Operand.tmp 31), (1, Go.Operand.tmp 33), (2, Go.Operand.tmp 35)], type := 30, pos := _, after := #[{ on := 1, ground := Go.Ground.data }, { on := 3, ground := Go.Ground.data }, { on := 5, ground := Go.Ground.data }], guard := none }) rfl (fun K hK => ?_) (AllReadyH.cons (o := { dst := some 39, op := Go.Op.call { callee := Go.Callee.value (Go.Operand.func 35), args := #[Go.Operand.tmp 38], argTypes := #[23] }, type := 30, pos := _, after := #[{ on := 8, ground := Go.Ground.data }], guard := none }) rfl (fun K hK => ?_) AllReadyH.nil)
        · refine step_buildSlice rfl 30 5 3 #[(0, .tmp 31), (1, .tmp 33), (2, .tmp 35)] rfl #[.int .u8 (m.say.toNat : Int), .int .u8 (m.src.toNat : Int), .int .u8 (m.dst.toNat : Int)] #[(0, .int .u8 (m.say.toNat : Int)), (1, .int .u8 (m.src.toNat : Int)), (2, .int .u8 (m.dst.toNat : Int))] (by simp only [List.map_toArray, List.map_cons, List.map_nil]; rfl) (fun W => bs3 W) ?_
          have o3 := (bs_lit w6.drew [m.say, m.src, m.dst] [.int .u8 (m.say.toNat : Int), .int .u8 (m.src.toNat : Int), .int .u8 (m.dst.toNat : Int)] rfl 3 rfl (by decide)).mono z0
          have b3 := b0.alloc z0 (.cells #[.int .u8 (m.say.toNat : Int), .int .u8 (m.src.toNat : Int), .int .u8 (m.dst.toNat : Int)] 5)
          have z3 := Nat.le_trans z0 (below_one w6.drew (.cells #[.int .u8 (m.say.toNat : Int), .int .u8 (m.src.toNat : Int), .int .u8 (m.dst.toNat : Int)] 5)).size
          generalize w6.drew.alloc (.cells #[.int .u8 (m.say.toNat : Int), .int .u8 (m.src.toNat : Int), .int .u8 (m.dst.toNat : Int)] 5) = wb at *
          refine hK.out _ _ (hcells _ b3) (fun hHeld => ?_)
          clear hK K
          try simp only [Act.put, List.setIfInBounds_toArray, List.set_cons_zero, List.set_cons_succ]
          refine wpAnyH_ready (rs := [9]) (by kernel_rfl) (by simp) ?_
          refine AllReadyH.cons (o := { dst := some 39, op := Go.Op.call { callee := Go.Callee.value (Go.Operand.func 35), args := #[Go.Operand.tmp 38], argTypes := #[23] }, type := 30, pos := _, after := #[{ on := 8, ground := Go.Ground.data }], guard := none }) rfl (fun K hK => ?_) AllReadyH.nil
          go_simp
          refine (refNumber_any wb m.g).mono ?_
          rintro e wf ⟨vf, rfl, o4, bf⟩
          obtain ⟨f4, c4, rfl⟩ := own_len (n := 4) o4
          have b4 := b3.trans (bf.mono z3)
          have z4 := Nat.le_trans z3 bf.size
          replace o4 := o4.mono z3
          have o3' := o3.below bf
          go_wp2_with fail
          refine hK.out _ _ (hcells _ b4) (fun hHeld => ?_)
          clear hK K
          try simp only [Act.put, List.setIfInBounds_toArray, List.set_cons_zero, List.set_cons_succ]
          refine wpAnyH_ready (rs := [10]) (by kernel_rfl) (by simp) ?_
          refine AllReadyH.cons (o := { dst := some 40, op := Go.Op.call { callee := Go.Callee.builtin Go.Builtin.append, args := #[Go.Operand.tmp 36, Go.Operand.tmp 39], argTypes := #[30, 30] }, type := 30, pos := _, after := #[{ on := 6, ground := Go.Ground.data }, { on := 9, ground := Go.Ground.data }, { on := 9, ground := Go.Ground.chain }], guard := none }) rfl (fun K hK => ?_) AllReadyH.nil
          refine step_append_src rfl (.tmp 36) (.tmp 39) 30 rfl w6.heap.size 5 i0 (.int .u8 0) 1 1 Tryz.underlying30 hi hz0 hz1 hz2 rfl (by decide) _ 3 _ rfl o3' _ 4 _ rfl (src_inP (in_own o4)) (by unfold maxLen; omega) (by omega) z4 ?_
          intro v' w9 ho9 hg9 hl9
          obtain ⟨q9, b9⟩ := bs_next o3' b4 z4 ho9 hg9
          obtain ⟨a9, c9, rfl⟩ := own_len (n := 7) ho9
          refine hK.out _ _ (hcells _ b9) (fun hHeld => ?_)
          clear hK K
          try simp only [Act.put, List.setIfInBounds_toArray, List.set_cons_zero, List.set_cons_succ]
          refine wpAnyH_take (i := 11) (oi := { dst := some 8, op := Go.Op.assign (Go.Operand.tmp 40), type := 30, pos := _, after := #[{ on := 10, ground := Go.Ground.data }, { on := 10, ground := Go.Ground.chain }, { on := 0, ground := Go.Ground.phase }, { on := 1, ground := Go.Ground.phase }, { on := 2, ground := Go.Ground.phase }, { on := 3, ground := Go.Ground.phase }, { on := 4, ground := Go.Ground.phase }, { on := 5, ground := Go.Ground.phase }, { on := 6, ground := Go.Ground.phase }, { on := 7, ground := Go.Ground.phase }, { on := 8, ground := Go.Ground.phase }, { on := 9, ground := Go.Ground.phase }, { on := 10, ground := Go.Ground.phase }], guard := none }) (v := .slice a9 7 c9) rfl (by kernel_rfl) (by kernel_rfl) (by kernel_rfl) (fun _ _ _ h => h) (Or.inl ⟨by rfl, fun W hW => by go_simp⟩) (by assumption) ?_
          try simp only [Act.put, List.setIfInBounds_toArray, List.set_cons_zero, List.set_cons_succ]
          refine wpAnyH_done (by kernel_rfl) ?_ _
          refine NoPanic.normal ?_
          have q7 : BsAt w9 w6.heap.size (.slice a9 7 c9) (headM m) := q9
          have kn := num_of w9 n hn9
          have fin10 := fin w9 a9 c9 q7 b9
          clear hHeld hcells q9 fin ho9 hg9 hl9
          go_wp2_with fail
          refine kn.mono ?_
          rintro e wn ⟨vn, rfl, on, bn⟩
          obtain ⟨an, cn, rfl⟩ := own_len (n := 4) on
          have bN := b9.trans (bn.mono b9.size)
          have qN := q7.below bn
          have sN := src_inP (in_own on)
          have zN := bN.size
          have f10 := fin10 wn bn
          clear kn bn fin10 q7 b9
          go_wp2_with (at_builtin; refine wpList_append_own_src _ rfl (.tmp 41) (.tmp 45) 30 30 rfl w6.heap.size 5 i0 (.int .u8 0) 1 1 Tryz.underlying30 hi hz0 hz1 hz2 rfl (by decide) _ 7 _ rfl qN _ 4 _ rfl sN (by unfold maxLen; omega) (by omega) zN ?_; intro v10 w10 ho10 hg10 _; obtain ⟨q10, b10, s10, z10, F10⟩ := f10 v10 w10 ho10 hg10; obtain ⟨a10, c10, rfl⟩ := own_len (n := 11) ho10; go_wp2_with (at_builtin; refine wpList_append_own_src _ rfl (.tmp 47) (.tmp 48) 30 30 rfl w6.heap.size 5 i0 (.int .u8 0) 1 1 Tryz.underlying30 hi hz0 hz1 hz2 rfl (by decide) _ 11 _ rfl q10 _ n _ rfl s10 (by unfold maxLen; omega) (by omega) z10 ?_; intro v11 w11 ho11 hg11 _; obtain ⟨q11, s11, z11, F11⟩ := F10 v11 w11 ho11 hg11; obtain ⟨a11, c11, rfl⟩ := own_len ho11; go_wp2_with (at_builtin; refine wpList_append_own_src _ rfl (.tmp 50) (.tmp 51) 30 30 rfl w6.heap.size 5 i0 (.int .u8 0) 1 1 Tryz.underlying30 hi hz0 hz1 hz2 rfl (by decide) _ (11 + n) _ rfl q11 _ k _ rfl s11 (by unfold maxLen; omega) (by omega) z11 ?_; intro v12 w12 ho12 hg12 _; have R := F11 v12 w12 ho12 hg12; obtain ⟨a12, c12, rfl⟩ := own_len ho12)))
          go_ret2
          rw [HE1.out]
          exact ⟨_, rfl, R⟩
        · go_simp
          refine (refNumber_any w6.drew m.g).mono ?_
          rintro e wf ⟨vf, rfl, o4, bf⟩
          obtain ⟨f4, c4, rfl⟩ := own_len (n := 4) o4
          have b4 := b0.trans (bf.mono z0)
          have z4 := Nat.le_trans z0 bf.size
          replace o4 := o4.mono z0
          go_wp2_with fail
          refine hK.out _ _ (hcells _ b4) (fun hHeld => ?_)
          clear hK K
          try simp only [Act.put, List.setIfInBounds_toArray, List.set_cons_zero, List.set_cons_succ]
          refine wpAnyH_ready (rs := [6]) (by kernel_rfl) (by simp) ?_
          refine AllReadyH.cons (o := { dst := some 36, op := Go.Op.buildSlice 30 3 #[(0, Go.Operand.tmp 31), (1, Go.Operand.tmp 33), (2, Go.Operand.tmp 35)], type := 30, pos := _, after := #[{ on := 1, ground := Go.Ground.data }, { on := 3, ground := Go.Ground.data }, { on := 5, ground := Go.Ground.data }], guard := none }) rfl (fun K hK => ?_) AllReadyH.nil
          refine step_buildSlice rfl 30 5 3 #[(0, .tmp 31), (1, .tmp 33), (2, .tmp 35)] rfl #[.int .u8 (m.say.toNat : Int), .int .u8 (m.src.toNat : Int), .int .u8 (m.dst.toNat : Int)] #[(0, .int .u8 (m.say.toNat : Int)), (1, .int .u8 (m.src.toNat : Int)), (2, .int .u8 (m.dst.toNat : Int))] (by simp only [List.map_toArray, List.map_cons, List.map_nil]; rfl) (fun W => bs3 W) ?_
          have o3 := (bs_lit wf [m.say, m.src, m.dst] [.int .u8 (m.say.toNat : Int), .int .u8 (m.src.toNat : Int), .int .u8 (m.dst.toNat : Int)] rfl 3 rfl (by decide)).mono z4
          have b3 := b4.alloc z4 (.cells #[.int .u8 (m.say.toNat : Int), .int .u8 (m.src.toNat : Int), .int .u8 (m.dst.toNat : Int)] 5)
          have z3 := Nat.le_trans z4 (below_one wf (.cells #[.int .u8 (m.say.toNat : Int), .int .u8 (m.src.toNat : Int), .int .u8 (m.dst.toNat : Int)] 5)).size
          have o4' := o4.below (below_one wf (.cells #[.int .u8 (m.say.toNat : Int), .int .u8 (m.src.toNat : Int), .int .u8 (m.dst.toNat : Int)] 5))
          generalize wf.alloc (.cells #[.int .u8 (m.say.toNat : Int), .int .u8 (m.src.toNat : Int), .int .u8 (m.dst.toNat : Int)] 5) = wb at *
          refine hK.out _ _ (hcells _ b3) (fun hHeld => ?_)
          clear hK K
          try simp only [Act.put, List.setIfInBounds_toArray, List.set_cons_zero, List.set_cons_succ]
          refine wpAnyH_ready (rs := [10]) (by kernel_rfl) (by simp) ?_
          refine AllReadyH.cons (o := { dst := some 40, op := Go.Op.call { callee := Go.Callee.builtin Go.Builtin.append, args := #[Go.Operand.tmp 36, Go.Operand.tmp 39], argTypes := #[30, 30] }, type := 30, pos := _, after := #[{ on := 6, ground := Go.Ground.data }, { on := 9, ground := Go.Ground.data }, { on := 9, ground := Go.Ground.chain }], guard := none }) rfl (fun K hK => ?_) AllReadyH.nil
          refine step_append_src rfl (.tmp 36) (.tmp 39) 30 rfl w6.heap.size 5 i0 (.int .u8 0) 1 1 Tryz.underlying30 hi hz0 hz1 hz2 rfl (by decide) _ 3 _ rfl o3 _ 4 _ rfl (src_inP (in_own o4')) (by unfold maxLen; omega) (by omega) z3 ?_
          intro v' w9 ho9 hg9 hl9
          obtain ⟨q9, b9⟩ := bs_next o3 b3 z3 ho9 hg9
          obtain ⟨a9, c9, rfl⟩ := own_len (n := 7) ho9
          refine hK.out _ _ (hcells _ b9) (fun hHeld => ?_)
          clear hK K
          try simp only [Act.put, List.setIfInBounds_toArray, List.set_cons_zero, List.set_cons_succ]
          refine wpAnyH_take (i := 11) (oi := { dst := some 8, op := Go.Op.assign (Go.Operand.tmp 40), type := 30, pos := _, after := #[{ on := 10, ground := Go.Ground.data }, { on := 10, ground := Go.Ground.chain }, { on := 0, ground := Go.Ground.phase }, { on := 1, ground := Go.Ground.phase }, { on := 2, ground := Go.Ground.phase }, { on := 3, ground := Go.Ground.phase }, { on := 4, ground := Go.Ground.phase }, { on := 5, ground := Go.Ground.phase }, { on := 6, ground := Go.Ground.phase }, { on := 7, ground := Go.Ground.phase }, { on := 8, ground := Go.Ground.phase }, { on := 9, ground := Go.Ground.phase }, { on := 10, ground := Go.Ground.phase }], guard := none }) (v := .slice a9 7 c9) rfl (by kernel_rfl) (by kernel_rfl) (by kernel_rfl) (fun _ _ _ h => h) (Or.inl ⟨by rfl, fun W hW => by go_simp⟩) (by assumption) ?_
          try simp only [Act.put, List.setIfInBounds_toArray, List.set_cons_zero, List.set_cons_succ]
          refine wpAnyH_done (by kernel_rfl) ?_ _
          refine NoPanic.normal ?_
          have q7 : BsAt w9 w6.heap.size (.slice a9 7 c9) (headM m) := q9
          have kn := num_of w9 n hn9
          have fin10 := fin w9 a9 c9 q7 b9
          clear hHeld hcells q9 fin ho9 hg9 hl9
          go_wp2_with fail
          refine kn.mono ?_
          rintro e wn ⟨vn, rfl, on, bn⟩
          obtain ⟨an, cn, rfl⟩ := own_len (n := 4) on
          have bN := b9.trans (bn.mono b9.size)
          have qN := q7.below bn
          have sN := src_inP (in_own on)
          have zN := bN.size
          have f10 := fin10 wn bn
          clear kn bn fin10 q7 b9
          go_wp2_with (at_builtin; refine wpList_append_own_src _ rfl (.tmp 41) (.tmp 45) 30 30 rfl w6.heap.size 5 i0 (.int .u8 0) 1 1 Tryz.underlying30 hi hz0 hz1 hz2 rfl (by decide) _ 7 _ rfl qN _ 4 _ rfl sN (by unfold maxLen; omega) (by omega) zN ?_; intro v10 w10 ho10 hg10 _; obtain ⟨q10, b10, s10, z10, F10⟩ := f10 v10 w10 ho10 hg10; obtain ⟨a10, c10, rfl⟩ := own_len (n := 11) ho10; go_wp2_with (at_builtin; refine wpList_append_own_src _ rfl (.tmp 47) (.tmp 48) 30 30 rfl w6.heap.size 5 i0 (.int .u8 0) 1 1 Tryz.underlying30 hi hz0 hz1 hz2 rfl (by decide) _ 11 _ rfl q10 _ n _ rfl s10 (by unfold maxLen; omega) (by omega) z10 ?_; intro v11 w11 ho11 hg11 _; obtain ⟨q11, s11, z11, F11⟩ := F10 v11 w11 ho11 hg11; obtain ⟨a11, c11, rfl⟩ := own_len ho11; go_wp2_with (at_builtin; refine wpList_append_own_src _ rfl (.tmp 50) (.tmp 51) 30 30 rfl w6.heap.size 5 i0 (.int .u8 0) 1 1 Tryz.underlying30 hi hz0 hz1 hz2 rfl (by decide) _ (11 + n) _ rfl q11 _ k _ rfl s11 (by unfold maxLen; omega) (by omega) z11 ?_; intro v12 w12 ho12 hg12 _; have R := F11 v12 w12 ho12 hg12; obtain ⟨a12, c12, rfl⟩ := own_len ho12)))
          go_ret2
          rw [HE1.out]
          exact ⟨_, rfl, R⟩
      · have HE1 : Hid (putM m = ([], 3)) := by show _ = _; rw [h3, if_neg (fun hf => q2 hf.2)]
        rw [p3, q3]
        clear o56 o6 P6 p1 p2 p3 q1 q2 q3 h1 h2 h3 bs3
        simp only [List.length_nil]
        go_wp2
        go_ret2
        rw [HE1.out]
        exact ⟨_, rfl, BsAt_nil _ _, B6⟩
      · rw [h2] at q1; cases q1
    · have HE1 : Hid (putM m = ([], 3)) := by show _ = _; rw [h3, if_neg (fun hf => p2 hf.1)]
      rw [p3]
      simp only
      clear o56 o6 P6 p1 p2 p3 h1 h2 h3 bs3
      simp only [List.length_nil]
      go_wp2
      go_ret2
      rw [HE1.out]
      exact ⟨_, rfl, BsAt_nil _ _, B6⟩
    · rw [h1] at p1; cases p1
end Go.Proofs.YtcgecdiaddcfkaaGreatDoor
