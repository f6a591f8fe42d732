/- The walk of PacketsUnlike. -/
import Derived.Test.YtcgecdiaddcfkaaDoorPSameM
import Derived.Test.YtcgecdiaddcfkaaDoorPBack
import Derived.Test.YtcgecdiaddcfkaaDoorPSteps
set_option linter.unusedSimpArgs false
set_option linter.unusedVariables false
namespace Go.Proofs.YtcgecdiaddcfkaaDoor
open Go.RowKit

set_option maxHeartbeats 3000000 in
set_option maxRecDepth 1000000 in
theorem unlike_walk (w : World) (vo vr uo ur : Value) (m : MsgD) (l : List ResP) (n : MsgD) (k : List ResP) (hm : MsgAt w w.heap.size vo vr m l) (hn : MsgAt w w.heap.size uo ur n k) (htab : Tab w) :
    Calls Tryd.prog 6 #[msgV m vo vr, msgV n uo ur] w fun e w' => e = .returned (.bool true) ∧ Below w.heap.size w w' := by
  obtain ⟨ao, ca, bo, cb, rfl, rfl⟩ := hm.form
  obtain ⟨co, cc, eo, ce, rfl, rfl⟩ := hn.form
  unfold msgV
  obtain ⟨w1, hw1⟩ : ∃ w1, w1 = (w.alloc (.cells #[.int .u8 (m.say.toNat : Int), .int .u8 (m.src.toNat : Int), .int .u8 (m.dst.toNat : Int), .int .u32 (m.g.toNat : Int), .slice ao m.ops.length ca, .slice bo l.length cb] 27)).alloc (.cells #[.int .u8 (n.say.toNat : Int), .int .u8 (n.src.toNat : Int), .int .u8 (n.dst.toNat : Int), .int .u32 (n.g.toNat : Int), .slice co n.ops.length cc, .slice eo k.length ce] 27) := ⟨_, rfl⟩
  have B1 : Below w.heap.size w w1 := by rw [hw1]; exact ((Below.refl _ _).alloc (Nat.le_refl _) _).alloc (by simp) _
  have PX : w1.heap[w.heap.size]? = some (.cells #[.int .u8 (m.say.toNat : Int), .int .u8 (m.src.toNat : Int), .int .u8 (m.dst.toNat : Int), .int .u32 (m.g.toNat : Int), .slice ao m.ops.length ca, .slice bo l.length cb] 27 (0, 0)) := by rw [hw1]; exact alloc_block (heap_alloc_new w _) _
  have PY : w1.heap[w.heap.size + 1]? = some (.cells #[.int .u8 (n.say.toNat : Int), .int .u8 (n.src.toNat : Int), .int .u8 (n.dst.toNat : Int), .int .u32 (n.g.toNat : Int), .slice co n.ops.length cc, .slice eo k.length ce] 27 (0, 0)) := by
    rw [hw1]
    have := heap_alloc_new (w.alloc (.cells #[.int .u8 (m.say.toNat : Int), .int .u8 (m.src.toNat : Int), .int .u8 (m.dst.toNat : Int), .int .u32 (m.g.toNat : Int), .slice ao m.ops.length ca, .slice bo l.length cb] 27)) (.cells #[.int .u8 (n.say.toNat : Int), .int .u8 (n.src.toNat : Int), .int .u8 (n.dst.toNat : Int), .int .u32 (n.g.toNat : Int), .slice co n.ops.length cc, .slice eo k.length ce] 27)
    simpa using this
  have zX : w.heap.size < w1.heap.size := by rw [hw1]; simp; omega
  have zY : w.heap.size + 1 < w1.heap.size := by rw [hw1]; simp
  have M1 := hm.up B1
  have N1 := hn.up B1
  clear hm hn
  go_enter Tryd.func6, Tryd.ntmps6
  go_wp2_with fail
  rw [← hw1]
  clear hw1
  have b0 : Below w1.heap.size w1 w1.drew := ⟨rfl, rfl, rfl, Nat.le_refl _, fun _ _ => rfl⟩
  refine wp_region_noPanic ?_
  refine wp_region_held_drew (S := fun W => Below w1.heap.size w1 W) (by kernel_rfl) b0 (fun hHeld => ?_)
  refine wpAnyH_ready (rs := [0]) (by kernel_rfl) (by simp) ?_
  refine AllReadyH.cons (o := { dst := some 9, op := Go.Op.call { callee := Go.Callee.value (Go.Operand.func 7), args := #[], argTypes := #[] }, type := 4, pos := _, after := #[], guard := none }) rfl (fun K hK => ?_) AllReadyH.nil
  go_simp
  refine (alive_any _ (tab_below htab (B1.trans (b0.mono B1.size)))).mono ?_
  rintro e wa ⟨rfl, ba⟩
  have Ba := b0.trans (ba.mono b0.size)
  go_wp2_with fail
  refine hK.out _ _ Ba (fun hHeld => ?_)
  clear hK K ba
  try simp only [Act.put, List.setIfInBounds_toArray, List.set_cons_zero, List.set_cons_succ]
  refine wpAnyH_take (i := 1) (oi := { dst := some 10, op := Go.Op.unOp Go.UnOp.not 4 (Go.Operand.tmp 9), type := 4, pos := _, after := #[{ on := 0, ground := Go.Ground.data }], guard := none }) (v := .bool false) rfl (by kernel_rfl) (by kernel_rfl) (by kernel_rfl) (fun _ _ _ h => h) (Or.inl ⟨by rfl, fun W hW => by go_simp⟩) (by assumption) ?_
  try simp only [Act.put, List.setIfInBounds_toArray, List.set_cons_zero, List.set_cons_succ]
  refine wpAnyH_take (i := 2) (oi := { dst := some 11, op := Go.Op.move (Go.Operand.tmp 10), type := 4, pos := _, after := #[{ on := 1, ground := Go.Ground.data }, { on := 0, ground := Go.Ground.chain }], guard := none }) (v := .bool false) rfl (by kernel_rfl) (by kernel_rfl) (by kernel_rfl) (fun _ _ _ h => h) (Or.inl ⟨by rfl, fun W hW => by go_simp⟩) (by assumption) ?_
  try simp only [Act.put, List.setIfInBounds_toArray, List.set_cons_zero, List.set_cons_succ]
  refine wpAnyH_take (i := 3) (oi := { dst := some 12, op := Go.Op.load 27 (Go.Operand.tmp 2), type := 27, pos := _, after := #[{ on := 2, ground := Go.Ground.guard }], guard := some (2, false) }) (v := .agg #[.int .u8 (m.say.toNat : Int), .int .u8 (m.src.toNat : Int), .int .u8 (m.dst.toNat : Int), .int .u32 (m.g.toNat : Int), .slice ao m.ops.length ca, .slice bo l.length cb]) rfl (by kernel_rfl) (by kernel_rfl) (by kernel_rfl) (fun _ _ _ h => h) (Or.inl ⟨by rfl, fun W hW => by obtain ⟨t0, t1, t2, t3, t4, t5⟩ := six_cells ((hW.block _ zX).trans PX); go_simp⟩) (by assumption) ?_
  try simp only [Act.put, List.setIfInBounds_toArray, List.set_cons_zero, List.set_cons_succ]
  refine wpAnyH_take (i := 5) (oi := { dst := some 14, op := Go.Op.load 27 (Go.Operand.tmp 3), type := 27, pos := _, after := #[{ on := 2, ground := Go.Ground.guard }], guard := some (2, false) }) (v := .agg #[.int .u8 (n.say.toNat : Int), .int .u8 (n.src.toNat : Int), .int .u8 (n.dst.toNat : Int), .int .u32 (n.g.toNat : Int), .slice co n.ops.length cc, .slice eo k.length ce]) rfl (by kernel_rfl) (by kernel_rfl) (by kernel_rfl) (fun _ _ _ h => h) (Or.inl ⟨by rfl, fun W hW => by obtain ⟨t0, t1, t2, t3, t4, t5⟩ := six_cells ((hW.block _ zY).trans PY); go_simp⟩) (by assumption) ?_
  try simp only [Act.put, List.setIfInBounds_toArray, List.set_cons_zero, List.set_cons_succ]
  refine wpAnyH_ready (rs := [4]) (by kernel_rfl) (by simp) ?_
  refine AllReadyH.cons (o := { dst := some 13, op := Go.Op.call { callee := Go.Callee.value (Go.Operand.func 8), args := #[Go.Operand.tmp 12], argTypes := #[27] }, type := 3, pos := _, after := #[{ on := 3, ground := Go.Ground.data }, { on := 2, ground := Go.Ground.chain }, { on := 2, ground := Go.Ground.guard }], guard := some (2, false) }) rfl (fun K hK => ?_) AllReadyH.nil
  go_simp
  refine (msgSize_any wa _ _ m l (M1.up Ba)).mono ?_
  rintro e ws1 ⟨⟨y0, rfl⟩, bs1⟩
  have Bs1 := Ba.trans (bs1.mono Ba.size)
  go_wp2_with fail
  refine hK.out _ _ Bs1 (fun hHeld => ?_)
  clear hK K bs1
  try simp only [Act.put, List.setIfInBounds_toArray, List.set_cons_zero, List.set_cons_succ]
  refine wpAnyH_ready (rs := [6]) (by kernel_rfl) (by simp) ?_
  refine AllReadyH.cons (o := { dst := some 15, op := Go.Op.call { callee := Go.Callee.value (Go.Operand.func 8), args := #[Go.Operand.tmp 14], argTypes := #[27] }, type := 3, pos := _, after := #[{ on := 5, ground := Go.Ground.data }, { on := 4, ground := Go.Ground.chain }, { on := 2, ground := Go.Ground.guard }], guard := some (2, false) }) rfl (fun K hK => ?_) AllReadyH.nil
  go_simp
  refine (msgSize_any ws1 _ _ n k (N1.up Bs1)).mono ?_
  rintro e ws2 ⟨⟨y1, rfl⟩, bs2⟩
  have Bs2 := Bs1.trans (bs2.mono Bs1.size)
  obtain ⟨y, hy⟩ : ∃ y, IntKind.i64.wrap (y0 + y1) = y := ⟨_, rfl⟩
  obtain ⟨gb, hgb⟩ : ∃ gb, decide (5000 < y) = gb := ⟨_, rfl⟩
  go_wp2_with fail
  refine hK.out _ _ Bs2 (fun hHeld => ?_)
  clear hK K bs2
  try simp only [Act.put, List.setIfInBounds_toArray, List.set_cons_zero, List.set_cons_succ]
  refine wpAnyH_take (i := 7) (oi := { dst := some 16, op := Go.Op.binOp Go.BinOp.add 3 (Go.Operand.tmp 13) (Go.Operand.tmp 15) 3, type := 3, pos := _, after := #[{ on := 4, ground := Go.Ground.data }, { on := 6, ground := Go.Ground.data }, { on := 2, ground := Go.Ground.guard }], guard := some (2, false) }) (v := .int .i64 y) rfl (by kernel_rfl) (by kernel_rfl) (by kernel_rfl) (fun _ _ _ h => h) (Or.inl ⟨by rfl, fun W hW => by go_simp⟩) (by assumption) ?_
  try simp only [Act.put, List.setIfInBounds_toArray, List.set_cons_zero, List.set_cons_succ]
  refine wpAnyH_take (i := 8) (oi := { dst := some 17, op := Go.Op.binOp Go.BinOp.gtr 3 (Go.Operand.tmp 16) (Go.Operand.const (Go.Value.int Go.IntKind.i64 5000)) 3, type := 4, pos := _, after := #[{ on := 7, ground := Go.Ground.data }, { on := 2, ground := Go.Ground.guard }], guard := some (2, false) }) (v := .bool gb) rfl (by kernel_rfl) (by kernel_rfl) (by kernel_rfl) (fun _ _ _ h => h) (Or.inl ⟨by rfl, fun W hW => by go_simp⟩) (by assumption) ?_
  try simp only [Act.put, List.setIfInBounds_toArray, List.set_cons_zero, List.set_cons_succ]
  refine wpAnyH_take (i := 9) (oi := { dst := some 18, op := Go.Op.pick (Go.Operand.tmp 11) (Go.Operand.const (Go.Value.bool true)) (Go.Operand.tmp 17), type := 4, pos := _, after := #[{ on := 2, ground := Go.Ground.data }, { on := 8, ground := Go.Ground.data }], guard := none }) (v := .bool gb) rfl (by kernel_rfl) (by kernel_rfl) (by kernel_rfl) (fun _ _ _ h => h) (Or.inl ⟨by rfl, fun W hW => by go_simp⟩) (by assumption) ?_
  try simp only [Act.put, List.setIfInBounds_toArray, List.set_cons_zero, List.set_cons_succ]
  refine wpAnyH_done (by kernel_rfl) ?_ _
  refine NoPanic.normal ?_
  cases gb with
  | true =>
    clear hHeld hy hgb PX PY zX zY M1 N1
    have Bc := B1.trans (Bs2.mono B1.size)
    go_wp2_with fail
    refine (alive_any _ (tab_below htab Bc)).mono ?_
    rintro e w9 ⟨rfl, b9⟩
    have B9 := Bc.trans (b9.mono Bc.size)
    clear b9 Bc
    go_wp2
    go_ret
    exact ⟨rfl, B9⟩
  | false =>
    have PX2 := (Bs2.block _ zX).trans PX
    have PY2 := (Bs2.block _ zY).trans PY
    have Bc := B1.trans (Bs2.mono B1.size)
    have zX2 := Nat.lt_of_lt_of_le zX Bs2.size
    have zY2 := Nat.lt_of_lt_of_le zY Bs2.size
    have M2 := M1.up Bs2
    have N2 := N1.up Bs2
    clear hy hgb hHeld PX PY zX zY M1 N1
    obtain ⟨m0, m1, m2, m3, m4, m5⟩ := six_cells PX2
    have kp := M2.put
    unfold msgV at kp
    go_wp2_with fail
    refine kp.mono ?_
    rintro e w4 ⟨a4, c4, rfl, o4, b4⟩
    have B4 := Bc.trans (b4.mono Bc.size)
    have PX4 := (b4.block _ zX2).trans PX2
    have PY4 := (b4.block _ zY2).trans PY2
    have zX4 := Nat.lt_of_lt_of_le zX2 b4.size
    have zY4 := Nat.lt_of_lt_of_le zY2 b4.size
    have M4 := M2.up b4
    have N4 := N2.up b4
    clear kp b4 Bc PX2 PY2 zX2 zY2 M2 N2 m0 m1 m2 m3 m4 m5
    obtain ⟨m0, m1, m2, m3, m4, m5⟩ := six_cells PY4
    have kp := N4.put
    unfold msgV at kp
    go_wp2_with fail
    refine kp.mono ?_
    rintro e w5 ⟨a5, c5, rfl, o5, b5⟩
    have B5 := B4.trans (b5.mono B4.size)
    have PX3 := (b5.block _ zX4).trans PX4
    have PY3 := (b5.block _ zY4).trans PY4
    have zX3 := Nat.lt_of_lt_of_le zX4 b5.size
    have zY3 := Nat.lt_of_lt_of_le zY4 b5.size
    have M5 := M4.up b5
    have N5 := N4.up b5
    replace o4 := o4.below b5
    clear kp b5 B4 PX4 PY4 zX4 zY4 M4 N4 m0 m1 m2 m3 m4 m5
    rcases putM_cases m with ⟨p1, p2, p3⟩ | p3 | p3
    · rcases putM_cases n with ⟨q1, q2, q3⟩ | q3 | q3
      · rw [p3] at o4
        rw [q3] at o5
        rw [p3, q3]
        simp only at o4 o5 ⊢
        clear p3 q3
        by_cases hmn : m = n
        · skip
          have kb : ∀ W, Below w5.heap.size w5 W → Calls Tryd.prog 12 #[.slice a4 (encM m).length c4, .slice a5 (encM n).length c5] W fun e w' => e = .returned (.bool true) ∧ Below W.heap.size W w' := fun W hW => by
            refine (sameBytes_any W _ _ _ _ _ (in_own (o4.below hW)) (by have := in_own (o5.below hW); rw [← hmn] at this ⊢; exact this)).mono ?_
            rintro e w' ⟨rfl, nq, rfl⟩
            exact ⟨rfl, below_drewN W nq⟩
          have km : ∀ W, Below w5.heap.size w5 W → Calls Tryd.prog 11 #[.agg #[.int .u8 (m.say.toNat : Int), .int .u8 (m.src.toNat : Int), .int .u8 (m.dst.toNat : Int), .int .u32 (m.g.toNat : Int), .slice ao m.ops.length ca, .slice bo l.length cb], .agg #[.int .u8 (n.say.toNat : Int), .int .u8 (n.src.toNat : Int), .int .u8 (n.dst.toNat : Int), .int .u32 (n.g.toNat : Int), .slice co n.ops.length cc, .slice eo k.length ce]] W fun e w' => e = .returned (.bool true) ∧ Below W.heap.size W w' := fun W hW =>
            (by have := N5.up hW; rw [← hmn] at this ⊢; exact sameMsg_any W _ _ _ _ m l k (M5.up hW) this)
          clear M5 N5 o4 o5 p1 p2 q1 q2 hmn
          go_wp2_with fail
          have c0 : Below w5.heap.size w5 w5.drew := ⟨rfl, rfl, rfl, Nat.le_refl _, fun _ _ => rfl⟩
          refine wp_region_noPanic ?_
          refine wp_region_held_drew (S := fun W => Below w5.heap.size w5 W) (by kernel_rfl) c0 (fun hHeld => ?_)
          refine wpAnyH_take (i := 0) (oi := { dst := some 36, op := Go.Op.move (Go.Operand.tmp 5), type := 28, pos := _, after := #[], guard := none }) (v := .slice a4 (encM m).length c4) rfl (by kernel_rfl) (by kernel_rfl) (by kernel_rfl) (fun _ _ _ h => h) (Or.inl ⟨by rfl, fun W hW => by go_simp⟩) (by assumption) ?_
          try simp only [Act.put, List.setIfInBounds_toArray, List.set_cons_zero, List.set_cons_succ]
          refine wpAnyH_take (i := 1) (oi := { dst := some 37, op := Go.Op.move (Go.Operand.tmp 7), type := 28, pos := _, after := #[], guard := none }) (v := .slice a5 (encM n).length c5) rfl (by kernel_rfl) (by kernel_rfl) (by kernel_rfl) (fun _ _ _ h => h) (Or.inl ⟨by rfl, fun W hW => by go_simp⟩) (by assumption) ?_
          try simp only [Act.put, List.setIfInBounds_toArray, List.set_cons_zero, List.set_cons_succ]
          refine wpAnyH_take (i := 3) (oi := { dst := some 39, op := Go.Op.load 27 (Go.Operand.tmp 2), type := 27, pos := _, after := #[], guard := none }) (v := .agg #[.int .u8 (m.say.toNat : Int), .int .u8 (m.src.toNat : Int), .int .u8 (m.dst.toNat : Int), .int .u32 (m.g.toNat : Int), .slice ao m.ops.length ca, .slice bo l.length cb]) rfl (by kernel_rfl) (by kernel_rfl) (by kernel_rfl) (fun _ _ _ h => h) (Or.inl ⟨by rfl, fun W hW => by obtain ⟨t0, t1, t2, t3, t4, t5⟩ := six_cells ((hW.block _ zX3).trans PX3); go_simp⟩) (by assumption) ?_
          try simp only [Act.put, List.setIfInBounds_toArray, List.set_cons_zero, List.set_cons_succ]
          refine wpAnyH_take (i := 4) (oi := { dst := some 40, op := Go.Op.load 27 (Go.Operand.tmp 3), type := 27, pos := _, after := #[], guard := none }) (v := .agg #[.int .u8 (n.say.toNat : Int), .int .u8 (n.src.toNat : Int), .int .u8 (n.dst.toNat : Int), .int .u32 (n.g.toNat : Int), .slice co n.ops.length cc, .slice eo k.length ce]) rfl (by kernel_rfl) (by kernel_rfl) (by kernel_rfl) (fun _ _ _ h => h) (Or.inl ⟨by rfl, fun W hW => by obtain ⟨t0, t1, t2, t3, t4, t5⟩ := six_cells ((hW.block _ zY3).trans PY3); go_simp⟩) (by assumption) ?_
          try simp only [Act.put, List.setIfInBounds_toArray, List.set_cons_zero, List.set_cons_succ]
          refine wpAnyH_ready (rs := [2]) (by kernel_rfl) (by simp) ?_
          refine AllReadyH.cons (o := { dst := some 38, op := Go.Op.call { callee := Go.Callee.value (Go.Operand.func 12), args := #[Go.Operand.tmp 36, Go.Operand.tmp 37], argTypes := #[28, 28] }, type := 4, pos := _, after := #[{ on := 0, ground := Go.Ground.data }, { on := 1, ground := Go.Ground.data }], guard := none }) rfl (fun K hK => ?_) AllReadyH.nil
          go_simp
          refine (kb w5.drew c0).mono ?_
          rintro e wt1 ⟨rfl, bt1⟩
          have Bt1 := c0.trans (bt1.mono c0.size)
          go_wp2_with fail
          refine hK.out _ _ Bt1 (fun hHeld => ?_)
          clear hK K bt1
          try simp only [Act.put, List.setIfInBounds_toArray, List.set_cons_zero, List.set_cons_succ]
          refine wpAnyH_ready (rs := [5]) (by kernel_rfl) (by simp) ?_
          refine AllReadyH.cons (o := { dst := some 41, op := Go.Op.call { callee := Go.Callee.value (Go.Operand.func 11), args := #[Go.Operand.tmp 39, Go.Operand.tmp 40], argTypes := #[27, 27] }, type := 4, pos := _, after := #[{ on := 3, ground := Go.Ground.data }, { on := 4, ground := Go.Ground.data }, { on := 2, ground := Go.Ground.chain }], guard := none }) rfl (fun K hK => ?_) AllReadyH.nil
          go_simp
          refine (km wt1 Bt1).mono ?_
          rintro e wt2 ⟨rfl, bt2⟩
          have Bt2 := Bt1.trans (bt2.mono Bt1.size)
          go_wp2_with fail
          refine hK.out _ _ Bt2 (fun hHeld => ?_)
          clear hK K bt2
          try simp only [Act.put, List.setIfInBounds_toArray, List.set_cons_zero, List.set_cons_succ]
          refine wpAnyH_take (i := 6) (oi := { dst := some 42, op := Go.Op.binOp Go.BinOp.eql 4 (Go.Operand.tmp 38) (Go.Operand.tmp 41) 4, type := 4, pos := _, after := #[{ on := 2, ground := Go.Ground.data }, { on := 5, ground := Go.Ground.data }], guard := none }) (v := .bool true) rfl (by kernel_rfl) (by kernel_rfl) (by kernel_rfl) (fun _ _ _ h => h) (Or.inl ⟨by rfl, fun W hW => by go_simp⟩) (by assumption) ?_
          try simp only [Act.put, List.setIfInBounds_toArray, List.set_cons_zero, List.set_cons_succ]
          refine wpAnyH_take (i := 7) (oi := { dst := some 4, op := Go.Op.assign (Go.Operand.tmp 42), type := 4, pos := _, after := #[{ on := 6, ground := Go.Ground.data }, { on := 5, ground := Go.Ground.chain }, { on := 0, ground := Go.Ground.phase }, { on := 1, ground := Go.Ground.phase }, { on := 2, ground := Go.Ground.phase }, { on := 3, ground := Go.Ground.phase }, { on := 4, ground := Go.Ground.phase }, { on := 5, ground := Go.Ground.phase }, { on := 6, ground := Go.Ground.phase }], guard := none }) (v := .bool true) rfl (by kernel_rfl) (by kernel_rfl) (by kernel_rfl) (fun _ _ _ h => h) (Or.inl ⟨by rfl, fun W hW => by go_simp⟩) (by assumption) ?_
          try simp only [Act.put, List.setIfInBounds_toArray, List.set_cons_zero, List.set_cons_succ]
          refine wpAnyH_done (by kernel_rfl) ?_ _
          refine NoPanic.normal ?_
          have Bz := B5.trans (Bt2.mono B5.size)
          clear hHeld
          go_wp2
          go_ret
          exact ⟨rfl, Bz⟩
        · skip
          have kb : ∀ W, Below w5.heap.size w5 W → Calls Tryd.prog 12 #[.slice a4 (encM m).length c4, .slice a5 (encM n).length c5] W fun e w' => e = .returned (.bool false) ∧ Below W.heap.size W w' := fun W hW => by
            refine (sameBytes_not W _ _ _ _ _ _ (in_own (o4.below hW)) (in_own (o5.below hW)) (fun e => hmn (encM_inj p1 p2 q1 q2 e))).mono ?_
            rintro e w' ⟨rfl, nq, rfl⟩
            exact ⟨rfl, below_drewN W nq⟩
          have km : ∀ W, Below w5.heap.size w5 W → Calls Tryd.prog 11 #[.agg #[.int .u8 (m.say.toNat : Int), .int .u8 (m.src.toNat : Int), .int .u8 (m.dst.toNat : Int), .int .u32 (m.g.toNat : Int), .slice ao m.ops.length ca, .slice bo l.length cb], .agg #[.int .u8 (n.say.toNat : Int), .int .u8 (n.src.toNat : Int), .int .u8 (n.dst.toNat : Int), .int .u32 (n.g.toNat : Int), .slice co n.ops.length cc, .slice eo k.length ce]] W fun e w' => e = .returned (.bool false) ∧ Below W.heap.size W w' := fun W hW =>
            sameMsg_not W _ _ _ _ m n l k (M5.up hW) (N5.up hW) hmn
          clear M5 N5 o4 o5 p1 p2 q1 q2 hmn
          go_wp2_with fail
          have c0 : Below w5.heap.size w5 w5.drew := ⟨rfl, rfl, rfl, Nat.le_refl _, fun _ _ => rfl⟩
          refine wp_region_noPanic ?_
          refine wp_region_held_drew (S := fun W => Below w5.heap.size w5 W) (by kernel_rfl) c0 (fun hHeld => ?_)
          refine wpAnyH_take (i := 0) (oi := { dst := some 36, op := Go.Op.move (Go.Operand.tmp 5), type := 28, pos := _, after := #[], guard := none }) (v := .slice a4 (encM m).length c4) rfl (by kernel_rfl) (by kernel_rfl) (by kernel_rfl) (fun _ _ _ h => h) (Or.inl ⟨by rfl, fun W hW => by go_simp⟩) (by assumption) ?_
          try simp only [Act.put, List.setIfInBounds_toArray, List.set_cons_zero, List.set_cons_succ]
          refine wpAnyH_take (i := 1) (oi := { dst := some 37, op := Go.Op.move (Go.Operand.tmp 7), type := 28, pos := _, after := #[], guard := none }) (v := .slice a5 (encM n).length c5) rfl (by kernel_rfl) (by kernel_rfl) (by kernel_rfl) (fun _ _ _ h => h) (Or.inl ⟨by rfl, fun W hW => by go_simp⟩) (by assumption) ?_
          try simp only [Act.put, List.setIfInBounds_toArray, List.set_cons_zero, List.set_cons_succ]
          refine wpAnyH_take (i := 3) (oi := { dst := some 39, op := Go.Op.load 27 (Go.Operand.tmp 2), type := 27, pos := _, after := #[], guard := none }) (v := .agg #[.int .u8 (m.say.toNat : Int), .int .u8 (m.src.toNat : Int), .int .u8 (m.dst.toNat : Int), .int .u32 (m.g.toNat : Int), .slice ao m.ops.length ca, .slice bo l.length cb]) rfl (by kernel_rfl) (by kernel_rfl) (by kernel_rfl) (fun _ _ _ h => h) (Or.inl ⟨by rfl, fun W hW => by obtain ⟨t0, t1, t2, t3, t4, t5⟩ := six_cells ((hW.block _ zX3).trans PX3); go_simp⟩) (by assumption) ?_
          try simp only [Act.put, List.setIfInBounds_toArray, List.set_cons_zero, List.set_cons_succ]
          refine wpAnyH_take (i := 4) (oi := { dst := some 40, op := Go.Op.load 27 (Go.Operand.tmp 3), type := 27, pos := _, after := #[], guard := none }) (v := .agg #[.int .u8 (n.say.toNat : Int), .int .u8 (n.src.toNat : Int), .int .u8 (n.dst.toNat : Int), .int .u32 (n.g.toNat : Int), .slice co n.ops.length cc, .slice eo k.length ce]) rfl (by kernel_rfl) (by kernel_rfl) (by kernel_rfl) (fun _ _ _ h => h) (Or.inl ⟨by rfl, fun W hW => by obtain ⟨t0, t1, t2, t3, t4, t5⟩ := six_cells ((hW.block _ zY3).trans PY3); go_simp⟩) (by assumption) ?_
          try simp only [Act.put, List.setIfInBounds_toArray, List.set_cons_zero, List.set_cons_succ]
          refine wpAnyH_ready (rs := [2]) (by kernel_rfl) (by simp) ?_
          refine AllReadyH.cons (o := { dst := some 38, op := Go.Op.call { callee := Go.Callee.value (Go.Operand.func 12), args := #[Go.Operand.tmp 36, Go.Operand.tmp 37], argTypes := #[28, 28] }, type := 4, pos := _, after := #[{ on := 0, ground := Go.Ground.data }, { on := 1, ground := Go.Ground.data }], guard := none }) rfl (fun K hK => ?_) AllReadyH.nil
          go_simp
          refine (kb w5.drew c0).mono ?_
          rintro e wt1 ⟨rfl, bt1⟩
          have Bt1 := c0.trans (bt1.mono c0.size)
          go_wp2_with fail
          refine hK.out _ _ Bt1 (fun hHeld => ?_)
          clear hK K bt1
          try simp only [Act.put, List.setIfInBounds_toArray, List.set_cons_zero, List.set_cons_succ]
          refine wpAnyH_ready (rs := [5]) (by kernel_rfl) (by simp) ?_
          refine AllReadyH.cons (o := { dst := some 41, op := Go.Op.call { callee := Go.Callee.value (Go.Operand.func 11), args := #[Go.Operand.tmp 39, Go.Operand.tmp 40], argTypes := #[27, 27] }, type := 4, pos := _, after := #[{ on := 3, ground := Go.Ground.data }, { on := 4, ground := Go.Ground.data }, { on := 2, ground := Go.Ground.chain }], guard := none }) rfl (fun K hK => ?_) AllReadyH.nil
          go_simp
          refine (km wt1 Bt1).mono ?_
          rintro e wt2 ⟨rfl, bt2⟩
          have Bt2 := Bt1.trans (bt2.mono Bt1.size)
          go_wp2_with fail
          refine hK.out _ _ Bt2 (fun hHeld => ?_)
          clear hK K bt2
          try simp only [Act.put, List.setIfInBounds_toArray, List.set_cons_zero, List.set_cons_succ]
          refine wpAnyH_take (i := 6) (oi := { dst := some 42, op := Go.Op.binOp Go.BinOp.eql 4 (Go.Operand.tmp 38) (Go.Operand.tmp 41) 4, type := 4, pos := _, after := #[{ on := 2, ground := Go.Ground.data }, { on := 5, ground := Go.Ground.data }], guard := none }) (v := .bool true) rfl (by kernel_rfl) (by kernel_rfl) (by kernel_rfl) (fun _ _ _ h => h) (Or.inl ⟨by rfl, fun W hW => by go_simp⟩) (by assumption) ?_
          try simp only [Act.put, List.setIfInBounds_toArray, List.set_cons_zero, List.set_cons_succ]
          refine wpAnyH_take (i := 7) (oi := { dst := some 4, op := Go.Op.assign (Go.Operand.tmp 42), type := 4, pos := _, after := #[{ on := 6, ground := Go.Ground.data }, { on := 5, ground := Go.Ground.chain }, { on := 0, ground := Go.Ground.phase }, { on := 1, ground := Go.Ground.phase }, { on := 2, ground := Go.Ground.phase }, { on := 3, ground := Go.Ground.phase }, { on := 4, ground := Go.Ground.phase }, { on := 5, ground := Go.Ground.phase }, { on := 6, ground := Go.Ground.phase }], guard := none }) (v := .bool true) rfl (by kernel_rfl) (by kernel_rfl) (by kernel_rfl) (fun _ _ _ h => h) (Or.inl ⟨by rfl, fun W hW => by go_simp⟩) (by assumption) ?_
          try simp only [Act.put, List.setIfInBounds_toArray, List.set_cons_zero, List.set_cons_succ]
          refine wpAnyH_done (by kernel_rfl) ?_ _
          refine NoPanic.normal ?_
          have Bz := B5.trans (Bt2.mono B5.size)
          clear hHeld
          go_wp2
          go_ret
          exact ⟨rfl, Bz⟩
      · rw [p3, q3]
        clear o4 o5 M5 N5 p1 p2 p3 q3
        go_wp2
        go_ret
        exact ⟨rfl, B5⟩
      · rw [p3, q3]
        clear o4 o5 M5 N5 p1 p2 p3 q3
        go_wp2
        go_ret
        exact ⟨rfl, B5⟩
    · rw [p3]
      clear o4 o5 M5 N5 p3
      go_wp2
      go_ret
      exact ⟨rfl, B5⟩
    · rw [p3]
      clear o4 o5 M5 N5 p3
      go_wp2
      go_ret
      exact ⟨rfl, B5⟩
end Go.Proofs.YtcgecdiaddcfkaaDoor
