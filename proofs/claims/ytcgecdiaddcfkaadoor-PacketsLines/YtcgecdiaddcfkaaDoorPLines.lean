/- The walk of PacketsLines. -/
import Derived.Test.YtcgecdiaddcfkaaDoorPLine
import Derived.Test.YtcgecdiaddcfkaaDoorPSteps
set_option linter.unusedSimpArgs false
set_option linter.unusedVariables false
namespace Go.Proofs.YtcgecdiaddcfkaaDoor
open Go.RowKit

set_option maxHeartbeats 3000000 in
set_option maxRecDepth 1000000 in
theorem lines_0 (w : World) (vo vr uo ur : Value) (m : MsgD) (l : List ResP) (n : MsgD) (k : List ResP) (hm : MsgAt w w.heap.size vo vr m l) (hn : MsgAt w w.heap.size uo ur n k) (htab : Tab w) (h0 : m.say ≠ n.say) :
    Calls Tryd.prog 5 #[msgV m vo vr, msgV n uo ur] w fun e w' => e = .returned (.bool true) ∧ Below w.heap.size w w' := by
  obtain ⟨ao, ca, bo, cb, rfl, rfl⟩ := hm.form
  obtain ⟨co, cc, eo, ce, rfl, rfl⟩ := hn.form
  unfold msgV
  have t0 : ((m.say.toNat : Int) == (n.say.toNat : Int)) = false := by rw [beq_eq_false_iff_ne]; intro e; exact h0 (UInt8.toNat_inj.1 (by omega))
  have kM : ∀ (a : Option Addr) (p q : Nat) (b : Option Addr) (r s : Nat) W, Below w.heap.size w W → Calls Tryd.prog 15 #[.agg #[.int .u8 (m.say.toNat : Int), .int .u8 (m.src.toNat : Int), .int .u8 (m.dst.toNat : Int), .int .u32 (m.g.toNat : Int), .slice a p q, .slice b r s]] W fun e w' => e = .returned (.string (lineN m.say.toNat m.src.toNat m.dst.toNat m.g.toNat 3)) ∧ Below W.heap.size W w' := fun a p q b r s W hW => Text_any W _ _ _ _ (u8_lt _) (u8_lt _) (u8_lt _) (u32_lt _) a b p q r s (tab_below htab hW)
  have kN : ∀ (a : Option Addr) (p q : Nat) (b : Option Addr) (r s : Nat) W, Below w.heap.size w W → Calls Tryd.prog 15 #[.agg #[.int .u8 (n.say.toNat : Int), .int .u8 (n.src.toNat : Int), .int .u8 (n.dst.toNat : Int), .int .u32 (n.g.toNat : Int), .slice a p q, .slice b r s]] W fun e w' => e = .returned (.string (lineN n.say.toNat n.src.toNat n.dst.toNat n.g.toNat 3)) ∧ Below W.heap.size W w' := fun a p q b r s W hW => Text_any W _ _ _ _ (u8_lt _) (u8_lt _) (u8_lt _) (u32_lt _) a b p q r s (tab_below htab hW)
  have HE : Hid (((lineN m.say.toNat m.src.toNat m.dst.toNat m.g.toNat 3).toList == (lineN n.say.toNat n.src.toNat n.dst.toNat n.g.toNat 3).toList) = false) := by
    show _ = _
    rw [line_eq]
    refine decide_eq_false (fun h => ?_)
    exact h0 (UInt8.toNat_inj.1 h.1)
  generalize lineN m.say.toNat m.src.toNat m.dst.toNat m.g.toNat 3 = LM at *
  generalize lineN n.say.toNat n.src.toNat n.dst.toNat n.g.toNat 3 = LN at *
  clear h0
  obtain ⟨w1, hw1⟩ : ∃ w1, w1 = (w.alloc (.cells #[.int .u8 (m.say.toNat : Int), .int .u8 (m.src.toNat : Int), .int .u8 (m.dst.toNat : Int), .int .u32 (m.g.toNat : Int), .slice ao m.ops.length ca, .slice bo l.length cb] 27)).alloc (.cells #[.int .u8 (n.say.toNat : Int), .int .u8 (n.src.toNat : Int), .int .u8 (n.dst.toNat : Int), .int .u32 (n.g.toNat : Int), .slice co n.ops.length cc, .slice eo k.length ce] 27) := ⟨_, rfl⟩
  have B1 : Below w.heap.size w w1 := by rw [hw1]; exact ((Below.refl _ _).alloc (Nat.le_refl _) _).alloc (by simp) _
  have PX : w1.heap[w.heap.size]? = some (.cells #[.int .u8 (m.say.toNat : Int), .int .u8 (m.src.toNat : Int), .int .u8 (m.dst.toNat : Int), .int .u32 (m.g.toNat : Int), .slice ao m.ops.length ca, .slice bo l.length cb] 27 (0, 0)) := by rw [hw1]; exact alloc_block (heap_alloc_new w _) _
  have PY : w1.heap[w.heap.size + 1]? = some (.cells #[.int .u8 (n.say.toNat : Int), .int .u8 (n.src.toNat : Int), .int .u8 (n.dst.toNat : Int), .int .u32 (n.g.toNat : Int), .slice co n.ops.length cc, .slice eo k.length ce] 27 (0, 0)) := by
    rw [hw1]
    have := heap_alloc_new (w.alloc (.cells #[.int .u8 (m.say.toNat : Int), .int .u8 (m.src.toNat : Int), .int .u8 (m.dst.toNat : Int), .int .u32 (m.g.toNat : Int), .slice ao m.ops.length ca, .slice bo l.length cb] 27)) (.cells #[.int .u8 (n.say.toNat : Int), .int .u8 (n.src.toNat : Int), .int .u8 (n.dst.toNat : Int), .int .u32 (n.g.toNat : Int), .slice co n.ops.length cc, .slice eo k.length ce] 27)
    simpa using this
  have zX : w.heap.size < w1.heap.size := by rw [hw1]; simp; omega
  have zY : w.heap.size + 1 < w1.heap.size := by rw [hw1]; simp
  have M1 := hm.up B1
  have N1 := hn.up B1
  clear hm hn
  go_enter Tryd.func5, Tryd.ntmps5
  go_wp2_with fail
  rw [← hw1]
  clear hw1
  have b0 : Below w1.heap.size w1 w1.drew := ⟨rfl, rfl, rfl, Nat.le_refl _, fun _ _ => rfl⟩
  refine wp_region_noPanic ?_
  refine wp_region_held_drew (S := fun W => Below w1.heap.size w1 W) (by kernel_rfl) b0 (fun hHeld => ?_)
  refine wpAnyH_ready (rs := [0]) (by kernel_rfl) (by simp) ?_
  refine AllReadyH.cons (o := { dst := some 7, op := Go.Op.call { callee := Go.Callee.value (Go.Operand.func 7), args := #[], argTypes := #[] }, type := 4, pos := _, after := #[], guard := none }) rfl (fun K hK => ?_) AllReadyH.nil
  go_simp
  refine (alive_any _ (tab_below htab (B1.trans (b0.mono B1.size)))).mono ?_
  rintro e wa ⟨rfl, ba⟩
  have Ba := b0.trans (ba.mono b0.size)
  go_wp2_with fail
  refine hK.out _ _ Ba (fun hHeld => ?_)
  clear hK K ba
  try simp only [Act.put, List.setIfInBounds_toArray, List.set_cons_zero, List.set_cons_succ]
  refine wpAnyH_take (i := 1) (oi := { dst := some 8, op := Go.Op.unOp Go.UnOp.not 4 (Go.Operand.tmp 7), type := 4, pos := _, after := #[{ on := 0, ground := Go.Ground.data }], guard := none }) (v := .bool false) rfl (by kernel_rfl) (by kernel_rfl) (by kernel_rfl) (fun _ _ _ h => h) (Or.inl ⟨by rfl, fun W hW => by go_simp⟩) (by assumption) ?_
  try simp only [Act.put, List.setIfInBounds_toArray, List.set_cons_zero, List.set_cons_succ]
  refine wpAnyH_take (i := 2) (oi := { dst := some 9, op := Go.Op.move (Go.Operand.tmp 8), type := 4, pos := _, after := #[{ on := 1, ground := Go.Ground.data }, { on := 0, ground := Go.Ground.chain }], guard := none }) (v := .bool false) rfl (by kernel_rfl) (by kernel_rfl) (by kernel_rfl) (fun _ _ _ h => h) (Or.inl ⟨by rfl, fun W hW => by go_simp⟩) (by assumption) ?_
  try simp only [Act.put, List.setIfInBounds_toArray, List.set_cons_zero, List.set_cons_succ]
  refine wpAnyH_take (i := 3) (oi := { dst := some 10, op := Go.Op.load 27 (Go.Operand.tmp 2), type := 27, pos := _, after := #[{ on := 2, ground := Go.Ground.guard }], guard := some (2, false) }) (v := .agg #[.int .u8 (m.say.toNat : Int), .int .u8 (m.src.toNat : Int), .int .u8 (m.dst.toNat : Int), .int .u32 (m.g.toNat : Int), .slice ao m.ops.length ca, .slice bo l.length cb]) rfl (by kernel_rfl) (by kernel_rfl) (by kernel_rfl) (fun _ _ _ h => h) (Or.inl ⟨by rfl, fun W hW => by obtain ⟨t0, t1, t2, t3, t4, t5⟩ := six_cells ((hW.block _ zX).trans PX); go_simp⟩) (by assumption) ?_
  try simp only [Act.put, List.setIfInBounds_toArray, List.set_cons_zero, List.set_cons_succ]
  refine wpAnyH_take (i := 5) (oi := { dst := some 12, op := Go.Op.load 27 (Go.Operand.tmp 3), type := 27, pos := _, after := #[{ on := 2, ground := Go.Ground.guard }], guard := some (2, false) }) (v := .agg #[.int .u8 (n.say.toNat : Int), .int .u8 (n.src.toNat : Int), .int .u8 (n.dst.toNat : Int), .int .u32 (n.g.toNat : Int), .slice co n.ops.length cc, .slice eo k.length ce]) rfl (by kernel_rfl) (by kernel_rfl) (by kernel_rfl) (fun _ _ _ h => h) (Or.inl ⟨by rfl, fun W hW => by obtain ⟨t0, t1, t2, t3, t4, t5⟩ := six_cells ((hW.block _ zY).trans PY); go_simp⟩) (by assumption) ?_
  try simp only [Act.put, List.setIfInBounds_toArray, List.set_cons_zero, List.set_cons_succ]
  refine wpAnyH_ready (rs := [4]) (by kernel_rfl) (by simp) ?_
  refine AllReadyH.cons (o := { dst := some 11, op := Go.Op.call { callee := Go.Callee.value (Go.Operand.func 8), args := #[Go.Operand.tmp 10], argTypes := #[27] }, type := 3, pos := _, after := #[{ on := 3, ground := Go.Ground.data }, { on := 2, ground := Go.Ground.chain }, { on := 2, ground := Go.Ground.guard }], guard := some (2, false) }) rfl (fun K hK => ?_) AllReadyH.nil
  go_simp
  refine (msgSize_any wa _ _ m l (M1.up Ba)).mono ?_
  rintro e ws1 ⟨⟨y0, rfl⟩, bs1⟩
  have Bs1 := Ba.trans (bs1.mono Ba.size)
  go_wp2_with fail
  refine hK.out _ _ Bs1 (fun hHeld => ?_)
  clear hK K bs1
  try simp only [Act.put, List.setIfInBounds_toArray, List.set_cons_zero, List.set_cons_succ]
  refine wpAnyH_ready (rs := [6]) (by kernel_rfl) (by simp) ?_
  refine AllReadyH.cons (o := { dst := some 13, op := Go.Op.call { callee := Go.Callee.value (Go.Operand.func 8), args := #[Go.Operand.tmp 12], argTypes := #[27] }, type := 3, pos := _, after := #[{ on := 5, ground := Go.Ground.data }, { on := 4, ground := Go.Ground.chain }, { on := 2, ground := Go.Ground.guard }], guard := some (2, false) }) rfl (fun K hK => ?_) AllReadyH.nil
  go_simp
  refine (msgSize_any ws1 _ _ n k (N1.up Bs1)).mono ?_
  rintro e ws2 ⟨⟨y1, rfl⟩, bs2⟩
  have Bs2 := Bs1.trans (bs2.mono Bs1.size)
  obtain ⟨y, hy⟩ : ∃ y, IntKind.i64.wrap (y0 + y1) = y := ⟨_, rfl⟩
  obtain ⟨gb, hgb⟩ : ∃ gb, decide (5000 < y) = gb := ⟨_, rfl⟩
  go_wp2_with fail
  refine hK.out _ _ Bs2 (fun hHeld => ?_)
  clear hK K bs2
  try simp only [Act.put, List.setIfInBounds_toArray, List.set_cons_zero, List.set_cons_succ]
  refine wpAnyH_take (i := 7) (oi := { dst := some 14, op := Go.Op.binOp Go.BinOp.add 3 (Go.Operand.tmp 11) (Go.Operand.tmp 13) 3, type := 3, pos := _, after := #[{ on := 4, ground := Go.Ground.data }, { on := 6, ground := Go.Ground.data }, { on := 2, ground := Go.Ground.guard }], guard := some (2, false) }) (v := .int .i64 y) rfl (by kernel_rfl) (by kernel_rfl) (by kernel_rfl) (fun _ _ _ h => h) (Or.inl ⟨by rfl, fun W hW => by go_simp⟩) (by assumption) ?_
  try simp only [Act.put, List.setIfInBounds_toArray, List.set_cons_zero, List.set_cons_succ]
  refine wpAnyH_take (i := 8) (oi := { dst := some 15, op := Go.Op.binOp Go.BinOp.gtr 3 (Go.Operand.tmp 14) (Go.Operand.const (Go.Value.int Go.IntKind.i64 5000)) 3, type := 4, pos := _, after := #[{ on := 7, ground := Go.Ground.data }, { on := 2, ground := Go.Ground.guard }], guard := some (2, false) }) (v := .bool gb) rfl (by kernel_rfl) (by kernel_rfl) (by kernel_rfl) (fun _ _ _ h => h) (Or.inl ⟨by rfl, fun W hW => by go_simp⟩) (by assumption) ?_
  try simp only [Act.put, List.setIfInBounds_toArray, List.set_cons_zero, List.set_cons_succ]
  refine wpAnyH_take (i := 9) (oi := { dst := some 16, op := Go.Op.pick (Go.Operand.tmp 9) (Go.Operand.const (Go.Value.bool true)) (Go.Operand.tmp 15), type := 4, pos := _, after := #[{ on := 2, ground := Go.Ground.data }, { on := 8, ground := Go.Ground.data }], guard := none }) (v := .bool gb) rfl (by kernel_rfl) (by kernel_rfl) (by kernel_rfl) (fun _ _ _ h => h) (Or.inl ⟨by rfl, fun W hW => by go_simp⟩) (by assumption) ?_
  try simp only [Act.put, List.setIfInBounds_toArray, List.set_cons_zero, List.set_cons_succ]
  refine wpAnyH_done (by kernel_rfl) ?_ _
  refine NoPanic.normal ?_
  cases gb with
  | true =>
    clear hHeld hy hgb PX PY zX zY M1 N1
    have Bc := B1.trans (Bs2.mono B1.size)
    go_wp2_with fail
    refine (alive_any _ (tab_below htab Bc)).mono ?_
    rintro e w9 ⟨rfl, b9⟩
    have B9 := Bc.trans (b9.mono Bc.size)
    clear b9 Bc
    go_wp2
    go_ret
    exact ⟨rfl, B9⟩
  | false =>
    have PX2 := (Bs2.block _ zX).trans PX
    have PY2 := (Bs2.block _ zY).trans PY
    have Bc := B1.trans (Bs2.mono B1.size)
    have ba := below_one ws2 (.cells #[.int .u8 (m.say.toNat : Int), .int .u8 (m.src.toNat : Int), .int .u8 (m.dst.toNat : Int), .int .u32 (m.g.toNat : Int), .slice none 0 0, .slice none 0 0] 27)
    have zX2 := Nat.lt_of_lt_of_le zX Bs2.size
    have zY2 := Nat.lt_of_lt_of_le zY Bs2.size
    have PX3 := (ba.block _ zX2).trans PX2
    have PY3 := (ba.block _ zY2).trans PY2
    have PB3 := heap_alloc_new ws2 (.cells #[.int .u8 (m.say.toNat : Int), .int .u8 (m.src.toNat : Int), .int .u8 (m.dst.toNat : Int), .int .u32 (m.g.toNat : Int), .slice none 0 0, .slice none 0 0] 27)
    have zX3 := Nat.lt_of_lt_of_le zX2 ba.size
    have zY3 := Nat.lt_of_lt_of_le zY2 ba.size
    have zB3 : ws2.heap.size < (ws2.alloc (.cells #[.int .u8 (m.say.toNat : Int), .int .u8 (m.src.toNat : Int), .int .u8 (m.dst.toNat : Int), .int .u32 (m.g.toNat : Int), .slice none 0 0, .slice none 0 0] 27)).heap.size := by simp
    have B3 := Bc.trans (ba.mono Bc.size)
    obtain ⟨m0, m1, m2, m3, m4, m5⟩ := six_cells PX2
    obtain ⟨u0, u1, u2, u3, u4, u5⟩ := six_cells PX3
    obtain ⟨n0, n1, n2, n3, n4, n5⟩ := six_cells PY3
    clear hy hgb hHeld PX PY PX2 PY2 zX zY zX2 zY2 Bc ba M1 N1
    go_wp2_with fail
    generalize ws2.alloc (.cells #[.int .u8 (m.say.toNat : Int), .int .u8 (m.src.toNat : Int), .int .u8 (m.dst.toNat : Int), .int .u32 (m.g.toNat : Int), .slice none 0 0, .slice none 0 0] 27) = w5 at *
    generalize ws2.heap.size = XB at *
    clear m0 m1 m2 m3 m4 m5 u0 u1 u2 u3 u4 u5 n0 n1 n2 n3 n4 n5
    have c0 : Below w5.heap.size w5 w5.drew := ⟨rfl, rfl, rfl, Nat.le_refl _, fun _ _ => rfl⟩
    refine wp_region_noPanic ?_
    refine wp_region_held_drew (S := fun W => Below w5.heap.size w5 W) (by kernel_rfl) c0 (fun hHeld => ?_)
    refine wpAnyH_take (i := 0) (oi := { dst := some 47, op := Go.Op.load 27 (Go.Operand.tmp 5), type := 27, pos := _, after := #[], guard := none }) (v := .agg #[.int .u8 (m.say.toNat : Int), .int .u8 (m.src.toNat : Int), .int .u8 (m.dst.toNat : Int), .int .u32 (m.g.toNat : Int), .slice none 0 0, .slice none 0 0]) rfl (by kernel_rfl) (by kernel_rfl) (by kernel_rfl) (fun _ _ _ h => h) (Or.inl ⟨by rfl, fun W hW => by obtain ⟨t0, t1, t2, t3, t4, t5⟩ := six_cells ((hW.block _ zB3).trans PB3); go_simp⟩) (by assumption) ?_
    try simp only [Act.put, List.setIfInBounds_toArray, List.set_cons_zero, List.set_cons_succ]
    refine wpAnyH_take (i := 2) (oi := { dst := some 49, op := Go.Op.load 27 (Go.Operand.tmp 2), type := 27, pos := _, after := #[], guard := none }) (v := .agg #[.int .u8 (m.say.toNat : Int), .int .u8 (m.src.toNat : Int), .int .u8 (m.dst.toNat : Int), .int .u32 (m.g.toNat : Int), .slice ao m.ops.length ca, .slice bo l.length cb]) rfl (by kernel_rfl) (by kernel_rfl) (by kernel_rfl) (fun _ _ _ h => h) (Or.inl ⟨by rfl, fun W hW => by obtain ⟨t0, t1, t2, t3, t4, t5⟩ := six_cells ((hW.block _ zX3).trans PX3); go_simp⟩) (by assumption) ?_
    try simp only [Act.put, List.setIfInBounds_toArray, List.set_cons_zero, List.set_cons_succ]
    refine wpAnyH_ready (rs := [1]) (by kernel_rfl) (by simp) ?_
    refine AllReadyH.cons (o := { dst := some 48, op := Go.Op.call { callee := Go.Callee.value (Go.Operand.func 15), args := #[Go.Operand.tmp 47], argTypes := #[27] }, type := 9, pos := _, after := #[{ on := 0, ground := Go.Ground.data }], guard := none }) rfl (fun K hK => ?_) AllReadyH.nil
    go_simp
    refine (kM _ _ _ _ _ _ w5.drew (B3.trans (c0.mono B3.size))).mono ?_
    rintro e wt1 ⟨rfl, bt1⟩
    have Bt1 := c0.trans (bt1.mono c0.size)
    go_wp2_with fail
    refine hK.out _ _ Bt1 (fun hHeld => ?_)
    clear hK K bt1
    try simp only [Act.put, List.setIfInBounds_toArray, List.set_cons_zero, List.set_cons_succ]
    refine wpAnyH_ready (rs := [3]) (by kernel_rfl) (by simp) ?_
    refine AllReadyH.cons (o := { dst := some 50, op := Go.Op.call { callee := Go.Callee.value (Go.Operand.func 15), args := #[Go.Operand.tmp 49], argTypes := #[27] }, type := 9, pos := _, after := #[{ on := 2, ground := Go.Ground.data }, { on := 1, ground := Go.Ground.chain }], guard := none }) rfl (fun K hK => ?_) AllReadyH.nil
    go_simp
    refine (kM _ _ _ _ _ _ wt1 (B3.trans (Bt1.mono B3.size))).mono ?_
    rintro e wt2 ⟨rfl, bt2⟩
    have Bt2 := Bt1.trans (bt2.mono Bt1.size)
    go_wp2_with fail
    refine hK.out _ _ Bt2 (fun hHeld => ?_)
    clear hK K bt2
    try simp only [Act.put, List.setIfInBounds_toArray, List.set_cons_zero, List.set_cons_succ]
    refine wpAnyH_take (i := 4) (oi := { dst := some 51, op := Go.Op.binOp Go.BinOp.eql 9 (Go.Operand.tmp 48) (Go.Operand.tmp 50) 9, type := 4, pos := _, after := #[{ on := 1, ground := Go.Ground.data }, { on := 3, ground := Go.Ground.data }], guard := none }) (v := .bool true) rfl (by kernel_rfl) (by kernel_rfl) (by kernel_rfl) (fun _ _ _ h => h) (Or.inl ⟨by rfl, fun W hW => by go_simp⟩) (by assumption) ?_
    try simp only [Act.put, List.setIfInBounds_toArray, List.set_cons_zero, List.set_cons_succ]
    refine wpAnyH_take (i := 5) (oi := { dst := some 52, op := Go.Op.move (Go.Operand.tmp 51), type := 4, pos := _, after := #[{ on := 4, ground := Go.Ground.data }, { on := 3, ground := Go.Ground.chain }], guard := none }) (v := .bool true) rfl (by kernel_rfl) (by kernel_rfl) (by kernel_rfl) (fun _ _ _ h => h) (Or.inl ⟨by rfl, fun W hW => by go_simp⟩) (by assumption) ?_
    try simp only [Act.put, List.setIfInBounds_toArray, List.set_cons_zero, List.set_cons_succ]
    refine wpAnyH_take (i := 6) (oi := { dst := some 53, op := Go.Op.load 27 (Go.Operand.tmp 2), type := 27, pos := _, after := #[{ on := 5, ground := Go.Ground.guard }], guard := some (5, true) }) (v := .agg #[.int .u8 (m.say.toNat : Int), .int .u8 (m.src.toNat : Int), .int .u8 (m.dst.toNat : Int), .int .u32 (m.g.toNat : Int), .slice ao m.ops.length ca, .slice bo l.length cb]) rfl (by kernel_rfl) (by kernel_rfl) (by kernel_rfl) (fun _ _ _ h => h) (Or.inl ⟨by rfl, fun W hW => by obtain ⟨t0, t1, t2, t3, t4, t5⟩ := six_cells ((hW.block _ zX3).trans PX3); go_simp⟩) (by assumption) ?_
    try simp only [Act.put, List.setIfInBounds_toArray, List.set_cons_zero, List.set_cons_succ]
    refine wpAnyH_take (i := 8) (oi := { dst := some 55, op := Go.Op.load 27 (Go.Operand.tmp 3), type := 27, pos := _, after := #[{ on := 5, ground := Go.Ground.guard }], guard := some (5, true) }) (v := .agg #[.int .u8 (n.say.toNat : Int), .int .u8 (n.src.toNat : Int), .int .u8 (n.dst.toNat : Int), .int .u32 (n.g.toNat : Int), .slice co n.ops.length cc, .slice eo k.length ce]) rfl (by kernel_rfl) (by kernel_rfl) (by kernel_rfl) (fun _ _ _ h => h) (Or.inl ⟨by rfl, fun W hW => by obtain ⟨t0, t1, t2, t3, t4, t5⟩ := six_cells ((hW.block _ zY3).trans PY3); go_simp⟩) (by assumption) ?_
    try simp only [Act.put, List.setIfInBounds_toArray, List.set_cons_zero, List.set_cons_succ]
    refine wpAnyH_take (i := 11) (oi := { dst := some 58, op := Go.Op.move (Go.Operand.tmp 6), type := 4, pos := _, after := #[{ on := 5, ground := Go.Ground.guard }], guard := some (5, true) }) (v := .bool false) rfl (by kernel_rfl) (by kernel_rfl) (by kernel_rfl) (fun _ _ _ h => h) (Or.inl ⟨by rfl, fun W hW => by go_simp⟩) (by assumption) ?_
    try simp only [Act.put, List.setIfInBounds_toArray, List.set_cons_zero, List.set_cons_succ]
    refine wpAnyH_ready (rs := [7]) (by kernel_rfl) (by simp) ?_
    refine AllReadyH.cons (o := { dst := some 54, op := Go.Op.call { callee := Go.Callee.value (Go.Operand.func 15), args := #[Go.Operand.tmp 53], argTypes := #[27] }, type := 9, pos := _, after := #[{ on := 6, ground := Go.Ground.data }, { on := 5, ground := Go.Ground.chain }, { on := 5, ground := Go.Ground.guard }], guard := some (5, true) }) rfl (fun K hK => ?_) AllReadyH.nil
    go_simp
    refine (kM _ _ _ _ _ _ wt2 (B3.trans (Bt2.mono B3.size))).mono ?_
    rintro e wt3 ⟨rfl, bt3⟩
    have Bt3 := Bt2.trans (bt3.mono Bt2.size)
    go_wp2_with fail
    refine hK.out _ _ Bt3 (fun hHeld => ?_)
    clear hK K bt3
    try simp only [Act.put, List.setIfInBounds_toArray, List.set_cons_zero, List.set_cons_succ]
    refine wpAnyH_ready (rs := [9]) (by kernel_rfl) (by simp) ?_
    refine AllReadyH.cons (o := { dst := some 56, op := Go.Op.call { callee := Go.Callee.value (Go.Operand.func 15), args := #[Go.Operand.tmp 55], argTypes := #[27] }, type := 9, pos := _, after := #[{ on := 8, ground := Go.Ground.data }, { on := 7, ground := Go.Ground.chain }, { on := 5, ground := Go.Ground.guard }], guard := some (5, true) }) rfl (fun K hK => ?_) AllReadyH.nil
    go_simp
    refine (kN _ _ _ _ _ _ wt3 (B3.trans (Bt3.mono B3.size))).mono ?_
    rintro e wt4 ⟨rfl, bt4⟩
    have Bt4 := Bt3.trans (bt4.mono Bt3.size)
    go_wp2_with fail
    refine hK.out _ _ Bt4 (fun hHeld => ?_)
    clear hK K bt4
    try simp only [Act.put, List.setIfInBounds_toArray, List.set_cons_zero, List.set_cons_succ]
    refine wpAnyH_take (i := 10) (oi := { dst := some 57, op := Go.Op.binOp Go.BinOp.eql 9 (Go.Operand.tmp 54) (Go.Operand.tmp 56) 9, type := 4, pos := _, after := #[{ on := 7, ground := Go.Ground.data }, { on := 9, ground := Go.Ground.data }, { on := 5, ground := Go.Ground.guard }], guard := some (5, true) }) (v := .bool false) rfl (by kernel_rfl) (by kernel_rfl) (by kernel_rfl) (fun _ _ _ h => h) (Or.inl ⟨by rfl, fun W hW => by have h1 := HE.out; go_simp <;> exact h1⟩) (by assumption) ?_
    try simp only [Act.put, List.setIfInBounds_toArray, List.set_cons_zero, List.set_cons_succ]
    refine wpAnyH_take (i := 12) (oi := { dst := some 59, op := Go.Op.binOp Go.BinOp.eql 4 (Go.Operand.tmp 57) (Go.Operand.tmp 58) 4, type := 4, pos := _, after := #[{ on := 10, ground := Go.Ground.data }, { on := 11, ground := Go.Ground.data }, { on := 5, ground := Go.Ground.guard }], guard := some (5, true) }) (v := .bool true) rfl (by kernel_rfl) (by kernel_rfl) (by kernel_rfl) (fun _ _ _ h => h) (Or.inl ⟨by rfl, fun W hW => by go_simp⟩) (by assumption) ?_
    try simp only [Act.put, List.setIfInBounds_toArray, List.set_cons_zero, List.set_cons_succ]
    refine wpAnyH_take (i := 13) (oi := { dst := some 60, op := Go.Op.pick (Go.Operand.tmp 52) (Go.Operand.tmp 59) (Go.Operand.const (Go.Value.bool false)), type := 4, pos := _, after := #[{ on := 5, ground := Go.Ground.data }, { on := 12, ground := Go.Ground.data }], guard := none }) (v := .bool true) rfl (by kernel_rfl) (by kernel_rfl) (by kernel_rfl) (fun _ _ _ h => h) (Or.inl ⟨by rfl, fun W hW => by go_simp⟩) (by assumption) ?_
    try simp only [Act.put, List.setIfInBounds_toArray, List.set_cons_zero, List.set_cons_succ]
    refine wpAnyH_take (i := 14) (oi := { dst := some 4, op := Go.Op.assign (Go.Operand.tmp 60), type := 4, pos := _, after := #[{ on := 13, ground := Go.Ground.data }, { on := 9, ground := Go.Ground.chain }, { on := 0, ground := Go.Ground.phase }, { on := 1, ground := Go.Ground.phase }, { on := 2, ground := Go.Ground.phase }, { on := 3, ground := Go.Ground.phase }, { on := 4, ground := Go.Ground.phase }, { on := 5, ground := Go.Ground.phase }, { on := 6, ground := Go.Ground.phase }, { on := 7, ground := Go.Ground.phase }, { on := 8, ground := Go.Ground.phase }, { on := 9, ground := Go.Ground.phase }, { on := 10, ground := Go.Ground.phase }, { on := 11, ground := Go.Ground.phase }, { on := 12, ground := Go.Ground.phase }, { on := 13, ground := Go.Ground.phase }], guard := none }) (v := .bool true) rfl (by kernel_rfl) (by kernel_rfl) (by kernel_rfl) (fun _ _ _ h => h) (Or.inl ⟨by rfl, fun W hW => by go_simp⟩) (by assumption) ?_
    try simp only [Act.put, List.setIfInBounds_toArray, List.set_cons_zero, List.set_cons_succ]
    refine wpAnyH_done (by kernel_rfl) ?_ _
    refine NoPanic.normal ?_
    have Bz := B3.trans (Bt4.mono B3.size)
    clear hHeld
    go_wp2
    go_ret
    exact ⟨rfl, Bz⟩
set_option maxHeartbeats 3000000 in
set_option maxRecDepth 1000000 in
theorem lines_1 (w : World) (vo vr uo ur : Value) (m : MsgD) (l : List ResP) (n : MsgD) (k : List ResP) (hm : MsgAt w w.heap.size vo vr m l) (hn : MsgAt w w.heap.size uo ur n k) (htab : Tab w) (e0 : m.say = n.say) (h1 : m.src ≠ n.src) :
    Calls Tryd.prog 5 #[msgV m vo vr, msgV n uo ur] w fun e w' => e = .returned (.bool true) ∧ Below w.heap.size w w' := by
  obtain ⟨ao, ca, bo, cb, rfl, rfl⟩ := hm.form
  obtain ⟨co, cc, eo, ce, rfl, rfl⟩ := hn.form
  unfold msgV
  have t0 : ((m.say.toNat : Int) == (n.say.toNat : Int)) = true := by rw [e0]; exact beq_self_eq_true _
  have t1 : ((m.src.toNat : Int) == (n.src.toNat : Int)) = false := by rw [beq_eq_false_iff_ne]; intro e; exact h1 (UInt8.toNat_inj.1 (by omega))
  have kM : ∀ (a : Option Addr) (p q : Nat) (b : Option Addr) (r s : Nat) W, Below w.heap.size w W → Calls Tryd.prog 15 #[.agg #[.int .u8 (m.say.toNat : Int), .int .u8 (m.src.toNat : Int), .int .u8 (m.dst.toNat : Int), .int .u32 (m.g.toNat : Int), .slice a p q, .slice b r s]] W fun e w' => e = .returned (.string (lineN m.say.toNat m.src.toNat m.dst.toNat m.g.toNat 3)) ∧ Below W.heap.size W w' := fun a p q b r s W hW => Text_any W _ _ _ _ (u8_lt _) (u8_lt _) (u8_lt _) (u32_lt _) a b p q r s (tab_below htab hW)
  have kN : ∀ (a : Option Addr) (p q : Nat) (b : Option Addr) (r s : Nat) W, Below w.heap.size w W → Calls Tryd.prog 15 #[.agg #[.int .u8 (n.say.toNat : Int), .int .u8 (n.src.toNat : Int), .int .u8 (n.dst.toNat : Int), .int .u32 (n.g.toNat : Int), .slice a p q, .slice b r s]] W fun e w' => e = .returned (.string (lineN n.say.toNat n.src.toNat n.dst.toNat n.g.toNat 3)) ∧ Below W.heap.size W w' := fun a p q b r s W hW => Text_any W _ _ _ _ (u8_lt _) (u8_lt _) (u8_lt _) (u32_lt _) a b p q r s (tab_below htab hW)
  have HE : Hid (((lineN m.say.toNat m.src.toNat m.dst.toNat m.g.toNat 3).toList == (lineN n.say.toNat n.src.toNat n.dst.toNat n.g.toNat 3).toList) = false) := by
    show _ = _
    rw [line_eq]
    refine decide_eq_false (fun h => ?_)
    exact h1 (UInt8.toNat_inj.1 h.2.1)
  generalize lineN m.say.toNat m.src.toNat m.dst.toNat m.g.toNat 3 = LM at *
  generalize lineN n.say.toNat n.src.toNat n.dst.toNat n.g.toNat 3 = LN at *
  clear e0 h1
  obtain ⟨w1, hw1⟩ : ∃ w1, w1 = (w.alloc (.cells #[.int .u8 (m.say.toNat : Int), .int .u8 (m.src.toNat : Int), .int .u8 (m.dst.toNat : Int), .int .u32 (m.g.toNat : Int), .slice ao m.ops.length ca, .slice bo l.length cb] 27)).alloc (.cells #[.int .u8 (n.say.toNat : Int), .int .u8 (n.src.toNat : Int), .int .u8 (n.dst.toNat : Int), .int .u32 (n.g.toNat : Int), .slice co n.ops.length cc, .slice eo k.length ce] 27) := ⟨_, rfl⟩
  have B1 : Below w.heap.size w w1 := by rw [hw1]; exact ((Below.refl _ _).alloc (Nat.le_refl _) _).alloc (by simp) _
  have PX : w1.heap[w.heap.size]? = some (.cells #[.int .u8 (m.say.toNat : Int), .int .u8 (m.src.toNat : Int), .int .u8 (m.dst.toNat : Int), .int .u32 (m.g.toNat : Int), .slice ao m.ops.length ca, .slice bo l.length cb] 27 (0, 0)) := by rw [hw1]; exact alloc_block (heap_alloc_new w _) _
  have PY : w1.heap[w.heap.size + 1]? = some (.cells #[.int .u8 (n.say.toNat : Int), .int .u8 (n.src.toNat : Int), .int .u8 (n.dst.toNat : Int), .int .u32 (n.g.toNat : Int), .slice co n.ops.length cc, .slice eo k.length ce] 27 (0, 0)) := by
    rw [hw1]
    have := heap_alloc_new (w.alloc (.cells #[.int .u8 (m.say.toNat : Int), .int .u8 (m.src.toNat : Int), .int .u8 (m.dst.toNat : Int), .int .u32 (m.g.toNat : Int), .slice ao m.ops.length ca, .slice bo l.length cb] 27)) (.cells #[.int .u8 (n.say.toNat : Int), .int .u8 (n.src.toNat : Int), .int .u8 (n.dst.toNat : Int), .int .u32 (n.g.toNat : Int), .slice co n.ops.length cc, .slice eo k.length ce] 27)
    simpa using this
  have zX : w.heap.size < w1.heap.size := by rw [hw1]; simp; omega
  have zY : w.heap.size + 1 < w1.heap.size := by rw [hw1]; simp
  have M1 := hm.up B1
  have N1 := hn.up B1
  clear hm hn
  go_enter Tryd.func5, Tryd.ntmps5
  go_wp2_with fail
  rw [← hw1]
  clear hw1
  have b0 : Below w1.heap.size w1 w1.drew := ⟨rfl, rfl, rfl, Nat.le_refl _, fun _ _ => rfl⟩
  refine wp_region_noPanic ?_
  refine wp_region_held_drew (S := fun W => Below w1.heap.size w1 W) (by kernel_rfl) b0 (fun hHeld => ?_)
  refine wpAnyH_ready (rs := [0]) (by kernel_rfl) (by simp) ?_
  refine AllReadyH.cons (o := { dst := some 7, op := Go.Op.call { callee := Go.Callee.value (Go.Operand.func 7), args := #[], argTypes := #[] }, type := 4, pos := _, after := #[], guard := none }) rfl (fun K hK => ?_) AllReadyH.nil
  go_simp
  refine (alive_any _ (tab_below htab (B1.trans (b0.mono B1.size)))).mono ?_
  rintro e wa ⟨rfl, ba⟩
  have Ba := b0.trans (ba.mono b0.size)
  go_wp2_with fail
  refine hK.out _ _ Ba (fun hHeld => ?_)
  clear hK K ba
  try simp only [Act.put, List.setIfInBounds_toArray, List.set_cons_zero, List.set_cons_succ]
  refine wpAnyH_take (i := 1) (oi := { dst := some 8, op := Go.Op.unOp Go.UnOp.not 4 (Go.Operand.tmp 7), type := 4, pos := _, after := #[{ on := 0, ground := Go.Ground.data }], guard := none }) (v := .bool false) rfl (by kernel_rfl) (by kernel_rfl) (by kernel_rfl) (fun _ _ _ h => h) (Or.inl ⟨by rfl, fun W hW => by go_simp⟩) (by assumption) ?_
  try simp only [Act.put, List.setIfInBounds_toArray, List.set_cons_zero, List.set_cons_succ]
  refine wpAnyH_take (i := 2) (oi := { dst := some 9, op := Go.Op.move (Go.Operand.tmp 8), type := 4, pos := _, after := #[{ on := 1, ground := Go.Ground.data }, { on := 0, ground := Go.Ground.chain }], guard := none }) (v := .bool false) rfl (by kernel_rfl) (by kernel_rfl) (by kernel_rfl) (fun _ _ _ h => h) (Or.inl ⟨by rfl, fun W hW => by go_simp⟩) (by assumption) ?_
  try simp only [Act.put, List.setIfInBounds_toArray, List.set_cons_zero, List.set_cons_succ]
  refine wpAnyH_take (i := 3) (oi := { dst := some 10, op := Go.Op.load 27 (Go.Operand.tmp 2), type := 27, pos := _, after := #[{ on := 2, ground := Go.Ground.guard }], guard := some (2, false) }) (v := .agg #[.int .u8 (m.say.toNat : Int), .int .u8 (m.src.toNat : Int), .int .u8 (m.dst.toNat : Int), .int .u32 (m.g.toNat : Int), .slice ao m.ops.length ca, .slice bo l.length cb]) rfl (by kernel_rfl) (by kernel_rfl) (by kernel_rfl) (fun _ _ _ h => h) (Or.inl ⟨by rfl, fun W hW => by obtain ⟨t0, t1, t2, t3, t4, t5⟩ := six_cells ((hW.block _ zX).trans PX); go_simp⟩) (by assumption) ?_
  try simp only [Act.put, List.setIfInBounds_toArray, List.set_cons_zero, List.set_cons_succ]
  refine wpAnyH_take (i := 5) (oi := { dst := some 12, op := Go.Op.load 27 (Go.Operand.tmp 3), type := 27, pos := _, after := #[{ on := 2, ground := Go.Ground.guard }], guard := some (2, false) }) (v := .agg #[.int .u8 (n.say.toNat : Int), .int .u8 (n.src.toNat : Int), .int .u8 (n.dst.toNat : Int), .int .u32 (n.g.toNat : Int), .slice co n.ops.length cc, .slice eo k.length ce]) rfl (by kernel_rfl) (by kernel_rfl) (by kernel_rfl) (fun _ _ _ h => h) (Or.inl ⟨by rfl, fun W hW => by obtain ⟨t0, t1, t2, t3, t4, t5⟩ := six_cells ((hW.block _ zY).trans PY); go_simp⟩) (by assumption) ?_
  try simp only [Act.put, List.setIfInBounds_toArray, List.set_cons_zero, List.set_cons_succ]
  refine wpAnyH_ready (rs := [4]) (by kernel_rfl) (by simp) ?_
  refine AllReadyH.cons (o := { dst := some 11, op := Go.Op.call { callee := Go.Callee.value (Go.Operand.func 8), args := #[Go.Operand.tmp 10], argTypes := #[27] }, type := 3, pos := _, after := #[{ on := 3, ground := Go.Ground.data }, { on := 2, ground := Go.Ground.chain }, { on := 2, ground := Go.Ground.guard }], guard := some (2, false) }) rfl (fun K hK => ?_) AllReadyH.nil
  go_simp
  refine (msgSize_any wa _ _ m l (M1.up Ba)).mono ?_
  rintro e ws1 ⟨⟨y0, rfl⟩, bs1⟩
  have Bs1 := Ba.trans (bs1.mono Ba.size)
  go_wp2_with fail
  refine hK.out _ _ Bs1 (fun hHeld => ?_)
  clear hK K bs1
  try simp only [Act.put, List.setIfInBounds_toArray, List.set_cons_zero, List.set_cons_succ]
  refine wpAnyH_ready (rs := [6]) (by kernel_rfl) (by simp) ?_
  refine AllReadyH.cons (o := { dst := some 13, op := Go.Op.call { callee := Go.Callee.value (Go.Operand.func 8), args := #[Go.Operand.tmp 12], argTypes := #[27] }, type := 3, pos := _, after := #[{ on := 5, ground := Go.Ground.data }, { on := 4, ground := Go.Ground.chain }, { on := 2, ground := Go.Ground.guard }], guard := some (2, false) }) rfl (fun K hK => ?_) AllReadyH.nil
  go_simp
  refine (msgSize_any ws1 _ _ n k (N1.up Bs1)).mono ?_
  rintro e ws2 ⟨⟨y1, rfl⟩, bs2⟩
  have Bs2 := Bs1.trans (bs2.mono Bs1.size)
  obtain ⟨y, hy⟩ : ∃ y, IntKind.i64.wrap (y0 + y1) = y := ⟨_, rfl⟩
  obtain ⟨gb, hgb⟩ : ∃ gb, decide (5000 < y) = gb := ⟨_, rfl⟩
  go_wp2_with fail
  refine hK.out _ _ Bs2 (fun hHeld => ?_)
  clear hK K bs2
  try simp only [Act.put, List.setIfInBounds_toArray, List.set_cons_zero, List.set_cons_succ]
  refine wpAnyH_take (i := 7) (oi := { dst := some 14, op := Go.Op.binOp Go.BinOp.add 3 (Go.Operand.tmp 11) (Go.Operand.tmp 13) 3, type := 3, pos := _, after := #[{ on := 4, ground := Go.Ground.data }, { on := 6, ground := Go.Ground.data }, { on := 2, ground := Go.Ground.guard }], guard := some (2, false) }) (v := .int .i64 y) rfl (by kernel_rfl) (by kernel_rfl) (by kernel_rfl) (fun _ _ _ h => h) (Or.inl ⟨by rfl, fun W hW => by go_simp⟩) (by assumption) ?_
  try simp only [Act.put, List.setIfInBounds_toArray, List.set_cons_zero, List.set_cons_succ]
  refine wpAnyH_take (i := 8) (oi := { dst := some 15, op := Go.Op.binOp Go.BinOp.gtr 3 (Go.Operand.tmp 14) (Go.Operand.const (Go.Value.int Go.IntKind.i64 5000)) 3, type := 4, pos := _, after := #[{ on := 7, ground := Go.Ground.data }, { on := 2, ground := Go.Ground.guard }], guard := some (2, false) }) (v := .bool gb) rfl (by kernel_rfl) (by kernel_rfl) (by kernel_rfl) (fun _ _ _ h => h) (Or.inl ⟨by rfl, fun W hW => by go_simp⟩) (by assumption) ?_
  try simp only [Act.put, List.setIfInBounds_toArray, List.set_cons_zero, List.set_cons_succ]
  refine wpAnyH_take (i := 9) (oi := { dst := some 16, op := Go.Op.pick (Go.Operand.tmp 9) (Go.Operand.const (Go.Value.bool true)) (Go.Operand.tmp 15), type := 4, pos := _, after := #[{ on := 2, ground := Go.Ground.data }, { on := 8, ground := Go.Ground.data }], guard := none }) (v := .bool gb) rfl (by kernel_rfl) (by kernel_rfl) (by kernel_rfl) (fun _ _ _ h => h) (Or.inl ⟨by rfl, fun W hW => by go_simp⟩) (by assumption) ?_
  try simp only [Act.put, List.setIfInBounds_toArray, List.set_cons_zero, List.set_cons_succ]
  refine wpAnyH_done (by kernel_rfl) ?_ _
  refine NoPanic.normal ?_
  cases gb with
  | true =>
    clear hHeld hy hgb PX PY zX zY M1 N1
    have Bc := B1.trans (Bs2.mono B1.size)
    go_wp2_with fail
    refine (alive_any _ (tab_below htab Bc)).mono ?_
    rintro e w9 ⟨rfl, b9⟩
    have B9 := Bc.trans (b9.mono Bc.size)
    clear b9 Bc
    go_wp2
    go_ret
    exact ⟨rfl, B9⟩
  | false =>
    have PX2 := (Bs2.block _ zX).trans PX
    have PY2 := (Bs2.block _ zY).trans PY
    have Bc := B1.trans (Bs2.mono B1.size)
    have ba := below_one ws2 (.cells #[.int .u8 (m.say.toNat : Int), .int .u8 (m.src.toNat : Int), .int .u8 (m.dst.toNat : Int), .int .u32 (m.g.toNat : Int), .slice none 0 0, .slice none 0 0] 27)
    have zX2 := Nat.lt_of_lt_of_le zX Bs2.size
    have zY2 := Nat.lt_of_lt_of_le zY Bs2.size
    have PX3 := (ba.block _ zX2).trans PX2
    have PY3 := (ba.block _ zY2).trans PY2
    have PB3 := heap_alloc_new ws2 (.cells #[.int .u8 (m.say.toNat : Int), .int .u8 (m.src.toNat : Int), .int .u8 (m.dst.toNat : Int), .int .u32 (m.g.toNat : Int), .slice none 0 0, .slice none 0 0] 27)
    have zX3 := Nat.lt_of_lt_of_le zX2 ba.size
    have zY3 := Nat.lt_of_lt_of_le zY2 ba.size
    have zB3 : ws2.heap.size < (ws2.alloc (.cells #[.int .u8 (m.say.toNat : Int), .int .u8 (m.src.toNat : Int), .int .u8 (m.dst.toNat : Int), .int .u32 (m.g.toNat : Int), .slice none 0 0, .slice none 0 0] 27)).heap.size := by simp
    have B3 := Bc.trans (ba.mono Bc.size)
    obtain ⟨m0, m1, m2, m3, m4, m5⟩ := six_cells PX2
    obtain ⟨u0, u1, u2, u3, u4, u5⟩ := six_cells PX3
    obtain ⟨n0, n1, n2, n3, n4, n5⟩ := six_cells PY3
    clear hy hgb hHeld PX PY PX2 PY2 zX zY zX2 zY2 Bc ba M1 N1
    go_wp2_with fail
    generalize ws2.alloc (.cells #[.int .u8 (m.say.toNat : Int), .int .u8 (m.src.toNat : Int), .int .u8 (m.dst.toNat : Int), .int .u32 (m.g.toNat : Int), .slice none 0 0, .slice none 0 0] 27) = w5 at *
    generalize ws2.heap.size = XB at *
    clear m0 m1 m2 m3 m4 m5 u0 u1 u2 u3 u4 u5 n0 n1 n2 n3 n4 n5
    have c0 : Below w5.heap.size w5 w5.drew := ⟨rfl, rfl, rfl, Nat.le_refl _, fun _ _ => rfl⟩
    refine wp_region_noPanic ?_
    refine wp_region_held_drew (S := fun W => Below w5.heap.size w5 W) (by kernel_rfl) c0 (fun hHeld => ?_)
    refine wpAnyH_take (i := 0) (oi := { dst := some 47, op := Go.Op.load 27 (Go.Operand.tmp 5), type := 27, pos := _, after := #[], guard := none }) (v := .agg #[.int .u8 (m.say.toNat : Int), .int .u8 (m.src.toNat : Int), .int .u8 (m.dst.toNat : Int), .int .u32 (m.g.toNat : Int), .slice none 0 0, .slice none 0 0]) rfl (by kernel_rfl) (by kernel_rfl) (by kernel_rfl) (fun _ _ _ h => h) (Or.inl ⟨by rfl, fun W hW => by obtain ⟨t0, t1, t2, t3, t4, t5⟩ := six_cells ((hW.block _ zB3).trans PB3); go_simp⟩) (by assumption) ?_
    try simp only [Act.put, List.setIfInBounds_toArray, List.set_cons_zero, List.set_cons_succ]
    refine wpAnyH_take (i := 2) (oi := { dst := some 49, op := Go.Op.load 27 (Go.Operand.tmp 2), type := 27, pos := _, after := #[], guard := none }) (v := .agg #[.int .u8 (m.say.toNat : Int), .int .u8 (m.src.toNat : Int), .int .u8 (m.dst.toNat : Int), .int .u32 (m.g.toNat : Int), .slice ao m.ops.length ca, .slice bo l.length cb]) rfl (by kernel_rfl) (by kernel_rfl) (by kernel_rfl) (fun _ _ _ h => h) (Or.inl ⟨by rfl, fun W hW => by obtain ⟨t0, t1, t2, t3, t4, t5⟩ := six_cells ((hW.block _ zX3).trans PX3); go_simp⟩) (by assumption) ?_
    try simp only [Act.put, List.setIfInBounds_toArray, List.set_cons_zero, List.set_cons_succ]
    refine wpAnyH_ready (rs := [1]) (by kernel_rfl) (by simp) ?_
    refine AllReadyH.cons (o := { dst := some 48, op := Go.Op.call { callee := Go.Callee.value (Go.Operand.func 15), args := #[Go.Operand.tmp 47], argTypes := #[27] }, type := 9, pos := _, after := #[{ on := 0, ground := Go.Ground.data }], guard := none }) rfl (fun K hK => ?_) AllReadyH.nil
    go_simp
    refine (kM _ _ _ _ _ _ w5.drew (B3.trans (c0.mono B3.size))).mono ?_
    rintro e wt1 ⟨rfl, bt1⟩
    have Bt1 := c0.trans (bt1.mono c0.size)
    go_wp2_with fail
    refine hK.out _ _ Bt1 (fun hHeld => ?_)
    clear hK K bt1
    try simp only [Act.put, List.setIfInBounds_toArray, List.set_cons_zero, List.set_cons_succ]
    refine wpAnyH_ready (rs := [3]) (by kernel_rfl) (by simp) ?_
    refine AllReadyH.cons (o := { dst := some 50, op := Go.Op.call { callee := Go.Callee.value (Go.Operand.func 15), args := #[Go.Operand.tmp 49], argTypes := #[27] }, type := 9, pos := _, after := #[{ on := 2, ground := Go.Ground.data }, { on := 1, ground := Go.Ground.chain }], guard := none }) rfl (fun K hK => ?_) AllReadyH.nil
    go_simp
    refine (kM _ _ _ _ _ _ wt1 (B3.trans (Bt1.mono B3.size))).mono ?_
    rintro e wt2 ⟨rfl, bt2⟩
    have Bt2 := Bt1.trans (bt2.mono Bt1.size)
    go_wp2_with fail
    refine hK.out _ _ Bt2 (fun hHeld => ?_)
    clear hK K bt2
    try simp only [Act.put, List.setIfInBounds_toArray, List.set_cons_zero, List.set_cons_succ]
    refine wpAnyH_take (i := 4) (oi := { dst := some 51, op := Go.Op.binOp Go.BinOp.eql 9 (Go.Operand.tmp 48) (Go.Operand.tmp 50) 9, type := 4, pos := _, after := #[{ on := 1, ground := Go.Ground.data }, { on := 3, ground := Go.Ground.data }], guard := none }) (v := .bool true) rfl (by kernel_rfl) (by kernel_rfl) (by kernel_rfl) (fun _ _ _ h => h) (Or.inl ⟨by rfl, fun W hW => by go_simp⟩) (by assumption) ?_
    try simp only [Act.put, List.setIfInBounds_toArray, List.set_cons_zero, List.set_cons_succ]
    refine wpAnyH_take (i := 5) (oi := { dst := some 52, op := Go.Op.move (Go.Operand.tmp 51), type := 4, pos := _, after := #[{ on := 4, ground := Go.Ground.data }, { on := 3, ground := Go.Ground.chain }], guard := none }) (v := .bool true) rfl (by kernel_rfl) (by kernel_rfl) (by kernel_rfl) (fun _ _ _ h => h) (Or.inl ⟨by rfl, fun W hW => by go_simp⟩) (by assumption) ?_
    try simp only [Act.put, List.setIfInBounds_toArray, List.set_cons_zero, List.set_cons_succ]
    refine wpAnyH_take (i := 6) (oi := { dst := some 53, op := Go.Op.load 27 (Go.Operand.tmp 2), type := 27, pos := _, after := #[{ on := 5, ground := Go.Ground.guard }], guard := some (5, true) }) (v := .agg #[.int .u8 (m.say.toNat : Int), .int .u8 (m.src.toNat : Int), .int .u8 (m.dst.toNat : Int), .int .u32 (m.g.toNat : Int), .slice ao m.ops.length ca, .slice bo l.length cb]) rfl (by kernel_rfl) (by kernel_rfl) (by kernel_rfl) (fun _ _ _ h => h) (Or.inl ⟨by rfl, fun W hW => by obtain ⟨t0, t1, t2, t3, t4, t5⟩ := six_cells ((hW.block _ zX3).trans PX3); go_simp⟩) (by assumption) ?_
    try simp only [Act.put, List.setIfInBounds_toArray, List.set_cons_zero, List.set_cons_succ]
    refine wpAnyH_take (i := 8) (oi := { dst := some 55, op := Go.Op.load 27 (Go.Operand.tmp 3), type := 27, pos := _, after := #[{ on := 5, ground := Go.Ground.guard }], guard := some (5, true) }) (v := .agg #[.int .u8 (n.say.toNat : Int), .int .u8 (n.src.toNat : Int), .int .u8 (n.dst.toNat : Int), .int .u32 (n.g.toNat : Int), .slice co n.ops.length cc, .slice eo k.length ce]) rfl (by kernel_rfl) (by kernel_rfl) (by kernel_rfl) (fun _ _ _ h => h) (Or.inl ⟨by rfl, fun W hW => by obtain ⟨t0, t1, t2, t3, t4, t5⟩ := six_cells ((hW.block _ zY3).trans PY3); go_simp⟩) (by assumption) ?_
    try simp only [Act.put, List.setIfInBounds_toArray, List.set_cons_zero, List.set_cons_succ]
    refine wpAnyH_take (i := 11) (oi := { dst := some 58, op := Go.Op.move (Go.Operand.tmp 6), type := 4, pos := _, after := #[{ on := 5, ground := Go.Ground.guard }], guard := some (5, true) }) (v := .bool false) rfl (by kernel_rfl) (by kernel_rfl) (by kernel_rfl) (fun _ _ _ h => h) (Or.inl ⟨by rfl, fun W hW => by go_simp⟩) (by assumption) ?_
    try simp only [Act.put, List.setIfInBounds_toArray, List.set_cons_zero, List.set_cons_succ]
    refine wpAnyH_ready (rs := [7]) (by kernel_rfl) (by simp) ?_
    refine AllReadyH.cons (o := { dst := some 54, op := Go.Op.call { callee := Go.Callee.value (Go.Operand.func 15), args := #[Go.Operand.tmp 53], argTypes := #[27] }, type := 9, pos := _, after := #[{ on := 6, ground := Go.Ground.data }, { on := 5, ground := Go.Ground.chain }, { on := 5, ground := Go.Ground.guard }], guard := some (5, true) }) rfl (fun K hK => ?_) AllReadyH.nil
    go_simp
    refine (kM _ _ _ _ _ _ wt2 (B3.trans (Bt2.mono B3.size))).mono ?_
    rintro e wt3 ⟨rfl, bt3⟩
    have Bt3 := Bt2.trans (bt3.mono Bt2.size)
    go_wp2_with fail
    refine hK.out _ _ Bt3 (fun hHeld => ?_)
    clear hK K bt3
    try simp only [Act.put, List.setIfInBounds_toArray, List.set_cons_zero, List.set_cons_succ]
    refine wpAnyH_ready (rs := [9]) (by kernel_rfl) (by simp) ?_
    refine AllReadyH.cons (o := { dst := some 56, op := Go.Op.call { callee := Go.Callee.value (Go.Operand.func 15), args := #[Go.Operand.tmp 55], argTypes := #[27] }, type := 9, pos := _, after := #[{ on := 8, ground := Go.Ground.data }, { on := 7, ground := Go.Ground.chain }, { on := 5, ground := Go.Ground.guard }], guard := some (5, true) }) rfl (fun K hK => ?_) AllReadyH.nil
    go_simp
    refine (kN _ _ _ _ _ _ wt3 (B3.trans (Bt3.mono B3.size))).mono ?_
    rintro e wt4 ⟨rfl, bt4⟩
    have Bt4 := Bt3.trans (bt4.mono Bt3.size)
    go_wp2_with fail
    refine hK.out _ _ Bt4 (fun hHeld => ?_)
    clear hK K bt4
    try simp only [Act.put, List.setIfInBounds_toArray, List.set_cons_zero, List.set_cons_succ]
    refine wpAnyH_take (i := 10) (oi := { dst := some 57, op := Go.Op.binOp Go.BinOp.eql 9 (Go.Operand.tmp 54) (Go.Operand.tmp 56) 9, type := 4, pos := _, after := #[{ on := 7, ground := Go.Ground.data }, { on := 9, ground := Go.Ground.data }, { on := 5, ground := Go.Ground.guard }], guard := some (5, true) }) (v := .bool false) rfl (by kernel_rfl) (by kernel_rfl) (by kernel_rfl) (fun _ _ _ h => h) (Or.inl ⟨by rfl, fun W hW => by have h1 := HE.out; go_simp <;> exact h1⟩) (by assumption) ?_
    try simp only [Act.put, List.setIfInBounds_toArray, List.set_cons_zero, List.set_cons_succ]
    refine wpAnyH_take (i := 12) (oi := { dst := some 59, op := Go.Op.binOp Go.BinOp.eql 4 (Go.Operand.tmp 57) (Go.Operand.tmp 58) 4, type := 4, pos := _, after := #[{ on := 10, ground := Go.Ground.data }, { on := 11, ground := Go.Ground.data }, { on := 5, ground := Go.Ground.guard }], guard := some (5, true) }) (v := .bool true) rfl (by kernel_rfl) (by kernel_rfl) (by kernel_rfl) (fun _ _ _ h => h) (Or.inl ⟨by rfl, fun W hW => by go_simp⟩) (by assumption) ?_
    try simp only [Act.put, List.setIfInBounds_toArray, List.set_cons_zero, List.set_cons_succ]
    refine wpAnyH_take (i := 13) (oi := { dst := some 60, op := Go.Op.pick (Go.Operand.tmp 52) (Go.Operand.tmp 59) (Go.Operand.const (Go.Value.bool false)), type := 4, pos := _, after := #[{ on := 5, ground := Go.Ground.data }, { on := 12, ground := Go.Ground.data }], guard := none }) (v := .bool true) rfl (by kernel_rfl) (by kernel_rfl) (by kernel_rfl) (fun _ _ _ h => h) (Or.inl ⟨by rfl, fun W hW => by go_simp⟩) (by assumption) ?_
    try simp only [Act.put, List.setIfInBounds_toArray, List.set_cons_zero, List.set_cons_succ]
    refine wpAnyH_take (i := 14) (oi := { dst := some 4, op := Go.Op.assign (Go.Operand.tmp 60), type := 4, pos := _, after := #[{ on := 13, ground := Go.Ground.data }, { on := 9, ground := Go.Ground.chain }, { on := 0, ground := Go.Ground.phase }, { on := 1, ground := Go.Ground.phase }, { on := 2, ground := Go.Ground.phase }, { on := 3, ground := Go.Ground.phase }, { on := 4, ground := Go.Ground.phase }, { on := 5, ground := Go.Ground.phase }, { on := 6, ground := Go.Ground.phase }, { on := 7, ground := Go.Ground.phase }, { on := 8, ground := Go.Ground.phase }, { on := 9, ground := Go.Ground.phase }, { on := 10, ground := Go.Ground.phase }, { on := 11, ground := Go.Ground.phase }, { on := 12, ground := Go.Ground.phase }, { on := 13, ground := Go.Ground.phase }], guard := none }) (v := .bool true) rfl (by kernel_rfl) (by kernel_rfl) (by kernel_rfl) (fun _ _ _ h => h) (Or.inl ⟨by rfl, fun W hW => by go_simp⟩) (by assumption) ?_
    try simp only [Act.put, List.setIfInBounds_toArray, List.set_cons_zero, List.set_cons_succ]
    refine wpAnyH_done (by kernel_rfl) ?_ _
    refine NoPanic.normal ?_
    have Bz := B3.trans (Bt4.mono B3.size)
    clear hHeld
    go_wp2
    go_ret
    exact ⟨rfl, Bz⟩
set_option maxHeartbeats 3000000 in
set_option maxRecDepth 1000000 in
theorem lines_2 (w : World) (vo vr uo ur : Value) (m : MsgD) (l : List ResP) (n : MsgD) (k : List ResP) (hm : MsgAt w w.heap.size vo vr m l) (hn : MsgAt w w.heap.size uo ur n k) (htab : Tab w) (e0 : m.say = n.say) (e1 : m.src = n.src) (h2 : m.dst ≠ n.dst) :
    Calls Tryd.prog 5 #[msgV m vo vr, msgV n uo ur] w fun e w' => e = .returned (.bool true) ∧ Below w.heap.size w w' := by
  obtain ⟨ao, ca, bo, cb, rfl, rfl⟩ := hm.form
  obtain ⟨co, cc, eo, ce, rfl, rfl⟩ := hn.form
  unfold msgV
  have t0 : ((m.say.toNat : Int) == (n.say.toNat : Int)) = true := by rw [e0]; exact beq_self_eq_true _
  have t1 : ((m.src.toNat : Int) == (n.src.toNat : Int)) = true := by rw [e1]; exact beq_self_eq_true _
  have t2 : ((m.dst.toNat : Int) == (n.dst.toNat : Int)) = false := by rw [beq_eq_false_iff_ne]; intro e; exact h2 (UInt8.toNat_inj.1 (by omega))
  have kM : ∀ (a : Option Addr) (p q : Nat) (b : Option Addr) (r s : Nat) W, Below w.heap.size w W → Calls Tryd.prog 15 #[.agg #[.int .u8 (m.say.toNat : Int), .int .u8 (m.src.toNat : Int), .int .u8 (m.dst.toNat : Int), .int .u32 (m.g.toNat : Int), .slice a p q, .slice b r s]] W fun e w' => e = .returned (.string (lineN m.say.toNat m.src.toNat m.dst.toNat m.g.toNat 3)) ∧ Below W.heap.size W w' := fun a p q b r s W hW => Text_any W _ _ _ _ (u8_lt _) (u8_lt _) (u8_lt _) (u32_lt _) a b p q r s (tab_below htab hW)
  have kN : ∀ (a : Option Addr) (p q : Nat) (b : Option Addr) (r s : Nat) W, Below w.heap.size w W → Calls Tryd.prog 15 #[.agg #[.int .u8 (n.say.toNat : Int), .int .u8 (n.src.toNat : Int), .int .u8 (n.dst.toNat : Int), .int .u32 (n.g.toNat : Int), .slice a p q, .slice b r s]] W fun e w' => e = .returned (.string (lineN n.say.toNat n.src.toNat n.dst.toNat n.g.toNat 3)) ∧ Below W.heap.size W w' := fun a p q b r s W hW => Text_any W _ _ _ _ (u8_lt _) (u8_lt _) (u8_lt _) (u32_lt _) a b p q r s (tab_below htab hW)
  have HE : Hid (((lineN m.say.toNat m.src.toNat m.dst.toNat m.g.toNat 3).toList == (lineN n.say.toNat n.src.toNat n.dst.toNat n.g.toNat 3).toList) = false) := by
    show _ = _
    rw [line_eq]
    refine decide_eq_false (fun h => ?_)
    exact h2 (UInt8.toNat_inj.1 h.2.2.1)
  generalize lineN m.say.toNat m.src.toNat m.dst.toNat m.g.toNat 3 = LM at *
  generalize lineN n.say.toNat n.src.toNat n.dst.toNat n.g.toNat 3 = LN at *
  clear e0 e1 h2
  obtain ⟨w1, hw1⟩ : ∃ w1, w1 = (w.alloc (.cells #[.int .u8 (m.say.toNat : Int), .int .u8 (m.src.toNat : Int), .int .u8 (m.dst.toNat : Int), .int .u32 (m.g.toNat : Int), .slice ao m.ops.length ca, .slice bo l.length cb] 27)).alloc (.cells #[.int .u8 (n.say.toNat : Int), .int .u8 (n.src.toNat : Int), .int .u8 (n.dst.toNat : Int), .int .u32 (n.g.toNat : Int), .slice co n.ops.length cc, .slice eo k.length ce] 27) := ⟨_, rfl⟩
  have B1 : Below w.heap.size w w1 := by rw [hw1]; exact ((Below.refl _ _).alloc (Nat.le_refl _) _).alloc (by simp) _
  have PX : w1.heap[w.heap.size]? = some (.cells #[.int .u8 (m.say.toNat : Int), .int .u8 (m.src.toNat : Int), .int .u8 (m.dst.toNat : Int), .int .u32 (m.g.toNat : Int), .slice ao m.ops.length ca, .slice bo l.length cb] 27 (0, 0)) := by rw [hw1]; exact alloc_block (heap_alloc_new w _) _
  have PY : w1.heap[w.heap.size + 1]? = some (.cells #[.int .u8 (n.say.toNat : Int), .int .u8 (n.src.toNat : Int), .int .u8 (n.dst.toNat : Int), .int .u32 (n.g.toNat : Int), .slice co n.ops.length cc, .slice eo k.length ce] 27 (0, 0)) := by
    rw [hw1]
    have := heap_alloc_new (w.alloc (.cells #[.int .u8 (m.say.toNat : Int), .int .u8 (m.src.toNat : Int), .int .u8 (m.dst.toNat : Int), .int .u32 (m.g.toNat : Int), .slice ao m.ops.length ca, .slice bo l.length cb] 27)) (.cells #[.int .u8 (n.say.toNat : Int), .int .u8 (n.src.toNat : Int), .int .u8 (n.dst.toNat : Int), .int .u32 (n.g.toNat : Int), .slice co n.ops.length cc, .slice eo k.length ce] 27)
    simpa using this
  have zX : w.heap.size < w1.heap.size := by rw [hw1]; simp; omega
  have zY : w.heap.size + 1 < w1.heap.size := by rw [hw1]; simp
  have M1 := hm.up B1
  have N1 := hn.up B1
  clear hm hn
  go_enter Tryd.func5, Tryd.ntmps5
  go_wp2_with fail
  rw [← hw1]
  clear hw1
  have b0 : Below w1.heap.size w1 w1.drew := ⟨rfl, rfl, rfl, Nat.le_refl _, fun _ _ => rfl⟩
  refine wp_region_noPanic ?_
  refine wp_region_held_drew (S := fun W => Below w1.heap.size w1 W) (by kernel_rfl) b0 (fun hHeld => ?_)
  refine wpAnyH_ready (rs := [0]) (by kernel_rfl) (by simp) ?_
  refine AllReadyH.cons (o := { dst := some 7, op := Go.Op.call { callee := Go.Callee.value (Go.Operand.func 7), args := #[], argTypes := #[] }, type := 4, pos := _, after := #[], guard := none }) rfl (fun K hK => ?_) AllReadyH.nil
  go_simp
  refine (alive_any _ (tab_below htab (B1.trans (b0.mono B1.size)))).mono ?_
  rintro e wa ⟨rfl, ba⟩
  have Ba := b0.trans (ba.mono b0.size)
  go_wp2_with fail
  refine hK.out _ _ Ba (fun hHeld => ?_)
  clear hK K ba
  try simp only [Act.put, List.setIfInBounds_toArray, List.set_cons_zero, List.set_cons_succ]
  refine wpAnyH_take (i := 1) (oi := { dst := some 8, op := Go.Op.unOp Go.UnOp.not 4 (Go.Operand.tmp 7), type := 4, pos := _, after := #[{ on := 0, ground := Go.Ground.data }], guard := none }) (v := .bool false) rfl (by kernel_rfl) (by kernel_rfl) (by kernel_rfl) (fun _ _ _ h => h) (Or.inl ⟨by rfl, fun W hW => by go_simp⟩) (by assumption) ?_
  try simp only [Act.put, List.setIfInBounds_toArray, List.set_cons_zero, List.set_cons_succ]
  refine wpAnyH_take (i := 2) (oi := { dst := some 9, op := Go.Op.move (Go.Operand.tmp 8), type := 4, pos := _, after := #[{ on := 1, ground := Go.Ground.data }, { on := 0, ground := Go.Ground.chain }], guard := none }) (v := .bool false) rfl (by kernel_rfl) (by kernel_rfl) (by kernel_rfl) (fun _ _ _ h => h) (Or.inl ⟨by rfl, fun W hW => by go_simp⟩) (by assumption) ?_
  try simp only [Act.put, List.setIfInBounds_toArray, List.set_cons_zero, List.set_cons_succ]
  refine wpAnyH_take (i := 3) (oi := { dst := some 10, op := Go.Op.load 27 (Go.Operand.tmp 2), type := 27, pos := _, after := #[{ on := 2, ground := Go.Ground.guard }], guard := some (2, false) }) (v := .agg #[.int .u8 (m.say.toNat : Int), .int .u8 (m.src.toNat : Int), .int .u8 (m.dst.toNat : Int), .int .u32 (m.g.toNat : Int), .slice ao m.ops.length ca, .slice bo l.length cb]) rfl (by kernel_rfl) (by kernel_rfl) (by kernel_rfl) (fun _ _ _ h => h) (Or.inl ⟨by rfl, fun W hW => by obtain ⟨t0, t1, t2, t3, t4, t5⟩ := six_cells ((hW.block _ zX).trans PX); go_simp⟩) (by assumption) ?_
  try simp only [Act.put, List.setIfInBounds_toArray, List.set_cons_zero, List.set_cons_succ]
  refine wpAnyH_take (i := 5) (oi := { dst := some 12, op := Go.Op.load 27 (Go.Operand.tmp 3), type := 27, pos := _, after := #[{ on := 2, ground := Go.Ground.guard }], guard := some (2, false) }) (v := .agg #[.int .u8 (n.say.toNat : Int), .int .u8 (n.src.toNat : Int), .int .u8 (n.dst.toNat : Int), .int .u32 (n.g.toNat : Int), .slice co n.ops.length cc, .slice eo k.length ce]) rfl (by kernel_rfl) (by kernel_rfl) (by kernel_rfl) (fun _ _ _ h => h) (Or.inl ⟨by rfl, fun W hW => by obtain ⟨t0, t1, t2, t3, t4, t5⟩ := six_cells ((hW.block _ zY).trans PY); go_simp⟩) (by assumption) ?_
  try simp only [Act.put, List.setIfInBounds_toArray, List.set_cons_zero, List.set_cons_succ]
  refine wpAnyH_ready (rs := [4]) (by kernel_rfl) (by simp) ?_
  refine AllReadyH.cons (o := { dst := some 11, op := Go.Op.call { callee := Go.Callee.value (Go.Operand.func 8), args := #[Go.Operand.tmp 10], argTypes := #[27] }, type := 3, pos := _, after := #[{ on := 3, ground := Go.Ground.data }, { on := 2, ground := Go.Ground.chain }, { on := 2, ground := Go.Ground.guard }], guard := some (2, false) }) rfl (fun K hK => ?_) AllReadyH.nil
  go_simp
  refine (msgSize_any wa _ _ m l (M1.up Ba)).mono ?_
  rintro e ws1 ⟨⟨y0, rfl⟩, bs1⟩
  have Bs1 := Ba.trans (bs1.mono Ba.size)
  go_wp2_with fail
  refine hK.out _ _ Bs1 (fun hHeld => ?_)
  clear hK K bs1
  try simp only [Act.put, List.setIfInBounds_toArray, List.set_cons_zero, List.set_cons_succ]
  refine wpAnyH_ready (rs := [6]) (by kernel_rfl) (by simp) ?_
  refine AllReadyH.cons (o := { dst := some 13, op := Go.Op.call { callee := Go.Callee.value (Go.Operand.func 8), args := #[Go.Operand.tmp 12], argTypes := #[27] }, type := 3, pos := _, after := #[{ on := 5, ground := Go.Ground.data }, { on := 4, ground := Go.Ground.chain }, { on := 2, ground := Go.Ground.guard }], guard := some (2, false) }) rfl (fun K hK => ?_) AllReadyH.nil
  go_simp
  refine (msgSize_any ws1 _ _ n k (N1.up Bs1)).mono ?_
  rintro e ws2 ⟨⟨y1, rfl⟩, bs2⟩
  have Bs2 := Bs1.trans (bs2.mono Bs1.size)
  obtain ⟨y, hy⟩ : ∃ y, IntKind.i64.wrap (y0 + y1) = y := ⟨_, rfl⟩
  obtain ⟨gb, hgb⟩ : ∃ gb, decide (5000 < y) = gb := ⟨_, rfl⟩
  go_wp2_with fail
  refine hK.out _ _ Bs2 (fun hHeld => ?_)
  clear hK K bs2
  try simp only [Act.put, List.setIfInBounds_toArray, List.set_cons_zero, List.set_cons_succ]
  refine wpAnyH_take (i := 7) (oi := { dst := some 14, op := Go.Op.binOp Go.BinOp.add 3 (Go.Operand.tmp 11) (Go.Operand.tmp 13) 3, type := 3, pos := _, after := #[{ on := 4, ground := Go.Ground.data }, { on := 6, ground := Go.Ground.data }, { on := 2, ground := Go.Ground.guard }], guard := some (2, false) }) (v := .int .i64 y) rfl (by kernel_rfl) (by kernel_rfl) (by kernel_rfl) (fun _ _ _ h => h) (Or.inl ⟨by rfl, fun W hW => by go_simp⟩) (by assumption) ?_
  try simp only [Act.put, List.setIfInBounds_toArray, List.set_cons_zero, List.set_cons_succ]
  refine wpAnyH_take (i := 8) (oi := { dst := some 15, op := Go.Op.binOp Go.BinOp.gtr 3 (Go.Operand.tmp 14) (Go.Operand.const (Go.Value.int Go.IntKind.i64 5000)) 3, type := 4, pos := _, after := #[{ on := 7, ground := Go.Ground.data }, { on := 2, ground := Go.Ground.guard }], guard := some (2, false) }) (v := .bool gb) rfl (by kernel_rfl) (by kernel_rfl) (by kernel_rfl) (fun _ _ _ h => h) (Or.inl ⟨by rfl, fun W hW => by go_simp⟩) (by assumption) ?_
  try simp only [Act.put, List.setIfInBounds_toArray, List.set_cons_zero, List.set_cons_succ]
  refine wpAnyH_take (i := 9) (oi := { dst := some 16, op := Go.Op.pick (Go.Operand.tmp 9) (Go.Operand.const (Go.Value.bool true)) (Go.Operand.tmp 15), type := 4, pos := _, after := #[{ on := 2, ground := Go.Ground.data }, { on := 8, ground := Go.Ground.data }], guard := none }) (v := .bool gb) rfl (by kernel_rfl) (by kernel_rfl) (by kernel_rfl) (fun _ _ _ h => h) (Or.inl ⟨by rfl, fun W hW => by go_simp⟩) (by assumption) ?_
  try simp only [Act.put, List.setIfInBounds_toArray, List.set_cons_zero, List.set_cons_succ]
  refine wpAnyH_done (by kernel_rfl) ?_ _
  refine NoPanic.normal ?_
  cases gb with
  | true =>
    clear hHeld hy hgb PX PY zX zY M1 N1
    have Bc := B1.trans (Bs2.mono B1.size)
    go_wp2_with fail
    refine (alive_any _ (tab_below htab Bc)).mono ?_
    rintro e w9 ⟨rfl, b9⟩
    have B9 := Bc.trans (b9.mono Bc.size)
    clear b9 Bc
    go_wp2
    go_ret
    exact ⟨rfl, B9⟩
  | false =>
    have PX2 := (Bs2.block _ zX).trans PX
    have PY2 := (Bs2.block _ zY).trans PY
    have Bc := B1.trans (Bs2.mono B1.size)
    have ba := below_one ws2 (.cells #[.int .u8 (m.say.toNat : Int), .int .u8 (m.src.toNat : Int), .int .u8 (m.dst.toNat : Int), .int .u32 (m.g.toNat : Int), .slice none 0 0, .slice none 0 0] 27)
    have zX2 := Nat.lt_of_lt_of_le zX Bs2.size
    have zY2 := Nat.lt_of_lt_of_le zY Bs2.size
    have PX3 := (ba.block _ zX2).trans PX2
    have PY3 := (ba.block _ zY2).trans PY2
    have PB3 := heap_alloc_new ws2 (.cells #[.int .u8 (m.say.toNat : Int), .int .u8 (m.src.toNat : Int), .int .u8 (m.dst.toNat : Int), .int .u32 (m.g.toNat : Int), .slice none 0 0, .slice none 0 0] 27)
    have zX3 := Nat.lt_of_lt_of_le zX2 ba.size
    have zY3 := Nat.lt_of_lt_of_le zY2 ba.size
    have zB3 : ws2.heap.size < (ws2.alloc (.cells #[.int .u8 (m.say.toNat : Int), .int .u8 (m.src.toNat : Int), .int .u8 (m.dst.toNat : Int), .int .u32 (m.g.toNat : Int), .slice none 0 0, .slice none 0 0] 27)).heap.size := by simp
    have B3 := Bc.trans (ba.mono Bc.size)
    obtain ⟨m0, m1, m2, m3, m4, m5⟩ := six_cells PX2
    obtain ⟨u0, u1, u2, u3, u4, u5⟩ := six_cells PX3
    obtain ⟨n0, n1, n2, n3, n4, n5⟩ := six_cells PY3
    clear hy hgb hHeld PX PY PX2 PY2 zX zY zX2 zY2 Bc ba M1 N1
    go_wp2_with fail
    generalize ws2.alloc (.cells #[.int .u8 (m.say.toNat : Int), .int .u8 (m.src.toNat : Int), .int .u8 (m.dst.toNat : Int), .int .u32 (m.g.toNat : Int), .slice none 0 0, .slice none 0 0] 27) = w5 at *
    generalize ws2.heap.size = XB at *
    clear m0 m1 m2 m3 m4 m5 u0 u1 u2 u3 u4 u5 n0 n1 n2 n3 n4 n5
    have c0 : Below w5.heap.size w5 w5.drew := ⟨rfl, rfl, rfl, Nat.le_refl _, fun _ _ => rfl⟩
    refine wp_region_noPanic ?_
    refine wp_region_held_drew (S := fun W => Below w5.heap.size w5 W) (by kernel_rfl) c0 (fun hHeld => ?_)
    refine wpAnyH_take (i := 0) (oi := { dst := some 47, op := Go.Op.load 27 (Go.Operand.tmp 5), type := 27, pos := _, after := #[], guard := none }) (v := .agg #[.int .u8 (m.say.toNat : Int), .int .u8 (m.src.toNat : Int), .int .u8 (m.dst.toNat : Int), .int .u32 (m.g.toNat : Int), .slice none 0 0, .slice none 0 0]) rfl (by kernel_rfl) (by kernel_rfl) (by kernel_rfl) (fun _ _ _ h => h) (Or.inl ⟨by rfl, fun W hW => by obtain ⟨t0, t1, t2, t3, t4, t5⟩ := six_cells ((hW.block _ zB3).trans PB3); go_simp⟩) (by assumption) ?_
    try simp only [Act.put, List.setIfInBounds_toArray, List.set_cons_zero, List.set_cons_succ]
    refine wpAnyH_take (i := 2) (oi := { dst := some 49, op := Go.Op.load 27 (Go.Operand.tmp 2), type := 27, pos := _, after := #[], guard := none }) (v := .agg #[.int .u8 (m.say.toNat : Int), .int .u8 (m.src.toNat : Int), .int .u8 (m.dst.toNat : Int), .int .u32 (m.g.toNat : Int), .slice ao m.ops.length ca, .slice bo l.length cb]) rfl (by kernel_rfl) (by kernel_rfl) (by kernel_rfl) (fun _ _ _ h => h) (Or.inl ⟨by rfl, fun W hW => by obtain ⟨t0, t1, t2, t3, t4, t5⟩ := six_cells ((hW.block _ zX3).trans PX3); go_simp⟩) (by assumption) ?_
    try simp only [Act.put, List.setIfInBounds_toArray, List.set_cons_zero, List.set_cons_succ]
    refine wpAnyH_ready (rs := [1]) (by kernel_rfl) (by simp) ?_
    refine AllReadyH.cons (o := { dst := some 48, op := Go.Op.call { callee := Go.Callee.value (Go.Operand.func 15), args := #[Go.Operand.tmp 47], argTypes := #[27] }, type := 9, pos := _, after := #[{ on := 0, ground := Go.Ground.data }], guard := none }) rfl (fun K hK => ?_) AllReadyH.nil
    go_simp
    refine (kM _ _ _ _ _ _ w5.drew (B3.trans (c0.mono B3.size))).mono ?_
    rintro e wt1 ⟨rfl, bt1⟩
    have Bt1 := c0.trans (bt1.mono c0.size)
    go_wp2_with fail
    refine hK.out _ _ Bt1 (fun hHeld => ?_)
    clear hK K bt1
    try simp only [Act.put, List.setIfInBounds_toArray, List.set_cons_zero, List.set_cons_succ]
    refine wpAnyH_ready (rs := [3]) (by kernel_rfl) (by simp) ?_
    refine AllReadyH.cons (o := { dst := some 50, op := Go.Op.call { callee := Go.Callee.value (Go.Operand.func 15), args := #[Go.Operand.tmp 49], argTypes := #[27] }, type := 9, pos := _, after := #[{ on := 2, ground := Go.Ground.data }, { on := 1, ground := Go.Ground.chain }], guard := none }) rfl (fun K hK => ?_) AllReadyH.nil
    go_simp
    refine (kM _ _ _ _ _ _ wt1 (B3.trans (Bt1.mono B3.size))).mono ?_
    rintro e wt2 ⟨rfl, bt2⟩
    have Bt2 := Bt1.trans (bt2.mono Bt1.size)
    go_wp2_with fail
    refine hK.out _ _ Bt2 (fun hHeld => ?_)
    clear hK K bt2
    try simp only [Act.put, List.setIfInBounds_toArray, List.set_cons_zero, List.set_cons_succ]
    refine wpAnyH_take (i := 4) (oi := { dst := some 51, op := Go.Op.binOp Go.BinOp.eql 9 (Go.Operand.tmp 48) (Go.Operand.tmp 50) 9, type := 4, pos := _, after := #[{ on := 1, ground := Go.Ground.data }, { on := 3, ground := Go.Ground.data }], guard := none }) (v := .bool true) rfl (by kernel_rfl) (by kernel_rfl) (by kernel_rfl) (fun _ _ _ h => h) (Or.inl ⟨by rfl, fun W hW => by go_simp⟩) (by assumption) ?_
    try simp only [Act.put, List.setIfInBounds_toArray, List.set_cons_zero, List.set_cons_succ]
    refine wpAnyH_take (i := 5) (oi := { dst := some 52, op := Go.Op.move (Go.Operand.tmp 51), type := 4, pos := _, after := #[{ on := 4, ground := Go.Ground.data }, { on := 3, ground := Go.Ground.chain }], guard := none }) (v := .bool true) rfl (by kernel_rfl) (by kernel_rfl) (by kernel_rfl) (fun _ _ _ h => h) (Or.inl ⟨by rfl, fun W hW => by go_simp⟩) (by assumption) ?_
    try simp only [Act.put, List.setIfInBounds_toArray, List.set_cons_zero, List.set_cons_succ]
    refine wpAnyH_take (i := 6) (oi := { dst := some 53, op := Go.Op.load 27 (Go.Operand.tmp 2), type := 27, pos := _, after := #[{ on := 5, ground := Go.Ground.guard }], guard := some (5, true) }) (v := .agg #[.int .u8 (m.say.toNat : Int), .int .u8 (m.src.toNat : Int), .int .u8 (m.dst.toNat : Int), .int .u32 (m.g.toNat : Int), .slice ao m.ops.length ca, .slice bo l.length cb]) rfl (by kernel_rfl) (by kernel_rfl) (by kernel_rfl) (fun _ _ _ h => h) (Or.inl ⟨by rfl, fun W hW => by obtain ⟨t0, t1, t2, t3, t4, t5⟩ := six_cells ((hW.block _ zX3).trans PX3); go_simp⟩) (by assumption) ?_
    try simp only [Act.put, List.setIfInBounds_toArray, List.set_cons_zero, List.set_cons_succ]
    refine wpAnyH_take (i := 8) (oi := { dst := some 55, op := Go.Op.load 27 (Go.Operand.tmp 3), type := 27, pos := _, after := #[{ on := 5, ground := Go.Ground.guard }], guard := some (5, true) }) (v := .agg #[.int .u8 (n.say.toNat : Int), .int .u8 (n.src.toNat : Int), .int .u8 (n.dst.toNat : Int), .int .u32 (n.g.toNat : Int), .slice co n.ops.length cc, .slice eo k.length ce]) rfl (by kernel_rfl) (by kernel_rfl) (by kernel_rfl) (fun _ _ _ h => h) (Or.inl ⟨by rfl, fun W hW => by obtain ⟨t0, t1, t2, t3, t4, t5⟩ := six_cells ((hW.block _ zY3).trans PY3); go_simp⟩) (by assumption) ?_
    try simp only [Act.put, List.setIfInBounds_toArray, List.set_cons_zero, List.set_cons_succ]
    refine wpAnyH_take (i := 11) (oi := { dst := some 58, op := Go.Op.move (Go.Operand.tmp 6), type := 4, pos := _, after := #[{ on := 5, ground := Go.Ground.guard }], guard := some (5, true) }) (v := .bool false) rfl (by kernel_rfl) (by kernel_rfl) (by kernel_rfl) (fun _ _ _ h => h) (Or.inl ⟨by rfl, fun W hW => by go_simp⟩) (by assumption) ?_
    try simp only [Act.put, List.setIfInBounds_toArray, List.set_cons_zero, List.set_cons_succ]
    refine wpAnyH_ready (rs := [7]) (by kernel_rfl) (by simp) ?_
    refine AllReadyH.cons (o := { dst := some 54, op := Go.Op.call { callee := Go.Callee.value (Go.Operand.func 15), args := #[Go.Operand.tmp 53], argTypes := #[27] }, type := 9, pos := _, after := #[{ on := 6, ground := Go.Ground.data }, { on := 5, ground := Go.Ground.chain }, { on := 5, ground := Go.Ground.guard }], guard := some (5, true) }) rfl (fun K hK => ?_) AllReadyH.nil
    go_simp
    refine (kM _ _ _ _ _ _ wt2 (B3.trans (Bt2.mono B3.size))).mono ?_
    rintro e wt3 ⟨rfl, bt3⟩
    have Bt3 := Bt2.trans (bt3.mono Bt2.size)
    go_wp2_with fail
    refine hK.out _ _ Bt3 (fun hHeld => ?_)
    clear hK K bt3
    try simp only [Act.put, List.setIfInBounds_toArray, List.set_cons_zero, List.set_cons_succ]
    refine wpAnyH_ready (rs := [9]) (by kernel_rfl) (by simp) ?_
    refine AllReadyH.cons (o := { dst := some 56, op := Go.Op.call { callee := Go.Callee.value (Go.Operand.func 15), args := #[Go.Operand.tmp 55], argTypes := #[27] }, type := 9, pos := _, after := #[{ on := 8, ground := Go.Ground.data }, { on := 7, ground := Go.Ground.chain }, { on := 5, ground := Go.Ground.guard }], guard := some (5, true) }) rfl (fun K hK => ?_) AllReadyH.nil
    go_simp
    refine (kN _ _ _ _ _ _ wt3 (B3.trans (Bt3.mono B3.size))).mono ?_
    rintro e wt4 ⟨rfl, bt4⟩
    have Bt4 := Bt3.trans (bt4.mono Bt3.size)
    go_wp2_with fail
    refine hK.out _ _ Bt4 (fun hHeld => ?_)
    clear hK K bt4
    try simp only [Act.put, List.setIfInBounds_toArray, List.set_cons_zero, List.set_cons_succ]
    refine wpAnyH_take (i := 10) (oi := { dst := some 57, op := Go.Op.binOp Go.BinOp.eql 9 (Go.Operand.tmp 54) (Go.Operand.tmp 56) 9, type := 4, pos := _, after := #[{ on := 7, ground := Go.Ground.data }, { on := 9, ground := Go.Ground.data }, { on := 5, ground := Go.Ground.guard }], guard := some (5, true) }) (v := .bool false) rfl (by kernel_rfl) (by kernel_rfl) (by kernel_rfl) (fun _ _ _ h => h) (Or.inl ⟨by rfl, fun W hW => by have h1 := HE.out; go_simp <;> exact h1⟩) (by assumption) ?_
    try simp only [Act.put, List.setIfInBounds_toArray, List.set_cons_zero, List.set_cons_succ]
    refine wpAnyH_take (i := 12) (oi := { dst := some 59, op := Go.Op.binOp Go.BinOp.eql 4 (Go.Operand.tmp 57) (Go.Operand.tmp 58) 4, type := 4, pos := _, after := #[{ on := 10, ground := Go.Ground.data }, { on := 11, ground := Go.Ground.data }, { on := 5, ground := Go.Ground.guard }], guard := some (5, true) }) (v := .bool true) rfl (by kernel_rfl) (by kernel_rfl) (by kernel_rfl) (fun _ _ _ h => h) (Or.inl ⟨by rfl, fun W hW => by go_simp⟩) (by assumption) ?_
    try simp only [Act.put, List.setIfInBounds_toArray, List.set_cons_zero, List.set_cons_succ]
    refine wpAnyH_take (i := 13) (oi := { dst := some 60, op := Go.Op.pick (Go.Operand.tmp 52) (Go.Operand.tmp 59) (Go.Operand.const (Go.Value.bool false)), type := 4, pos := _, after := #[{ on := 5, ground := Go.Ground.data }, { on := 12, ground := Go.Ground.data }], guard := none }) (v := .bool true) rfl (by kernel_rfl) (by kernel_rfl) (by kernel_rfl) (fun _ _ _ h => h) (Or.inl ⟨by rfl, fun W hW => by go_simp⟩) (by assumption) ?_
    try simp only [Act.put, List.setIfInBounds_toArray, List.set_cons_zero, List.set_cons_succ]
    refine wpAnyH_take (i := 14) (oi := { dst := some 4, op := Go.Op.assign (Go.Operand.tmp 60), type := 4, pos := _, after := #[{ on := 13, ground := Go.Ground.data }, { on := 9, ground := Go.Ground.chain }, { on := 0, ground := Go.Ground.phase }, { on := 1, ground := Go.Ground.phase }, { on := 2, ground := Go.Ground.phase }, { on := 3, ground := Go.Ground.phase }, { on := 4, ground := Go.Ground.phase }, { on := 5, ground := Go.Ground.phase }, { on := 6, ground := Go.Ground.phase }, { on := 7, ground := Go.Ground.phase }, { on := 8, ground := Go.Ground.phase }, { on := 9, ground := Go.Ground.phase }, { on := 10, ground := Go.Ground.phase }, { on := 11, ground := Go.Ground.phase }, { on := 12, ground := Go.Ground.phase }, { on := 13, ground := Go.Ground.phase }], guard := none }) (v := .bool true) rfl (by kernel_rfl) (by kernel_rfl) (by kernel_rfl) (fun _ _ _ h => h) (Or.inl ⟨by rfl, fun W hW => by go_simp⟩) (by assumption) ?_
    try simp only [Act.put, List.setIfInBounds_toArray, List.set_cons_zero, List.set_cons_succ]
    refine wpAnyH_done (by kernel_rfl) ?_ _
    refine NoPanic.normal ?_
    have Bz := B3.trans (Bt4.mono B3.size)
    clear hHeld
    go_wp2
    go_ret
    exact ⟨rfl, Bz⟩
set_option maxHeartbeats 3000000 in
set_option maxRecDepth 1000000 in
theorem lines_3 (w : World) (vo vr uo ur : Value) (m : MsgD) (l : List ResP) (n : MsgD) (k : List ResP) (hm : MsgAt w w.heap.size vo vr m l) (hn : MsgAt w w.heap.size uo ur n k) (htab : Tab w) (e0 : m.say = n.say) (e1 : m.src = n.src) (e2 : m.dst = n.dst) (h3 : m.g ≠ n.g) :
    Calls Tryd.prog 5 #[msgV m vo vr, msgV n uo ur] w fun e w' => e = .returned (.bool true) ∧ Below w.heap.size w w' := by
  obtain ⟨ao, ca, bo, cb, rfl, rfl⟩ := hm.form
  obtain ⟨co, cc, eo, ce, rfl, rfl⟩ := hn.form
  unfold msgV
  have t0 : ((m.say.toNat : Int) == (n.say.toNat : Int)) = true := by rw [e0]; exact beq_self_eq_true _
  have t1 : ((m.src.toNat : Int) == (n.src.toNat : Int)) = true := by rw [e1]; exact beq_self_eq_true _
  have t2 : ((m.dst.toNat : Int) == (n.dst.toNat : Int)) = true := by rw [e2]; exact beq_self_eq_true _
  have t3 : ((m.g.toNat : Int) == (n.g.toNat : Int)) = false := by rw [beq_eq_false_iff_ne]; intro e; exact h3 (UInt32.toNat_inj.1 (by omega))
  have kM : ∀ (a : Option Addr) (p q : Nat) (b : Option Addr) (r s : Nat) W, Below w.heap.size w W → Calls Tryd.prog 15 #[.agg #[.int .u8 (m.say.toNat : Int), .int .u8 (m.src.toNat : Int), .int .u8 (m.dst.toNat : Int), .int .u32 (m.g.toNat : Int), .slice a p q, .slice b r s]] W fun e w' => e = .returned (.string (lineN m.say.toNat m.src.toNat m.dst.toNat m.g.toNat 3)) ∧ Below W.heap.size W w' := fun a p q b r s W hW => Text_any W _ _ _ _ (u8_lt _) (u8_lt _) (u8_lt _) (u32_lt _) a b p q r s (tab_below htab hW)
  have kN : ∀ (a : Option Addr) (p q : Nat) (b : Option Addr) (r s : Nat) W, Below w.heap.size w W → Calls Tryd.prog 15 #[.agg #[.int .u8 (n.say.toNat : Int), .int .u8 (n.src.toNat : Int), .int .u8 (n.dst.toNat : Int), .int .u32 (n.g.toNat : Int), .slice a p q, .slice b r s]] W fun e w' => e = .returned (.string (lineN n.say.toNat n.src.toNat n.dst.toNat n.g.toNat 3)) ∧ Below W.heap.size W w' := fun a p q b r s W hW => Text_any W _ _ _ _ (u8_lt _) (u8_lt _) (u8_lt _) (u32_lt _) a b p q r s (tab_below htab hW)
  have HE : Hid (((lineN m.say.toNat m.src.toNat m.dst.toNat m.g.toNat 3).toList == (lineN n.say.toNat n.src.toNat n.dst.toNat n.g.toNat 3).toList) = false) := by
    show _ = _
    rw [line_eq]
    refine decide_eq_false (fun h => ?_)
    exact h3 (UInt32.toNat_inj.1 h.2.2.2)
  generalize lineN m.say.toNat m.src.toNat m.dst.toNat m.g.toNat 3 = LM at *
  generalize lineN n.say.toNat n.src.toNat n.dst.toNat n.g.toNat 3 = LN at *
  clear e0 e1 e2 h3
  obtain ⟨w1, hw1⟩ : ∃ w1, w1 = (w.alloc (.cells #[.int .u8 (m.say.toNat : Int), .int .u8 (m.src.toNat : Int), .int .u8 (m.dst.toNat : Int), .int .u32 (m.g.toNat : Int), .slice ao m.ops.length ca, .slice bo l.length cb] 27)).alloc (.cells #[.int .u8 (n.say.toNat : Int), .int .u8 (n.src.toNat : Int), .int .u8 (n.dst.toNat : Int), .int .u32 (n.g.toNat : Int), .slice co n.ops.length cc, .slice eo k.length ce] 27) := ⟨_, rfl⟩
  have B1 : Below w.heap.size w w1 := by rw [hw1]; exact ((Below.refl _ _).alloc (Nat.le_refl _) _).alloc (by simp) _
  have PX : w1.heap[w.heap.size]? = some (.cells #[.int .u8 (m.say.toNat : Int), .int .u8 (m.src.toNat : Int), .int .u8 (m.dst.toNat : Int), .int .u32 (m.g.toNat : Int), .slice ao m.ops.length ca, .slice bo l.length cb] 27 (0, 0)) := by rw [hw1]; exact alloc_block (heap_alloc_new w _) _
  have PY : w1.heap[w.heap.size + 1]? = some (.cells #[.int .u8 (n.say.toNat : Int), .int .u8 (n.src.toNat : Int), .int .u8 (n.dst.toNat : Int), .int .u32 (n.g.toNat : Int), .slice co n.ops.length cc, .slice eo k.length ce] 27 (0, 0)) := by
    rw [hw1]
    have := heap_alloc_new (w.alloc (.cells #[.int .u8 (m.say.toNat : Int), .int .u8 (m.src.toNat : Int), .int .u8 (m.dst.toNat : Int), .int .u32 (m.g.toNat : Int), .slice ao m.ops.length ca, .slice bo l.length cb] 27)) (.cells #[.int .u8 (n.say.toNat : Int), .int .u8 (n.src.toNat : Int), .int .u8 (n.dst.toNat : Int), .int .u32 (n.g.toNat : Int), .slice co n.ops.length cc, .slice eo k.length ce] 27)
    simpa using this
  have zX : w.heap.size < w1.heap.size := by rw [hw1]; simp; omega
  have zY : w.heap.size + 1 < w1.heap.size := by rw [hw1]; simp
  have M1 := hm.up B1
  have N1 := hn.up B1
  clear hm hn
  go_enter Tryd.func5, Tryd.ntmps5
  go_wp2_with fail
  rw [← hw1]
  clear hw1
  have b0 : Below w1.heap.size w1 w1.drew := ⟨rfl, rfl, rfl, Nat.le_refl _, fun _ _ => rfl⟩
  refine wp_region_noPanic ?_
  refine wp_region_held_drew (S := fun W => Below w1.heap.size w1 W) (by kernel_rfl) b0 (fun hHeld => ?_)
  refine wpAnyH_ready (rs := [0]) (by kernel_rfl) (by simp) ?_
  refine AllReadyH.cons (o := { dst := some 7, op := Go.Op.call { callee := Go.Callee.value (Go.Operand.func 7), args := #[], argTypes := #[] }, type := 4, pos := _, after := #[], guard := none }) rfl (fun K hK => ?_) AllReadyH.nil
  go_simp
  refine (alive_any _ (tab_below htab (B1.trans (b0.mono B1.size)))).mono ?_
  rintro e wa ⟨rfl, ba⟩
  have Ba := b0.trans (ba.mono b0.size)
  go_wp2_with fail
  refine hK.out _ _ Ba (fun hHeld => ?_)
  clear hK K ba
  try simp only [Act.put, List.setIfInBounds_toArray, List.set_cons_zero, List.set_cons_succ]
  refine wpAnyH_take (i := 1) (oi := { dst := some 8, op := Go.Op.unOp Go.UnOp.not 4 (Go.Operand.tmp 7), type := 4, pos := _, after := #[{ on := 0, ground := Go.Ground.data }], guard := none }) (v := .bool false) rfl (by kernel_rfl) (by kernel_rfl) (by kernel_rfl) (fun _ _ _ h => h) (Or.inl ⟨by rfl, fun W hW => by go_simp⟩) (by assumption) ?_
  try simp only [Act.put, List.setIfInBounds_toArray, List.set_cons_zero, List.set_cons_succ]
  refine wpAnyH_take (i := 2) (oi := { dst := some 9, op := Go.Op.move (Go.Operand.tmp 8), type := 4, pos := _, after := #[{ on := 1, ground := Go.Ground.data }, { on := 0, ground := Go.Ground.chain }], guard := none }) (v := .bool false) rfl (by kernel_rfl) (by kernel_rfl) (by kernel_rfl) (fun _ _ _ h => h) (Or.inl ⟨by rfl, fun W hW => by go_simp⟩) (by assumption) ?_
  try simp only [Act.put, List.setIfInBounds_toArray, List.set_cons_zero, List.set_cons_succ]
  refine wpAnyH_take (i := 3) (oi := { dst := some 10, op := Go.Op.load 27 (Go.Operand.tmp 2), type := 27, pos := _, after := #[{ on := 2, ground := Go.Ground.guard }], guard := some (2, false) }) (v := .agg #[.int .u8 (m.say.toNat : Int), .int .u8 (m.src.toNat : Int), .int .u8 (m.dst.toNat : Int), .int .u32 (m.g.toNat : Int), .slice ao m.ops.length ca, .slice bo l.length cb]) rfl (by kernel_rfl) (by kernel_rfl) (by kernel_rfl) (fun _ _ _ h => h) (Or.inl ⟨by rfl, fun W hW => by obtain ⟨t0, t1, t2, t3, t4, t5⟩ := six_cells ((hW.block _ zX).trans PX); go_simp⟩) (by assumption) ?_
  try simp only [Act.put, List.setIfInBounds_toArray, List.set_cons_zero, List.set_cons_succ]
  refine wpAnyH_take (i := 5) (oi := { dst := some 12, op := Go.Op.load 27 (Go.Operand.tmp 3), type := 27, pos := _, after := #[{ on := 2, ground := Go.Ground.guard }], guard := some (2, false) }) (v := .agg #[.int .u8 (n.say.toNat : Int), .int .u8 (n.src.toNat : Int), .int .u8 (n.dst.toNat : Int), .int .u32 (n.g.toNat : Int), .slice co n.ops.length cc, .slice eo k.length ce]) rfl (by kernel_rfl) (by kernel_rfl) (by kernel_rfl) (fun _ _ _ h => h) (Or.inl ⟨by rfl, fun W hW => by obtain ⟨t0, t1, t2, t3, t4, t5⟩ := six_cells ((hW.block _ zY).trans PY); go_simp⟩) (by assumption) ?_
  try simp only [Act.put, List.setIfInBounds_toArray, List.set_cons_zero, List.set_cons_succ]
  refine wpAnyH_ready (rs := [4]) (by kernel_rfl) (by simp) ?_
  refine AllReadyH.cons (o := { dst := some 11, op := Go.Op.call { callee := Go.Callee.value (Go.Operand.func 8), args := #[Go.Operand.tmp 10], argTypes := #[27] }, type := 3, pos := _, after := #[{ on := 3, ground := Go.Ground.data }, { on := 2, ground := Go.Ground.chain }, { on := 2, ground := Go.Ground.guard }], guard := some (2, false) }) rfl (fun K hK => ?_) AllReadyH.nil
  go_simp
  refine (msgSize_any wa _ _ m l (M1.up Ba)).mono ?_
  rintro e ws1 ⟨⟨y0, rfl⟩, bs1⟩
  have Bs1 := Ba.trans (bs1.mono Ba.size)
  go_wp2_with fail
  refine hK.out _ _ Bs1 (fun hHeld => ?_)
  clear hK K bs1
  try simp only [Act.put, List.setIfInBounds_toArray, List.set_cons_zero, List.set_cons_succ]
  refine wpAnyH_ready (rs := [6]) (by kernel_rfl) (by simp) ?_
  refine AllReadyH.cons (o := { dst := some 13, op := Go.Op.call { callee := Go.Callee.value (Go.Operand.func 8), args := #[Go.Operand.tmp 12], argTypes := #[27] }, type := 3, pos := _, after := #[{ on := 5, ground := Go.Ground.data }, { on := 4, ground := Go.Ground.chain }, { on := 2, ground := Go.Ground.guard }], guard := some (2, false) }) rfl (fun K hK => ?_) AllReadyH.nil
  go_simp
  refine (msgSize_any ws1 _ _ n k (N1.up Bs1)).mono ?_
  rintro e ws2 ⟨⟨y1, rfl⟩, bs2⟩
  have Bs2 := Bs1.trans (bs2.mono Bs1.size)
  obtain ⟨y, hy⟩ : ∃ y, IntKind.i64.wrap (y0 + y1) = y := ⟨_, rfl⟩
  obtain ⟨gb, hgb⟩ : ∃ gb, decide (5000 < y) = gb := ⟨_, rfl⟩
  go_wp2_with fail
  refine hK.out _ _ Bs2 (fun hHeld => ?_)
  clear hK K bs2
  try simp only [Act.put, List.setIfInBounds_toArray, List.set_cons_zero, List.set_cons_succ]
  refine wpAnyH_take (i := 7) (oi := { dst := some 14, op := Go.Op.binOp Go.BinOp.add 3 (Go.Operand.tmp 11) (Go.Operand.tmp 13) 3, type := 3, pos := _, after := #[{ on := 4, ground := Go.Ground.data }, { on := 6, ground := Go.Ground.data }, { on := 2, ground := Go.Ground.guard }], guard := some (2, false) }) (v := .int .i64 y) rfl (by kernel_rfl) (by kernel_rfl) (by kernel_rfl) (fun _ _ _ h => h) (Or.inl ⟨by rfl, fun W hW => by go_simp⟩) (by assumption) ?_
  try simp only [Act.put, List.setIfInBounds_toArray, List.set_cons_zero, List.set_cons_succ]
  refine wpAnyH_take (i := 8) (oi := { dst := some 15, op := Go.Op.binOp Go.BinOp.gtr 3 (Go.Operand.tmp 14) (Go.Operand.const (Go.Value.int Go.IntKind.i64 5000)) 3, type := 4, pos := _, after := #[{ on := 7, ground := Go.Ground.data }, { on := 2, ground := Go.Ground.guard }], guard := some (2, false) }) (v := .bool gb) rfl (by kernel_rfl) (by kernel_rfl) (by kernel_rfl) (fun _ _ _ h => h) (Or.inl ⟨by rfl, fun W hW => by go_simp⟩) (by assumption) ?_
  try simp only [Act.put, List.setIfInBounds_toArray, List.set_cons_zero, List.set_cons_succ]
  refine wpAnyH_take (i := 9) (oi := { dst := some 16, op := Go.Op.pick (Go.Operand.tmp 9) (Go.Operand.const (Go.Value.bool true)) (Go.Operand.tmp 15), type := 4, pos := _, after := #[{ on := 2, ground := Go.Ground.data }, { on := 8, ground := Go.Ground.data }], guard := none }) (v := .bool gb) rfl (by kernel_rfl) (by kernel_rfl) (by kernel_rfl) (fun _ _ _ h => h) (Or.inl ⟨by rfl, fun W hW => by go_simp⟩) (by assumption) ?_
  try simp only [Act.put, List.setIfInBounds_toArray, List.set_cons_zero, List.set_cons_succ]
  refine wpAnyH_done (by kernel_rfl) ?_ _
  refine NoPanic.normal ?_
  cases gb with
  | true =>
    clear hHeld hy hgb PX PY zX zY M1 N1
    have Bc := B1.trans (Bs2.mono B1.size)
    go_wp2_with fail
    refine (alive_any _ (tab_below htab Bc)).mono ?_
    rintro e w9 ⟨rfl, b9⟩
    have B9 := Bc.trans (b9.mono Bc.size)
    clear b9 Bc
    go_wp2
    go_ret
    exact ⟨rfl, B9⟩
  | false =>
    have PX2 := (Bs2.block _ zX).trans PX
    have PY2 := (Bs2.block _ zY).trans PY
    have Bc := B1.trans (Bs2.mono B1.size)
    have ba := below_one ws2 (.cells #[.int .u8 (m.say.toNat : Int), .int .u8 (m.src.toNat : Int), .int .u8 (m.dst.toNat : Int), .int .u32 (m.g.toNat : Int), .slice none 0 0, .slice none 0 0] 27)
    have zX2 := Nat.lt_of_lt_of_le zX Bs2.size
    have zY2 := Nat.lt_of_lt_of_le zY Bs2.size
    have PX3 := (ba.block _ zX2).trans PX2
    have PY3 := (ba.block _ zY2).trans PY2
    have PB3 := heap_alloc_new ws2 (.cells #[.int .u8 (m.say.toNat : Int), .int .u8 (m.src.toNat : Int), .int .u8 (m.dst.toNat : Int), .int .u32 (m.g.toNat : Int), .slice none 0 0, .slice none 0 0] 27)
    have zX3 := Nat.lt_of_lt_of_le zX2 ba.size
    have zY3 := Nat.lt_of_lt_of_le zY2 ba.size
    have zB3 : ws2.heap.size < (ws2.alloc (.cells #[.int .u8 (m.say.toNat : Int), .int .u8 (m.src.toNat : Int), .int .u8 (m.dst.toNat : Int), .int .u32 (m.g.toNat : Int), .slice none 0 0, .slice none 0 0] 27)).heap.size := by simp
    have B3 := Bc.trans (ba.mono Bc.size)
    obtain ⟨m0, m1, m2, m3, m4, m5⟩ := six_cells PX2
    obtain ⟨u0, u1, u2, u3, u4, u5⟩ := six_cells PX3
    obtain ⟨n0, n1, n2, n3, n4, n5⟩ := six_cells PY3
    clear hy hgb hHeld PX PY PX2 PY2 zX zY zX2 zY2 Bc ba M1 N1
    go_wp2_with fail
    generalize ws2.alloc (.cells #[.int .u8 (m.say.toNat : Int), .int .u8 (m.src.toNat : Int), .int .u8 (m.dst.toNat : Int), .int .u32 (m.g.toNat : Int), .slice none 0 0, .slice none 0 0] 27) = w5 at *
    generalize ws2.heap.size = XB at *
    clear m0 m1 m2 m3 m4 m5 u0 u1 u2 u3 u4 u5 n0 n1 n2 n3 n4 n5
    have c0 : Below w5.heap.size w5 w5.drew := ⟨rfl, rfl, rfl, Nat.le_refl _, fun _ _ => rfl⟩
    refine wp_region_noPanic ?_
    refine wp_region_held_drew (S := fun W => Below w5.heap.size w5 W) (by kernel_rfl) c0 (fun hHeld => ?_)
    refine wpAnyH_take (i := 0) (oi := { dst := some 47, op := Go.Op.load 27 (Go.Operand.tmp 5), type := 27, pos := _, after := #[], guard := none }) (v := .agg #[.int .u8 (m.say.toNat : Int), .int .u8 (m.src.toNat : Int), .int .u8 (m.dst.toNat : Int), .int .u32 (m.g.toNat : Int), .slice none 0 0, .slice none 0 0]) rfl (by kernel_rfl) (by kernel_rfl) (by kernel_rfl) (fun _ _ _ h => h) (Or.inl ⟨by rfl, fun W hW => by obtain ⟨t0, t1, t2, t3, t4, t5⟩ := six_cells ((hW.block _ zB3).trans PB3); go_simp⟩) (by assumption) ?_
    try simp only [Act.put, List.setIfInBounds_toArray, List.set_cons_zero, List.set_cons_succ]
    refine wpAnyH_take (i := 2) (oi := { dst := some 49, op := Go.Op.load 27 (Go.Operand.tmp 2), type := 27, pos := _, after := #[], guard := none }) (v := .agg #[.int .u8 (m.say.toNat : Int), .int .u8 (m.src.toNat : Int), .int .u8 (m.dst.toNat : Int), .int .u32 (m.g.toNat : Int), .slice ao m.ops.length ca, .slice bo l.length cb]) rfl (by kernel_rfl) (by kernel_rfl) (by kernel_rfl) (fun _ _ _ h => h) (Or.inl ⟨by rfl, fun W hW => by obtain ⟨t0, t1, t2, t3, t4, t5⟩ := six_cells ((hW.block _ zX3).trans PX3); go_simp⟩) (by assumption) ?_
    try simp only [Act.put, List.setIfInBounds_toArray, List.set_cons_zero, List.set_cons_succ]
    refine wpAnyH_ready (rs := [1]) (by kernel_rfl) (by simp) ?_
    refine AllReadyH.cons (o := { dst := some 48, op := Go.Op.call { callee := Go.Callee.value (Go.Operand.func 15), args := #[Go.Operand.tmp 47], argTypes := #[27] }, type := 9, pos := _, after := #[{ on := 0, ground := Go.Ground.data }], guard := none }) rfl (fun K hK => ?_) AllReadyH.nil
    go_simp
    refine (kM _ _ _ _ _ _ w5.drew (B3.trans (c0.mono B3.size))).mono ?_
    rintro e wt1 ⟨rfl, bt1⟩
    have Bt1 := c0.trans (bt1.mono c0.size)
    go_wp2_with fail
    refine hK.out _ _ Bt1 (fun hHeld => ?_)
    clear hK K bt1
    try simp only [Act.put, List.setIfInBounds_toArray, List.set_cons_zero, List.set_cons_succ]
    refine wpAnyH_ready (rs := [3]) (by kernel_rfl) (by simp) ?_
    refine AllReadyH.cons (o := { dst := some 50, op := Go.Op.call { callee := Go.Callee.value (Go.Operand.func 15), args := #[Go.Operand.tmp 49], argTypes := #[27] }, type := 9, pos := _, after := #[{ on := 2, ground := Go.Ground.data }, { on := 1, ground := Go.Ground.chain }], guard := none }) rfl (fun K hK => ?_) AllReadyH.nil
    go_simp
    refine (kM _ _ _ _ _ _ wt1 (B3.trans (Bt1.mono B3.size))).mono ?_
    rintro e wt2 ⟨rfl, bt2⟩
    have Bt2 := Bt1.trans (bt2.mono Bt1.size)
    go_wp2_with fail
    refine hK.out _ _ Bt2 (fun hHeld => ?_)
    clear hK K bt2
    try simp only [Act.put, List.setIfInBounds_toArray, List.set_cons_zero, List.set_cons_succ]
    refine wpAnyH_take (i := 4) (oi := { dst := some 51, op := Go.Op.binOp Go.BinOp.eql 9 (Go.Operand.tmp 48) (Go.Operand.tmp 50) 9, type := 4, pos := _, after := #[{ on := 1, ground := Go.Ground.data }, { on := 3, ground := Go.Ground.data }], guard := none }) (v := .bool true) rfl (by kernel_rfl) (by kernel_rfl) (by kernel_rfl) (fun _ _ _ h => h) (Or.inl ⟨by rfl, fun W hW => by go_simp⟩) (by assumption) ?_
    try simp only [Act.put, List.setIfInBounds_toArray, List.set_cons_zero, List.set_cons_succ]
    refine wpAnyH_take (i := 5) (oi := { dst := some 52, op := Go.Op.move (Go.Operand.tmp 51), type := 4, pos := _, after := #[{ on := 4, ground := Go.Ground.data }, { on := 3, ground := Go.Ground.chain }], guard := none }) (v := .bool true) rfl (by kernel_rfl) (by kernel_rfl) (by kernel_rfl) (fun _ _ _ h => h) (Or.inl ⟨by rfl, fun W hW => by go_simp⟩) (by assumption) ?_
    try simp only [Act.put, List.setIfInBounds_toArray, List.set_cons_zero, List.set_cons_succ]
    refine wpAnyH_take (i := 6) (oi := { dst := some 53, op := Go.Op.load 27 (Go.Operand.tmp 2), type := 27, pos := _, after := #[{ on := 5, ground := Go.Ground.guard }], guard := some (5, true) }) (v := .agg #[.int .u8 (m.say.toNat : Int), .int .u8 (m.src.toNat : Int), .int .u8 (m.dst.toNat : Int), .int .u32 (m.g.toNat : Int), .slice ao m.ops.length ca, .slice bo l.length cb]) rfl (by kernel_rfl) (by kernel_rfl) (by kernel_rfl) (fun _ _ _ h => h) (Or.inl ⟨by rfl, fun W hW => by obtain ⟨t0, t1, t2, t3, t4, t5⟩ := six_cells ((hW.block _ zX3).trans PX3); go_simp⟩) (by assumption) ?_
    try simp only [Act.put, List.setIfInBounds_toArray, List.set_cons_zero, List.set_cons_succ]
    refine wpAnyH_take (i := 8) (oi := { dst := some 55, op := Go.Op.load 27 (Go.Operand.tmp 3), type := 27, pos := _, after := #[{ on := 5, ground := Go.Ground.guard }], guard := some (5, true) }) (v := .agg #[.int .u8 (n.say.toNat : Int), .int .u8 (n.src.toNat : Int), .int .u8 (n.dst.toNat : Int), .int .u32 (n.g.toNat : Int), .slice co n.ops.length cc, .slice eo k.length ce]) rfl (by kernel_rfl) (by kernel_rfl) (by kernel_rfl) (fun _ _ _ h => h) (Or.inl ⟨by rfl, fun W hW => by obtain ⟨t0, t1, t2, t3, t4, t5⟩ := six_cells ((hW.block _ zY3).trans PY3); go_simp⟩) (by assumption) ?_
    try simp only [Act.put, List.setIfInBounds_toArray, List.set_cons_zero, List.set_cons_succ]
    refine wpAnyH_take (i := 11) (oi := { dst := some 58, op := Go.Op.move (Go.Operand.tmp 6), type := 4, pos := _, after := #[{ on := 5, ground := Go.Ground.guard }], guard := some (5, true) }) (v := .bool false) rfl (by kernel_rfl) (by kernel_rfl) (by kernel_rfl) (fun _ _ _ h => h) (Or.inl ⟨by rfl, fun W hW => by go_simp⟩) (by assumption) ?_
    try simp only [Act.put, List.setIfInBounds_toArray, List.set_cons_zero, List.set_cons_succ]
    refine wpAnyH_ready (rs := [7]) (by kernel_rfl) (by simp) ?_
    refine AllReadyH.cons (o := { dst := some 54, op := Go.Op.call { callee := Go.Callee.value (Go.Operand.func 15), args := #[Go.Operand.tmp 53], argTypes := #[27] }, type := 9, pos := _, after := #[{ on := 6, ground := Go.Ground.data }, { on := 5, ground := Go.Ground.chain }, { on := 5, ground := Go.Ground.guard }], guard := some (5, true) }) rfl (fun K hK => ?_) AllReadyH.nil
    go_simp
    refine (kM _ _ _ _ _ _ wt2 (B3.trans (Bt2.mono B3.size))).mono ?_
    rintro e wt3 ⟨rfl, bt3⟩
    have Bt3 := Bt2.trans (bt3.mono Bt2.size)
    go_wp2_with fail
    refine hK.out _ _ Bt3 (fun hHeld => ?_)
    clear hK K bt3
    try simp only [Act.put, List.setIfInBounds_toArray, List.set_cons_zero, List.set_cons_succ]
    refine wpAnyH_ready (rs := [9]) (by kernel_rfl) (by simp) ?_
    refine AllReadyH.cons (o := { dst := some 56, op := Go.Op.call { callee := Go.Callee.value (Go.Operand.func 15), args := #[Go.Operand.tmp 55], argTypes := #[27] }, type := 9, pos := _, after := #[{ on := 8, ground := Go.Ground.data }, { on := 7, ground := Go.Ground.chain }, { on := 5, ground := Go.Ground.guard }], guard := some (5, true) }) rfl (fun K hK => ?_) AllReadyH.nil
    go_simp
    refine (kN _ _ _ _ _ _ wt3 (B3.trans (Bt3.mono B3.size))).mono ?_
    rintro e wt4 ⟨rfl, bt4⟩
    have Bt4 := Bt3.trans (bt4.mono Bt3.size)
    go_wp2_with fail
    refine hK.out _ _ Bt4 (fun hHeld => ?_)
    clear hK K bt4
    try simp only [Act.put, List.setIfInBounds_toArray, List.set_cons_zero, List.set_cons_succ]
    refine wpAnyH_take (i := 10) (oi := { dst := some 57, op := Go.Op.binOp Go.BinOp.eql 9 (Go.Operand.tmp 54) (Go.Operand.tmp 56) 9, type := 4, pos := _, after := #[{ on := 7, ground := Go.Ground.data }, { on := 9, ground := Go.Ground.data }, { on := 5, ground := Go.Ground.guard }], guard := some (5, true) }) (v := .bool false) rfl (by kernel_rfl) (by kernel_rfl) (by kernel_rfl) (fun _ _ _ h => h) (Or.inl ⟨by rfl, fun W hW => by have h1 := HE.out; go_simp <;> exact h1⟩) (by assumption) ?_
    try simp only [Act.put, List.setIfInBounds_toArray, List.set_cons_zero, List.set_cons_succ]
    refine wpAnyH_take (i := 12) (oi := { dst := some 59, op := Go.Op.binOp Go.BinOp.eql 4 (Go.Operand.tmp 57) (Go.Operand.tmp 58) 4, type := 4, pos := _, after := #[{ on := 10, ground := Go.Ground.data }, { on := 11, ground := Go.Ground.data }, { on := 5, ground := Go.Ground.guard }], guard := some (5, true) }) (v := .bool true) rfl (by kernel_rfl) (by kernel_rfl) (by kernel_rfl) (fun _ _ _ h => h) (Or.inl ⟨by rfl, fun W hW => by go_simp⟩) (by assumption) ?_
    try simp only [Act.put, List.setIfInBounds_toArray, List.set_cons_zero, List.set_cons_succ]
    refine wpAnyH_take (i := 13) (oi := { dst := some 60, op := Go.Op.pick (Go.Operand.tmp 52) (Go.Operand.tmp 59) (Go.Operand.const (Go.Value.bool false)), type := 4, pos := _, after := #[{ on := 5, ground := Go.Ground.data }, { on := 12, ground := Go.Ground.data }], guard := none }) (v := .bool true) rfl (by kernel_rfl) (by kernel_rfl) (by kernel_rfl) (fun _ _ _ h => h) (Or.inl ⟨by rfl, fun W hW => by go_simp⟩) (by assumption) ?_
    try simp only [Act.put, List.setIfInBounds_toArray, List.set_cons_zero, List.set_cons_succ]
    refine wpAnyH_take (i := 14) (oi := { dst := some 4, op := Go.Op.assign (Go.Operand.tmp 60), type := 4, pos := _, after := #[{ on := 13, ground := Go.Ground.data }, { on := 9, ground := Go.Ground.chain }, { on := 0, ground := Go.Ground.phase }, { on := 1, ground := Go.Ground.phase }, { on := 2, ground := Go.Ground.phase }, { on := 3, ground := Go.Ground.phase }, { on := 4, ground := Go.Ground.phase }, { on := 5, ground := Go.Ground.phase }, { on := 6, ground := Go.Ground.phase }, { on := 7, ground := Go.Ground.phase }, { on := 8, ground := Go.Ground.phase }, { on := 9, ground := Go.Ground.phase }, { on := 10, ground := Go.Ground.phase }, { on := 11, ground := Go.Ground.phase }, { on := 12, ground := Go.Ground.phase }, { on := 13, ground := Go.Ground.phase }], guard := none }) (v := .bool true) rfl (by kernel_rfl) (by kernel_rfl) (by kernel_rfl) (fun _ _ _ h => h) (Or.inl ⟨by rfl, fun W hW => by go_simp⟩) (by assumption) ?_
    try simp only [Act.put, List.setIfInBounds_toArray, List.set_cons_zero, List.set_cons_succ]
    refine wpAnyH_done (by kernel_rfl) ?_ _
    refine NoPanic.normal ?_
    have Bz := B3.trans (Bt4.mono B3.size)
    clear hHeld
    go_wp2
    go_ret
    exact ⟨rfl, Bz⟩
set_option maxHeartbeats 3000000 in
set_option maxRecDepth 1000000 in
theorem lines_4 (w : World) (vo vr uo ur : Value) (m : MsgD) (l : List ResP) (n : MsgD) (k : List ResP) (hm : MsgAt w w.heap.size vo vr m l) (hn : MsgAt w w.heap.size uo ur n k) (htab : Tab w) (e0 : m.say = n.say) (e1 : m.src = n.src) (e2 : m.dst = n.dst) (e3 : m.g = n.g) :
    Calls Tryd.prog 5 #[msgV m vo vr, msgV n uo ur] w fun e w' => e = .returned (.bool true) ∧ Below w.heap.size w w' := by
  obtain ⟨ao, ca, bo, cb, rfl, rfl⟩ := hm.form
  obtain ⟨co, cc, eo, ce, rfl, rfl⟩ := hn.form
  unfold msgV
  have t0 : ((m.say.toNat : Int) == (n.say.toNat : Int)) = true := by rw [e0]; exact beq_self_eq_true _
  have t1 : ((m.src.toNat : Int) == (n.src.toNat : Int)) = true := by rw [e1]; exact beq_self_eq_true _
  have t2 : ((m.dst.toNat : Int) == (n.dst.toNat : Int)) = true := by rw [e2]; exact beq_self_eq_true _
  have t3 : ((m.g.toNat : Int) == (n.g.toNat : Int)) = true := by rw [e3]; exact beq_self_eq_true _
  have kM : ∀ (a : Option Addr) (p q : Nat) (b : Option Addr) (r s : Nat) W, Below w.heap.size w W → Calls Tryd.prog 15 #[.agg #[.int .u8 (m.say.toNat : Int), .int .u8 (m.src.toNat : Int), .int .u8 (m.dst.toNat : Int), .int .u32 (m.g.toNat : Int), .slice a p q, .slice b r s]] W fun e w' => e = .returned (.string (lineN m.say.toNat m.src.toNat m.dst.toNat m.g.toNat 3)) ∧ Below W.heap.size W w' := fun a p q b r s W hW => Text_any W _ _ _ _ (u8_lt _) (u8_lt _) (u8_lt _) (u32_lt _) a b p q r s (tab_below htab hW)
  have kN : ∀ (a : Option Addr) (p q : Nat) (b : Option Addr) (r s : Nat) W, Below w.heap.size w W → Calls Tryd.prog 15 #[.agg #[.int .u8 (n.say.toNat : Int), .int .u8 (n.src.toNat : Int), .int .u8 (n.dst.toNat : Int), .int .u32 (n.g.toNat : Int), .slice a p q, .slice b r s]] W fun e w' => e = .returned (.string (lineN n.say.toNat n.src.toNat n.dst.toNat n.g.toNat 3)) ∧ Below W.heap.size W w' := fun a p q b r s W hW => Text_any W _ _ _ _ (u8_lt _) (u8_lt _) (u8_lt _) (u32_lt _) a b p q r s (tab_below htab hW)
  have HE : Hid (((lineN m.say.toNat m.src.toNat m.dst.toNat m.g.toNat 3).toList == (lineN n.say.toNat n.src.toNat n.dst.toNat n.g.toNat 3).toList) = true) := by
    show _ = _
    rw [line_eq]
    exact decide_eq_true ⟨by rw [e0], by rw [e1], by rw [e2], by rw [e3]⟩
  generalize lineN m.say.toNat m.src.toNat m.dst.toNat m.g.toNat 3 = LM at *
  generalize lineN n.say.toNat n.src.toNat n.dst.toNat n.g.toNat 3 = LN at *
  clear e0 e1 e2 e3
  obtain ⟨w1, hw1⟩ : ∃ w1, w1 = (w.alloc (.cells #[.int .u8 (m.say.toNat : Int), .int .u8 (m.src.toNat : Int), .int .u8 (m.dst.toNat : Int), .int .u32 (m.g.toNat : Int), .slice ao m.ops.length ca, .slice bo l.length cb] 27)).alloc (.cells #[.int .u8 (n.say.toNat : Int), .int .u8 (n.src.toNat : Int), .int .u8 (n.dst.toNat : Int), .int .u32 (n.g.toNat : Int), .slice co n.ops.length cc, .slice eo k.length ce] 27) := ⟨_, rfl⟩
  have B1 : Below w.heap.size w w1 := by rw [hw1]; exact ((Below.refl _ _).alloc (Nat.le_refl _) _).alloc (by simp) _
  have PX : w1.heap[w.heap.size]? = some (.cells #[.int .u8 (m.say.toNat : Int), .int .u8 (m.src.toNat : Int), .int .u8 (m.dst.toNat : Int), .int .u32 (m.g.toNat : Int), .slice ao m.ops.length ca, .slice bo l.length cb] 27 (0, 0)) := by rw [hw1]; exact alloc_block (heap_alloc_new w _) _
  have PY : w1.heap[w.heap.size + 1]? = some (.cells #[.int .u8 (n.say.toNat : Int), .int .u8 (n.src.toNat : Int), .int .u8 (n.dst.toNat : Int), .int .u32 (n.g.toNat : Int), .slice co n.ops.length cc, .slice eo k.length ce] 27 (0, 0)) := by
    rw [hw1]
    have := heap_alloc_new (w.alloc (.cells #[.int .u8 (m.say.toNat : Int), .int .u8 (m.src.toNat : Int), .int .u8 (m.dst.toNat : Int), .int .u32 (m.g.toNat : Int), .slice ao m.ops.length ca, .slice bo l.length cb] 27)) (.cells #[.int .u8 (n.say.toNat : Int), .int .u8 (n.src.toNat : Int), .int .u8 (n.dst.toNat : Int), .int .u32 (n.g.toNat : Int), .slice co n.ops.length cc, .slice eo k.length ce] 27)
    simpa using this
  have zX : w.heap.size < w1.heap.size := by rw [hw1]; simp; omega
  have zY : w.heap.size + 1 < w1.heap.size := by rw [hw1]; simp
  have M1 := hm.up B1
  have N1 := hn.up B1
  clear hm hn
  go_enter Tryd.func5, Tryd.ntmps5
  go_wp2_with fail
  rw [← hw1]
  clear hw1
  have b0 : Below w1.heap.size w1 w1.drew := ⟨rfl, rfl, rfl, Nat.le_refl _, fun _ _ => rfl⟩
  refine wp_region_noPanic ?_
  refine wp_region_held_drew (S := fun W => Below w1.heap.size w1 W) (by kernel_rfl) b0 (fun hHeld => ?_)
  refine wpAnyH_ready (rs := [0]) (by kernel_rfl) (by simp) ?_
  refine AllReadyH.cons (o := { dst := some 7, op := Go.Op.call { callee := Go.Callee.value (Go.Operand.func 7), args := #[], argTypes := #[] }, type := 4, pos := _, after := #[], guard := none }) rfl (fun K hK => ?_) AllReadyH.nil
  go_simp
  refine (alive_any _ (tab_below htab (B1.trans (b0.mono B1.size)))).mono ?_
  rintro e wa ⟨rfl, ba⟩
  have Ba := b0.trans (ba.mono b0.size)
  go_wp2_with fail
  refine hK.out _ _ Ba (fun hHeld => ?_)
  clear hK K ba
  try simp only [Act.put, List.setIfInBounds_toArray, List.set_cons_zero, List.set_cons_succ]
  refine wpAnyH_take (i := 1) (oi := { dst := some 8, op := Go.Op.unOp Go.UnOp.not 4 (Go.Operand.tmp 7), type := 4, pos := _, after := #[{ on := 0, ground := Go.Ground.data }], guard := none }) (v := .bool false) rfl (by kernel_rfl) (by kernel_rfl) (by kernel_rfl) (fun _ _ _ h => h) (Or.inl ⟨by rfl, fun W hW => by go_simp⟩) (by assumption) ?_
  try simp only [Act.put, List.setIfInBounds_toArray, List.set_cons_zero, List.set_cons_succ]
  refine wpAnyH_take (i := 2) (oi := { dst := some 9, op := Go.Op.move (Go.Operand.tmp 8), type := 4, pos := _, after := #[{ on := 1, ground := Go.Ground.data }, { on := 0, ground := Go.Ground.chain }], guard := none }) (v := .bool false) rfl (by kernel_rfl) (by kernel_rfl) (by kernel_rfl) (fun _ _ _ h => h) (Or.inl ⟨by rfl, fun W hW => by go_simp⟩) (by assumption) ?_
  try simp only [Act.put, List.setIfInBounds_toArray, List.set_cons_zero, List.set_cons_succ]
  refine wpAnyH_take (i := 3) (oi := { dst := some 10, op := Go.Op.load 27 (Go.Operand.tmp 2), type := 27, pos := _, after := #[{ on := 2, ground := Go.Ground.guard }], guard := some (2, false) }) (v := .agg #[.int .u8 (m.say.toNat : Int), .int .u8 (m.src.toNat : Int), .int .u8 (m.dst.toNat : Int), .int .u32 (m.g.toNat : Int), .slice ao m.ops.length ca, .slice bo l.length cb]) rfl (by kernel_rfl) (by kernel_rfl) (by kernel_rfl) (fun _ _ _ h => h) (Or.inl ⟨by rfl, fun W hW => by obtain ⟨t0, t1, t2, t3, t4, t5⟩ := six_cells ((hW.block _ zX).trans PX); go_simp⟩) (by assumption) ?_
  try simp only [Act.put, List.setIfInBounds_toArray, List.set_cons_zero, List.set_cons_succ]
  refine wpAnyH_take (i := 5) (oi := { dst := some 12, op := Go.Op.load 27 (Go.Operand.tmp 3), type := 27, pos := _, after := #[{ on := 2, ground := Go.Ground.guard }], guard := some (2, false) }) (v := .agg #[.int .u8 (n.say.toNat : Int), .int .u8 (n.src.toNat : Int), .int .u8 (n.dst.toNat : Int), .int .u32 (n.g.toNat : Int), .slice co n.ops.length cc, .slice eo k.length ce]) rfl (by kernel_rfl) (by kernel_rfl) (by kernel_rfl) (fun _ _ _ h => h) (Or.inl ⟨by rfl, fun W hW => by obtain ⟨t0, t1, t2, t3, t4, t5⟩ := six_cells ((hW.block _ zY).trans PY); go_simp⟩) (by assumption) ?_
  try simp only [Act.put, List.setIfInBounds_toArray, List.set_cons_zero, List.set_cons_succ]
  refine wpAnyH_ready (rs := [4]) (by kernel_rfl) (by simp) ?_
  refine AllReadyH.cons (o := { dst := some 11, op := Go.Op.call { callee := Go.Callee.value (Go.Operand.func 8), args := #[Go.Operand.tmp 10], argTypes := #[27] }, type := 3, pos := _, after := #[{ on := 3, ground := Go.Ground.data }, { on := 2, ground := Go.Ground.chain }, { on := 2, ground := Go.Ground.guard }], guard := some (2, false) }) rfl (fun K hK => ?_) AllReadyH.nil
  go_simp
  refine (msgSize_any wa _ _ m l (M1.up Ba)).mono ?_
  rintro e ws1 ⟨⟨y0, rfl⟩, bs1⟩
  have Bs1 := Ba.trans (bs1.mono Ba.size)
  go_wp2_with fail
  refine hK.out _ _ Bs1 (fun hHeld => ?_)
  clear hK K bs1
  try simp only [Act.put, List.setIfInBounds_toArray, List.set_cons_zero, List.set_cons_succ]
  refine wpAnyH_ready (rs := [6]) (by kernel_rfl) (by simp) ?_
  refine AllReadyH.cons (o := { dst := some 13, op := Go.Op.call { callee := Go.Callee.value (Go.Operand.func 8), args := #[Go.Operand.tmp 12], argTypes := #[27] }, type := 3, pos := _, after := #[{ on := 5, ground := Go.Ground.data }, { on := 4, ground := Go.Ground.chain }, { on := 2, ground := Go.Ground.guard }], guard := some (2, false) }) rfl (fun K hK => ?_) AllReadyH.nil
  go_simp
  refine (msgSize_any ws1 _ _ n k (N1.up Bs1)).mono ?_
  rintro e ws2 ⟨⟨y1, rfl⟩, bs2⟩
  have Bs2 := Bs1.trans (bs2.mono Bs1.size)
  obtain ⟨y, hy⟩ : ∃ y, IntKind.i64.wrap (y0 + y1) = y := ⟨_, rfl⟩
  obtain ⟨gb, hgb⟩ : ∃ gb, decide (5000 < y) = gb := ⟨_, rfl⟩
  go_wp2_with fail
  refine hK.out _ _ Bs2 (fun hHeld => ?_)
  clear hK K bs2
  try simp only [Act.put, List.setIfInBounds_toArray, List.set_cons_zero, List.set_cons_succ]
  refine wpAnyH_take (i := 7) (oi := { dst := some 14, op := Go.Op.binOp Go.BinOp.add 3 (Go.Operand.tmp 11) (Go.Operand.tmp 13) 3, type := 3, pos := _, after := #[{ on := 4, ground := Go.Ground.data }, { on := 6, ground := Go.Ground.data }, { on := 2, ground := Go.Ground.guard }], guard := some (2, false) }) (v := .int .i64 y) rfl (by kernel_rfl) (by kernel_rfl) (by kernel_rfl) (fun _ _ _ h => h) (Or.inl ⟨by rfl, fun W hW => by go_simp⟩) (by assumption) ?_
  try simp only [Act.put, List.setIfInBounds_toArray, List.set_cons_zero, List.set_cons_succ]
  refine wpAnyH_take (i := 8) (oi := { dst := some 15, op := Go.Op.binOp Go.BinOp.gtr 3 (Go.Operand.tmp 14) (Go.Operand.const (Go.Value.int Go.IntKind.i64 5000)) 3, type := 4, pos := _, after := #[{ on := 7, ground := Go.Ground.data }, { on := 2, ground := Go.Ground.guard }], guard := some (2, false) }) (v := .bool gb) rfl (by kernel_rfl) (by kernel_rfl) (by kernel_rfl) (fun _ _ _ h => h) (Or.inl ⟨by rfl, fun W hW => by go_simp⟩) (by assumption) ?_
  try simp only [Act.put, List.setIfInBounds_toArray, List.set_cons_zero, List.set_cons_succ]
  refine wpAnyH_take (i := 9) (oi := { dst := some 16, op := Go.Op.pick (Go.Operand.tmp 9) (Go.Operand.const (Go.Value.bool true)) (Go.Operand.tmp 15), type := 4, pos := _, after := #[{ on := 2, ground := Go.Ground.data }, { on := 8, ground := Go.Ground.data }], guard := none }) (v := .bool gb) rfl (by kernel_rfl) (by kernel_rfl) (by kernel_rfl) (fun _ _ _ h => h) (Or.inl ⟨by rfl, fun W hW => by go_simp⟩) (by assumption) ?_
  try simp only [Act.put, List.setIfInBounds_toArray, List.set_cons_zero, List.set_cons_succ]
  refine wpAnyH_done (by kernel_rfl) ?_ _
  refine NoPanic.normal ?_
  cases gb with
  | true =>
    clear hHeld hy hgb PX PY zX zY M1 N1
    have Bc := B1.trans (Bs2.mono B1.size)
    go_wp2_with fail
    refine (alive_any _ (tab_below htab Bc)).mono ?_
    rintro e w9 ⟨rfl, b9⟩
    have B9 := Bc.trans (b9.mono Bc.size)
    clear b9 Bc
    go_wp2
    go_ret
    exact ⟨rfl, B9⟩
  | false =>
    have PX2 := (Bs2.block _ zX).trans PX
    have PY2 := (Bs2.block _ zY).trans PY
    have Bc := B1.trans (Bs2.mono B1.size)
    have ba := below_one ws2 (.cells #[.int .u8 (m.say.toNat : Int), .int .u8 (m.src.toNat : Int), .int .u8 (m.dst.toNat : Int), .int .u32 (m.g.toNat : Int), .slice none 0 0, .slice none 0 0] 27)
    have zX2 := Nat.lt_of_lt_of_le zX Bs2.size
    have zY2 := Nat.lt_of_lt_of_le zY Bs2.size
    have PX3 := (ba.block _ zX2).trans PX2
    have PY3 := (ba.block _ zY2).trans PY2
    have PB3 := heap_alloc_new ws2 (.cells #[.int .u8 (m.say.toNat : Int), .int .u8 (m.src.toNat : Int), .int .u8 (m.dst.toNat : Int), .int .u32 (m.g.toNat : Int), .slice none 0 0, .slice none 0 0] 27)
    have zX3 := Nat.lt_of_lt_of_le zX2 ba.size
    have zY3 := Nat.lt_of_lt_of_le zY2 ba.size
    have zB3 : ws2.heap.size < (ws2.alloc (.cells #[.int .u8 (m.say.toNat : Int), .int .u8 (m.src.toNat : Int), .int .u8 (m.dst.toNat : Int), .int .u32 (m.g.toNat : Int), .slice none 0 0, .slice none 0 0] 27)).heap.size := by simp
    have B3 := Bc.trans (ba.mono Bc.size)
    obtain ⟨m0, m1, m2, m3, m4, m5⟩ := six_cells PX2
    obtain ⟨u0, u1, u2, u3, u4, u5⟩ := six_cells PX3
    obtain ⟨n0, n1, n2, n3, n4, n5⟩ := six_cells PY3
    clear hy hgb hHeld PX PY PX2 PY2 zX zY zX2 zY2 Bc ba M1 N1
    go_wp2_with fail
    generalize ws2.alloc (.cells #[.int .u8 (m.say.toNat : Int), .int .u8 (m.src.toNat : Int), .int .u8 (m.dst.toNat : Int), .int .u32 (m.g.toNat : Int), .slice none 0 0, .slice none 0 0] 27) = w5 at *
    generalize ws2.heap.size = XB at *
    clear m0 m1 m2 m3 m4 m5 u0 u1 u2 u3 u4 u5 n0 n1 n2 n3 n4 n5
    have c0 : Below w5.heap.size w5 w5.drew := ⟨rfl, rfl, rfl, Nat.le_refl _, fun _ _ => rfl⟩
    refine wp_region_noPanic ?_
    refine wp_region_held_drew (S := fun W => Below w5.heap.size w5 W) (by kernel_rfl) c0 (fun hHeld => ?_)
    refine wpAnyH_take (i := 0) (oi := { dst := some 47, op := Go.Op.load 27 (Go.Operand.tmp 5), type := 27, pos := _, after := #[], guard := none }) (v := .agg #[.int .u8 (m.say.toNat : Int), .int .u8 (m.src.toNat : Int), .int .u8 (m.dst.toNat : Int), .int .u32 (m.g.toNat : Int), .slice none 0 0, .slice none 0 0]) rfl (by kernel_rfl) (by kernel_rfl) (by kernel_rfl) (fun _ _ _ h => h) (Or.inl ⟨by rfl, fun W hW => by obtain ⟨t0, t1, t2, t3, t4, t5⟩ := six_cells ((hW.block _ zB3).trans PB3); go_simp⟩) (by assumption) ?_
    try simp only [Act.put, List.setIfInBounds_toArray, List.set_cons_zero, List.set_cons_succ]
    refine wpAnyH_take (i := 2) (oi := { dst := some 49, op := Go.Op.load 27 (Go.Operand.tmp 2), type := 27, pos := _, after := #[], guard := none }) (v := .agg #[.int .u8 (m.say.toNat : Int), .int .u8 (m.src.toNat : Int), .int .u8 (m.dst.toNat : Int), .int .u32 (m.g.toNat : Int), .slice ao m.ops.length ca, .slice bo l.length cb]) rfl (by kernel_rfl) (by kernel_rfl) (by kernel_rfl) (fun _ _ _ h => h) (Or.inl ⟨by rfl, fun W hW => by obtain ⟨t0, t1, t2, t3, t4, t5⟩ := six_cells ((hW.block _ zX3).trans PX3); go_simp⟩) (by assumption) ?_
    try simp only [Act.put, List.setIfInBounds_toArray, List.set_cons_zero, List.set_cons_succ]
    refine wpAnyH_ready (rs := [1]) (by kernel_rfl) (by simp) ?_
    refine AllReadyH.cons (o := { dst := some 48, op := Go.Op.call { callee := Go.Callee.value (Go.Operand.func 15), args := #[Go.Operand.tmp 47], argTypes := #[27] }, type := 9, pos := _, after := #[{ on := 0, ground := Go.Ground.data }], guard := none }) rfl (fun K hK => ?_) AllReadyH.nil
    go_simp
    refine (kM _ _ _ _ _ _ w5.drew (B3.trans (c0.mono B3.size))).mono ?_
    rintro e wt1 ⟨rfl, bt1⟩
    have Bt1 := c0.trans (bt1.mono c0.size)
    go_wp2_with fail
    refine hK.out _ _ Bt1 (fun hHeld => ?_)
    clear hK K bt1
    try simp only [Act.put, List.setIfInBounds_toArray, List.set_cons_zero, List.set_cons_succ]
    refine wpAnyH_ready (rs := [3]) (by kernel_rfl) (by simp) ?_
    refine AllReadyH.cons (o := { dst := some 50, op := Go.Op.call { callee := Go.Callee.value (Go.Operand.func 15), args := #[Go.Operand.tmp 49], argTypes := #[27] }, type := 9, pos := _, after := #[{ on := 2, ground := Go.Ground.data }, { on := 1, ground := Go.Ground.chain }], guard := none }) rfl (fun K hK => ?_) AllReadyH.nil
    go_simp
    refine (kM _ _ _ _ _ _ wt1 (B3.trans (Bt1.mono B3.size))).mono ?_
    rintro e wt2 ⟨rfl, bt2⟩
    have Bt2 := Bt1.trans (bt2.mono Bt1.size)
    go_wp2_with fail
    refine hK.out _ _ Bt2 (fun hHeld => ?_)
    clear hK K bt2
    try simp only [Act.put, List.setIfInBounds_toArray, List.set_cons_zero, List.set_cons_succ]
    refine wpAnyH_take (i := 4) (oi := { dst := some 51, op := Go.Op.binOp Go.BinOp.eql 9 (Go.Operand.tmp 48) (Go.Operand.tmp 50) 9, type := 4, pos := _, after := #[{ on := 1, ground := Go.Ground.data }, { on := 3, ground := Go.Ground.data }], guard := none }) (v := .bool true) rfl (by kernel_rfl) (by kernel_rfl) (by kernel_rfl) (fun _ _ _ h => h) (Or.inl ⟨by rfl, fun W hW => by go_simp⟩) (by assumption) ?_
    try simp only [Act.put, List.setIfInBounds_toArray, List.set_cons_zero, List.set_cons_succ]
    refine wpAnyH_take (i := 5) (oi := { dst := some 52, op := Go.Op.move (Go.Operand.tmp 51), type := 4, pos := _, after := #[{ on := 4, ground := Go.Ground.data }, { on := 3, ground := Go.Ground.chain }], guard := none }) (v := .bool true) rfl (by kernel_rfl) (by kernel_rfl) (by kernel_rfl) (fun _ _ _ h => h) (Or.inl ⟨by rfl, fun W hW => by go_simp⟩) (by assumption) ?_
    try simp only [Act.put, List.setIfInBounds_toArray, List.set_cons_zero, List.set_cons_succ]
    refine wpAnyH_take (i := 6) (oi := { dst := some 53, op := Go.Op.load 27 (Go.Operand.tmp 2), type := 27, pos := _, after := #[{ on := 5, ground := Go.Ground.guard }], guard := some (5, true) }) (v := .agg #[.int .u8 (m.say.toNat : Int), .int .u8 (m.src.toNat : Int), .int .u8 (m.dst.toNat : Int), .int .u32 (m.g.toNat : Int), .slice ao m.ops.length ca, .slice bo l.length cb]) rfl (by kernel_rfl) (by kernel_rfl) (by kernel_rfl) (fun _ _ _ h => h) (Or.inl ⟨by rfl, fun W hW => by obtain ⟨t0, t1, t2, t3, t4, t5⟩ := six_cells ((hW.block _ zX3).trans PX3); go_simp⟩) (by assumption) ?_
    try simp only [Act.put, List.setIfInBounds_toArray, List.set_cons_zero, List.set_cons_succ]
    refine wpAnyH_take (i := 8) (oi := { dst := some 55, op := Go.Op.load 27 (Go.Operand.tmp 3), type := 27, pos := _, after := #[{ on := 5, ground := Go.Ground.guard }], guard := some (5, true) }) (v := .agg #[.int .u8 (n.say.toNat : Int), .int .u8 (n.src.toNat : Int), .int .u8 (n.dst.toNat : Int), .int .u32 (n.g.toNat : Int), .slice co n.ops.length cc, .slice eo k.length ce]) rfl (by kernel_rfl) (by kernel_rfl) (by kernel_rfl) (fun _ _ _ h => h) (Or.inl ⟨by rfl, fun W hW => by obtain ⟨t0, t1, t2, t3, t4, t5⟩ := six_cells ((hW.block _ zY3).trans PY3); go_simp⟩) (by assumption) ?_
    try simp only [Act.put, List.setIfInBounds_toArray, List.set_cons_zero, List.set_cons_succ]
    refine wpAnyH_take (i := 11) (oi := { dst := some 58, op := Go.Op.move (Go.Operand.tmp 6), type := 4, pos := _, after := #[{ on := 5, ground := Go.Ground.guard }], guard := some (5, true) }) (v := .bool true) rfl (by kernel_rfl) (by kernel_rfl) (by kernel_rfl) (fun _ _ _ h => h) (Or.inl ⟨by rfl, fun W hW => by go_simp⟩) (by assumption) ?_
    try simp only [Act.put, List.setIfInBounds_toArray, List.set_cons_zero, List.set_cons_succ]
    refine wpAnyH_ready (rs := [7]) (by kernel_rfl) (by simp) ?_
    refine AllReadyH.cons (o := { dst := some 54, op := Go.Op.call { callee := Go.Callee.value (Go.Operand.func 15), args := #[Go.Operand.tmp 53], argTypes := #[27] }, type := 9, pos := _, after := #[{ on := 6, ground := Go.Ground.data }, { on := 5, ground := Go.Ground.chain }, { on := 5, ground := Go.Ground.guard }], guard := some (5, true) }) rfl (fun K hK => ?_) AllReadyH.nil
    go_simp
    refine (kM _ _ _ _ _ _ wt2 (B3.trans (Bt2.mono B3.size))).mono ?_
    rintro e wt3 ⟨rfl, bt3⟩
    have Bt3 := Bt2.trans (bt3.mono Bt2.size)
    go_wp2_with fail
    refine hK.out _ _ Bt3 (fun hHeld => ?_)
    clear hK K bt3
    try simp only [Act.put, List.setIfInBounds_toArray, List.set_cons_zero, List.set_cons_succ]
    refine wpAnyH_ready (rs := [9]) (by kernel_rfl) (by simp) ?_
    refine AllReadyH.cons (o := { dst := some 56, op := Go.Op.call { callee := Go.Callee.value (Go.Operand.func 15), args := #[Go.Operand.tmp 55], argTypes := #[27] }, type := 9, pos := _, after := #[{ on := 8, ground := Go.Ground.data }, { on := 7, ground := Go.Ground.chain }, { on := 5, ground := Go.Ground.guard }], guard := some (5, true) }) rfl (fun K hK => ?_) AllReadyH.nil
    go_simp
    refine (kN _ _ _ _ _ _ wt3 (B3.trans (Bt3.mono B3.size))).mono ?_
    rintro e wt4 ⟨rfl, bt4⟩
    have Bt4 := Bt3.trans (bt4.mono Bt3.size)
    go_wp2_with fail
    refine hK.out _ _ Bt4 (fun hHeld => ?_)
    clear hK K bt4
    try simp only [Act.put, List.setIfInBounds_toArray, List.set_cons_zero, List.set_cons_succ]
    refine wpAnyH_take (i := 10) (oi := { dst := some 57, op := Go.Op.binOp Go.BinOp.eql 9 (Go.Operand.tmp 54) (Go.Operand.tmp 56) 9, type := 4, pos := _, after := #[{ on := 7, ground := Go.Ground.data }, { on := 9, ground := Go.Ground.data }, { on := 5, ground := Go.Ground.guard }], guard := some (5, true) }) (v := .bool true) rfl (by kernel_rfl) (by kernel_rfl) (by kernel_rfl) (fun _ _ _ h => h) (Or.inl ⟨by rfl, fun W hW => by have h1 := HE.out; go_simp <;> exact h1⟩) (by assumption) ?_
    try simp only [Act.put, List.setIfInBounds_toArray, List.set_cons_zero, List.set_cons_succ]
    refine wpAnyH_take (i := 12) (oi := { dst := some 59, op := Go.Op.binOp Go.BinOp.eql 4 (Go.Operand.tmp 57) (Go.Operand.tmp 58) 4, type := 4, pos := _, after := #[{ on := 10, ground := Go.Ground.data }, { on := 11, ground := Go.Ground.data }, { on := 5, ground := Go.Ground.guard }], guard := some (5, true) }) (v := .bool true) rfl (by kernel_rfl) (by kernel_rfl) (by kernel_rfl) (fun _ _ _ h => h) (Or.inl ⟨by rfl, fun W hW => by go_simp⟩) (by assumption) ?_
    try simp only [Act.put, List.setIfInBounds_toArray, List.set_cons_zero, List.set_cons_succ]
    refine wpAnyH_take (i := 13) (oi := { dst := some 60, op := Go.Op.pick (Go.Operand.tmp 52) (Go.Operand.tmp 59) (Go.Operand.const (Go.Value.bool false)), type := 4, pos := _, after := #[{ on := 5, ground := Go.Ground.data }, { on := 12, ground := Go.Ground.data }], guard := none }) (v := .bool true) rfl (by kernel_rfl) (by kernel_rfl) (by kernel_rfl) (fun _ _ _ h => h) (Or.inl ⟨by rfl, fun W hW => by go_simp⟩) (by assumption) ?_
    try simp only [Act.put, List.setIfInBounds_toArray, List.set_cons_zero, List.set_cons_succ]
    refine wpAnyH_take (i := 14) (oi := { dst := some 4, op := Go.Op.assign (Go.Operand.tmp 60), type := 4, pos := _, after := #[{ on := 13, ground := Go.Ground.data }, { on := 9, ground := Go.Ground.chain }, { on := 0, ground := Go.Ground.phase }, { on := 1, ground := Go.Ground.phase }, { on := 2, ground := Go.Ground.phase }, { on := 3, ground := Go.Ground.phase }, { on := 4, ground := Go.Ground.phase }, { on := 5, ground := Go.Ground.phase }, { on := 6, ground := Go.Ground.phase }, { on := 7, ground := Go.Ground.phase }, { on := 8, ground := Go.Ground.phase }, { on := 9, ground := Go.Ground.phase }, { on := 10, ground := Go.Ground.phase }, { on := 11, ground := Go.Ground.phase }, { on := 12, ground := Go.Ground.phase }, { on := 13, ground := Go.Ground.phase }], guard := none }) (v := .bool true) rfl (by kernel_rfl) (by kernel_rfl) (by kernel_rfl) (fun _ _ _ h => h) (Or.inl ⟨by rfl, fun W hW => by go_simp⟩) (by assumption) ?_
    try simp only [Act.put, List.setIfInBounds_toArray, List.set_cons_zero, List.set_cons_succ]
    refine wpAnyH_done (by kernel_rfl) ?_ _
    refine NoPanic.normal ?_
    have Bz := B3.trans (Bt4.mono B3.size)
    clear hHeld
    go_wp2
    go_ret
    exact ⟨rfl, Bz⟩
theorem lines_walk (w : World) (vo vr uo ur : Value) (m : MsgD) (l : List ResP) (n : MsgD) (k : List ResP) (hm : MsgAt w w.heap.size vo vr m l) (hn : MsgAt w w.heap.size uo ur n k) (htab : Tab w) :
    Calls Tryd.prog 5 #[msgV m vo vr, msgV n uo ur] w fun e w' => e = .returned (.bool true) ∧ Below w.heap.size w w' := by
  by_cases h0 : m.say = n.say
  case neg => exact lines_0 w vo vr uo ur m l n k hm hn htab h0
  by_cases h1 : m.src = n.src
  case neg => exact lines_1 w vo vr uo ur m l n k hm hn htab h0 h1
  by_cases h2 : m.dst = n.dst
  case neg => exact lines_2 w vo vr uo ur m l n k hm hn htab h0 h1 h2
  by_cases h3 : m.g = n.g
  case neg => exact lines_3 w vo vr uo ur m l n k hm hn htab h0 h1 h2 h3
  exact lines_4 w vo vr uo ur m l n k hm hn htab h0 h1 h2 h3
end Go.Proofs.YtcgecdiaddcfkaaDoor
