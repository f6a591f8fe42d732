/- Texts of this proof, laid into one. -/
import Derived.Test.YtcgecdiaddcfkaaGreatDoorM18
import Derived.Test.YtcgecdiaddcfkaaGreatDoorPStepsM
import Derived.Test.YtcgecdiaddcfkaaGreatDoorM21
import Derived.Test.YtcgecdiaddcfkaaGreatDoorM22
import Derived.Test.YtcgecdiaddcfkaaGreatDoorM23
import Derived.Test.YtcgecdiaddcfkaaGreatDoorM17
/- The walk of TwinMsg. -/
set_option linter.unusedSimpArgs false
set_option linter.unusedVariables false
namespace Go.Proofs.YtcgecdiaddcfkaaGreatDoor
open Go.RowKit

theorem ltT {w : World} {b : Nat} {o : Obj} (h : w.heap[b]? = some o) : b < w.heap.size := by
  rcases Nat.lt_or_ge b w.heap.size with h' | h'
  · exact h'
  · rw [Array.getElem?_eq_none h'] at h; cases h
set_option maxHeartbeats 2000000 in
set_option maxRecDepth 1000000 in
theorem twinMsg_any (w : World) (vo vr : Value) (m : MsgD) (l : List ResP) (hm : MsgAt w w.heap.size vo vr m l) (hn1 : m.ops.length ≤ 1000000) (hn2 : l.length ≤ 1000000) (hn3 : ∀ p ∈ l, p.2.length ≤ 1000000) :
    Calls Tryz.prog 6 #[msgV m vo vr] w fun e w' => ∃ q1 q2 ms sb, e = .returned (.agg #[.int .u8 (m.say.toNat : Int), .int .u8 (m.src.toNat : Int), .int .u8 (m.dst.toNat : Int), .int .u32 (m.g.toNat : Int), .slice (some ⟨q1, 0, none⟩) m.ops.length (m.ops.length + 1), .slice (some ⟨q2, 0, none⟩) l.length (l.length + 1)]) ∧ ms.map (·.2) = l.map (·.2) ∧ w.heap.size ≤ q1 ∧ q1 < q2 ∧ q2 < sb ∧
      w'.ownsRow q1 85 4 (.slice (some ⟨q1, 0, none⟩) (m.ops.length + 1) (m.ops.length + 1)) (m.ops.length + 1) (m.ops.flatMap opCells ++ spareOp) ∧ TwRes w' q2 ms ∧ w'.ownsRow q2 89 1 (.slice (some ⟨q2, 0, none⟩) (l.length + 1) (l.length + 1)) (l.length + 1) (ms.flatMap resCells ++ [.slice (some ⟨sb, 0, none⟩) 1 1]) ∧ w'.heap[sb]? = some (.cells #[.string ⟨#[115, 112, 97, 114, 101]⟩, .int .u32 0] 92 (0, 0)) ∧ Below w.heap.size w w' := by
  obtain ⟨ao, ca, bo, cb, rfl, rfl⟩ := hm.form
  unfold msgV
  obtain ⟨w1, hw1⟩ : ∃ w1, w1 = (w.alloc (.cells #[.int .u8 (m.say.toNat : Int), .int .u8 (m.src.toNat : Int), .int .u8 (m.dst.toNat : Int), .int .u32 (m.g.toNat : Int), .slice ao m.ops.length ca, .slice bo l.length cb] 27)).alloc (.cells #[.int .u8 0, .int .u8 0, .int .u8 0, .int .u32 0, .slice none 0 0, .slice none 0 0] 27) := ⟨_, rfl⟩
  have B1 : Below w.heap.size w w1 := by rw [hw1]; exact ((Below.refl _ _).alloc (Nat.le_refl _) _).alloc (by simp) _
  have PX : w1.heap[w.heap.size]? = some (.cells #[.int .u8 (m.say.toNat : Int), .int .u8 (m.src.toNat : Int), .int .u8 (m.dst.toNat : Int), .int .u32 (m.g.toNat : Int), .slice ao m.ops.length ca, .slice bo l.length cb] 27 (0, 0)) := by rw [hw1]; exact alloc_block (heap_alloc_new w _) _
  have PY : w1.heap[w.heap.size + 1]? = some (.cells #[.int .u8 0, .int .u8 0, .int .u8 0, .int .u32 0, .slice none 0 0, .slice none 0 0] 27 (0, 0)) := by
    rw [hw1]
    have := heap_alloc_new (w.alloc (.cells #[.int .u8 (m.say.toNat : Int), .int .u8 (m.src.toNat : Int), .int .u8 (m.dst.toNat : Int), .int .u32 (m.g.toNat : Int), .slice ao m.ops.length ca, .slice bo l.length cb] 27)) (.cells #[.int .u8 0, .int .u8 0, .int .u8 0, .int .u32 0, .slice none 0 0, .slice none 0 0] 27)
    simpa using this
  have zX : w.heap.size < w1.heap.size := by rw [hw1]; simp; omega
  have zY : w.heap.size + 1 < w1.heap.size := by rw [hw1]; simp
  have M1 := hm.up B1
  have b0 : Below w1.heap.size w1 w1.drew := ⟨rfl, rfl, rfl, Nat.le_refl _, fun _ _ => rfl⟩
  clear hm
  go_enter Tryz.func6, Tryz.ntmps6
  go_wp2_with fail
  rw [← hw1]
  clear hw1
  refine wp_region_noPanic ?_
  refine wp_region_held_drew (S := fun W => Below (w.heap.size + 1) w1 W) (by kernel_rfl) (b0.mono (by omega)) (fun hHeld => ?_)
  refine wpAnyH_take (i := 0) (oi := { dst := some 3, op := Go.Op.fieldAddr 27 (Go.Operand.tmp 1) 0, type := 0, pos := _, after := #[], guard := none }) (v := .pointer (some ⟨w.heap.size, 0, none⟩)) rfl (by kernel_rfl) (by kernel_rfl) (by kernel_rfl) (fun _ _ _ h => h) (Or.inl ⟨by rfl, fun W hW => by go_simp⟩) (by assumption) ?_
  try simp only [Act.put, List.setIfInBounds_toArray, List.set_cons_zero, List.set_cons_succ]
  refine wpAnyH_take (i := 1) (oi := { dst := some 4, op := Go.Op.load 22 (Go.Operand.tmp 3), type := 22, pos := _, after := #[{ on := 0, ground := Go.Ground.data }], guard := none }) (v := .int .u8 (m.say.toNat : Int)) rfl (by kernel_rfl) (by kernel_rfl) (by kernel_rfl) (fun _ _ _ h => h) (Or.inl ⟨by rfl, fun W hW => by obtain ⟨t0, t1, t2, t3, t4, t5⟩ := six_cells ((hW.block _ (Nat.lt_succ_self _)).trans PX); go_simp⟩) (by assumption) ?_
  try simp only [Act.put, List.setIfInBounds_toArray, List.set_cons_zero, List.set_cons_succ]
  refine wpAnyH_take (i := 2) (oi := { dst := some 5, op := Go.Op.fieldAddr 27 (Go.Operand.tmp 1) 1, type := 0, pos := _, after := #[], guard := none }) (v := .pointer (some ⟨w.heap.size, 1, none⟩)) rfl (by kernel_rfl) (by kernel_rfl) (by kernel_rfl) (fun _ _ _ h => h) (Or.inl ⟨by rfl, fun W hW => by go_simp⟩) (by assumption) ?_
  try simp only [Act.put, List.setIfInBounds_toArray, List.set_cons_zero, List.set_cons_succ]
  refine wpAnyH_take (i := 3) (oi := { dst := some 6, op := Go.Op.load 5 (Go.Operand.tmp 5), type := 5, pos := _, after := #[{ on := 2, ground := Go.Ground.data }], guard := none }) (v := .int .u8 (m.src.toNat : Int)) rfl (by kernel_rfl) (by kernel_rfl) (by kernel_rfl) (fun _ _ _ h => h) (Or.inl ⟨by rfl, fun W hW => by obtain ⟨t0, t1, t2, t3, t4, t5⟩ := six_cells ((hW.block _ (Nat.lt_succ_self _)).trans PX); go_simp⟩) (by assumption) ?_
  try simp only [Act.put, List.setIfInBounds_toArray, List.set_cons_zero, List.set_cons_succ]
  refine wpAnyH_take (i := 4) (oi := { dst := some 7, op := Go.Op.fieldAddr 27 (Go.Operand.tmp 1) 2, type := 0, pos := _, after := #[], guard := none }) (v := .pointer (some ⟨w.heap.size, 2, none⟩)) rfl (by kernel_rfl) (by kernel_rfl) (by kernel_rfl) (fun _ _ _ h => h) (Or.inl ⟨by rfl, fun W hW => by go_simp⟩) (by assumption) ?_
  try simp only [Act.put, List.setIfInBounds_toArray, List.set_cons_zero, List.set_cons_succ]
  refine wpAnyH_take (i := 5) (oi := { dst := some 8, op := Go.Op.load 5 (Go.Operand.tmp 7), type := 5, pos := _, after := #[{ on := 4, ground := Go.Ground.data }], guard := none }) (v := .int .u8 (m.dst.toNat : Int)) rfl (by kernel_rfl) (by kernel_rfl) (by kernel_rfl) (fun _ _ _ h => h) (Or.inl ⟨by rfl, fun W hW => by obtain ⟨t0, t1, t2, t3, t4, t5⟩ := six_cells ((hW.block _ (Nat.lt_succ_self _)).trans PX); go_simp⟩) (by assumption) ?_
  try simp only [Act.put, List.setIfInBounds_toArray, List.set_cons_zero, List.set_cons_succ]
  refine wpAnyH_take (i := 6) (oi := { dst := some 9, op := Go.Op.fieldAddr 27 (Go.Operand.tmp 1) 3, type := 0, pos := _, after := #[], guard := none }) (v := .pointer (some ⟨w.heap.size, 3, none⟩)) rfl (by kernel_rfl) (by kernel_rfl) (by kernel_rfl) (fun _ _ _ h => h) (Or.inl ⟨by rfl, fun W hW => by go_simp⟩) (by assumption) ?_
  try simp only [Act.put, List.setIfInBounds_toArray, List.set_cons_zero, List.set_cons_succ]
  refine wpAnyH_take (i := 7) (oi := { dst := some 10, op := Go.Op.load 23 (Go.Operand.tmp 9), type := 23, pos := _, after := #[{ on := 6, ground := Go.Ground.data }], guard := none }) (v := .int .u32 (m.g.toNat : Int)) rfl (by kernel_rfl) (by kernel_rfl) (by kernel_rfl) (fun _ _ _ h => h) (Or.inl ⟨by rfl, fun W hW => by obtain ⟨t0, t1, t2, t3, t4, t5⟩ := six_cells ((hW.block _ (Nat.lt_succ_self _)).trans PX); go_simp⟩) (by assumption) ?_
  try simp only [Act.put, List.setIfInBounds_toArray, List.set_cons_zero, List.set_cons_succ]
  refine wpAnyH_take (i := 8) (oi := { dst := some 11, op := Go.Op.fieldAddr 27 (Go.Operand.tmp 1) 4, type := 0, pos := _, after := #[], guard := none }) (v := .pointer (some ⟨w.heap.size, 4, none⟩)) rfl (by kernel_rfl) (by kernel_rfl) (by kernel_rfl) (fun _ _ _ h => h) (Or.inl ⟨by rfl, fun W hW => by go_simp⟩) (by assumption) ?_
  try simp only [Act.put, List.setIfInBounds_toArray, List.set_cons_zero, List.set_cons_succ]
  refine wpAnyH_take (i := 9) (oi := { dst := some 12, op := Go.Op.load 24 (Go.Operand.tmp 11), type := 24, pos := _, after := #[{ on := 8, ground := Go.Ground.data }], guard := none }) (v := .slice ao m.ops.length ca) rfl (by kernel_rfl) (by kernel_rfl) (by kernel_rfl) (fun _ _ _ h => h) (Or.inl ⟨by rfl, fun W hW => by obtain ⟨t0, t1, t2, t3, t4, t5⟩ := six_cells ((hW.block _ (Nat.lt_succ_self _)).trans PX); go_simp⟩) (by assumption) ?_
  try simp only [Act.put, List.setIfInBounds_toArray, List.set_cons_zero, List.set_cons_succ]
  refine wpAnyH_take (i := 11) (oi := { dst := some 14, op := Go.Op.fieldAddr 27 (Go.Operand.tmp 1) 5, type := 0, pos := _, after := #[], guard := none }) (v := .pointer (some ⟨w.heap.size, 5, none⟩)) rfl (by kernel_rfl) (by kernel_rfl) (by kernel_rfl) (fun _ _ _ h => h) (Or.inl ⟨by rfl, fun W hW => by go_simp⟩) (by assumption) ?_
  try simp only [Act.put, List.setIfInBounds_toArray, List.set_cons_zero, List.set_cons_succ]
  refine wpAnyH_take (i := 12) (oi := { dst := some 15, op := Go.Op.load 25 (Go.Operand.tmp 14), type := 25, pos := _, after := #[{ on := 11, ground := Go.Ground.data }], guard := none }) (v := .slice bo l.length cb) rfl (by kernel_rfl) (by kernel_rfl) (by kernel_rfl) (fun _ _ _ h => h) (Or.inl ⟨by rfl, fun W hW => by obtain ⟨t0, t1, t2, t3, t4, t5⟩ := six_cells ((hW.block _ (Nat.lt_succ_self _)).trans PX); go_simp⟩) (by assumption) ?_
  try simp only [Act.put, List.setIfInBounds_toArray, List.set_cons_zero, List.set_cons_succ]
  refine wpAnyH_ready (rs := [10]) (by kernel_rfl) (by simp) ?_
  refine AllReadyH.cons (o := { dst := some 13, op := Go.Op.call { callee := Go.Callee.value (Go.Operand.func 23), args := #[Go.Operand.tmp 12], argTypes := #[24] }, type := 24, pos := _, after := #[{ on := 9, ground := Go.Ground.data }], guard := none }) rfl (fun K hK => ?_) AllReadyH.nil
  go_simp
  refine (twinOp_any w1.drew _ m.ops (M1.up b0).ops hn1).mono ?_
  rintro e w2 ⟨rfl, o2, b2⟩
  have B2 := b0.trans (b2.mono b0.size)
  have L2 : Hid (w1.heap.size < w2.heap.size) := (o2.lt _ rfl).2
  obtain ⟨q1, hq1⟩ : ∃ q, q = w1.drew.heap.size := ⟨_, rfl⟩
  have HQ1 : Hid (q1 = w1.heap.size) := hq1
  rw [← hq1] at o2 ⊢
  clear hq1
  go_wp2_with fail
  refine hK.out _ _ (B2.mono (by omega)) (fun hHeld => ?_)
  clear hK K b2
  try simp only [Act.put, List.setIfInBounds_toArray, List.set_cons_zero, List.set_cons_succ]
  refine wpAnyH_ready (rs := [13]) (by kernel_rfl) (by simp) ?_
  refine AllReadyH.cons (o := { dst := some 16, op := Go.Op.call { callee := Go.Callee.value (Go.Operand.func 24), args := #[Go.Operand.tmp 15], argTypes := #[25] }, type := 25, pos := _, after := #[{ on := 12, ground := Go.Ground.data }, { on := 10, ground := Go.Ground.chain }], guard := none }) rfl (fun K hK => ?_) AllReadyH.nil
  go_simp
  refine (twinResults_any w2 _ l (M1.up B2).res hn2 hn3).mono ?_
  rintro e w3 ⟨rfl, ms, sb, r1, r2, r3, r4, r5, b3⟩
  have B3 := B2.trans (b3.mono B2.size)
  have o3 := own_below o2 b3
  have L3 : Hid (w2.heap.size < w3.heap.size) := (r3.lt _ rfl).2
  obtain ⟨q2, hq2⟩ : ∃ q, q = w2.heap.size := ⟨_, rfl⟩
  have HQ2 : Hid (q2 = w2.heap.size) := hq2
  rw [← hq2] at r2 r3 r4 ⊢
  clear hq2
  go_wp2_with fail
  refine hK.out _ _ (B3.mono (by omega)) (fun hHeld => ?_)
  clear hK K
  have PY3 := (B3.block _ zY).trans PY
  obtain ⟨y0, y1, y2, y3, y4, y5⟩ := six_cells PY3
  have fY := fun i => box_frozen (i := i) PY3
  try simp only [Act.put, List.setIfInBounds_toArray, List.set_cons_zero, List.set_cons_succ]
  refine wpAnyH_take (i := 14) (oi := { dst := some 17, op := Go.Op.build 27 #[(0, Go.Operand.tmp 4), (1, Go.Operand.tmp 6), (2, Go.Operand.tmp 8), (3, Go.Operand.tmp 10), (4, Go.Operand.tmp 13), (5, Go.Operand.tmp 16)], type := 27, pos := _, after := #[{ on := 1, ground := Go.Ground.data }, { on := 3, ground := Go.Ground.data }, { on := 5, ground := Go.Ground.data }, { on := 7, ground := Go.Ground.data }, { on := 10, ground := Go.Ground.data }, { on := 13, ground := Go.Ground.data }], guard := none }) (v := .agg #[.int .u8 (m.say.toNat : Int), .int .u8 (m.src.toNat : Int), .int .u8 (m.dst.toNat : Int), .int .u32 (m.g.toNat : Int), .slice (some ⟨q1, 0, none⟩) m.ops.length (m.ops.length + 1), .slice (some ⟨q2, 0, none⟩) l.length (l.length + 1)]) rfl (by kernel_rfl) (by kernel_rfl) (by kernel_rfl) (fun _ _ _ h => h) (Or.inl ⟨by rfl, fun W hW => by go_simp⟩) (by assumption) ?_
  try simp only [Act.put, List.setIfInBounds_toArray, List.set_cons_zero, List.set_cons_succ]
  refine wpAnyH_ready (rs := [15]) (by kernel_rfl) (by simp) ?_
  refine AllReadyH.cons (o := { dst := none, op := Go.Op.store 27 (Go.Operand.tmp 2) (Go.Operand.tmp 17), type := 0, pos := _, after := #[{ on := 14, ground := Go.Ground.data }, { on := 13, ground := Go.Ground.chain }, { on := 0, ground := Go.Ground.phase }, { on := 1, ground := Go.Ground.phase }, { on := 2, ground := Go.Ground.phase }, { on := 3, ground := Go.Ground.phase }, { on := 4, ground := Go.Ground.phase }, { on := 5, ground := Go.Ground.phase }, { on := 6, ground := Go.Ground.phase }, { on := 7, ground := Go.Ground.phase }, { on := 8, ground := Go.Ground.phase }, { on := 9, ground := Go.Ground.phase }, { on := 10, ground := Go.Ground.phase }, { on := 11, ground := Go.Ground.phase }, { on := 12, ground := Go.Ground.phase }, { on := 13, ground := Go.Ground.phase }, { on := 14, ground := Go.Ground.phase }], guard := none }) rfl (fun K hK => ?_) AllReadyH.nil
  obtain ⟨x8, k8⟩ := six_store PY3 (.int .u8 (m.say.toNat : Int)) (.int .u8 (m.src.toNat : Int)) (.int .u8 (m.dst.toNat : Int)) (.int .u32 (m.g.toNat : Int)) (.slice (some ⟨q1, 0, none⟩) m.ops.length (m.ops.length + 1)) (.slice (some ⟨q2, 0, none⟩) l.length (l.length + 1))
  have B8 : Below (w.heap.size + 1) w1 ((((((w3.setCell ⟨w.heap.size + 1, 0, none⟩ (.int .u8 (m.say.toNat : Int))).setCell ⟨w.heap.size + 1, 1, none⟩ (.int .u8 (m.src.toNat : Int))).setCell ⟨w.heap.size + 1, 2, none⟩ (.int .u8 (m.dst.toNat : Int))).setCell ⟨w.heap.size + 1, 3, none⟩ (.int .u32 (m.g.toNat : Int))).setCell ⟨w.heap.size + 1, 4, none⟩ (.slice (some ⟨q1, 0, none⟩) m.ops.length (m.ops.length + 1))).setCell ⟨w.heap.size + 1, 5, none⟩ (.slice (some ⟨q2, 0, none⟩) l.length (l.length + 1))) := (B3.mono (by omega)).trans (k8.below (Nat.le_refl _) (by have := B3.size; omega))
  go_simp
  refine hK.out _ _ B8 (fun hHeld => ?_)
  clear hK K
  try simp only [Act.put, List.setIfInBounds_toArray, List.set_cons_zero, List.set_cons_succ]
  refine wpAnyH_done (by kernel_rfl) ?_ _
  refine NoPanic.normal ?_
  clear hHeld y0 y1 y2 y3 y4 y5 fY PY3
  have kW : Wrote (fun b => b = w.heap.size + 1) w3 ((((((w3.setCell ⟨w.heap.size + 1, 0, none⟩ (.int .u8 (m.say.toNat : Int))).setCell ⟨w.heap.size + 1, 1, none⟩ (.int .u8 (m.src.toNat : Int))).setCell ⟨w.heap.size + 1, 2, none⟩ (.int .u8 (m.dst.toNat : Int))).setCell ⟨w.heap.size + 1, 3, none⟩ (.int .u32 (m.g.toNat : Int))).setCell ⟨w.heap.size + 1, 4, none⟩ (.slice (some ⟨q1, 0, none⟩) m.ops.length (m.ops.length + 1))).setCell ⟨w.heap.size + 1, 5, none⟩ (.slice (some ⟨q2, 0, none⟩) l.length (l.length + 1))) := ⟨k8.os, k8.tape, k8.output, k8.size, fun k hk hn => k8.block k hk hn⟩
  have hq1 := HQ1.out
  have hq2 := HQ2.out
  have hL2 := L2.out
  have s1 := own_keptR o3 (by omega) k8
  have s2 := own_keptR r3 (by omega) k8
  have s3 := r2.wrote kW (fun b hb => by omega)
  have s5 := (k8.block sb (ltT r5) (by omega)).trans r5
  have B9 : Below w.heap.size w ((((((w3.setCell ⟨w.heap.size + 1, 0, none⟩ (.int .u8 (m.say.toNat : Int))).setCell ⟨w.heap.size + 1, 1, none⟩ (.int .u8 (m.src.toNat : Int))).setCell ⟨w.heap.size + 1, 2, none⟩ (.int .u8 (m.dst.toNat : Int))).setCell ⟨w.heap.size + 1, 3, none⟩ (.int .u32 (m.g.toNat : Int))).setCell ⟨w.heap.size + 1, 4, none⟩ (.slice (some ⟨q1, 0, none⟩) m.ops.length (m.ops.length + 1))).setCell ⟨w.heap.size + 1, 5, none⟩ (.slice (some ⟨q2, 0, none⟩) l.length (l.length + 1))) := B1.trans (B8.mono (by omega))
  have F : Hid (w.heap.size ≤ q1 ∧ q1 < q2 ∧ q2 < sb ∧ _ ∧ _ ∧ _ ∧ _ ∧ _) := ⟨by omega, by omega, r4, s1, s3, s2, s5, B9⟩
  clear o3 r2 r3 r4 r5 B3 B8 B9 s1 s2 s3 s5 kW k8 hq1 hq2 hL2 HQ1 HQ2 L2 L3 b3 B2 o2
  generalize (((((w3.setCell ⟨w.heap.size + 1, 0, none⟩ (.int .u8 (m.say.toNat : Int))).setCell ⟨w.heap.size + 1, 1, none⟩ (.int .u8 (m.src.toNat : Int))).setCell ⟨w.heap.size + 1, 2, none⟩ (.int .u8 (m.dst.toNat : Int))).setCell ⟨w.heap.size + 1, 3, none⟩ (.int .u32 (m.g.toNat : Int))).setCell ⟨w.heap.size + 1, 4, none⟩ (.slice (some ⟨q1, 0, none⟩) m.ops.length (m.ops.length + 1))).setCell ⟨w.heap.size + 1, 5, none⟩ (.slice (some ⟨q2, 0, none⟩) l.length (l.length + 1)) = w8 at *
  obtain ⟨z0, z1, z2, z3, z4, z5⟩ := six_cells x8
  go_wp2
  refine bodyPost_ret (v := .agg #[.int .u8 (m.say.toNat : Int), .int .u8 (m.src.toNat : Int), .int .u8 (m.dst.toNat : Int), .int .u32 (m.g.toNat : Int), .slice (some ⟨q1, 0, none⟩) m.ops.length (m.ops.length + 1), .slice (some ⟨q2, 0, none⟩) l.length (l.length + 1)]) (by simp [results, Tryz.results6, go_sem, z0, z1, z2, z3, z4, z5]) rfl ⟨q1, q2, ms, sb, rfl, r1, F.out⟩
end Go.Proofs.YtcgecdiaddcfkaaGreatDoor
/- The walk of a book that keeps a message: its ops, its results. -/
set_option linter.unusedSimpArgs false
set_option linter.unusedVariables false
namespace Go.Proofs.YtcgecdiaddcfkaaGreatDoor
open Go.RowKit

set_option maxHeartbeats 1000000 in
theorem keepMsgsOpX {w : World} {bk n ln cl : Nat} {al : Option Addr} {xs : List Value} {vByte vRow vOp vResult : Value} {EByte ERow EOp EResult : List Ent} (I : BkMsgs w bk n vByte EByte vRow ERow vOp EOp vResult EResult) (hn : n ≤ 100000)
    (hx : w.ownsRow 0 85 4 (.slice al ln cl) ln xs) (hln : ln ≤ 1000000000) (hf : ∀ b, (Value.slice al ln cl).ownBlock = some b → b < bk ∧ ¬ LD EByte b ∧ ¬ LD ERow b ∧ ¬ LD EOp b ∧ ¬ LD EResult b) :
    Calls Tryz.prog 40 #[ptr bk, .slice al ln cl] w fun e w' => e = .returned (.tuple #[]) ∧ ∃ v', BkMsgs w' bk (n + 1) vByte EByte vRow ERow v' (EOp ++ [Ent.mk (.slice al ln cl) (.slice none 0 0) ln (n + 1)]) vResult EResult ∧ Wrote (fun b => bk ≤ b) w w' ∧ Wrote (fun b => b = bk ∨ vOp.ownBlock = some b) w w' := by
  have hlt := I.lt
  obtain ⟨ao, m, cp, rfl⟩ := own_slice I.kOp.held
  have fOp := I.fOp
  have nX : ¬ DD (.slice ao m cp) EOp bk := fun h => by
    rcases h with h | h
    · have := I.aOp bk h; omega
    · have := I.lOp bk h; omega
  refine (bookOps_any w bk n m cp ln cl ao al vByte (.slice none 0 0) (.slice none 0 0) (.slice none 0 0) vRow (.slice none 0 0) (.slice none 0 0) vResult (.slice none 0 0) (.slice none 0 0) (.slice none 0 0) EOp I.hB (by omega) I.kOp.held (by omega) (fun h => nX (.inl h))).mono ?_
  rintro e w' ⟨rfl, v', hB', ho, hm, hw⟩
  have hbX : ∀ b, (Value.slice al ln cl).ownBlock = some b → b ≠ bk ∧ ¬ DD (.slice ao m cp) EOp b := fun b hb => by
    have hb' := hf b hb
    refine ⟨by omega, fun h => ?_⟩
    rcases h with h | h
    · have := I.aOp b h; omega
    · exact hb'.2.2.2.1 h
  obtain ⟨kX, nX'⟩ := kat_more (x := Ent.mk (.slice al ln cl) (.slice none 0 0) ln (n + 1)) I.kOp ho hm hw hlt nX hx hln (by show n + 1 ≤ _; omega) rfl (by omega) hbX
  have hav : ∀ b, v'.ownBlock = some b → bk < b := fun b hb => by
    rcases hm with e | ⟨c, e, hc⟩
    · exact I.aOp b (by rw [← e]; exact hb)
    · rw [e] at hb; simp at hb; omega
  have hlv : ∀ b, LD (EOp ++ [Ent.mk (.slice al ln cl) (.slice none 0 0) ln (n + 1)]) b → LD EOp b ∨ (Value.slice al ln cl).ownBlock = some b := fun b ⟨y, hy, hb⟩ => by
    rcases List.mem_append.mp hy with hy | hy
    · exact .inl ⟨y, hy, hb⟩
    · rw [List.mem_singleton.mp hy] at hb; exact .inr hb
  have ooByte : ∀ b, v'.ownBlock = some b → vByte.ownBlock ≠ some b := fun b h1 h2 => by
    rcases hm with e | ⟨c, e, hc⟩
    · exact (fun b h1 h2 => I.oByteOp b h2 h1) b (by rw [← e]; exact h1) h2
    · rw [e] at h1
      simp at h1
      have := (I.kByte.held.lt b h2).2
      omega
  have ooRow : ∀ b, v'.ownBlock = some b → vRow.ownBlock ≠ some b := fun b h1 h2 => by
    rcases hm with e | ⟨c, e, hc⟩
    · exact (fun b h1 h2 => I.oRowOp b h2 h1) b (by rw [← e]; exact h1) h2
    · rw [e] at h1
      simp at h1
      have := (I.kRow.held.lt b h2).2
      omega
  have ooResult : ∀ b, v'.ownBlock = some b → vResult.ownBlock ≠ some b := fun b h1 h2 => by
    rcases hm with e | ⟨c, e, hc⟩
    · exact I.oOpResult b (by rw [← e]; exact h1) h2
    · rw [e] at h1
      simp at h1
      have := (I.kResult.held.lt b h2).2
      omega
  refine ⟨rfl, v', ⟨by rw [show (((n + 1 : Nat)) : Int) = (n : Int) + 1 from by omega]; exact hB', I.kByte.wrote hw (fun b hb hd => by
    rcases hd with rfl | hd
    · rcases hb with hb | hb
      · have := I.aByte _ hb; omega
      · have := I.lByte _ hb; omega
    · rcases hb with hb | hb
      · exact (fun b h1 h2 => I.oByteOp b h2 h1) b hd hb
      · have := I.aOp b hd
        have := I.lByte b hb
        omega), I.aByte, I.lByte, (by have := I.fByte; omega), I.kRow.wrote hw (fun b hb hd => by
    rcases hd with rfl | hd
    · rcases hb with hb | hb
      · have := I.aRow _ hb; omega
      · have := I.lRow _ hb; omega
    · rcases hb with hb | hb
      · exact (fun b h1 h2 => I.oRowOp b h2 h1) b hd hb
      · have := I.aOp b hd
        have := I.lRow b hb
        omega), I.aRow, I.lRow, (by have := I.fRow; omega), kX, hav, (fun b h => (hlv b h).elim (I.lOp b) (fun h => (hf b h).1)), (by rw [List.length_append]; show _ + 1 ≤ _; omega), I.kResult.wrote hw (fun b hb hd => by
    rcases hd with rfl | hd
    · rcases hb with hb | hb
      · have := I.aResult _ hb; omega
      · have := I.lResult _ hb; omega
    · rcases hb with hb | hb
      · exact I.oOpResult b hd hb
      · have := I.aOp b hd
        have := I.lResult b hb
        omega), I.aResult, I.lResult, (by have := I.fResult; omega), I.dByteRow, I.oByteRow, (fun b h1 h2 => (fun b h => (hlv b h).elim ((fun b h1 h2 => I.dByteOp b h2 h1) b) (fun h2 => (hf b h2).2.1)) b h2 h1), (fun b h1 h2 => ooByte b h2 h1), I.dByteResult, I.oByteResult, (fun b h1 h2 => (fun b h => (hlv b h).elim ((fun b h1 h2 => I.dRowOp b h2 h1) b) (fun h2 => (hf b h2).2.2.1)) b h2 h1), (fun b h1 h2 => ooRow b h2 h1), I.dRowResult, I.oRowResult, (fun b h => (hlv b h).elim (I.dOpResult b) (fun h2 => (hf b h2).2.2.2.2)), ooResult⟩, ?_, hw⟩
  exact hw.weak (fun b _ h => by
    rcases h with rfl | h
    · exact Nat.le_refl _
    · have := I.aOp b h; omega)

set_option maxHeartbeats 2000000 in
set_option maxRecDepth 1000000 in
theorem bookMsg_any {w : World} {bk n no co cb : Nat} {ao bo : Option Addr} {xs : List Value} {vByte vRow vOp vResult : Value} {EByte ERow EOp EResult : List Ent} (I : BkMsgs w bk n vByte EByte vRow ERow vOp EOp vResult EResult) (l : List ResP) (s f t g : Int) (hn : n + l.length ≤ 80000)
    (hx : w.ownsRow 0 85 4 (.slice ao no co) no xs) (hno : no ≤ 1000000000) (hfx : ∀ b, (Value.slice ao no co).ownBlock = some b → b < bk ∧ ¬ LD EByte b ∧ ¬ LD ERow b ∧ ¬ LD EOp b ∧ ¬ LD EResult b)
    (hv : w.ownsRow 0 89 1 (.slice bo l.length cb) l.length (l.flatMap resCells)) (hr : ∀ p ∈ l, p.2.length ≤ 1000000000 ∧ ∃ xs, w.ownsRow 0 92 2 p.1 p.2.length xs)
    (hpair : l.Pairwise (fun p q => ∀ g, p.1.ownBlock = some g → q.1.ownBlock ≠ some g)) (hap : ∀ p ∈ l, ∀ g, p.1.ownBlock = some g → (Value.slice bo l.length cb).ownBlock ≠ some g)
    (hf : ∀ p ∈ l, ∀ b, p.1.ownBlock = some b → b < bk ∧ ¬ LD EByte b ∧ ¬ LD ERow b ∧ (¬ LD EOp b ∧ (Value.slice ao no co).ownBlock ≠ some b) ∧ ¬ LD EResult b)
    (hg : ∀ b, (Value.slice bo l.length cb).ownBlock = some b → b < bk ∧ ¬ LD EByte b ∧ ¬ LD ERow b ∧ (¬ LD EOp b ∧ (Value.slice ao no co).ownBlock ≠ some b) ∧ ¬ LD EResult b) :
    Calls Tryz.prog 13 #[ptr bk, .agg #[.int .u8 s, .int .u8 f, .int .u8 t, .int .u32 g, .slice ao no co, .slice bo l.length cb]] w fun e w' => e = .returned (.tuple #[]) ∧ ∃ vO vR ER vS, BkMsgs w' bk (n + l.length + 2) vByte EByte vR ER vO (EOp ++ [Ent.mk (.slice ao no co) (.slice none 0 0) no (n + 1)]) vS (EResult ++ [Ent.mk (.slice bo l.length cb) (.slice none 0 0) l.length (n + l.length + 2)]) ∧ (∀ b, LD ER b → LD ERow b ∨ ∃ p ∈ l, p.1.ownBlock = some b) ∧ Wrote (fun b => bk ≤ b) w w' := by
  have hlt := I.lt
  obtain ⟨W1, hW1⟩ : ∃ W1, W1 = w.alloc (.cells #[.int .u8 s, .int .u8 f, .int .u8 t, .int .u32 g, .slice ao no co, .slice bo l.length cb] 27) := ⟨_, rfl⟩
  have hbA : Below w.heap.size w W1 := by rw [hW1]; exact below_one w _
  have HW1 : Wrote (fun b => bk ≤ b) w W1 := .of_below hbA
  have P1 : W1.heap[w.heap.size]? = some (.cells #[.int .u8 s, .int .u8 f, .int .u8 t, .int .u32 g, .slice ao no co, .slice bo l.length cb] 27 (0, 0)) := by rw [hW1]; exact heap_alloc_new w _
  have z1 : w.heap.size < W1.heap.size := by rw [hW1]; simp
  have nO : ∀ b, vOp.ownBlock = some b → b < w.heap.size := fun b h => (I.kOp.held.lt b h).2
  have I1 : BkMsgs W1 bk n vByte EByte vRow ERow vOp EOp vResult EResult :=
    { I with
      hB := (hbA.block bk hlt).trans I.hB
      kByte := I.kByte.wrote (d := fun _ => False) (.of_below hbA) (fun _ _ h => h)
      kRow := I.kRow.wrote (d := fun _ => False) (.of_below hbA) (fun _ _ h => h)
      kOp := I.kOp.wrote (d := fun _ => False) (.of_below hbA) (fun _ _ h => h)
      kResult := I.kResult.wrote (d := fun _ => False) (.of_below hbA) (fun _ _ h => h) }
  have k := keepMsgsOpX I1 (by omega) (own_of_block hx (fun b hb' => hbA.block b (hx.lt b hb').2)) hno hfx
  have fin : Hid (∀ w2 v', BkMsgs w2 bk (n + 1) vByte EByte vRow ERow v' (EOp ++ [Ent.mk (.slice ao no co) (.slice none 0 0) no (n + 1)]) vResult EResult → Wrote (fun b => bk ≤ b) W1 w2 → Wrote (fun b => b = bk ∨ vOp.ownBlock = some b) W1 w2 →
      w2.cell? ⟨w.heap.size, 5, none⟩ = some (.slice bo l.length cb) ∧
      Calls Tryz.prog 41 #[ptr bk, .slice bo l.length cb] w2 fun e w' => e = .returned (.tuple #[]) ∧ ∃ vR ER vS, BkMsgs w' bk (n + l.length + 2) vByte EByte vR ER v' (EOp ++ [Ent.mk (.slice ao no co) (.slice none 0 0) no (n + 1)]) vS (EResult ++ [Ent.mk (.slice bo l.length cb) (.slice none 0 0) l.length (n + l.length + 2)]) ∧ (∀ b, LD ER b → LD ERow b ∨ ∃ p ∈ l, p.1.ownBlock = some b) ∧ Wrote (fun b => bk ≤ b) w w') := fun w2 v' I' hw hw2 => by
    have W2 := HW1.trans hw
    have hld : ∀ b, LD (EOp ++ [Ent.mk (.slice ao no co) (.slice none 0 0) no (n + 1)]) b → LD EOp b ∨ (Value.slice ao no co).ownBlock = some b := fun b ⟨y, hy, hb⟩ => by
      rcases List.mem_append.mp hy with hy | hy
      · exact .inl ⟨y, hy, hb⟩
      · rw [List.mem_singleton.mp hy] at hb; exact .inr hb
    refine ⟨?_, ?_⟩
    · have hb2 : w2.heap[w.heap.size]? = W1.heap[w.heap.size]? := hw2.block _ z1 (fun h => by
        rcases h with h | h
        · omega
        · have := nO _ h; omega)
      exact (six_cells (hb2.trans P1)).2.2.2.2.2
    · refine (bookResults_any I' l (by omega) (own_wrote hv W2 (fun b hb hd => by have := (hg b hb).1; omega)) (fun p hp => ?_) hpair hap (fun p hp b hb => ?_) (fun b hb => ?_)).mono ?_
      · obtain ⟨a1, ys, a2⟩ := hr p hp
        exact ⟨a1, ys, own_wrote a2 W2 (fun b hb hd => by have := (hf p hp b hb).1; omega)⟩
      · obtain ⟨a1, a2, a3, a4, a5⟩ := hf p hp b hb
        exact ⟨a1, a2, a3, fun h => (hld b h).elim a4.1 a4.2, a5⟩
      · obtain ⟨a1, a2, a3, a4, a5⟩ := hg b hb
        exact ⟨a1, a2, a3, fun h => (hld b h).elim a4.1 a4.2, a5⟩
      · rintro e w' ⟨rfl, vR, ER, vS, J, hE, hW⟩
        refine ⟨rfl, vR, ER, vS, ?_, hE, W2.trans hW⟩
        rw [show n + l.length + 2 = n + 1 + l.length + 1 by omega]
        exact J
  clear I I1 hbA HW1 nO hx hfx hv hr hpair hap hf hg
  have c4 := (six_cells P1).2.2.2.2.1
  clear P1
  go_enter Tryz.func13, Tryz.ntmps13
  go_wp2_with fail
  rw [← hW1]
  clear hW1
  refine k.mono ?_
  rintro e w2 ⟨rfl, v', I', hw, hw2⟩
  obtain ⟨c5, k2⟩ := fin.out w2 v' I' hw hw2
  clear fin k I' hw hw2 c4
  go_wp2_with fail
  refine k2.mono ?_
  rintro e w3 ⟨rfl, h3⟩
  have H3 : Hid _ := h3
  clear k2 h3 c5
  go_wp2
  go_end0
  exact ⟨rfl, v', H3.out⟩
end Go.Proofs.YtcgecdiaddcfkaaGreatDoor
