import Derived.Test.YtcgecdiaddcfkaaGreatDoorPBkMsgM
import Derived.Test.YtcgecdiaddcfkaaGreatDoorPRefGet2M
import Derived.Test.YtcgecdiaddcfkaaGreatDoorRTwByteM
import Derived.Test.YtcgecdiaddcfkaaGreatDoorM6
/- The walk of PacketsGet. -/
set_option linter.unusedSimpArgs false
set_option linter.unusedVariables false
namespace Go.Proofs.YtcgecdiaddcfkaaGreatDoor
open Go.RowKit

theorem ltS {w : World} {b : Nat} {o : Obj} (h : w.heap[b]? = some o) : b < w.heap.size := by
  rcases Nat.lt_or_ge b w.heap.size with h' | h'
  · exact h'
  · rw [Array.getElem?_eq_none h'] at h; cases h
theorem own_types {w : World} {base base' : Nat} {e e' : TypeId} {s s' n n' : Nat} {v v' : Value} {xs xs' : List Value} (h : w.ownsRow base e s v n xs) (h' : w.ownsRow base' e' s' v' n' xs') (hne : e ≠ e') {b : Nat} (hb : v.ownBlock = some b) : v'.ownBlock ≠ some b := by
  intro hb'
  rcases h.2 with ⟨rfl, _⟩ | ⟨g, cap, cur, rfl, _, h3, _⟩
  · cases hb
  · rcases h'.2 with ⟨rfl, _⟩ | ⟨g', cap', cur', rfl, _, h3', _⟩
    · cases hb'
    · simp only [Value.ownBlock, Option.some.injEq] at hb hb'
      subst hb
      subst hb'
      rw [h3] at h3'
      simp only [Option.some.injEq, Obj.cells.injEq] at h3'
      exact hne h3'.2.1
theorem ldM_no {b : Nat} (h : LD [] b) : False := by
  obtain ⟨x, hx, h⟩ := h
  cases hx
theorem ldM_one {v l1 : Value} {n1 k1 b : Nat} (h : LD ([] ++ [Ent.mk l1 v n1 k1]) b) : l1.ownBlock = some b := by
  obtain ⟨x, hx, h⟩ := h
  simp at hx
  subst hx
  exact h
theorem ldM_two {v l1 l2 : Value} {n1 n2 k1 k2 b : Nat} (h : LD ([] ++ [Ent.mk l1 v n1 k1] ++ [Ent.mk l2 v n2 k2]) b) : l1.ownBlock = some b ∨ l2.ownBlock = some b := by
  obtain ⟨x, hx, h⟩ := h
  simp at hx
  rcases hx with rfl | rfl
  · exact .inl h
  · exact .inr h
theorem OwnRes_wrote {d : Nat → Prop} {w w' : World} {base : Nat} {v : Value} {l : List ResP} (h : OwnRes w base v l) (hw : Wrote d w w') (h1 : ∀ b, v.ownBlock = some b → ¬ d b) (h2 : ∀ p ∈ l, ∀ b, p.1.ownBlock = some b → ¬ d b) : OwnRes w' base v l :=
  ⟨own_wrote h.own hw h1, fun p hp => own_wrote (h.rows p hp) hw (h2 p hp), h.apart, h.pair⟩
/-- No more of anything than there may be, and texts that are not too long. -/
def fewG (G : MsgD) : Prop := (∀ x ∈ G.ops, opSm x) ∧ G.ops.length ≤ 16 ∧ G.res.length ≤ 16 ∧ ∀ r ∈ G.res, r.length ≤ 256 ∧ ∀ x ∈ r, rowSm x
theorem get_few (bs : List UInt8) : fewG (getM bs).1 := by
  rcases getM_two bs with ⟨m, h, h1, ⟨f1, f2, f3⟩, -⟩ | h
  · rw [h]
    unfold MsgD.ok at h1
    rw [Bool.and_eq_true, Bool.and_eq_true] at h1
    refine ⟨fun x hx => ?_, f1, f2, fun r hr => ⟨of_decide_eq_true (List.all_eq_true.mp f3 r hr), fun x hx => small16 (List.all_eq_true.mp (List.all_eq_true.mp h1.2.2 r hr) x hx)⟩⟩
    have h := List.all_eq_true.mp h1.2.1 x hx
    have a1 := opOk_key h
    have a2 := opOk_to h
    exact ⟨by unfold maxLen; omega, by unfold maxLen; omega⟩
  · rw [h]
    exact ⟨fun x hx => (by cases hx), by show 0 ≤ 16; omega, by show 0 ≤ 16; omega, fun r hr => by cases hr⟩
theorem get_mat {w : World} {base : Nat} {vo vr : Value} {G : MsgD} {l : List ResP} (h1 : w.ownsRow base 85 4 vo G.ops.length (G.ops.flatMap opCells)) (h2 : OwnRes w base vr l) (h3 : l.map (·.2) = G.res) (f : fewG G) : MsgAt w w.heap.size vo vr G l :=
  ⟨sl_own opCells_len h1, f.1, h2.at (fun p hp x hx => (f.2.2.2 p.2 (by rw [← h3]; exact List.mem_map_of_mem hp)).2 x hx), h3⟩

set_option maxHeartbeats 8000000 in
set_option maxRecDepth 1000000 in
theorem pget_walk (w : World) (vb : Value) (bs : List UInt8) (hb : InAt w w.heap.size vb bs) (htab : Tab w) :
    Calls Tryz.prog 4 #[vb] w fun e w' => e = .returned (.bool true) ∧ Below w.heap.size w w' := by
  have HB : Hid (InAt w w.heap.size vb bs) := hb
  have HT : Hid (Tab w) := htab
  obtain ⟨ab0, cb0, rfl, hbc, hbm, -⟩ := id hb
  unfold maxLen at hbm
  clear htab
  obtain ⟨S, hS⟩ : ∃ S, getM bs = S := ⟨_, rfl⟩
  have few : Hid (fewG S.1) := by show fewG S.1; rw [← hS]; exact get_few bs
  have kG : ∀ W v, InAt W W.heap.size v bs → Calls Tryz.prog 17 #[v] W fun e w' => ∃ oa on oc ra rn rc, e = .returned (.tuple #[.agg #[.int .u8 (S.1.say.toNat : Int), .int .u8 (S.1.src.toNat : Int), .int .u8 (S.1.dst.toNat : Int), .int .u32 (S.1.g.toNat : Int), .slice oa on oc, .slice ra rn rc], .int .i64 (S.2 : Int)]) ∧ Hid (MsgOwn w' W.heap.size (.slice oa on oc) (.slice ra rn rc) S.1) ∧ Below W.heap.size W w' := fun W v h => by rw [← hS]; exact Get_any W v bs h
  have kH : ∀ W v, InAt W W.heap.size v bs → Calls Tryz.prog 18 #[v] W fun e w' => ∃ oa on oc ra rn rc, e = .returned (.tuple #[.agg #[.int .u8 (S.1.say.toNat : Int), .int .u8 (S.1.src.toNat : Int), .int .u8 (S.1.dst.toNat : Int), .int .u32 (S.1.g.toNat : Int), .slice oa on oc, .slice ra rn rc], .int .i64 (S.2 : Int)]) ∧ Hid (MsgOwn w' W.heap.size (.slice oa on oc) (.slice ra rn rc) S.1) ∧ Below W.heap.size W w' := fun W v h => by rw [← hS]; exact refGet7_any W v bs h
  clear hS
  obtain ⟨G, E0⟩ := S
  simp only at kG kH few
  go_enter Tryz.func4, Tryz.ntmps4
  by_cases hb7 : (100000 : Int) < (bs.length : Int)
  · clear HB HT kG kH hb few
    go_wp2
    go_ret
    exact ⟨rfl, Below.refl _ _⟩
  go_wp2_with fail
  refine (twinByte_any w _ bs hb (by omega)).mono ?_
  rintro e W1 ⟨rfl, t1, b1⟩
  have T : Hid _ := t1
  have L0 : Hid (w.heap.size < W1.heap.size) := (t1.lt _ rfl).2
  have B1 : Below w.heap.size w W1 := b1
  clear t1 b1 hb
  go_wp2_with fail
  refine (kG W1 _ (sl_own (fun _ => rfl) (twin_own (fun _ => rfl) T.out))).mono ?_
  rintro e W2 ⟨oa1, on1, oc1, ra1, rn1, rc1, rfl, hO, b⟩
  obtain ⟨h1, l1, h2, h3⟩ := hO.out
  obtain ⟨xa, xc, e1⟩ := own_len h1
  cases e1
  obtain ⟨ya, yc, e2⟩ := own_len h2.own
  cases e2
  have A1' : Hid (MsgAt W2 W2.heap.size (.slice oa1 G.ops.length oc1) (.slice ra1 l1.length rc1) G l1) := get_mat h1 h2 h3 few.out
  have O1 : Hid _ := h1
  have R1 : Hid (OwnRes W2 W1.heap.size (.slice ra1 l1.length rc1) l1) := h2
  have QO1 : Hid _ := h1.lt
  have QR1 : Hid _ := h2.own.lt
  have QP1 : Hid (∀ p ∈ l1, ∀ b, p.1.ownBlock = some b → W1.heap.size ≤ b ∧ b < W2.heap.size) := fun p hp => (h2.rows p hp).lt
  have DR1 : Hid (∀ b, (Value.slice ra1 l1.length rc1).ownBlock = some b → (Value.slice oa1 G.ops.length oc1).ownBlock ≠ some b) := fun b hb => own_types h2.own h1 (by decide) hb
  have DP1 : Hid (∀ p ∈ l1, ∀ b, p.1.ownBlock = some b → (Value.slice oa1 G.ops.length oc1).ownBlock ≠ some b) := fun p hp b hb => own_types (h2.rows p hp) h1 (by decide) hb
  have E1 : Hid (l1.map (·.2) = G.res) := h3
  clear h1 h2 h3 hO
  replace T : Hid _ := own_below T.out b
  have L1 : Hid (W1.heap.size ≤ W2.heap.size) := b.size
  have B2 : Below w.heap.size w W2 := B1.trans (b.mono B1.size)
  clear b B1
  have ba := below_one W2 (.cells #[.int .u8 (G.say.toNat : Int), .int .u8 (G.src.toNat : Int), .int .u8 (G.dst.toNat : Int), .int .u32 (G.g.toNat : Int), .slice oa1 G.ops.length oc1, .slice ra1 l1.length rc1] 27)
  have P1 : Hid ((W2.alloc (.cells #[.int .u8 (G.say.toNat : Int), .int .u8 (G.src.toNat : Int), .int .u8 (G.dst.toNat : Int), .int .u32 (G.g.toNat : Int), .slice oa1 G.ops.length oc1, .slice ra1 l1.length rc1] 27)).heap[W2.heap.size]? = some (.cells #[.int .u8 (G.say.toNat : Int), .int .u8 (G.src.toNat : Int), .int .u8 (G.dst.toNat : Int), .int .u32 (G.g.toNat : Int), .slice oa1 G.ops.length oc1, .slice ra1 l1.length rc1] 27 (0, 0))) := heap_alloc_new W2 _
  replace T : Hid _ := own_below T.out ba
  replace O1 : Hid _ := own_below O1.out ba
  replace R1 : Hid _ := OwnRes.below R1.out ba
  replace A1' : Hid _ := MsgAt.up A1'.out ba
  have L2 : Hid (W2.heap.size < (W2.alloc (.cells #[.int .u8 (G.say.toNat : Int), .int .u8 (G.src.toNat : Int), .int .u8 (G.dst.toNat : Int), .int .u32 (G.g.toNat : Int), .slice oa1 G.ops.length oc1, .slice ra1 l1.length rc1] 27)).heap.size) := by show _ < _; simp
  have B3 := B2.trans (ba.mono B2.size)
  clear ba B2
  go_wp2_with fail
  generalize W2.alloc (.cells #[.int .u8 (G.say.toNat : Int), .int .u8 (G.src.toNat : Int), .int .u8 (G.dst.toNat : Int), .int .u32 (G.g.toNat : Int), .slice oa1 G.ops.length oc1, .slice ra1 l1.length rc1] 27) = W3 at *
  obtain ⟨p1, hp1⟩ : ∃ p, p = W2.heap.size := ⟨_, rfl⟩
  have HP1 : Hid (p1 = W2.heap.size) := hp1
  try rw [← hp1]
  rw [← hp1] at P1
  clear hp1
  refine (kG W3 _ (sl_own (fun _ => rfl) (twin_own (fun _ => rfl) T.out))).mono ?_
  rintro e W4 ⟨oa2, on2, oc2, ra2, rn2, rc2, rfl, hO, b⟩
  obtain ⟨h1, l2, h2, h3⟩ := hO.out
  obtain ⟨xa, xc, e1⟩ := own_len h1
  cases e1
  obtain ⟨ya, yc, e2⟩ := own_len h2.own
  cases e2
  have A2' : Hid (MsgAt W4 W4.heap.size (.slice oa2 G.ops.length oc2) (.slice ra2 l2.length rc2) G l2) := get_mat h1 h2 h3 few.out
  have O2 : Hid _ := h1
  have R2 : Hid (OwnRes W4 W3.heap.size (.slice ra2 l2.length rc2) l2) := h2
  have QO2 : Hid _ := h1.lt
  have QR2 : Hid _ := h2.own.lt
  have QP2 : Hid (∀ p ∈ l2, ∀ b, p.1.ownBlock = some b → W3.heap.size ≤ b ∧ b < W4.heap.size) := fun p hp => (h2.rows p hp).lt
  have DR2 : Hid (∀ b, (Value.slice ra2 l2.length rc2).ownBlock = some b → (Value.slice oa2 G.ops.length oc2).ownBlock ≠ some b) := fun b hb => own_types h2.own h1 (by decide) hb
  have DP2 : Hid (∀ p ∈ l2, ∀ b, p.1.ownBlock = some b → (Value.slice oa2 G.ops.length oc2).ownBlock ≠ some b) := fun p hp b hb => own_types (h2.rows p hp) h1 (by decide) hb
  have E2 : Hid (l2.map (·.2) = G.res) := h3
  clear h1 h2 h3 hO
  replace T : Hid _ := own_below T.out b
  replace O1 : Hid _ := own_below O1.out b
  replace R1 : Hid _ := OwnRes.below R1.out b
  replace P1 : Hid _ := (b.block _ (ltS P1.out)).trans P1.out
  replace A1' : Hid _ := MsgAt.up A1'.out b
  have L3 : Hid (W3.heap.size ≤ W4.heap.size) := b.size
  have B4 : Below w.heap.size w W4 := B3.trans (b.mono B3.size)
  clear b B3
  have ba := below_one W4 (.cells #[.int .u8 (G.say.toNat : Int), .int .u8 (G.src.toNat : Int), .int .u8 (G.dst.toNat : Int), .int .u32 (G.g.toNat : Int), .slice oa2 G.ops.length oc2, .slice ra2 l2.length rc2] 27)
  have P2 : Hid ((W4.alloc (.cells #[.int .u8 (G.say.toNat : Int), .int .u8 (G.src.toNat : Int), .int .u8 (G.dst.toNat : Int), .int .u32 (G.g.toNat : Int), .slice oa2 G.ops.length oc2, .slice ra2 l2.length rc2] 27)).heap[W4.heap.size]? = some (.cells #[.int .u8 (G.say.toNat : Int), .int .u8 (G.src.toNat : Int), .int .u8 (G.dst.toNat : Int), .int .u32 (G.g.toNat : Int), .slice oa2 G.ops.length oc2, .slice ra2 l2.length rc2] 27 (0, 0))) := heap_alloc_new W4 _
  replace T : Hid _ := own_below T.out ba
  replace O1 : Hid _ := own_below O1.out ba
  replace R1 : Hid _ := OwnRes.below R1.out ba
  replace P1 : Hid _ := (ba.block _ (ltS P1.out)).trans P1.out
  replace A1' : Hid _ := MsgAt.up A1'.out ba
  replace O2 : Hid _ := own_below O2.out ba
  replace R2 : Hid _ := OwnRes.below R2.out ba
  replace A2' : Hid _ := MsgAt.up A2'.out ba
  have K5 : Hid (W4.heap.size < (W4.alloc (.cells #[.int .u8 (G.say.toNat : Int), .int .u8 (G.src.toNat : Int), .int .u8 (G.dst.toNat : Int), .int .u32 (G.g.toNat : Int), .slice oa2 G.ops.length oc2, .slice ra2 l2.length rc2] 27)).heap.size) := by show _ < _; simp
  have B5 := B4.trans (ba.mono B4.size)
  clear ba B4
  go_wp2_with fail
  generalize W4.alloc (.cells #[.int .u8 (G.say.toNat : Int), .int .u8 (G.src.toNat : Int), .int .u8 (G.dst.toNat : Int), .int .u32 (G.g.toNat : Int), .slice oa2 G.ops.length oc2, .slice ra2 l2.length rc2] 27) = W5 at *
  obtain ⟨p2, hp2⟩ : ∃ p, p = W4.heap.size := ⟨_, rfl⟩
  have HP2 : Hid (p2 = W4.heap.size) := hp2
  try rw [← hp2]
  rw [← hp2] at P2
  clear hp2
  refine (kH W5 _ ((HB.out.below B5 (Nat.le_refl _)).mono B5.size)).mono ?_
  rintro e W6 ⟨oa3, on3, oc3, ra3, rn3, rc3, rfl, hO, b⟩
  obtain ⟨h1, l3, h2, h3⟩ := hO.out
  obtain ⟨xa, xc, e1⟩ := own_len h1
  cases e1
  obtain ⟨ya, yc, e2⟩ := own_len h2.own
  cases e2
  have A3' : Hid (MsgAt W6 W6.heap.size (.slice oa3 G.ops.length oc3) (.slice ra3 l3.length rc3) G l3) := get_mat h1 h2 h3 few.out
  clear h1 h2 h3 hO
  replace T : Hid _ := own_below T.out b
  replace O1 : Hid _ := own_below O1.out b
  replace R1 : Hid _ := OwnRes.below R1.out b
  replace P1 : Hid _ := (b.block _ (ltS P1.out)).trans P1.out
  replace A1' : Hid _ := MsgAt.up A1'.out b
  replace O2 : Hid _ := own_below O2.out b
  replace R2 : Hid _ := OwnRes.below R2.out b
  replace P2 : Hid _ := (b.block _ (ltS P2.out)).trans P2.out
  replace A2' : Hid _ := MsgAt.up A2'.out b
  have B6 : Below w.heap.size w W6 := B5.trans (b.mono B5.size)
  have K6 : Hid (W4.heap.size < W6.heap.size) := Nat.lt_of_lt_of_le K5.out b.size
  clear b B5 K5
  have ba := below_one W6 (.cells #[.int .u8 (G.say.toNat : Int), .int .u8 (G.src.toNat : Int), .int .u8 (G.dst.toNat : Int), .int .u32 (G.g.toNat : Int), .slice oa3 G.ops.length oc3, .slice ra3 l3.length rc3] 27)
  have P3 : Hid ((W6.alloc (.cells #[.int .u8 (G.say.toNat : Int), .int .u8 (G.src.toNat : Int), .int .u8 (G.dst.toNat : Int), .int .u32 (G.g.toNat : Int), .slice oa3 G.ops.length oc3, .slice ra3 l3.length rc3] 27)).heap[W6.heap.size]? = some (.cells #[.int .u8 (G.say.toNat : Int), .int .u8 (G.src.toNat : Int), .int .u8 (G.dst.toNat : Int), .int .u32 (G.g.toNat : Int), .slice oa3 G.ops.length oc3, .slice ra3 l3.length rc3] 27 (0, 0))) := heap_alloc_new W6 _
  replace T : Hid _ := own_below T.out ba
  replace O1 : Hid _ := own_below O1.out ba
  replace R1 : Hid _ := OwnRes.below R1.out ba
  replace P1 : Hid _ := (ba.block _ (ltS P1.out)).trans P1.out
  replace A1' : Hid _ := MsgAt.up A1'.out ba
  replace O2 : Hid _ := own_below O2.out ba
  replace R2 : Hid _ := OwnRes.below R2.out ba
  replace P2 : Hid _ := (ba.block _ (ltS P2.out)).trans P2.out
  replace A2' : Hid _ := MsgAt.up A2'.out ba
  replace A3' : Hid _ := MsgAt.up A3'.out ba
  have K7 : Hid (W4.heap.size < (W6.alloc (.cells #[.int .u8 (G.say.toNat : Int), .int .u8 (G.src.toNat : Int), .int .u8 (G.dst.toNat : Int), .int .u32 (G.g.toNat : Int), .slice oa3 G.ops.length oc3, .slice ra3 l3.length rc3] 27)).heap.size) := Nat.lt_of_lt_of_le K6.out ba.size
  have B7 := B6.trans (ba.mono B6.size)
  clear ba B6 K6
  obtain ⟨c10, c11, c12, c13, c14, c15⟩ := six_cells P1.out
  obtain ⟨c30, c31, c32, c33, c34, c35⟩ := six_cells P3.out
  go_wp2_with fail
  clear c10 c11 c12 c13 c14 c15 c30 c31 c32 c33 c34 c35
  generalize (W6.alloc (.cells #[.int .u8 (G.say.toNat : Int), .int .u8 (G.src.toNat : Int), .int .u8 (G.dst.toNat : Int), .int .u32 (G.g.toNat : Int), .slice oa3 G.ops.length oc3, .slice ra3 l3.length rc3] 27)) = W7 at *
  obtain ⟨p3, hp3⟩ : ∃ p, p = W6.heap.size := ⟨_, rfl⟩
  try rw [← hp3]
  rw [← hp3] at P3
  clear hp3
  refine (sameMsg_any W7 _ _ _ _ G _ _ A1'.out A3'.out).mono ?_
  rintro e W8 ⟨rfl, b⟩
  replace T : Hid _ := own_below T.out b
  replace O1 : Hid _ := own_below O1.out b
  replace R1 : Hid _ := OwnRes.below R1.out b
  replace P1 : Hid _ := (b.block _ (ltS P1.out)).trans P1.out
  replace A1' : Hid _ := MsgAt.up A1'.out b
  replace O2 : Hid _ := own_below O2.out b
  replace R2 : Hid _ := OwnRes.below R2.out b
  replace P2 : Hid _ := (b.block _ (ltS P2.out)).trans P2.out
  replace A2' : Hid _ := MsgAt.up A2'.out b
  replace A3' : Hid _ := MsgAt.up A3'.out b
  replace P3 : Hid _ := (b.block _ (ltS P3.out)).trans P3.out
  have K8 : Hid (W4.heap.size < W8.heap.size) := Nat.lt_of_lt_of_le K7.out b.size
  have B8 : Below w.heap.size w W8 := B7.trans (b.mono B7.size)
  clear b B7 K7
  obtain ⟨c20, c21, c22, c23, c24, c25⟩ := six_cells P2.out
  obtain ⟨c30, c31, c32, c33, c34, c35⟩ := six_cells P3.out
  go_wp2_with fail
  clear c20 c21 c22 c23 c24 c25 c30 c31 c32 c33 c34 c35
  refine (sameMsg_any W8 _ _ _ _ G _ _ A2'.out A3'.out).mono ?_
  rintro e W9 ⟨rfl, b⟩
  replace T : Hid _ := own_below T.out b
  replace O1 : Hid _ := own_below O1.out b
  replace R1 : Hid _ := OwnRes.below R1.out b
  replace P1 : Hid _ := (b.block _ (ltS P1.out)).trans P1.out
  replace A1' : Hid _ := MsgAt.up A1'.out b
  replace O2 : Hid _ := own_below O2.out b
  replace R2 : Hid _ := OwnRes.below R2.out b
  replace P2 : Hid _ := (b.block _ (ltS P2.out)).trans P2.out
  replace A2' : Hid _ := MsgAt.up A2'.out b
  replace A3' : Hid _ := MsgAt.up A3'.out b
  replace P3 : Hid _ := (b.block _ (ltS P3.out)).trans P3.out
  have K9 : Hid (W4.heap.size < W9.heap.size) := Nat.lt_of_lt_of_le K8.out b.size
  have B9 : Below w.heap.size w W9 := B8.trans (b.mono B8.size)
  clear b B8 K8
  go_wp2_with fail
  refine (leftByte_any W9 _ _ _ _ _ bs T.out (HB.out.below B9 (Nat.le_refl _))).mono ?_
  rintro e W11 ⟨rfl, b⟩
  clear A1' A2' A3' P3
  replace T : Hid _ := own_below T.out b
  replace O1 : Hid _ := own_below O1.out b
  replace R1 : Hid _ := OwnRes.below R1.out b
  replace P1 : Hid _ := (b.block _ (ltS P1.out)).trans P1.out
  replace O2 : Hid _ := own_below O2.out b
  replace R2 : Hid _ := OwnRes.below R2.out b
  replace P2 : Hid _ := (b.block _ (ltS P2.out)).trans P2.out
  have K0 : Hid (W4.heap.size < W11.heap.size) := Nat.lt_of_lt_of_le K9.out b.size
  have B11 : Below w.heap.size w W11 := B9.trans (b.mono B9.size)
  clear b B9 K9 HB
  have I0 : Hid _ := BkMsgs.new W11
  have b12 := below_one W11 (.cells #[.int .i64 0, .slice none 0 0, .slice none 0 0, .slice none 0 0, .slice none 0 0, .slice none 0 0, .slice none 0 0, .slice none 0 0, .slice none 0 0, .slice none 0 0, .slice none 0 0, .slice none 0 0, .slice none 0 0] 50)
  go_wp2_with fail
  generalize hW12 : W11.alloc (.cells #[.int .i64 0, .slice none 0 0, .slice none 0 0, .slice none 0 0, .slice none 0 0, .slice none 0 0, .slice none 0 0, .slice none 0 0, .slice none 0 0, .slice none 0 0, .slice none 0 0, .slice none 0 0, .slice none 0 0] 50) = W12 at I0 b12 ⊢
  clear hW12
  replace T : Hid _ := own_below T.out b12
  replace O1 : Hid _ := own_below O1.out b12
  replace R1 : Hid _ := OwnRes.below R1.out b12
  replace P1 : Hid _ := (b12.block _ (ltS P1.out)).trans P1.out
  replace O2 : Hid _ := own_below O2.out b12
  replace R2 : Hid _ := OwnRes.below R2.out b12
  replace P2 : Hid _ := (b12.block _ (ltS P2.out)).trans P2.out
  have B12 : Below w.heap.size w W12 := B11.trans (b12.mono B11.size)
  clear b12 B11
  refine (keepMsgsByte I0.out (by omega) (own_mono (twin_own (fun _ => rfl) T.out) (Nat.zero_le _)) (by omega) (fun b hb => by simp only [Value.ownBlock, Option.some.injEq] at hb; have := L0.out; have := L1.out; have := L2.out; have := L3.out; have := K0.out; exact ⟨by omega, fun h => ldM_no h, fun h => ldM_no h, fun h => ldM_no h, fun h => ldM_no h⟩)).mono ?_
  rintro e W13 ⟨rfl, u13, i13, b13⟩
  have I1 : Hid _ := i13
  clear i13
  have B13 : Below w.heap.size w W13 := B12.trans (b13.below B12.size (fun k hk hd => by have := L0.out; have := L1.out; have := L2.out; have := L3.out; have := K0.out; omega))
  replace T : Hid _ := own_wrote T.out b13 (fun b hb hd => by simp only [Value.ownBlock, Option.some.injEq] at hb; have := L0.out; have := L1.out; have := L2.out; have := L3.out; have := K0.out; omega)
  replace O1 : Hid _ := own_wrote O1.out b13 (fun b hb hd => by have := QO1.out b hb; have := L0.out; have := L1.out; have := L2.out; have := L3.out; have := K0.out; omega)
  replace R1 : Hid _ := OwnRes_wrote R1.out b13 (fun b hb hd => by have := QR1.out b hb; have := L0.out; have := L1.out; have := L2.out; have := L3.out; have := K0.out; omega) (fun p hp b hb hd => by have := QP1.out p hp b hb; have := L0.out; have := L1.out; have := L2.out; have := L3.out; have := K0.out; omega)
  replace P1 : Hid _ := (b13.block _ (ltS P1.out) (fun hd => by have := HP1.out; have := L0.out; have := L1.out; have := L2.out; have := L3.out; have := K0.out; omega)).trans P1.out
  replace O2 : Hid _ := own_wrote O2.out b13 (fun b hb hd => by have := QO2.out b hb; have := L0.out; have := L1.out; have := L2.out; have := L3.out; have := K0.out; omega)
  replace R2 : Hid _ := OwnRes_wrote R2.out b13 (fun b hb hd => by have := QR2.out b hb; have := L0.out; have := L1.out; have := L2.out; have := L3.out; have := K0.out; omega) (fun p hp b hb hd => by have := QP2.out p hp b hb; have := L0.out; have := L1.out; have := L2.out; have := L3.out; have := K0.out; omega)
  replace P2 : Hid _ := (b13.block _ (ltS P2.out) (fun hd => by have := HP2.out; have := L0.out; have := L1.out; have := L2.out; have := L3.out; have := K0.out; omega)).trans P2.out
  clear b13 B12 I0 T
  have J1 : Hid (∀ p ∈ l1, p.2.length ≤ 1000000000 ∧ ∃ xs, W13.ownsRow 0 92 2 p.1 p.2.length xs) := fun p hp => by
    have := (few.out.2.2.2 p.2 (by rw [← E1.out]; exact List.mem_map_of_mem hp)).1
    exact ⟨by omega, _, own_mono (R1.out.rows p hp) (Nat.zero_le _)⟩
  have hl1 : l1.length ≤ 16 := by have := few.out.2.2.1; rw [← E1.out, List.length_map] at this; exact this
  obtain ⟨c0, c1, c2, c3, c4, c5⟩ := six_cells P1.out
  go_wp2_with fail
  clear c0 c1 c2 c3 c4 c5
  have fO := few.out.2.1
  refine (bookMsg_any I1.out l1 _ _ _ _ (by omega) (own_mono O1.out (Nat.zero_le _)) (by omega)
    (fun b hb => by have hq := QO1.out b hb; have := L0.out; have := L1.out; have := L2.out; have := L3.out; have := K0.out; exact ⟨by omega, fun h => by have h := ldM_one h; simp only [Value.ownBlock, Option.some.injEq] at h; omega, fun h => ldM_no h, fun h => ldM_no h, fun h => ldM_no h⟩)
    (own_mono R1.out.own (Nat.zero_le _)) J1.out R1.out.pair R1.out.apart
    (fun p hp b hb => by have hq := QP1.out p hp b hb; have hd := DP1.out p hp b hb; have := L0.out; have := L1.out; have := L2.out; have := L3.out; have := K0.out; exact ⟨by omega, fun h => by have h := ldM_one h; simp only [Value.ownBlock, Option.some.injEq] at h; omega, fun h => ldM_no h, ⟨fun h => ldM_no h, hd⟩, fun h => ldM_no h⟩)
    (fun b hb => by have hq := QR1.out b hb; have hd := DR1.out b hb; have := L0.out; have := L1.out; have := L2.out; have := L3.out; have := K0.out; exact ⟨by omega, fun h => by have h := ldM_one h; simp only [Value.ownBlock, Option.some.injEq] at h; omega, fun h => ldM_no h, ⟨fun h => ldM_no h, hd⟩, fun h => ldM_no h⟩)).mono ?_
  rintro e W14 ⟨rfl, vO1, vR1, ER1, vS1, ii, ee, bb⟩
  have I2 : Hid _ := ii
  have EE1 : Hid (∀ b, LD ER1 b → W1.heap.size ≤ b ∧ b < W2.heap.size) := fun b h => by
    rcases ee b h with h | ⟨p, hp, h⟩
    · exact absurd h (fun h => ldM_no h)
    · exact QP1.out p hp b h
  have B14 : Below w.heap.size w W14 := B13.trans (bb.below B13.size (fun k hk hd => by have := L0.out; have := L1.out; have := L2.out; have := L3.out; have := K0.out; omega))
  replace O1 : Hid _ := own_wrote O1.out bb (fun b hb hd => by have := QO1.out b hb; have := L0.out; have := L1.out; have := L2.out; have := L3.out; have := K0.out; omega)
  replace R1 : Hid _ := OwnRes_wrote R1.out bb (fun b hb hd => by have := QR1.out b hb; have := L0.out; have := L1.out; have := L2.out; have := L3.out; have := K0.out; omega) (fun p hp b hb hd => by have := QP1.out p hp b hb; have := L0.out; have := L1.out; have := L2.out; have := L3.out; have := K0.out; omega)
  replace P1 : Hid _ := (bb.block _ (ltS P1.out) (fun hd => by have := HP1.out; have := L0.out; have := L1.out; have := L2.out; have := L3.out; have := K0.out; omega)).trans P1.out
  replace O2 : Hid _ := own_wrote O2.out bb (fun b hb hd => by have := QO2.out b hb; have := L0.out; have := L1.out; have := L2.out; have := L3.out; have := K0.out; omega)
  replace R2 : Hid _ := OwnRes_wrote R2.out bb (fun b hb hd => by have := QR2.out b hb; have := L0.out; have := L1.out; have := L2.out; have := L3.out; have := K0.out; omega) (fun p hp b hb hd => by have := QP2.out p hp b hb; have := L0.out; have := L1.out; have := L2.out; have := L3.out; have := K0.out; omega)
  replace P2 : Hid _ := (bb.block _ (ltS P2.out) (fun hd => by have := HP2.out; have := L0.out; have := L1.out; have := L2.out; have := L3.out; have := K0.out; omega)).trans P2.out
  clear ii ee bb B13 I1 J1
  have J2 : Hid (∀ p ∈ l2, p.2.length ≤ 1000000000 ∧ ∃ xs, W14.ownsRow 0 92 2 p.1 p.2.length xs) := fun p hp => by
    have := (few.out.2.2.2 p.2 (by rw [← E2.out]; exact List.mem_map_of_mem hp)).1
    exact ⟨by omega, _, own_mono (R2.out.rows p hp) (Nat.zero_le _)⟩
  have hl2 : l2.length ≤ 16 := by have := few.out.2.2.1; rw [← E2.out, List.length_map] at this; exact this
  obtain ⟨c0, c1, c2, c3, c4, c5⟩ := six_cells P2.out
  go_wp2_with fail
  clear c0 c1 c2 c3 c4 c5
  have fO := few.out.2.1
  refine (bookMsg_any I2.out l2 _ _ _ _ (by omega) (own_mono O2.out (Nat.zero_le _)) (by omega)
    (fun b hb => by have hq := QO2.out b hb; have := L0.out; have := L1.out; have := L2.out; have := L3.out; have := K0.out; exact ⟨by omega, fun h => by have h := ldM_one h; simp only [Value.ownBlock, Option.some.injEq] at h; omega, fun h => by have h := EE1.out b h; omega, fun h => by have h := QO1.out b (ldM_one h); omega, fun h => by have h := QR1.out b (ldM_one h); omega⟩)
    (own_mono R2.out.own (Nat.zero_le _)) J2.out R2.out.pair R2.out.apart
    (fun p hp b hb => by have hq := QP2.out p hp b hb; have hd := DP2.out p hp b hb; have := L0.out; have := L1.out; have := L2.out; have := L3.out; have := K0.out; exact ⟨by omega, fun h => by have h := ldM_one h; simp only [Value.ownBlock, Option.some.injEq] at h; omega, fun h => by have h := EE1.out b h; omega, ⟨fun h => by have h := QO1.out b (ldM_one h); omega, hd⟩, fun h => by have h := QR1.out b (ldM_one h); omega⟩)
    (fun b hb => by have hq := QR2.out b hb; have hd := DR2.out b hb; have := L0.out; have := L1.out; have := L2.out; have := L3.out; have := K0.out; exact ⟨by omega, fun h => by have h := ldM_one h; simp only [Value.ownBlock, Option.some.injEq] at h; omega, fun h => by have h := EE1.out b h; omega, ⟨fun h => by have h := QO1.out b (ldM_one h); omega, hd⟩, fun h => by have h := QR1.out b (ldM_one h); omega⟩)).mono ?_
  rintro e W15 ⟨rfl, vO2, vR2, ER2, vS2, ii, ee, bb⟩
  have I3 : Hid _ := ii
  have EE2 : Hid (∀ b, LD ER2 b → W1.heap.size ≤ b) := fun b h => by
    rcases ee b h with h | ⟨p, hp, h⟩
    · exact (EE1.out b h).1
    · have := QP2.out p hp b h; have := L0.out; have := L1.out; have := L2.out; have := L3.out; have := K0.out; omega
  have B15 : Below w.heap.size w W15 := B14.trans (bb.below B14.size (fun k hk hd => by have := L0.out; have := L1.out; have := L2.out; have := L3.out; have := K0.out; omega))
  clear ii ee bb B14 I2 J2
  have bkS : w.heap.size ≤ W11.heap.size := by have := L0.out; have := L1.out; have := L2.out; have := L3.out; have := K0.out; omega
  go_wp2_with fail
  refine (apartMsgs I3.out B15 bkS (fun b h => by have h := ldM_one h; simp only [Value.ownBlock, Option.some.injEq] at h; omega) (fun b h => by have := EE2.out b h; have := L0.out; have := L1.out; have := L2.out; have := L3.out; have := K0.out; omega)
    (fun b h => by rcases ldM_two h with h | h; (have := QO1.out b h; have := L0.out; have := L1.out; have := L2.out; have := L3.out; have := K0.out; omega); (have := QO2.out b h; have := L0.out; have := L1.out; have := L2.out; have := L3.out; have := K0.out; omega)) (fun b h => by rcases ldM_two h with h | h; (have := QR1.out b h; have := L0.out; have := L1.out; have := L2.out; have := L3.out; have := K0.out; omega); (have := QR2.out b h; have := L0.out; have := L1.out; have := L2.out; have := L3.out; have := K0.out; omega)) HT.out).mono ?_
  rintro e W17 ⟨rfl, bF⟩
  go_wp2
  go_ret
  exact ⟨rfl, bF⟩
end Go.Proofs.YtcgecdiaddcfkaaGreatDoor
