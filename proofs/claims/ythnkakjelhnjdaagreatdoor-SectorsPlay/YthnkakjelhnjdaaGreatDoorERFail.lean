/- The walk of the document's Fail. -/
import Derived.Test.YthnkakjelhnjdaaGreatDoorERLay
set_option linter.unusedSimpArgs false
set_option linter.unusedVariables false
namespace Go.Proofs.YthnkakjelhnjdaaGreatDoor
open Go.RowKit Go.Maps

set_option maxRecDepth 1000000 in
theorem rfail_bad (w : World) (B : Nat) (keep torn : Int) (ht : torn < -1) : Calls Tryz.prog 17 #[.pointer (some ⟨B, 0, none⟩), .int .u64 keep, .int .i64 torn] w fun e w' => e = .returned (.tuple #[.pointer none, .int .i64 1]) ∧ w = w' := by
  go_enter Tryz.func17, Tryz.ntmps17
  go_wp2
  go_ret2
  exact ⟨rfl, rfl⟩
set_option maxHeartbeats 8000000 in
set_option maxRecDepth 1000000 in
theorem rfail_ok {w : World} {B : Nat} {S : Nat → Prop} {d : Dk} (h : RfAt w B S d) (hn : d.ws.length ≤ 1000000) (keep : Nat) (hkeep : keep < 18446744073709551616) (torn : Int) (ht : -1 ≤ torn) :
    Calls Tryz.prog 17 #[.pointer (some ⟨B, 0, none⟩), .int .u64 (keep : Int), .int .i64 torn] w fun e w' =>
      e = .returned (.tuple #[.pointer (some ⟨w.heap.size, 0, none⟩), .int .i64 0]) ∧ Below w.heap.size w w' ∧ RfAt w' w.heap.size (fun x => w.heap.size ≤ x ∧ x < w'.heap.size) (d.fail keep torn) := by
  obtain ⟨i0, hii, hz0, hz1, hz2⟩ := info_parts info_sl
  obtain ⟨ib, hib, hb0, hb1, hb2⟩ := info_parts info_u8
  have h0 := h.ok
  have hmax := h0.max
  have hpos := h0.pos
  obtain ⟨vs, vw, P, Q, h⟩ := h
  have hB := h.lt B h.sB
  obtain ⟨g, cs, rfl, hs1, hs2, hgl, -, css⟩ := own_pos h.rs h0.pos
  obtain ⟨aw, cw, hvw, hw1, hw2⟩ := own_len' h.rw_
  subst hvw
  unfold maxLen at hw2
  obtain ⟨nS, hnS⟩ : ∃ nS, nS = d.sure.length := ⟨_, rfl⟩
  obtain ⟨nW, hnW⟩ : ∃ nW, nW = d.ws.length := ⟨_, rfl⟩
  rw [← hnS, ← hnW] at h
  rw [← hnS] at hmax hs1 hpos css
  rw [← hnW] at hn hw1
  have hHS : Hid (nS = d.sure.length) := hnS
  have hHW : Hid (nW = d.ws.length) := hnW
  have i1 : ¬ torn < -1 := by omega
  have hHh : Hid (∀ W, Below w.heap.size w W → W.heap[B]? = some (.cells #[.slice (some ⟨g, 0, none⟩) nS cs, .slice aw nW cw] 67 (0, 0))) := fun W hW => (hW.block B hB).trans h.head
  clear hnS hnW
  go_enter Tryz.func17, Tryz.ntmps17
  go_wp2
  have b1 := below_one w (.cells #[.slice none 0 0, .slice none 0 0] 67)
  have r1 := heap_alloc_last w (.cells #[.slice none 0 0, .slice none 0 0] 67)
  go_loopw [9] (fun x wr => ∃ k : Nat, k ≤ nS ∧ x = .int .i64 (k : Int) ∧ Below w.heap.size w wr ∧ ∃ vs P, NwX wr w.heap.size w.heap.size vs P (d.sure.take k)) (fun x _ => nS - (intOf x).toNat)
  case atStart => exact ⟨0, Nat.zero_le _, rfl, b1, _, _, NwX.zero r1 (Nat.le_refl _)⟩
  case round =>
    obtain ⟨k, hk, rfl, hw, vs, P2, hr⟩ := hrel
    have hcB := pair_cell (hHh.out wr hw)
    have htk : (d.sure.take k).length = k := by rw [List.length_take]; have := hHS.out; omega
    by_cases hkn : k < nS
    · have k1 : (k : Int) < (nS : Int) := by omega
      have k2 : ¬ nS ≤ k := by omega
      have hkd : k < d.sure.length := by rw [← hHS.out]; exact hkn
      obtain ⟨av, cv, ev, ev1, ev2⟩ := own_len' hr.rs
      rw [htk] at ev ev1
      subst ev
      unfold maxLen at ev2
      have y1 := css _ _ (rowsOf_get P hkn)
      have hpk := (h.ps k hkd).1
      obtain ⟨apk, cpk, epk, -, -⟩ := own_len' hpk
      have srcP := src_row (own_kept (w' := wr.drew) hpk (fun b e => hw.block b (h.lt b ((h.ps k hkd).2 b e))))
      rw [epk] at y1 srcP
      have heldH : Hid (∀ W, Below w.heap.size w W → W.heap[B]? = some (.cells #[.slice (some ⟨g, 0, none⟩) nS cs, .slice aw nW cw] 67 (0, 0)) ∧ W.cell? ⟨g, k, none⟩ = some (.slice apk 64 cpk)) := fun W hW => ⟨hHh.out W hW, (World.cell?_of_block (w := w) (a := ⟨g, k, none⟩) (hW.block g hgl)).trans y1⟩
      have b0 : Below w.heap.size w wr.drew := hw.drew
      have c0 : wr.drew.cell? ⟨w.heap.size, 0, none⟩ = some (.slice av k cv) := (pair_cell hr.head).1
      obtain ⟨s, hs⟩ : ∃ s, s = d.sure[k]'hkd := ⟨_, rfl⟩
      rw [← hs] at srcP
      have hs64 : s.length = 64 := by rw [hs]; exact h0.len k hkd
      have f12 : Hid (∀ (p : Value) (w1 : World), w1.ownsRow wr.heap.size 5 1 p (0 + 64) ([] ++ bcells s) → wr.drew.grownBy w1 (Value.ownBlock (.slice none 0 0)) →
          (∃ a c, p = .slice a 64 c) ∧ Below w.heap.size w w1 ∧ Below w.heap.size w (w1.alloc (.cells #[p] 45)) ∧ w1.cell? ⟨w.heap.size, 0, none⟩ = some (.slice av k cv) ∧ (w1.alloc (.cells #[p] 45)).cell? ⟨w.heap.size, 0, none⟩ = some (.slice av k cv) ∧
          (w1.alloc (.cells #[p] 45)).ownsRow 0 45 1 (.slice av k cv) k (rowsOf P2 k) ∧ Src Tryz.prog 1 64 (.slice (some ⟨w1.heap.size, 0, none⟩) 1 1) 1 [p] (w1.alloc (.cells #[p] 45)) ∧
          Hid (∀ (v' : Value) (w2 : World), w2.ownsRow 0 45 1 v' (k + 1) (rowsOf P2 k ++ [p]) → (w1.alloc (.cells #[p] 45)).grownBy w2 (Value.ownBlock (.slice av k cv)) → (v'.ownBlock = Value.ownBlock (.slice av k cv) ∨ v'.ownBlock = some (w1.alloc (.cells #[p] 45)).heap.size) →
            (∃ a' c', v' = .slice a' (k + 1) c') ∧ Below w.heap.size w w2 ∧ Below w.heap.size w (w2.setCell ⟨w.heap.size, 0, none⟩ v') ∧ w2.cell? ⟨w.heap.size, 0, none⟩ = some (.slice av k cv) ∧ w2.frozen? ⟨w.heap.size, 0, none⟩ = false ∧ ∃ k1 : Nat, k1 ≤ nS ∧ Value.int .i64 ((k : Int) + 1) = .int .i64 (k1 : Int) ∧ Below w.heap.size w (w2.setCell ⟨w.heap.size, 0, none⟩ v') ∧ ∃ vs P, NwX (w2.setCell ⟨w.heap.size, 0, none⟩ v') w.heap.size w.heap.size vs P (d.sure.take k1))) := by
        intro p w1 h1 h2
        obtain ⟨o1, bl⟩ := rcopy_new (w := wr.drew) h1 h2
        have bl1 : Below wr.heap.size wr w1 := (Below.refl wr.heap.size wr).drew.trans bl
        have bw1 : Below w.heap.size w w1 := hw.trans (bl1.mono hw.size)
        have bl2 : Below wr.heap.size wr (w1.alloc (.cells #[p] 45)) := bl1.alloc bl1.size _
        have bw2 : Below w.heap.size w (w1.alloc (.cells #[p] 45)) := bw1.alloc bw1.size _
        obtain ⟨a, c, ep, -, -⟩ := own_len' o1
        have hc1 : w1.cell? ⟨w.heap.size, 0, none⟩ = some (.slice av k cv) := (World.cell?_of_block (w := wr) (a := ⟨w.heap.size, 0, none⟩) (bl1.block _ (lt_of_block hr.head))).trans c0
        have hrr := hr.rs
        rw [htk] at hrr
        refine ⟨⟨a, c, ep⟩, bw1, bw2, hc1, cell_alloc hc1 _, own_below (own_nought hrr) bl2, Src.ofSlice _ Tryz.underlying64 _ _ _ _ rfl (news_ofv _ _) (by intro u hu; simp at hu; rw [hu, ep]; rfl), ?_⟩
        intro v' w2 h3 h4 h5
        obtain ⟨a', c', hv', -, -⟩ := own_len' h3
        have gg := nw_snoc (s := s) hr hs64 bl2 (own_below o1 (below_one _ _)) hw.size (by rw [htk]; exact h3) h4 h5
        rw [hs, ← List.take_succ_eq_append_getElem hkd] at gg
        have b3 : Below w.heap.size w w2 := bw2.trans ⟨h4.os, h4.tape, h4.output, h4.size, fun x hx => h4.block x (Nat.lt_of_lt_of_le hx bw2.size) (fun e => by have := (hr.rs.lt x e.symm).1; omega)⟩
        have b4 : Below w.heap.size w (w2.setCell ⟨w.heap.size, 0, none⟩ v') := b3.setCell (p := ⟨w.heap.size, 0, none⟩) (Nat.le_refl _) _
        exact ⟨⟨a', c', hv'⟩, b3, b4, (pair_cell gg.1).1, box_frozen gg.1, k + 1, by omega, by simp, b4, _, _, gg.2.1⟩
      have held0 := heldH.out wr hw
      clear hr hw r1 b1 hs y1 hpk
      go_wp2_with fail
      refine wp_region_noPanic ?_
      refine wp_region_held_drew (S := fun W => W.heap[B]? = some (.cells #[.slice (some ⟨g, 0, none⟩) nS cs, .slice aw nW cw] 67 (0, 0)) ∧ W.cell? ⟨g, k, none⟩ = some (.slice apk 64 cpk)) (by kernel_rfl) held0 (fun hHeld => ?_)
      refine wpAnyH_take (i := 0) (oi := { dst := some 26, op := Go.Op.move (Go.Operand.tmp 8), type := 28, pos := _, after := #[], guard := none }) (v := .pointer (some ⟨w.heap.size, 0, none⟩)) rfl (by kernel_rfl) (by kernel_rfl) (by kernel_rfl) (fun _ _ _ h => h) (Or.inl ⟨by rfl, fun W hW => by go_simp⟩) (by assumption) ?_
      try simp only [Act.put, List.setIfInBounds_toArray, List.set_cons_zero, List.set_cons_succ]
      refine wpAnyH_take (i := 1) (oi := { dst := some 27, op := Go.Op.move (Go.Operand.tmp 8), type := 28, pos := _, after := #[], guard := none }) (v := .pointer (some ⟨w.heap.size, 0, none⟩)) rfl (by kernel_rfl) (by kernel_rfl) (by kernel_rfl) (fun _ _ _ h => h) (Or.inl ⟨by rfl, fun W hW => by go_simp⟩) (by assumption) ?_
      try simp only [Act.put, List.setIfInBounds_toArray, List.set_cons_zero, List.set_cons_succ]
      refine wpAnyH_take (i := 2) (oi := { dst := some 28, op := Go.Op.nilCheck (Go.Operand.tmp 27), type := 0, pos := _, after := #[{ on := 1, ground := Go.Ground.data }], guard := none }) (v := .pointer (some ⟨w.heap.size, 0, none⟩)) rfl (by kernel_rfl) (by kernel_rfl) (by kernel_rfl) (fun _ _ _ h => h) (Or.inl ⟨by rfl, fun W hW => by go_simp⟩) (by assumption) ?_
      try simp only [Act.put, List.setIfInBounds_toArray, List.set_cons_zero, List.set_cons_succ]
      refine wpAnyH_take (i := 3) (oi := { dst := some 29, op := Go.Op.fieldAddr 67 (Go.Operand.tmp 28) 0, type := 0, pos := _, after := #[{ on := 2, ground := Go.Ground.data }], guard := none }) (v := .pointer (some ⟨w.heap.size, 0, none⟩)) rfl (by kernel_rfl) (by kernel_rfl) (by kernel_rfl) (fun _ _ _ h => h) (Or.inl ⟨by rfl, fun W hW => by go_simp⟩) (by assumption) ?_
      try simp only [Act.put, List.setIfInBounds_toArray, List.set_cons_zero, List.set_cons_succ]
      refine wpAnyH_take (i := 5) (oi := { dst := some 31, op := Go.Op.move (Go.Operand.tmp 0), type := 28, pos := _, after := #[], guard := none }) (v := .pointer (some ⟨B, 0, none⟩)) rfl (by kernel_rfl) (by kernel_rfl) (by kernel_rfl) (fun _ _ _ h => h) (Or.inl ⟨by rfl, fun W hW => by go_simp⟩) (by assumption) ?_
      try simp only [Act.put, List.setIfInBounds_toArray, List.set_cons_zero, List.set_cons_succ]
      refine wpAnyH_take (i := 6) (oi := { dst := some 32, op := Go.Op.nilCheck (Go.Operand.tmp 31), type := 0, pos := _, after := #[{ on := 5, ground := Go.Ground.data }], guard := none }) (v := .pointer (some ⟨B, 0, none⟩)) rfl (by kernel_rfl) (by kernel_rfl) (by kernel_rfl) (fun _ _ _ h => h) (Or.inl ⟨by rfl, fun W hW => by go_simp⟩) (by assumption) ?_
      try simp only [Act.put, List.setIfInBounds_toArray, List.set_cons_zero, List.set_cons_succ]
      refine wpAnyH_take (i := 7) (oi := { dst := some 33, op := Go.Op.fieldAddr 67 (Go.Operand.tmp 32) 0, type := 0, pos := _, after := #[{ on := 6, ground := Go.Ground.data }], guard := none }) (v := .pointer (some ⟨B, 0, none⟩)) rfl (by kernel_rfl) (by kernel_rfl) (by kernel_rfl) (fun _ _ _ h => h) (Or.inl ⟨by rfl, fun W hW => by go_simp⟩) (by assumption) ?_
      try simp only [Act.put, List.setIfInBounds_toArray, List.set_cons_zero, List.set_cons_succ]
      refine wpAnyH_take (i := 8) (oi := { dst := some 34, op := Go.Op.load 64 (Go.Operand.tmp 33), type := 64, pos := _, after := #[{ on := 7, ground := Go.Ground.data }], guard := none }) (v := .slice (some ⟨g, 0, none⟩) nS cs) rfl (by kernel_rfl) (by kernel_rfl) (by kernel_rfl) (fun _ _ _ h => h) (yieldsIf_load (by rfl) 64 (.tmp 33) rfl _ _ rfl (fun W hW => rld64 _ _ _ _ _ W (pair_cell hW.1).1)) (by assumption) ?_
      try simp only [Act.put, List.setIfInBounds_toArray, List.set_cons_zero, List.set_cons_succ]
      refine wpAnyH_take (i := 9) (oi := { dst := some 35, op := Go.Op.move (Go.Operand.tmp 9), type := 3, pos := _, after := #[], guard := none }) (v := .int .i64 (k : Int)) rfl (by kernel_rfl) (by kernel_rfl) (by kernel_rfl) (fun _ _ _ h => h) (Or.inl ⟨by rfl, fun W hW => by go_simp⟩) (by assumption) ?_
      try simp only [Act.put, List.setIfInBounds_toArray, List.set_cons_zero, List.set_cons_succ]
      refine wpAnyH_take (i := 10) (oi := { dst := some 36, op := Go.Op.indexAddr 64 (Go.Operand.tmp 34) (Go.Operand.tmp 35), type := 0, pos := _, after := #[{ on := 8, ground := Go.Ground.data }, { on := 9, ground := Go.Ground.data }], guard := none }) (v := .pointer (some ⟨g, k, none⟩)) rfl (by kernel_rfl) (by kernel_rfl) (by kernel_rfl) (fun _ _ _ h => h) (Or.inl ⟨by rfl, fun W hW => by go_simp⟩) (by assumption) ?_
      try simp only [Act.put, List.setIfInBounds_toArray, List.set_cons_zero, List.set_cons_succ]
      refine wpAnyH_take (i := 11) (oi := { dst := some 37, op := Go.Op.load 45 (Go.Operand.tmp 36), type := 45, pos := _, after := #[{ on := 10, ground := Go.Ground.data }], guard := none }) (v := .slice apk 64 cpk) rfl (by kernel_rfl) (by kernel_rfl) (by kernel_rfl) (fun _ _ _ h => h) (yieldsIf_load (by rfl) 45 (.tmp 36) rfl _ _ rfl (fun W hW => rld45 _ _ _ _ _ W hW.2)) (by assumption) ?_
      try simp only [Act.put, List.setIfInBounds_toArray, List.set_cons_zero, List.set_cons_succ]
      refine wpAnyH_ready (rs := [4, 12]) (by kernel_rfl) (by simp) ?_
      refine AllReadyH.cons (o := { dst := some 30, op := Go.Op.load 64 (Go.Operand.tmp 29), type := 64, pos := _, after := #[{ on := 3, ground := Go.Ground.data }], guard := none }) rfl (fun K hK => ?_) (AllReadyH.cons (o := { dst := some 38, op := Go.Op.call { callee := Go.Callee.builtin Go.Builtin.append, args := #[Go.Operand.const (Go.Value.slice none 0 0), Go.Operand.tmp 37], argTypes := #[45, 45] }, type := 45, pos := _, after := #[{ on := 11, ground := Go.Ground.data }], guard := none }) rfl (fun K hK => ?_) AllReadyH.nil)
      · refine step_load rfl 64 (.tmp 29) rfl _ _ rfl (rld64 _ _ av k cv _ (by first | exact c0 | exact c1 | exact c2)) ?_
        refine hK.out _ _ (heldH.out _ (by first | exact b0 | exact b1 | exact b2)) (fun hHeld => ?_)
        clear hK K
        try simp only [Act.put, List.setIfInBounds_toArray, List.set_cons_zero, List.set_cons_succ]
        refine wpAnyH_ready (rs := [12]) (by kernel_rfl) (by simp) ?_
        refine AllReadyH.cons (o := { dst := some 38, op := Go.Op.call { callee := Go.Callee.builtin Go.Builtin.append, args := #[Go.Operand.const (Go.Value.slice none 0 0), Go.Operand.tmp 37], argTypes := #[45, 45] }, type := 45, pos := _, after := #[{ on := 11, ground := Go.Ground.data }], guard := none }) rfl (fun K hK => ?_) AllReadyH.nil
        refine step_append_src rfl (.const (.slice none 0 0)) (.tmp 37) 45 rfl wr.heap.size 5 ib (.int .u8 0) 1 1 Tryz.underlying45 hib hb0 hb1 hb2 rfl (by decide) (.slice none 0 0) 0 [] rfl (World.ownsRow_nil _ _ _ _) _ 64 _ rfl srcP (by unfold maxLen; omega) (by omega) (Nat.le_refl _) ?_
        intro p w1 ho1 hg1 hl1
        obtain ⟨⟨ap1, cp1, rfl⟩, b1, b2, c1, c2, ow, src, finH⟩ := f12.out p w1 ho1 hg1
        refine hK.out _ _ (heldH.out _ (b1)) (fun hHeld => ?_)
        clear hK K
        try simp only [Act.put, List.setIfInBounds_toArray, List.set_cons_zero, List.set_cons_succ]
        refine wpAnyH_ready (rs := [13]) (by kernel_rfl) (by simp) ?_
        refine AllReadyH.cons (o := { dst := some 39, op := Go.Op.buildSlice 64 1 #[(0, Go.Operand.tmp 38)], type := 64, pos := _, after := #[{ on := 12, ground := Go.Ground.data }], guard := none }) rfl (fun K hK => ?_) AllReadyH.nil
        refine step_buildSlice rfl 64 45 1 #[(0, .tmp 38)] rfl #[.slice ap1 64 cp1] #[(0, .slice ap1 64 cp1)] (by simp only [List.map_toArray, List.map_cons, List.map_nil]; rfl) (fun W => bs_sl ap1 64 cp1 W) ?_
        refine hK.out _ _ (heldH.out _ (b2)) (fun hHeld => ?_)
        clear hK K
        try simp only [Act.put, List.setIfInBounds_toArray, List.set_cons_zero, List.set_cons_succ]
        refine wpAnyH_ready (rs := [14]) (by kernel_rfl) (by simp) ?_
        refine AllReadyH.cons (o := { dst := some 40, op := Go.Op.call { callee := Go.Callee.builtin Go.Builtin.append, args := #[Go.Operand.tmp 30, Go.Operand.tmp 39], argTypes := #[64, 64] }, type := 64, pos := _, after := #[{ on := 4, ground := Go.Ground.data }, { on := 13, ground := Go.Ground.data }, { on := 12, ground := Go.Ground.chain }], guard := none }) rfl (fun K hK => ?_) AllReadyH.nil
        refine step_append_src rfl (.tmp 30) (.tmp 39) 64 rfl 0 45 i0 (.slice none 0 0) 1 24 Tryz.underlying64 hii hz0 hz1 hz2 rfl (by decide) (.slice av k cv) k _ rfl ow _ 1 _ rfl src (by unfold maxLen; omega) (by omega) (Nat.zero_le _) ?_
        intro v' w3 ho3 hg3 hl3
        obtain ⟨⟨a', c', rfl⟩, b3, b4, f1, f2, f3⟩ := finH.out v' w3 ho3 hg3 hl3
        refine hK.out _ _ (heldH.out _ (b3)) (fun hHeld => ?_)
        clear hK K
        try simp only [Act.put, List.setIfInBounds_toArray, List.set_cons_zero, List.set_cons_succ]
        refine wpAnyH_take (i := 15) (oi := { dst := some 41, op := Go.Op.nilCheck (Go.Operand.tmp 26), type := 0, pos := _, after := #[{ on := 0, ground := Go.Ground.data }, { on := 0, ground := Go.Ground.phase }, { on := 1, ground := Go.Ground.phase }, { on := 2, ground := Go.Ground.phase }, { on := 3, ground := Go.Ground.phase }, { on := 4, ground := Go.Ground.phase }, { on := 5, ground := Go.Ground.phase }, { on := 6, ground := Go.Ground.phase }, { on := 7, ground := Go.Ground.phase }, { on := 8, ground := Go.Ground.phase }, { on := 9, ground := Go.Ground.phase }, { on := 10, ground := Go.Ground.phase }, { on := 11, ground := Go.Ground.phase }, { on := 12, ground := Go.Ground.phase }, { on := 13, ground := Go.Ground.phase }, { on := 14, ground := Go.Ground.phase }], guard := none }) (v := .pointer (some ⟨w.heap.size, 0, none⟩)) rfl (by kernel_rfl) (by kernel_rfl) (by kernel_rfl) (fun _ _ _ h => h) (Or.inl ⟨by rfl, fun W hW => by go_simp⟩) (by assumption) ?_
        try simp only [Act.put, List.setIfInBounds_toArray, List.set_cons_zero, List.set_cons_succ]
        refine wpAnyH_take (i := 16) (oi := { dst := some 42, op := Go.Op.fieldAddr 67 (Go.Operand.tmp 41) 0, type := 0, pos := _, after := #[{ on := 15, ground := Go.Ground.data }, { on := 0, ground := Go.Ground.phase }, { on := 1, ground := Go.Ground.phase }, { on := 2, ground := Go.Ground.phase }, { on := 3, ground := Go.Ground.phase }, { on := 4, ground := Go.Ground.phase }, { on := 5, ground := Go.Ground.phase }, { on := 6, ground := Go.Ground.phase }, { on := 7, ground := Go.Ground.phase }, { on := 8, ground := Go.Ground.phase }, { on := 9, ground := Go.Ground.phase }, { on := 10, ground := Go.Ground.phase }, { on := 11, ground := Go.Ground.phase }, { on := 12, ground := Go.Ground.phase }, { on := 13, ground := Go.Ground.phase }, { on := 14, ground := Go.Ground.phase }], guard := none }) (v := .pointer (some ⟨w.heap.size, 0, none⟩)) rfl (by kernel_rfl) (by kernel_rfl) (by kernel_rfl) (fun _ _ _ h => h) (Or.inl ⟨by rfl, fun W hW => by go_simp⟩) (by assumption) ?_
        try simp only [Act.put, List.setIfInBounds_toArray, List.set_cons_zero, List.set_cons_succ]
        refine wpAnyH_ready (rs := [17]) (by kernel_rfl) (by simp) ?_
        refine AllReadyH.cons (o := { dst := none, op := Go.Op.store 64 (Go.Operand.tmp 42) (Go.Operand.tmp 40), type := 0, pos := _, after := #[{ on := 16, ground := Go.Ground.data }, { on := 14, ground := Go.Ground.data }, { on := 14, ground := Go.Ground.chain }, { on := 0, ground := Go.Ground.phase }, { on := 1, ground := Go.Ground.phase }, { on := 2, ground := Go.Ground.phase }, { on := 3, ground := Go.Ground.phase }, { on := 4, ground := Go.Ground.phase }, { on := 5, ground := Go.Ground.phase }, { on := 6, ground := Go.Ground.phase }, { on := 7, ground := Go.Ground.phase }, { on := 8, ground := Go.Ground.phase }, { on := 9, ground := Go.Ground.phase }, { on := 10, ground := Go.Ground.phase }, { on := 11, ground := Go.Ground.phase }, { on := 12, ground := Go.Ground.phase }, { on := 13, ground := Go.Ground.phase }, { on := 14, ground := Go.Ground.phase }], guard := none }) rfl (fun K hK => ?_) AllReadyH.nil
        refine step_store rfl 64 (.tmp 42) (.tmp 40) rfl _ _ rfl rfl _ (rst64 _ _ _ _ _ _ _ _ w3 f1 f2) ?_
        refine hK.out _ _ (heldH.out _ (b4)) (fun hHeld => ?_)
        clear hK K hHeld
        try simp only [Act.put, List.setIfInBounds_toArray, List.set_cons_zero, List.set_cons_succ]
        refine wpAnyH_done (by kernel_rfl) ?_ _
        refine NoPanic.normal ?_
        clear hHeld
        go_wp2
        go_roundw
        case rel => first | exact f3 | ((repeat apply Exists.intro); exact ⟨f3, rfl⟩)
        case measure => first | (simp [intOf]; done) | (simp [intOf]; omega)
      · refine step_append_src rfl (.const (.slice none 0 0)) (.tmp 37) 45 rfl wr.heap.size 5 ib (.int .u8 0) 1 1 Tryz.underlying45 hib hb0 hb1 hb2 rfl (by decide) (.slice none 0 0) 0 [] rfl (World.ownsRow_nil _ _ _ _) _ 64 _ rfl srcP (by unfold maxLen; omega) (by omega) (Nat.le_refl _) ?_
        intro p w1 ho1 hg1 hl1
        obtain ⟨⟨ap1, cp1, rfl⟩, b1, b2, c1, c2, ow, src, finH⟩ := f12.out p w1 ho1 hg1
        refine hK.out _ _ (heldH.out _ (b1)) (fun hHeld => ?_)
        clear hK K
        try simp only [Act.put, List.setIfInBounds_toArray, List.set_cons_zero, List.set_cons_succ]
        refine wpAnyH_ready (rs := [4, 13]) (by kernel_rfl) (by simp) ?_
        refine AllReadyH.cons (o := { dst := some 30, op := Go.Op.load 64 (Go.Operand.tmp 29), type := 64, pos := _, after := #[{ on := 3, ground := Go.Ground.data }], guard := none }) rfl (fun K hK => ?_) (AllReadyH.cons (o := { dst := some 39, op := Go.Op.buildSlice 64 1 #[(0, Go.Operand.tmp 38)], type := 64, pos := _, after := #[{ on := 12, ground := Go.Ground.data }], guard := none }) rfl (fun K hK => ?_) AllReadyH.nil)
        · refine step_load rfl 64 (.tmp 29) rfl _ _ rfl (rld64 _ _ av k cv _ (by first | exact c0 | exact c1 | exact c2)) ?_
          refine hK.out _ _ (heldH.out _ (by first | exact b0 | exact b1 | exact b2)) (fun hHeld => ?_)
          clear hK K
          try simp only [Act.put, List.setIfInBounds_toArray, List.set_cons_zero, List.set_cons_succ]
          refine wpAnyH_ready (rs := [13]) (by kernel_rfl) (by simp) ?_
          refine AllReadyH.cons (o := { dst := some 39, op := Go.Op.buildSlice 64 1 #[(0, Go.Operand.tmp 38)], type := 64, pos := _, after := #[{ on := 12, ground := Go.Ground.data }], guard := none }) rfl (fun K hK => ?_) AllReadyH.nil
          refine step_buildSlice rfl 64 45 1 #[(0, .tmp 38)] rfl #[.slice ap1 64 cp1] #[(0, .slice ap1 64 cp1)] (by simp only [List.map_toArray, List.map_cons, List.map_nil]; rfl) (fun W => bs_sl ap1 64 cp1 W) ?_
          refine hK.out _ _ (heldH.out _ (b2)) (fun hHeld => ?_)
          clear hK K
          try simp only [Act.put, List.setIfInBounds_toArray, List.set_cons_zero, List.set_cons_succ]
          refine wpAnyH_ready (rs := [14]) (by kernel_rfl) (by simp) ?_
          refine AllReadyH.cons (o := { dst := some 40, op := Go.Op.call { callee := Go.Callee.builtin Go.Builtin.append, args := #[Go.Operand.tmp 30, Go.Operand.tmp 39], argTypes := #[64, 64] }, type := 64, pos := _, after := #[{ on := 4, ground := Go.Ground.data }, { on := 13, ground := Go.Ground.data }, { on := 12, ground := Go.Ground.chain }], guard := none }) rfl (fun K hK => ?_) AllReadyH.nil
          refine step_append_src rfl (.tmp 30) (.tmp 39) 64 rfl 0 45 i0 (.slice none 0 0) 1 24 Tryz.underlying64 hii hz0 hz1 hz2 rfl (by decide) (.slice av k cv) k _ rfl ow _ 1 _ rfl src (by unfold maxLen; omega) (by omega) (Nat.zero_le _) ?_
          intro v' w3 ho3 hg3 hl3
          obtain ⟨⟨a', c', rfl⟩, b3, b4, f1, f2, f3⟩ := finH.out v' w3 ho3 hg3 hl3
          refine hK.out _ _ (heldH.out _ (b3)) (fun hHeld => ?_)
          clear hK K
          try simp only [Act.put, List.setIfInBounds_toArray, List.set_cons_zero, List.set_cons_succ]
          refine wpAnyH_take (i := 15) (oi := { dst := some 41, op := Go.Op.nilCheck (Go.Operand.tmp 26), type := 0, pos := _, after := #[{ on := 0, ground := Go.Ground.data }, { on := 0, ground := Go.Ground.phase }, { on := 1, ground := Go.Ground.phase }, { on := 2, ground := Go.Ground.phase }, { on := 3, ground := Go.Ground.phase }, { on := 4, ground := Go.Ground.phase }, { on := 5, ground := Go.Ground.phase }, { on := 6, ground := Go.Ground.phase }, { on := 7, ground := Go.Ground.phase }, { on := 8, ground := Go.Ground.phase }, { on := 9, ground := Go.Ground.phase }, { on := 10, ground := Go.Ground.phase }, { on := 11, ground := Go.Ground.phase }, { on := 12, ground := Go.Ground.phase }, { on := 13, ground := Go.Ground.phase }, { on := 14, ground := Go.Ground.phase }], guard := none }) (v := .pointer (some ⟨w.heap.size, 0, none⟩)) rfl (by kernel_rfl) (by kernel_rfl) (by kernel_rfl) (fun _ _ _ h => h) (Or.inl ⟨by rfl, fun W hW => by go_simp⟩) (by assumption) ?_
          try simp only [Act.put, List.setIfInBounds_toArray, List.set_cons_zero, List.set_cons_succ]
          refine wpAnyH_take (i := 16) (oi := { dst := some 42, op := Go.Op.fieldAddr 67 (Go.Operand.tmp 41) 0, type := 0, pos := _, after := #[{ on := 15, ground := Go.Ground.data }, { on := 0, ground := Go.Ground.phase }, { on := 1, ground := Go.Ground.phase }, { on := 2, ground := Go.Ground.phase }, { on := 3, ground := Go.Ground.phase }, { on := 4, ground := Go.Ground.phase }, { on := 5, ground := Go.Ground.phase }, { on := 6, ground := Go.Ground.phase }, { on := 7, ground := Go.Ground.phase }, { on := 8, ground := Go.Ground.phase }, { on := 9, ground := Go.Ground.phase }, { on := 10, ground := Go.Ground.phase }, { on := 11, ground := Go.Ground.phase }, { on := 12, ground := Go.Ground.phase }, { on := 13, ground := Go.Ground.phase }, { on := 14, ground := Go.Ground.phase }], guard := none }) (v := .pointer (some ⟨w.heap.size, 0, none⟩)) rfl (by kernel_rfl) (by kernel_rfl) (by kernel_rfl) (fun _ _ _ h => h) (Or.inl ⟨by rfl, fun W hW => by go_simp⟩) (by assumption) ?_
          try simp only [Act.put, List.setIfInBounds_toArray, List.set_cons_zero, List.set_cons_succ]
          refine wpAnyH_ready (rs := [17]) (by kernel_rfl) (by simp) ?_
          refine AllReadyH.cons (o := { dst := none, op := Go.Op.store 64 (Go.Operand.tmp 42) (Go.Operand.tmp 40), type := 0, pos := _, after := #[{ on := 16, ground := Go.Ground.data }, { on := 14, ground := Go.Ground.data }, { on := 14, ground := Go.Ground.chain }, { on := 0, ground := Go.Ground.phase }, { on := 1, ground := Go.Ground.phase }, { on := 2, ground := Go.Ground.phase }, { on := 3, ground := Go.Ground.phase }, { on := 4, ground := Go.Ground.phase }, { on := 5, ground := Go.Ground.phase }, { on := 6, ground := Go.Ground.phase }, { on := 7, ground := Go.Ground.phase }, { on := 8, ground := Go.Ground.phase }, { on := 9, ground := Go.Ground.phase }, { on := 10, ground := Go.Ground.phase }, { on := 11, ground := Go.Ground.phase }, { on := 12, ground := Go.Ground.phase }, { on := 13, ground := Go.Ground.phase }, { on := 14, ground := Go.Ground.phase }], guard := none }) rfl (fun K hK => ?_) AllReadyH.nil
          refine step_store rfl 64 (.tmp 42) (.tmp 40) rfl _ _ rfl rfl _ (rst64 _ _ _ _ _ _ _ _ w3 f1 f2) ?_
          refine hK.out _ _ (heldH.out _ (b4)) (fun hHeld => ?_)
          clear hK K hHeld
          try simp only [Act.put, List.setIfInBounds_toArray, List.set_cons_zero, List.set_cons_succ]
          refine wpAnyH_done (by kernel_rfl) ?_ _
          refine NoPanic.normal ?_
          clear hHeld
          go_wp2
          go_roundw
          case rel => first | exact f3 | ((repeat apply Exists.intro); exact ⟨f3, rfl⟩)
          case measure => first | (simp [intOf]; done) | (simp [intOf]; omega)
        · refine step_buildSlice rfl 64 45 1 #[(0, .tmp 38)] rfl #[.slice ap1 64 cp1] #[(0, .slice ap1 64 cp1)] (by simp only [List.map_toArray, List.map_cons, List.map_nil]; rfl) (fun W => bs_sl ap1 64 cp1 W) ?_
          refine hK.out _ _ (heldH.out _ (b2)) (fun hHeld => ?_)
          clear hK K
          try simp only [Act.put, List.setIfInBounds_toArray, List.set_cons_zero, List.set_cons_succ]
          refine wpAnyH_ready (rs := [4]) (by kernel_rfl) (by simp) ?_
          refine AllReadyH.cons (o := { dst := some 30, op := Go.Op.load 64 (Go.Operand.tmp 29), type := 64, pos := _, after := #[{ on := 3, ground := Go.Ground.data }], guard := none }) rfl (fun K hK => ?_) AllReadyH.nil
          refine step_load rfl 64 (.tmp 29) rfl _ _ rfl (rld64 _ _ av k cv _ (by first | exact c0 | exact c1 | exact c2)) ?_
          refine hK.out _ _ (heldH.out _ (by first | exact b0 | exact b1 | exact b2)) (fun hHeld => ?_)
          clear hK K
          try simp only [Act.put, List.setIfInBounds_toArray, List.set_cons_zero, List.set_cons_succ]
          refine wpAnyH_ready (rs := [14]) (by kernel_rfl) (by simp) ?_
          refine AllReadyH.cons (o := { dst := some 40, op := Go.Op.call { callee := Go.Callee.builtin Go.Builtin.append, args := #[Go.Operand.tmp 30, Go.Operand.tmp 39], argTypes := #[64, 64] }, type := 64, pos := _, after := #[{ on := 4, ground := Go.Ground.data }, { on := 13, ground := Go.Ground.data }, { on := 12, ground := Go.Ground.chain }], guard := none }) rfl (fun K hK => ?_) AllReadyH.nil
          refine step_append_src rfl (.tmp 30) (.tmp 39) 64 rfl 0 45 i0 (.slice none 0 0) 1 24 Tryz.underlying64 hii hz0 hz1 hz2 rfl (by decide) (.slice av k cv) k _ rfl ow _ 1 _ rfl src (by unfold maxLen; omega) (by omega) (Nat.zero_le _) ?_
          intro v' w3 ho3 hg3 hl3
          obtain ⟨⟨a', c', rfl⟩, b3, b4, f1, f2, f3⟩ := finH.out v' w3 ho3 hg3 hl3
          refine hK.out _ _ (heldH.out _ (b3)) (fun hHeld => ?_)
          clear hK K
          try simp only [Act.put, List.setIfInBounds_toArray, List.set_cons_zero, List.set_cons_succ]
          refine wpAnyH_take (i := 15) (oi := { dst := some 41, op := Go.Op.nilCheck (Go.Operand.tmp 26), type := 0, pos := _, after := #[{ on := 0, ground := Go.Ground.data }, { on := 0, ground := Go.Ground.phase }, { on := 1, ground := Go.Ground.phase }, { on := 2, ground := Go.Ground.phase }, { on := 3, ground := Go.Ground.phase }, { on := 4, ground := Go.Ground.phase }, { on := 5, ground := Go.Ground.phase }, { on := 6, ground := Go.Ground.phase }, { on := 7, ground := Go.Ground.phase }, { on := 8, ground := Go.Ground.phase }, { on := 9, ground := Go.Ground.phase }, { on := 10, ground := Go.Ground.phase }, { on := 11, ground := Go.Ground.phase }, { on := 12, ground := Go.Ground.phase }, { on := 13, ground := Go.Ground.phase }, { on := 14, ground := Go.Ground.phase }], guard := none }) (v := .pointer (some ⟨w.heap.size, 0, none⟩)) rfl (by kernel_rfl) (by kernel_rfl) (by kernel_rfl) (fun _ _ _ h => h) (Or.inl ⟨by rfl, fun W hW => by go_simp⟩) (by assumption) ?_
          try simp only [Act.put, List.setIfInBounds_toArray, List.set_cons_zero, List.set_cons_succ]
          refine wpAnyH_take (i := 16) (oi := { dst := some 42, op := Go.Op.fieldAddr 67 (Go.Operand.tmp 41) 0, type := 0, pos := _, after := #[{ on := 15, ground := Go.Ground.data }, { on := 0, ground := Go.Ground.phase }, { on := 1, ground := Go.Ground.phase }, { on := 2, ground := Go.Ground.phase }, { on := 3, ground := Go.Ground.phase }, { on := 4, ground := Go.Ground.phase }, { on := 5, ground := Go.Ground.phase }, { on := 6, ground := Go.Ground.phase }, { on := 7, ground := Go.Ground.phase }, { on := 8, ground := Go.Ground.phase }, { on := 9, ground := Go.Ground.phase }, { on := 10, ground := Go.Ground.phase }, { on := 11, ground := Go.Ground.phase }, { on := 12, ground := Go.Ground.phase }, { on := 13, ground := Go.Ground.phase }, { on := 14, ground := Go.Ground.phase }], guard := none }) (v := .pointer (some ⟨w.heap.size, 0, none⟩)) rfl (by kernel_rfl) (by kernel_rfl) (by kernel_rfl) (fun _ _ _ h => h) (Or.inl ⟨by rfl, fun W hW => by go_simp⟩) (by assumption) ?_
          try simp only [Act.put, List.setIfInBounds_toArray, List.set_cons_zero, List.set_cons_succ]
          refine wpAnyH_ready (rs := [17]) (by kernel_rfl) (by simp) ?_
          refine AllReadyH.cons (o := { dst := none, op := Go.Op.store 64 (Go.Operand.tmp 42) (Go.Operand.tmp 40), type := 0, pos := _, after := #[{ on := 16, ground := Go.Ground.data }, { on := 14, ground := Go.Ground.data }, { on := 14, ground := Go.Ground.chain }, { on := 0, ground := Go.Ground.phase }, { on := 1, ground := Go.Ground.phase }, { on := 2, ground := Go.Ground.phase }, { on := 3, ground := Go.Ground.phase }, { on := 4, ground := Go.Ground.phase }, { on := 5, ground := Go.Ground.phase }, { on := 6, ground := Go.Ground.phase }, { on := 7, ground := Go.Ground.phase }, { on := 8, ground := Go.Ground.phase }, { on := 9, ground := Go.Ground.phase }, { on := 10, ground := Go.Ground.phase }, { on := 11, ground := Go.Ground.phase }, { on := 12, ground := Go.Ground.phase }, { on := 13, ground := Go.Ground.phase }, { on := 14, ground := Go.Ground.phase }], guard := none }) rfl (fun K hK => ?_) AllReadyH.nil
          refine step_store rfl 64 (.tmp 42) (.tmp 40) rfl _ _ rfl rfl _ (rst64 _ _ _ _ _ _ _ _ w3 f1 f2) ?_
          refine hK.out _ _ (heldH.out _ (b4)) (fun hHeld => ?_)
          clear hK K hHeld
          try simp only [Act.put, List.setIfInBounds_toArray, List.set_cons_zero, List.set_cons_succ]
          refine wpAnyH_done (by kernel_rfl) ?_ _
          refine NoPanic.normal ?_
          clear hHeld
          go_wp2
          go_roundw
          case rel => first | exact f3 | ((repeat apply Exists.intro); exact ⟨f3, rfl⟩)
          case measure => first | (simp [intOf]; done) | (simp [intOf]; omega)
    · have k1 : ¬ (k : Int) < (nS : Int) := by omega
      have ek : k = d.sure.length := by rw [← hHS.out]; omega
      subst ek
      rw [List.take_length] at hr
      obtain ⟨gs, cs2, es, hs3, hs4, -, -, -⟩ := own_pos (own_nought hr.rs) h0.pos
      rw [← hHS.out] at es hs3
      subst es
      obtain ⟨nF, hnF⟩ : ∃ nF, nF = min 64 nW := ⟨_, rfl⟩
      obtain ⟨wo, rfl⟩ : ∃ wo, wo = wr := ⟨_, rfl⟩
      go_wp2
      go_loopw [1, 10] (fun kp x wr => ∃ i : Nat, i ≤ nF ∧ kp = .int .u64 ((keep / 2 ^ i : Nat) : Int) ∧ x = .int .i64 (i : Int) ∧ Below w.heap.size w wr ∧ NwX wr w.heap.size w.heap.size (.slice (some ⟨gs, 0, none⟩) nS cs2) P2 (failTo d.sure d.ws keep torn i)) (fun _ x _ => nF - (intOf x).toNat)
      case atStart => exact ⟨0, Nat.zero_le _, by simp, rfl, hw, hr⟩
      case round =>
        clear hr hw hcB
        obtain ⟨i, hi, rfl, rfl, hbr, hr⟩ := hrel
        have hcB := pair_cell (hHh.out wr hbr)
        by_cases hiF : i < nF
        · have j1 : (i : Int) < (nW : Int) := by omega
          have j2 : (i : Int) < 64 := by omega
          have j3 : ¬ nW ≤ i := by omega
          have hid : i < d.ws.length := by rw [← hHW.out]; omega
          obtain ⟨cur, hcur⟩ : ∃ cur, cur = failTo d.sure d.ws keep torn i := ⟨_, rfl⟩
          obtain ⟨K, hK⟩ : ∃ K, K = keep / 2 ^ i := ⟨_, rfl⟩
          have hHK : Hid (K = keep / 2 ^ i) := hK
          have hKl : K < 18446744073709551616 := by rw [hK]; exact Nat.lt_of_le_of_lt (Nat.div_le_self _ _) hkeep
          have hsu := failTo_succ (sure := d.sure) (ws := d.ws) (keep := keep) (torn := torn) hid
          obtain ⟨⟨at_, s⟩, hp⟩ : ∃ p, p = d.ws[i]'hid := ⟨_, rfl⟩
          obtain ⟨hatd, hs64⟩ : at_ < d.sure.length ∧ s.length = 64 := h0.ats (at_, s) (by rw [hp]; exact List.getElem_mem hid)
          have hat : at_ < nS := by rw [hHS.out]; exact hatd
          have hcl : cur.length = nS := by rw [hcur, failTo_len, hHS.out]
          rw [← hp, ← hcur] at hsu
          rw [← hcur] at hr
          rw [← hK]
          have hbit := keep_bit keep i
          rw [← hK] at hbit
          clear hcur hK
          unfold failStep at hsu
          by_cases hb : K % 2 = 1
          · rw [if_pos (by rw [hbit]; exact decide_eq_true hb)] at hsu
            have hb1 : (K : Int) % 2 = 1 := by omega
            have hatl : at_ < cur.length := by rw [hcl]; exact hat
            have hol : (cur.getD at_ []).length = 64 := hr.full.getD hatl
            obtain ⟨gp, cp, hp2, -, hcp, -, -, -⟩ := own_pos (own_nought (hr.ps at_ hatl)) (by omega)
            obtain ⟨gw, cw', ew, -, -, hgwl, -, cws⟩ := own_pos h.rw_ (by omega)
            obtain ⟨rfl, rfl⟩ : aw = some ⟨gw, 0, none⟩ ∧ cw = cw' := by cases ew; exact ⟨rfl, rfl⟩
            clear ew
            obtain ⟨w1, w2⟩ := wsOf_get d.ws Q hid
            obtain ⟨gq, cq, eq, eq1, eq2, hgql, -, cqs⟩ := own_pos (h.qs i hid).1 (by omega)
            have x1 := cws _ _ w1
            have x2 := cws _ _ w2
            rw [← hp] at x1 cqs
            rw [eq] at x2
            have a1 : (at_ : Int) < (nS : Int) := by omega
            have a2 : ¬ nS ≤ at_ := by omega
            obtain ⟨HQ, hHQ⟩ : ∃ HQ : Nat → UInt8 → World → Prop, HQ = fun q y W => W.heap[w.heap.size]? = some (.cells #[.slice (some ⟨gs, 0, none⟩) nS cs2, .slice none 0 0] 67 (0, 0)) ∧ W.heap[B]? = some (.cells #[.slice (some ⟨g, 0, none⟩) nS cs, .slice (some ⟨gw, 0, none⟩) nW cw] 67 (0, 0)) ∧ W.cell? ⟨gw, i * 2, none⟩ = some (.int .i64 (at_ : Int)) ∧ W.cell? ⟨gw, i * 2 + 1, none⟩ = some (.slice (some ⟨gq, 0, none⟩) 64 cq) ∧ W.cell? ⟨gs, at_, none⟩ = some (.slice (some ⟨gp, 0, none⟩) 64 cp) ∧ W.cell? ⟨gq, q, none⟩ = some (.int .u8 (y.toNat : Int)) := ⟨_, rfl⟩
            have heldQ : Hid (∀ (W : World) (l : List Sec) (q : Nat) (y : UInt8), NwX W w.heap.size w.heap.size (.slice (some ⟨gs, 0, none⟩) nS cs2) P2 l → Below w.heap.size w W → l.length = nS → s[q]? = some y → HQ q y W) := by
              intro W l q y hW hbW hl hy
              rw [hHQ]
              refine ⟨hW.head, hHh.out W hbW, (World.cell?_of_block (w := w) (a := ⟨gw, i * 2, none⟩) (hbW.block gw hgwl)).trans x1, (World.cell?_of_block (w := w) (a := ⟨gw, i * 2 + 1, none⟩) (hbW.block gw hgwl)).trans x2, ?_, (World.cell?_of_block (w := w) (a := ⟨gq, q, none⟩) (hbW.block gq hgql)).trans (cqs q _ (by simp [bcells, bv, hy]))⟩
              have := hW.rs
              rw [hl] at this
              rw [← hp2, this.cellAt at_ (by omega)]
              exact rowsOf_get P2 hat
            subst hHQ
            clear w1 w2 x1 x2 cws cqs hp eq
            by_cases htk2 : (i : Int) = torn
            · have htm : tornN torn i = 32 := by unfold tornN; rw [if_pos htk2]
              subst htk2
              obtain ⟨wo2, rfl⟩ : ∃ wo2, wo2 = wr := ⟨_, rfl⟩
              go_wp2
              go_loopw [12] (fun x wq => ∃ q : Nat, q ≤ 32 ∧ x = .int .i64 (q : Int) ∧ Below w.heap.size w wq ∧ NwX wq w.heap.size w.heap.size (.slice (some ⟨gs, 0, none⟩) nS cs2) P2 (cur.set at_ (lay q (cur.getD at_ []) s))) (fun x _ => 32 - (intOf x).toNat)
              case atStart => exact ⟨0, Nat.zero_le _, rfl, hbr, by rw [lay_zero, set_self]; exact hr⟩
              case round =>
                obtain ⟨q, hq, rfl, hbq, hrq⟩ := hrel
                by_cases hqm : q < 32
                · have q1 : (q : Int) < 32 := by omega
                  have q64 : q < 64 := by omega
                  have q2 : (q : Int) < 64 := by omega
                  have q3 : ¬ 64 ≤ q := by omega
                  obtain ⟨y, hy⟩ : ∃ y, y = s.getD q 0 := ⟨_, rfl⟩
                  have hgy : s[q]? = some y := by rw [hy]; simp [show q < s.length by omega]
                  have hlc : at_ < (cur.set at_ (lay q (cur.getD at_ []) s)).length := by rw [List.length_set, hcl]; exact hat
                  obtain ⟨hs1, hgb⟩ := nw_set hrq hlc hp2 q y
                  have hset : (cur.set at_ (lay q (cur.getD at_ []) s)).set at_ (((cur.set at_ (lay q (cur.getD at_ []) s))[at_]'hlc).set q y) = cur.set at_ (lay (q + 1) (cur.getD at_ []) s) := by
                    rw [List.getElem_set_self, List.set_set, hy, lay_set q64 hol hs64]
                  rw [hset] at hs1
                  have hbs : Below w.heap.size w (wr.setCell ⟨gp, q, none⟩ (.int .u8 (y.toNat : Int))) := hbq.setCell (p := ⟨gp, q, none⟩) hgb _
                  have held1 := heldQ.out wr _ q y hrq hbq (by rw [List.length_set, hcl]) hgy
                  have held3 := heldQ.out _ _ q y hs1 hbs (by rw [List.length_set, hcl]) hgy
                  have hpr := hrq.ps at_ hlc
                  rw [hp2] at hpr
                  have hlq : (lay q (cur.getD at_ []) s).length = 64 := lay_len (by omega) hol hs64
                  have old1 : wr.cell? ⟨gp, q, none⟩ = some (.int .u8 (((lay q (cur.getD at_ []) s).getD q 0).toNat : Int)) := by
                    have := hpr.cellAt q (by omega)
                    rw [List.getElem_set_self] at this
                    rw [this]
                    exact bcells_getD (by omega)
                  have st3 := rst8 gp q _ (y.toNat : Int) wr.drew old1 (hpr.frozenAt q)
                  have fin : ∃ q1 : Nat, q1 ≤ 32 ∧ Value.int .i64 ((q : Int) + 1) = .int .i64 (q1 : Int) ∧ Below w.heap.size w (wr.drew.setCell ⟨gp, q, none⟩ (.int .u8 (y.toNat : Int))) ∧ NwX (wr.drew.setCell ⟨gp, q, none⟩ (.int .u8 (y.toNat : Int))) w.heap.size w.heap.size (.slice (some ⟨gs, 0, none⟩) nS cs2) P2 (cur.set at_ (lay q1 (cur.getD at_ []) s)) := ⟨q + 1, by omega, by simp, ⟨hbs.os, hbs.tape, hbs.output, hbs.size, hbs.block⟩, hs1.kept (fun _ _ _ => rfl)⟩
                  clear hs1 hbs hpr old1 hset hrq hbq hlq hr hbr hy hgy
                  go_wp2_with fail
                  refine wp_region_noPanic ?_
                  refine wp_region_held_drew (S := fun W => W.heap[w.heap.size]? = some (.cells #[.slice (some ⟨gs, 0, none⟩) nS cs2, .slice none 0 0] 67 (0, 0)) ∧ W.heap[B]? = some (.cells #[.slice (some ⟨g, 0, none⟩) nS cs, .slice (some ⟨gw, 0, none⟩) nW cw] 67 (0, 0)) ∧ W.cell? ⟨gw, i * 2, none⟩ = some (.int .i64 (at_ : Int)) ∧ W.cell? ⟨gw, i * 2 + 1, none⟩ = some (.slice (some ⟨gq, 0, none⟩) 64 cq) ∧ W.cell? ⟨gs, at_, none⟩ = some (.slice (some ⟨gp, 0, none⟩) 64 cp) ∧ W.cell? ⟨gq, q, none⟩ = some (.int .u8 (y.toNat : Int))) (by kernel_rfl) held1 (fun hHeld => ?_)
                  refine wpAnyH_take (i := 0) (oi := { dst := some 67, op := Go.Op.move (Go.Operand.tmp 8), type := 28, pos := _, after := #[], guard := none }) (v := .pointer (some ⟨w.heap.size, 0, none⟩)) rfl (by kernel_rfl) (by kernel_rfl) (by kernel_rfl) (fun _ _ _ h => h) (Or.inl ⟨by rfl, fun W hW => by go_simp⟩) (by assumption) ?_
                  try simp only [Act.put, List.setIfInBounds_toArray, List.set_cons_zero, List.set_cons_succ]
                  refine wpAnyH_take (i := 1) (oi := { dst := some 68, op := Go.Op.nilCheck (Go.Operand.tmp 67), type := 0, pos := _, after := #[{ on := 0, ground := Go.Ground.data }], guard := none }) (v := .pointer (some ⟨w.heap.size, 0, none⟩)) rfl (by kernel_rfl) (by kernel_rfl) (by kernel_rfl) (fun _ _ _ h => h) (Or.inl ⟨by rfl, fun W hW => by go_simp⟩) (by assumption) ?_
                  try simp only [Act.put, List.setIfInBounds_toArray, List.set_cons_zero, List.set_cons_succ]
                  refine wpAnyH_take (i := 2) (oi := { dst := some 69, op := Go.Op.fieldAddr 67 (Go.Operand.tmp 68) 0, type := 0, pos := _, after := #[{ on := 1, ground := Go.Ground.data }], guard := none }) (v := .pointer (some ⟨w.heap.size, 0, none⟩)) rfl (by kernel_rfl) (by kernel_rfl) (by kernel_rfl) (fun _ _ _ h => h) (Or.inl ⟨by rfl, fun W hW => by go_simp⟩) (by assumption) ?_
                  try simp only [Act.put, List.setIfInBounds_toArray, List.set_cons_zero, List.set_cons_succ]
                  refine wpAnyH_take (i := 3) (oi := { dst := some 70, op := Go.Op.load 64 (Go.Operand.tmp 69), type := 64, pos := _, after := #[{ on := 2, ground := Go.Ground.data }], guard := none }) (v := .slice (some ⟨gs, 0, none⟩) nS cs2) rfl (by kernel_rfl) (by kernel_rfl) (by kernel_rfl) (fun _ _ _ h => h) (yieldsIf_load (by rfl) 64 (.tmp 69) rfl _ _ rfl (fun W hW => rld64 _ _ _ _ _ W (pair_cell hW.1).1)) (by assumption) ?_
                  try simp only [Act.put, List.setIfInBounds_toArray, List.set_cons_zero, List.set_cons_succ]
                  refine wpAnyH_take (i := 4) (oi := { dst := some 71, op := Go.Op.move (Go.Operand.tmp 0), type := 28, pos := _, after := #[], guard := none }) (v := .pointer (some ⟨B, 0, none⟩)) rfl (by kernel_rfl) (by kernel_rfl) (by kernel_rfl) (fun _ _ _ h => h) (Or.inl ⟨by rfl, fun W hW => by go_simp⟩) (by assumption) ?_
                  try simp only [Act.put, List.setIfInBounds_toArray, List.set_cons_zero, List.set_cons_succ]
                  refine wpAnyH_take (i := 5) (oi := { dst := some 72, op := Go.Op.nilCheck (Go.Operand.tmp 71), type := 0, pos := _, after := #[{ on := 4, ground := Go.Ground.data }], guard := none }) (v := .pointer (some ⟨B, 0, none⟩)) rfl (by kernel_rfl) (by kernel_rfl) (by kernel_rfl) (fun _ _ _ h => h) (Or.inl ⟨by rfl, fun W hW => by go_simp⟩) (by assumption) ?_
                  try simp only [Act.put, List.setIfInBounds_toArray, List.set_cons_zero, List.set_cons_succ]
                  refine wpAnyH_take (i := 6) (oi := { dst := some 73, op := Go.Op.fieldAddr 67 (Go.Operand.tmp 72) 1, type := 0, pos := _, after := #[{ on := 5, ground := Go.Ground.data }], guard := none }) (v := .pointer (some ⟨B, 1, none⟩)) rfl (by kernel_rfl) (by kernel_rfl) (by kernel_rfl) (fun _ _ _ h => h) (Or.inl ⟨by rfl, fun W hW => by go_simp⟩) (by assumption) ?_
                  try simp only [Act.put, List.setIfInBounds_toArray, List.set_cons_zero, List.set_cons_succ]
                  refine wpAnyH_take (i := 7) (oi := { dst := some 74, op := Go.Op.load 65 (Go.Operand.tmp 73), type := 65, pos := _, after := #[{ on := 6, ground := Go.Ground.data }], guard := none }) (v := .slice (some ⟨gw, 0, none⟩) nW cw) rfl (by kernel_rfl) (by kernel_rfl) (by kernel_rfl) (fun _ _ _ h => h) (yieldsIf_load (by rfl) 65 (.tmp 73) rfl _ _ rfl (fun W hW => rld65 _ _ _ _ _ W (pair_cell hW.2.1).2)) (by assumption) ?_
                  try simp only [Act.put, List.setIfInBounds_toArray, List.set_cons_zero, List.set_cons_succ]
                  refine wpAnyH_take (i := 8) (oi := { dst := some 75, op := Go.Op.move (Go.Operand.tmp 10), type := 3, pos := _, after := #[], guard := none }) (v := .int .i64 (i : Int)) rfl (by kernel_rfl) (by kernel_rfl) (by kernel_rfl) (fun _ _ _ h => h) (Or.inl ⟨by rfl, fun W hW => by go_simp⟩) (by assumption) ?_
                  try simp only [Act.put, List.setIfInBounds_toArray, List.set_cons_zero, List.set_cons_succ]
                  refine wpAnyH_take (i := 9) (oi := { dst := some 76, op := Go.Op.indexAddr 65 (Go.Operand.tmp 74) (Go.Operand.tmp 75), type := 0, pos := _, after := #[{ on := 7, ground := Go.Ground.data }, { on := 8, ground := Go.Ground.data }], guard := none }) (v := .pointer (some ⟨gw, i * 2, none⟩)) rfl (by kernel_rfl) (by kernel_rfl) (by kernel_rfl) (fun _ _ _ h => h) (Or.inl ⟨by rfl, fun W hW => by go_simp⟩) (by assumption) ?_
                  try simp only [Act.put, List.setIfInBounds_toArray, List.set_cons_zero, List.set_cons_succ]
                  refine wpAnyH_take (i := 10) (oi := { dst := some 77, op := Go.Op.fieldAddr 78 (Go.Operand.tmp 76) 0, type := 0, pos := _, after := #[{ on := 9, ground := Go.Ground.data }], guard := none }) (v := .pointer (some ⟨gw, i * 2, none⟩)) rfl (by kernel_rfl) (by kernel_rfl) (by kernel_rfl) (fun _ _ _ h => h) (Or.inl ⟨by rfl, fun W hW => by go_simp⟩) (by assumption) ?_
                  try simp only [Act.put, List.setIfInBounds_toArray, List.set_cons_zero, List.set_cons_succ]
                  refine wpAnyH_take (i := 11) (oi := { dst := some 78, op := Go.Op.load 3 (Go.Operand.tmp 77), type := 3, pos := _, after := #[{ on := 10, ground := Go.Ground.data }], guard := none }) (v := .int .i64 (at_ : Int)) rfl (by kernel_rfl) (by kernel_rfl) (by kernel_rfl) (fun _ _ _ h => h) (yieldsIf_load (by rfl) 3 (.tmp 77) rfl _ _ rfl (fun W hW => rldi _ _ _ W hW.2.2.1)) (by assumption) ?_
                  try simp only [Act.put, List.setIfInBounds_toArray, List.set_cons_zero, List.set_cons_succ]
                  refine wpAnyH_take (i := 12) (oi := { dst := some 79, op := Go.Op.indexAddr 64 (Go.Operand.tmp 70) (Go.Operand.tmp 78), type := 0, pos := _, after := #[{ on := 3, ground := Go.Ground.data }, { on := 11, ground := Go.Ground.data }], guard := none }) (v := .pointer (some ⟨gs, at_, none⟩)) rfl (by kernel_rfl) (by kernel_rfl) (by kernel_rfl) (fun _ _ _ h => h) (Or.inl ⟨by rfl, fun W hW => by go_simp⟩) (by assumption) ?_
                  try simp only [Act.put, List.setIfInBounds_toArray, List.set_cons_zero, List.set_cons_succ]
                  refine wpAnyH_take (i := 13) (oi := { dst := some 80, op := Go.Op.load 45 (Go.Operand.tmp 79), type := 45, pos := _, after := #[{ on := 12, ground := Go.Ground.data }], guard := none }) (v := .slice (some ⟨gp, 0, none⟩) 64 cp) rfl (by kernel_rfl) (by kernel_rfl) (by kernel_rfl) (fun _ _ _ h => h) (yieldsIf_load (by rfl) 45 (.tmp 79) rfl _ _ rfl (fun W hW => rld45 _ _ _ _ _ W hW.2.2.2.2.1)) (by assumption) ?_
                  try simp only [Act.put, List.setIfInBounds_toArray, List.set_cons_zero, List.set_cons_succ]
                  refine wpAnyH_take (i := 14) (oi := { dst := some 81, op := Go.Op.move (Go.Operand.tmp 12), type := 3, pos := _, after := #[], guard := none }) (v := .int .i64 (q : Int)) rfl (by kernel_rfl) (by kernel_rfl) (by kernel_rfl) (fun _ _ _ h => h) (Or.inl ⟨by rfl, fun W hW => by go_simp⟩) (by assumption) ?_
                  try simp only [Act.put, List.setIfInBounds_toArray, List.set_cons_zero, List.set_cons_succ]
                  refine wpAnyH_take (i := 15) (oi := { dst := some 82, op := Go.Op.move (Go.Operand.tmp 0), type := 28, pos := _, after := #[], guard := none }) (v := .pointer (some ⟨B, 0, none⟩)) rfl (by kernel_rfl) (by kernel_rfl) (by kernel_rfl) (fun _ _ _ h => h) (Or.inl ⟨by rfl, fun W hW => by go_simp⟩) (by assumption) ?_
                  try simp only [Act.put, List.setIfInBounds_toArray, List.set_cons_zero, List.set_cons_succ]
                  refine wpAnyH_take (i := 16) (oi := { dst := some 83, op := Go.Op.nilCheck (Go.Operand.tmp 82), type := 0, pos := _, after := #[{ on := 15, ground := Go.Ground.data }], guard := none }) (v := .pointer (some ⟨B, 0, none⟩)) rfl (by kernel_rfl) (by kernel_rfl) (by kernel_rfl) (fun _ _ _ h => h) (Or.inl ⟨by rfl, fun W hW => by go_simp⟩) (by assumption) ?_
                  try simp only [Act.put, List.setIfInBounds_toArray, List.set_cons_zero, List.set_cons_succ]
                  refine wpAnyH_take (i := 17) (oi := { dst := some 84, op := Go.Op.fieldAddr 67 (Go.Operand.tmp 83) 1, type := 0, pos := _, after := #[{ on := 16, ground := Go.Ground.data }], guard := none }) (v := .pointer (some ⟨B, 1, none⟩)) rfl (by kernel_rfl) (by kernel_rfl) (by kernel_rfl) (fun _ _ _ h => h) (Or.inl ⟨by rfl, fun W hW => by go_simp⟩) (by assumption) ?_
                  try simp only [Act.put, List.setIfInBounds_toArray, List.set_cons_zero, List.set_cons_succ]
                  refine wpAnyH_take (i := 18) (oi := { dst := some 85, op := Go.Op.load 65 (Go.Operand.tmp 84), type := 65, pos := _, after := #[{ on := 17, ground := Go.Ground.data }], guard := none }) (v := .slice (some ⟨gw, 0, none⟩) nW cw) rfl (by kernel_rfl) (by kernel_rfl) (by kernel_rfl) (fun _ _ _ h => h) (yieldsIf_load (by rfl) 65 (.tmp 84) rfl _ _ rfl (fun W hW => rld65 _ _ _ _ _ W (pair_cell hW.2.1).2)) (by assumption) ?_
                  try simp only [Act.put, List.setIfInBounds_toArray, List.set_cons_zero, List.set_cons_succ]
                  refine wpAnyH_take (i := 19) (oi := { dst := some 86, op := Go.Op.move (Go.Operand.tmp 10), type := 3, pos := _, after := #[], guard := none }) (v := .int .i64 (i : Int)) rfl (by kernel_rfl) (by kernel_rfl) (by kernel_rfl) (fun _ _ _ h => h) (Or.inl ⟨by rfl, fun W hW => by go_simp⟩) (by assumption) ?_
                  try simp only [Act.put, List.setIfInBounds_toArray, List.set_cons_zero, List.set_cons_succ]
                  refine wpAnyH_take (i := 20) (oi := { dst := some 87, op := Go.Op.indexAddr 65 (Go.Operand.tmp 85) (Go.Operand.tmp 86), type := 0, pos := _, after := #[{ on := 18, ground := Go.Ground.data }, { on := 19, ground := Go.Ground.data }], guard := none }) (v := .pointer (some ⟨gw, i * 2, none⟩)) rfl (by kernel_rfl) (by kernel_rfl) (by kernel_rfl) (fun _ _ _ h => h) (Or.inl ⟨by rfl, fun W hW => by go_simp⟩) (by assumption) ?_
                  try simp only [Act.put, List.setIfInBounds_toArray, List.set_cons_zero, List.set_cons_succ]
                  refine wpAnyH_take (i := 21) (oi := { dst := some 88, op := Go.Op.fieldAddr 78 (Go.Operand.tmp 87) 1, type := 0, pos := _, after := #[{ on := 20, ground := Go.Ground.data }], guard := none }) (v := .pointer (some ⟨gw, i * 2 + 1, none⟩)) rfl (by kernel_rfl) (by kernel_rfl) (by kernel_rfl) (fun _ _ _ h => h) (Or.inl ⟨by rfl, fun W hW => by go_simp⟩) (by assumption) ?_
                  try simp only [Act.put, List.setIfInBounds_toArray, List.set_cons_zero, List.set_cons_succ]
                  refine wpAnyH_take (i := 22) (oi := { dst := some 89, op := Go.Op.load 45 (Go.Operand.tmp 88), type := 45, pos := _, after := #[{ on := 21, ground := Go.Ground.data }], guard := none }) (v := .slice (some ⟨gq, 0, none⟩) 64 cq) rfl (by kernel_rfl) (by kernel_rfl) (by kernel_rfl) (fun _ _ _ h => h) (yieldsIf_load (by rfl) 45 (.tmp 88) rfl _ _ rfl (fun W hW => rld45 _ _ _ _ _ W hW.2.2.2.1)) (by assumption) ?_
                  try simp only [Act.put, List.setIfInBounds_toArray, List.set_cons_zero, List.set_cons_succ]
                  refine wpAnyH_take (i := 23) (oi := { dst := some 90, op := Go.Op.move (Go.Operand.tmp 12), type := 3, pos := _, after := #[], guard := none }) (v := .int .i64 (q : Int)) rfl (by kernel_rfl) (by kernel_rfl) (by kernel_rfl) (fun _ _ _ h => h) (Or.inl ⟨by rfl, fun W hW => by go_simp⟩) (by assumption) ?_
                  try simp only [Act.put, List.setIfInBounds_toArray, List.set_cons_zero, List.set_cons_succ]
                  refine wpAnyH_take (i := 24) (oi := { dst := some 91, op := Go.Op.indexAddr 45 (Go.Operand.tmp 89) (Go.Operand.tmp 90), type := 0, pos := _, after := #[{ on := 22, ground := Go.Ground.data }, { on := 23, ground := Go.Ground.data }], guard := none }) (v := .pointer (some ⟨gq, q, none⟩)) rfl (by kernel_rfl) (by kernel_rfl) (by kernel_rfl) (fun _ _ _ h => h) (Or.inl ⟨by rfl, fun W hW => by go_simp⟩) (by assumption) ?_
                  try simp only [Act.put, List.setIfInBounds_toArray, List.set_cons_zero, List.set_cons_succ]
                  refine wpAnyH_take (i := 25) (oi := { dst := some 92, op := Go.Op.load 5 (Go.Operand.tmp 91), type := 5, pos := _, after := #[{ on := 24, ground := Go.Ground.data }], guard := none }) (v := .int .u8 (y.toNat : Int)) rfl (by kernel_rfl) (by kernel_rfl) (by kernel_rfl) (fun _ _ _ h => h) (yieldsIf_load (by rfl) 5 (.tmp 91) rfl _ _ rfl (fun W hW => rld8 _ _ _ W hW.2.2.2.2.2)) (by assumption) ?_
                  try simp only [Act.put, List.setIfInBounds_toArray, List.set_cons_zero, List.set_cons_succ]
                  refine wpAnyH_take (i := 26) (oi := { dst := some 93, op := Go.Op.indexAddr 45 (Go.Operand.tmp 80) (Go.Operand.tmp 81), type := 0, pos := _, after := #[{ on := 13, ground := Go.Ground.data }, { on := 14, ground := Go.Ground.data }, { on := 0, ground := Go.Ground.phase }, { on := 1, ground := Go.Ground.phase }, { on := 2, ground := Go.Ground.phase }, { on := 3, ground := Go.Ground.phase }, { on := 4, ground := Go.Ground.phase }, { on := 5, ground := Go.Ground.phase }, { on := 6, ground := Go.Ground.phase }, { on := 7, ground := Go.Ground.phase }, { on := 8, ground := Go.Ground.phase }, { on := 9, ground := Go.Ground.phase }, { on := 10, ground := Go.Ground.phase }, { on := 11, ground := Go.Ground.phase }, { on := 12, ground := Go.Ground.phase }, { on := 13, ground := Go.Ground.phase }, { on := 14, ground := Go.Ground.phase }, { on := 15, ground := Go.Ground.phase }, { on := 16, ground := Go.Ground.phase }, { on := 17, ground := Go.Ground.phase }, { on := 18, ground := Go.Ground.phase }, { on := 19, ground := Go.Ground.phase }, { on := 20, ground := Go.Ground.phase }, { on := 21, ground := Go.Ground.phase }, { on := 22, ground := Go.Ground.phase }, { on := 23, ground := Go.Ground.phase }, { on := 24, ground := Go.Ground.phase }, { on := 25, ground := Go.Ground.phase }], guard := none }) (v := .pointer (some ⟨gp, q, none⟩)) rfl (by kernel_rfl) (by kernel_rfl) (by kernel_rfl) (fun _ _ _ h => h) (Or.inl ⟨by rfl, fun W hW => by go_simp⟩) (by assumption) ?_
                  try simp only [Act.put, List.setIfInBounds_toArray, List.set_cons_zero, List.set_cons_succ]
                  refine wpAnyH_ready (rs := [27]) (by kernel_rfl) (by simp) ?_
                  refine AllReadyH.cons (o := { dst := none, op := Go.Op.store 5 (Go.Operand.tmp 93) (Go.Operand.tmp 92), type := 0, pos := _, after := #[{ on := 26, ground := Go.Ground.data }, { on := 25, ground := Go.Ground.data }, { on := 0, ground := Go.Ground.phase }, { on := 1, ground := Go.Ground.phase }, { on := 2, ground := Go.Ground.phase }, { on := 3, ground := Go.Ground.phase }, { on := 4, ground := Go.Ground.phase }, { on := 5, ground := Go.Ground.phase }, { on := 6, ground := Go.Ground.phase }, { on := 7, ground := Go.Ground.phase }, { on := 8, ground := Go.Ground.phase }, { on := 9, ground := Go.Ground.phase }, { on := 10, ground := Go.Ground.phase }, { on := 11, ground := Go.Ground.phase }, { on := 12, ground := Go.Ground.phase }, { on := 13, ground := Go.Ground.phase }, { on := 14, ground := Go.Ground.phase }, { on := 15, ground := Go.Ground.phase }, { on := 16, ground := Go.Ground.phase }, { on := 17, ground := Go.Ground.phase }, { on := 18, ground := Go.Ground.phase }, { on := 19, ground := Go.Ground.phase }, { on := 20, ground := Go.Ground.phase }, { on := 21, ground := Go.Ground.phase }, { on := 22, ground := Go.Ground.phase }, { on := 23, ground := Go.Ground.phase }, { on := 24, ground := Go.Ground.phase }, { on := 25, ground := Go.Ground.phase }], guard := none }) rfl (fun K hK => ?_) AllReadyH.nil
                  refine step_store rfl 5 (.tmp 93) (.tmp 92) rfl _ _ rfl rfl _ st3 ?_
                  refine hK.out _ _ held3 (fun _ => ?_)
                  clear hK K hHeld
                  try simp only [Act.put, List.setIfInBounds_toArray, List.set_cons_zero, List.set_cons_succ]
                  refine wpAnyH_done (by kernel_rfl) ?_ _
                  refine NoPanic.normal ?_
                  go_wp2
                  go_roundw
                  case rel => first | exact fin | ((repeat apply Exists.intro); exact ⟨fin, rfl⟩)
                  case measure => first | (simp [intOf]; done) | (simp [intOf]; omega)
                · have q1 : ¬ (q : Int) < 32 := by omega
                  have eq_ : q = 32 := by omega
                  subst eq_
                  rw [← htm, ← hsu] at hrq
                  have fin : ∃ i1 : Nat, i1 ≤ nF ∧ Value.int .u64 ((K : Int) / 2) = .int .u64 ((keep / 2 ^ i1 : Nat) : Int) ∧ Value.int .i64 ((i : Int) + 1) = .int .i64 (i1 : Int) ∧ Below w.heap.size w wr ∧ NwX wr w.heap.size w.heap.size (.slice (some ⟨gs, 0, none⟩) nS cs2) P2 (failTo d.sure d.ws keep (i : Int) i1) := ⟨i + 1, by omega, by rw [← keep_half, ← hHK.out]; simp, by simp, hbq, hrq⟩
                  clear hrq hbq hr hbr
                  go_wp2
                  go_roundw
                  case rel => first | exact fin | ((repeat apply Exists.intro); exact ⟨fin, rfl⟩)
                  case measure => first | (simp [intOf]; done) | (simp [intOf]; omega)
            · have htk3 : ((i : Int) == torn) = false := by simpa using htk2
              have htm : tornN torn i = 64 := by unfold tornN; rw [if_neg htk2]
              obtain ⟨wo2, rfl⟩ : ∃ wo2, wo2 = wr := ⟨_, rfl⟩
              go_wp2
              go_loopw [12] (fun x wq => ∃ q : Nat, q ≤ 64 ∧ x = .int .i64 (q : Int) ∧ Below w.heap.size w wq ∧ NwX wq w.heap.size w.heap.size (.slice (some ⟨gs, 0, none⟩) nS cs2) P2 (cur.set at_ (lay q (cur.getD at_ []) s))) (fun x _ => 64 - (intOf x).toNat)
              case atStart => exact ⟨0, Nat.zero_le _, rfl, hbr, by rw [lay_zero, set_self]; exact hr⟩
              case round =>
                obtain ⟨q, hq, rfl, hbq, hrq⟩ := hrel
                by_cases hqm : q < 64
                · have q1 : (q : Int) < 64 := by omega
                  have q64 : q < 64 := by omega
                  have q2 : (q : Int) < 64 := by omega
                  have q3 : ¬ 64 ≤ q := by omega
                  obtain ⟨y, hy⟩ : ∃ y, y = s.getD q 0 := ⟨_, rfl⟩
                  have hgy : s[q]? = some y := by rw [hy]; simp [show q < s.length by omega]
                  have hlc : at_ < (cur.set at_ (lay q (cur.getD at_ []) s)).length := by rw [List.length_set, hcl]; exact hat
                  obtain ⟨hs1, hgb⟩ := nw_set hrq hlc hp2 q y
                  have hset : (cur.set at_ (lay q (cur.getD at_ []) s)).set at_ (((cur.set at_ (lay q (cur.getD at_ []) s))[at_]'hlc).set q y) = cur.set at_ (lay (q + 1) (cur.getD at_ []) s) := by
                    rw [List.getElem_set_self, List.set_set, hy, lay_set q64 hol hs64]
                  rw [hset] at hs1
                  have hbs : Below w.heap.size w (wr.setCell ⟨gp, q, none⟩ (.int .u8 (y.toNat : Int))) := hbq.setCell (p := ⟨gp, q, none⟩) hgb _
                  have held1 := heldQ.out wr _ q y hrq hbq (by rw [List.length_set, hcl]) hgy
                  have held3 := heldQ.out _ _ q y hs1 hbs (by rw [List.length_set, hcl]) hgy
                  have hpr := hrq.ps at_ hlc
                  rw [hp2] at hpr
                  have hlq : (lay q (cur.getD at_ []) s).length = 64 := lay_len (by omega) hol hs64
                  have old1 : wr.cell? ⟨gp, q, none⟩ = some (.int .u8 (((lay q (cur.getD at_ []) s).getD q 0).toNat : Int)) := by
                    have := hpr.cellAt q (by omega)
                    rw [List.getElem_set_self] at this
                    rw [this]
                    exact bcells_getD (by omega)
                  have st3 := rst8 gp q _ (y.toNat : Int) wr.drew old1 (hpr.frozenAt q)
                  have fin : ∃ q1 : Nat, q1 ≤ 64 ∧ Value.int .i64 ((q : Int) + 1) = .int .i64 (q1 : Int) ∧ Below w.heap.size w (wr.drew.setCell ⟨gp, q, none⟩ (.int .u8 (y.toNat : Int))) ∧ NwX (wr.drew.setCell ⟨gp, q, none⟩ (.int .u8 (y.toNat : Int))) w.heap.size w.heap.size (.slice (some ⟨gs, 0, none⟩) nS cs2) P2 (cur.set at_ (lay q1 (cur.getD at_ []) s)) := ⟨q + 1, by omega, by simp, ⟨hbs.os, hbs.tape, hbs.output, hbs.size, hbs.block⟩, hs1.kept (fun _ _ _ => rfl)⟩
                  clear hs1 hbs hpr old1 hset hrq hbq hlq hr hbr hy hgy
                  go_wp2_with fail
                  refine wp_region_noPanic ?_
                  refine wp_region_held_drew (S := fun W => W.heap[w.heap.size]? = some (.cells #[.slice (some ⟨gs, 0, none⟩) nS cs2, .slice none 0 0] 67 (0, 0)) ∧ W.heap[B]? = some (.cells #[.slice (some ⟨g, 0, none⟩) nS cs, .slice (some ⟨gw, 0, none⟩) nW cw] 67 (0, 0)) ∧ W.cell? ⟨gw, i * 2, none⟩ = some (.int .i64 (at_ : Int)) ∧ W.cell? ⟨gw, i * 2 + 1, none⟩ = some (.slice (some ⟨gq, 0, none⟩) 64 cq) ∧ W.cell? ⟨gs, at_, none⟩ = some (.slice (some ⟨gp, 0, none⟩) 64 cp) ∧ W.cell? ⟨gq, q, none⟩ = some (.int .u8 (y.toNat : Int))) (by kernel_rfl) held1 (fun hHeld => ?_)
                  refine wpAnyH_take (i := 0) (oi := { dst := some 67, op := Go.Op.move (Go.Operand.tmp 8), type := 28, pos := _, after := #[], guard := none }) (v := .pointer (some ⟨w.heap.size, 0, none⟩)) rfl (by kernel_rfl) (by kernel_rfl) (by kernel_rfl) (fun _ _ _ h => h) (Or.inl ⟨by rfl, fun W hW => by go_simp⟩) (by assumption) ?_
                  try simp only [Act.put, List.setIfInBounds_toArray, List.set_cons_zero, List.set_cons_succ]
                  refine wpAnyH_take (i := 1) (oi := { dst := some 68, op := Go.Op.nilCheck (Go.Operand.tmp 67), type := 0, pos := _, after := #[{ on := 0, ground := Go.Ground.data }], guard := none }) (v := .pointer (some ⟨w.heap.size, 0, none⟩)) rfl (by kernel_rfl) (by kernel_rfl) (by kernel_rfl) (fun _ _ _ h => h) (Or.inl ⟨by rfl, fun W hW => by go_simp⟩) (by assumption) ?_
                  try simp only [Act.put, List.setIfInBounds_toArray, List.set_cons_zero, List.set_cons_succ]
                  refine wpAnyH_take (i := 2) (oi := { dst := some 69, op := Go.Op.fieldAddr 67 (Go.Operand.tmp 68) 0, type := 0, pos := _, after := #[{ on := 1, ground := Go.Ground.data }], guard := none }) (v := .pointer (some ⟨w.heap.size, 0, none⟩)) rfl (by kernel_rfl) (by kernel_rfl) (by kernel_rfl) (fun _ _ _ h => h) (Or.inl ⟨by rfl, fun W hW => by go_simp⟩) (by assumption) ?_
                  try simp only [Act.put, List.setIfInBounds_toArray, List.set_cons_zero, List.set_cons_succ]
                  refine wpAnyH_take (i := 3) (oi := { dst := some 70, op := Go.Op.load 64 (Go.Operand.tmp 69), type := 64, pos := _, after := #[{ on := 2, ground := Go.Ground.data }], guard := none }) (v := .slice (some ⟨gs, 0, none⟩) nS cs2) rfl (by kernel_rfl) (by kernel_rfl) (by kernel_rfl) (fun _ _ _ h => h) (yieldsIf_load (by rfl) 64 (.tmp 69) rfl _ _ rfl (fun W hW => rld64 _ _ _ _ _ W (pair_cell hW.1).1)) (by assumption) ?_
                  try simp only [Act.put, List.setIfInBounds_toArray, List.set_cons_zero, List.set_cons_succ]
                  refine wpAnyH_take (i := 4) (oi := { dst := some 71, op := Go.Op.move (Go.Operand.tmp 0), type := 28, pos := _, after := #[], guard := none }) (v := .pointer (some ⟨B, 0, none⟩)) rfl (by kernel_rfl) (by kernel_rfl) (by kernel_rfl) (fun _ _ _ h => h) (Or.inl ⟨by rfl, fun W hW => by go_simp⟩) (by assumption) ?_
                  try simp only [Act.put, List.setIfInBounds_toArray, List.set_cons_zero, List.set_cons_succ]
                  refine wpAnyH_take (i := 5) (oi := { dst := some 72, op := Go.Op.nilCheck (Go.Operand.tmp 71), type := 0, pos := _, after := #[{ on := 4, ground := Go.Ground.data }], guard := none }) (v := .pointer (some ⟨B, 0, none⟩)) rfl (by kernel_rfl) (by kernel_rfl) (by kernel_rfl) (fun _ _ _ h => h) (Or.inl ⟨by rfl, fun W hW => by go_simp⟩) (by assumption) ?_
                  try simp only [Act.put, List.setIfInBounds_toArray, List.set_cons_zero, List.set_cons_succ]
                  refine wpAnyH_take (i := 6) (oi := { dst := some 73, op := Go.Op.fieldAddr 67 (Go.Operand.tmp 72) 1, type := 0, pos := _, after := #[{ on := 5, ground := Go.Ground.data }], guard := none }) (v := .pointer (some ⟨B, 1, none⟩)) rfl (by kernel_rfl) (by kernel_rfl) (by kernel_rfl) (fun _ _ _ h => h) (Or.inl ⟨by rfl, fun W hW => by go_simp⟩) (by assumption) ?_
                  try simp only [Act.put, List.setIfInBounds_toArray, List.set_cons_zero, List.set_cons_succ]
                  refine wpAnyH_take (i := 7) (oi := { dst := some 74, op := Go.Op.load 65 (Go.Operand.tmp 73), type := 65, pos := _, after := #[{ on := 6, ground := Go.Ground.data }], guard := none }) (v := .slice (some ⟨gw, 0, none⟩) nW cw) rfl (by kernel_rfl) (by kernel_rfl) (by kernel_rfl) (fun _ _ _ h => h) (yieldsIf_load (by rfl) 65 (.tmp 73) rfl _ _ rfl (fun W hW => rld65 _ _ _ _ _ W (pair_cell hW.2.1).2)) (by assumption) ?_
                  try simp only [Act.put, List.setIfInBounds_toArray, List.set_cons_zero, List.set_cons_succ]
                  refine wpAnyH_take (i := 8) (oi := { dst := some 75, op := Go.Op.move (Go.Operand.tmp 10), type := 3, pos := _, after := #[], guard := none }) (v := .int .i64 (i : Int)) rfl (by kernel_rfl) (by kernel_rfl) (by kernel_rfl) (fun _ _ _ h => h) (Or.inl ⟨by rfl, fun W hW => by go_simp⟩) (by assumption) ?_
                  try simp only [Act.put, List.setIfInBounds_toArray, List.set_cons_zero, List.set_cons_succ]
                  refine wpAnyH_take (i := 9) (oi := { dst := some 76, op := Go.Op.indexAddr 65 (Go.Operand.tmp 74) (Go.Operand.tmp 75), type := 0, pos := _, after := #[{ on := 7, ground := Go.Ground.data }, { on := 8, ground := Go.Ground.data }], guard := none }) (v := .pointer (some ⟨gw, i * 2, none⟩)) rfl (by kernel_rfl) (by kernel_rfl) (by kernel_rfl) (fun _ _ _ h => h) (Or.inl ⟨by rfl, fun W hW => by go_simp⟩) (by assumption) ?_
                  try simp only [Act.put, List.setIfInBounds_toArray, List.set_cons_zero, List.set_cons_succ]
                  refine wpAnyH_take (i := 10) (oi := { dst := some 77, op := Go.Op.fieldAddr 78 (Go.Operand.tmp 76) 0, type := 0, pos := _, after := #[{ on := 9, ground := Go.Ground.data }], guard := none }) (v := .pointer (some ⟨gw, i * 2, none⟩)) rfl (by kernel_rfl) (by kernel_rfl) (by kernel_rfl) (fun _ _ _ h => h) (Or.inl ⟨by rfl, fun W hW => by go_simp⟩) (by assumption) ?_
                  try simp only [Act.put, List.setIfInBounds_toArray, List.set_cons_zero, List.set_cons_succ]
                  refine wpAnyH_take (i := 11) (oi := { dst := some 78, op := Go.Op.load 3 (Go.Operand.tmp 77), type := 3, pos := _, after := #[{ on := 10, ground := Go.Ground.data }], guard := none }) (v := .int .i64 (at_ : Int)) rfl (by kernel_rfl) (by kernel_rfl) (by kernel_rfl) (fun _ _ _ h => h) (yieldsIf_load (by rfl) 3 (.tmp 77) rfl _ _ rfl (fun W hW => rldi _ _ _ W hW.2.2.1)) (by assumption) ?_
                  try simp only [Act.put, List.setIfInBounds_toArray, List.set_cons_zero, List.set_cons_succ]
                  refine wpAnyH_take (i := 12) (oi := { dst := some 79, op := Go.Op.indexAddr 64 (Go.Operand.tmp 70) (Go.Operand.tmp 78), type := 0, pos := _, after := #[{ on := 3, ground := Go.Ground.data }, { on := 11, ground := Go.Ground.data }], guard := none }) (v := .pointer (some ⟨gs, at_, none⟩)) rfl (by kernel_rfl) (by kernel_rfl) (by kernel_rfl) (fun _ _ _ h => h) (Or.inl ⟨by rfl, fun W hW => by go_simp⟩) (by assumption) ?_
                  try simp only [Act.put, List.setIfInBounds_toArray, List.set_cons_zero, List.set_cons_succ]
                  refine wpAnyH_take (i := 13) (oi := { dst := some 80, op := Go.Op.load 45 (Go.Operand.tmp 79), type := 45, pos := _, after := #[{ on := 12, ground := Go.Ground.data }], guard := none }) (v := .slice (some ⟨gp, 0, none⟩) 64 cp) rfl (by kernel_rfl) (by kernel_rfl) (by kernel_rfl) (fun _ _ _ h => h) (yieldsIf_load (by rfl) 45 (.tmp 79) rfl _ _ rfl (fun W hW => rld45 _ _ _ _ _ W hW.2.2.2.2.1)) (by assumption) ?_
                  try simp only [Act.put, List.setIfInBounds_toArray, List.set_cons_zero, List.set_cons_succ]
                  refine wpAnyH_take (i := 14) (oi := { dst := some 81, op := Go.Op.move (Go.Operand.tmp 12), type := 3, pos := _, after := #[], guard := none }) (v := .int .i64 (q : Int)) rfl (by kernel_rfl) (by kernel_rfl) (by kernel_rfl) (fun _ _ _ h => h) (Or.inl ⟨by rfl, fun W hW => by go_simp⟩) (by assumption) ?_
                  try simp only [Act.put, List.setIfInBounds_toArray, List.set_cons_zero, List.set_cons_succ]
                  refine wpAnyH_take (i := 15) (oi := { dst := some 82, op := Go.Op.move (Go.Operand.tmp 0), type := 28, pos := _, after := #[], guard := none }) (v := .pointer (some ⟨B, 0, none⟩)) rfl (by kernel_rfl) (by kernel_rfl) (by kernel_rfl) (fun _ _ _ h => h) (Or.inl ⟨by rfl, fun W hW => by go_simp⟩) (by assumption) ?_
                  try simp only [Act.put, List.setIfInBounds_toArray, List.set_cons_zero, List.set_cons_succ]
                  refine wpAnyH_take (i := 16) (oi := { dst := some 83, op := Go.Op.nilCheck (Go.Operand.tmp 82), type := 0, pos := _, after := #[{ on := 15, ground := Go.Ground.data }], guard := none }) (v := .pointer (some ⟨B, 0, none⟩)) rfl (by kernel_rfl) (by kernel_rfl) (by kernel_rfl) (fun _ _ _ h => h) (Or.inl ⟨by rfl, fun W hW => by go_simp⟩) (by assumption) ?_
                  try simp only [Act.put, List.setIfInBounds_toArray, List.set_cons_zero, List.set_cons_succ]
                  refine wpAnyH_take (i := 17) (oi := { dst := some 84, op := Go.Op.fieldAddr 67 (Go.Operand.tmp 83) 1, type := 0, pos := _, after := #[{ on := 16, ground := Go.Ground.data }], guard := none }) (v := .pointer (some ⟨B, 1, none⟩)) rfl (by kernel_rfl) (by kernel_rfl) (by kernel_rfl) (fun _ _ _ h => h) (Or.inl ⟨by rfl, fun W hW => by go_simp⟩) (by assumption) ?_
                  try simp only [Act.put, List.setIfInBounds_toArray, List.set_cons_zero, List.set_cons_succ]
                  refine wpAnyH_take (i := 18) (oi := { dst := some 85, op := Go.Op.load 65 (Go.Operand.tmp 84), type := 65, pos := _, after := #[{ on := 17, ground := Go.Ground.data }], guard := none }) (v := .slice (some ⟨gw, 0, none⟩) nW cw) rfl (by kernel_rfl) (by kernel_rfl) (by kernel_rfl) (fun _ _ _ h => h) (yieldsIf_load (by rfl) 65 (.tmp 84) rfl _ _ rfl (fun W hW => rld65 _ _ _ _ _ W (pair_cell hW.2.1).2)) (by assumption) ?_
                  try simp only [Act.put, List.setIfInBounds_toArray, List.set_cons_zero, List.set_cons_succ]
                  refine wpAnyH_take (i := 19) (oi := { dst := some 86, op := Go.Op.move (Go.Operand.tmp 10), type := 3, pos := _, after := #[], guard := none }) (v := .int .i64 (i : Int)) rfl (by kernel_rfl) (by kernel_rfl) (by kernel_rfl) (fun _ _ _ h => h) (Or.inl ⟨by rfl, fun W hW => by go_simp⟩) (by assumption) ?_
                  try simp only [Act.put, List.setIfInBounds_toArray, List.set_cons_zero, List.set_cons_succ]
                  refine wpAnyH_take (i := 20) (oi := { dst := some 87, op := Go.Op.indexAddr 65 (Go.Operand.tmp 85) (Go.Operand.tmp 86), type := 0, pos := _, after := #[{ on := 18, ground := Go.Ground.data }, { on := 19, ground := Go.Ground.data }], guard := none }) (v := .pointer (some ⟨gw, i * 2, none⟩)) rfl (by kernel_rfl) (by kernel_rfl) (by kernel_rfl) (fun _ _ _ h => h) (Or.inl ⟨by rfl, fun W hW => by go_simp⟩) (by assumption) ?_
                  try simp only [Act.put, List.setIfInBounds_toArray, List.set_cons_zero, List.set_cons_succ]
                  refine wpAnyH_take (i := 21) (oi := { dst := some 88, op := Go.Op.fieldAddr 78 (Go.Operand.tmp 87) 1, type := 0, pos := _, after := #[{ on := 20, ground := Go.Ground.data }], guard := none }) (v := .pointer (some ⟨gw, i * 2 + 1, none⟩)) rfl (by kernel_rfl) (by kernel_rfl) (by kernel_rfl) (fun _ _ _ h => h) (Or.inl ⟨by rfl, fun W hW => by go_simp⟩) (by assumption) ?_
                  try simp only [Act.put, List.setIfInBounds_toArray, List.set_cons_zero, List.set_cons_succ]
                  refine wpAnyH_take (i := 22) (oi := { dst := some 89, op := Go.Op.load 45 (Go.Operand.tmp 88), type := 45, pos := _, after := #[{ on := 21, ground := Go.Ground.data }], guard := none }) (v := .slice (some ⟨gq, 0, none⟩) 64 cq) rfl (by kernel_rfl) (by kernel_rfl) (by kernel_rfl) (fun _ _ _ h => h) (yieldsIf_load (by rfl) 45 (.tmp 88) rfl _ _ rfl (fun W hW => rld45 _ _ _ _ _ W hW.2.2.2.1)) (by assumption) ?_
                  try simp only [Act.put, List.setIfInBounds_toArray, List.set_cons_zero, List.set_cons_succ]
                  refine wpAnyH_take (i := 23) (oi := { dst := some 90, op := Go.Op.move (Go.Operand.tmp 12), type := 3, pos := _, after := #[], guard := none }) (v := .int .i64 (q : Int)) rfl (by kernel_rfl) (by kernel_rfl) (by kernel_rfl) (fun _ _ _ h => h) (Or.inl ⟨by rfl, fun W hW => by go_simp⟩) (by assumption) ?_
                  try simp only [Act.put, List.setIfInBounds_toArray, List.set_cons_zero, List.set_cons_succ]
                  refine wpAnyH_take (i := 24) (oi := { dst := some 91, op := Go.Op.indexAddr 45 (Go.Operand.tmp 89) (Go.Operand.tmp 90), type := 0, pos := _, after := #[{ on := 22, ground := Go.Ground.data }, { on := 23, ground := Go.Ground.data }], guard := none }) (v := .pointer (some ⟨gq, q, none⟩)) rfl (by kernel_rfl) (by kernel_rfl) (by kernel_rfl) (fun _ _ _ h => h) (Or.inl ⟨by rfl, fun W hW => by go_simp⟩) (by assumption) ?_
                  try simp only [Act.put, List.setIfInBounds_toArray, List.set_cons_zero, List.set_cons_succ]
                  refine wpAnyH_take (i := 25) (oi := { dst := some 92, op := Go.Op.load 5 (Go.Operand.tmp 91), type := 5, pos := _, after := #[{ on := 24, ground := Go.Ground.data }], guard := none }) (v := .int .u8 (y.toNat : Int)) rfl (by kernel_rfl) (by kernel_rfl) (by kernel_rfl) (fun _ _ _ h => h) (yieldsIf_load (by rfl) 5 (.tmp 91) rfl _ _ rfl (fun W hW => rld8 _ _ _ W hW.2.2.2.2.2)) (by assumption) ?_
                  try simp only [Act.put, List.setIfInBounds_toArray, List.set_cons_zero, List.set_cons_succ]
                  refine wpAnyH_take (i := 26) (oi := { dst := some 93, op := Go.Op.indexAddr 45 (Go.Operand.tmp 80) (Go.Operand.tmp 81), type := 0, pos := _, after := #[{ on := 13, ground := Go.Ground.data }, { on := 14, ground := Go.Ground.data }, { on := 0, ground := Go.Ground.phase }, { on := 1, ground := Go.Ground.phase }, { on := 2, ground := Go.Ground.phase }, { on := 3, ground := Go.Ground.phase }, { on := 4, ground := Go.Ground.phase }, { on := 5, ground := Go.Ground.phase }, { on := 6, ground := Go.Ground.phase }, { on := 7, ground := Go.Ground.phase }, { on := 8, ground := Go.Ground.phase }, { on := 9, ground := Go.Ground.phase }, { on := 10, ground := Go.Ground.phase }, { on := 11, ground := Go.Ground.phase }, { on := 12, ground := Go.Ground.phase }, { on := 13, ground := Go.Ground.phase }, { on := 14, ground := Go.Ground.phase }, { on := 15, ground := Go.Ground.phase }, { on := 16, ground := Go.Ground.phase }, { on := 17, ground := Go.Ground.phase }, { on := 18, ground := Go.Ground.phase }, { on := 19, ground := Go.Ground.phase }, { on := 20, ground := Go.Ground.phase }, { on := 21, ground := Go.Ground.phase }, { on := 22, ground := Go.Ground.phase }, { on := 23, ground := Go.Ground.phase }, { on := 24, ground := Go.Ground.phase }, { on := 25, ground := Go.Ground.phase }], guard := none }) (v := .pointer (some ⟨gp, q, none⟩)) rfl (by kernel_rfl) (by kernel_rfl) (by kernel_rfl) (fun _ _ _ h => h) (Or.inl ⟨by rfl, fun W hW => by go_simp⟩) (by assumption) ?_
                  try simp only [Act.put, List.setIfInBounds_toArray, List.set_cons_zero, List.set_cons_succ]
                  refine wpAnyH_ready (rs := [27]) (by kernel_rfl) (by simp) ?_
                  refine AllReadyH.cons (o := { dst := none, op := Go.Op.store 5 (Go.Operand.tmp 93) (Go.Operand.tmp 92), type := 0, pos := _, after := #[{ on := 26, ground := Go.Ground.data }, { on := 25, ground := Go.Ground.data }, { on := 0, ground := Go.Ground.phase }, { on := 1, ground := Go.Ground.phase }, { on := 2, ground := Go.Ground.phase }, { on := 3, ground := Go.Ground.phase }, { on := 4, ground := Go.Ground.phase }, { on := 5, ground := Go.Ground.phase }, { on := 6, ground := Go.Ground.phase }, { on := 7, ground := Go.Ground.phase }, { on := 8, ground := Go.Ground.phase }, { on := 9, ground := Go.Ground.phase }, { on := 10, ground := Go.Ground.phase }, { on := 11, ground := Go.Ground.phase }, { on := 12, ground := Go.Ground.phase }, { on := 13, ground := Go.Ground.phase }, { on := 14, ground := Go.Ground.phase }, { on := 15, ground := Go.Ground.phase }, { on := 16, ground := Go.Ground.phase }, { on := 17, ground := Go.Ground.phase }, { on := 18, ground := Go.Ground.phase }, { on := 19, ground := Go.Ground.phase }, { on := 20, ground := Go.Ground.phase }, { on := 21, ground := Go.Ground.phase }, { on := 22, ground := Go.Ground.phase }, { on := 23, ground := Go.Ground.phase }, { on := 24, ground := Go.Ground.phase }, { on := 25, ground := Go.Ground.phase }], guard := none }) rfl (fun K hK => ?_) AllReadyH.nil
                  refine step_store rfl 5 (.tmp 93) (.tmp 92) rfl _ _ rfl rfl _ st3 ?_
                  refine hK.out _ _ held3 (fun _ => ?_)
                  clear hK K hHeld
                  try simp only [Act.put, List.setIfInBounds_toArray, List.set_cons_zero, List.set_cons_succ]
                  refine wpAnyH_done (by kernel_rfl) ?_ _
                  refine NoPanic.normal ?_
                  go_wp2
                  go_roundw
                  case rel => first | exact fin | ((repeat apply Exists.intro); exact ⟨fin, rfl⟩)
                  case measure => first | (simp [intOf]; done) | (simp [intOf]; omega)
                · have q1 : ¬ (q : Int) < 64 := by omega
                  have eq_ : q = 64 := by omega
                  subst eq_
                  rw [← htm, ← hsu] at hrq
                  have fin : ∃ i1 : Nat, i1 ≤ nF ∧ Value.int .u64 ((K : Int) / 2) = .int .u64 ((keep / 2 ^ i1 : Nat) : Int) ∧ Value.int .i64 ((i : Int) + 1) = .int .i64 (i1 : Int) ∧ Below w.heap.size w wr ∧ NwX wr w.heap.size w.heap.size (.slice (some ⟨gs, 0, none⟩) nS cs2) P2 (failTo d.sure d.ws keep torn i1) := ⟨i + 1, by omega, by rw [← keep_half, ← hHK.out]; simp, by simp, hbq, hrq⟩
                  clear hrq hbq hr hbr
                  go_wp2
                  go_roundw
                  case rel => first | exact fin | ((repeat apply Exists.intro); exact ⟨fin, rfl⟩)
                  case measure => first | (simp [intOf]; done) | (simp [intOf]; omega)
          · rw [if_neg (by rw [hbit]; simpa using hb)] at hsu
            have hb1 : (K : Int) % 2 = 0 := by omega
            rw [← hsu] at hr
            have fin : ∃ i1 : Nat, i1 ≤ nF ∧ Value.int .u64 ((K : Int) / 2) = .int .u64 ((keep / 2 ^ i1 : Nat) : Int) ∧ Value.int .i64 ((i : Int) + 1) = .int .i64 (i1 : Int) ∧ Below w.heap.size w wr ∧ NwX wr w.heap.size w.heap.size (.slice (some ⟨gs, 0, none⟩) nS cs2) P2 (failTo d.sure d.ws keep torn i1) := ⟨i + 1, by omega, by rw [← keep_half, ← hHK.out]; simp, by simp, hbr, hr⟩
            clear hr hbr
            go_wp2
            go_roundw
            case rel => first | exact fin | ((repeat apply Exists.intro); exact ⟨fin, rfl⟩)
            case measure => first | (simp [intOf]; done) | (simp [intOf]; omega)
        · have ei : i = min 64 d.ws.length := by rw [← hHW.out]; omega
          have f1 : RfAt wr w.heap.size (fun x => w.heap.size ≤ x ∧ x < wr.heap.size) (d.fail keep torn) := by
            rw [ei] at hr
            exact hr.disk (by rw [failTo_len]; exact h0.pos) (by rw [failTo_len]; exact h0.max)
          clear hr
          by_cases hiW : i < nW
          · have j1 : (i : Int) < (nW : Int) := by omega
            have j2 : ¬ (i : Int) < 64 := by omega
            go_wp2
            go_ret2
            exact ⟨rfl, hbr, f1⟩
          · have j1 : ¬ (i : Int) < (nW : Int) := by omega
            go_wp2
            go_ret2
            exact ⟨rfl, hbr, f1⟩
end Go.Proofs.YthnkakjelhnjdaaGreatDoor
