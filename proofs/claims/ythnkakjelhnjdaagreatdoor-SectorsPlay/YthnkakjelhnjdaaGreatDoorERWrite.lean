/- The walk of the document's own Write. -/
import Derived.Test.YthnkakjelhnjdaaGreatDoorERef
import Derived.Test.YthnkakjelhnjdaaGreatDoorDSeen
import Derived.LoopTactic
set_option linter.unusedSimpArgs false
set_option linter.unusedVariables false
namespace Go.Proofs.YthnkakjelhnjdaaGreatDoor
open Go.RowKit Go.Maps

/-- The first j bytes, and noughts behind them. -/
def padJ (b : List UInt8) (j : Nat) : Sec := b.take j ++ List.replicate (64 - j) 0
theorem padJ_len {b : List UInt8} {j : Nat} (hj : j ≤ b.length) (hb : b.length ≤ 64) : (padJ b j).length = 64 := by simp [padJ]; omega
theorem padJ_zero (b : List UInt8) : padJ b 0 = z64 := by simp [padJ, z64]
theorem padJ_all (b : List UInt8) : padJ b b.length = pad b := by simp [padJ, pad]
theorem padJ_set {b : List UInt8} {j : Nat} (hj : j < b.length) (hb : b.length ≤ 64) : (padJ b j).set j (b[j]'hj) = padJ b (j + 1) := by
  unfold padJ
  rw [List.set_append_right _ _ (by simp; omega)]
  have h1 : j - (b.take j).length = 0 := by simp; omega
  rw [h1, show 64 - j = (64 - (j + 1)) + 1 by omega, List.replicate_succ, List.set_cons_zero, List.take_succ_eq_append_getElem hj, List.append_assoc]
  rfl
theorem set_bcells (s : Sec) (j : Nat) (c : UInt8) : (bcells s).toArray.setIfInBounds j (.int .u8 (c.toNat : Int)) = (bcells (s.set j c)).toArray := by
  apply Array.ext'
  simp only [List.setIfInBounds_toArray]
  unfold bcells
  rw [List.map_set]
  rfl
theorem info_rwrite : (Tryz.prog.info? 78).map (fun i => (i.zero, i.size, i.bytes)) = some (some (.agg #[.int .i64 0, .slice none 0 0]), 2, 32) := by kernel_rfl
theorem made_z64 : madeCells #[.int .u8 0] 64 = (bcells z64).toArray := by
  unfold z64
  rw [bcells, List.map_replicate]
  kernel_rfl
theorem own_row64 {w : World} {p : Nat} {s : Sec} (hs : s.length = 64) (r : w.heap[p]? = some (.cells (bcells s).toArray 5 (0, 0))) : w.ownsRow 0 5 1 (.slice (some ⟨p, 0, none⟩) 64 64) 64 (bcells s) := by
  refine ⟨by rw [bcells_len, hs], .inr ⟨p, 64, _, rfl, Nat.zero_le _, r, Nat.le_refl _, by decide, by simp [bcells_len, hs], ?_⟩⟩
  exact List.take_of_length_le (by simp [bcells_len, hs])
/-- A write is put behind the others. -/
theorem rf_snoc {w w1 w2 : World} {B p : Nat} {S : Nat → Prop} {vs vw v' : Value} {P Q : Nat → Value} {d : Dk} {i : Nat} {s : Sec} (h : RfX w B S vs vw P Q d) (hi : i < d.sure.length) (hs : s.length = 64) (hb : Below w.heap.size w w1) (hp : w.heap.size ≤ p) (r : w1.heap[p]? = some (.cells (bcells s).toArray 5 (0, 0)))
    (ho : w2.ownsRow 0 78 2 v' (d.ws.length + 1) (wsOf d.ws Q ++ [.int .i64 (i : Int), .slice (some ⟨p, 0, none⟩) 64 64])) (hg : w1.grownBy w2 vw.ownBlock) (hlv : v'.ownBlock = vw.ownBlock ∨ v'.ownBlock = some w1.heap.size) :
    w2.heap[B]? = some (.cells #[vs, vw] 67 (0, 0)) ∧ RfAt (w2.setCell ⟨B, 1, none⟩ v') B (fun x => S x ∨ x = p ∨ v'.ownBlock = some x) { d with ws := d.ws ++ [(i, s)] } ∧ Wrote S w (w2.setCell ⟨B, 1, none⟩ v') ∧ ∀ x, (S x ∨ x = p ∨ v'.ownBlock = some x) → S x ∨ w.heap.size ≤ x := by
  have h1 : RfX w1 B S vs vw P Q d := h.kept (fun x hx => hb.block x (h.lt x hx)) hb.size
  have hpl : p < w1.heap.size := lt_of_block r
  have nB : vw.ownBlock ≠ some B := own_ne_block h1.rw_ h1.head (by decide)
  have np : vw.ownBlock ≠ some p := own_ne_block h1.rw_ r (by decide)
  have hB2 : w2.heap[B]? = some (.cells #[vs, vw] 67 (0, 0)) := (hg.block B (h1.lt B h1.sB) (fun e => nB e.symm)).trans h1.head
  have hp2 := (hg.block p hpl (fun e => np e.symm)).trans r
  have npB : p ≠ B := fun e => by rw [e] at hp2; rw [hB2] at hp2; exact absurd (Obj.cells.inj (Option.some.inj hp2)).2.1 (by decide)
  have o3 : ∀ x, x ≠ B → (w2.setCell ⟨B, 1, none⟩ v').heap[x]? = w2.heap[x]? := fun x hx => Below.heap_setCell _ _ _ _ (fun e => hx (by simp at e; exact e))
  have hB3 : (w2.setCell ⟨B, 1, none⟩ v').heap[B]? = some (.cells #[vs, v'] 67 (0, 0)) := by
    have := heap_setCell_same w2 B 1 _ _ v' hB2
    simpa using this
  have k3 : ∀ {e : TypeId} {sz n : Nat} {v : Value} {xs : List Value}, w1.ownsRow 0 e sz v n xs → 78 ≠ e → e ≠ 67 → (w2.setCell ⟨B, 1, none⟩ v').ownsRow 0 e sz v n xs := by
    intro e sz n v xs hv n1 n2
    refine own_kept hv (fun b eb => ?_)
    have hbl := (hv.lt b eb).2
    rw [o3 b (fun e' => own_ne_block hv h1.head n2 (by rw [eb, e']))]
    exact hg.block b hbl (fun e' => own_ne h1.rw_ hv n1 e'.symm eb)
  have hvB : v'.ownBlock ≠ some B := own_ne_block ho hB2 (by decide)
  have hz1 := hb.size
  have hz2 := hg.size
  have hz3 : (w2.setCell ⟨B, 1, none⟩ v').heap.size = w2.heap.size := by simp [World.setCell]
  have hvl : ∀ x, v'.ownBlock = some x → S x ∨ w.heap.size ≤ x := by
    intro x e
    rcases hlv with e1 | e1
    · exact .inl (h.sW x (by rw [← e1]; exact e))
    · rw [e1] at e
      cases e
      exact .inr hz1
  refine ⟨hB2, ⟨vs, v', P, fun j => if j = d.ws.length then .slice (some ⟨p, 0, none⟩) 64 64 else Q j, ⟨?_, hB3, k3 h1.rs (by decide) (by decide), ?_, ?_, ?_, .inl h.sB, fun b e => .inl (h.sS b e), fun b e => .inr (.inr e), ?_⟩⟩, ?_, ?_⟩
  · refine ⟨h.ok.pos, h.ok.max, h.ok.len, fun q hq => ?_⟩
    simp only [List.mem_append, List.mem_singleton] at hq
    rcases hq with hq | rfl
    · exact h.ok.ats q hq
    · exact ⟨hi, hs⟩
  · rw [wsOf_snoc]
    simp only [List.length_append, List.length_singleton]
    exact own_kept ho (fun b e => o3 b (fun e' => hvB (by rw [e, e'])))
  · intro k hk
    exact ⟨k3 (h1.ps k hk).1 (by decide) (by decide), fun b e => .inl ((h.ps k hk).2 b e)⟩
  · intro j hj
    simp only [List.length_append, List.length_singleton] at hj
    by_cases ej : j = d.ws.length
    · subst ej
      simp only [if_pos rfl, List.getElem_append_right (Nat.le_refl _), Nat.sub_self, List.getElem_cons_zero]
      refine ⟨own_row64 hs ((o3 p npB).trans hp2), fun b e => ?_⟩
      cases e
      exact .inr (.inl rfl)
    · have hj' : j < d.ws.length := by omega
      simp only [if_neg ej, List.getElem_append_left hj']
      exact ⟨k3 (h1.qs j hj').1 (by decide) (by decide), fun b e => .inl ((h.qs j hj').2 b e)⟩
  · intro b hb'
    rw [hz3]
    rcases hb' with e | rfl | e
    · have := h.lt b e
      omega
    · omega
    · exact (ho.lt b e).2
  · exact ((Wrote.of_below hb).trans (Wrote.grown hg (fun k e _ => h.sW k e))).trans (Wrote.set _ _ _ _ h.sB)
  · intro x hx
    rcases hx with e | rfl | e
    · exact .inl e
    · exact .inr hp
    · exact hvl x e
set_option maxRecDepth 1000000 in
theorem rwrite_bad {w : World} {B : Nat} {S : Nat → Prop} {d : Dk} (h : RfAt w B S d) (i : Int) (ao : Option Addr) (n c : Nat) (hn : n ≤ 9223372036854775807) (hi : (i < 0 ∨ (d.sure.length : Int) ≤ i) ∨ 64 < n) :
    Calls Tryz.prog 9 #[.pointer (some ⟨B, 0, none⟩), .int .i64 i, .slice ao n c] w fun e w' => e = .returned (.int .i64 1) ∧ w = w' := by
  have hmax := h.ok.max
  obtain ⟨vs, vw, P, Q, h⟩ := h
  obtain ⟨as0, cs, hv, -, -⟩ := own_len' h.rs
  have hc := (pair_cell h.head).1
  rw [hv] at hc
  clear h
  generalize d.sure.length = nS at *
  by_cases h1 : i < 0
  · clear hi
    go_enter Tryz.func9, Tryz.ntmps9
    go_wp2
    go_ret
    exact ⟨rfl, rfl⟩
  · by_cases h2 : (nS : Int) ≤ i
    · clear hi
      go_enter Tryz.func9, Tryz.ntmps9
      go_wp2
      go_ret
      exact ⟨rfl, rfl⟩
    · have h3 : (64 : Int) < (n : Int) := by omega
      clear hi
      go_enter Tryz.func9, Tryz.ntmps9
      go_wp2
      go_ret
      exact ⟨rfl, rfl⟩
set_option maxHeartbeats 4000000 in
set_option maxRecDepth 1000000 in
theorem rwrite_ok {w : World} {B : Nat} {S : Nat → Prop} {d : Dk} (h : RfAt w B S d) (i : Nat) (hi : i < d.sure.length) (v : Value) (b : List UInt8) (hb : InAt w w.heap.size v b) (hl : b.length ≤ 64) (hn : d.ws.length ≤ 1000000) :
    Calls Tryz.prog 9 #[.pointer (some ⟨B, 0, none⟩), .int .i64 (i : Int), v] w fun e w' =>
      e = .returned (.int .i64 0) ∧ ∃ S', RfAt w' B S' (d.write i b) ∧ Wrote S w w' ∧ ∀ x, S' x → S x ∨ w.heap.size ≤ x := by
  have hmax := h.ok.max
  have hlt := h.lt
  obtain ⟨vs, vw, P, Q, h⟩ := h
  obtain ⟨i0, hii, hz0, hz1, hz2⟩ := info_parts info_rwrite
  obtain ⟨as0, cs, hvs, -, -⟩ := own_len' h.rs
  obtain ⟨aw, cw, hvw, -, -⟩ := own_len' h.rw_
  obtain ⟨nS, hnS⟩ : ∃ nS, nS = d.sure.length := ⟨_, rfl⟩
  obtain ⟨nW, hnW⟩ : ∃ nW, nW = d.ws.length := ⟨_, rfl⟩
  have q0 := h.head
  rw [hvs, hvw, ← hnS, ← hnW] at q0
  have hB : B < w.heap.size := lt_of_block q0
  have hc0 := (pair_cell q0).1
  obtain ⟨ao, vc, ev, hvc, hvm, -⟩ := id hb
  subst ev
  unfold maxLen at hvm
  have i1 : ¬ (i : Int) < 0 := by omega
  have i2 : ¬ (nS : Int) ≤ (i : Int) := by omega
  have i3 : ¬ (64 : Int) < (b.length : Int) := by omega
  have hHS : Hid (nS = d.sure.length) := hnS
  have hHW : Hid (nW = d.ws.length) := hnW
  have hHvs : Hid (vs = .slice as0 nS cs) := by rw [hnS]; exact hvs
  have hHvw : Hid (vw = .slice aw nW cw) := by rw [hnW]; exact hvw
  have hmk : ∀ W : World, (Instr.makeSlice 45 (.int .i64 64) (.int .i64 64)).run Tryz.prog W = .ok (.slice (some ⟨W.heap.size, 0, none⟩) 64 64) (W.alloc (.cells (bcells z64).toArray 5)) := fun W => by
    rw [← made_z64]
    exact run_make_row' 45 5 (.int .u8 0) 1 Tryz.underlying45 info_u8 rfl .i64 .i64 64 (by omega) (by omega) W
  clear hvs hvw hnS hnW
  go_enter Tryz.func9, Tryz.ntmps9
  go_wp2
  have b1 := below_one w (.cells (bcells z64).toArray 5)
  have r1 := heap_alloc_last w (.cells (bcells z64).toArray 5)
  go_loopw [8] (fun x wr => ∃ j : Nat, j ≤ b.length ∧ x = .int .i64 (j : Int) ∧ wr.heap[w.heap.size]? = some (.cells (bcells (padJ b j)).toArray 5 (0, 0)) ∧ Below w.heap.size w wr) (fun x _ => b.length - (intOf x).toNat)
  case atStart => exact ⟨0, Nat.zero_le _, rfl, by rw [padJ_zero]; exact r1, b1⟩
  case round =>
    obtain ⟨j, hj, rfl, r, hbr⟩ := hrel
    by_cases hjb : j < b.length
    · obtain ⟨bb, ob, rfl, hbb, hcb⟩ := in_cell hb hjb
      have c1 : wr.cell? ⟨bb, ob + j, none⟩ = some (.int .u8 ((b[j]'hjb).toNat : Int)) := by
        rw [World.cell?_of_block (w := w) (hbr.block bb hbb)]
        exact hcb j hjb
      have hst : (wr.setCell ⟨w.heap.size, j, none⟩ (.int .u8 ((b[j]'hjb).toNat : Int))).heap[w.heap.size]? = some (.cells (bcells (padJ b (j + 1))).toArray 5 (0, 0)) := by
        rw [heap_setCell_same wr w.heap.size j _ _ _ r, set_bcells, padJ_set hjb hl]
      have hbs : Below w.heap.size w (wr.setCell ⟨w.heap.size, j, none⟩ (.int .u8 ((b[j]'hjb).toNat : Int))) := ((Chg.refl [w.heap.size] wr).setCell (.inl (by simp)) _).to_below hbr hbr.size (fun x hx => by simp at hx; omega)
      have c2 : wr.cell? ⟨w.heap.size, j, none⟩ = some (.int .u8 (((padJ b j).getD j 0).toNat : Int)) := row_cell r (by
        have : j < (padJ b j).length := by rw [padJ_len (by omega) hl]; omega
        simp [this])
      have f2 := box_frozen (i := j) r
      have j1 : (j : Int) < (b.length : Int) := by omega
      have j2 : (j : Int) < 64 := by omega
      clear hcb r
      generalize b[j]'hjb = y at *
      generalize (padJ b j).getD j 0 = yo at *
      go_wp2
      go_roundw
      case rel => exact ⟨j + 1, by omega, by go_num, hst, hbs⟩
      case measure => simp [intOf]; omega
    · have ej : j = b.length := by omega
      have j1 : ¬ (j : Int) < (b.length : Int) := by omega
      rw [ej, padJ_all] at r
      have hp64 := pad_len hl
      obtain ⟨wo, rfl⟩ : ∃ wo, wo = wr := ⟨_, rfl⟩
      have q1 := (hbr.block B hB).trans q0
      have x1 := (pair_cell q1).2
      have hbw := below_one wo (.cells #[.int .i64 (i : Int), .slice (some ⟨w.heap.size, 0, none⟩) 64 64] 78)
      have ow : (wo.alloc (.cells #[.int .i64 (i : Int), .slice (some ⟨w.heap.size, 0, none⟩) 64 64] 78)).ownsRow 0 78 2 (.slice aw nW cw) nW (wsOf d.ws Q) := by
        have := own_kept h.rw_ (w' := wo) (fun x e => hbr.block x (hlt x (h.sW x e)))
        rw [hHvw.out, ← hHW.out] at this
        exact own_below this hbw
      have src : Src Tryz.prog 2 65 (.slice (some ⟨wo.heap.size, 0, none⟩) 1 1) 1 [.int .i64 (i : Int), .slice (some ⟨w.heap.size, 0, none⟩) 64 64] (wo.alloc (.cells #[.int .i64 (i : Int), .slice (some ⟨w.heap.size, 0, none⟩) 64 64] 78)) := Src.ofSlice _ Tryz.underlying65 _ _ _ _ rfl (news_ofv _ _) (by intro u hu; simp at hu; rcases hu with rfl | rfl <;> rfl)
      have hnW6 : nW ≤ 1000000 := by have := hHW.out; omega
      have hbn : Below w.heap.size w (wo.alloc (.cells #[.int .i64 (i : Int), .slice (some ⟨w.heap.size, 0, none⟩) 64 64] 78)) := hbr.alloc hbr.size _
      have rn := (hbw.block w.heap.size (lt_of_block r)).trans r
      have finH : Hid (∀ (v' : Value) (w2 : World), w2.ownsRow 0 78 2 v' (nW + 1) (wsOf d.ws Q ++ [.int .i64 (i : Int), .slice (some ⟨w.heap.size, 0, none⟩) 64 64]) → (wo.alloc (.cells #[.int .i64 (i : Int), .slice (some ⟨w.heap.size, 0, none⟩) 64 64] 78)).grownBy w2 (Value.ownBlock (.slice aw nW cw)) → (v'.ownBlock = Value.ownBlock (.slice aw nW cw) ∨ v'.ownBlock = some (wo.alloc (.cells #[.int .i64 (i : Int), .slice (some ⟨w.heap.size, 0, none⟩) 64 64] 78)).heap.size) →
          (∃ a' c', v' = .slice a' (nW + 1) c') ∧ w2.cell? ⟨B, 1, none⟩ = some (.slice aw nW cw) ∧ w2.frozen? ⟨B, 1, none⟩ = false ∧ ∃ S', RfAt (w2.setCell ⟨B, 1, none⟩ v') B S' (d.write i b) ∧ Wrote S w (w2.setCell ⟨B, 1, none⟩ v') ∧ ∀ x, S' x → S x ∨ w.heap.size ≤ x) := by
        intro v' w2 h1 h2 h3
        have h1' := h1
        rw [hHW.out] at h1'
        rw [← hHvw.out] at h2 h3
        obtain ⟨g1, g2⟩ := rf_snoc h hi hp64 hbn (Nat.le_refl _) rn h1' h2 h3
        rw [hHvw.out] at g1
        obtain ⟨a', c', hv', -, -⟩ := own_len' h1
        exact ⟨⟨a', c', hv'⟩, (pair_cell g1).2, box_frozen g1, _, g2⟩
      have x2 := x1
      clear hb hbw hbn rn r q1 q0 h hi hn hlt b1 r1
      go_wp2_with (at_builtin; refine wpList_append_own_src _ rfl (.tmp 43) (.tmp 47) 65 65 rfl 0 78 i0 (.agg #[.int .i64 0, .slice none 0 0]) 2 32 Tryz.underlying65 hii hz0 hz1 hz2 rfl (by decide) (.slice aw nW cw) nW _ rfl ow (.slice (some ⟨wo.heap.size, 0, none⟩) 1 1) 1 _ rfl src (by unfold maxLen; omega) (by omega) (Nat.zero_le _) ?_; intro v' w2 h1 h2 h3; obtain ⟨⟨a', c', rfl⟩, f1, f2, f3⟩ := finH.out v' w2 h1 h2 h3)
      go_ret
      exact ⟨rfl, f3⟩
end Go.Proofs.YthnkakjelhnjdaaGreatDoor
