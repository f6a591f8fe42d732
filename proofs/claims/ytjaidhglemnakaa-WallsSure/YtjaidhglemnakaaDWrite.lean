/- The walk of Write. -/
import Derived.Test.YtjaidhglemnakaaDRead
import Derived.Test.YtjaidhglemnakaaGSteps
set_option linter.unusedSimpArgs false
set_option linter.unusedVariables false
namespace Go.Proofs.Ytjaidhglemnakaa
open Go.RowKit Go.Maps

theorem quad_cells {w : World} {B : Nat} {a b c d : Value} {t : TypeId} (h : w.heap[B]? = some (.cells #[a, b, c, d] t (0, 0))) : w.cell? ⟨B, 0, none⟩ = some a ∧ w.cell? ⟨B, 1, none⟩ = some b ∧ w.cell? ⟨B, 2, none⟩ = some c ∧ w.cell? ⟨B, 3, none⟩ = some d := by simp [World.cell?, h]
theorem quad_set1 {w : World} {B : Nat} {a b c d : Value} {t : TypeId} (u : Value) (h : w.heap[B]? = some (.cells #[a, b, c, d] t (0, 0))) : (w.setCell ⟨B, 1, none⟩ u).heap[B]? = some (.cells #[a, u, c, d] t (0, 0)) := by
  have := heap_setCell_same w B 1 #[a, b, c, d] t u h
  simpa using this
theorem quad_set2 {w : World} {B : Nat} {a b c d : Value} {t : TypeId} (u : Value) (h : w.heap[B]? = some (.cells #[a, b, c, d] t (0, 0))) : (w.setCell ⟨B, 2, none⟩ u).heap[B]? = some (.cells #[a, b, u, d] t (0, 0)) := by
  have := heap_setCell_same w B 2 #[a, b, c, d] t u h
  simpa using this
theorem quad_set3 {w : World} {B : Nat} {a b c d : Value} {t : TypeId} (u : Value) (h : w.heap[B]? = some (.cells #[a, b, c, d] t (0, 0))) : (w.setCell ⟨B, 3, none⟩ u).heap[B]? = some (.cells #[a, b, c, u] t (0, 0)) := by
  have := heap_setCell_same w B 3 #[a, b, c, d] t u h
  simpa using this
theorem row_range {w : World} {g : Nat} {cs : List Value} {t : TypeId} (h : w.heap[g]? = some (.cells cs.toArray t (0, 0))) : w.rangeAt g 0 cs := by
  intro j v hv
  rw [Nat.zero_add, cell_of_row _ _ _ _ _ _ h]
  simpa using hv
theorem cell_alloc {w : World} {p : Addr} {v : Value} (h : w.cell? p = some v) (o : Obj) : (w.alloc o).cell? p = some v := (World.cell?_alloc_lt _ _ _ (World.block_lt_of_cell? w _ h)).trans h
theorem pad_cells (b : List UInt8) : bcells (pad b) = bcells b ++ (bcells (List.replicate 64 0)).drop b.length := by
  unfold pad
  rw [bcells_app]
  congr 1
  unfold bcells
  rw [List.map_replicate, List.map_replicate, List.drop_replicate]
set_option maxRecDepth 1000000 in
theorem copy_new {lim : Nat} (w : World) (ao : Option Addr) (n vc : Nat) (b : List UInt8) (hn : n = b.length) (hl : b.length ≤ 64) (hcell : 0 < b.length → ∃ bb off, ao = some ⟨bb, off, none⟩ ∧ bb < lim ∧ ∀ i (hi : i < b.length) j u, (bCell (b[i]'hi))[j]? = some u → w.cell? ⟨bb, off + i * 1 + j, none⟩ = some u) :
    ∃ w1, (Builtin.copy_ #[22, 22] 3 #[.slice (some ⟨w.heap.size, 0, none⟩) 64 64, .slice ao n vc]).run Try.prog (w.alloc (.cells zsec 74)) = .ok (.int .i64 (n : Int)) w1 ∧
      w1.heap[w.heap.size]? = some (.cells (bcells (pad b)).toArray 74 (0, 0)) ∧ Below w.heap.size w w1 := by
  subst hn
  have e0 : (w.alloc (.cells zsec 74)).heap[w.heap.size]? = some (.cells (bcells (List.replicate 64 0)).toArray 74 (0, 0)) := by rw [← zsec_eq]; exact heap_alloc_last _ _
  by_cases h0 : b.length = 0
  · obtain rfl : b = [] := List.eq_nil_of_length_eq_zero h0
    refine ⟨_, run_copy_none (P := Try.prog) _ 22 22 3 5 _ _ _ _ _ _ Try.underlying22 info_u8b (by simp), ?_, below_one _ _⟩
    rw [e0, pad_cells]
    simp [bcells]
  · obtain ⟨bb, off, rfl, hbb, hc⟩ := hcell (by omega)
    have hrun := run_copy_row (P := Try.prog) (w.alloc (.cells zsec 74)) 22 22 3 5 w.heap.size 0 64 64 ⟨bb, off, none⟩ b.length vc (bcells (List.replicate 64 0)).toArray 74 (bcells b) Try.underlying22 info_u8b e0 (by rw [bcells_len]; show b.length = min b.length 64; omega) (fun j u hu => by
      have hj : j < b.length := by
        rcases Nat.lt_or_ge j b.length with h' | h'
        · exact h'
        · rw [List.getElem?_eq_none (by rw [bcells_len]; exact h')] at hu; cases hu
      have := hc j hj 0 _ rfl
      rw [Addr.add_lit]
      rw [show off + j * 1 + 0 = off + j by omega] at this
      refine cell_alloc ?_ _
      rw [this, ← hu]
      simp [bcells, hj]) (by simp [bcells_len]; omega) (bcells_one b)
    rw [bcells_len] at hrun
    refine ⟨_, hrun, ?_, below_setRow (below_one _ _) (Nat.le_refl _) _⟩
    rw [setRow_heap _ _ _ _ _ _ e0]
    congr 2
    rw [pad_cells]
    simp
theorem wcells_len (p : Nat × Sec) (h : p.2.length = 64) : (wcells p).length = 65 := by simp [wcells, bcells_len, h]
theorem wcells_one (p : Nat × Sec) : ∀ u ∈ wcells p, u.oneCell' = true := by
  intro u hu
  rcases List.mem_cons.1 hu with rfl | hu
  · rfl
  · exact bcells_one _ u hu
set_option maxRecDepth 1000000 in
theorem info_write : (Try.prog.info? 76).map (fun i => (i.zero.map (·.cells.size), i.size, i.bytes)) = some (some 65, 65, 72) := by kernel_rfl
set_option maxRecDepth 1000000 in
theorem places_write : (match Try.prog.underlying 76 with
  | some (.struct fields) => fields.toList.mapM (fun f => (Try.prog.info? f.type).map fun i => (f.offset, i.size))
  | _ => none) = some [(0, 1), (1, 64)] := by kernel_rfl
set_option maxRecDepth 1000000 in
theorem info_write_parts : ∃ i z, Try.prog.info? 76 = some i ∧ i.zero = some z ∧ i.size = 65 ∧ i.bytes = 72 ∧ z.cells.size = 65 := by
  have h := info_write
  cases hi : Try.prog.info? 76 with
  | none => rw [hi] at h; simp at h
  | some i =>
    rw [hi] at h
    simp only [Option.map_some, Option.some.injEq, Prod.mk.injEq] at h
    cases hz : i.zero with
    | none => rw [hz] at h; simp at h
    | some z =>
      rw [hz] at h
      simp only [Option.map_some, Option.some.injEq] at h
      exact ⟨i, z, rfl, hz, h.2.1, h.2.2, h.1⟩
set_option maxRecDepth 1000000 in
theorem built_write (i : Nat) (s : Sec) (hs : s.length = 64) : Try.prog.built 76 [(0, .int .i64 (i : Int)), (1, .agg (bcells s).toArray)] = some (wcells (i, s)).toArray := by
  obtain ⟨it, z, h1, h2, h3, h4, h5⟩ := info_write_parts
  have hp := places_write
  cases hu : Try.prog.underlying 76 with
  | none => rw [hu] at hp; cases hp
  | some dsc =>
    rw [hu] at hp
    cases dsc with
    | struct fields =>
      have := built_two (n := 1) (m := 64) h1 h2 h5 hu hp (.int .i64 (i : Int)) (.agg (bcells s).toArray) rfl (by simp [Value.cells, bcells_len, hs])
      rw [this]
      simp [Value.cells, wcells]
    | _ => cases hp
set_option maxRecDepth 1000000 in
theorem src_w (w : World) (i : Nat) (s : Sec) (hs : s.length = 64) : Src Try.prog 65 39 (.slice (some ⟨w.heap.size, 0, none⟩) 1 1) 1 (wcells (i, s)) (w.alloc (.cells (wcells (i, s)).toArray 76)) :=
  Src.ofSlice _ Try.underlying39 _ _ _ _ (by rw [wcells_len _ hs]) (news_ofv _ _) (wcells_one _)
set_option maxRecDepth 1000000 in
theorem ld_map (B M : Nat) (W : World) (h : W.cell? ⟨B, 1, none⟩ = some (.map (some M))) : (Instr.loadAt 38 (.pointer (some ⟨B, 1, none⟩))).run Try.prog W = .ok (.map (some M)) W := by go_simp
set_option maxRecDepth 1000000 in
theorem ld_first (B : Nat) (a : Option Addr) (n c : Nat) (W : World) (h : W.cell? ⟨B, 2, none⟩ = some (.slice a n c)) : (Instr.loadAt 39 (.pointer (some ⟨B, 2, none⟩))).run Try.prog W = .ok (.slice a n c) W := by go_simp
set_option maxRecDepth 1000000 in
theorem st_first {w : World} {B : Nat} {a b c d v : Value} {t : TypeId} (va : Option Addr) (vn vc : Nat) (hv : v = .slice va vn vc) (q : w.heap[B]? = some (.cells #[a, b, c, d] t (0, 0))) :
    ∃ w', (Instr.storeAt 39 (.pointer (some ⟨B, 2, none⟩)) v).run Try.prog w = .ok () w' ∧ w'.heap[B]? = some (.cells #[a, b, v, d] t (0, 0)) ∧ Chg [B] w w' := by
  subst hv
  have x := quad_cells q
  have z := box_frozen (i := 2) q
  refine ⟨w.setCell ⟨B, 2, none⟩ (.slice va vn vc), ?_, quad_set2 _ q, (Chg.refl _ _).setCell (.inl (by simp)) _⟩
  have x2 := x.2.2.1
  clear x q
  go_simp
theorem ats_put {d : Dk} {i : Nat} {b : List UInt8} (h : d.ws.length < 64) : ((d.write i b).ws.take 64).flatMap wcells = (d.ws.take 64).flatMap wcells ++ wcells (i, pad b) := by
  show ((d.ws ++ [(i, pad b)]).take 64).flatMap wcells = _
  rw [List.take_of_length_le (by simp; omega), List.take_of_length_le (by omega), List.flatMap_append]
  simp
theorem ats_full {d : Dk} {i : Nat} {b : List UInt8} (h : 64 ≤ d.ws.length) : ((d.write i b).ws.take 64).flatMap wcells = (d.ws.take 64).flatMap wcells := by
  show ((d.ws ++ [(i, pad b)]).take 64).flatMap wcells = _
  rw [List.take_append_of_le_length h]
theorem ws_len (d : Dk) (i : Nat) (b : List UInt8) : (d.write i b).ws.length = d.ws.length + 1 := by simp [Dk.write]

set_option maxHeartbeats 4000000 in
set_option maxRecDepth 1000000 in
theorem write_ok {w : World} {B : Nat} {S : List Nat} {d : Dk} (h : DkAt w B S d) (i : Nat) (hi : i < d.sure.length) (v : Value) (b : List UInt8) {lim : Nat} (hb : InAt w lim v b) (hl : b.length ≤ 64) (hn : d.ws.length ≤ 1000000) :
    Calls Try.prog 19 #[.pointer (some ⟨B, 0, none⟩), .int .i64 (i : Int), v] w fun e w' =>
      e = .returned (.int .i64 0) ∧ ∃ S', DkAt w' B S' (d.write i b) ∧ Chg S w w' ∧ ∀ x ∈ S', x ∈ S ∨ w.heap.size ≤ x := by
  obtain ⟨G, M, cap, F, D, rfl, h⟩ := h
  have kt := there_ok h
  have kh := has_ok h i
  rw [show decide (0 ≤ (i : Int) ∧ (i : Int) < (d.sure.length : Int)) = true by simp; omega] at kh
  have hmax := h.ok.max
  have hp64 := pad_len hl
  have hi64 : (Try.prog.info? 74).map (·.size) = some (bcells (pad b)).length := by rw [zero_sec.2, bcells_len, hp64]
  obtain ⟨ao, vc, rfl, hvc, hvm, hcell⟩ := hb
  unfold maxLen at hvm
  obtain ⟨nF, hnF⟩ : ∃ nF, nF = min 64 d.ws.length := ⟨_, rfl⟩
  have hfo := h.first
  rw [← hnF] at hfo
  obtain ⟨aF, cF, hF, hFc, hFm⟩ := own_len' hfo
  unfold maxLen at hFm
  obtain ⟨iw, zw, hiw, hw0, hw1, hw2, hw3⟩ := info_write_parts
  have gB : w.heap.size ≠ B := by have := lt_of_block h.head; omega
  have ap := h.apart
  have hlt := h.lt
  have ld1 := ld_map B M
  have ld2 := ld_first B aF nF cF
  have bw1 := built_write i (pad b) hp64
  have bs1 : ∀ W : World, (Instr.buildSlice 39 1 #[(0, .agg (wcells (i, pad b)).toArray)]).run Try.prog W = .ok (.slice (some ⟨W.heap.size, 0, none⟩) 1 1) (W.alloc (.cells (wcells (i, pad b)).toArray 76)) := fun W =>
    run_buildSlice_one _ _ Try.underlying39 hiw hw0 hw1 (by omega) (by omega) (.agg (wcells (i, pad b)).toArray) (by simp [Value.cells, wcells_len (i, pad b) hp64]) W
  have src_w := fun (W : World) (i : Nat) (s : Sec) => src_w W i s
  have i3 : ¬ (64 : Int) < (b.length : Int) := by omega
  have i4 : (b.length : Int) ≤ 64 := by omega
  have hz := zero_sec.1
  have hcz : (Value.agg zsec).cells = zsec := rfl
  obtain ⟨w1, hcp, r1, hb1⟩ := copy_new w ao b.length vc b rfl hl hcell
  clear hcell
  go_enter Try.func19, Try.ntmps19
  go_wp2_with (first
    | (go_at_call 31; refine kt.mono ?_; rintro e w' ⟨rfl, rfl⟩)
    | (go_at_call 33; refine kh.mono ?_; rintro e w' ⟨rfl, rfl⟩))
  clear kt kh hcp
  have h1 : DkAtX w1 B G M cap F D d := h.kept (fun x hx => hb1.block x (hlt x hx))
  have m1 : w1.drew.ownsMap Try.prog 3 secR M d.ws.length D := h1.map
  obtain ⟨w2, hrun0, hown2, hturn⟩ := m1.store law_int Try.underlying38 (by unfold maxLen; omega) (keyOf_int_mk Try.underlying3 (a := (i : Int)) (WalkArith.wf_i64 (by omega))) (secR_mk hp64)
  have hrun : (Instr.mapUpdate 38 (.map (some M)) (.int .i64 (i : Int)) (.agg (bcells (pad b)).toArray)).run Try.prog w1.drew = .ok () w2 := hrun0
  clear hrun0 m1
  have g2 := hturn.grown
  have b2 : ∀ k, k < w1.heap.size → k ≠ M → w2.heap[k]? = w1.heap[k]? := fun k hk hne => g2.block k hk (by simpa using hne)
  have r2 := (b2 w.heap.size (lt_of_block r1) (by have := hlt M (by simp [blocksOf]); omega)).trans r1
  have q2 := (b2 B (lt_of_block h1.head) (Ne.symm ap.1)).trans h1.head
  rw [hF] at q2
  have x1 := h1.cells
  have x2 := quad_cells q2
  refine wp_region_noPanic ?_
  refine wp_region_held_drew (S := fun W => W.cell? ⟨B, 1, none⟩ = some (.map (some M)) ∧ W.heap[w.heap.size]? = some (.cells (bcells (pad b)).toArray 74 (0, 0))) (by kernel_rfl) ⟨x1.2.1, r1⟩ (fun hHeld => ?_)
  refine wpAnyH_take (i := 0) (oi := { dst := some 23, op := Go.Op.move (Go.Operand.tmp 0), type := 24, pos := _, after := #[], guard := none }) (v := .pointer (some ⟨B, 0, none⟩)) rfl (by kernel_rfl) (by kernel_rfl) (by kernel_rfl) (fun _ _ _ h => h) (Or.inl ⟨by rfl, fun W hW => by go_simp⟩) (by assumption) ?_
  try simp only [Act.put, List.setIfInBounds_toArray, List.set_cons_zero, List.set_cons_succ]
  refine wpAnyH_take (i := 1) (oi := { dst := some 24, op := Go.Op.nilCheck (Go.Operand.tmp 23), type := 0, pos := _, after := #[{ on := 0, ground := Go.Ground.data }], guard := none }) (v := .pointer (some ⟨B, 0, none⟩)) rfl (by kernel_rfl) (by kernel_rfl) (by kernel_rfl) (fun _ _ _ h => h) (Or.inl ⟨by rfl, fun W hW => by go_simp⟩) (by assumption) ?_
  try simp only [Act.put, List.setIfInBounds_toArray, List.set_cons_zero, List.set_cons_succ]
  refine wpAnyH_take (i := 2) (oi := { dst := some 25, op := Go.Op.fieldAddr 41 (Go.Operand.tmp 24) 1, type := 0, pos := _, after := #[{ on := 1, ground := Go.Ground.data }], guard := none }) (v := .pointer (some ⟨B, 1, none⟩)) rfl (by kernel_rfl) (by kernel_rfl) (by kernel_rfl) (fun _ _ _ h => h) (Or.inl ⟨by rfl, fun W hW => by go_simp⟩) (by assumption) ?_
  try simp only [Act.put, List.setIfInBounds_toArray, List.set_cons_zero, List.set_cons_succ]
  refine wpAnyH_take (i := 3) (oi := { dst := some 26, op := Go.Op.load 38 (Go.Operand.tmp 25), type := 38, pos := _, after := #[{ on := 2, ground := Go.Ground.data }], guard := none }) (v := .map (some M)) rfl (by kernel_rfl) (by kernel_rfl) (by kernel_rfl) (fun _ _ _ h => h) (yieldsIf_load (by rfl) 38 (.tmp 25) rfl _ _ rfl (fun W hW => ld1 W hW.1)) (by assumption) ?_
  try simp only [Act.put, List.setIfInBounds_toArray, List.set_cons_zero, List.set_cons_succ]
  refine wpAnyH_take (i := 4) (oi := { dst := some 27, op := Go.Op.move (Go.Operand.tmp 1), type := 3, pos := _, after := #[], guard := none }) (v := .int .i64 (i : Int)) rfl (by kernel_rfl) (by kernel_rfl) (by kernel_rfl) (fun _ _ _ h => h) (Or.inl ⟨by rfl, fun W hW => by go_simp⟩) (by assumption) ?_
  try simp only [Act.put, List.setIfInBounds_toArray, List.set_cons_zero, List.set_cons_succ]
  refine wpAnyH_take (i := 5) (oi := { dst := some 28, op := Go.Op.load 74 (Go.Operand.tmp 7), type := 74, pos := _, after := #[], guard := none }) (v := .agg (bcells (pad b)).toArray) rfl (by kernel_rfl) (by kernel_rfl) (by kernel_rfl) (fun _ _ _ h => h) (yieldsIf_load_mid (by rfl) 74 (.tmp 7) rfl w.heap.size 0 rfl (bcells (pad b)) _ (fun W hW => row_range hW.2) Try.underlying74 rfl hi64) (by assumption) ?_
  try simp only [Act.put, List.setIfInBounds_toArray, List.set_cons_zero, List.set_cons_succ]
  refine wpAnyH_ready (rs := [6]) (by kernel_rfl) (by simp) ?_
  refine AllReadyH.cons (o := { dst := none, op := Go.Op.mapUpdate 38 (Go.Operand.tmp 26) (Go.Operand.tmp 27) (Go.Operand.tmp 28), type := 0, pos := _, after := #[{ on := 3, ground := Go.Ground.data }, { on := 4, ground := Go.Ground.data }, { on := 5, ground := Go.Ground.data }, { on := 0, ground := Go.Ground.phase }, { on := 1, ground := Go.Ground.phase }, { on := 2, ground := Go.Ground.phase }, { on := 3, ground := Go.Ground.phase }, { on := 4, ground := Go.Ground.phase }, { on := 5, ground := Go.Ground.phase }], guard := none }) rfl (fun K hK => ?_) AllReadyH.nil
  refine step_mapUpdate rfl 38 (.tmp 26) (.tmp 27) (.tmp 28) rfl (.map (some M)) (.int .i64 (i : Int)) (.agg (bcells (pad b)).toArray) rfl rfl rfl w2 hrun ?_
  refine hK.out _ _ ⟨x2.2.1, r2⟩ (fun _ => ?_)
  clear hK K hHeld
  try simp only [Act.put, List.setIfInBounds_toArray, List.set_cons_zero, List.set_cons_succ]
  refine wpAnyH_done (by kernel_rfl) ?_ _
  refine NoPanic.normal ?_
  clear hrun x1 ld1
  have c12 : Chg [M] w w2 := ((Chg.of_below hb1 [M]).drew).grown g2 (fun k e => .inl (by cases e; simp))
  have hMw : M < w.heap.size := hlt M (by simp [blocksOf])
  have hGw : G < w.heap.size := hlt G (by simp [blocksOf])
  have hBw : B < w.heap.size := hlt B (by simp [blocksOf])
  have s2 : w2.ownsRow 0 74 64 (.slice (some ⟨G, 0, none⟩) d.sure.length cap) d.sure.length (d.sure.flatMap bcells) := own_kept h.sure (fun k e => by cases e; exact c12.block G hGw (by simp; exact Ne.symm ap.2.1))
  have f2 : w2.drew.ownsRow 0 76 65 (.slice aF nF cF) nF ((d.ws.take 64).flatMap wcells) := by
    rw [hF] at hfo
    exact own_kept hfo (fun k e => c12.block k (hfo.lt k e).2 (by simp; intro e2; subst e2; rw [← hF] at e; exact ap.2.2 e))
  have hfr := h.fresh.put h.map.isMap i (pad b)
  have hok := h.ok.write hi hl
  have hbg := h.bg
  have hfb := h.fb
  have hfg := h.fg
  clear hb1 h1 r1 hturn g2 b2 hfo
  by_cases h64 : nF < 64
  · have hw64 : d.ws.length < 64 := by omega
    have hnw : nF = d.ws.length := by omega
    have i5 : (nF : Int) < 64 := by omega
    have q3' : ∀ w3, (w2.drew.alloc (.cells (wcells (i, pad b)).toArray 76)).grownBy w3 (Value.ownBlock (.slice aF nF cF)) → w3.heap[B]? = some (.cells #[.slice (some ⟨G, 0, none⟩) d.sure.length cap, .map (some M), .slice aF nF cF, .int .i64 (d.ws.length : Int)] 41 (0, 0)) := fun w3 hg3 =>
      (hg3.block B (by simp; have := lt_of_block q2; omega) (fun e => hfb (by rw [hF]; exact e.symm))).trans ((Below.heap_alloc w2.drew _ _ (lt_of_block q2)).trans q2)
    have r3' : ∀ w3, (w2.drew.alloc (.cells (wcells (i, pad b)).toArray 76)).grownBy w3 (Value.ownBlock (.slice aF nF cF)) → w3.heap[w.heap.size]? = some (.cells (bcells (pad b)).toArray 74 (0, 0)) := fun w3 hg3 =>
      (hg3.block w.heap.size (by simp; have := lt_of_block r2; omega) (fun e => by have := hlt w.heap.size (by simp [blocksOf, hF, ← e]); omega)).trans ((Below.heap_alloc w2.drew _ _ (lt_of_block r2)).trans r2)
    have st2 := fun (w3 : World) (v' : Value) (va : Option Addr) (vn vc : Nat) (hv : v' = .slice va vn vc) (q : w3.heap[B]? = some (.cells #[.slice (some ⟨G, 0, none⟩) d.sure.length cap, .map (some M), .slice aF nF cF, .int .i64 (d.ws.length : Int)] 41 (0, 0))) => st_first va vn vc hv q
    have src_w := fun (W : World) => src_w W i (pad b) hp64
    have fin : ∀ (w3 : World) (v' : Value) (w4 : World), w3.ownsRow 0 76 65 v' (nF + 1) ((d.ws.take 64).flatMap wcells ++ wcells (i, pad b)) → (w2.drew.alloc (.cells (wcells (i, pad b)).toArray 76)).grownBy w3 (Value.ownBlock (.slice aF nF cF)) → (v'.ownBlock = Value.ownBlock (.slice aF nF cF) ∨ v'.ownBlock = some (w2.drew.alloc (.cells (wcells (i, pad b)).toArray 76)).heap.size) →
        w4.heap[B]? = some (.cells #[.slice (some ⟨G, 0, none⟩) d.sure.length cap, .map (some M), v', .int .i64 (d.ws.length : Int)] 41 (0, 0)) → Chg [B] w3 w4 →
        ∃ S', DkAt (w4.setCell ⟨B, 3, none⟩ (.int .i64 ((d.ws.length : Int) + 1))) B S' (d.write i b) ∧ Chg (blocksOf B G M F) w (w4.setCell ⟨B, 3, none⟩ (.int .i64 ((d.ws.length : Int) + 1))) ∧ ∀ x ∈ S', x ∈ blocksOf B G M F ∨ w.heap.size ≤ x := by
      intro w3 v' w4 ho3 hg3 hl3 q4 c4
      rw [← hF] at hg3 hl3
      have hz2 : w.heap.size ≤ w2.heap.size := c12.size
      have ca : Chg (F.ownBlock.toList) w2 w3 := (((Chg.refl (F.ownBlock.toList) w2).drew).alloc _).grown hg3 (fun k e => .inl (by simp [e]))
      have cb : Chg [B] w3 (w4.setCell ⟨B, 3, none⟩ (.int .i64 ((d.ws.length : Int) + 1))) := c4.setCell (.inl (by simp)) _
      have cc : Chg (B :: F.ownBlock.toList) w2 (w4.setCell ⟨B, 3, none⟩ (.int .i64 ((d.ws.length : Int) + 1))) := (ca.mono (fun x hx => .inl (by simp at hx ⊢; exact .inr hx))).trans cb (fun x hx => .inl (by simp at hx ⊢; exact .inl hx))
      have cd : Chg (M :: B :: F.ownBlock.toList) w (w4.setCell ⟨B, 3, none⟩ (.int .i64 ((d.ws.length : Int) + 1))) := (c12.mono (fun x hx => .inl (by simp at hx ⊢; exact .inl hx))).trans cc (fun x hx => .inl (by simp at hx ⊢; exact .inr hx))
      have hvB : v'.ownBlock ≠ some B := by
        rcases hl3 with e | e
        · rw [e]; exact hfb
        · rw [e]; simp; have := lt_of_block q2; omega
      refine ⟨blocksOf B G M v', ⟨G, M, cap, v', _, rfl, hok, ?_, own_kept h.sure (fun k e => by cases e; exact cd.block G hGw (by simp; exact ⟨Ne.symm ap.2.1, Ne.symm hbg, fun e => hfg e⟩)), ?_, hfr, ?_, hbg, hvB, ?_⟩, cd.mono (fun x hx => .inl (by simp [blocksOf] at hx ⊢; rcases hx with h' | h' | h' <;> simp [h'])), fun x hx => ?_⟩
      · have := quad_set3 (.int .i64 ((d.ws.length : Int) + 1)) q4
        rw [this, ws_len]
        congr 4
      · rw [ws_len]
        exact map_kept hown2 (cc.block M (by have := hown2.lt; exact this) (by simp; exact ⟨ap.1, ap.2.2⟩))
      · rw [ats_put hw64, ws_len, show min 64 (d.ws.length + 1) = nF + 1 by omega]
        exact own_kept ho3 (fun k e => cb.block k (ho3.lt k e).2 (by simp; intro e2; subst e2; exact hvB e))
      · rcases hl3 with e | e
        · rw [e]; exact hfg
        · rw [e]; simp; omega
      · simp only [blocksOf, List.mem_cons, Option.mem_toList] at hx ⊢
        rcases hx with rfl | rfl | rfl | hx
        · simp
        · simp
        · simp
        · rcases hl3 with e | e
          · left; rw [e] at hx; simp [hx]
          · right; rw [e] at hx; simp at hx; omega
    clear hF hFc ap hlt h hfr hok hown2 hfb hfg
    go_wp2
    refine wp_region_noPanic ?_
    refine wp_region_held_drew (S := fun W => W.heap[w.heap.size]? = some (.cells (bcells (pad b)).toArray 74 (0, 0))) (by kernel_rfl) r2 (fun hHeld => ?_)
    refine wpAnyH_take (i := 0) (oi := { dst := some 35, op := Go.Op.move (Go.Operand.tmp 0), type := 24, pos := _, after := #[], guard := none }) (v := .pointer (some ⟨B, 0, none⟩)) rfl (by kernel_rfl) (by kernel_rfl) (by kernel_rfl) (fun _ _ _ h => h) (Or.inl ⟨by rfl, fun W hW => by go_simp⟩) (by assumption) ?_
    try simp only [Act.put, List.setIfInBounds_toArray, List.set_cons_zero, List.set_cons_succ]
    refine wpAnyH_take (i := 1) (oi := { dst := some 36, op := Go.Op.move (Go.Operand.tmp 0), type := 24, pos := _, after := #[], guard := none }) (v := .pointer (some ⟨B, 0, none⟩)) rfl (by kernel_rfl) (by kernel_rfl) (by kernel_rfl) (fun _ _ _ h => h) (Or.inl ⟨by rfl, fun W hW => by go_simp⟩) (by assumption) ?_
    try simp only [Act.put, List.setIfInBounds_toArray, List.set_cons_zero, List.set_cons_succ]
    refine wpAnyH_take (i := 2) (oi := { dst := some 37, op := Go.Op.nilCheck (Go.Operand.tmp 36), type := 0, pos := _, after := #[{ on := 1, ground := Go.Ground.data }], guard := none }) (v := .pointer (some ⟨B, 0, none⟩)) rfl (by kernel_rfl) (by kernel_rfl) (by kernel_rfl) (fun _ _ _ h => h) (Or.inl ⟨by rfl, fun W hW => by go_simp⟩) (by assumption) ?_
    try simp only [Act.put, List.setIfInBounds_toArray, List.set_cons_zero, List.set_cons_succ]
    refine wpAnyH_take (i := 3) (oi := { dst := some 38, op := Go.Op.fieldAddr 41 (Go.Operand.tmp 37) 2, type := 0, pos := _, after := #[{ on := 2, ground := Go.Ground.data }], guard := none }) (v := .pointer (some ⟨B, 2, none⟩)) rfl (by kernel_rfl) (by kernel_rfl) (by kernel_rfl) (fun _ _ _ h => h) (Or.inl ⟨by rfl, fun W hW => by go_simp⟩) (by assumption) ?_
    try simp only [Act.put, List.setIfInBounds_toArray, List.set_cons_zero, List.set_cons_succ]
    refine wpAnyH_take (i := 5) (oi := { dst := some 40, op := Go.Op.move (Go.Operand.tmp 1), type := 3, pos := _, after := #[], guard := none }) (v := .int .i64 (i : Int)) rfl (by kernel_rfl) (by kernel_rfl) (by kernel_rfl) (fun _ _ _ h => h) (Or.inl ⟨by rfl, fun W hW => by go_simp⟩) (by assumption) ?_
    try simp only [Act.put, List.setIfInBounds_toArray, List.set_cons_zero, List.set_cons_succ]
    refine wpAnyH_take (i := 6) (oi := { dst := some 41, op := Go.Op.load 74 (Go.Operand.tmp 7), type := 74, pos := _, after := #[], guard := none }) (v := .agg (bcells (pad b)).toArray) rfl (by kernel_rfl) (by kernel_rfl) (by kernel_rfl) (fun _ _ _ h => h) (yieldsIf_load_mid (by rfl) 74 (.tmp 7) rfl w.heap.size 0 rfl (bcells (pad b)) _ (fun W hW => row_range hW) Try.underlying74 rfl hi64) (by assumption) ?_
    try simp only [Act.put, List.setIfInBounds_toArray, List.set_cons_zero, List.set_cons_succ]
    refine wpAnyH_take (i := 7) (oi := { dst := some 42, op := Go.Op.build 76 #[(0, Go.Operand.tmp 40), (1, Go.Operand.tmp 41)], type := 76, pos := _, after := #[{ on := 5, ground := Go.Ground.data }, { on := 6, ground := Go.Ground.data }], guard := none }) (v := .agg (wcells (i, pad b)).toArray) rfl (by kernel_rfl) (by kernel_rfl) (by kernel_rfl) (fun _ _ _ h => h) (yieldsIf_build (by rfl) 76 #[(0, .tmp 40), (1, .tmp 41)] rfl (wcells (i, pad b)).toArray #[(0, .int .i64 (i : Int)), (1, .agg (bcells (pad b)).toArray)] (by simp only [List.map_toArray, List.map_cons, List.map_nil]; rfl) bw1) (by assumption) ?_
    try simp only [Act.put, List.setIfInBounds_toArray, List.set_cons_zero, List.set_cons_succ]
    refine wpAnyH_ready (rs := [4, 8]) (by kernel_rfl) (by simp) ?_
    refine AllReadyH.cons (o := { dst := some 39, op := Go.Op.load 39 (Go.Operand.tmp 38), type := 39, pos := _, after := #[{ on := 3, ground := Go.Ground.data }], guard := none }) rfl (fun K hK => ?_) (AllReadyH.cons (o := { dst := some 43, op := Go.Op.buildSlice 39 1 #[(0, Go.Operand.tmp 42)], type := 39, pos := _, after := #[{ on := 7, ground := Go.Ground.data }], guard := none }) rfl (fun K hK => ?_) AllReadyH.nil)
    · refine step_load rfl 39 (.tmp 38) rfl _ _ rfl (ld2 _ x2.2.2.1) ?_
      refine hK.out _ _ (by assumption) (fun hHeld => ?_)
      clear hK K
      try simp only [Act.put, List.setIfInBounds_toArray, List.set_cons_zero, List.set_cons_succ]
      refine wpAnyH_ready (rs := [8]) (by kernel_rfl) (by simp) ?_
      refine AllReadyH.cons (o := { dst := some 43, op := Go.Op.buildSlice 39 1 #[(0, Go.Operand.tmp 42)], type := 39, pos := _, after := #[{ on := 7, ground := Go.Ground.data }], guard := none }) rfl (fun K hK => ?_) AllReadyH.nil
      refine step_buildSlice rfl 39 76 1 #[(0, .tmp 42)] rfl (wcells (i, pad b)).toArray #[(0, .agg (wcells (i, pad b)).toArray)] (by simp only [List.map_toArray, List.map_cons, List.map_nil]; rfl) (fun W => bs1 W) ?_
      refine hK.out _ _ (alloc_block r2 _) (fun hHeld => ?_)
      clear hK K
      try simp only [Act.put, List.setIfInBounds_toArray, List.set_cons_zero, List.set_cons_succ]
      refine wpAnyH_ready (rs := [9]) (by kernel_rfl) (by simp) ?_
      refine AllReadyH.cons (o := { dst := some 44, op := Go.Op.call { callee := Go.Callee.builtin Go.Builtin.append, args := #[Go.Operand.tmp 39, Go.Operand.tmp 43], argTypes := #[39, 39] }, type := 39, pos := _, after := #[{ on := 4, ground := Go.Ground.data }, { on := 8, ground := Go.Ground.data }], guard := none }) rfl (fun K hK => ?_) AllReadyH.nil
      refine step_append_src rfl (.tmp 39) (.tmp 43) 39 rfl 0 76 iw zw 65 72 Try.underlying39 hiw hw0 hw1 hw2 hw3 (by omega) _ _ _ rfl (own_kept f2 (fun k hk => Below.heap_alloc _ _ _ (f2.lt k hk).2)) _ _ _ rfl (src_w w2.drew) (by unfold maxLen; omega) (by omega) (Nat.zero_le _) ?_
      intro v' w3 ho3 hg3 hl3
      have q3 := q3' w3 hg3
      have r3 := r3' w3 hg3
      refine hK.out _ _ r3 (fun hHeld => ?_)
      clear hK K
      try simp only [Act.put, List.setIfInBounds_toArray, List.set_cons_zero, List.set_cons_succ]
      refine wpAnyH_take (i := 10) (oi := { dst := some 45, op := Go.Op.nilCheck (Go.Operand.tmp 35), type := 0, pos := _, after := #[{ on := 0, ground := Go.Ground.data }, { on := 0, ground := Go.Ground.phase }, { on := 1, ground := Go.Ground.phase }, { on := 2, ground := Go.Ground.phase }, { on := 3, ground := Go.Ground.phase }, { on := 4, ground := Go.Ground.phase }, { on := 5, ground := Go.Ground.phase }, { on := 6, ground := Go.Ground.phase }, { on := 7, ground := Go.Ground.phase }, { on := 8, ground := Go.Ground.phase }, { on := 9, ground := Go.Ground.phase }], guard := none }) (v := .pointer (some ⟨B, 0, none⟩)) rfl (by kernel_rfl) (by kernel_rfl) (by kernel_rfl) (fun _ _ _ h => h) (Or.inl ⟨by rfl, fun W hW => by go_simp⟩) (by assumption) ?_
      try simp only [Act.put, List.setIfInBounds_toArray, List.set_cons_zero, List.set_cons_succ]
      refine wpAnyH_take (i := 11) (oi := { dst := some 46, op := Go.Op.fieldAddr 41 (Go.Operand.tmp 45) 2, type := 0, pos := _, after := #[{ on := 10, ground := Go.Ground.data }, { on := 0, ground := Go.Ground.phase }, { on := 1, ground := Go.Ground.phase }, { on := 2, ground := Go.Ground.phase }, { on := 3, ground := Go.Ground.phase }, { on := 4, ground := Go.Ground.phase }, { on := 5, ground := Go.Ground.phase }, { on := 6, ground := Go.Ground.phase }, { on := 7, ground := Go.Ground.phase }, { on := 8, ground := Go.Ground.phase }, { on := 9, ground := Go.Ground.phase }], guard := none }) (v := .pointer (some ⟨B, 2, none⟩)) rfl (by kernel_rfl) (by kernel_rfl) (by kernel_rfl) (fun _ _ _ h => h) (Or.inl ⟨by rfl, fun W hW => by go_simp⟩) (by assumption) ?_
      try simp only [Act.put, List.setIfInBounds_toArray, List.set_cons_zero, List.set_cons_succ]
      refine wpAnyH_ready (rs := [12]) (by kernel_rfl) (by simp) ?_
      refine AllReadyH.cons (o := { dst := none, op := Go.Op.store 39 (Go.Operand.tmp 46) (Go.Operand.tmp 44), type := 0, pos := _, after := #[{ on := 11, ground := Go.Ground.data }, { on := 9, ground := Go.Ground.data }, { on := 9, ground := Go.Ground.chain }, { on := 0, ground := Go.Ground.phase }, { on := 1, ground := Go.Ground.phase }, { on := 2, ground := Go.Ground.phase }, { on := 3, ground := Go.Ground.phase }, { on := 4, ground := Go.Ground.phase }, { on := 5, ground := Go.Ground.phase }, { on := 6, ground := Go.Ground.phase }, { on := 7, ground := Go.Ground.phase }, { on := 8, ground := Go.Ground.phase }, { on := 9, ground := Go.Ground.phase }], guard := none }) rfl (fun K hK => ?_) AllReadyH.nil
      obtain ⟨va, vn, vc', hv'⟩ := own_slice ho3
      obtain ⟨w4, st4, q4, c4⟩ := st2 w3 v' _ _ _ hv' q3
      refine step_store rfl 39 (.tmp 46) (.tmp 44) rfl _ _ rfl rfl w4 st4 ?_
      have r4 := (c4.block w.heap.size (lt_of_block r3) (by simp; exact gB)).trans r3
      refine hK.out _ _ r4 (fun hHeld => ?_)
      clear hK K
      try simp only [Act.put, List.setIfInBounds_toArray, List.set_cons_zero, List.set_cons_succ]
      refine wpAnyH_done (by kernel_rfl) ?_ _
      refine NoPanic.normal ?_
      have x4 := quad_cells q4
      have z4 := box_frozen (i := 3) q4
      clear hHeld
      go_wp2
      go_ret
      refine ⟨rfl, fin w3 v' w4 ho3 hg3 hl3 q4 c4⟩
    · refine step_buildSlice rfl 39 76 1 #[(0, .tmp 42)] rfl (wcells (i, pad b)).toArray #[(0, .agg (wcells (i, pad b)).toArray)] (by simp only [List.map_toArray, List.map_cons, List.map_nil]; rfl) (fun W => bs1 W) ?_
      refine hK.out _ _ (alloc_block r2 _) (fun hHeld => ?_)
      clear hK K
      try simp only [Act.put, List.setIfInBounds_toArray, List.set_cons_zero, List.set_cons_succ]
      refine wpAnyH_ready (rs := [4]) (by kernel_rfl) (by simp) ?_
      refine AllReadyH.cons (o := { dst := some 39, op := Go.Op.load 39 (Go.Operand.tmp 38), type := 39, pos := _, after := #[{ on := 3, ground := Go.Ground.data }], guard := none }) rfl (fun K hK => ?_) AllReadyH.nil
      refine step_load rfl 39 (.tmp 38) rfl _ _ rfl (ld2 _ (cell_alloc x2.2.2.1 _)) ?_
      refine hK.out _ _ (by assumption) (fun hHeld => ?_)
      clear hK K
      try simp only [Act.put, List.setIfInBounds_toArray, List.set_cons_zero, List.set_cons_succ]
      refine wpAnyH_ready (rs := [9]) (by kernel_rfl) (by simp) ?_
      refine AllReadyH.cons (o := { dst := some 44, op := Go.Op.call { callee := Go.Callee.builtin Go.Builtin.append, args := #[Go.Operand.tmp 39, Go.Operand.tmp 43], argTypes := #[39, 39] }, type := 39, pos := _, after := #[{ on := 4, ground := Go.Ground.data }, { on := 8, ground := Go.Ground.data }], guard := none }) rfl (fun K hK => ?_) AllReadyH.nil
      refine step_append_src rfl (.tmp 39) (.tmp 43) 39 rfl 0 76 iw zw 65 72 Try.underlying39 hiw hw0 hw1 hw2 hw3 (by omega) _ _ _ rfl (own_kept f2 (fun k hk => Below.heap_alloc _ _ _ (f2.lt k hk).2)) _ _ _ rfl (src_w w2.drew) (by unfold maxLen; omega) (by omega) (Nat.zero_le _) ?_
      intro v' w3 ho3 hg3 hl3
      have q3 := q3' w3 hg3
      have r3 := r3' w3 hg3
      refine hK.out _ _ r3 (fun hHeld => ?_)
      clear hK K
      try simp only [Act.put, List.setIfInBounds_toArray, List.set_cons_zero, List.set_cons_succ]
      refine wpAnyH_take (i := 10) (oi := { dst := some 45, op := Go.Op.nilCheck (Go.Operand.tmp 35), type := 0, pos := _, after := #[{ on := 0, ground := Go.Ground.data }, { on := 0, ground := Go.Ground.phase }, { on := 1, ground := Go.Ground.phase }, { on := 2, ground := Go.Ground.phase }, { on := 3, ground := Go.Ground.phase }, { on := 4, ground := Go.Ground.phase }, { on := 5, ground := Go.Ground.phase }, { on := 6, ground := Go.Ground.phase }, { on := 7, ground := Go.Ground.phase }, { on := 8, ground := Go.Ground.phase }, { on := 9, ground := Go.Ground.phase }], guard := none }) (v := .pointer (some ⟨B, 0, none⟩)) rfl (by kernel_rfl) (by kernel_rfl) (by kernel_rfl) (fun _ _ _ h => h) (Or.inl ⟨by rfl, fun W hW => by go_simp⟩) (by assumption) ?_
      try simp only [Act.put, List.setIfInBounds_toArray, List.set_cons_zero, List.set_cons_succ]
      refine wpAnyH_take (i := 11) (oi := { dst := some 46, op := Go.Op.fieldAddr 41 (Go.Operand.tmp 45) 2, type := 0, pos := _, after := #[{ on := 10, ground := Go.Ground.data }, { on := 0, ground := Go.Ground.phase }, { on := 1, ground := Go.Ground.phase }, { on := 2, ground := Go.Ground.phase }, { on := 3, ground := Go.Ground.phase }, { on := 4, ground := Go.Ground.phase }, { on := 5, ground := Go.Ground.phase }, { on := 6, ground := Go.Ground.phase }, { on := 7, ground := Go.Ground.phase }, { on := 8, ground := Go.Ground.phase }, { on := 9, ground := Go.Ground.phase }], guard := none }) (v := .pointer (some ⟨B, 2, none⟩)) rfl (by kernel_rfl) (by kernel_rfl) (by kernel_rfl) (fun _ _ _ h => h) (Or.inl ⟨by rfl, fun W hW => by go_simp⟩) (by assumption) ?_
      try simp only [Act.put, List.setIfInBounds_toArray, List.set_cons_zero, List.set_cons_succ]
      refine wpAnyH_ready (rs := [12]) (by kernel_rfl) (by simp) ?_
      refine AllReadyH.cons (o := { dst := none, op := Go.Op.store 39 (Go.Operand.tmp 46) (Go.Operand.tmp 44), type := 0, pos := _, after := #[{ on := 11, ground := Go.Ground.data }, { on := 9, ground := Go.Ground.data }, { on := 9, ground := Go.Ground.chain }, { on := 0, ground := Go.Ground.phase }, { on := 1, ground := Go.Ground.phase }, { on := 2, ground := Go.Ground.phase }, { on := 3, ground := Go.Ground.phase }, { on := 4, ground := Go.Ground.phase }, { on := 5, ground := Go.Ground.phase }, { on := 6, ground := Go.Ground.phase }, { on := 7, ground := Go.Ground.phase }, { on := 8, ground := Go.Ground.phase }, { on := 9, ground := Go.Ground.phase }], guard := none }) rfl (fun K hK => ?_) AllReadyH.nil
      obtain ⟨va, vn, vc', hv'⟩ := own_slice ho3
      obtain ⟨w4, st4, q4, c4⟩ := st2 w3 v' _ _ _ hv' q3
      refine step_store rfl 39 (.tmp 46) (.tmp 44) rfl _ _ rfl rfl w4 st4 ?_
      have r4 := (c4.block w.heap.size (lt_of_block r3) (by simp; exact gB)).trans r3
      refine hK.out _ _ r4 (fun hHeld => ?_)
      clear hK K
      try simp only [Act.put, List.setIfInBounds_toArray, List.set_cons_zero, List.set_cons_succ]
      refine wpAnyH_done (by kernel_rfl) ?_ _
      refine NoPanic.normal ?_
      have x4 := quad_cells q4
      have z4 := box_frozen (i := 3) q4
      clear hHeld
      go_wp2
      go_ret
      refine ⟨rfl, fin w3 v' w4 ho3 hg3 hl3 q4 c4⟩
  · have hw64 : 64 ≤ d.ws.length := by omega
    have i5 : ¬ (nF : Int) < 64 := by omega
    have z2 := box_frozen (i := 3) q2
    have fin : ∃ S', DkAt (w2.setCell ⟨B, 3, none⟩ (.int .i64 ((d.ws.length : Int) + 1))) B S' (d.write i b) ∧ Chg (blocksOf B G M F) w (w2.setCell ⟨B, 3, none⟩ (.int .i64 ((d.ws.length : Int) + 1))) ∧ ∀ x ∈ S', x ∈ blocksOf B G M F ∨ w.heap.size ≤ x := by
      have cc : Chg [B] w2 (w2.setCell ⟨B, 3, none⟩ (.int .i64 ((d.ws.length : Int) + 1))) := (Chg.refl _ _).setCell (.inl (by simp)) _
      have cd : Chg [M, B] w (w2.setCell ⟨B, 3, none⟩ (.int .i64 ((d.ws.length : Int) + 1))) := (c12.mono (fun x hx => .inl (by simp at hx ⊢; exact .inl hx))).trans cc (fun x hx => .inl (by simp at hx ⊢; exact .inr hx))
      rw [← hF] at f2 q2
      refine ⟨blocksOf B G M F, ⟨G, M, cap, F, _, rfl, hok, ?_, own_kept s2 (fun k e => by cases e; exact cc.block G (s2.lt G rfl).2 (by simp; exact Ne.symm hbg)), ?_, hfr, ?_, hbg, hfb, hfg⟩, cd.mono (fun x hx => .inl (by simp [blocksOf] at hx ⊢; rcases hx with h' | h' <;> simp [h'])), fun x hx => .inl hx⟩
      · have := quad_set3 (.int .i64 ((d.ws.length : Int) + 1)) q2
        rw [this, ws_len]
        congr 4
      · rw [ws_len]
        exact map_kept hown2 (cc.block M hown2.lt (by simp; exact ap.1))
      · rw [ats_full hw64, ws_len, show min 64 (d.ws.length + 1) = nF by omega]
        exact own_kept f2 (fun k e => cc.block k (f2.lt k e).2 (by simp; intro e2; subst e2; exact hfb e))
    clear hF hFc ap hlt h hfr hok hown2 hfb hfg f2 s2
    go_wp2
    go_ret
    exact ⟨rfl, fin⟩
end Go.Proofs.Ytjaidhglemnakaa
