/- The walk of Read. -/
import Derived.Test.YtjaidhglemnakaaDNew
import Derived.Deep.OwnRows
import Derived.Deep.RegionHeld3
set_option linter.unusedSimpArgs false
set_option linter.unusedVariables false
namespace Go.Proofs.Ytjaidhglemnakaa
open Go.RowKit Go.Maps

/-- A sector of noughts, its cells. -/
def zsec : Array Value := Array.replicate 64 (.int .u8 0)
theorem zsec_size : zsec.size = 64 := by simp [zsec]
theorem zsec_eq : zsec = (bcells (List.replicate 64 0)).toArray := by
  unfold zsec bcells
  rw [List.map_replicate]
  apply Array.ext'
  simp only [Array.toList_replicate]
  rfl
theorem zero_sec : (∀ w, (zeroValue 74).run Try.prog w = .ok (.agg zsec) w) ∧ (Try.prog.info? 74).map (·.size) = some 64 := zero_of_info info_sec
theorem sec_range {w : World} {B G M cap : Nat} {F : Value} {D : DataW Unit} {d : Dk} (h : DkAtX w B G M cap F D d) {i : Nat} (hi : i < d.sure.length) : w.rangeAt G (i * 64) (bcells (d.sure[i]'hi)) := by
  intro j v hv
  have hl := h.ok.len i hi
  have hj : j < 64 := by
    rcases Nat.lt_or_ge j 64 with h' | h'
    · exact h'
    · rw [List.getElem?_eq_none (by rw [bcells_len, hl]; exact h')] at hv; cases hv
  rw [World.ownsRow.cellAt h.sure _ (by have : (i + 1) * 64 ≤ d.sure.length * 64 := Nat.mul_le_mul_right _ hi; omega)]
  have hall : ∀ x ∈ d.sure, (bcells x).length = 64 := fun x hx => by
    obtain ⟨n, hn, rfl⟩ := List.getElem_of_mem hx
    rw [bcells_len]; exact h.ok.len n hn
  rw [← hv]
  clear hv hl h
  generalize d.sure = l at *
  induction l generalizing i with
  | nil => cases hi
  | cons x l ih =>
    rw [List.flatMap_cons]
    have hx := hall x (by simp)
    cases i with
    | zero => rw [Nat.zero_mul, Nat.zero_add, List.getElem?_append_left (by omega)]; rfl
    | succ i =>
      rw [List.getElem?_append_right (by rw [hx]; omega), hx, show (i + 1) * 64 + j - 64 = i * 64 + j by omega, ih (by simpa using hi) (fun y hy => hall y (by simp [hy]))]
      rfl
theorem bcells_all (s : Sec) : (bcells s).toArray.all (·.oneCell') = true := by
  rw [Array.all_eq_true_iff_forall_mem]
  intro v hv
  exact bcells_one s v (by simpa using hv)
theorem info_u8b : (Try.prog.info? 5).map (·.size) = some 1 := by kernel_rfl
theorem cells_range {w : World} {b : Nat} {s : Sec} {t : TypeId} (h : w.heap[b]? = some (.cells (bcells s).toArray t (0, 0))) : ∀ j v, (bcells s)[j]? = some v → w.cell? ((⟨b, 0, none⟩ : Addr).add j) = some v := by
  intro j v hv
  rw [Addr.add_lit, Nat.zero_add, cell_of_row _ _ _ _ _ _ h]
  simpa using hv

theorem last2 (w : World) (a b : Obj) : ((w.alloc a).alloc b).heap[w.heap.size + 1]? = some b := by
  have := heap_alloc_last (w.alloc a) b
  simpa using this
theorem last1 (w : World) (a b : Obj) : ((w.alloc a).alloc b).heap[w.heap.size]? = some a := by
  rw [Below.heap_alloc _ _ _ (by simp)]
  exact heap_alloc_last _ _
theorem run_copy_sec (w : World) (t : Sec) (h : t.length = 64) : (Builtin.copy_ #[22, 22] 3 #[.slice (some ⟨w.heap.size + 1, 0, none⟩) 64 64, .slice (some ⟨w.heap.size, 0, none⟩) 64 64]).run Try.prog
    ((w.alloc (.cells (bcells t).toArray 74)).alloc (.cells (madeCells #[.int .u8 0] 64) 5)) = .ok (.int .i64 64) ((w.alloc (.cells (bcells t).toArray 74)).alloc (.cells (bcells t).toArray 5)) := by
  have hl : (bcells t).length = 64 := by rw [bcells_len]; exact h
  have := run_copy_row (P := Try.prog) ((w.alloc (.cells (bcells t).toArray 74)).alloc (.cells (madeCells #[.int .u8 0] 64) 5)) 22 22 3 5 (w.heap.size + 1) 0 64 64 ⟨w.heap.size, 0, none⟩ 64 64 (madeCells #[.int .u8 0] 64) 5 (bcells t) Try.underlying22 info_u8b (last2 _ _ _) (by rw [hl]; rfl) (cells_range (last1 _ _ _)) (by simp [size_madeCells, hl]) (bcells_one t)
  rw [this]
  have e : ((madeCells #[Value.int .u8 0] 64).toList.take 0 ++ (bcells t ++ (madeCells #[Value.int .u8 0] 64).toList.drop (0 + (bcells t).length))).toArray = (bcells t).toArray := by
    rw [List.take_zero, List.drop_eq_nil_of_le (by simp [size_madeCells, hl])]
    simp
  have e2 := World.setRow_alloc_new (w.alloc (.cells (bcells t).toArray 74)) (madeCells #[.int .u8 0] 64) (bcells t).toArray 5
  have e3 : (w.alloc (.cells (bcells t).toArray 74)).heap.size = w.heap.size + 1 := by simp
  rw [e3] at e2
  first
    | (simp only [List.append_assoc] at e ⊢; rw [e, e2, hl]; rfl)
    | (rw [e, e2, hl]; rfl)

set_option maxHeartbeats 1000000 in
set_option maxRecDepth 1000000 in
theorem read_ok {w : World} {B : Nat} {S : List Nat} {d : Dk} (h : DkAt w B S d) (i : Nat) (hi : i < d.sure.length) :
    Calls Try.prog 20 #[.pointer (some ⟨B, 0, none⟩), .int .i64 (i : Int)] w fun e w' =>
      e = .returned (.tuple #[.slice (some ⟨w.heap.size + 1, 0, none⟩) 64 64, .int .i64 0]) ∧ w'.heap[w.heap.size + 1]? = some (.cells (bcells (d.view i)).toArray 5 (0, 0)) ∧ Below w.heap.size w w' := by
  obtain ⟨G, M, cap, F, D, rfl, h⟩ := h
  have kt := there_ok h
  have kh := has_ok h i
  rw [show decide (0 ≤ (i : Int) ∧ (i : Int) < (d.sure.length : Int)) = true by simp; omega] at kh
  have hmax := h.ok.max
  have hcap := h.cap
  unfold maxLen at hcap
  have hvl := Dk.view_len h.ok hi
  obtain ⟨c0, c1, c2, c3⟩ := h.cells
  obtain ⟨v, ps, hrun, hv⟩ := h.map.look_ok law_int Try.underlying38 (zero_sec.1 w) (by rw [zsec_eq]; exact secR_mk (by simp)) (keyOf_int_mk Try.underlying3 (a := (i : Int)) (WalkArith.wf_i64 (by omega)))
  obtain ⟨s, hs64, rfl, hse⟩ := secR_inv hv
  rw [h.fresh.has] at hrun
  rw [h.fresh.at_] at hse
  have hG := (h.sure.lt G rfl).2
  have hr := sec_range h hi
  have hl := h.ok.len i hi
  have hz := zero_sec.1
  have hcz : (Value.agg zsec).cells = zsec := rfl
  have his := zero_sec.2
  have hi1 : (Try.prog.info? 74).map (·.size) = some (bcells s).toArray.size := by rw [his]; simp [bcells_len, hs64]
  have hi2 : (Try.prog.info? 74).map (·.size) = some (bcells (d.sure[i]'hi)).length := by rw [his]; simp [bcells_len, hl]
  have hi3 : (Try.prog.info? 74).map (·.size) = some (bcells (d.sure[i]'hi)).toArray.size := by rw [his]; simp [bcells_len, hl]
  have hview : d.view i = (lastAt d.ws i).getD (d.sure[i]'hi) := by unfold Dk.view; congr 1; simp [List.getD_eq_getElem?_getD, hi]
  have hmk : ∀ W : World, (Instr.makeSlice 22 (.int .i64 64) (.int .i64 64)).run Try.prog W = .ok (.slice (some ⟨W.heap.size, 0, none⟩) 64 64) (W.alloc (.cells (madeCells #[.int .u8 0] 64) 5)) := fun W =>
    run_make_row' 22 5 (.int .u8 0) 1 Try.underlying22 info_u8 rfl .i64 .i64 64 (by omega) (by omega) W
  have hb0 : ∀ j, j < w.heap.size → (w.alloc (.cells zsec 74)).heap[j]? = w.heap[j]? := fun j hj => Below.heap_alloc _ _ _ hj
  have hnew : (w.alloc (.cells zsec 74)).heap[w.heap.size]? = some (.cells zsec 74 (0, 0)) := heap_alloc_last _ _
  cases hla : lastAt d.ws i with
  | some t =>
    rw [hla] at hrun hse hview
    simp only [Option.isSome_some, Option.map_some, Option.getD_some, Prod.mk.injEq, DataW.lit.injEq, Lit.string.injEq] at hrun hse hview
    obtain ⟨he, -⟩ := hse
    subst he
    clear hv hla hr hi2 hi3 h
    have ht64 := hs64
    have hcp := run_copy_sec w t ht64
    go_enter Try.func20, Try.ntmps20
    go_wp2_with (first
      | (go_at_call 31; refine kt.mono ?_; rintro e w' ⟨rfl, rfl⟩)
      | (go_at_call 33; refine kh.mono ?_; rintro e w' ⟨rfl, rfl⟩)
      | (refine wpList_store_row rfl 74 (.tmp 6) (.tmp 23) rfl w.heap.size (bcells t).toArray rfl rfl 74 zsec hnew hi1 (by simp [zsec_size, bcells_len, hs64]) (bcells_all t) ?_; rw [World.setRow_alloc_new]))
    go_ret2
    rw [hview]
    exact ⟨rfl, last2 _ _ _, ((Below.refl _ _).alloc (Nat.le_refl _) _).alloc (by simp) _⟩
  | none =>
    rw [hla] at hrun hse hview
    simp only [Option.isSome_none, Option.map_none, Option.getD_none] at hrun hse hview
    clear hv hla hse h
    generalize d.sure[i]'hi = t at *
    have ht64 := hl
    have ca : ∀ o : Obj, (w.alloc o).cell? ⟨B, 0, none⟩ = some (.slice (some ⟨G, 0, none⟩) d.sure.length cap) := fun o => (World.cell?_alloc_lt _ _ _ (World.block_lt_of_cell? w _ c0)).trans c0
    have hcp := run_copy_sec w t ht64
    go_enter Try.func20, Try.ntmps20
    go_wp2_with (first
      | (go_at_call 31; refine kt.mono ?_; rintro e w' ⟨rfl, rfl⟩)
      | (go_at_call 33; refine kh.mono ?_; rintro e w' ⟨rfl, rfl⟩)
      | (refine wpList_store_row rfl 74 (.tmp 6) (.tmp 23) rfl w.heap.size (bcells s).toArray rfl rfl 74 zsec hnew hi1 (by simp [zsec_size, bcells_len, hs64]) (bcells_all s) ?_; rw [World.setRow_alloc_new])
      | (refine wpList_load_mid rfl 74 (.tmp 32) rfl G (i * 64) rfl (bcells t) _ (World.rangeAt_alloc hr _) Try.underlying74 rfl hi2 ?_)
      | (refine wpList_store_row rfl 74 (.tmp 6) (.tmp 33) rfl w.heap.size (bcells t).toArray rfl rfl 74 (bcells s).toArray (heap_alloc_last _ _) hi3 (by simp [bcells_len, hs64, ht64]) (bcells_all t) ?_; rw [World.setRow_alloc_new]))
    go_ret2
    rw [hview]
    exact ⟨rfl, last2 _ _ _, ((Below.refl _ _).alloc (Nat.le_refl _) _).alloc (by simp) _⟩
end Go.Proofs.Ytjaidhglemnakaa
