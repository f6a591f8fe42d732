/- The walk of SectorsTorn. -/
import Derived.Test.YtapfkoojplbfmaaDSeen
import Derived.Test.YtapfkoojplbfmaaDArr
import Derived.Test.YtapfkoojplbfmaaGSame
set_option linter.unusedSimpArgs false
set_option linter.unusedVariables false
namespace Go.Proofs.Ytapfkoojplbfmaa
open Go.RowKit Go.Maps Go.ChangeShapes Go.WideShapes

theorem pad_full {s : Sec} (h : s.length = 64) : pad s = s := by simp [pad, h]
def dT (a b : Sec) : Dk := ((Dk.new 3).write 1 a).sync.write 1 b
theorem dT_view (a b : Sec) (hb : b.length = 64) : (dT a b).view 1 = b := by
  unfold dT
  rw [Dk.view_write, if_pos rfl, pad_full hb]
theorem dT_sure (a b : Sec) (ha : a.length = 64) : (dT a b).sure = [z64, a, z64] := by
  show (List.range 3).map (((Dk.new 3).write 1 a).view) = _
  have h0 : ((Dk.new 3).write 1 a).view 0 = z64 := by rw [Dk.view_write, if_neg (by decide), Dk.view_new (by decide)]; rfl
  have h1 : ((Dk.new 3).write 1 a).view 1 = a := by rw [Dk.view_write, if_pos rfl, pad_full ha]
  have h2 : ((Dk.new 3).write 1 a).view 2 = z64 := by rw [Dk.view_write, if_neg (by decide), Dk.view_new (by decide)]; rfl
  rw [show List.range 3 = [0, 1, 2] from by decide, List.map_cons, List.map_cons, List.map_cons, List.map_nil, h0, h1, h2]
theorem dT_ws (a b : Sec) (hb : b.length = 64) : (dT a b).ws = [(1, b)] := by
  show [] ++ [(1, pad b)] = _
  rw [pad_full hb]
  rfl
theorem dT_fail (a b : Sec) (ha : a.length = 64) (hb : b.length = 64) (keep : Nat) (torn : Int) : ((dT a b).fail keep torn).view 1 = if keep.testBit 0 = true then lay (tornN torn 0) a b else a := by
  unfold Dk.view Dk.fail
  rw [dT_ws a b hb, dT_sure a b ha]
  simp only [lastAt, Option.getD_none, List.length_cons, List.length_nil, show min 64 (0 + 1) = 1 from by decide, failTo, failStep, List.getElem?_cons_zero]
  split
  · simp
  · simp
theorem dT_len (a b : Sec) (ha : a.length = 64) : (dT a b).sure.length = 3 := by rw [dT_sure a b ha]; rfl
theorem lay_get {a b : Sec} (ha : a.length = 64) (hb : b.length = 64) {q : Nat} (hq : q < 64) : (lay 32 a b)[q]? = if q < 32 then b[q]? else a[q]? := by
  unfold lay
  by_cases h : q < 32
  · rw [if_pos h, List.getElem?_append_left (by simp; omega), List.getElem?_take, if_pos h]
  · rw [if_neg h, List.getElem?_append_right (by simp; omega), List.getElem?_drop]
    congr 1
    simp
    omega
theorem bools_cell {w : World} {g : Nat} {x y : Bool} {t : TypeId} (h : w.heap[g]? = some (.cells #[.bool x, .bool y] t (0, 0))) : w.cell? ⟨g, 0, none⟩ = some (.bool x) ∧ w.cell? ⟨g, 1, none⟩ = some (.bool y) := pair_cell h

set_option maxHeartbeats 8000000 in
set_option maxRecDepth 1000000 in
theorem torn_false_false (w : World) (a b : Sec) (ha : a.length = 64) (hb : b.length = 64) :
    Calls Try.prog 6 #[.agg (bcells a).toArray, .agg (bcells b).toArray, .agg #[.bool false, .bool false]] w fun e w' => e = .returned (.bool true) ∧ Below w.heap.size w w' := by
  have hi64 : (Try.prog.info? 48).map (·.size) = some 64 := by kernel_rfl
  have hbox : ∀ (W : World) (s : Sec), s.length = 64 → (Instr.box 48 (.agg (bcells s).toArray)).run Try.prog W = .ok (.pointer (some ⟨W.heap.size, 0, none⟩)) (W.alloc (.cells (bcells s).toArray 48)) := fun W s hs => by
    simp [Instr.box, newVar, newRow, Value.cells]
  have hba := fun W => hbox W a ha
  have hbb := fun W => hbox W b hb
  clear hbox
  obtain ⟨W0, hW0⟩ : ∃ W0, Hid (W0 = ((w.alloc (.cells (bcells a).toArray 48)).alloc (.cells (bcells b).toArray 48)).alloc (.cells #[.bool false, .bool false] 49)) := ⟨_, rfl⟩
  have hB0 : Below w.heap.size w W0 := by rw [hW0.out]; exact (((Below.refl _ _).alloc (Nat.le_refl _) _).alloc (by simp) _).alloc (by simp; omega) _
  have hZ0 : W0.heap.size = w.heap.size + 3 := by rw [hW0.out]; simp
  have ra : W0.heap[w.heap.size]? = some (.cells (bcells a).toArray 48 (0, 0)) := by rw [hW0.out]; exact alloc_block (last1 _ _ _) _
  have rb : W0.heap[w.heap.size + 1]? = some (.cells (bcells b).toArray 48 (0, 0)) := by rw [hW0.out]; exact alloc_block (last2 _ _ _) _
  have rh : W0.heap[w.heap.size + 2]? = some (.cells #[.bool false, .bool false] 49 (0, 0)) := by
    rw [hW0.out]
    have := heap_alloc_last ((w.alloc (.cells (bcells a).toArray 48)).alloc (.cells (bcells b).toArray 48)) (.cells #[.bool false, .bool false] 49)
    simpa using this
  have up : ∀ {W : World} {o : Obj} {g : Nat}, Below W0.heap.size W0 W → W0.heap[g]? = some o → W.heap[g]? = some o := fun hW h => (hW.block _ (lt_of_block h)).trans h
  have hdl := dT_len a b ha
  have hdv := dT_view a b hb
  have hdf := dT_fail a b ha hb 0 1
  have hdw : (dT a b).ws.length = 1 := by rw [dT_ws a b hb]; rfl
  have hfl : ((dT a b).fail 0 1).sure.length = 3 := by unfold Dk.fail; rw [failTo_len]; exact hdl
  obtain ⟨dt, hdt⟩ : ∃ dt, Hid (dt = dT a b) := ⟨_, rfl⟩
  rw [← hdt.out] at hdl hdv hdf hdw hfl
  go_enter Try.func6, Try.ntmps6
  go_wp2_with fail
  rw [← hW0.out]
  clear hba hbb hW0
  refine (new_own W0 3 (by omega) (by omega)).mono ?_
  rintro e w1 ⟨B, rfl, b1, o1⟩
  go_wp2_with fail
  refine (write_own o1 b1.size 1 (by decide) _ a (row_in (up b1 ra) 64 ha.symm (by omega)) (by omega) (by decide)).mono ?_
  rintro e w2 ⟨rfl, o2, b2'⟩
  have b2 := b1.trans b2'
  clear o1 b1 b2'
  go_wp2_with fail
  refine (sync_own o2 b2.size).mono ?_
  rintro e w3 ⟨rfl, o3, b3'⟩
  have b3 := b2.trans b3'
  clear o2 b2 b3'
  go_wp2_with fail
  refine (write_own o3 b3.size 1 (by show 1 < ((List.range 3).map _).length; simp) _ b (row_in (up b3 rb) 64 hb.symm (by omega)) (by omega) (by show 0 ≤ 1000000; omega)).mono ?_
  rintro e w4 ⟨rfl, o4', b4'⟩
  have o4 : Own W0.heap.size w4 B dt := by rw [hdt.out]; exact o4'
  have b4 := b3.trans b4'
  have hc4 := bools_cell (up b4 rh)
  have hc40 := hc4.1
  have hc41 := hc4.2
  clear o3 b3 b4' hdt o4'
  go_wp2_with fail
  refine (al_fail o4 b4 b4.size 0 (by decide) 0 rfl 1 (by decide)).mono ?_
  rintro e w5 ⟨B2, rfl, b5, c5, f5⟩
  have o5 := o4.below c5
  clear o4 b4 c5 hc4 hc40 hc41
  go_wp2_with fail
  refine (read_own f5 1 (by rw [hfl]; omega)).mono ?_
  rintro e w6 ⟨rfl, r6, c6⟩
  have o6 := o5.below c6
  have b6 := b5.trans (c6.mono b5.size)
  clear o5 b5 f5 c6
  rw [hdf] at r6
  go_wp2_with fail
  refine (read_own o6 1 (by rw [hdl]; omega)).mono ?_
  rintro e w7 ⟨rfl, r7, c7⟩
  rw [hdv] at r7
  have r67 := (c7.block _ (lt_of_block r6)).trans r6
  have b7 := b6.trans (c7.mono b6.size)
  clear r6 b6 c7
  go_wp2_with fail
  refine (sameBytes_any w7 _ _ _ _ b (row_in r7 64 hb.symm (by omega)) (row_in (up b7 rb) 64 hb.symm (by omega))).mono ?_
  rintro e w8 ⟨rfl, n8, hw8⟩
  have b8 : Below W0.heap.size W0 w8 := by rw [hw8]; exact b7.trans ((below_drewN w7 n8).mono b7.size)
  have r8 := (show w8.heap[w5.heap.size + 1]? = w7.heap[w5.heap.size + 1]? by rw [hw8]; rfl).trans r67
  have ra8 := up b8 ra
  have rb8 := up b8 rb
  have hh := bools_cell (up b8 rh)
  have hh0 := hh.1
  have hh1 := hh.2
  clear b7 r67 r7 hw8 ra rb rh up hh hdl hdv hdf hdw hfl
  go_wp2_with fail
  generalize w5.heap.size + 1 = gx at *
  go_loopw [17] (fun i wq => wq = w8 ∧ ∃ q : Nat, q ≤ 64 ∧ i = .int .i64 (q : Int)) (fun i _ => 64 - (intOf i).toNat)
  case atStart => exact ⟨rfl, 0, by omega, rfl⟩
  case round =>
    obtain ⟨rfl, q, hq, rfl⟩ := hrel
    by_cases hq64 : q < 64
    · have q1 : (q : Int) < 64 := by omega
      have ca := row_cell ra8 (List.getElem?_eq_getElem (show q < a.length by omega))
      have cb := row_cell rb8 (List.getElem?_eq_getElem (show q < b.length by omega))
      have cx := row_cell r8 (c := a[q]'(by omega)) (by simp only [show Nat.testBit 0 0 = false from by decide, Bool.false_eq_true, if_false]; exact List.getElem?_eq_getElem _)
      clear ra8 rb8 r8
      generalize b[q]'(by omega) = yb at *
      generalize a[q]'(by omega) = ya at *
      go_wp2
      go_roundw
      case rel => exact ⟨trivial, q + 1, by omega, by go_num⟩
      case measure => simp [intOf]; omega
    · have q1 : ¬ (q : Int) < 64 := by omega
      clear ra8 rb8 r8
      go_wp2_with fail
      refine (alive_any _).mono ?_
      rintro e w9 ⟨rfl, b9⟩
      go_wp2
      go_ret
      have := b8.size
      exact ⟨rfl, (hB0.trans (b8.mono (by omega))).trans (b9.mono (by omega))⟩

set_option maxHeartbeats 8000000 in
set_option maxRecDepth 1000000 in
theorem torn_false_true (w : World) (a b : Sec) (ha : a.length = 64) (hb : b.length = 64) :
    Calls Try.prog 6 #[.agg (bcells a).toArray, .agg (bcells b).toArray, .agg #[.bool false, .bool true]] w fun e w' => e = .returned (.bool true) ∧ Below w.heap.size w w' := by
  have hi64 : (Try.prog.info? 48).map (·.size) = some 64 := by kernel_rfl
  have hbox : ∀ (W : World) (s : Sec), s.length = 64 → (Instr.box 48 (.agg (bcells s).toArray)).run Try.prog W = .ok (.pointer (some ⟨W.heap.size, 0, none⟩)) (W.alloc (.cells (bcells s).toArray 48)) := fun W s hs => by
    simp [Instr.box, newVar, newRow, Value.cells]
  have hba := fun W => hbox W a ha
  have hbb := fun W => hbox W b hb
  clear hbox
  obtain ⟨W0, hW0⟩ : ∃ W0, Hid (W0 = ((w.alloc (.cells (bcells a).toArray 48)).alloc (.cells (bcells b).toArray 48)).alloc (.cells #[.bool false, .bool true] 49)) := ⟨_, rfl⟩
  have hB0 : Below w.heap.size w W0 := by rw [hW0.out]; exact (((Below.refl _ _).alloc (Nat.le_refl _) _).alloc (by simp) _).alloc (by simp; omega) _
  have hZ0 : W0.heap.size = w.heap.size + 3 := by rw [hW0.out]; simp
  have ra : W0.heap[w.heap.size]? = some (.cells (bcells a).toArray 48 (0, 0)) := by rw [hW0.out]; exact alloc_block (last1 _ _ _) _
  have rb : W0.heap[w.heap.size + 1]? = some (.cells (bcells b).toArray 48 (0, 0)) := by rw [hW0.out]; exact alloc_block (last2 _ _ _) _
  have rh : W0.heap[w.heap.size + 2]? = some (.cells #[.bool false, .bool true] 49 (0, 0)) := by
    rw [hW0.out]
    have := heap_alloc_last ((w.alloc (.cells (bcells a).toArray 48)).alloc (.cells (bcells b).toArray 48)) (.cells #[.bool false, .bool true] 49)
    simpa using this
  have up : ∀ {W : World} {o : Obj} {g : Nat}, Below W0.heap.size W0 W → W0.heap[g]? = some o → W.heap[g]? = some o := fun hW h => (hW.block _ (lt_of_block h)).trans h
  have hdl := dT_len a b ha
  have hdv := dT_view a b hb
  have hdf := dT_fail a b ha hb 0 0
  have hdw : (dT a b).ws.length = 1 := by rw [dT_ws a b hb]; rfl
  have hfl : ((dT a b).fail 0 0).sure.length = 3 := by unfold Dk.fail; rw [failTo_len]; exact hdl
  obtain ⟨dt, hdt⟩ : ∃ dt, Hid (dt = dT a b) := ⟨_, rfl⟩
  rw [← hdt.out] at hdl hdv hdf hdw hfl
  go_enter Try.func6, Try.ntmps6
  go_wp2_with fail
  rw [← hW0.out]
  clear hba hbb hW0
  refine (new_own W0 3 (by omega) (by omega)).mono ?_
  rintro e w1 ⟨B, rfl, b1, o1⟩
  go_wp2_with fail
  refine (write_own o1 b1.size 1 (by decide) _ a (row_in (up b1 ra) 64 ha.symm (by omega)) (by omega) (by decide)).mono ?_
  rintro e w2 ⟨rfl, o2, b2'⟩
  have b2 := b1.trans b2'
  clear o1 b1 b2'
  go_wp2_with fail
  refine (sync_own o2 b2.size).mono ?_
  rintro e w3 ⟨rfl, o3, b3'⟩
  have b3 := b2.trans b3'
  clear o2 b2 b3'
  go_wp2_with fail
  refine (write_own o3 b3.size 1 (by show 1 < ((List.range 3).map _).length; simp) _ b (row_in (up b3 rb) 64 hb.symm (by omega)) (by omega) (by show 0 ≤ 1000000; omega)).mono ?_
  rintro e w4 ⟨rfl, o4', b4'⟩
  have o4 : Own W0.heap.size w4 B dt := by rw [hdt.out]; exact o4'
  have b4 := b3.trans b4'
  have hc4 := bools_cell (up b4 rh)
  have hc40 := hc4.1
  have hc41 := hc4.2
  clear o3 b3 b4' hdt o4'
  go_wp2_with fail
  refine (al_fail o4 b4 b4.size 0 (by decide) 0 rfl 0 (by decide)).mono ?_
  rintro e w5 ⟨B2, rfl, b5, c5, f5⟩
  have o5 := o4.below c5
  clear o4 b4 c5 hc4 hc40 hc41
  go_wp2_with fail
  refine (read_own f5 1 (by rw [hfl]; omega)).mono ?_
  rintro e w6 ⟨rfl, r6, c6⟩
  have o6 := o5.below c6
  have b6 := b5.trans (c6.mono b5.size)
  clear o5 b5 f5 c6
  rw [hdf] at r6
  go_wp2_with fail
  refine (read_own o6 1 (by rw [hdl]; omega)).mono ?_
  rintro e w7 ⟨rfl, r7, c7⟩
  rw [hdv] at r7
  have r67 := (c7.block _ (lt_of_block r6)).trans r6
  have b7 := b6.trans (c7.mono b6.size)
  clear r6 b6 c7
  go_wp2_with fail
  refine (sameBytes_any w7 _ _ _ _ b (row_in r7 64 hb.symm (by omega)) (row_in (up b7 rb) 64 hb.symm (by omega))).mono ?_
  rintro e w8 ⟨rfl, n8, hw8⟩
  have b8 : Below W0.heap.size W0 w8 := by rw [hw8]; exact b7.trans ((below_drewN w7 n8).mono b7.size)
  have r8 := (show w8.heap[w5.heap.size + 1]? = w7.heap[w5.heap.size + 1]? by rw [hw8]; rfl).trans r67
  have ra8 := up b8 ra
  have rb8 := up b8 rb
  have hh := bools_cell (up b8 rh)
  have hh0 := hh.1
  have hh1 := hh.2
  clear b7 r67 r7 hw8 ra rb rh up hh hdl hdv hdf hdw hfl
  go_wp2_with fail
  generalize w5.heap.size + 1 = gx at *
  go_loopw [17] (fun i wq => wq = w8 ∧ ∃ q : Nat, q ≤ 64 ∧ i = .int .i64 (q : Int)) (fun i _ => 64 - (intOf i).toNat)
  case atStart => exact ⟨rfl, 0, by omega, rfl⟩
  case round =>
    obtain ⟨rfl, q, hq, rfl⟩ := hrel
    by_cases hq64 : q < 64
    · have q1 : (q : Int) < 64 := by omega
      have ca := row_cell ra8 (List.getElem?_eq_getElem (show q < a.length by omega))
      have cb := row_cell rb8 (List.getElem?_eq_getElem (show q < b.length by omega))
      have cx := row_cell r8 (c := a[q]'(by omega)) (by simp only [show Nat.testBit 0 0 = false from by decide, Bool.false_eq_true, if_false]; exact List.getElem?_eq_getElem _)
      clear ra8 rb8 r8
      generalize b[q]'(by omega) = yb at *
      generalize a[q]'(by omega) = ya at *
      go_wp2
      go_roundw
      case rel => exact ⟨trivial, q + 1, by omega, by go_num⟩
      case measure => simp [intOf]; omega
    · have q1 : ¬ (q : Int) < 64 := by omega
      clear ra8 rb8 r8
      go_wp2_with fail
      refine (alive_any _).mono ?_
      rintro e w9 ⟨rfl, b9⟩
      go_wp2
      go_ret
      have := b8.size
      exact ⟨rfl, (hB0.trans (b8.mono (by omega))).trans (b9.mono (by omega))⟩

set_option maxHeartbeats 8000000 in
set_option maxRecDepth 1000000 in
theorem torn_true_false (w : World) (a b : Sec) (ha : a.length = 64) (hb : b.length = 64) :
    Calls Try.prog 6 #[.agg (bcells a).toArray, .agg (bcells b).toArray, .agg #[.bool true, .bool false]] w fun e w' => e = .returned (.bool true) ∧ Below w.heap.size w w' := by
  have hi64 : (Try.prog.info? 48).map (·.size) = some 64 := by kernel_rfl
  have hbox : ∀ (W : World) (s : Sec), s.length = 64 → (Instr.box 48 (.agg (bcells s).toArray)).run Try.prog W = .ok (.pointer (some ⟨W.heap.size, 0, none⟩)) (W.alloc (.cells (bcells s).toArray 48)) := fun W s hs => by
    simp [Instr.box, newVar, newRow, Value.cells]
  have hba := fun W => hbox W a ha
  have hbb := fun W => hbox W b hb
  clear hbox
  obtain ⟨W0, hW0⟩ : ∃ W0, Hid (W0 = ((w.alloc (.cells (bcells a).toArray 48)).alloc (.cells (bcells b).toArray 48)).alloc (.cells #[.bool true, .bool false] 49)) := ⟨_, rfl⟩
  have hB0 : Below w.heap.size w W0 := by rw [hW0.out]; exact (((Below.refl _ _).alloc (Nat.le_refl _) _).alloc (by simp) _).alloc (by simp; omega) _
  have hZ0 : W0.heap.size = w.heap.size + 3 := by rw [hW0.out]; simp
  have ra : W0.heap[w.heap.size]? = some (.cells (bcells a).toArray 48 (0, 0)) := by rw [hW0.out]; exact alloc_block (last1 _ _ _) _
  have rb : W0.heap[w.heap.size + 1]? = some (.cells (bcells b).toArray 48 (0, 0)) := by rw [hW0.out]; exact alloc_block (last2 _ _ _) _
  have rh : W0.heap[w.heap.size + 2]? = some (.cells #[.bool true, .bool false] 49 (0, 0)) := by
    rw [hW0.out]
    have := heap_alloc_last ((w.alloc (.cells (bcells a).toArray 48)).alloc (.cells (bcells b).toArray 48)) (.cells #[.bool true, .bool false] 49)
    simpa using this
  have up : ∀ {W : World} {o : Obj} {g : Nat}, Below W0.heap.size W0 W → W0.heap[g]? = some o → W.heap[g]? = some o := fun hW h => (hW.block _ (lt_of_block h)).trans h
  have hdl := dT_len a b ha
  have hdv := dT_view a b hb
  have hdf := dT_fail a b ha hb 1 1
  have hdw : (dT a b).ws.length = 1 := by rw [dT_ws a b hb]; rfl
  have hfl : ((dT a b).fail 1 1).sure.length = 3 := by unfold Dk.fail; rw [failTo_len]; exact hdl
  obtain ⟨dt, hdt⟩ : ∃ dt, Hid (dt = dT a b) := ⟨_, rfl⟩
  rw [← hdt.out] at hdl hdv hdf hdw hfl
  go_enter Try.func6, Try.ntmps6
  go_wp2_with fail
  rw [← hW0.out]
  clear hba hbb hW0
  refine (new_own W0 3 (by omega) (by omega)).mono ?_
  rintro e w1 ⟨B, rfl, b1, o1⟩
  go_wp2_with fail
  refine (write_own o1 b1.size 1 (by decide) _ a (row_in (up b1 ra) 64 ha.symm (by omega)) (by omega) (by decide)).mono ?_
  rintro e w2 ⟨rfl, o2, b2'⟩
  have b2 := b1.trans b2'
  clear o1 b1 b2'
  go_wp2_with fail
  refine (sync_own o2 b2.size).mono ?_
  rintro e w3 ⟨rfl, o3, b3'⟩
  have b3 := b2.trans b3'
  clear o2 b2 b3'
  go_wp2_with fail
  refine (write_own o3 b3.size 1 (by show 1 < ((List.range 3).map _).length; simp) _ b (row_in (up b3 rb) 64 hb.symm (by omega)) (by omega) (by show 0 ≤ 1000000; omega)).mono ?_
  rintro e w4 ⟨rfl, o4', b4'⟩
  have o4 : Own W0.heap.size w4 B dt := by rw [hdt.out]; exact o4'
  have b4 := b3.trans b4'
  have hc4 := bools_cell (up b4 rh)
  have hc40 := hc4.1
  have hc41 := hc4.2
  clear o3 b3 b4' hdt o4'
  go_wp2_with fail
  refine (al_fail o4 b4 b4.size 1 (by decide) 1 rfl 1 (by decide)).mono ?_
  rintro e w5 ⟨B2, rfl, b5, c5, f5⟩
  have o5 := o4.below c5
  clear o4 b4 c5 hc4 hc40 hc41
  go_wp2_with fail
  refine (read_own f5 1 (by rw [hfl]; omega)).mono ?_
  rintro e w6 ⟨rfl, r6, c6⟩
  have o6 := o5.below c6
  have b6 := b5.trans (c6.mono b5.size)
  clear o5 b5 f5 c6
  rw [hdf] at r6
  go_wp2_with fail
  refine (read_own o6 1 (by rw [hdl]; omega)).mono ?_
  rintro e w7 ⟨rfl, r7, c7⟩
  rw [hdv] at r7
  have r67 := (c7.block _ (lt_of_block r6)).trans r6
  have b7 := b6.trans (c7.mono b6.size)
  clear r6 b6 c7
  go_wp2_with fail
  refine (sameBytes_any w7 _ _ _ _ b (row_in r7 64 hb.symm (by omega)) (row_in (up b7 rb) 64 hb.symm (by omega))).mono ?_
  rintro e w8 ⟨rfl, n8, hw8⟩
  have b8 : Below W0.heap.size W0 w8 := by rw [hw8]; exact b7.trans ((below_drewN w7 n8).mono b7.size)
  have r8 := (show w8.heap[w5.heap.size + 1]? = w7.heap[w5.heap.size + 1]? by rw [hw8]; rfl).trans r67
  have ra8 := up b8 ra
  have rb8 := up b8 rb
  have hh := bools_cell (up b8 rh)
  have hh0 := hh.1
  have hh1 := hh.2
  clear b7 r67 r7 hw8 ra rb rh up hh hdl hdv hdf hdw hfl
  go_wp2_with fail
  generalize w5.heap.size + 1 = gx at *
  go_loopw [17] (fun i wq => wq = w8 ∧ ∃ q : Nat, q ≤ 64 ∧ i = .int .i64 (q : Int)) (fun i _ => 64 - (intOf i).toNat)
  case atStart => exact ⟨rfl, 0, by omega, rfl⟩
  case round =>
    obtain ⟨rfl, q, hq, rfl⟩ := hrel
    by_cases hq64 : q < 64
    · have q1 : (q : Int) < 64 := by omega
      have ca := row_cell ra8 (List.getElem?_eq_getElem (show q < a.length by omega))
      have cb := row_cell rb8 (List.getElem?_eq_getElem (show q < b.length by omega))
      have cx := row_cell r8 (c := b[q]'(by omega)) (by simp only [show Nat.testBit 1 0 = true from by decide, if_true]; rw [show tornN 1 0 = 64 from by decide, lay_all ha hb]; exact List.getElem?_eq_getElem _)
      clear ra8 rb8 r8
      generalize b[q]'(by omega) = yb at *
      generalize a[q]'(by omega) = ya at *
      go_wp2
      go_roundw
      case rel => exact ⟨trivial, q + 1, by omega, by go_num⟩
      case measure => simp [intOf]; omega
    · have q1 : ¬ (q : Int) < 64 := by omega
      clear ra8 rb8 r8
      go_wp2_with fail
      refine (alive_any _).mono ?_
      rintro e w9 ⟨rfl, b9⟩
      go_wp2
      go_ret
      have := b8.size
      exact ⟨rfl, (hB0.trans (b8.mono (by omega))).trans (b9.mono (by omega))⟩

set_option maxHeartbeats 8000000 in
set_option maxRecDepth 1000000 in
theorem torn_true_true (w : World) (a b : Sec) (ha : a.length = 64) (hb : b.length = 64) :
    Calls Try.prog 6 #[.agg (bcells a).toArray, .agg (bcells b).toArray, .agg #[.bool true, .bool true]] w fun e w' => e = .returned (.bool true) ∧ Below w.heap.size w w' := by
  have hi64 : (Try.prog.info? 48).map (·.size) = some 64 := by kernel_rfl
  have hbox : ∀ (W : World) (s : Sec), s.length = 64 → (Instr.box 48 (.agg (bcells s).toArray)).run Try.prog W = .ok (.pointer (some ⟨W.heap.size, 0, none⟩)) (W.alloc (.cells (bcells s).toArray 48)) := fun W s hs => by
    simp [Instr.box, newVar, newRow, Value.cells]
  have hba := fun W => hbox W a ha
  have hbb := fun W => hbox W b hb
  clear hbox
  obtain ⟨W0, hW0⟩ : ∃ W0, Hid (W0 = ((w.alloc (.cells (bcells a).toArray 48)).alloc (.cells (bcells b).toArray 48)).alloc (.cells #[.bool true, .bool true] 49)) := ⟨_, rfl⟩
  have hB0 : Below w.heap.size w W0 := by rw [hW0.out]; exact (((Below.refl _ _).alloc (Nat.le_refl _) _).alloc (by simp) _).alloc (by simp; omega) _
  have hZ0 : W0.heap.size = w.heap.size + 3 := by rw [hW0.out]; simp
  have ra : W0.heap[w.heap.size]? = some (.cells (bcells a).toArray 48 (0, 0)) := by rw [hW0.out]; exact alloc_block (last1 _ _ _) _
  have rb : W0.heap[w.heap.size + 1]? = some (.cells (bcells b).toArray 48 (0, 0)) := by rw [hW0.out]; exact alloc_block (last2 _ _ _) _
  have rh : W0.heap[w.heap.size + 2]? = some (.cells #[.bool true, .bool true] 49 (0, 0)) := by
    rw [hW0.out]
    have := heap_alloc_last ((w.alloc (.cells (bcells a).toArray 48)).alloc (.cells (bcells b).toArray 48)) (.cells #[.bool true, .bool true] 49)
    simpa using this
  have up : ∀ {W : World} {o : Obj} {g : Nat}, Below W0.heap.size W0 W → W0.heap[g]? = some o → W.heap[g]? = some o := fun hW h => (hW.block _ (lt_of_block h)).trans h
  have hdl := dT_len a b ha
  have hdv := dT_view a b hb
  have hdf := dT_fail a b ha hb 1 0
  have hdw : (dT a b).ws.length = 1 := by rw [dT_ws a b hb]; rfl
  have hfl : ((dT a b).fail 1 0).sure.length = 3 := by unfold Dk.fail; rw [failTo_len]; exact hdl
  obtain ⟨dt, hdt⟩ : ∃ dt, Hid (dt = dT a b) := ⟨_, rfl⟩
  rw [← hdt.out] at hdl hdv hdf hdw hfl
  go_enter Try.func6, Try.ntmps6
  go_wp2_with fail
  rw [← hW0.out]
  clear hba hbb hW0
  refine (new_own W0 3 (by omega) (by omega)).mono ?_
  rintro e w1 ⟨B, rfl, b1, o1⟩
  go_wp2_with fail
  refine (write_own o1 b1.size 1 (by decide) _ a (row_in (up b1 ra) 64 ha.symm (by omega)) (by omega) (by decide)).mono ?_
  rintro e w2 ⟨rfl, o2, b2'⟩
  have b2 := b1.trans b2'
  clear o1 b1 b2'
  go_wp2_with fail
  refine (sync_own o2 b2.size).mono ?_
  rintro e w3 ⟨rfl, o3, b3'⟩
  have b3 := b2.trans b3'
  clear o2 b2 b3'
  go_wp2_with fail
  refine (write_own o3 b3.size 1 (by show 1 < ((List.range 3).map _).length; simp) _ b (row_in (up b3 rb) 64 hb.symm (by omega)) (by omega) (by show 0 ≤ 1000000; omega)).mono ?_
  rintro e w4 ⟨rfl, o4', b4'⟩
  have o4 : Own W0.heap.size w4 B dt := by rw [hdt.out]; exact o4'
  have b4 := b3.trans b4'
  have hc4 := bools_cell (up b4 rh)
  have hc40 := hc4.1
  have hc41 := hc4.2
  clear o3 b3 b4' hdt o4'
  go_wp2_with fail
  refine (al_fail o4 b4 b4.size 1 (by decide) 1 rfl 0 (by decide)).mono ?_
  rintro e w5 ⟨B2, rfl, b5, c5, f5⟩
  have o5 := o4.below c5
  clear o4 b4 c5 hc4 hc40 hc41
  go_wp2_with fail
  refine (read_own f5 1 (by rw [hfl]; omega)).mono ?_
  rintro e w6 ⟨rfl, r6, c6⟩
  have o6 := o5.below c6
  have b6 := b5.trans (c6.mono b5.size)
  clear o5 b5 f5 c6
  rw [hdf] at r6
  go_wp2_with fail
  refine (read_own o6 1 (by rw [hdl]; omega)).mono ?_
  rintro e w7 ⟨rfl, r7, c7⟩
  rw [hdv] at r7
  have r67 := (c7.block _ (lt_of_block r6)).trans r6
  have b7 := b6.trans (c7.mono b6.size)
  clear r6 b6 c7
  go_wp2_with fail
  refine (sameBytes_any w7 _ _ _ _ b (row_in r7 64 hb.symm (by omega)) (row_in (up b7 rb) 64 hb.symm (by omega))).mono ?_
  rintro e w8 ⟨rfl, n8, hw8⟩
  have b8 : Below W0.heap.size W0 w8 := by rw [hw8]; exact b7.trans ((below_drewN w7 n8).mono b7.size)
  have r8 := (show w8.heap[w5.heap.size + 1]? = w7.heap[w5.heap.size + 1]? by rw [hw8]; rfl).trans r67
  have ra8 := up b8 ra
  have rb8 := up b8 rb
  have hh := bools_cell (up b8 rh)
  have hh0 := hh.1
  have hh1 := hh.2
  clear b7 r67 r7 hw8 ra rb rh up hh hdl hdv hdf hdw hfl
  go_wp2_with fail
  generalize w5.heap.size + 1 = gx at *
  go_loopw [17] (fun i wq => wq = w8 ∧ ∃ q : Nat, q ≤ 64 ∧ i = .int .i64 (q : Int)) (fun i _ => 64 - (intOf i).toNat)
  case atStart => exact ⟨rfl, 0, by omega, rfl⟩
  case round =>
    obtain ⟨rfl, q, hq, rfl⟩ := hrel
    by_cases hq64 : q < 64
    · have q1 : (q : Int) < 64 := by omega
      have ca := row_cell ra8 (List.getElem?_eq_getElem (show q < a.length by omega))
      have cb := row_cell rb8 (List.getElem?_eq_getElem (show q < b.length by omega))
      by_cases h32 : q < 32
      · have q2 : (q : Int) < 32 := by omega
        have cx := row_cell r8 (c := b[q]'(by omega)) (by simp only [show Nat.testBit 1 0 = true from by decide, if_true]; rw [show tornN 0 0 = 32 from by decide, lay_get ha hb hq64, if_pos h32]; exact List.getElem?_eq_getElem _)
        clear ra8 rb8 r8
        generalize b[q]'(by omega) = yb at *
        generalize a[q]'(by omega) = ya at *
        go_wp2
        go_roundw
        case rel => exact ⟨trivial, q + 1, by omega, by go_num⟩
        case measure => simp [intOf]; omega
      · have q2 : ¬ (q : Int) < 32 := by omega
        have cx := row_cell r8 (c := a[q]'(by omega)) (by simp only [show Nat.testBit 1 0 = true from by decide, if_true]; rw [show tornN 0 0 = 32 from by decide, lay_get ha hb hq64, if_neg h32]; exact List.getElem?_eq_getElem _)
        clear ra8 rb8 r8
        generalize b[q]'(by omega) = yb at *
        generalize a[q]'(by omega) = ya at *
        go_wp2
        go_roundw
        case rel => exact ⟨trivial, q + 1, by omega, by go_num⟩
        case measure => simp [intOf]; omega
    · have q1 : ¬ (q : Int) < 64 := by omega
      clear ra8 rb8 r8
      go_wp2_with fail
      refine (alive_any _).mono ?_
      rintro e w9 ⟨rfl, b9⟩
      go_wp2
      go_ret
      have := b8.size
      exact ⟨rfl, (hB0.trans (b8.mono (by omega))).trans (b9.mono (by omega))⟩

theorem torn_any (w : World) (a b : Sec) (x y : Bool) (ha : a.length = 64) (hb : b.length = 64) :
    Calls Try.prog 6 #[.agg (bcells a).toArray, .agg (bcells b).toArray, .agg #[.bool x, .bool y]] w fun e w' => e = .returned (.bool true) ∧ Below w.heap.size w w' := by
  cases x <;> cases y
  · exact torn_false_false w a b ha hb
  · exact torn_false_true w a b ha hb
  · exact torn_true_false w a b ha hb
  · exact torn_true_true w a b ha hb
end Go.Proofs.Ytapfkoojplbfmaa
