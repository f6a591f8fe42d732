/- More steps of a region that draws its order: a map's store, a struct's literal, a list's literal, a store. -/
import Derived.Test.YtboinccdnaddmaaGreatDoorGStep
import Derived.Deep.RegionHeld3
import Derived.Deep.MidRow
import Derived.Great.BuildSlice
set_option linter.unusedSimpArgs false
set_option linter.unusedVariables false
namespace Go.Proofs.YtboinccdnaddmaaGreatDoor
open Go.RowKit

section
variable {P : Program} {ops : Array Oper} {o : Oper} {a : Act} {w : World} {K : Act → World → Prop} {Q : Exit → Act → World → Prop} {E : Prop}

theorem step_mapUpdate (hg : o.guard = none) (t : TypeId) (m k x : Operand) (hop : o.op = .mapUpdate t m k x) (vm vk vx : Value) (hm : a.eval m = vm) (hk : a.eval k = vk) (hx : a.eval x = vx) (w' : World)
    (hrun : (Instr.mapUpdate t vm vk vx).run P w = .ok () w') (hK : K (a.put o.dst undef) w') : if Region.wanted o (yielded ops a.tmps) = true then Oper.wp P o a w K Q else E := by
  have hw : Region.wanted o (yielded ops a.tmps) = true := by simp [Region.wanted, hg]
  rw [if_pos hw]
  unfold Oper.wp execOp
  simp only [hop, hm, hk, hx, Sem.run_bind, hrun, Result.andThen_ok]
  exact hK
theorem step_store (hg : o.guard = none) (t : TypeId) (x y : Operand) (hop : o.op = .store t x y) (vx vy : Value) (hx : a.eval x = vx) (hy : a.eval y = vy) (w' : World)
    (hrun : (Instr.storeAt t vx vy).run P w = .ok () w') (hK : K (a.put o.dst undef) w') : if Region.wanted o (yielded ops a.tmps) = true then Oper.wp P o a w K Q else E := by
  have hw : Region.wanted o (yielded ops a.tmps) = true := by simp [Region.wanted, hg]
  rw [if_pos hw]
  unfold Oper.wp execOp
  simp only [hop, hx, hy, Sem.run_bind, hrun, Result.andThen_ok]
  exact hK
theorem step_load (hg : o.guard = none) (t : TypeId) (x : Operand) (hop : o.op = .load t x) (vx v : Value) (hx : a.eval x = vx)
    (hrun : (Instr.loadAt t vx).run P w = .ok v w) (hK : K (a.put o.dst v) w) : if Region.wanted o (yielded ops a.tmps) = true then Oper.wp P o a w K Q else E := by
  have hw : Region.wanted o (yielded ops a.tmps) = true := by simp [Region.wanted, hg]
  rw [if_pos hw]
  unfold Oper.wp execOp
  simp only [hop, hx, Sem.run_bind, hrun, Result.andThen_ok]
  exact hK
theorem step_buildSlice (hg : o.guard = none) (t e : TypeId) (len : Nat) (parts : Array (Nat × Operand)) (ho : o.op = .buildSlice t len parts)
    (cells : Array Value) (vs : Array (Nat × Value)) (hvs : (parts.map fun (i, x) => (i, a.eval x)) = vs) (hrun : ∀ W : World, (Instr.buildSlice t len vs).run P W = .ok (.slice (some ⟨W.heap.size, 0, none⟩) len len) (W.alloc (.cells cells e)))
    (hK : K (a.put o.dst (.slice (some ⟨w.heap.size, 0, none⟩) len len)) (w.alloc (.cells cells e))) : if Region.wanted o (yielded ops a.tmps) = true then Oper.wp P o a w K Q else E := by
  have hw : Region.wanted o (yielded ops a.tmps) = true := by simp [Region.wanted, hg]
  rw [if_pos hw]
  unfold Oper.wp execOp
  simp only [ho, hvs, Sem.run_bind, hrun, Result.andThen_ok]
  exact hK
theorem step_buildSliceW (hw : Region.wanted o (yielded ops a.tmps) = true) (t e : TypeId) (len : Nat) (parts : Array (Nat × Operand)) (ho : o.op = .buildSlice t len parts)
    (cells : Array Value) (vs : Array (Nat × Value)) (hvs : (parts.map fun (i, x) => (i, a.eval x)) = vs) (hrun : ∀ W : World, (Instr.buildSlice t len vs).run P W = .ok (.slice (some ⟨W.heap.size, 0, none⟩) len len) (W.alloc (.cells cells e)))
    (hK : K (a.put o.dst (.slice (some ⟨w.heap.size, 0, none⟩) len len)) (w.alloc (.cells cells e))) : if Region.wanted o (yielded ops a.tmps) = true then Oper.wp P o a w K Q else E := by
  rw [if_pos hw]
  unfold Oper.wp execOp
  simp only [ho, hvs, Sem.run_bind, hrun, Result.andThen_ok]
  exact hK
theorem yieldsIf_build {S : World → Prop} (hw : Region.wanted o (yielded ops a.tmps) = true) (t : TypeId) (parts : Array (Nat × Operand)) (ho : o.op = .build t parts) (cells : Array Value) (vs : Array (Nat × Value)) (hvs : (parts.map fun (i, x) => (i, a.eval x)) = vs)
    (hb : P.built t vs.toList = some cells) : YieldsIf P ops S o (.agg cells) a :=
  .inl ⟨hw, fun w hw' => by
    unfold execOp
    simp only [ho, hvs, Sem.run_bind, run_build w t _ cells hb, Result.andThen_ok, Sem.run_pure]⟩
theorem yieldsIf_load {S : World → Prop} (hw : Region.wanted o (yielded ops a.tmps) = true) (t : TypeId) (x : Operand) (ho : o.op = .load t x) (vx v : Value) (hx : a.eval x = vx)
    (hrun : ∀ w, S w → (Instr.loadAt t vx).run P w = .ok v w) : YieldsIf P ops S o v a :=
  .inl ⟨hw, fun w hw' => by
    unfold execOp
    simp only [ho, hx, Sem.run_bind, hrun w hw', Result.andThen_ok, Sem.run_pure]⟩
end
/-- A struct's literal of two parts that fill it. -/
theorem fill_two {n m : Nat} (cells : Array Value) (x y : Value) (hx : x.cells.size = n) (hy : y.cells.size = m) (hc : cells.size = n + m) (place : Nat → Option (Nat × Nat)) (h0 : place 0 = some (0, n)) (h1 : place 1 = some (n, m)) :
    Instr.fill place cells [(0, x), (1, y)] = some (x.cells.toList ++ y.cells.toList).toArray := by
  obtain ⟨a1, a2⟩ := Great.foldl_set 0 x.cells.toList 0 cells
  obtain ⟨b1, b2⟩ := Great.foldl_set n y.cells.toList 0 ((x.cells.toList.zipIdx 0).foldl (fun cs (x : Value × Nat) => cs.setIfInBounds (0 + x.2) x.1) cells)
  unfold Instr.fill
  simp only [h0]
  rw [if_neg (by simp; omega)]
  unfold Instr.fill
  simp only [h1]
  rw [← Array.foldl_toList, Array.toList_zipIdx, if_neg (by rw [a1]; simp; omega), ← Array.foldl_toList, Array.toList_zipIdx]
  unfold Instr.fill
  congr 1
  apply Array.ext_getElem?
  intro k
  rw [b2 k, a2 k]
  simp only [a1, Array.length_toList, hx, hy, hc, List.getElem?_toArray]
  by_cases hk : k < n
  · rw [if_neg (by omega), if_pos (by omega), List.getElem?_append_left (by simp; omega)]
    simp
  · rw [List.getElem?_append_right (by simp; omega)]
    by_cases hk2 : k < n + m
    · rw [if_pos (by omega)]
      simp [hx]
    · rw [if_neg (by omega), if_neg (by omega), Array.getElem?_eq_none (by omega), List.getElem?_eq_none (by simp; omega)]
/-- A list's literal of one element that has many cells. -/
theorem fill_one {m : Nat} (cells : Array Value) (y : Value) (hy : y.cells.size = m) (hc : cells.size = m) (place : Nat → Option (Nat × Nat)) (h0 : place 0 = some (0, m)) :
    Instr.fill place cells [(0, y)] = some y.cells := by
  obtain ⟨b1, b2⟩ := Great.foldl_set 0 y.cells.toList 0 cells
  unfold Instr.fill
  simp only [h0]
  rw [if_neg (by simp; omega), ← Array.foldl_toList, Array.toList_zipIdx]
  unfold Instr.fill
  congr 1
  apply Array.ext_getElem?
  intro k
  rw [b2 k]
  simp only [Array.length_toList, hy, hc]
  by_cases hk : k < m
  · rw [if_pos (by omega)]; simp
  · rw [if_neg (by omega), Array.getElem?_eq_none (by omega), Array.getElem?_eq_none (by omega)]
theorem built_two {P : Program} {t : TypeId} {it : TypeInfo} {z : Value} {fields : Array Field} {n m : Nat} (hi : P.info? t = some it) (hz : it.zero = some z) (hs : z.cells.size = n + m) (hu : P.underlying t = some (.struct fields))
    (hp : fields.toList.mapM (fun f => (P.info? f.type).map fun i => (f.offset, i.size)) = some [(0, n), (n, m)]) (x y : Value) (hx : x.cells.size = n) (hy : y.cells.size = m) :
    P.built t [(0, x), (1, y)] = some (x.cells.toList ++ y.cells.toList).toArray := by
  unfold Program.built
  simp only [hi, hu, hz, hp]
  exact fill_two z.cells x y hx hy hs _ rfl rfl
theorem run_buildSlice_one {P : Program} (t e : TypeId) {ie : TypeInfo} {z : Value} {m : Nat} (hu : P.underlying t = some (.slice e)) (hie : P.info? e = some ie) (hz : ie.zero = some z) (hm : ie.size = m) (h0 : 0 < m) (hsm : m ≤ 1000) (y : Value) (hy : y.cells.size = m) (w : World) :
    (Instr.buildSlice t 1 #[(0, y)]).run P w = .ok (.slice (some ⟨w.heap.size, 0, none⟩) 1 1) (w.alloc (.cells y.cells e)) :=
  run_buildSlice w t e 1 #[(0, y)] y.cells ie z hu hie hz (by omega) (by omega) (by
    refine fill_one _ y hy (by simp [hm]) _ (by simp [hm]))
end Go.Proofs.YtboinccdnaddmaaGreatDoor
