/- The walk of bags.apart: a message like another one, all its lists in memory of its own. -/
import Derived.Test.YtpmmdbdooclcoabBaFresh
import Derived.Test.YtpmmdbdooclcoabQMsg
import Derived.BigRegion
set_option linter.unusedSimpArgs false
set_option linter.unusedVariables false
namespace Go.Proofs.Ytpmmdbdooclcoab
open Go.RowKit

/-- While the results are gone through: k of them have rows of their own. -/
def ApI (w wr : World) (m : MsgD) (l : List ResP) (v1 v2 : Value) (k : Nat) : Prop :=
  ∃ l' : List ResP, l'.map (·.2) = (l.take k).map (·.2) ∧ St noB w wr [Part.row 67 1 v2 l.length ((l' ++ l.drop k).flatMap resCells), Part.blk w.heap.size (.cells (mdCells m v1 v2) 27 (0, 0)), Part.all (l'.map rowP), Part.row 63 4 v1 m.ops.length (m.ops.flatMap opCells), Part.blk (w.heap.size + 1) (.cells zM 27 (0, 0))]
theorem flat_res_len (l : List ResP) : (l.flatMap resCells).length = l.length := by
  induction l with
  | nil => rfl
  | cons x l ih => rw [List.flatMap_cons, List.length_append, ih, List.length_cons]; show 1 + _ = _; omega
set_option maxHeartbeats 2000000 in
set_option maxRecDepth 1000000 in
theorem apart_any (w : World) (m : MsgD) (vo vr : Value) (l : List ResP) (h : MsgAt w w.heap.size vo vr m l) (hlo : m.ops.length ≤ 1000000) (hlr : l.length ≤ 1000000) (hlw : ∀ p ∈ l, p.2.length ≤ 1000000) :
    Calls Try.prog 20 #[msgV m vo vr] w fun e w' => ∃ y : MsgO, e = .returned y.v ∧ y.d = m ∧ St noB w w' [y.part] := by
  obtain ⟨ao, ca, bo, cb, rfl, rfl⟩ := h.form
  unfold msgV
  have st0 : St noB w ((w.alloc (.cells (mdCells m (.slice ao m.ops.length ca) (.slice bo l.length cb)) 27)).alloc (.cells zM 27)) [Part.blk (w.heap.size + 1) (.cells zM 27 (0, 0)), Part.blk w.heap.size (.cells (mdCells m (.slice ao m.ops.length ca) (.slice bo l.length cb)) 27 (0, 0))] := by
    have := ((St.nil w).alloc (.cells (mdCells m (.slice ao m.ops.length ca) (.slice bo l.length cb)) 27)).alloc (.cells zM 27)
    simpa using this
  obtain ⟨W, hW⟩ : ∃ W, W = (w.alloc (.cells (mdCells m (.slice ao m.ops.length ca) (.slice bo l.length cb)) 27)).alloc (.cells zM 27) := ⟨_, rfl⟩
  rw [← hW] at st0
  have k1 := freshOp_any W (.slice ao m.ops.length ca) m.ops.length (m.ops.flatMap opCells) (src_sl (by decide) opCells_len (fun x _ => opCells_one x) Try.underlying24 (h.ops.below st0.below (Nat.le_refl _))) (by omega)
  -- behind the first call
  have F1 : Hid (∀ w1 v1, w1.ownsRow W.heap.size 63 4 v1 m.ops.length (m.ops.flatMap opCells) → Below W.heap.size W w1 → (w1.cell? ⟨w.heap.size, 4, none⟩ = some (.slice ao m.ops.length ca) ∧ w1.cell? ⟨w.heap.size, 5, none⟩ = some (.slice bo l.length cb) ∧ w1.frozen? ⟨w.heap.size, 4, none⟩ = false) ∧
      St noB w (w1.setCell ⟨w.heap.size, 4, none⟩ v1) [Part.blk w.heap.size (.cells (mdCells m v1 (.slice bo l.length cb)) 27 (0, 0)), Part.row 63 4 v1 m.ops.length (m.ops.flatMap opCells), Part.blk (w.heap.size + 1) (.cells zM 27 (0, 0))]) := fun w1 v1 o1 b1 => by
    have s1 := (st0.and (St.row_new o1 b1)).pick 2 rfl
    have q := six_cells s1.blk.1
    exact ⟨⟨q.2.2.2.2.1, q.2.2.2.2.2, box_frozen s1.blk.1⟩, s1.set' (mdCells m v1 (.slice bo l.length cb)) (by simp [mdCells]) rfl⟩
  have F2 : Hid (∀ W2, Below w.heap.size w W2 → Calls Try.prog 27 #[.slice bo l.length cb] W2 fun e w' => ∃ v', e = .returned v' ∧ w'.ownsRow W2.heap.size 67 1 v' l.length (l.flatMap resCells) ∧ Below W2.heap.size W2 w') := fun W2 hb =>
    freshResult_any W2 _ l.length (l.flatMap resCells) (src_sl (by decide) resCells_len (fun x hx u hu => by
      obtain ⟨a, c, e, -⟩ := (h.res.2 x hx).1
      simp only [resCells, List.mem_singleton] at hu
      rw [hu, e]
      exact one_slice _ _ _) Try.underlying25 (h.res.1.below hb (Nat.le_refl _))) (by omega)
  unfold mdCells zM at hW
  clear st0
  subst hW
  go_enter Try.func20, Try.ntmps20
  go_wp2_with fail
  refine k1.mono ?_
  rintro e w1 ⟨v1, rfl, o1, b1⟩
  obtain ⟨⟨c4, c5, f4⟩, st1⟩ := F1.out w1 v1 o1 b1
  obtain ⟨a1, n1, d1, rfl⟩ := own_slice o1
  obtain ⟨w2, hw2⟩ : ∃ w2, w2 = w1.setCell ⟨w.heap.size, 4, none⟩ (.slice a1 n1 d1) := ⟨_, rfl⟩
  rw [← hw2] at st1
  subst hw2
  have k2 := F2.out _ st1.below
  have d5 := (six_cells st1.blk.1).2.2.2.2.2
  have s1 : Hid _ := st1
  clear k1 F1 F2 o1 b1 st1 c5
  go_wp2_with fail
  refine k2.mono ?_
  rintro e w3 ⟨v2, rfl, o2, b2⟩
  have sA := (s1.out.and (St.row_new o2 b2)).pick 1 rfl
  have q5 := (six_cells sA.blk.1).2.2.2.2.2
  have f5 := box_frozen (i := 5) sA.blk.1
  have sB := sA.set' (i := 5) (u := v2) (mdCells m (.slice a1 n1 d1) v2) (by simp [mdCells]) rfl
  obtain ⟨a2, d2, rfl, hd2, hm2⟩ := own_len' o2
  unfold maxLen at hm2
  have p5 := (six_cells sB.blk.1).2.2.2.2.2
  have sI : Hid (ApI w (w3.setCell ⟨w.heap.size, 5, none⟩ (.slice a2 l.length d2)) m l (.slice a1 n1 d1) (.slice a2 l.length d2) 0) := ⟨[], rfl, (sB.shut_all (K := [])).re 5 [2, 1, 0, 3, 4] (by decide)⟩
  clear k2 s1 d5 sA sB o2 b2
  go_wp2
  go_loopw [16] (fun i wr => ∃ k : Nat, k ≤ l.length ∧ i = .int .i64 (k : Int) ∧ Hid (ApI w wr m l (.slice a1 n1 d1) (.slice a2 l.length d2) k)) (fun i _ => l.length - (intOf i).toNat)
  case atStart => exact ⟨0, by omega, rfl, sI⟩
  case round =>
    clear sI p5 f5 q5 c4 f4
    obtain ⟨k, hk, rfl, hI⟩ := hrel
    by_cases h1 : k < l.length
    · obtain ⟨l', hl', st⟩ := hI.out
      have hlen : l'.length = k := by have := congrArg List.length hl'; simp at this; omega
      obtain ⟨g, d3, e⟩ := st.form.2 (by omega)
      simp only [Value.slice.injEq, true_and] at e
      obtain ⟨rfl, -⟩ := e
      obtain ⟨p, hp⟩ : ∃ p, p = l[k]'h1 := ⟨_, rfl⟩
      have hpm : p ∈ l := by rw [hp]; exact List.getElem_mem _
      have hdrop : l.drop k = p :: l.drop (k + 1) := by rw [hp]; exact List.drop_eq_getElem_cons h1
      have hcl : ((l' ++ l.drop k).flatMap resCells)[k]? = some p.1 := by
        rw [hdrop, List.flatMap_append, List.getElem?_append_right (by rw [flat_res_len, hlen]; exact Nat.le_refl _), flat_res_len, hlen]
        simp [resCells]
      have cg : wr.cell? ⟨g, k, none⟩ = some p.1 := by
        have := st.row.cells (g := g) rfl k p.1 hcl
        rw [Addr.add_lit] at this
        simpa using this
      obtain ⟨ap, cp, hpv, -, -⟩ := (h.res.2 p hpm).1
      have hlp := hlw p hpm
      have k3 : Hid (∀ W, Below w.heap.size w W → Calls Try.prog 28 #[p.1] W fun e w' => ∃ v', e = .returned v' ∧ w'.ownsRow W.heap.size 74 2 v' p.2.length (p.2.flatMap rowCells) ∧ Below W.heap.size W w') := fun W hb =>
        freshRow_any W _ _ _ (src_sl (by decide) rowCells_len (fun x _ => rowCells_one x) Try.underlying65 ((h.res.2 p hpm).1.below hb (Nat.le_refl _))) (by omega)
      have st4 : St noB w (wr.alloc (.cells #[p.1] 67)).drew _ := (st.alloc (.cells #[p.1] 67)).up ⟨rfl, rfl, rfl, Nat.le_refl _, fun _ _ => rfl⟩
      have c5 := (six_cells ((st4.pick 2 rfl).blk.1)).2.2.2.2.2
      have cx := box_cell st4.blk.1
      have FIN : Hid (∀ w5 v3, w5.ownsRow (wr.alloc (.cells #[p.1] 67)).drew.heap.size 74 2 v3 p.2.length (p.2.flatMap rowCells) → Below (wr.alloc (.cells #[p.1] 67)).drew.heap.size (wr.alloc (.cells #[p.1] 67)).drew w5 →
          (w5.cell? ⟨w.heap.size, 5, none⟩ = some (.slice (some ⟨g, 0, none⟩) l.length d2) ∧ w5.cell? ⟨wr.heap.size, 0, none⟩ = some p.1 ∧ w5.cell? ⟨g, k, none⟩ = some p.1 ∧ w5.frozen? ⟨g, k, none⟩ = false) ∧ Hid (ApI w (w5.setCell ⟨g, k, none⟩ v3) m l (.slice a1 n1 d1) (.slice (some ⟨g, 0, none⟩) l.length d2) (k + 1))) := fun w5 v3 o3 b3 => by
        have s5 := (st4.and (St.row_new o3 b3)).pick 2 rfl
        refine ⟨⟨(six_cells ((s5.pick 3 rfl).blk.1)).2.2.2.2.2, box_cell ((s5.pick 2 rfl).blk.1), ?_, s5.row.frozenAt _⟩, l' ++ [(v3, p.2)], ?_, ?_⟩
        · have := s5.row.cells (g := g) rfl k p.1 hcl
          rw [Addr.add_lit] at this
          simpa using this
        · rw [List.map_append, hl', List.take_succ_eq_append_getElem h1, List.map_append, ← hp]; rfl
        · have s6 := ((s5.row_set k v3).re 7 [4, 1, 0, 3, 5, 6, 2] (by decide)).snoc
          have e1 : ((l' ++ l.drop k).flatMap resCells).set k v3 = ((l' ++ [(v3, p.2)]) ++ l.drop (k + 1)).flatMap resCells := by
            rw [hdrop, List.flatMap_append, List.set_append_right _ _ (by rw [flat_res_len, hlen]; exact Nat.le_refl _), flat_res_len, hlen]
            simp [resCells]
          have s7 := (s6.re 6 [1, 2, 0, 3, 4, 5] (by decide)).front (K := [_, _, _, _, _]) (L := [_])
          rw [e1] at s7
          have e2 : l'.map rowP ++ [rowP (v3, p.2)] = (l' ++ [(v3, p.2)]).map rowP := by simp
          rw [← e2]
          exact s7
      have kr := k3.out _ st4.below
      clear k3
      obtain ⟨pv, pr⟩ := p
      simp only at hpv
      subst hpv
      clear hI st4 st hl' hlen hdrop hcl hpm
      go_wp2
      go_region_law (first | (go_simp; go_at_call 28; refine kr.mono ?_; rintro e w5 ⟨v3, rfl, o3, b3⟩; obtain ⟨⟨e5, ex, eg, fg⟩, R⟩ := FIN.out w5 v3 o3 b3; obtain ⟨a3, n3, d3, rfl⟩ := own_slice o3; clear o3 b3 kr FIN))
      all_goals
        go_wp2
        go_roundw
        case rel => exact ⟨k + 1, by omega, by go_num, R⟩
        case measure => simp [intOf]; omega
    · obtain ⟨l', hl', st⟩ := hI.out
      obtain ⟨c0, c1, c2, c3, c4, c5⟩ := six_cells ((st.pick 1 rfl).blk.1)
      have hz := (st.pick 4 rfl).blk
      have fz := fun i => box_frozen (i := i) hz.1
      have f0 := fz 0
      obtain ⟨z0, z1, z2, z3, z4, z5⟩ := six_cells hz.1
      clear hI
      go_wp2
      obtain rfl : k = l.length := by omega
      rw [List.drop_length, List.append_nil] at st
      rw [List.take_length] at hl'
      have hlen : l'.length = l.length := by have := congrArg List.length hl'; simpa using this
      have s6 := St.set6 (st.pick 4 rfl) (.int .u8 (m.say.toNat : Int)) (.int .u8 (m.src.toNat : Int)) (.int .u8 (m.dst.toNat : Int)) (.int .u32 (m.g.toNat : Int)) (.slice a1 n1 d1) (.slice a2 l.length d2)
      have s7 := (s6.re 5 [4, 1, 3, 0, 2] (by decide)).front (K := [_, _, _]) (L := [_, _])
      refine bodyPost_ret (v := msgV m (.slice a1 n1 d1) (.slice a2 l.length d2)) (results_cell_row rfl _ _ (w.heap.size + 1) 27 _ (0, 0) _ rfl s6.blk.1 Try.underlying27 rfl (by kernel_rfl)) rfl ⟨⟨m, .slice a1 n1 d1, .slice a2 l.length d2, l'⟩, rfl, rfl, ?_⟩
      refine St.shut_all (L := []) (s7.sub (fun S hS => ⟨S, parts_pure' ⟨?_, h.sm, ?_, hlo, ?_, ?_⟩ ?_, fun _ h => h⟩))
      · show l'.map (·.2) = m.res
        rw [hl']; exact h.eq
      · intro p hp r hr
        obtain ⟨q, hq, e⟩ : ∃ q ∈ l, q.2 = p.2 := by
          have : p.2 ∈ l.map (·.2) := by rw [← hl']; exact List.mem_map.2 ⟨p, hp, rfl⟩
          obtain ⟨q, hq, e⟩ := List.mem_map.1 this
          exact ⟨q, hq, e⟩
        exact (h.res.2 q hq).2 r (by rw [e]; exact hr)
      · show l'.length ≤ _; omega
      · intro p hp
        obtain ⟨q, hq, e⟩ : ∃ q ∈ l, q.2 = p.2 := by
          have : p.2 ∈ l.map (·.2) := by rw [← hl']; exact List.mem_map.2 ⟨p, hp, rfl⟩
          obtain ⟨q, hq, e⟩ := List.mem_map.1 this
          exact ⟨q, hq, e⟩
        rw [← e]; exact hlw q hq
      · have hS' := hS
        show Parts [_, Part.row _ 1 (.slice a2 l.length d2) l'.length _, _] _ _
        rw [hlen]
        exact hS'
end Go.Proofs.Ytpmmdbdooclcoab
