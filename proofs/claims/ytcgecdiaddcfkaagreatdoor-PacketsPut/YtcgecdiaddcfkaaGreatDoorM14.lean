/- Texts of this proof, laid into one. -/
import Derived.Test.YtcgecdiaddcfkaaGreatDoorRGetM
import Derived.Test.YtcgecdiaddcfkaaGreatDoorM4
/- The walks of getList: the count, and so many, or fewer. -/
set_option linter.unusedSimpArgs false
set_option linter.unusedVariables false
namespace Go.Proofs.YtcgecdiaddcfkaaGreatDoor
open Go.RowKit

theorem own_kept {w w' : World} {base R : Nat} {e : TypeId} {size : Nat} {v : Value} {n : Nat} {xs : List Value} (h : w.ownsRow base e size v n xs) (hR : R < base) (hk : Kept R w.heap.size w w') : w'.ownsRow base e size v n xs := by
  refine ⟨h.1, ?_⟩
  rcases h.2 with h1 | ⟨g, cap, cur, h1, h2, h3, h4⟩
  · exact .inl h1
  · have hg : g < w.heap.size := by
      rcases Nat.lt_or_ge g w.heap.size with h' | h'
      · exact h'
      · rw [Array.getElem?_eq_none h'] at h3; cases h3
    exact .inr ⟨g, cap, cur, h1, h2, by rw [hk.block g hg (by omega)]; exact h3, h4⟩
theorem RAt.grown {w w' : World} {R lim base : Nat} {s : St} {row : Option Nat} (h : RAt w R lim s) (hg : w.grownBy w' row) (hr : ∀ k, row = some k → base ≤ k) (hR : R < base) : RAt w' R lim s := by
  obtain ⟨v, h1, h2, h3, h4⟩ := h
  have hb : ∀ k, k ≤ R → w'.heap[k]? = w.heap[k]? := fun k hk => hg.block k (by omega) (fun e => by have := hr k e.symm; omega)
  exact ⟨v, by rw [hb R (Nat.le_refl _)]; exact h1, h2.kept (fun k hk => hb k (by omega)), h3, by have := hg.size; omega⟩
theorem block_grown {w w' : World} {V base : Nat} {o : Obj} {row : Option Nat} (h : w.heap[V]? = some o) (hV : V < base) (hb : base ≤ w.heap.size) (hg : w.grownBy w' row) (hr : ∀ k, row = some k → base ≤ k) : w'.heap[V]? = some o := by
  rw [hg.block V (by omega) (fun e => by have := hr V e.symm; omega)]; exact h
theorem loopS_bad {α : Type} (step : St → α × St) (n : Nat) {s : St} (h : s.bad = true) : loopS step n s = ([], s) := by
  cases n with
  | zero => rfl
  | succ n => rw [loopS, if_pos h]
theorem loopS_next {α : Type} (step : St → α × St) (n : Nat) {s : St} (h : s.bad = false) : loopS step (n + 1) s = ((step s).1 :: (loopS step n (step s).2).1, (loopS step n (step s).2).2) := by
  rw [loopS, if_neg (by simp [h])]
theorem RAt.bad {w : World} {R lim : Nat} {s : St} (h : RAt w R lim s) : w.cell? ⟨R, 1, none⟩ = some (.bool s.bad) := by
  obtain ⟨v, h1, -⟩ := h
  exact (pair_cell h1).2
theorem flat_one {α : Type} (f : α → List Value) (l : List α) (x : α) : (l ++ [x]).flatMap f = l.flatMap f ++ f x := by simp
theorem u8_val (c : UInt8) : 0 ≤ (c.toNat : Int) := by omega

theorem info_Op : (Tryz.prog.info? 85).map (fun i => (i.zero, i.size, i.bytes)) = some (some (.agg #[.int .u8 0, .string ⟨#[]⟩, .string ⟨#[]⟩, .int .u32 0]), 4, 48) := by kernel_rfl
theorem opCells_one (x : OpD) : ∀ u ∈ opCells x, u.oneCell' = true := by
  intro u hu
  simp [opCells] at hu
  rcases hu with rfl | rfl | rfl | rfl
  all_goals rfl

set_option maxHeartbeats 4000000 in
set_option maxRecDepth 1000000 in
theorem getListOp_any (w : World) (R lim V most : Nat) (tv : TypeId) (s : St) (h : RAt w R lim s) (hv : w.heap[V]? = some (.cells #[ptr R] tv (0, 0))) (hlt : V < w.heap.size) (hn : V ≠ R) :
    Calls Tryz.prog 137 #[ptr R, .int .i64 (most : Int), .func (.func 138) #[] #[ptr V]] w fun e w' => ∃ v, e = .returned v ∧
      w'.ownsRow w.heap.size 85 4 v (listS stepOp most s).1.length ((listS stepOp most s).1.flatMap opCells) ∧ RAt w' R lim (listS stepOp most s).2 ∧ Kept R w.heap.size w w' := by
  obtain ⟨i0, hi, hz0, hz1, hz2⟩ := info_parts info_Op
  have hRl : R < w.heap.size := h.choose_spec.2.2.2
  have kc := rcount_any w R lim s h
  have hn2 := high2_lt s
  unfold listS
  generalize (highS 2 s).1 = n at *
  generalize (highS 2 s).2 = s1 at *
  have kn := fun w1 (h1 : RAt w1 R lim s1) => need_any w1 R lim s1 (decide (n ≤ most)) h1
  generalize hs2 : needS (decide (n ≤ most)) s1 = s2 at *
  clear hs2
  obtain ⟨tot, htot⟩ : ∃ tot, tot = loopS stepOp n s2 := ⟨_, rfl⟩
  rw [← htot]
  have HT : Hid (tot = loopS stepOp n s2) := htot
  clear htot
  go_enter Tryz.func137, Tryz.ntmps137
  go_wp2_with fail
  refine kc.mono ?_
  rintro e w1 ⟨rfl, h1, q1⟩
  have kn1 := kn w1 h1
  clear kc kn h1
  go_wp2_with fail
  refine kn1.mono ?_
  rintro e w2 ⟨rfl, h2, q2⟩
  have q : Kept R w.heap.size w w2 := q1.trans (q2.mono q1.size)
  have hv2 : w2.heap[V]? = some (.cells #[ptr R] tv (0, 0)) := by rw [q.block V hlt hn]; exact hv
  clear kn1 q1 q2 h hv
  go_wp2
  go_loopw [8, 9] (fun vk i wr => ∃ (k : Nat) (acc : List OpD) (st : St), k ≤ n ∧ i = .int .i64 k ∧ wr.ownsRow w.heap.size 85 4 vk acc.length (acc.flatMap opCells) ∧ RAt wr R lim st ∧ Kept R w.heap.size w wr ∧ wr.heap[V]? = some (.cells #[ptr R] tv (0, 0)) ∧ Hid (acc.length = k ∧ acc ++ (loopS stepOp (n - k) st).1 = tot.1 ∧ (loopS stepOp (n - k) st).2 = tot.2)) (fun _ i _ => n - (intOf i).toNat)
  case atStart => exact ⟨0, [], s2, Nat.zero_le _, rfl, World.ownsRow_nil _ _ _ _, h2, q, hv2, ⟨rfl, by rw [HT.out]; rfl, by rw [HT.out]; rfl⟩⟩
  case round =>
    clear q h2 hv2 HT
    obtain ⟨k, acc, st, hk, rfl, hown, hr, hq, hvr, hH⟩ := hrel
    have hbad := hr.bad
    cases hb : st.bad with
    | true =>
      rw [hb] at hbad
      have e1 : tot = (acc, st) := by
        have h := hH.out
        rw [loopS_bad _ _ hb, List.append_nil] at h
        exact Prod.ext h.2.1.symm h.2.2.symm
      have E : Hid (tot = (acc, st)) := e1
      clear e1 hH hb
      obtain ⟨ao, na, ca, rfl⟩ := own_slice hown
      by_cases hkn : k < n
      · go_wp2
        go_ret
        exact ⟨_, rfl, by rw [E.out]; exact hown, by rw [E.out]; exact hr, hq⟩
      · go_wp2
        go_ret
        exact ⟨_, rfl, by rw [E.out]; exact hown, by rw [E.out]; exact hr, hq⟩
    | false =>
      rw [hb] at hbad
      by_cases hkn : k < n
      · have kg := getOp1_any wr R lim V tv st hr hvr (by have := hq.size; omega) hn
        have hH2 : Hid ((acc ++ [(stepOp st).1]).length = k + 1 ∧ (acc ++ [(stepOp st).1]) ++ (loopS stepOp (n - (k + 1)) (stepOp st).2).1 = tot.1 ∧ (loopS stepOp (n - (k + 1)) (stepOp st).2).2 = tot.2) := by
          have h := hH.out
          rw [show n - k = (n - (k + 1)) + 1 by omega, loopS_next _ _ hb] at h
          refine ⟨by simp [h.1], ?_, h.2.2⟩
          rw [← h.2.1]; simp
        have hal : acc.length = k := hH.out.1
        have HL : Hid (acc.length ≤ 65536) := by show _ ≤ _; omega
        clear hal hH hb
        generalize (stepOp st).1 = x at *
        generalize (stepOp st).2 = st2 at *
        have hq1 := hq.size
        obtain ⟨ao, na, ca, rfl⟩ := own_slice hown
        unfold opV at kg
        go_wp2_with fail
        refine kg.mono ?_
        rintro e w3 ⟨rfl, hr3, q3⟩
        have hown3 := own_kept hown hRl q3
        have hq3 : Kept R w.heap.size w w3 := hq.trans (q3.mono hq1)
        have hv3 : w3.heap[V]? = some (.cells #[ptr R] tv (0, 0)) := by rw [q3.block V (by omega) hn]; exact hvr
        have hz3 := hq3.size
        clear kg hown hr hq hvr hbad q3
        have hown4 := hown3.alloc (.cells (opCells x).toArray 85)
        have hr4 := hr3.alloc (.cells (opCells x).toArray 85)
        have hv4 := alloc_block hv3 (.cells (opCells x).toArray 85)
        have hq4 : Kept R w.heap.size w (w3.alloc (.cells (opCells x).toArray 85)) := hq3.alloc hz3 _
        have hs4 : w.heap.size ≤ (w3.alloc (.cells (opCells x).toArray 85)).heap.size := by simp; omega
        have hn4 : ∀ j u, (opCells x)[j]? = some u → (w3.alloc (.cells (opCells x).toArray 85)).cell? ((⟨w3.heap.size, 0, none⟩ : Addr).add j) = some u := news_ofv (opCells x) _
        have fin : ∀ v' w4, w4.ownsRow w.heap.size 85 4 v' (acc.length + 1) (acc.flatMap opCells ++ opCells x) → (w3.alloc (.cells (opCells x).toArray 85)).grownBy w4 (Value.ownBlock (.slice ao na ca)) →
            w4.ownsRow w.heap.size 85 4 v' (acc ++ [x]).length ((acc ++ [x]).flatMap opCells) ∧ RAt w4 R lim st2 ∧ Kept R w.heap.size w w4 ∧ w4.heap[V]? = some (.cells #[ptr R] tv (0, 0)) := by
          intro v' w4 ho hg
          have hrow : ∀ k, Value.ownBlock (.slice ao na ca) = some k → w.heap.size ≤ k := own_row_ge hown4
          refine ⟨?_, hr4.grown hg hrow hRl, hq4.grown hg hs4 hrow, block_grown hv4 hlt hs4 hg hrow⟩
          rw [flat_one, List.length_append, List.length_singleton]; exact ho
        clear hown3 hr3 hv3 hq3 hr4 hv4 hq4
        go_wp2_with (at_builtin; refine wpList_append_own_src _ rfl (.tmp 29) (.tmp 32) 24 24 rfl w.heap.size 85 i0 (.agg #[.int .u8 0, .string ⟨#[]⟩, .string ⟨#[]⟩, .int .u32 0]) 4 48 Tryz.underlying24 hi hz0 hz1 hz2 rfl (by decide) _ acc.length _ rfl hown4 (.slice (some ⟨w3.heap.size, 0, none⟩) 1 1) 1 _ rfl (Src.ofSlice _ Tryz.underlying24 ⟨w3.heap.size, 0, none⟩ 1 1 _ rfl hn4 (opCells_one x)) (by have := HL.out; unfold maxLen; omega) (by have := HL.out; omega) hs4 ?_; intro v' w4 hown5 hg5 _; have F := fin v' w4 hown5 hg5)
        obtain ⟨F1, F2, F3, F4⟩ := F
        clear fin
        go_roundw
        case rel => exact ⟨k + 1, acc ++ [x], st2, by omega, by go_num, F1, F2, F3, F4, hH2⟩
        case measure => simp [intOf]; omega
      · have e1 : tot = (acc, st) := by
          have h := hH.out
          rw [show n - k = 0 by omega] at h
          exact Prod.ext (by simpa [loopS] using h.2.1.symm) h.2.2.symm
        have E : Hid (tot = (acc, st)) := e1
        clear e1 hH hb
        obtain ⟨ao, na, ca, rfl⟩ := own_slice hown
        go_wp2
        go_ret
        exact ⟨_, rfl, by rw [E.out]; exact hown, by rw [E.out]; exact hr, hq⟩

theorem info_Row : (Tryz.prog.info? 92).map (fun i => (i.zero, i.size, i.bytes)) = some (some (.agg #[.string ⟨#[]⟩, .int .u32 0]), 2, 24) := by kernel_rfl
theorem rowCells_one (x : RowD) : ∀ u ∈ rowCells x, u.oneCell' = true := by
  intro u hu
  simp [rowCells] at hu
  rcases hu with rfl | rfl
  all_goals rfl

set_option maxHeartbeats 4000000 in
set_option maxRecDepth 1000000 in
theorem getListRow_any (w : World) (R lim V most : Nat) (tv : TypeId) (s : St) (h : RAt w R lim s) (hv : w.heap[V]? = some (.cells #[ptr R] tv (0, 0))) (hlt : V < w.heap.size) (hn : V ≠ R) :
    Calls Tryz.prog 146 #[ptr R, .int .i64 (most : Int), .func (.func 147) #[] #[ptr V]] w fun e w' => ∃ v, e = .returned v ∧
      w'.ownsRow w.heap.size 92 2 v (listS stepRow most s).1.length ((listS stepRow most s).1.flatMap rowCells) ∧ RAt w' R lim (listS stepRow most s).2 ∧ Kept R w.heap.size w w' := by
  obtain ⟨i0, hi, hz0, hz1, hz2⟩ := info_parts info_Row
  have hRl : R < w.heap.size := h.choose_spec.2.2.2
  have kc := rcount_any w R lim s h
  have hn2 := high2_lt s
  unfold listS
  generalize (highS 2 s).1 = n at *
  generalize (highS 2 s).2 = s1 at *
  have kn := fun w1 (h1 : RAt w1 R lim s1) => need_any w1 R lim s1 (decide (n ≤ most)) h1
  generalize hs2 : needS (decide (n ≤ most)) s1 = s2 at *
  clear hs2
  obtain ⟨tot, htot⟩ : ∃ tot, tot = loopS stepRow n s2 := ⟨_, rfl⟩
  rw [← htot]
  have HT : Hid (tot = loopS stepRow n s2) := htot
  clear htot
  go_enter Tryz.func146, Tryz.ntmps146
  go_wp2_with fail
  refine kc.mono ?_
  rintro e w1 ⟨rfl, h1, q1⟩
  have kn1 := kn w1 h1
  clear kc kn h1
  go_wp2_with fail
  refine kn1.mono ?_
  rintro e w2 ⟨rfl, h2, q2⟩
  have q : Kept R w.heap.size w w2 := q1.trans (q2.mono q1.size)
  have hv2 : w2.heap[V]? = some (.cells #[ptr R] tv (0, 0)) := by rw [q.block V hlt hn]; exact hv
  clear kn1 q1 q2 h hv
  go_wp2
  go_loopw [8, 9] (fun vk i wr => ∃ (k : Nat) (acc : List RowD) (st : St), k ≤ n ∧ i = .int .i64 k ∧ wr.ownsRow w.heap.size 92 2 vk acc.length (acc.flatMap rowCells) ∧ RAt wr R lim st ∧ Kept R w.heap.size w wr ∧ wr.heap[V]? = some (.cells #[ptr R] tv (0, 0)) ∧ Hid (acc.length = k ∧ acc ++ (loopS stepRow (n - k) st).1 = tot.1 ∧ (loopS stepRow (n - k) st).2 = tot.2)) (fun _ i _ => n - (intOf i).toNat)
  case atStart => exact ⟨0, [], s2, Nat.zero_le _, rfl, World.ownsRow_nil _ _ _ _, h2, q, hv2, ⟨rfl, by rw [HT.out]; rfl, by rw [HT.out]; rfl⟩⟩
  case round =>
    clear q h2 hv2 HT
    obtain ⟨k, acc, st, hk, rfl, hown, hr, hq, hvr, hH⟩ := hrel
    have hbad := hr.bad
    cases hb : st.bad with
    | true =>
      rw [hb] at hbad
      have e1 : tot = (acc, st) := by
        have h := hH.out
        rw [loopS_bad _ _ hb, List.append_nil] at h
        exact Prod.ext h.2.1.symm h.2.2.symm
      have E : Hid (tot = (acc, st)) := e1
      clear e1 hH hb
      obtain ⟨ao, na, ca, rfl⟩ := own_slice hown
      by_cases hkn : k < n
      · go_wp2
        go_ret
        exact ⟨_, rfl, by rw [E.out]; exact hown, by rw [E.out]; exact hr, hq⟩
      · go_wp2
        go_ret
        exact ⟨_, rfl, by rw [E.out]; exact hown, by rw [E.out]; exact hr, hq⟩
    | false =>
      rw [hb] at hbad
      by_cases hkn : k < n
      · have kg := getRow1_any wr R lim V tv st hr hvr (by have := hq.size; omega) hn
        have hH2 : Hid ((acc ++ [(stepRow st).1]).length = k + 1 ∧ (acc ++ [(stepRow st).1]) ++ (loopS stepRow (n - (k + 1)) (stepRow st).2).1 = tot.1 ∧ (loopS stepRow (n - (k + 1)) (stepRow st).2).2 = tot.2) := by
          have h := hH.out
          rw [show n - k = (n - (k + 1)) + 1 by omega, loopS_next _ _ hb] at h
          refine ⟨by simp [h.1], ?_, h.2.2⟩
          rw [← h.2.1]; simp
        have hal : acc.length = k := hH.out.1
        have HL : Hid (acc.length ≤ 65536) := by show _ ≤ _; omega
        clear hal hH hb
        generalize (stepRow st).1 = x at *
        generalize (stepRow st).2 = st2 at *
        have hq1 := hq.size
        obtain ⟨ao, na, ca, rfl⟩ := own_slice hown
        unfold rowV at kg
        go_wp2_with fail
        refine kg.mono ?_
        rintro e w3 ⟨rfl, hr3, q3⟩
        have hown3 := own_kept hown hRl q3
        have hq3 : Kept R w.heap.size w w3 := hq.trans (q3.mono hq1)
        have hv3 : w3.heap[V]? = some (.cells #[ptr R] tv (0, 0)) := by rw [q3.block V (by omega) hn]; exact hvr
        have hz3 := hq3.size
        clear kg hown hr hq hvr hbad q3
        have hown4 := hown3.alloc (.cells (rowCells x).toArray 92)
        have hr4 := hr3.alloc (.cells (rowCells x).toArray 92)
        have hv4 := alloc_block hv3 (.cells (rowCells x).toArray 92)
        have hq4 : Kept R w.heap.size w (w3.alloc (.cells (rowCells x).toArray 92)) := hq3.alloc hz3 _
        have hs4 : w.heap.size ≤ (w3.alloc (.cells (rowCells x).toArray 92)).heap.size := by simp; omega
        have hn4 : ∀ j u, (rowCells x)[j]? = some u → (w3.alloc (.cells (rowCells x).toArray 92)).cell? ((⟨w3.heap.size, 0, none⟩ : Addr).add j) = some u := news_ofv (rowCells x) _
        have fin : ∀ v' w4, w4.ownsRow w.heap.size 92 2 v' (acc.length + 1) (acc.flatMap rowCells ++ rowCells x) → (w3.alloc (.cells (rowCells x).toArray 92)).grownBy w4 (Value.ownBlock (.slice ao na ca)) →
            w4.ownsRow w.heap.size 92 2 v' (acc ++ [x]).length ((acc ++ [x]).flatMap rowCells) ∧ RAt w4 R lim st2 ∧ Kept R w.heap.size w w4 ∧ w4.heap[V]? = some (.cells #[ptr R] tv (0, 0)) := by
          intro v' w4 ho hg
          have hrow : ∀ k, Value.ownBlock (.slice ao na ca) = some k → w.heap.size ≤ k := own_row_ge hown4
          refine ⟨?_, hr4.grown hg hrow hRl, hq4.grown hg hs4 hrow, block_grown hv4 hlt hs4 hg hrow⟩
          rw [flat_one, List.length_append, List.length_singleton]; exact ho
        clear hown3 hr3 hv3 hq3 hr4 hv4 hq4
        go_wp2_with (at_builtin; refine wpList_append_own_src _ rfl (.tmp 29) (.tmp 32) 87 87 rfl w.heap.size 92 i0 (.agg #[.string ⟨#[]⟩, .int .u32 0]) 2 24 Tryz.underlying87 hi hz0 hz1 hz2 rfl (by decide) _ acc.length _ rfl hown4 (.slice (some ⟨w3.heap.size, 0, none⟩) 1 1) 1 _ rfl (Src.ofSlice _ Tryz.underlying87 ⟨w3.heap.size, 0, none⟩ 1 1 _ rfl hn4 (rowCells_one x)) (by have := HL.out; unfold maxLen; omega) (by have := HL.out; omega) hs4 ?_; intro v' w4 hown5 hg5 _; have F := fin v' w4 hown5 hg5)
        obtain ⟨F1, F2, F3, F4⟩ := F
        clear fin
        go_roundw
        case rel => exact ⟨k + 1, acc ++ [x], st2, by omega, by go_num, F1, F2, F3, F4, hH2⟩
        case measure => simp [intOf]; omega
      · have e1 : tot = (acc, st) := by
          have h := hH.out
          rw [show n - k = 0 by omega] at h
          exact Prod.ext (by simpa [loopS] using h.2.1.symm) h.2.2.symm
        have E : Hid (tot = (acc, st)) := e1
        clear e1 hH hb
        obtain ⟨ao, na, ca, rfl⟩ := own_slice hown
        go_wp2
        go_ret
        exact ⟨_, rfl, by rw [E.out]; exact hown, by rw [E.out]; exact hr, hq⟩

theorem info_Change : (Tryz.prog.info? 144).map (fun i => (i.zero, i.size, i.bytes)) = some (some (.agg #[.string ⟨#[]⟩, .int .u32 0, .bool false]), 3, 24) := by kernel_rfl
theorem chCells_one (x : ChD) : ∀ u ∈ chCells x, u.oneCell' = true := by
  intro u hu
  simp [chCells] at hu
  rcases hu with rfl | rfl | rfl
  all_goals rfl

end Go.Proofs.YtcgecdiaddcfkaaGreatDoor
/- The walks of rows.GetOps and rows.GetChanges: what the bytes were made of, or the error. -/
set_option linter.unusedSimpArgs false
set_option linter.unusedVariables false
namespace Go.Proofs.YtcgecdiaddcfkaaGreatDoor
open Go.RowKit

/-- A reader that was just made, and the variable that holds it. -/
theorem rat_new (w : World) (v : Value) (bs : List UInt8) (h : InAt w w.heap.size v bs) : RAt ((w.alloc (.cells #[v, .bool false] 180)).alloc (.cells #[ptr w.heap.size] 178)) w.heap.size w.heap.size ⟨bs, false⟩ ∧
    ((w.alloc (.cells #[v, .bool false] 180)).alloc (.cells #[ptr w.heap.size] 178)).heap[w.heap.size + 1]? = some (.cells #[ptr w.heap.size] 178 (0, 0)) := by
  refine ⟨⟨v, alloc_block (heap_alloc_new w _) _, h.kept (fun k hk => ?_), Nat.le_refl _, by simp; omega⟩, ?_⟩
  · rw [Below.heap_alloc _ _ _ (by simp; omega), Below.heap_alloc _ _ _ hk]
  · have := heap_alloc_new (w.alloc (.cells #[v, .bool false] 180)) (.cells #[ptr w.heap.size] 178)
    simpa using this
theorem below_two' {w : World} (a b : Obj) : Below w.heap.size w ((w.alloc a).alloc b) := ((Below.refl _ _).alloc (Nat.le_refl _) _).alloc (by simp) _
theorem own_mono' {w : World} {base base' : Nat} {e : TypeId} {size : Nat} {v : Value} {n : Nat} {xs : List Value} (h : w.ownsRow base e size v n xs) (hb : base' ≤ base) : w.ownsRow base' e size v n xs := by
  refine ⟨h.1, ?_⟩
  rcases h.2 with h1 | ⟨g, cap, cur, h1, h2, h3⟩
  · exact .inl h1
  · exact .inr ⟨g, cap, cur, h1, Nat.le_trans hb h2, h3⟩
theorem whole_no {α : Type} {p : List α × St} (h : p.2.bad = true ∨ p.2.rest ≠ []) : whole p = ([], 4) := by unfold whole; rw [if_pos h]
theorem whole_yes {α : Type} {p : List α × St} (h : ¬ (p.2.bad = true ∨ p.2.rest ≠ [])) : whole p = (p.1, 0) := by unfold whole; rw [if_neg h]

set_option maxHeartbeats 2000000 in
set_option maxRecDepth 1000000 in
theorem wholeOp_no (w : World) (R lim : Nat) (s : St) (ao : Option Addr) (n c : Nat) (h : RAt w R lim s) (hb : s.bad = true ∨ s.rest ≠ []) :
    Calls Tryz.prog 143 #[ptr R, .slice ao n c] w fun e w' => e = .returned (.tuple #[.slice none 0 0, .int .i64 4]) ∧ w' = w := by
  obtain ⟨v, h1, h2, h3, h4⟩ := h
  obtain ⟨c0, c1⟩ := pair_cell h1
  obtain ⟨ao2, cap, rfl, -, -, -⟩ := h2
  clear h1
  cases hbad : s.bad with
  | true =>
    rw [hbad] at c1
    go_enter Tryz.func143, Tryz.ntmps143
    go_wp2
    go_ret2
    exact ⟨rfl, rfl⟩
  | false =>
    rw [hbad] at c1
    have hl : 0 < s.rest.length := by
      rcases hb with hb | hb
      · rw [hbad] at hb; cases hb
      · exact List.length_pos_iff.mpr hb
    clear hb hbad
    go_enter Tryz.func143, Tryz.ntmps143
    go_wp2
    go_ret2
    exact ⟨rfl, rfl⟩
set_option maxHeartbeats 2000000 in
set_option maxRecDepth 1000000 in
theorem wholeOp_yes (w : World) (R lim : Nat) (s : St) (ao : Option Addr) (n c : Nat) (h : RAt w R lim s) (hb : ¬ (s.bad = true ∨ s.rest ≠ [])) :
    Calls Tryz.prog 143 #[ptr R, .slice ao n c] w fun e w' => e = .returned (.tuple #[.slice ao n c, .int .i64 0]) ∧ w' = w := by
  obtain ⟨v, h1, h2, h3, h4⟩ := h
  obtain ⟨c0, c1⟩ := pair_cell h1
  obtain ⟨ao2, cap, rfl, -, -, -⟩ := h2
  rw [not_or] at hb
  have hr : s.rest = [] := Classical.byContradiction hb.2
  have hbad : s.bad = false := Bool.eq_false_iff.mpr hb.1
  rw [hbad] at c1
  rw [hr] at c0
  simp only [List.length_nil] at c0
  clear h1 hb hr hbad
  go_enter Tryz.func143, Tryz.ntmps143
  go_wp2
  go_ret2
  exact ⟨rfl, rfl⟩

set_option maxHeartbeats 2000000 in
set_option maxRecDepth 1000000 in
theorem GetOps_any (w : World) (vb : Value) (bs : List UInt8) (hb : InAt w w.heap.size vb bs) :
    Calls Tryz.prog 81 #[vb] w fun e w' => ∃ v, e = .returned (.tuple #[v, .int .i64 ((getOps bs).2 : Int)]) ∧
      w'.ownsRow w.heap.size 85 4 v (getOps bs).1.length ((getOps bs).1.flatMap opCells) ∧ Below w.heap.size w w' := by
  have hmf : ∀ (fn : Fn) (first cap : Array Value) (w : World), (Instr.makeFunc fn first cap).run Tryz.prog w = .ok (.func fn first cap) w := fun _ _ _ _ => rfl
  obtain ⟨hR, hV⟩ := rat_new w vb bs hb
  obtain ⟨W, hW⟩ : ∃ W, W = (w.alloc (.cells #[vb, .bool false] 180)).alloc (.cells #[ptr w.heap.size] 178) := ⟨_, rfl⟩
  have bW : Below w.heap.size w W := by rw [hW]; exact below_two' _ _
  have zW : W.heap.size = w.heap.size + 2 := by rw [hW]; simp
  rw [← hW] at hR hV
  have kg := getListOp_any W w.heap.size w.heap.size (w.heap.size + 1) 16 178 ⟨bs, false⟩ hR hV (by omega) (by omega)
  have fin : ∀ w1 v, w1.ownsRow W.heap.size 85 4 v (listS stepOp 16 ⟨bs, false⟩).1.length ((listS stepOp 16 ⟨bs, false⟩).1.flatMap opCells) → Kept w.heap.size W.heap.size W w1 →
      w1.ownsRow w.heap.size 85 4 v (listS stepOp 16 ⟨bs, false⟩).1.length ((listS stepOp 16 ⟨bs, false⟩).1.flatMap opCells) ∧ Below w.heap.size w w1 ∧ w1.cell? ⟨w.heap.size + 1, 0, none⟩ = some (ptr w.heap.size) := by
    intro w1 v ho q
    refine ⟨own_mono' ho (by omega), bW.trans (q.below (Nat.le_refl _) (by omega)), ?_⟩
    have : w1.heap[w.heap.size + 1]? = some (.cells #[ptr w.heap.size] 178 (0, 0)) := by rw [q.block _ (by omega) (by omega)]; exact hV
    exact box_cell this
  obtain ⟨aob, capb, hvb, -, -, -⟩ := hb
  subst hvb
  clear bW zW hR hV
  subst hW
  unfold getOps
  generalize hL : listS stepOp 16 ⟨bs, false⟩ = L at *
  clear hL
  by_cases hw : L.2.bad = true ∨ L.2.rest ≠ []
  · rw [whole_no hw]
    go_enter Tryz.func81, Tryz.ntmps81
    go_wp2_with fail
    refine kg.mono ?_
    rintro e w1 ⟨v, rfl, ho, hr, q⟩
    obtain ⟨f1, f2, f3⟩ := fin w1 v ho q
    clear fin kg ho q
    obtain ⟨ao, n, c, rfl⟩ := own_slice f1
    have kw := wholeOp_no w1 w.heap.size w.heap.size L.2 ao n c hr hw
    go_wp2_with fail
    refine kw.mono ?_
    rintro e w2 ⟨rfl, rfl⟩
    clear kw
    go_wp2
    go_ret2
    exact ⟨_, rfl, World.ownsRow_nil _ _ _ _, f2⟩
  · rw [whole_yes hw]
    go_enter Tryz.func81, Tryz.ntmps81
    go_wp2_with fail
    refine kg.mono ?_
    rintro e w1 ⟨v, rfl, ho, hr, q⟩
    obtain ⟨f1, f2, f3⟩ := fin w1 v ho q
    clear fin kg ho q
    obtain ⟨ao, n, c, rfl⟩ := own_slice f1
    have kw := wholeOp_yes w1 w.heap.size w.heap.size L.2 ao n c hr hw
    go_wp2_with fail
    refine kw.mono ?_
    rintro e w2 ⟨rfl, rfl⟩
    clear kw
    go_wp2
    go_ret2
    exact ⟨_, rfl, f1, f2⟩

end Go.Proofs.YtcgecdiaddcfkaaGreatDoor
