import Derived.Test.YtcgecdiaddcfkaaGreatDoorM14
import Derived.Test.YtcgecdiaddcfkaaGreatDoorM5
/- The walk of rows.GetResults: what the bytes were made of, or the error. -/
set_option linter.unusedSimpArgs false
set_option linter.unusedVariables false
namespace Go.Proofs.YtcgecdiaddcfkaaGreatDoor
open Go.RowKit

/-- The rows of a result lie in memory of their own, from block number 'base' on. -/
def OwnRows (w : World) (base : Nat) (p : ResP) : Prop := w.ownsRow base 92 2 p.1 p.2.length (p.2.flatMap rowCells)
/-- Results that lie in memory of their own, each list apart from each other one. -/
structure OwnRes (w : World) (base : Nat) (v : Value) (l : List ResP) : Prop where
  own : w.ownsRow base 89 1 v l.length (l.flatMap resCells)
  rows : ∀ p ∈ l, OwnRows w base p
  apart : ∀ p ∈ l, ∀ g, p.1.ownBlock = some g → v.ownBlock ≠ some g
  pair : l.Pairwise (fun p q => ∀ g, p.1.ownBlock = some g → q.1.ownBlock ≠ some g)

set_option maxHeartbeats 2000000 in
set_option maxRecDepth 1000000 in
theorem getRes1_any (w : World) (R lim V : Nat) (tv : TypeId) (s : St) (h : RAt w R lim s) (hv : w.heap[V]? = some (.cells #[ptr R] tv (0, 0))) (hlt : V < w.heap.size) (hn : V ≠ R) :
    Calls Tryz.prog 145 #[ptr V] w fun e w' => ∃ v, e = .returned (resV (v, (stepRes s).1)) ∧ OwnRows w' w.heap.size (v, (stepRes s).1) ∧ RAt w' R lim (stepRes s).2 ∧ Kept R w.heap.size w w' := by
  have hmf : ∀ (fn : Fn) (first cap : Array Value) (w : World), (Instr.makeFunc fn first cap).run Tryz.prog w = .ok (.func fn first cap) w := fun _ _ _ _ => rfl
  have hRl : R < w.heap.size := h.choose_spec.2.2.2
  have hlR : lim ≤ R := h.choose_spec.2.2.1
  have hR := h.alloc (.cells #[.slice none 0 0] 89)
  have hV := alloc_block hv (.cells #[.slice none 0 0] 89)
  have hN := heap_alloc_new w (.cells #[.slice none 0 0] 89)
  obtain ⟨W, hW⟩ : ∃ W, W = w.alloc (.cells #[.slice none 0 0] 89) := ⟨_, rfl⟩
  have zW : W.heap.size = w.heap.size + 1 := by rw [hW]; simp
  have kW : Kept R w.heap.size w W := by rw [hW]; exact (Kept.refl _ _ _).alloc (Nat.le_refl _) _
  rw [← hW] at hR hV hN
  have kg := getListRow_any W R lim V 256 tv s hR hV (by omega) hn
  have cV : W.cell? ⟨V, 0, none⟩ = some (ptr R) := box_cell hV
  show Calls _ _ _ _ fun e w' => ∃ v, e = .returned (resV (v, (listS stepRow 256 s).1)) ∧ OwnRows w' w.heap.size (v, (listS stepRow 256 s).1) ∧ RAt w' R lim (listS stepRow 256 s).2 ∧ Kept R w.heap.size w w'
  generalize listS stepRow 256 s = L at *
  unfold OwnRows resV
  have fin : ∀ w1 ao n c, w1.ownsRow W.heap.size 92 2 (.slice ao n c) L.1.length (L.1.flatMap rowCells) → RAt w1 R lim L.2 → Kept R W.heap.size W w1 →
      w1.cell? ⟨w.heap.size, 0, none⟩ = some (.slice none 0 0) ∧ w1.frozen? ⟨w.heap.size, 0, none⟩ = false ∧
      (w1.setCell ⟨w.heap.size, 0, none⟩ (.slice ao n c)).heap[w.heap.size]? = some (.cells #[.slice ao n c] 89 (0, 0)) ∧
      (w1.setCell ⟨w.heap.size, 0, none⟩ (.slice ao n c)).ownsRow w.heap.size 92 2 (.slice ao n c) L.1.length (L.1.flatMap rowCells) ∧ RAt (w1.setCell ⟨w.heap.size, 0, none⟩ (.slice ao n c)) R lim L.2 ∧ Kept R w.heap.size w (w1.setCell ⟨w.heap.size, 0, none⟩ (.slice ao n c)) := by
    intro w1 ao n c ho hr q
    have hN1 : w1.heap[w.heap.size]? = some (.cells #[.slice none 0 0] 89 (0, 0)) := by rw [q.block _ (by omega) (by omega)]; exact hN
    have e : ∀ k, k ≠ w.heap.size → (w1.setCell ⟨w.heap.size, 0, none⟩ (.slice ao n c)).heap[k]? = w1.heap[k]? := fun k hk => Below.heap_setCell _ _ _ _ hk
    obtain ⟨u, r1, r2, r3, r4⟩ := hr
    refine ⟨box_cell hN1, box_frozen hN1, box_set _ hN1, own_mono' (ownsRow_setCell_below ho (by simp; omega) _) (by omega), ⟨u, by rw [e R (by omega)]; exact r1, r2.kept (fun k hk => e k (by omega)), r3, by simp [World.setCell]; omega⟩, ?_⟩
    exact (kW.trans (q.mono (by omega))).trans ⟨rfl, rfl, rfl, by simp [World.setCell], fun k hk _ => e k (by omega)⟩
  clear hR hV hN zW kW h hv
  subst hW
  go_enter Tryz.func145, Tryz.ntmps145
  go_wp2_with fail
  refine kg.mono ?_
  rintro e w1 ⟨v, rfl, ho, hr, q⟩
  obtain ⟨ao, n, c, rfl⟩ := own_slice ho
  obtain ⟨f1, f2, f3, f4, f5, f6⟩ := fin w1 ao n c ho hr q
  clear fin kg ho hr q
  go_wp2
  exact bodyPost_ret (results_cell_row rfl _ _ w.heap.size 89 #[.slice ao n c] (0, 0) _ rfl f3 Tryz.underlying89 rfl (by kernel_rfl)) rfl ⟨_, rfl, f4, f5, f6⟩

theorem OwnRows.kept {w w' : World} {base R : Nat} {p : ResP} (h : OwnRows w base p) (hR : R < base) (hk : Kept R w.heap.size w w') : OwnRows w' base p := own_kept h hR hk
theorem OwnRows.mono {w : World} {base base' : Nat} {p : ResP} (h : OwnRows w base p) (hb : base' ≤ base) : OwnRows w base' p := own_mono' h hb
theorem OwnRes.kept {w w' : World} {base R : Nat} {v : Value} {l : List ResP} (h : OwnRes w base v l) (hR : R < base) (hk : Kept R w.heap.size w w') : OwnRes w' base v l :=
  ⟨own_kept h.own hR hk, fun p hp => (h.rows p hp).kept hR hk, h.apart, h.pair⟩
theorem OwnRes_nil (w : World) (base : Nat) : OwnRes w base (.slice none 0 0) [] := ⟨World.ownsRow_nil _ _ _ _, (fun p hp => by cases hp), (fun p hp => by cases hp), List.Pairwise.nil⟩
theorem OwnRes.mono {w : World} {base base' : Nat} {v : Value} {l : List ResP} (h : OwnRes w base v l) (hb : base' ≤ base) : OwnRes w base' v l :=
  ⟨own_mono' h.own hb, fun p hp => (h.rows p hp).mono hb, h.apart, h.pair⟩
/-- One result more. -/
theorem OwnRes.next {w0 w w1 : World} {base : Nat} {v v' : Value} {l : List ResP} {p : ResP} {cs : Array Value} {t : TypeId} (h : OwnRes w base v l) (hp : OwnRows w base p)
    (hnew : ∀ g, p.1.ownBlock = some g → w0.heap.size ≤ g) (hold : ∀ g, v.ownBlock = some g → g < w0.heap.size) (holds : ∀ q ∈ l, ∀ g, q.1.ownBlock = some g → g < w0.heap.size)
    (hb : base ≤ w.heap.size) (hg : (w.alloc (.cells cs t)).grownBy w1 v.ownBlock) (hat : v'.ownBlock = v.ownBlock ∨ v'.ownBlock = some (w.alloc (.cells cs t)).heap.size) (ho : w1.ownsRow base 89 1 v' (l.length + 1) (l.flatMap resCells ++ resCells p)) :
    OwnRes w1 base v' (l ++ [p]) := by
  have hk : ∀ (q : ResP), OwnRows w base q → (∀ g, q.1.ownBlock = some g → v.ownBlock ≠ some g) → OwnRows w1 base q := by
    intro q hq hne
    refine (World.ownsRow.alloc hq (.cells cs t)).kept hg ?_
    cases hq1 : q.1.ownBlock with
    | none => exact .inl rfl
    | some g => exact .inr (fun e => hne g hq1 e.symm)
  have hpv : ∀ g, p.1.ownBlock = some g → v.ownBlock ≠ some g := fun g h1 h2 => by have := hnew g h1; have := hold g h2; omega
  refine ⟨by rw [flat_one, List.length_append, List.length_singleton]; exact ho, fun q hq => ?_, fun q hq g hqg => ?_, ?_⟩
  · rcases List.mem_append.mp hq with h1 | h1
    · exact hk q (h.rows q h1) (h.apart q h1)
    · rw [List.mem_singleton] at h1; subst h1; exact hk q hp hpv
  · intro e
    rcases List.mem_append.mp hq with h1 | h1
    · rcases hat with h2 | h2
      · exact h.apart q h1 g hqg (h2.symm.trans e)
      · have h3 := ((h.rows q h1).lt g hqg).2
        rw [h2] at e; simp at e; omega
    · rw [List.mem_singleton] at h1; subst h1
      rcases hat with h2 | h2
      · exact hpv g hqg (h2.symm.trans e)
      · have h3 := (World.ownsRow.lt hp g hqg).2
        rw [h2] at e; simp at e; omega
  · rw [List.pairwise_append]
    refine ⟨h.pair, List.pairwise_singleton _ _, fun a ha b hb g hag hbg => ?_⟩
    rw [List.mem_singleton] at hb; subst hb
    have := holds a ha g hag
    have := hnew g hbg
    omega

theorem info_Result : (Tryz.prog.info? 89).map (fun i => (i.zero, i.size, i.bytes)) = some (some (.agg #[.slice none 0 0]), 1, 24) := by kernel_rfl
theorem resCells_one (x : ResP) (h : x.1.oneCell' = true) : ∀ u ∈ resCells x, u.oneCell' = true := by
  intro u hu
  simp [resCells] at hu
  rw [hu]; exact h

set_option maxHeartbeats 4000000 in
set_option maxRecDepth 1000000 in
theorem getListRes_any (w : World) (R lim V most : Nat) (tv : TypeId) (s : St) (h : RAt w R lim s) (hv : w.heap[V]? = some (.cells #[ptr R] tv (0, 0))) (hlt : V < w.heap.size) (hn : V ≠ R) :
    Calls Tryz.prog 144 #[ptr R, .int .i64 (most : Int), .func (.func 145) #[] #[ptr V]] w fun e w' => ∃ v, e = .returned v ∧
      (∃ l, OwnRes w' w.heap.size v l ∧ l.map (·.2) = (listS stepRes most s).1) ∧ RAt w' R lim (listS stepRes most s).2 ∧ Kept R w.heap.size w w' := by
  obtain ⟨i0, hi, hz0, hz1, hz2⟩ := info_parts info_Result
  have hRl : R < w.heap.size := h.choose_spec.2.2.2
  have kc := rcount_any w R lim s h
  have hn2 := high2_lt s
  unfold listS
  generalize (highS 2 s).1 = n at *
  generalize (highS 2 s).2 = s1 at *
  have kn := fun w1 (h1 : RAt w1 R lim s1) => need_any w1 R lim s1 (decide (n ≤ most)) h1
  generalize hs2 : needS (decide (n ≤ most)) s1 = s2 at *
  clear hs2
  obtain ⟨tot, htot⟩ : ∃ tot, tot = loopS stepRes n s2 := ⟨_, rfl⟩
  rw [← htot]
  have HT : Hid (tot = loopS stepRes n s2) := htot
  clear htot
  go_enter Tryz.func144, Tryz.ntmps144
  go_wp2_with fail
  refine kc.mono ?_
  rintro e w1 ⟨rfl, h1, q1⟩
  have kn1 := kn w1 h1
  clear kc kn h1
  go_wp2_with fail
  refine kn1.mono ?_
  rintro e w2 ⟨rfl, h2, q2⟩
  have q : Kept R w.heap.size w w2 := q1.trans (q2.mono q1.size)
  have hv2 : w2.heap[V]? = some (.cells #[ptr R] tv (0, 0)) := by rw [q.block V hlt hn]; exact hv
  clear kn1 q1 q2 h hv
  go_wp2
  go_loopw [8, 9] (fun vk i wr => ∃ (k : Nat) (acc : List ResP) (st : St), k ≤ n ∧ i = .int .i64 k ∧ OwnRes wr w.heap.size vk acc ∧ RAt wr R lim st ∧ Kept R w.heap.size w wr ∧ wr.heap[V]? = some (.cells #[ptr R] tv (0, 0)) ∧ Hid (acc.length = k ∧ acc.map (·.2) ++ (loopS stepRes (n - k) st).1 = tot.1 ∧ (loopS stepRes (n - k) st).2 = tot.2)) (fun _ i _ => n - (intOf i).toNat)
  case atStart => exact ⟨0, [], s2, Nat.zero_le _, rfl, OwnRes_nil _ _, h2, q, hv2, ⟨rfl, by rw [HT.out]; rfl, by rw [HT.out]; rfl⟩⟩
  case round =>
    clear q h2 hv2 HT
    obtain ⟨k, acc, st, hk, rfl, hown, hr, hq, hvr, hH⟩ := hrel
    have hbad := hr.bad
    cases hb : st.bad with
    | true =>
      rw [hb] at hbad
      have e1 : tot = (acc.map (·.2), st) := by
        have h := hH.out
        rw [loopS_bad _ _ hb, List.append_nil] at h
        exact Prod.ext h.2.1.symm h.2.2.symm
      have E : Hid (tot = (acc.map (·.2), st)) := e1
      clear e1 hH hb
      obtain ⟨ao, na, ca, rfl⟩ := own_slice hown.own
      by_cases hkn : k < n
      · go_wp2
        go_ret
        exact ⟨_, rfl, ⟨acc, hown, by rw [E.out]⟩, by rw [E.out]; exact hr, hq⟩
      · go_wp2
        go_ret
        exact ⟨_, rfl, ⟨acc, hown, by rw [E.out]⟩, by rw [E.out]; exact hr, hq⟩
    | false =>
      rw [hb] at hbad
      by_cases hkn : k < n
      · have kg := getRes1_any wr R lim V tv st hr hvr (by have := hq.size; omega) hn
        have hH2 : Hid (∀ u : Value, (acc ++ [(u, (stepRes st).1)]).length = k + 1 ∧ (acc ++ [(u, (stepRes st).1)]).map (·.2) ++ (loopS stepRes (n - (k + 1)) (stepRes st).2).1 = tot.1 ∧ (loopS stepRes (n - (k + 1)) (stepRes st).2).2 = tot.2) := fun u => by
          have h := hH.out
          rw [show n - k = (n - (k + 1)) + 1 by omega, loopS_next _ _ hb] at h
          refine ⟨by simp [h.1], ?_, h.2.2⟩
          rw [← h.2.1]; simp
        have hal : acc.length = k := hH.out.1
        have HL : Hid (acc.length ≤ 65536) := by show _ ≤ _; omega
        clear hal hH hb
        generalize (stepRes st).1 = rx at *
        generalize (stepRes st).2 = st2 at *
        have hq1 := hq.size
        obtain ⟨ao, na, ca, rfl⟩ := own_slice hown.own
        unfold resV at kg
        simp only at kg
        go_wp2_with fail
        refine kg.mono ?_
        rintro e w3 ⟨vx, rfl, hox, hr3, q3⟩
        have hown3 := hown.kept hRl q3
        have hq3 : Kept R w.heap.size w w3 := hq.trans (q3.mono hq1)
        have hv3 : w3.heap[V]? = some (.cells #[ptr R] tv (0, 0)) := by rw [q3.block V (by omega) hn]; exact hvr
        have hz3 := hq3.size
        have hnew : ∀ g, vx.ownBlock = some g → wr.heap.size ≤ g := fun g hg => own_row_ge hox g hg
        have hold : ∀ g, Value.ownBlock (.slice ao na ca) = some g → g < wr.heap.size := fun g hg => (hown.own.lt g hg).2
        have holds : ∀ q ∈ acc, ∀ g, q.1.ownBlock = some g → g < wr.heap.size := fun q hqm g hg => ((hown.rows q hqm).lt g hg).2
        have hox3 : OwnRows w3 w.heap.size (vx, rx) := hox.mono hq1
        clear kg hown hr hq hvr hbad q3 hox
        obtain ⟨ax, nx, cx, hvx⟩ := own_slice hox3
        simp only at hvx
        subst hvx
        have hown4 := hown3.own.alloc (.cells (resCells (.slice ax nx cx, rx)).toArray 89)
        have hr4 := hr3.alloc (.cells (resCells (.slice ax nx cx, rx)).toArray 89)
        have hv4 := alloc_block hv3 (.cells (resCells (.slice ax nx cx, rx)).toArray 89)
        have hq4 : Kept R w.heap.size w (w3.alloc (.cells (resCells (.slice ax nx cx, rx)).toArray 89)) := hq3.alloc hz3 _
        have hs4 : w.heap.size ≤ (w3.alloc (.cells (resCells (.slice ax nx cx, rx)).toArray 89)).heap.size := by simp; omega
        have hn4 : ∀ j u, (resCells (.slice ax nx cx, rx))[j]? = some u → (w3.alloc (.cells (resCells (.slice ax nx cx, rx)).toArray 89)).cell? ((⟨w3.heap.size, 0, none⟩ : Addr).add j) = some u := news_ofv (resCells (.slice ax nx cx, rx)) _
        have fin : ∀ v' w4, w4.ownsRow w.heap.size 89 1 v' (acc.length + 1) (acc.flatMap resCells ++ resCells (.slice ax nx cx, rx)) → (w3.alloc (.cells (resCells (.slice ax nx cx, rx)).toArray 89)).grownBy w4 (Value.ownBlock (.slice ao na ca)) →
            (v'.ownBlock = Value.ownBlock (.slice ao na ca) ∨ v'.ownBlock = some (w3.alloc (.cells (resCells (.slice ax nx cx, rx)).toArray 89)).heap.size) →
            OwnRes w4 w.heap.size v' (acc ++ [(.slice ax nx cx, rx)]) ∧ RAt w4 R lim st2 ∧ Kept R w.heap.size w w4 ∧ w4.heap[V]? = some (.cells #[ptr R] tv (0, 0)) := by
          intro v' w4 ho hg hat
          have hrow : ∀ k, Value.ownBlock (.slice ao na ca) = some k → w.heap.size ≤ k := own_row_ge hown4
          exact ⟨hown3.next (w0 := wr) hox3 hnew hold holds hz3 hg hat ho, hr4.grown hg hrow hRl, hq4.grown hg hs4 hrow, block_grown hv4 hlt hs4 hg hrow⟩
        clear hown3 hr3 hv3 hq3 hr4 hv4 hq4 hox3 hnew hold holds
        go_wp2_with (at_builtin; refine wpList_append_own_src _ rfl (.tmp 29) (.tmp 32) 25 25 rfl w.heap.size 89 i0 (.agg #[.slice none 0 0]) 1 24 Tryz.underlying25 hi hz0 hz1 hz2 rfl (by decide) _ acc.length _ rfl hown4 (.slice (some ⟨w3.heap.size, 0, none⟩) 1 1) 1 _ rfl (Src.ofSlice _ Tryz.underlying25 ⟨w3.heap.size, 0, none⟩ 1 1 _ rfl hn4 (resCells_one (.slice ax nx cx, rx) rfl)) (by have := HL.out; unfold maxLen; omega) (by have := HL.out; omega) hs4 ?_; intro v' w4 hown5 hg5 hat5; have F := fin v' w4 hown5 hg5 hat5)
        obtain ⟨F1, F2, F3, F4⟩ := F
        clear fin
        go_roundw
        case rel => exact ⟨k + 1, acc ++ [(.slice ax nx cx, rx)], st2, by omega, by go_num, F1, F2, F3, F4, hH2.out _⟩
        case measure => simp [intOf]; omega
      · have e1 : tot = (acc.map (·.2), st) := by
          have h := hH.out
          rw [show n - k = 0 by omega] at h
          exact Prod.ext (by simpa [loopS] using h.2.1.symm) h.2.2.symm
        have E : Hid (tot = (acc.map (·.2), st)) := e1
        clear e1 hH hb
        obtain ⟨ao, na, ca, rfl⟩ := own_slice hown.own
        go_wp2
        go_ret
        exact ⟨_, rfl, ⟨acc, hown, by rw [E.out]⟩, by rw [E.out]; exact hr, hq⟩

set_option maxHeartbeats 2000000 in
set_option maxRecDepth 1000000 in
theorem wholeResult_no (w : World) (R lim : Nat) (s : St) (ao : Option Addr) (n c : Nat) (h : RAt w R lim s) (hb : s.bad = true ∨ s.rest ≠ []) :
    Calls Tryz.prog 149 #[ptr R, .slice ao n c] w fun e w' => e = .returned (.tuple #[.slice none 0 0, .int .i64 4]) ∧ w' = w := by
  obtain ⟨v, h1, h2, h3, h4⟩ := h
  obtain ⟨c0, c1⟩ := pair_cell h1
  obtain ⟨ao2, cap, rfl, -, -, -⟩ := h2
  clear h1
  cases hbad : s.bad with
  | true =>
    rw [hbad] at c1
    go_enter Tryz.func149, Tryz.ntmps149
    go_wp2
    go_ret2
    exact ⟨rfl, rfl⟩
  | false =>
    rw [hbad] at c1
    have hl : 0 < s.rest.length := by
      rcases hb with hb | hb
      · rw [hbad] at hb; cases hb
      · exact List.length_pos_iff.mpr hb
    clear hb hbad
    go_enter Tryz.func149, Tryz.ntmps149
    go_wp2
    go_ret2
    exact ⟨rfl, rfl⟩
set_option maxHeartbeats 2000000 in
set_option maxRecDepth 1000000 in
theorem wholeResult_yes (w : World) (R lim : Nat) (s : St) (ao : Option Addr) (n c : Nat) (h : RAt w R lim s) (hb : ¬ (s.bad = true ∨ s.rest ≠ [])) :
    Calls Tryz.prog 149 #[ptr R, .slice ao n c] w fun e w' => e = .returned (.tuple #[.slice ao n c, .int .i64 0]) ∧ w' = w := by
  obtain ⟨v, h1, h2, h3, h4⟩ := h
  obtain ⟨c0, c1⟩ := pair_cell h1
  obtain ⟨ao2, cap, rfl, -, -, -⟩ := h2
  rw [not_or] at hb
  have hr : s.rest = [] := Classical.byContradiction hb.2
  have hbad : s.bad = false := Bool.eq_false_iff.mpr hb.1
  rw [hbad] at c1
  rw [hr] at c0
  simp only [List.length_nil] at c0
  clear h1 hb hr hbad
  go_enter Tryz.func149, Tryz.ntmps149
  go_wp2
  go_ret2
  exact ⟨rfl, rfl⟩

set_option maxHeartbeats 2000000 in
set_option maxRecDepth 1000000 in
theorem GetResults_any (w : World) (vb : Value) (bs : List UInt8) (hb : InAt w w.heap.size vb bs) :
    Calls Tryz.prog 82 #[vb] w fun e w' => ∃ v, e = .returned (.tuple #[v, .int .i64 ((getRes bs).2 : Int)]) ∧
      (∃ l, OwnRes w' w.heap.size v l ∧ l.map (·.2) = (getRes bs).1) ∧ Below w.heap.size w w' := by
  have hmf : ∀ (fn : Fn) (first cap : Array Value) (w : World), (Instr.makeFunc fn first cap).run Tryz.prog w = .ok (.func fn first cap) w := fun _ _ _ _ => rfl
  obtain ⟨hR, hV⟩ := rat_new w vb bs hb
  obtain ⟨W, hW⟩ : ∃ W, W = (w.alloc (.cells #[vb, .bool false] 180)).alloc (.cells #[ptr w.heap.size] 178) := ⟨_, rfl⟩
  have bW : Below w.heap.size w W := by rw [hW]; exact below_two' _ _
  have zW : W.heap.size = w.heap.size + 2 := by rw [hW]; simp
  rw [← hW] at hR hV
  have kg := getListRes_any W w.heap.size w.heap.size (w.heap.size + 1) 16 178 ⟨bs, false⟩ hR hV (by omega) (by omega)
  have fin : ∀ w1 v, (∃ l, OwnRes w1 W.heap.size v l ∧ l.map (·.2) = (listS stepRes 16 ⟨bs, false⟩).1) → Kept w.heap.size W.heap.size W w1 →
      (∃ l, OwnRes w1 w.heap.size v l ∧ l.map (·.2) = (listS stepRes 16 ⟨bs, false⟩).1) ∧ Below w.heap.size w w1 ∧ w1.cell? ⟨w.heap.size + 1, 0, none⟩ = some (ptr w.heap.size) := by
    intro w1 v ⟨l, ho, hm⟩ q
    refine ⟨⟨l, ho.mono (by omega), hm⟩, bW.trans (q.below (Nat.le_refl _) (by omega)), ?_⟩
    have : w1.heap[w.heap.size + 1]? = some (.cells #[ptr w.heap.size] 178 (0, 0)) := by rw [q.block _ (by omega) (by omega)]; exact hV
    exact box_cell this
  obtain ⟨aob, capb, hvb, -, -, -⟩ := hb
  subst hvb
  clear bW zW hR hV
  subst hW
  unfold getRes
  generalize hL : listS stepRes 16 ⟨bs, false⟩ = L at *
  clear hL
  by_cases hw : L.2.bad = true ∨ L.2.rest ≠ []
  · rw [whole_no hw]
    go_enter Tryz.func82, Tryz.ntmps82
    go_wp2_with fail
    refine kg.mono ?_
    rintro e w1 ⟨v, rfl, ho, hr, q⟩
    obtain ⟨f1, f2, f3⟩ := fin w1 v ho q
    clear fin kg ho q
    obtain ⟨ao, n, c, rfl⟩ := own_slice f1.choose_spec.1.own
    have kw := wholeResult_no w1 w.heap.size w.heap.size L.2 ao n c hr hw
    go_wp2_with fail
    refine kw.mono ?_
    rintro e w2 ⟨rfl, rfl⟩
    clear kw
    go_wp2
    go_ret2
    exact ⟨_, rfl, ⟨[], OwnRes_nil _ _, rfl⟩, f2⟩
  · rw [whole_yes hw]
    go_enter Tryz.func82, Tryz.ntmps82
    go_wp2_with fail
    refine kg.mono ?_
    rintro e w1 ⟨v, rfl, ho, hr, q⟩
    obtain ⟨f1, f2, f3⟩ := fin w1 v ho q
    clear fin kg ho q
    obtain ⟨ao, n, c, rfl⟩ := own_slice f1.choose_spec.1.own
    have kw := wholeResult_yes w1 w.heap.size w.heap.size L.2 ao n c hr hw
    go_wp2_with fail
    refine kw.mono ?_
    rintro e w2 ⟨rfl, rfl⟩
    clear kw
    go_wp2
    go_ret2
    exact ⟨_, rfl, f1, f2⟩
end Go.Proofs.YtcgecdiaddcfkaaGreatDoor
