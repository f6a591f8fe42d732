/- The walk of Open. -/
import Derived.Test.YtjaidhglemnakaaWRecs
import Derived.Test.YtjaidhglemnakaaWWipe
set_option linter.unusedSimpArgs false
set_option linter.unusedVariables false
namespace Go.Proofs.Ytjaidhglemnakaa
open Go.RowKit Go.Maps
attribute [local go_sem] Oper.semAt_some wfn wdp rfn rdp

/-- Records in memory of their own: the list at v, each record's bytes at its own block. -/
structure RcOwn (w : World) (base : Nat) (v : Value) (X : List Rec) : Prop where
  row : w.ownsRow base 22 1 v X.length (X.map recV)
  els : ∀ x ∈ X, BsAt w base (recV x) x.2
  apart : X.Pairwise (fun a b => a.1 ≠ b.1)
theorem RcOwn.ochg {K : Obj → Prop} {w w' : World} {base : Nat} {v : Value} {X : List Rec} (h : RcOwn w base v X) (hc : OChg K w w') (h1 : ∀ cs fr, ¬ K (.cells cs 22 fr)) (h2 : ∀ cs fr, ¬ K (.cells cs 5 fr)) : RcOwn w' base v X :=
  ⟨own_ochg h.row hc h1, fun x hx => (h.els x hx).ochg hc h2, h.apart⟩
theorem RcOwn.below {w w' : World} {base : Nat} {v : Value} {X : List Rec} (h : RcOwn w base v X) (hb : Below w.heap.size w w') : RcOwn w' base v X :=
  h.ochg (OChg.of_below hb (fun _ => False)) (fun _ _ h => h) (fun _ _ h => h)
theorem RcOwn.nil (w : World) (base : Nat) : RcOwn w base (.slice none 0 0) [] := ⟨World.ownsRow_nil w base _ 1, (fun x hx => by cases hx), List.Pairwise.nil⟩
set_option maxRecDepth 1000000 in
theorem info_sl : (Try.prog.info? 22).map (fun i => (i.zero, i.size, i.bytes)) = some (some (.slice none 0 0), 1, 24) := by kernel_rfl
theorem src_rec (w : World) (x : Value) (hx : x.oneCell' = true) : Src Try.prog 1 34 (.slice (some ⟨w.heap.size, 0, none⟩) 1 1) 1 [x] (w.alloc (.cells #[x] 22)) :=
  Src.ofSlice _ Try.underlying34 _ _ _ _ rfl (news_ofv [x] _) (fun u hu => by simp at hu; subst hu; exact hx)
theorem recs_count (L : List (List UInt8)) : L.length ≤ span L := by
  induction L with
  | nil => exact Nat.le_refl _
  | cons r L ih => rw [span_cons, List.length_cons]; have := secs_pos r.length; omega
theorem setCell_self {W : World} {b : Nat} {v : Value} {t : TypeId} {fr : Nat × Nat} (h : W.heap[b]? = some (.cells #[v] t fr)) : W.setCell ⟨b, 0, none⟩ v = W := by
  unfold World.setCell
  have e : (W.heap.modify b fun
      | .cells c elem frozen => .cells (if (none : Option Nat).isSome then c else c.setIfInBounds 0 v) elem frozen
      | o => o) = W.heap := by
    apply Array.ext_getElem?
    intro i
    rw [Array.getElem?_modify]
    by_cases hi : b = i
    · subst hi
      rw [if_pos rfl, h]
      simp
    · rw [if_neg hi]
  have e2 := congrArg (fun H => { W with heap := H }) e
  exact e2
theorem st_log (b o : Nat) (u : Option Addr) (W : World) (h : W.cell? ⟨b, o, none⟩ = some (.pointer u)) (hf : W.frozen? ⟨b, o, none⟩ = false) (v : Option Addr) : (Instr.storeAt 23 (.pointer (some ⟨b, o, none⟩)) (.pointer v)).run Try.prog W = .ok () (W.setCell ⟨b, o, none⟩ (.pointer v)) := by go_simp
theorem st_recs (b o : Nat) (u : Value) (W : World) (h : W.cell? ⟨b, o, none⟩ = some u) (hf : W.frozen? ⟨b, o, none⟩ = false) (ao : Option Addr) (n c : Nat) : (Instr.storeAt 34 (.pointer (some ⟨b, o, none⟩)) (.slice ao n c)).run Try.prog W = .ok () (W.setCell ⟨b, o, none⟩ (.slice ao n c)) := by go_simp
/-- What holds of Open's loop. -/
structure OpI (w W : World) (A R L B : Nat) (S : List Nat) (d : Dk) (pre : List Rec) : Prop where
  be : Below w.heap.size w W
  dk : DkAt W B S d
  cl : W.heap[A]? = some (.cells #[.pointer (some ⟨L, 0, none⟩)] 23 (0, 0))
  lg : W.heap[L]? = some (.cells #[.pointer (some ⟨B, 0, none⟩), .int .i64 ((span (pre.map (·.2)) : Nat) : Int)] 28 (0, 0))
  rc : ∃ v, W.heap[R]? = some (.cells #[v] 34 (0, 0)) ∧ RcOwn W w.heap.size v pre
theorem OpI.below {w W W' : World} {A R L B : Nat} {S : List Nat} {d : Dk} {pre : List Rec} (h : OpI w W A R L B S d pre) (hb : Below W.heap.size W W') : OpI w W' A R L B S d pre := by
  obtain ⟨v, h1, h2⟩ := h.rc
  exact ⟨h.be.trans (hb.mono h.be.size), h.dk.below hb, (hb.block _ (lt_of_block h.cl)).trans h.cl, (hb.block _ (lt_of_block h.lg)).trans h.lg, v, (hb.block _ (lt_of_block h1)).trans h1, h2.below hb⟩
theorem och_put {W : World} {k : Nat} {o : Obj} (o' : Obj) (hk : W.heap[k]? = some o) : OChg (fun x => x = o) W (W.putObj k o') :=
  ⟨rfl, rfl, rfl, by rw [World.putObj_size]; exact Nat.le_refl _, fun i x hi hn => by
    rw [World.putObj_heap_other (fun e => hn (by subst e; rw [hk] at hi; exact (Option.some.inj hi).symm))]
    exact hi⟩
theorem OpI.put {w W : World} {A R L B : Nat} {S : List Nat} {d : Dk} {pre : List Rec} (h : OpI w W A R L B S d pre) {k : Nat} {o : Obj} (o' : Obj) (hk : W.heap[k]? = some o) (ho : o.isCells = false) (hw : o.isWalk = false) (hge : w.heap.size ≤ k) : OpI w (W.putObj k o') A R L B S d pre := by
  obtain ⟨v, h1, h2⟩ := h.rc
  exact ⟨below_putObj _ h.be hge h.be.size, h.dk.put _ hk ho hw, heap_put _ h.cl hk ho, heap_put _ h.lg hk ho, v, heap_put _ h1 hk ho, h2.ochg (och_put o' hk) (fun _ _ e => by subst e; cases ho) (fun _ _ e => by subst e; cases ho)⟩
set_option maxHeartbeats 2000000 in
set_option maxRecDepth 1000000 in
theorem open_ok {w : World} {B : Nat} {S : List Nat} {d : Dk} (h : DkAt w B S d) (hw : d.ws.length ≤ 800000) : Calls Try.prog 11 #[.pointer (some ⟨B, 0, none⟩)] w fun e w' =>
    ∃ L v X S', e = .returned (.tuple #[.pointer (some ⟨L, 0, none⟩), v, .int .i64 0]) ∧ w.heap.size ≤ L ∧ LgAt w' L B S' d.opened (span (recs d.all)) ∧ RcOwn w' w.heap.size v X ∧ X.map (·.2) = recs d.all ∧ Chg S w w' ∧ ∀ x ∈ S', x ∈ S ∨ w.heap.size ≤ x := by
  have hok := h.ok
  have hmx := hok.max
  refine callsIn_wide.1 (callsIn_of_wp_marks (n := 0) Try.func11 rfl trivial ?_ rfl)
  simp only [Try.ntmps11, List.size_toArray, List.length_cons, List.length_nil, Nat.reduceAdd, Nat.reduceSub, Array.replicate_succ, Array.replicate_zero, List.push_toArray, List.append_toArray, List.nil_append, List.cons_append]
  gi_wp2_with fail
  have e1 := below_one w (.cells #[.pointer none] 23)
  have c0 : (w.alloc (.cells #[.pointer none] 23)).heap[w.heap.size]? = some (.cells #[.pointer none] 23 (0, 0)) := World.alloc_heap_new w _
  have s1 : (w.alloc (.cells #[.pointer none] 23)).heap.size = w.heap.size + 1 := by simp
  obtain ⟨W1, hW1⟩ : ∃ W1, w.alloc (.cells #[.pointer none] 23) = W1 := ⟨_, rfl⟩
  rw [hW1] at e1 c0 s1 ⊢
  have e2 := below_one W1 (.cells #[.slice none 0 0] 34)
  have c1 : (W1.alloc (.cells #[.slice none 0 0] 34)).heap[W1.heap.size]? = some (.cells #[.slice none 0 0] 34 (0, 0)) := World.alloc_heap_new W1 _
  have s2 : (W1.alloc (.cells #[.slice none 0 0] 34)).heap.size = W1.heap.size + 1 := by simp
  obtain ⟨W2, hW2⟩ : ∃ W2, W1.alloc (.cells #[.slice none 0 0] 34) = W2 := ⟨_, rfl⟩
  rw [hW2] at e2 c1 s2 ⊢
  rw [s1] at c1 s2
  have b2 : Below w.heap.size w W2 := e1.trans (e2.mono (by omega))
  replace c0 := (e2.block _ (by omega)).trans c0
  have d2 := h.below b2
  have z2 : Hid (W2.heap.size = w.heap.size + 2) := by show _ = _; omega
  clear hW1 hW2 e1 e2 s1 s2 h
  have cL : (W2.alloc (.cells #[.pointer (some ⟨B, 0, none⟩), .int .i64 0] 28)).heap[W2.heap.size]? = some (.cells #[.pointer (some ⟨B, 0, none⟩), .int .i64 0] 28 (0, 0)) := World.alloc_heap_new W2 _
  have e3 := below_one W2 (.cells #[.pointer (some ⟨B, 0, none⟩), .int .i64 0] 28)
  have c0' : (W2.alloc (.cells #[.pointer (some ⟨B, 0, none⟩), .int .i64 0] 28)).heap[w.heap.size]? = _ := (e3.block _ (lt_of_block c0)).trans c0
  have x0 := box_cell c0'
  have x0f := box_frozen (i := 0) c0'
  refine (callsIn_wide.2 (made_ok d2)).mono ?_
  rintro e w' ⟨rfl, rfl⟩
  gi_wp2_with fail
  have w3 : OpI w ((W2.alloc (.cells #[.pointer (some ⟨B, 0, none⟩), .int .i64 0] 28)).setCell ⟨w.heap.size, 0, none⟩ (.pointer (some ⟨W2.heap.size, 0, none⟩))) w.heap.size (w.heap.size + 1) W2.heap.size B S d [] := by
    have hc : OChg (KT false [23]) (W2.alloc (.cells #[.pointer (some ⟨B, 0, none⟩), .int .i64 0] 28)) ((W2.alloc (.cells #[.pointer (some ⟨B, 0, none⟩), .int .i64 0] 28)).setCell ⟨w.heap.size, 0, none⟩ (.pointer (some ⟨W2.heap.size, 0, none⟩))) := OChg.setCell c0' (KT.yes (by decide)) _
    refine ⟨(b2.trans (e3.mono b2.size)).setCell (by simp) _, (d2.below e3).ochg hc (fun o h1 h2 => KT.off (by decide) h1 h2), box_set _ c0', hc.block _ _ cL (KT.no (by decide) _ _), .slice none 0 0, hc.block _ _ ((e3.block _ (lt_of_block c1)).trans c1) (KT.no (by decide) _ _), RcOwn.nil _ _⟩
  obtain ⟨W3, hW3⟩ : ∃ W3, (W2.alloc (.cells #[.pointer (some ⟨B, 0, none⟩), .int .i64 0] 28)).setCell ⟨w.heap.size, 0, none⟩ (.pointer (some ⟨W2.heap.size, 0, none⟩)) = W3 := ⟨_, rfl⟩
  have z3 : W3.heap.size = w.heap.size + 3 := by
    rw [← hW3]
    have := z2.out
    simp [World.setCell]
    omega
  rw [hW3] at w3 ⊢
  obtain ⟨L, hL⟩ : ∃ L, W2.heap.size = L := ⟨_, rfl⟩
  have hLz : Hid (L = w.heap.size + 2) := by rw [← hL]; exact z2
  rw [hL] at w3 ⊢
  have z3H : Hid (W3.heap.size = w.heap.size + 3) := z3
  clear hW3 hL c0 c1 b2 d2 z2 cL e3 c0' x0 x0f z3
  obtain ⟨R, hR⟩ : ∃ R, w.heap.size + 1 = R := ⟨_, rfl⟩
  rw [hR] at w3 ⊢
  have hRz : Hid (R = w.heap.size + 1) := hR.symm
  clear hR
  obtain ⟨A, hA⟩ : ∃ A, w.heap.size = A := ⟨_, rfl⟩
  have w3' : OpI w W3 A R L B S d [] := by rw [← hA]; exact w3
  rw [hA]
  have hAz : Hid (A = w.heap.size) := hA.symm
  clear hA w3
  refine (callsIn_wide.2 (recordsOn_ok W3 B)).mono ?_
  rintro e w' ⟨rfl, rfl⟩
  gi_wp2
  refine over_all (gf := 39) (lb := #[.pointer (some ⟨W3.heap.size, 0, none⟩)]) (by rfl) (enters_of Try.func39 (by kernel_rfl) rfl) (recs_seq W3.heap.size B d) (fun _ => by rfl)
    (fun pre W => RecInv W3.heap.size B d pre W ∧ OpI w W A R L B S d pre)
    (fun _ _ hI => hI.1) ?put (fun _ _ _ _ _ _ hk hx => hx.put hk) ?kp ?start ?a1 ?assign ?body ?done
  case assign =>
    intro l x W K hK
    simp only [recEnc, recV]
    gi_wp2
    exact hK
  case kp =>
    intro W W4 k o o' o3 o3' hk ho hk3 ho3 h i cs fr hi
    have hne : i ≠ k := by rintro rfl; rw [hk] at hi; cases hi; cases ho
    have h1 := h i cs fr (by rw [World.putObj_heap_other hne]; exact hi)
    rw [World.putObj_heap_other hne] at h1
    rw [World.putObj_heap_other hne]
    exact h1
  case put =>
    rintro pre W k o o' hk ⟨hr, hI⟩ hko hcl hw
    have hge : w.heap.size ≤ k := by
      have := z3H.out
      rcases hk with rfl | rfl <;> simp <;> omega
    refine ⟨fun hp => ?_, hI.put _ hko hcl hw hge⟩
    obtain ⟨r1, S1, r2⟩ := hr hp
    exact ⟨heap_put _ r1 hko hcl, S1, r2.put _ hko hcl hw⟩
  case start =>
    intro o
    have e1 := below_one W3 (.cells #[.pointer (some ⟨B, 0, none⟩)] 24)
    obtain ⟨W4, hW4⟩ : ∃ W4, W3.alloc (.cells #[.pointer (some ⟨B, 0, none⟩)] 24) = W4 := ⟨_, rfl⟩
    have c4 : W4.heap[W3.heap.size]? = some (.cells #[.pointer (some ⟨B, 0, none⟩)] 24 (0, 0)) := by rw [← hW4]; exact World.alloc_heap_new W3 _
    rw [hW4] at e1 ⊢
    have e2 : Below W4.heap.size W4 ((W4.alloc (.deferred (some []))).alloc o) := (below_one W4 _).trans ((below_one _ _).mono (by simp))
    have E := e1.trans (e2.mono e1.size)
    exact ⟨fun _ => ⟨(e2.block _ (lt_of_block c4)).trans c4, S, w3'.dk.below E⟩, w3'.below E⟩
  case body =>
    rintro l pre x W W' ⟨hr, hI⟩ bW hx hD hN
    have hI' := hI.below bW
    obtain ⟨v, hv, hrc⟩ := hI'.rc
    have x1 := box_cell hv
    have x2 := box_cell hI'.cl
    obtain ⟨x3, x4⟩ := pair_cell hI'.lg
    obtain ⟨i0, hi, hz0, hz1, hz2⟩ := info_parts info_sl
    obtain ⟨M, hM⟩ := hx.next
    have hsf := Dk.span_fits hok
    have hcnt := recs_count (recs d.all)
    rw [hM, span_app, span_cons] at hsf
    rw [hM, List.length_append, List.length_map, List.length_cons] at hcnt
    rw [span_app, span_cons] at hcnt
    have hsnoc : span ((pre ++ [x]).map (·.2)) = span (pre.map (·.2)) + secs x.2.length := by rw [List.map_append, span_app]; simp [span_one]
    have hpl : pre.length ≤ 4096 := by omega
    have hob := own_obj hrc.row
    have hrow := own_below hrc.row (below_one W' (.cells #[recV x] 22))
    have hbase := (hI'.be.trans ((below_one W' (.cells #[recV x] 22)).mono hI'.be.size)).size
    have hrx : (W'.alloc (.cells #[recV x] 22)).heap[R]? = _ := (Below.heap_alloc W' _ _ (lt_of_block hv)).trans hv
    have hax : (W'.alloc (.cells #[recV x] 22)).heap[A]? = _ := (Below.heap_alloc W' _ _ (lt_of_block hI'.cl)).trans hI'.cl
    have hlx : (W'.alloc (.cells #[recV x] 22)).heap[L]? = _ := (Below.heap_alloc W' _ _ (lt_of_block hI'.lg)).trans hI'.lg
    have hsrc := src_rec W' (recV x) rfl
    have hnz := hAz.out
    have hnr := hRz.out
    have hnl := hLz.out
    have ne1 : ¬ A = R := by omega
    have ne2 : ¬ R = A := by omega
    have ne3 : ¬ A = L := by omega
    have ne4 : ¬ L = A := by omega
    have ne5 : ¬ R = L := by omega
    have ne6 : ¬ L = R := by omega
    have hup : ∀ k, v.ownBlock = some k → ∃ cs fr, (W'.alloc (.cells #[recV x] 22)).heap[k]? = some (.cells cs 22 fr) := own_obj hrow
    have hge : ∀ k, v.ownBlock = some k → w.heap.size ≤ k := fun k e => own_row_ge hrow k e
    have hold : ∀ a ∈ pre, a.1 < W.heap.size := fun a ha => by
      obtain ⟨v0, -, h0⟩ := hI.rc
      exact ((h0.els a ha).lt _ rfl).2
    have holdH : Hid (∀ a ∈ pre, a.1 < W.heap.size) := hold
    have hws : w.heap.size ≤ W.heap.size := hI.be.size
    clear hold
    have hxH : Hid (RecHx d pre x W W') := hx
    have hrcH : Hid (RcOwn W' w.heap.size v pre) := hrc
    have hIH : Hid (OpI w W' A R L B S d pre) := hI'
    have bWs := bW.size
    obtain ⟨NS, hNS⟩ : ∃ NS, NS = span (pre.map (·.2)) := ⟨_, rfl⟩
    obtain ⟨Z, hZ⟩ : ∃ Z, Z = secs x.2.length := ⟨_, rfl⟩
    rw [← hNS] at x4 hlx hsf hsnoc
    rw [← hZ] at hsf hsnoc
    have hb1 : (NS : Int) + (Z : Int) ≤ 4096 := by omega
    have hsnH : Hid (span ((pre ++ [x]).map (·.2)) = NS + Z) := hsnoc
    unfold recV at hrow hbase hrx hax hlx hsrc hup
    rw [← hZ]
    clear hM hcnt hsf hNS hZ hsnoc hnz hnr hnl hx hrc hI hI' hr
    gi_wp2_with (gi_at_builtin; refine wpListIn_append_own_src _ rfl _ _ 34 34 rfl w.heap.size 22 i0 (.slice none 0 0) 1 24 Try.underlying34 hi hz0 hz1 hz2 rfl (by decide) v pre.length _ rfl hrow (.slice (some ⟨W'.heap.size, 0, none⟩) 1 1) 1 _ rfl hsrc (by unfold maxLen; omega) (by omega) hbase ?_; refine fun v3 w3 o3 g3 q3 => ?_; obtain ⟨ao3, k3, c3, rfl⟩ := own_slice o3; have hOC : OChg (KT false [22]) (W'.alloc (.cells #[.slice (some ⟨x.1, 0, none⟩) x.2.length x.2.length] 22)) w3 := OChg.grown g3 (fun k o e hk => by obtain ⟨cs, fr, h⟩ := hup k e; rw [h] at hk; cases hk; exact KT.yes (by decide)); have y1 := hOC.block _ _ hrx (KT.no (by decide) _ _); have y2 := hOC.block _ _ hax (KT.no (by decide) _ _); have y3 := hOC.block _ _ hlx (KT.no (by decide) _ _); have y1c := box_cell y1; have y1f := box_frozen (i := 0) y1; have y2c := box_cell y2; obtain ⟨y3c, y3d⟩ := pair_cell y3; have y3f := box_frozen (i := 1) y3)
    obtain ⟨V3, hV3⟩ : ∃ V3, V3 = Value.slice ao3 k3 c3 := ⟨_, rfl⟩
    rw [← hV3] at o3 q3 ⊢
    clear hV3
    have I0 := hIH.out
    have y4 := pair_cell y3
    have cR : OChg (KT false [34, 28]) w3 (w3.setCell ⟨R, 0, none⟩ V3) := OChg.setCell y1 (KT.yes (by decide)) _
    have hL4 : (w3.setCell ⟨R, 0, none⟩ V3).heap[L]? = _ := (Below.heap_setCell w3 _ _ _ (by simpa using ne6)).trans y3
    have cL : OChg (KT false [34, 28]) (w3.setCell ⟨R, 0, none⟩ V3) ((w3.setCell ⟨R, 0, none⟩ V3).setCell ⟨L, 1, none⟩ (.int .i64 ((NS : Int) + (Z : Int)))) := OChg.setCell hL4 (KT.yes (by decide)) _
    have c35 := cR.trans cL
    have cAll : OChg (KT false [22, 34, 28]) W' ((w3.setCell ⟨R, 0, none⟩ V3).setCell ⟨L, 1, none⟩ (.int .i64 ((NS : Int) + (Z : Int)))) :=
      ((OChg.of_below (below_one W' _) _).trans (hOC.mono (fun o => KT.mono (fun h => h) (by decide)))).trans (c35.mono (fun o => KT.mono (fun h => h) (by decide)))
    have hR5 : ((w3.setCell ⟨R, 0, none⟩ V3).setCell ⟨L, 1, none⟩ (.int .i64 ((NS : Int) + (Z : Int)))).heap[R]? = some (.cells #[V3] 34 (0, 0)) := (Below.heap_setCell _ _ _ _ (by simpa using ne5)).trans (box_set V3 y1)
    have hL5 := pair_set1 (.int .i64 ((NS : Int) + (Z : Int))) hL4
    have hbe : Below w.heap.size w ((w3.setCell ⟨R, 0, none⟩ V3).setCell ⟨L, 1, none⟩ (.int .i64 ((NS : Int) + (Z : Int)))) := by
      have a1 := I0.be.trans ((below_one W' (.cells #[.slice (some ⟨x.1, 0, none⟩) x.2.length x.2.length] 22)).mono I0.be.size)
      refine ((a1.grown g3 a1.size hge).setCell ?_ _).setCell ?_ _
      · show w.heap.size ≤ R; have := hRz.out; omega
      · show w.heap.size ≤ L; have := hLz.out; omega
    obtain ⟨W5, hW5⟩ : ∃ W5, (w3.setCell ⟨R, 0, none⟩ V3).setCell ⟨L, 1, none⟩ (.int .i64 ((NS : Int) + (Z : Int))) = W5 := ⟨_, rfl⟩
    rw [hW5] at cL c35 cAll hR5 hL5 hbe ⊢
    have hrow5 : W5.ownsRow w.heap.size 22 1 V3 (pre ++ [x]).length ((pre ++ [x]).map recV) := by
      rw [List.length_append, List.length_singleton, List.map_append]
      exact own_ochg o3 c35 (KT.no (by decide))
    clear hW5 cL c35 cR hL4 o3 g3 q3
    refine ⟨⟨⟨fun hp => by simp at hp, hbe, I0.dk.ochg cAll (fun o h1 h2 => KT.off (by decide) h1 h2), cAll.block _ _ I0.cl (KT.no (by decide) _ _), ?_, V3, hR5, hrow5, fun y hy => ?_, ?_⟩, fun i cs fr hi => by rw [hi]; exact cAll.block _ _ hi (KT.no (by decide) _ _)⟩, fun k hk => ?_⟩
    · rw [hL5, hsnH.out]
      congr 4
    · rcases List.mem_append.1 hy with hy | hy
      · exact (hrcH.out.els y hy).ochg cAll (KT.no (by decide))
      · simp at hy
        subst hy
        exact (own_from' hxH.out.mem hws).ochg cAll (KT.no (by decide))
    · rw [List.pairwise_append]
      refine ⟨hrcH.out.apart, List.pairwise_singleton _ _, fun a ha b hb => ?_⟩
      simp at hb
      subst hb
      have h1 := holdH.out a ha
      have h2 := hxH.out.new
      omega
    · obtain ⟨o, ho1, ho2, ho3⟩ := hN k hk
      rw [ho1]
      refine cAll.block k o ho1 (fun hK => ?_)
      cases o with
      | cells cs t fr => cases ho2
      | map e c => cases hK
      | _ => exact hK
  case done =>
    rintro xs W1 W hS ⟨hr, hI⟩ bW hD hK
    have hI' := hI.below bW
    obtain ⟨v, hv, hrc⟩ := hI'.rc
    have x2 := box_cell hI'.cl
    have hlg := hI'.lg
    rw [hS] at hlg
    have hl : LgAt W L B S d (span (recs d.all)) := ⟨hI'.dk, hlg⟩
    have kw := wipe_ok hl (Dk.span_fits hok) (by omega)
    have hwl := Dk.wipe_wlen d (span (recs d.all)) (d.sure.length - span (recs d.all))
    rw [World.size_alloc] at hK
    have hk : w.heap.size ≤ W3.heap.size + 1 := by have := z3H.out; omega
    gi_wp2_with fail
    refine (callsIn_wide.2 kw).mono ?_
    rintro e w4 ⟨rfl, S4, l4, c4, q4⟩
    clear kw
    gi_wp2_with fail
    refine (callsIn_wide.2 (sync_ok l4.dk)).mono ?_
    rintro e w5 ⟨rfl, S5, d5, c5, q5⟩
    gi_wp2
    have l5 : LgAt w5 L B S5 d.opened (span (recs d.all)) := ⟨d5, (l4.dk.och c5).block _ _ l4.log (KT.no (by decide) _ _)⟩
    have o45 : OChg (KT true dT) W w5 := (hI'.dk.och c4).trans (l4.dk.och c5)
    have g1 := o45.block _ _ hI'.cl (KT.no (by decide) _ _)
    have g2 := o45.block _ _ hv (KT.no (by decide) _ _)
    have g3 := o45.block _ _ hK (fun h => h)
    have rc5 := hrc.ochg o45 (KT.no (by decide)) (KT.no (by decide))
    obtain ⟨ao, n, c, rfl⟩ := own_slice rc5.row
    have cw5 : Chg S w w5 := ((Chg.of_below hI'.be S).trans c4 (fun x hx => .inl hx)).trans c5 (fun x hx => (q4 x hx).imp id (fun h => Nat.le_trans hI'.be.size h))
    have q5' : ∀ x ∈ S5, x ∈ S ∨ w.heap.size ≤ x := fun x hx => by
      have e1 := hI'.be.size
      have e2 := c4.size
      rcases q5 x hx with h' | h'
      · exact (q4 x h').imp id (fun h => by omega)
      · exact .inr (by omega)
    have hge : w.heap.size ≤ L := by have := hLz.out; omega
    obtain ⟨Wd, hWd⟩ : ∃ Wd, w5.drew = Wd := ⟨_, rfl⟩
    have bd : Below w5.heap.size w5 Wd := by rw [← hWd]; exact below_drew w5
    have g1d := (bd.block _ (lt_of_block g1)).trans g1
    have g2d := (bd.block _ (lt_of_block g2)).trans g2
    have g3d := (bd.block _ (lt_of_block g3)).trans g3
    have ld := l5.below bd
    have rcd := rc5.below bd
    have cwd : Chg S w Wd := cw5.trans (Chg.of_below bd []) (fun x hx => by cases hx)
    have g1c := box_cell g1d
    have g2c := box_cell g2d
    have st1 : (Instr.storeAt 23 (.pointer (some ⟨A, 0, none⟩)) (.pointer (some ⟨L, 0, none⟩))).run Try.prog Wd = .ok () Wd := by
      have h1 := st_log _ _ _ _ g1c (box_frozen (i := 0) g1d) (some ⟨L, 0, none⟩)
      rw [setCell_self g1d] at h1
      exact h1
    have st2 : (Instr.storeAt 34 (.pointer (some ⟨R, 0, none⟩)) (.slice ao n c)).run Try.prog Wd = .ok () Wd := by
      have h1 := st_recs _ _ _ _ g2c (box_frozen (i := 0) g2d) ao n c
      rw [setCell_self g2d] at h1
      exact h1
    clear l4 c4 q4 c5 q5 d5 l5 g1 g2 g3 rc5 cw5 o45 bd
    refine wide_region (fun W => W = Wd) (by kernel_rfl) (by kernel_rfl) hWd (fun hHeld => ?_)
    rw [hWd]
    rw [hWd] at hHeld
    -- REGION 11
    refine wpAnyH_take (i := 0) (oi := { dst := some 38, op := Go.Op.load 23 (Go.Operand.tmp 2), type := 23, pos := _, after := #[], guard := none }) (v := .pointer (some ⟨L, 0, none⟩)) rfl (by kernel_rfl) (by kernel_rfl) (by kernel_rfl) (fun _ _ _ h => h) (yieldsIf_load (by rfl) 23 (.tmp 2) rfl _ _ rfl (fun W hW => by rw [hW]; exact ld_log _ _ _ _ g1c)) (by assumption) ?_
    try simp only [Act.put, List.setIfInBounds_toArray, List.set_cons_zero, List.set_cons_succ]
    refine wpAnyH_take (i := 1) (oi := { dst := some 39, op := Go.Op.load 34 (Go.Operand.tmp 3), type := 34, pos := _, after := #[], guard := none }) (v := .slice ao n c) rfl (by kernel_rfl) (by kernel_rfl) (by kernel_rfl) (fun _ _ _ h => h) (yieldsIf_load (by rfl) 34 (.tmp 3) rfl _ _ rfl (fun W hW => by rw [hW]; exact ld_recs _ _ _ _ _ _ g2c)) (by assumption) ?_
    try simp only [Act.put, List.setIfInBounds_toArray, List.set_cons_zero, List.set_cons_succ]
    refine wpAnyH_ready (rs := [2]) (by kernel_rfl) (by simp) ?_
    refine AllReadyH.cons (o := { dst := none, op := Go.Op.store 23 (Go.Operand.tmp 2) (Go.Operand.tmp 38), type := 0, pos := _, after := #[{ on := 0, ground := Go.Ground.data }, { on := 0, ground := Go.Ground.phase }, { on := 1, ground := Go.Ground.textOnly Go.Departure.inlinedCapture }], guard := none }) rfl (fun K hK => ?_) AllReadyH.nil
    refine step_store rfl 23 (.tmp 2) (.tmp 38) rfl _ _ rfl rfl Wd st1 ?_
    refine hK.out _ _ rfl (fun hHeld2 => ?_)
    clear hK K
    try simp only [Act.put, List.setIfInBounds_toArray, List.set_cons_zero, List.set_cons_succ]
    refine wpAnyH_ready (rs := [3]) (by kernel_rfl) (by simp) ?_
    refine AllReadyH.cons (o := { dst := none, op := Go.Op.store 34 (Go.Operand.tmp 3) (Go.Operand.tmp 39), type := 0, pos := _, after := #[{ on := 1, ground := Go.Ground.data }, { on := 2, ground := Go.Ground.chain }, { on := 0, ground := Go.Ground.phase }, { on := 1, ground := Go.Ground.phase }, { on := 2, ground := Go.Ground.phase }], guard := none }) rfl (fun K hK => ?_) AllReadyH.nil
    refine step_store rfl 34 (.tmp 3) (.tmp 39) rfl _ _ rfl rfl Wd st2 ?_
    refine hK.out _ _ rfl (fun hHeld2 => ?_)
    clear hK K
    try simp only [Act.put, List.setIfInBounds_toArray, List.set_cons_zero, List.set_cons_succ]
    refine wpAnyH_take (i := 4) (oi := { dst := some 4, op := Go.Op.assign (Go.Operand.const (Go.Value.int Go.IntKind.i64 0)), type := 30, pos := _, after := #[{ on := 3, ground := Go.Ground.chain }, { on := 0, ground := Go.Ground.phase }, { on := 1, ground := Go.Ground.phase }, { on := 2, ground := Go.Ground.phase }, { on := 3, ground := Go.Ground.phase }], guard := none }) (v := .int .i64 0) rfl (by kernel_rfl) (by kernel_rfl) (by kernel_rfl) (fun _ _ _ h => h) (Or.inl ⟨by rfl, fun W hW => by go_simp⟩) (by assumption) ?_
    try simp only [Act.put, List.setIfInBounds_toArray, List.set_cons_zero, List.set_cons_succ]
    refine wpAnyH_done (by kernel_rfl) ?_ _
    refine Straight.normal ?_
    -- END 11
    gi_wp2
    have k1 := box_cell (heap_put (.deferred none) g1d g3d rfl)
    have k2 := box_cell (heap_put (.deferred none) g2d g3d rfl)
    refine leaves_ret (v := .tuple #[.pointer (some ⟨L, 0, none⟩), .slice ao n c, .int .i64 0]) rfl g3d (by simp [results, Try.results11, go_sem, k1, k2, Result.andThen]) ?_
    have fin : w.heap.size ≤ L ∧ ∃ X S', LgAt (Wd.putObj (W3.heap.size + 1) (.deferred none)) L B S' d.opened (span (recs d.all)) ∧ RcOwn (Wd.putObj (W3.heap.size + 1) (.deferred none)) w.heap.size (.slice ao n c) X ∧ X.map (·.2) = recs d.all ∧ Chg S w (Wd.putObj (W3.heap.size + 1) (.deferred none)) ∧ ∀ x ∈ S', x ∈ S ∨ w.heap.size ≤ x := ⟨hge, xs, S5, ⟨ld.dk.put _ g3d rfl rfl, heap_put _ ld.log g3d rfl⟩, rcd.ochg (och_put _ g3d) (fun _ _ e => by cases e) (fun _ _ e => by cases e), hS, cwd.putObj _ hk, q5'⟩
    obtain ⟨f1, X, S', f2⟩ := fin
    first | exact ⟨L, _, X, S', rfl, f1, f2⟩ | exact ⟨L, _, rfl, f1, X, S', f2⟩
end Go.Proofs.Ytjaidhglemnakaa
