/- A row of bytes, gone through 64 by 64: the iterator of slices.Chunk; The walks of fits and write: sectors behind the records; The walks of Add and Room. -/
import Derived.Test.YtjaidhglemnakaaWDrawn
import Derived.Sort.QuietIn
import Derived.Test.YtjaidhglemnakaaWWipe
set_option linter.unusedSimpArgs false
set_option linter.unusedVariables false
namespace Go.Proofs.Ytjaidhglemnakaa
open Go.RowKit Go.Maps
attribute [local go_sem] Oper.semAt_some wfn wdp rfn rdp

theorem chunkOf_ok (w : World) (ao : Option Addr) (n c : Nat) : Calls Try.prog 38 #[.slice ao n c, .int .i64 64] w fun e w' =>
    e = .returned (.func (.func 47) #[] #[.pointer (some ⟨w.heap.size, 0, none⟩), .pointer (some ⟨w.heap.size + 1, 0, none⟩)]) ∧ (w.alloc (.cells #[.slice ao n c] 22)).alloc (.cells #[.int .i64 64] 3) = w' := by
  go_enter Try.func38, Try.ntmps38
  go_wp2
  go_ret
  exact ⟨rfl, rfl⟩
def chEnc (G : Nat) (i : Nat) : Array Value := #[.slice (some ⟨G, i * 64, none⟩) 64 64]
structure ChInv (bs bn G m : Nat) (W : World) : Prop where
  cs : W.heap[bs]? = some (.cells #[.slice (some ⟨G, 0, none⟩) (m * 64) (m * 64)] 22 (0, 0))
  cn : W.heap[bn]? = some (.cells #[.int .i64 64] 3 (0, 0))
set_option maxHeartbeats 2000000 in
set_option maxRecDepth 1000000 in
theorem chunk_seq (bs bn G m : Nat) (hm : m ≤ 1000) :
    SeqTo Try.prog 47 #[.pointer (some ⟨bs, 0, none⟩), .pointer (some ⟨bn, 0, none⟩)] (chEnc G) (fun (_ : List Nat) W => ChInv bs bn G m W) (fun pre i _ _ => i = pre.length ∧ i < m) (fun _ _ => True) (fun xs => xs.length = m) := by
  intro l J hInv hY W0 h0
  refine callsIn_of_wp Try.func47 rfl trivial ?_ rfl
  simp only [Try.ntmps47, List.size_toArray, List.length_cons, List.length_nil, Nat.reduceAdd, Nat.reduceSub, Array.replicate_succ, Array.replicate_zero, List.push_toArray, List.append_toArray, List.nil_append, List.cons_append]
  gi_wp2
  gi_loopw [4] (fun i wr => ∃ (pre : List Nat) (W : World), i = .int .i64 ((pre.length * 64 : Nat) : Int) ∧ pre.length ≤ m ∧ J pre W ∧ Below W.heap.size W wr) (fun i _ => m * 64 - (intOf i).toNat)
  case atStart => exact ⟨[], W0, by simp, by simp, h0, Below.refl _ _⟩
  case round =>
    obtain ⟨pre, W, rfl, hpl, hJ, hb⟩ := hrel
    have hI := hInv _ _ hJ
    have hcs := box_cell ((hb.block bs (lt_of_block hI.cs)).trans hI.cs)
    have hcn := box_cell ((hb.block bn (lt_of_block hI.cn)).trans hI.cn)
    by_cases hlt : pre.length < m
    · have yY := fun nq => hY pre pre.length W (wr.drewN nq) hJ (hb.trans ((below_drewN wr nq).mono hb.size)) ⟨rfl, hlt⟩
      dsimp only [chEnc] at yY
      obtain ⟨j, hj⟩ : ∃ j, j = pre.length * 64 := ⟨_, rfl⟩
      obtain ⟨N, hN⟩ : ∃ N, N = m * 64 := ⟨_, rfl⟩
      rw [← hN] at hcs
      rw [← hj] at yY ⊢
      have hjH : Hid (j = pre.length * 64) := hj
      have hNH : Hid (N = m * 64) := hN
      have i1 : (j : Int) < (N : Int) := by omega
      have i2 : j + 64 ≤ N := by omega
      have i3 : N ≤ 64000 := by omega
      have i4 : (64 : Int) ≤ (N : Int) - (j : Int) := by omega
      have i5 : ¬ N = j := by omega
      clear hj hN hI
      gi_wp2
      gi_quiet (fail)
      obtain ⟨fn, tmps, assign, body, hy, hR⟩ := yY nq
      clear yY
      gi_wp2
      refine hR.mono ?_
      rintro e W2 ⟨rfl, hJ2, -⟩
      have hI2 := hInv _ _ hJ2
      have hcn2 := box_cell hI2.cn
      gi_wp2
      go_roundw
      case rel => exact ⟨pre ++ [pre.length], W2, by have := hjH.out; simp; omega, by have := hjH.out; have := hNH.out; simp; omega, hJ2, Below.refl _ _⟩
      case measure => have := hNH.out; simp [intOf]; omega
    · have i1 : ¬ ((pre.length * 64 : Nat) : Int) < ((m * 64 : Nat) : Int) := by omega
      gi_wp2
      go_end0
      first | exact ⟨⟨_, rfl⟩, pre, W, (show pre.length = m by omega), hJ, hb⟩ | exact ⟨⟨_, rfl⟩, pre, (show pre.length = m by omega), W, hJ, hb⟩
end Go.Proofs.Ytjaidhglemnakaa
namespace Go.Proofs.Ytjaidhglemnakaa
open Go.RowKit Go.Maps
attribute [local go_sem] Oper.semAt_some wfn wdp rfn rdp

theorem fits_ok {w : World} {L B : Nat} {S : List Nat} {d : Dk} {n : Nat} (h : LgAt w L B S d n) (hn : n ≤ d.sure.length) (ao : Option Addr) (m c : Nat) (hm : m ≤ 1000) : Calls Try.prog 23 #[.pointer (some ⟨L, 0, none⟩), .slice ao (m * 64) c] w fun e w' =>
    e = .returned (.bool (decide (n + m ≤ d.sure.length))) ∧ ∃ k, w' = w.drewN k := by
  have ks : ∀ k, Calls Try.prog 37 #[.pointer (some ⟨B, 0, none⟩)] (w.drewN k) fun e w' => e = .returned (.int .i64 (d.sure.length : Int)) ∧ w' = w.drewN k := fun k => (size_ok (h.dk.below (below_drewN w k))).mono fun e w' ⟨h1, h2⟩ => ⟨h1, h2.symm⟩
  have hmx := h.dk.ok.max
  obtain ⟨c0, c1⟩ := h.cells
  clear h
  obtain ⟨N, hN⟩ : ∃ N, N = m * 64 := ⟨_, rfl⟩
  obtain ⟨Z, hZ⟩ : ∃ Z, Z = d.sure.length := ⟨_, rfl⟩
  rw [← hZ] at ks hmx hn ⊢
  have hD : Hid ((decide (((N : Int)).tdiv 64 ≤ (Z : Int) - (n : Int))) = decide (n + m ≤ Z)) := by
    show _ = _
    rw [Int.tdiv_eq_ediv_of_nonneg (by omega)]
    congr 1
    rw [eq_iff_iff, hN]
    omega
  rw [← hN]
  rw [← hD.out]
  have i1 : (Z : Int) ≤ 4096 := by omega
  have i2 : (n : Int) ≤ (Z : Int) := by omega
  have i3 : (N : Int) ≤ 64000 := by omega
  clear hN hZ hD
  go_enter Try.func23, Try.ntmps23
  go_wp2
  go_quiet (first | (go_at_call 37; refine Calls.quiet_of_same (ks _)))
  go_wp2
  go_ret
  exact ⟨rfl, _, rfl⟩
/-- Records' bytes at block G, of whole sectors. -/
abbrev FrAt (W : World) (G m : Nat) (b : List UInt8) : Prop := BsAt W 0 (.slice (some ⟨G, 0, none⟩) (m * 64) (m * 64)) b
theorem FrAt.piece {W : World} {G m : Nat} {b : List UInt8} (h : FrAt W G m b) (hb : b.length = m * 64) {k : Nat} (hk : k < m) : InAt W W.heap.size (.slice (some ⟨G, k * 64, none⟩) 64 64) (chunk b k) := by
  have hl := chunk_len (b := b) (i := k) (by omega)
  obtain ⟨ao, c, e, h1, h2, h3⟩ := h.in
  rw [hb] at e h1
  cases e
  obtain ⟨g, off, e, hlt, hc⟩ := h3 (by omega)
  cases e
  refine ⟨_, 64, by rw [hl], by omega, by unfold maxLen; omega, fun _ => ⟨G, k * 64, rfl, hlt, fun i hi j u hu => ?_⟩⟩
  have := hc (k * 64 + i) (by omega) j u (by
    rw [← hu]
    congr 2
    simp only [chunk, List.getElem_take, List.getElem_drop])
  rw [show k * 64 + i * 1 + j = 0 + (k * 64 + i) * 1 + j by omega]
  exact this
structure PutI (w W : World) (L B : Nat) (S : List Nat) (d : Dk) (n G m : Nat) (b : List UInt8) (k : Nat) : Prop where
  lg : ∃ S', LgAt W L B S' (d.puts n b k) (n + k) ∧ Chg (L :: S) w W ∧ ∀ x ∈ S', x ∈ S ∨ w.heap.size ≤ x
  box : W.heap[w.heap.size]? = some (.cells #[.pointer (some ⟨L, 0, none⟩)] 82 (0, 0))
  fr : FrAt W G m b
set_option maxHeartbeats 800000 in
set_option maxRecDepth 1000000 in
theorem pwrite_ok {w : World} {L B : Nat} {S : List Nat} {d : Dk} {n : Nat} (h : LgAt w L B S d n) (G m : Nat) (b : List UInt8) (hfr : FrAt w G m b) (hb : b.length = m * 64) (hm : m ≤ 1000) (hn : n + m ≤ d.sure.length) (hw : d.ws.length ≤ 900000) : Calls Try.prog 24 #[.pointer (some ⟨L, 0, none⟩), .slice (some ⟨G, 0, none⟩) (m * 64) (m * 64)] w fun e w' =>
    e = .returned (.tuple #[]) ∧ ∃ S', LgAt w' L B S' (d.puts n b m) (n + m) ∧ Chg (L :: S) w w' ∧ ∀ x ∈ S', x ∈ S ∨ w.heap.size ≤ x := by
  have hok := h.dk.ok
  have hmx := hok.max
  refine callsIn_wide.1 (callsIn_of_wp_marks (n := 0) Try.func24 rfl trivial ?_ rfl)
  simp only [Try.ntmps24, List.size_toArray, List.length_cons, List.length_nil, Nat.reduceAdd, Nat.reduceSub, Array.replicate_succ, Array.replicate_zero, List.push_toArray, List.append_toArray, List.nil_append, List.cons_append]
  have p1 : (w.alloc (.cells #[.pointer (some ⟨L, 0, none⟩)] 82)).heap[w.heap.size]? = some (.cells #[.pointer (some ⟨L, 0, none⟩)] 82 (0, 0)) := World.alloc_heap_new w _
  have b1 := below_one w (.cells #[.pointer (some ⟨L, 0, none⟩)] 82)
  have z1 : (w.alloc (.cells #[.pointer (some ⟨L, 0, none⟩)] 82)).heap.size = w.heap.size + 1 := by simp
  gi_wp2
  obtain ⟨W2, hW2⟩ : ∃ W2, w.alloc (.cells #[.pointer (some ⟨L, 0, none⟩)] 82) = W2 := ⟨_, rfl⟩
  rw [hW2] at p1 b1 z1 ⊢
  have z2 : Hid (W2.heap.size = w.heap.size + 1) := z1
  clear hW2 z1
  refine (callsIn_wide.2 (chunkOf_ok W2 _ _ _)).mono ?_
  rintro e w' ⟨rfl, rfl⟩
  gi_wp2
  refine over_all (gf := 47) (lb := #[.pointer (some ⟨W2.heap.size, 0, none⟩), .pointer (some ⟨W2.heap.size + 1, 0, none⟩)]) (by rfl) (enters_of Try.func47 (by kernel_rfl) rfl) (chunk_seq W2.heap.size (W2.heap.size + 1) G m hm) (fun _ => by rfl)
    (fun pre W => ChInv W2.heap.size (W2.heap.size + 1) G m W ∧ PutI w W L B S d n G m b pre.length)
    (fun _ _ hI => hI.1) ?put (fun _ _ _ _ _ _ _ hx => hx) (fun _ _ _ _ _ _ _ _ _ _ _ _ => trivial) ?start ?a1 ?assign ?body ?done
  case assign =>
    intro l x W K hK
    simp only [chEnc]
    gi_wp2
    exact hK
  case put =>
    rintro pre W k o o' hk ⟨⟨hc1, hc2⟩, ⟨⟨S', hl, hc, hS'⟩, hp, hf⟩⟩ hko hcl hw
    refine ⟨⟨heap_put _ hc1 hko hcl, heap_put _ hc2 hko hcl⟩, ⟨S', ⟨hl.dk.put _ hko hcl hw, heap_put _ hl.log hko hcl⟩, hc.putObj (k := k) o' ?_, hS'⟩, heap_put _ hp hko hcl, ?_⟩
    · have := z2.out
      rcases hk with rfl | rfl <;> simp <;> omega
    · exact own_kept hf (fun bb e => World.putObj_heap_other (by
        obtain ⟨cs, fr, ho⟩ := own_obj hf bb e
        rintro rfl
        rw [ho] at hko
        cases hko
        cases hcl))
  case start =>
    intro o
    have e1 := below_one W2 (.cells #[.slice (some ⟨G, 0, none⟩) (m * 64) (m * 64)] 22)
    obtain ⟨W3, hW3⟩ : ∃ W3, W2.alloc (.cells #[.slice (some ⟨G, 0, none⟩) (m * 64) (m * 64)] 22) = W3 := ⟨_, rfl⟩
    have c3 : W3.heap[W2.heap.size]? = some (.cells #[.slice (some ⟨G, 0, none⟩) (m * 64) (m * 64)] 22 (0, 0)) := by rw [← hW3]; exact World.alloc_heap_new W2 _
    have s3 : W3.heap.size = W2.heap.size + 1 := by rw [← hW3]; simp
    rw [hW3] at e1 ⊢
    have e2 := below_one W3 (.cells #[.int .i64 64] 3)
    have c4 : (W3.alloc (.cells #[.int .i64 64] 3)).heap[W3.heap.size]? = some (.cells #[.int .i64 64] 3 (0, 0)) := World.alloc_heap_new W3 _
    have s4 : (W3.alloc (.cells #[.int .i64 64] 3)).heap.size = W3.heap.size + 1 := by simp
    obtain ⟨W4, hW4⟩ : ∃ W4, W3.alloc (.cells #[.int .i64 64] 3) = W4 := ⟨_, rfl⟩
    rw [hW4] at e2 c4 s4 ⊢
    have e3 : Below W4.heap.size W4 ((W4.alloc (.deferred (some []))).alloc o) := (below_one W4 _).trans ((below_one _ _).mono (by simp))
    obtain ⟨W5, hW5⟩ : ∃ W5, (W4.alloc (.deferred (some []))).alloc o = W5 := ⟨_, rfl⟩
    rw [hW5] at e3 ⊢
    rw [s3] at c4
    have E : Below W2.heap.size W2 W5 := (e1.trans (e2.mono (by omega))).trans (e3.mono (by omega))
    have E0 := b1.trans (E.mono b1.size)
    have h5 := h.below E0
    refine ⟨⟨?_, ?_⟩, ⟨S, h5, Chg.of_below E0 _, fun x hx => .inl hx⟩, (E.block _ (lt_of_block p1)).trans p1, BsAt.below hfr E0⟩
    · rw [e3.block _ (by omega), e2.block _ (by omega)]; exact c3
    · rw [e3.block _ (by omega)]; exact c4
  case body =>
    rintro l pre x W W' ⟨hC, ⟨⟨S', hl, hc, hS'⟩, hp, hf⟩⟩ bW ⟨hx1, hx2⟩ hD hN
    subst hx1
    have hl' := hl.below bW
    have hp' : W'.heap[w.heap.size]? = _ := (bW.block _ (lt_of_block hp)).trans hp
    have hC1 : W'.heap[W2.heap.size]? = _ := (bW.block _ (lt_of_block hC.cs)).trans hC.cs
    have hC2 : W'.heap[W2.heap.size + 1]? = _ := (bW.block _ (lt_of_block hC.cn)).trans hC.cn
    have hc' : Chg (L :: S) w W' := hc.trans (Chg.of_below bW []) (fun x hx => by cases hx)
    have hf' : FrAt W' G m b := BsAt.below hf bW
    have hwl := Dk.puts_wlen d n b pre.length
    have hpl := chunk_len (b := b) (i := pre.length) (by omega)
    have cb := box_cell hp'
    have ltb := lt_of_block hp'
    obtain ⟨cb0, cb1⟩ := hl'.cells
    have ltL := hl'.lt
    have kw : ∀ W, Below W'.heap.size W' W → Calls Try.prog 19 #[.pointer (some ⟨B, 0, none⟩), .int .i64 ((n + pre.length : Nat) : Int), .slice (some ⟨G, pre.length * 64, none⟩) 64 64] W fun e w' => e = .returned (.int .i64 0) ∧ ∃ S'', DkAt w' B S'' (d.puts n b (pre.length + 1)) ∧ Chg S' W' w' ∧ ∀ x ∈ S'', x ∈ S' ∨ W'.heap.size ≤ x := fun W hW =>
      (write_ok (hl'.dk.below hW) (n + pre.length) (by rw [Dk.puts_sure]; omega) _ (chunk b pre.length) (FrAt.piece (BsAt.below hf' hW) hb hx2) (by omega) (by omega)).mono fun e w' ⟨k1, S'', k2, k3, k4⟩ => ⟨k1, S'', k2, (Chg.of_below hW S').trans k3 (fun x hx => .inl hx), fun x hx => (k4 x hx).imp id (fun h => Nat.le_trans hW.size h)⟩
    obtain ⟨nk, hnk⟩ : ∃ nk, nk = n + pre.length := ⟨_, rfl⟩
    obtain ⟨j, hj⟩ : ∃ j, j = pre.length * 64 := ⟨_, rfl⟩
    rw [← hnk] at cb1 kw
    have cb1 : W'.cell? ⟨L, 1, none⟩ = some (.int .i64 (nk : Int)) := cb1
    have nkl : nk ≤ 4096 := by omega
    have hnkH : Hid (nk = n + pre.length) := hnk
    have fin : ∀ (w2 : World), (∃ S'', DkAt w2 B S'' (d.puts n b (pre.length + 1)) ∧ Chg S' W' w2 ∧ ∀ x ∈ S'', x ∈ S' ∨ W'.heap.size ≤ x) →
        (w2.cell? ⟨w.heap.size, 0, none⟩ = some (.pointer (some ⟨L, 0, none⟩)) ∧ w2.cell? ⟨L, 0, none⟩ = some (.pointer (some ⟨B, 0, none⟩)) ∧ w2.cell? ⟨L, 1, none⟩ = some (.int .i64 (nk : Int)) ∧ w2.frozen? ⟨L, 1, none⟩ = false) ∧
        ((ChInv W2.heap.size (W2.heap.size + 1) G m (w2.setCell ⟨L, 1, none⟩ (.int .i64 ((nk : Int) + 1))) ∧ PutI w (w2.setCell ⟨L, 1, none⟩ (.int .i64 ((nk : Int) + 1))) L B S d n G m b (pre ++ [pre.length]).length) ∧
          ∀ (k : Nat), (∃ o : Obj, W'.heap[k]? = some o ∧ o.isCells = false ∧ o.isWalk = false) → (w2.setCell ⟨L, 1, none⟩ (.int .i64 ((nk : Int) + 1))).heap[k]? = W'.heap[k]?) := by
      rintro w2 ⟨S'', k1, k2, k3⟩
      have hOC := hl'.dk.och k2
      have q1 := hOC.block _ _ hp' (KT.no (by decide) _ _)
      have q2 := hOC.block _ _ hl'.log (KT.no (by decide) _ _)
      have hOC2 : OChg (KT true lT) W' (w2.setCell ⟨L, 1, none⟩ (.int .i64 ((nk : Int) + 1))) := (hOC.mono (fun o => dT_lT)).trans (OChg.setCell q2 (KT.yes (by decide)) _)
      have hLS : L ∉ S'' := k1.notCells q2 (by decide) (by decide) (by decide)
      have hc2 : Chg (L :: S) w (w2.setCell ⟨L, 1, none⟩ (.int .i64 ((nk : Int) + 1))) := (hc'.trans k2 (fun x hx => (hS' x hx).imp (fun h => List.mem_cons_of_mem _ h) id)).setCell (.inl (by simp)) _
      have hz' := hc'.size
      refine ⟨⟨box_cell q1, (pair_cell q2).1, ?_, box_frozen q2⟩, ⟨⟨hOC2.block _ _ hC1 (KT.no (by decide) _ _), hOC2.block _ _ hC2 (KT.no (by decide) _ _)⟩, ⟨S'', ⟨?_, ?_⟩, hc2, fun y hy => ?_⟩, hOC2.block _ _ hp' (KT.no (by decide) _ _), hf'.ochg hOC2 (KT.no (by decide))⟩, fun k hk => ?_⟩
      · rw [hnk]; exact (pair_cell q2).2
      · rw [List.length_append, List.length_singleton]
        exact k1.kept (fun x hx => Below.heap_setCell _ _ _ _ (by rintro rfl; exact hLS hx))
      · have := pair_set1 (.int .i64 ((nk : Int) + 1)) q2
        rw [this, hnk, List.length_append, List.length_singleton]
        congr 4
      · rcases k3 y hy with h' | h'
        · exact hS' y h'
        · exact .inr (by omega)
      · obtain ⟨o, ho1, ho2, ho3⟩ := hk
        rw [ho1]
        refine hOC2.block k o ho1 (fun hK => ?_)
        cases o with
        | cells cs t fr => cases ho2
        | map e c => cases ho3
        | _ => exact hK
    have finH : Hid (∀ (w2 : World), (∃ S'', DkAt w2 B S'' (d.puts n b (pre.length + 1)) ∧ Chg S' W' w2 ∧ ∀ x ∈ S'', x ∈ S' ∨ W'.heap.size ≤ x) → _) := fin
    rw [← hj] at kw
    rw [← hj]
    clear fin hj hnk
    gi_wp2
    refine round_region (fun W => W.cell? ⟨w.heap.size, 0, none⟩ = some (.pointer (some ⟨L, 0, none⟩)) ∧ W.cell? ⟨L, 0, none⟩ = some (.pointer (some ⟨B, 0, none⟩)) ∧ W.cell? ⟨L, 1, none⟩ = some (.int .i64 (nk : Int))) (by kernel_rfl) (by kernel_rfl) ⟨cb, cb0, cb1⟩ (fun hHeld => ?_)
    -- REGION 3
    refine wpAnyH_take (i := 0) (oi := { dst := some 8, op := Go.Op.load 82 (Go.Operand.tmp 2), type := 82, pos := _, after := #[], guard := none }) (v := .pointer (some ⟨L, 0, none⟩)) rfl (by kernel_rfl) (by kernel_rfl) (by kernel_rfl) (fun _ _ _ h => h) (yieldsIf_load (by rfl) 82 (.tmp 2) rfl _ _ rfl (fun W hW => ld_place _ _ _ W hW.1)) (by assumption) ?_
    try simp only [Act.put, List.setIfInBounds_toArray, List.set_cons_zero, List.set_cons_succ]
    refine wpAnyH_take (i := 1) (oi := { dst := some 9, op := Go.Op.nilCheck (Go.Operand.tmp 8), type := 0, pos := _, after := #[{ on := 0, ground := Go.Ground.data }], guard := none }) (v := .pointer (some ⟨L, 0, none⟩)) rfl (by kernel_rfl) (by kernel_rfl) (by kernel_rfl) (fun _ _ _ h => h) (Or.inl ⟨by rfl, fun W hW => by go_simp⟩) (by assumption) ?_
    try simp only [Act.put, List.setIfInBounds_toArray, List.set_cons_zero, List.set_cons_succ]
    refine wpAnyH_take (i := 2) (oi := { dst := some 10, op := Go.Op.fieldAddr 26 (Go.Operand.tmp 9) 0, type := 0, pos := _, after := #[{ on := 1, ground := Go.Ground.data }], guard := none }) (v := .pointer (some ⟨L, 0, none⟩)) rfl (by kernel_rfl) (by kernel_rfl) (by kernel_rfl) (fun _ _ _ h => h) (Or.inl ⟨by rfl, fun W hW => by go_simp⟩) (by assumption) ?_
    try simp only [Act.put, List.setIfInBounds_toArray, List.set_cons_zero, List.set_cons_succ]
    refine wpAnyH_take (i := 3) (oi := { dst := some 11, op := Go.Op.load 24 (Go.Operand.tmp 10), type := 24, pos := _, after := #[{ on := 2, ground := Go.Ground.data }], guard := none }) (v := .pointer (some ⟨B, 0, none⟩)) rfl (by kernel_rfl) (by kernel_rfl) (by kernel_rfl) (fun _ _ _ h => h) (yieldsIf_load (by rfl) 24 (.tmp 10) rfl _ _ rfl (fun W hW => ld_disk _ _ _ W hW.2.1)) (by assumption) ?_
    try simp only [Act.put, List.setIfInBounds_toArray, List.set_cons_zero, List.set_cons_succ]
    refine wpAnyH_take (i := 4) (oi := { dst := some 12, op := Go.Op.load 82 (Go.Operand.tmp 2), type := 82, pos := _, after := #[], guard := none }) (v := .pointer (some ⟨L, 0, none⟩)) rfl (by kernel_rfl) (by kernel_rfl) (by kernel_rfl) (fun _ _ _ h => h) (yieldsIf_load (by rfl) 82 (.tmp 2) rfl _ _ rfl (fun W hW => ld_place _ _ _ W hW.1)) (by assumption) ?_
    try simp only [Act.put, List.setIfInBounds_toArray, List.set_cons_zero, List.set_cons_succ]
    refine wpAnyH_take (i := 5) (oi := { dst := some 13, op := Go.Op.nilCheck (Go.Operand.tmp 12), type := 0, pos := _, after := #[{ on := 4, ground := Go.Ground.data }], guard := none }) (v := .pointer (some ⟨L, 0, none⟩)) rfl (by kernel_rfl) (by kernel_rfl) (by kernel_rfl) (fun _ _ _ h => h) (Or.inl ⟨by rfl, fun W hW => by go_simp⟩) (by assumption) ?_
    try simp only [Act.put, List.setIfInBounds_toArray, List.set_cons_zero, List.set_cons_succ]
    refine wpAnyH_take (i := 6) (oi := { dst := some 14, op := Go.Op.fieldAddr 26 (Go.Operand.tmp 13) 1, type := 0, pos := _, after := #[{ on := 5, ground := Go.Ground.data }], guard := none }) (v := .pointer (some ⟨L, 1, none⟩)) rfl (by kernel_rfl) (by kernel_rfl) (by kernel_rfl) (fun _ _ _ h => h) (Or.inl ⟨by rfl, fun W hW => by go_simp⟩) (by assumption) ?_
    try simp only [Act.put, List.setIfInBounds_toArray, List.set_cons_zero, List.set_cons_succ]
    refine wpAnyH_take (i := 7) (oi := { dst := some 15, op := Go.Op.load 3 (Go.Operand.tmp 14), type := 3, pos := _, after := #[{ on := 6, ground := Go.Ground.data }], guard := none }) (v := .int .i64 (nk : Int)) rfl (by kernel_rfl) (by kernel_rfl) (by kernel_rfl) (fun _ _ _ h => h) (yieldsIf_load (by rfl) 3 (.tmp 14) rfl _ _ rfl (fun W hW => ld_int _ _ _ W hW.2.2)) (by assumption) ?_
    try simp only [Act.put, List.setIfInBounds_toArray, List.set_cons_zero, List.set_cons_succ]
    refine wpAnyH_take (i := 8) (oi := { dst := some 16, op := Go.Op.move (Go.Operand.tmp 4), type := 22, pos := _, after := #[], guard := none }) (v := .slice (some ⟨G, j, none⟩) 64 64) rfl (by kernel_rfl) (by kernel_rfl) (by kernel_rfl) (fun _ _ _ h => h) (Or.inl ⟨by rfl, fun W hW => by go_simp⟩) (by assumption) ?_
    try simp only [Act.put, List.setIfInBounds_toArray, List.set_cons_zero, List.set_cons_succ]
    refine wpAnyH_ready (rs := [9]) (by kernel_rfl) (by simp) ?_
    refine AllReadyH.cons (o := { dst := some 17, op := Go.Op.call { callee := Go.Callee.value (Go.Operand.func 19), args := #[Go.Operand.tmp 11, Go.Operand.tmp 15, Go.Operand.tmp 16], argTypes := #[24, 3, 22] }, type := 30, pos := _, after := #[{ on := 3, ground := Go.Ground.data }, { on := 7, ground := Go.Ground.data }, { on := 8, ground := Go.Ground.data }], guard := none }) rfl (fun K hK => ?_) AllReadyH.nil
    go_simp
    refine (kw _ (below_drew _)).mono ?_
    rintro e w2 ⟨rfl, hw2⟩
    go_wp2_with fail
    obtain ⟨⟨g0, g00, g1, g2⟩, g3, g4⟩ := finH.out w2 hw2
    refine hK.out _ _ ⟨g0, g00, g1⟩ (fun hHeld2 => ?_)
    clear hK K hHeld
    try simp only [Act.put, List.setIfInBounds_toArray, List.set_cons_zero, List.set_cons_succ]
    refine wpAnyH_done (by kernel_rfl) ?_ _
    refine Straight.normal ?_
    -- END 3
    gi_wp2
    exact ⟨⟨g3, trivial⟩, fun k hk => g4 k (hN k hk)⟩
  case done =>
    rintro xs W1 W hS ⟨hC, ⟨⟨S', hl, hc, hS'⟩, hp, hf⟩⟩ bW hD hK
    have hl' := hl.below bW
    have hc' : Chg (L :: S) w W := hc.trans (Chg.of_below bW []) (fun x hx => by cases hx)
    rw [hS] at hl'
    have e5 := z2.out
    have hq : w.heap.size ≤ ((W2.alloc (.cells #[.slice (some ⟨G, 0, none⟩) (m * 64) (m * 64)] 22)).alloc (.cells #[.int .i64 64] 3)).heap.size := by simp; omega
    gi_wp2
    exact leaves_end rfl hK (by simp [results, Try.results24, go_sem]) ⟨rfl, S', ⟨hl'.dk.put _ hK rfl rfl, heap_put _ hl'.log hK rfl⟩, hc'.putObj _ hq, hS'⟩
end Go.Proofs.Ytjaidhglemnakaa
namespace Go.Proofs.Ytjaidhglemnakaa
open Go.RowKit Go.Maps

theorem LgAt.drew {w : World} {L B : Nat} {S : List Nat} {d : Dk} {n : Nat} (h : LgAt w L B S d n) (k : Nat) : LgAt (w.drewN k) L B S d n := h.below (below_drewN w k)
set_option maxHeartbeats 800000 in
theorem add_ok {w : World} {L B : Nat} {S : List Nat} {d : Dk} {n : Nat} (h : LgAt w L B S d n) (v : Value) (r : List UInt8) (hv : InAt w w.heap.size v r) (hr : r.length ≤ 16384) (hn : n + secs r.length ≤ d.sure.length) (hw : d.ws.length ≤ 900000) :
    Calls Try.prog 8 #[.pointer (some ⟨L, 0, none⟩), v] w fun e w' =>
      e = .returned (.int .i64 0) ∧ ∃ S', LgAt w' L B S' (d.added n r) (n + secs r.length) ∧ Chg (L :: S) w w' ∧ ∀ x ∈ S', x ∈ S ∨ w.heap.size ≤ x := by
  have kt := lthere_ok h
  have kp := put_ok w v r hv hr
  have hfl := frame_len r
  have hsl := secs_lt r.length
  have kf := fun (W : World) (hW : LgAt W L B S d n) (ao : Option Addr) (c : Nat) => fits_ok hW (by omega) ao (secs r.length) c (by omega)
  rw [show decide (n + secs r.length ≤ d.sure.length) = true by simpa using hn] at kf
  have kw := fun (W : World) (hW : LgAt W L B S d n) (G : Nat) (hG : FrAt W G (secs r.length) (frame r)) => pwrite_ok hW G (secs r.length) (frame r) hG hfl (by omega) hn hw
  obtain ⟨ao, vc, rfl, -, -, -⟩ := hv
  have hadd : d.added n r = d.puts n (frame r) (secs r.length) := rfl
  rw [hadd]
  obtain ⟨m, hm⟩ : ∃ m, m = secs r.length := ⟨_, rfl⟩
  rw [← hm] at kp kf kw ⊢
  clear hm hadd hn hfl hsl
  go_enter Try.func8, Try.ntmps8
  go_wp2_with fail
  refine kt.mono ?_
  rintro e w1 ⟨rfl, rfl⟩
  clear kt
  go_wp2_with fail
  refine kp.mono ?_
  rintro e w2 ⟨rfl, O2, b2⟩
  clear kp
  have l2 := h.below b2
  go_wp2_with fail
  refine (kf w2 l2 _ _).mono ?_
  rintro e w3 ⟨rfl, k3, rfl⟩
  have l3 := l2.drew k3
  have O3 := BsAt.below O2 (below_drewN w2 k3)
  have b3 := b2.trans ((below_drewN w2 k3).mono b2.size)
  clear kf l2 O2 b2
  go_wp2_with fail
  refine (kw _ l3 _ (own_from' O3 (Nat.zero_le _))).mono ?_
  rintro e w4 ⟨rfl, S', q1, q2, q3⟩
  clear kw
  go_wp2
  go_ret
  have hz := b3.size
  exact ⟨rfl, S', q1, (Chg.of_below b3 _).trans q2 (fun x hx => .inl hx), fun x hx => (q3 x hx).imp id (fun h => by omega)⟩
theorem add_full {w : World} {L B : Nat} {S : List Nat} {d : Dk} {n : Nat} (h : LgAt w L B S d n) (v : Value) (r : List UInt8) (hv : InAt w w.heap.size v r) (hr : r.length ≤ 16384) (hn : n ≤ d.sure.length) (hf : ¬ n + secs r.length ≤ d.sure.length) :
    Calls Try.prog 8 #[.pointer (some ⟨L, 0, none⟩), v] w fun e w' => e = .returned (.int .i64 5) ∧ Below w.heap.size w w' := by
  have kt := lthere_ok h
  have kp := put_ok w v r hv hr
  have hsl := secs_lt r.length
  have kf := fun (W : World) (hW : LgAt W L B S d n) (ao : Option Addr) (c : Nat) => fits_ok hW (by omega) ao (secs r.length) c (by omega)
  rw [show decide (n + secs r.length ≤ d.sure.length) = false by simpa using hf] at kf
  obtain ⟨ao, vc, rfl, -, -, -⟩ := hv
  obtain ⟨m, hm⟩ : ∃ m, m = secs r.length := ⟨_, rfl⟩
  rw [← hm] at kp kf
  clear hm hf hsl
  go_enter Try.func8, Try.ntmps8
  go_wp2_with fail
  refine kt.mono ?_
  rintro e w1 ⟨rfl, rfl⟩
  clear kt
  go_wp2_with fail
  refine kp.mono ?_
  rintro e w2 ⟨rfl, O2, b2⟩
  clear kp
  have l2 := h.below b2
  go_wp2_with fail
  refine (kf w2 l2 _ _).mono ?_
  rintro e w3 ⟨rfl, k3, rfl⟩
  have b3 := b2.trans ((below_drewN w2 k3).mono b2.size)
  clear kf l2 O2 b2
  go_wp2
  go_ret
  exact ⟨rfl, b3⟩
theorem add_big {w : World} {L B : Nat} {S : List Nat} {d : Dk} {n : Nat} (h : LgAt w L B S d n) (v : Value) (r : List UInt8) (hv : InAt w w.heap.size v r) (hr : 16384 < r.length) :
    Calls Try.prog 8 #[.pointer (some ⟨L, 0, none⟩), v] w fun e w' => e = .returned (.int .i64 3) ∧ w = w' := by
  have kt := lthere_ok h
  have kp := put_big w v r hv hr
  obtain ⟨ao, vc, rfl, -, -, -⟩ := hv
  clear h
  go_enter Try.func8, Try.ntmps8
  go_wp2_with (first
    | (go_at_call 21; refine kt.mono ?_; rintro e w1 ⟨rfl, rfl⟩)
    | (go_at_call 22; refine kp.mono ?_; rintro e w1 ⟨rfl, rfl⟩))
  go_ret
  exact ⟨rfl, rfl⟩
theorem room_out {w : World} {L B : Nat} {S : List Nat} {d : Dk} {n : Nat} (h : LgAt w L B S d n) (k : Int) (hk : k < 0 ∨ 16384 < k) :
    Calls Try.prog 10 #[.pointer (some ⟨L, 0, none⟩), .int .i64 k] w fun e w' => e = .returned (.bool false) ∧ w = w' := by
  have kt := lthere_ok h
  clear h
  by_cases h0 : k < 0
  · go_enter Try.func10, Try.ntmps10
    go_wp2_with (first | (go_at_call 21; refine kt.mono ?_; rintro e w1 ⟨rfl, rfl⟩))
    go_ret
    exact ⟨rfl, rfl⟩
  · have h1 : 16384 < k := by omega
    go_enter Try.func10, Try.ntmps10
    go_wp2_with (first | (go_at_call 21; refine kt.mono ?_; rintro e w1 ⟨rfl, rfl⟩))
    go_ret
    exact ⟨rfl, rfl⟩
set_option maxHeartbeats 800000 in
set_option maxRecDepth 1000000 in
theorem room_in {w : World} {L B : Nat} {S : List Nat} {d : Dk} {n : Nat} (h : LgAt w L B S d n) (hn : n ≤ d.sure.length) (k : Nat) (hk : k ≤ 16384) :
    Calls Try.prog 10 #[.pointer (some ⟨L, 0, none⟩), .int .i64 (k : Int)] w fun e w' => e = .returned (.bool (decide (n + secs k ≤ d.sure.length))) ∧ Below w.heap.size w w' := by
  have kt := lthere_ok h
  obtain ⟨i0, hi, hz0, hz1, hz2⟩ := info_parts info_u8
  have hsl := secs_lt k
  have kf := fun (W : World) (hW : LgAt W L B S d n) (ao : Option Addr) (c : Nat) => fits_ok hW hn ao (secs k) c (by omega)
  have i1 : ¬ (k : Int) < 0 := by omega
  have i2 : ¬ (16384 : Int) < (k : Int) := by omega
  have kp : ∀ (W : World) (g base : Nat), BsAt W base (.slice (some ⟨g, 0, none⟩) k k) (List.replicate k 0) → Calls Try.prog 22 #[.slice (some ⟨g, 0, none⟩) k k] W fun e w' => e = .returned (.tuple #[.slice (some ⟨W.heap.size, 0, none⟩) (secs k * 64) (secs k * 64), .int .i64 0]) ∧ Below W.heap.size W w' := fun W g base hW => by
    have := put_ok W _ (List.replicate k 0) hW.in (by rw [List.length_replicate]; exact hk)
    rw [List.length_replicate] at this
    exact this.mono fun e w' ⟨h1, _, h2⟩ => ⟨h1, h2⟩
  obtain ⟨res, hres⟩ : ∃ res, res = decide (n + secs k ≤ d.sure.length) := ⟨_, rfl⟩
  rw [← hres] at kf ⊢
  clear hres
  obtain ⟨m, hm⟩ : ∃ m, m = secs k := ⟨_, rfl⟩
  rw [← hm] at kp kf
  clear hm hsl hn
  go_enter Try.func10, Try.ntmps10
  go_wp2_with fail
  refine kt.mono ?_
  rintro e w1 ⟨rfl, rfl⟩
  clear kt
  go_wp2_with (at_make; refine wpList_make_full _ rfl _ _ 22 rfl w.heap.size 5 i0 (.int .u8 0) 1 Try.underlying22 hi hz0 hz1 .i64 .i64 _ _ k rfl rfl rfl rfl (by rw [hz2]; omega) (by unfold maxLen; omega) (Nat.le_refl _) ?_; intro w1 hown hgr)
  rw [made_zero] at hown
  have b1 : Below w.heap.size w w1 := (Below.refl _ _).grown hgr (Nat.le_refl _) (fun k e => by cases e)
  have O1 : BsAt w1 w.heap.size (.slice (some ⟨w.heap.size, 0, none⟩) k k) (List.replicate k 0) := by unfold BsAt; rw [List.length_replicate]; exact hown
  have l1 := h.below b1
  clear hown hgr h
  refine (kp w1 _ _ O1).mono ?_
  rintro e w2 ⟨rfl, b2⟩
  have b3 := b1.trans (b2.mono b1.size)
  have l2 := l1.below b2
  clear kp O1 b1 b2 l1
  go_wp2_with fail
  refine (kf w2 l2 _ _).mono ?_
  rintro e w3 ⟨rfl, k3, rfl⟩
  have b4 := b3.trans ((below_drewN w2 k3).mono b3.size)
  clear kf l2 b3
  go_wp2
  go_ret
  exact ⟨rfl, b4⟩
end Go.Proofs.Ytjaidhglemnakaa
