/- slices.AppendSeq, slices.Collect of what an iterator of numbers gives. -/
import Derived.Test.YtboinccdnaddmaaGreatDoorCkKeys
import Derived.Maps.AppendAt
set_option linter.unusedSimpArgs false
set_option linter.unusedVariables false
set_option maxRecDepth 1000000
namespace Go.Proofs.YtboinccdnaddmaaGreatDoor
open Go.RowKit Go.Maps
attribute [local go_sem] Oper.semAt_some wfn wdp rfn rdp

/-- Off the end of a function in which a range over a function stands. -/
theorem leavesW {P : Program} {fn : Func} {R : Ending → World → Prop} {a : Act} {W : World} {r : Nat} {v : Value} (hd : a.defers = [{ target := .collected r, args := #[] }]) (hW : W.heap[r]? = some (.deferred (some [])))
    (hr : (results fn a.tmps).run P (W.putObj r (.deferred none)) = .ok v (W.putObj r (.deferred none))) (hR : R (.returned v) (W.putObj r (.deferred none))) : bodyPostM Fence.wide 0 P fn R .ret a W := by
  show LeavesInM Fence.wide 0 P fn a.tmps R a.defers .returning W
  rw [hd]
  exact ⟨by simp, .inl ⟨_, _, rfl, run_takeDeferred hW, v, hr, hR⟩⟩
theorem u32_one (xs : List Nat) : ∀ u ∈ xs.map u32V, u.oneCell' = true := fun u hu => by
  obtain ⟨x, -, rfl⟩ := List.mem_map.1 hu
  rfl
theorem info_u32 : (Tryz.prog.info? 43).map (fun i => (i.zero, i.size, i.bytes)) = some (some (.int .u32 0), 1, 4) := by kernel_rfl

theorem row_obj {w : World} {base : Nat} {e : TypeId} {s : Nat} {v : Value} {n : Nat} {xs : List Value} (h : w.ownsRow base e s v n xs) (b : Nat) (hb : v.ownBlock = some b) : ∃ cs, w.heap[b]? = some (.cells cs e (0, 0)) := by
  rcases h.2 with ⟨rfl, -⟩ | ⟨g, cap, cur, rfl, h2, h3, h4⟩
  · cases hb
  · cases hb; exact ⟨_, h3⟩
theorem row_put {w : World} {base : Nat} {e : TypeId} {s : Nat} {v : Value} {n : Nat} {xs : List Value} (h : w.ownsRow base e s v n xs) {k : Nat} {o : Obj} (o' : Obj) (hk : w.heap[k]? = some o) (ho : o.isCells = false) : (w.putObj k o').ownsRow base e s v n xs :=
  own_of_block h (fun b hb => by
    obtain ⟨cs, hc⟩ := row_obj h b hb
    refine World.putObj_heap_other (fun e => ?_)
    subst e
    rw [hc] at hk
    cases hk
    cases ho)
theorem row_stepW {w w' : World} {base B : Nat} {e : TypeId} {s : Nat} {v : Value} {n : Nat} {xs : List Value} (h : w.ownsRow base e s v n xs) (hs : StepW B w w') : w'.ownsRow base e s v n xs :=
  own_of_block h (fun b hb => by
    obtain ⟨cs, hc⟩ := row_obj h b hb
    rw [hc]
    exact hs.block _ _ hc (.inr rfl))
/-- What AppendSeq's loop keeps: in the box of its list what came so far. -/
structure ApI (w : World) (pre : List Nat) (W : World) : Prop where
  box : ∃ v, W.heap[w.heap.size]? = some (.cells #[v] 49 (0, 0)) ∧ W.ownsRow w.heap.size 43 1 v pre.length (pre.map u32V)
  below : Below w.heap.size w W
  len : pre.length ≤ 1000000000

set_option maxHeartbeats 1000000 in
set_option maxRecDepth 1000000 in
theorem appendSeq_ok (w : World) (gf : Nat) (lb : Array Value) (eg : ∀ args w, (callFunc gf args).run Tryz.prog w = .ok (.enter gf args) w) (Inv : World → Prop) (S : List Nat → Prop) (n : Nat) (hn : n ≤ 1000000000)
    (hseq : SeqW Tryz.prog gf lb keyEnc (fun _ W => Inv W) (fun pre _ => pre.length < n) S) (hst : ∀ W, Below w.heap.size w W → Inv W) :
    Calls Tryz.prog 89 #[.slice none 0 0, .func (.func gf) #[] lb] w fun e w' => ∃ v xs, e = .returned v ∧ S xs ∧ w'.ownsRow w.heap.size 43 1 v xs.length (xs.map u32V) ∧ Below w.heap.size w w' ∧ xs.length ≤ 1000000000 := by
  refine callsIn_wide.1 (callsIn_of_wp_marks (n := 0) Tryz.func89 rfl trivial ?_ rfl)
  simp only [Tryz.ntmps89, List.size_toArray, List.length_cons, List.length_nil, Nat.reduceAdd, Nat.reduceSub, Array.replicate_succ, Array.replicate_zero, List.push_toArray, List.append_toArray, List.nil_append, List.cons_append]
  have p1 : (w.alloc (.cells #[.slice none 0 0] 49)).heap[w.heap.size]? = some (.cells #[.slice none 0 0] 49 (0, 0)) := World.alloc_heap_new w _
  have b1 := below_one w (.cells #[.slice none 0 0] 49)
  have z1 : (w.alloc (.cells #[.slice none 0 0] 49)).heap.size = w.heap.size + 1 := by simp
  gi_wp2
  obtain ⟨W2, hW2⟩ : ∃ W2, w.alloc (.cells #[.slice none 0 0] 49) = W2 := ⟨_, rfl⟩
  rw [hW2] at p1 b1 z1 ⊢
  have z2 : Hid (W2.heap.size = w.heap.size + 1) := z1
  clear hW2 z1
  refine over_allW (gf := gf) (lb := lb) (by rfl) eg hseq (fun _ => by rfl) (fun pre W => ApI w pre W) (fun _ W hI => hst W hI.below) ?put ?start ?a1 ?assign ?body ?done
  case assign =>
    intro l x W K hK
    simp only [keyEnc]
    gi_wp2
    exact hK
  case put =>
    rintro pre W k o o' hk ⟨⟨v, h1, h2⟩, h3, h4⟩ hko hcl hw
    have := z2.out
    refine ⟨⟨v, ?_, row_put h2 _ hko hcl⟩, ?_, h4⟩
    · rw [World.putObj_heap_other (by omega)]; exact h1
    · exact h3.grown ⟨rfl, rfl, rfl, by simp, fun i _ hi => World.putObj_heap_other (fun e => hi (by rw [e]))⟩ h3.size (fun j e => by cases e; omega)
  case start =>
    intro o
    have E : Below W2.heap.size W2 ((W2.alloc (.deferred (some []))).alloc o) := (below_one W2 _).trans ((below_one _ _).mono (by simp))
    exact ⟨⟨_, (E.block _ (by have := z2.out; omega)).trans p1, World.ownsRow_nil _ _ _ _⟩, b1.trans (E.mono b1.size), by simp⟩
  case body =>
    rintro l pre x W W' ⟨⟨v, h1, h2⟩, h3, h4⟩ hst2 hx hz hks
    have h1' := hst2.block _ _ h1 (.inr rfl)
    have h2' := row_stepW h2 hst2
    have h3' := StepW.below h3 hst2 (by have := z2.out; omega)
    have hcb := box_cell h1'
    have hbx := h1'
    have hlt := blk_lt h1'
    obtain ⟨i0, hi, hz0, hz1, hz2⟩ := info_parts info_u32
    clear h1 h2 h3 hst2 hz h1'
    have hnb : v.ownBlock ≠ some w.heap.size := fun e => by
      obtain ⟨cs, hc⟩ := row_obj h2' _ e
      have := hcb
      rw [show W'.cell? ⟨w.heap.size, 0, none⟩ = cs[0]? by simp [World.cell?, hc]] at this
      rw [hc] at hbx
      cases hbx
    have HS : Hid (w.heap.size ≤ W'.heap.size) := h3'.size
    gi_wp2_with (gi_at_builtin; refine wpListIn_append_own _ rfl _ _ 49 rfl w.heap.size 43 i0 (.int .u32 0) 1 4 Tryz.underlying49 hi hz0 hz1 hz2 rfl (by decide) _ _ _ rfl (h2'.alloc _) ⟨W'.heap.size, 0, none⟩ 1 1 [u32V x] rfl rfl (cell_one_new _ _ _) (by simp [Value.oneCell']) (by unfold maxLen; omega) (by omega) (by have := h3'.size; simp; omega) ?_; intro v' w3 hown' hg3 hnil3
                 have hb3 : w3.heap[w.heap.size]? = some (.cells #[v] 49 (0, 0)) := (hg3.block _ (by simp; omega) (fun e => hnb e.symm)).trans ((Below.heap_alloc _ _ _ hlt).trans hbx)
                 obtain ⟨g', cap', rfl⟩ : ∃ g' cap', v' = .slice (some ⟨g', 0, none⟩) (pre.length + 1) cap' := by
                   rcases hown'.2 with ⟨_, h0⟩ | ⟨g, c, cur, h, -⟩
                   · exact absurd h0 (by omega)
                   · exact ⟨g, c, h⟩
                 have hc3 := box_cell hb3
                 have hf3 := box_frozen (i := 0) hb3
                 go_frame)
    have hgA : W'.grownBy w3 v.ownBlock := (World.grownBy_alloc W' (.cells #[u32V x] 43) v.ownBlock).trans hg3
    have hb3 : w3.heap[w.heap.size]? = some (.cells #[v] 49 (0, 0)) := (hgA.block _ hlt (fun e => hnb e.symm)).trans hbx
    have hne : g' ≠ w.heap.size := fun e => by
      obtain ⟨cs, hc⟩ := row_obj hown' g' rfl
      rw [e, hb3] at hc
      cases hc
    have hgB : w3.grownBy (w3.setCell ⟨w.heap.size, 0, none⟩ (.slice (some ⟨g', 0, none⟩) (pre.length + 1) cap')) (some w.heap.size) :=
      ⟨rfl, rfl, rfl, by simp [World.setCell], fun i _ hi => Below.heap_setCell _ _ _ _ (fun e => hi (by rw [e]))⟩
    refine ⟨⟨⟨⟨_, heap_setCell_same w3 _ 0 _ _ _ hb3, ?_⟩, ?_, by simp; omega⟩, ?_⟩, fun k hk => ?_⟩
    · have := own_of_block (w' := w3.setCell ⟨w.heap.size, 0, none⟩ (.slice (some ⟨g', 0, none⟩) (pre.length + 1) cap')) hown' (fun b e => Below.heap_setCell _ _ _ _ (by cases e; exact hne))
      simpa using this
    · exact (h3'.grown hgA h3'.size (fun b e => (h2'.lt b e).1)).grown hgB (Nat.le_trans h3'.size hgA.size) (fun b e => by cases e; exact Nat.le_refl _)
    · refine (KeepsWalks.of_grownBy hgA (fun j o e ho => ?_)).trans (KeepsWalks.setCell _ _ _)
      obtain ⟨cs, hc⟩ := row_obj h2' j e
      rw [hc] at ho
      cases ho
      rfl
    · obtain ⟨o, ho, hcl, -⟩ := hks k hk
      have hk2 : k ≠ w.heap.size := fun e => by have := z2.out; rcases hk with hk | hk <;> omega
      rw [Below.heap_setCell _ _ _ _ hk2, hgA.block k (blk_lt ho) (fun e => ?_)]
      obtain ⟨cs, hc⟩ := row_obj h2' k e.symm
      rw [hc] at ho
      cases ho
      cases hcl
  case done =>
    rintro xs W1 W hS ⟨⟨v, h1, h2⟩, h3, h4⟩ hst2 hz hK
    have h1' := hst2.block _ _ h1 (.inr rfl)
    have h2' := row_stepW h2 hst2
    have h3' := StepW.below h3 hst2 (by have := z2.out; omega)
    have hcb := box_cell h1'
    gi_wp2
    refine leavesW rfl hK (by simp [results, Tryz.results89, go_sem]) ⟨v, xs, rfl, hS, row_put h2' _ hK rfl, ?_, h4⟩
    exact h3'.grown ⟨rfl, rfl, rfl, by simp, fun i _ hi => World.putObj_heap_other (fun e => hi (by rw [e]))⟩ h3'.size (fun j e => by cases e; have := z2.out; omega)

theorem collect_ok (w : World) (gf : Nat) (lb : Array Value) (eg : ∀ args w, (callFunc gf args).run Tryz.prog w = .ok (.enter gf args) w) (Inv : World → Prop) (S : List Nat → Prop) (n : Nat) (hn : n ≤ 1000000000)
    (hseq : SeqW Tryz.prog gf lb keyEnc (fun _ W => Inv W) (fun pre _ => pre.length < n) S) (hst : ∀ W, Below w.heap.size w W → Inv W) :
    Calls Tryz.prog 62 #[.func (.func gf) #[] lb] w fun e w' => ∃ v xs, e = .returned v ∧ S xs ∧ w'.ownsRow w.heap.size 43 1 v xs.length (xs.map u32V) ∧ Below w.heap.size w w' ∧ xs.length ≤ 1000000000 := by
  go_enter Tryz.func62, Tryz.ntmps62
  go_wp2_with fail
  refine (appendSeq_ok w gf lb eg Inv S n hn hseq hst).mono ?_
  rintro e w' ⟨v, xs, rfl, h⟩
  go_wp2
  go_ret
  exact ⟨v, xs, rfl, h⟩
end Go.Proofs.YtboinccdnaddmaaGreatDoor
