/- The document's disk, while it is made: one list of bytes after the other. -/
import Derived.Test.YthnkakjelhnjdaaGreatDoorERMem
set_option linter.unusedSimpArgs false
set_option linter.unusedVariables false
namespace Go.Proofs.YthnkakjelhnjdaaGreatDoor
open Go.RowKit Go.Maps

theorem own_nought {w : World} {base : Nat} {e : TypeId} {s : Nat} {v : Value} {n : Nat} {xs : List Value} (h : w.ownsRow base e s v n xs) : w.ownsRow 0 e s v n xs := by
  refine ⟨h.1, ?_⟩
  rcases h.2 with h1 | ⟨g, cap, cur, h1, h2, h3⟩
  · exact .inl h1
  · exact .inr ⟨g, cap, cur, h1, Nat.zero_le _, h3⟩
theorem own_base {w : World} {base : Nat} {e : TypeId} {s : Nat} {v : Value} {n : Nat} {xs : List Value} (h : w.ownsRow 0 e s v n xs) (hb : ∀ b, v.ownBlock = some b → base ≤ b) : w.ownsRow base e s v n xs := by
  refine ⟨h.1, ?_⟩
  rcases h.2 with h1 | ⟨g, cap, cur, rfl, h2, h3⟩
  · exact .inl h1
  · exact .inr ⟨g, cap, cur, rfl, hb g rfl, h3⟩
/-- The lists l of a disk at B; all of it lies from base on, and no two are one. -/
structure NwX (w : World) (base B : Nat) (vs : Value) (P : Nat → Value) (l : List Sec) : Prop where
  head : w.heap[B]? = some (.cells #[vs, .slice none 0 0] 67 (0, 0))
  rs : w.ownsRow base 45 1 vs l.length (rowsOf P l.length)
  ps : ∀ i (h : i < l.length), w.ownsRow base 5 1 (P i) 64 (bcells (l[i]'h))
  ap : ∀ i j, i < j → j < l.length → (P i).ownBlock ≠ (P j).ownBlock
  hB : base ≤ B
  full : Full l
theorem NwX.kept {w w' : World} {base B : Nat} {vs : Value} {P : Nat → Value} {l : List Sec} (h : NwX w base B vs P l) (hb : ∀ x, base ≤ x → x < w.heap.size → w'.heap[x]? = w.heap[x]?) : NwX w' base B vs P l :=
  ⟨(hb B h.hB (lt_of_block h.head)).trans h.head, own_kept h.rs (fun b e => hb b (h.rs.lt b e).1 (h.rs.lt b e).2), fun i hi => own_kept (h.ps i hi) (fun b e => hb b ((h.ps i hi).lt b e).1 ((h.ps i hi).lt b e).2), h.ap, h.hB, h.full⟩
theorem NwX.zero {w : World} {base B : Nat} (h : w.heap[B]? = some (.cells #[.slice none 0 0, .slice none 0 0] 67 (0, 0))) (hB : base ≤ B) : NwX w base B (.slice none 0 0) (fun _ => .slice none 0 0) [] :=
  ⟨h, World.ownsRow_nil _ _ _ _, fun i hi => absurd hi (by simp), fun i j _ hj => absurd hj (by simp), hB, fun i hi => absurd hi (by simp)⟩
theorem NwX.disk {w : World} {base B : Nat} {vs : Value} {P : Nat → Value} {l : List Sec} (h : NwX w base B vs P l) (h1 : 0 < l.length) (h2 : l.length ≤ 4096) : RfAt w B (fun x => base ≤ x ∧ x < w.heap.size) { sure := l, ws := [] } :=
  ⟨vs, .slice none 0 0, P, P, ⟨h1, h2, h.full, fun p hp => by cases hp⟩, h.head, own_nought h.rs, World.ownsRow_nil _ _ _ _, fun i hi => ⟨own_nought (h.ps i hi), fun b e => (h.ps i hi).lt b e⟩, fun j hj => absurd hj (by simp), ⟨h.hB, lt_of_block h.head⟩, fun b e => h.rs.lt b e, fun b e => by simp [Value.ownBlock] at e, fun b e => e.2⟩
/-- One list of bytes more. -/
theorem nw_snoc {w w1 w2 : World} {base B : Nat} {vs v' p : Value} {P : Nat → Value} {l : List Sec} {s : Sec} (h : NwX w base B vs P l) (hs : s.length = 64) (hb : Below w.heap.size w w1) (hp : w1.ownsRow w.heap.size 5 1 p 64 (bcells s)) (hbs : base ≤ w.heap.size)
    (ho : w2.ownsRow 0 45 1 v' (l.length + 1) (rowsOf P l.length ++ [p])) (hg : w1.grownBy w2 vs.ownBlock) (hlv : v'.ownBlock = vs.ownBlock ∨ v'.ownBlock = some w1.heap.size) :
    w2.heap[B]? = some (.cells #[vs, .slice none 0 0] 67 (0, 0)) ∧ NwX (w2.setCell ⟨B, 0, none⟩ v') base B v' (fun i => if i = l.length then p else P i) (l ++ [s]) ∧ Wrote (fun x => base ≤ x) w (w2.setCell ⟨B, 0, none⟩ v') := by
  have h1 : NwX w1 base B vs P l := h.kept (fun x _ hx => hb.block x hx)
  have nB : vs.ownBlock ≠ some B := own_ne_block (own_nought h1.rs) h1.head (by decide)
  have hB2 : w2.heap[B]? = some (.cells #[vs, .slice none 0 0] 67 (0, 0)) := (hg.block B (lt_of_block h1.head) (fun e => nB e.symm)).trans h1.head
  have o3 : ∀ x, x ≠ B → (w2.setCell ⟨B, 0, none⟩ v').heap[x]? = w2.heap[x]? := fun x hx => Below.heap_setCell _ _ _ _ (fun e => hx (by simp at e; exact e))
  have k3 : ∀ {b0 : Nat} {e : TypeId} {sz n : Nat} {v : Value} {xs : List Value}, w1.ownsRow b0 e sz v n xs → 45 ≠ e → e ≠ 67 → (w2.setCell ⟨B, 0, none⟩ v').ownsRow b0 e sz v n xs := by
    intro b0 e sz n v xs hv n1 n2
    refine own_kept hv (fun b eb => ?_)
    rw [o3 b (fun e' => own_ne_block (own_nought hv) h1.head n2 (by rw [eb, e']))]
    exact hg.block b (hv.lt b eb).2 (fun e' => own_ne (own_nought h1.rs) (own_nought hv) n1 e'.symm eb)
  have hvB : v'.ownBlock ≠ some B := own_ne_block ho hB2 (by decide)
  have hz1 := hb.size
  have hvl : ∀ x, v'.ownBlock = some x → base ≤ x := by
    intro x e
    rcases hlv with e1 | e1
    · exact (h.rs.lt x (by rw [← e1]; exact e)).1
    · rw [e1] at e
      cases e
      omega
  refine ⟨hB2, ⟨pair_set0 _ hB2, ?_, ?_, ?_, h.hB, ?_⟩, ((Wrote.of_below hb).trans (Wrote.grown hg (fun k e _ => (h.rs.lt k e).1))).trans (Wrote.set _ _ _ _ h.hB)⟩
  · have e1 : rowsOf (fun i => if i = l.length then p else P i) (l.length + 1) = rowsOf P l.length ++ [p] := by
      rw [rowsOf_succ, rowsOf_congr (Q := P) (fun i hi => by simp; intro e; omega)]
      simp
    simp only [List.length_append, List.length_singleton, e1]
    exact own_base (own_kept ho (fun b e => o3 b (fun e' => hvB (by rw [e, e'])))) hvl
  · intro i hi
    simp only [List.length_append, List.length_singleton] at hi
    by_cases ei : i = l.length
    · subst ei
      simp only [if_pos rfl, List.getElem_append_right (Nat.le_refl _), Nat.sub_self, List.getElem_cons_zero]
      exact own_base (own_nought (k3 hp (by decide) (by decide))) (fun b e => Nat.le_trans hbs (hp.lt b e).1)
    · have hi' : i < l.length := by omega
      simp only [if_neg ei, List.getElem_append_left hi']
      exact k3 (h1.ps i hi') (by decide) (by decide)
  · intro i j hij hj
    simp only [List.length_append, List.length_singleton] at hj
    have ei : ¬ i = l.length := by omega
    simp only [if_neg ei]
    by_cases ej : j = l.length
    · simp only [if_pos ej]
      intro e
      obtain ⟨g, cap, rfl, -⟩ := own_pos (own_nought hp) (by omega)
      have h3 := (h.ps i (by omega)).lt g e
      have h4 := hp.lt g rfl
      omega
    · simp only [if_neg ej]
      exact h.ap i j hij (by omega)
  · intro i hi
    by_cases ei : i < l.length
    · rw [List.getElem_append_left ei]
      exact h.full i ei
    · have : i = l.length := by simp at hi; omega
      subst this
      simp [hs]
section
variable {P : Program} {ops : Array Oper} {o : Oper} {a : Act} {w : World} {K : Act → World → Prop} {Q : Exit → Act → World → Prop} {E : Prop}
theorem step_makeSlice (hg : o.guard = none) (t : TypeId) (x y : Operand) (hop : o.op = .makeSlice t x y) (vx vy v : Value) (hx : a.eval x = vx) (hy : a.eval y = vy) (w' : World)
    (hrun : (Instr.makeSlice t vx vy).run P w = .ok v w') (hK : K (a.put o.dst v) w') : if Region.wanted o (yielded ops a.tmps) = true then Oper.wp P o a w K Q else E := by
  have hw : Region.wanted o (yielded ops a.tmps) = true := by simp [Region.wanted, hg]
  rw [if_pos hw]
  unfold Oper.wp execOp
  simp only [hop, hx, hy, Sem.run_bind, hrun, Result.andThen_ok]
  exact hK
end
theorem info_sl : (Tryz.prog.info? 45).map (fun i => (i.zero, i.size, i.bytes)) = some (some (.slice none 0 0), 1, 24) := by kernel_rfl
theorem rst64 (b o : Nat) (ao ap : Option Addr) (n c m e : Nat) (W : World) (h : W.cell? ⟨b, o, none⟩ = some (.slice ao n c)) (hf : W.frozen? ⟨b, o, none⟩ = false) : (Instr.storeAt 64 (.pointer (some ⟨b, o, none⟩)) (.slice ap m e)).run Tryz.prog W = .ok () (W.setCell ⟨b, o, none⟩ (.slice ap m e)) := by go_simp
end Go.Proofs.YthnkakjelhnjdaaGreatDoor
