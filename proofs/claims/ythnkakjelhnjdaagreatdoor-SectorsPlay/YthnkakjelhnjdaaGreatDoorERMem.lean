/- The document's disk in memory: a list of it is put in another's place; all are. -/
import Derived.Test.YthnkakjelhnjdaaGreatDoorERWrite
set_option linter.unusedSimpArgs false
set_option linter.unusedVariables false
namespace Go.Proofs.YthnkakjelhnjdaaGreatDoor
open Go.RowKit Go.Maps

/-- A row with something in it has a block. -/
theorem own_pos {w : World} {e : TypeId} {s : Nat} {v : Value} {n : Nat} {xs : List Value} (h : w.ownsRow 0 e s v n xs) (hn : 0 < n) : ∃ g cap, v = .slice (some ⟨g, 0, none⟩) n cap ∧ n ≤ cap ∧ cap ≤ 9223372036854775807 ∧ g < w.heap.size ∧ (∀ i, w.frozen? ⟨g, i, none⟩ = false) ∧ ∀ i u, xs[i]? = some u → w.cell? ⟨g, i, none⟩ = some u := by
  rcases h.2 with ⟨_, h2⟩ | ⟨g, cap, cur, rfl, _, hg, h4, h5, _⟩
  · omega
  · refine ⟨g, cap, rfl, h4, by unfold maxLen at h5; exact h5, lt_of_block hg, fun i => box_frozen hg, fun i u hu => ?_⟩
    have := h.cells (g := g) rfl i u hu
    by_cases e : i = 0
    · subst e
      simpa [Addr.add] using this
    · simpa [Addr.add, e] using this
theorem own_setAt {w : World} {e : TypeId} {s g n cap : Nat} {xs : List Value} (h : w.ownsRow 0 e s (.slice (some ⟨g, 0, none⟩) n cap) n xs) (i : Nat) (u : Value) : (w.setCell ⟨g, i, none⟩ u).ownsRow 0 e s (.slice (some ⟨g, 0, none⟩) n cap) n (xs.set i u) := by
  refine ⟨by rw [List.length_set]; exact h.1, .inr ?_⟩
  rcases h.2 with ⟨h1, _⟩ | ⟨g', cap', cur, h1, h2, h3, h4, h5, h6, h7⟩
  · cases h1
  · cases h1
    refine ⟨g, cap, cur.setIfInBounds i u, rfl, h2, heap_setCell_same w g i _ _ u h3, h4, h5, by simpa using h6, ?_⟩
    rw [Array.toList_setIfInBounds, List.take_set, h7]
/-- After k of the writes that were not sure. -/
def syTo (d : Dk) : Nat → List Sec
  | 0 => d.sure
  | k + 1 => (syTo d k).set (d.ws.getD k (0, [])).1 (d.ws.getD k (0, [])).2
theorem syTo_len (d : Dk) (k : Nat) : (syTo d k).length = d.sure.length := by
  induction k with
  | zero => rfl
  | succ k ih => simp [syTo, ih]
theorem syTo_get (d : Dk) {i : Nat} (hi : i < d.sure.length) : ∀ k, k ≤ d.ws.length → (syTo d k).getD i [] = (lastAt (d.ws.take k) i).getD (d.sure.getD i []) := by
  intro k
  induction k with
  | zero => intro _; simp [syTo, lastAt]
  | succ k ih =>
    intro hk
    have hk' : k < d.ws.length := by omega
    obtain ⟨a, s, e⟩ : ∃ a s, d.ws[k]'hk' = (a, s) := ⟨_, _, rfl⟩
    have eg : d.ws.getD k (0, []) = (a, s) := by simp [hk', e]
    rw [List.take_succ_eq_append_getElem hk', e, lastAt_snoc, syTo, eg]
    have := ih (by omega)
    by_cases h : a = i
    · subst h
      simp [syTo_len, hi]
    · simp only [if_neg h, ← this]
      simp [List.getElem?_set, h]
theorem syTo_all (d : Dk) : syTo d d.ws.length = d.sync.sure := by
  apply List.ext_getElem
  · simp [syTo_len, Dk.sync]
  · intro i h1 h2
    have hi : i < d.sure.length := by rw [syTo_len] at h1; exact h1
    have := syTo_get d hi _ (Nat.le_refl _)
    rw [List.take_length] at this
    simp only [Dk.sync, List.getElem_map, List.getElem_range, Dk.view, ← this]
    simp [h1]
theorem syTo_ok {d : Dk} (h : d.ok) : ∀ k, k ≤ d.ws.length → Dk.ok { d with sure := syTo d k } := by
  intro k
  induction k with
  | zero => intro _; exact h
  | succ k ih =>
    intro hk
    have hk' : k < d.ws.length := by omega
    have hm : d.ws.getD k (0, []) ∈ d.ws := by simp [hk']
    have hl : (syTo d (k + 1)).length = d.sure.length := syTo_len _ _
    refine ⟨by rw [hl]; exact h.pos, by rw [hl]; exact h.max, fun i hi => ?_, fun p hp => by rw [hl]; exact h.ats p hp⟩
    simp only [syTo, List.getElem_set]
    split
    · exact (h.ats _ hm).2
    · exact (ih (by omega)).len i (by rw [syTo_len]; rw [← hl]; exact hi)
/-- A write is made sure. -/
theorem rf_put {w : World} {B g n cap : Nat} {S : Nat → Prop} {vw : Value} {P Q : Nat → Value} {d : Dk} {k : Nat} (h : RfX w B S (.slice (some ⟨g, 0, none⟩) n cap) vw P Q { d with sure := syTo d k }) (hk : k < d.ws.length) (h0 : d.ok) :
    RfX (w.setCell ⟨g, (d.ws.getD k (0, [])).1, none⟩ (Q k)) B S (.slice (some ⟨g, 0, none⟩) n cap) vw (fun i => if i = (d.ws.getD k (0, [])).1 then Q k else P i) Q { d with sure := syTo d (k + 1) } ∧ Wrote S w (w.setCell ⟨g, (d.ws.getD k (0, [])).1, none⟩ (Q k)) := by
  have hn : n = d.sure.length := by
    obtain ⟨ao, c, e, -, -⟩ := own_len' h.rs
    cases e
    exact syTo_len d k
  have hm : d.ws.getD k (0, []) ∈ d.ws := by simp [hk]
  have hl : (syTo d (k + 1)).length = d.sure.length := syTo_len _ _
  have hl0 : (syTo d k).length = d.sure.length := syTo_len _ _
  have hat := (h0.ats _ hm).1
  have o3 : ∀ x, x ≠ g → (w.setCell ⟨g, (d.ws.getD k (0, [])).1, none⟩ (Q k)).heap[x]? = w.heap[x]? := fun x hx => Below.heap_setCell _ _ _ _ (fun e => hx (by simp at e; exact e))
  have k3 : ∀ {e : TypeId} {sz n : Nat} {v : Value} {xs : List Value}, w.ownsRow 0 e sz v n xs → 45 ≠ e → (w.setCell ⟨g, (d.ws.getD k (0, [])).1, none⟩ (Q k)).ownsRow 0 e sz v n xs := fun hv n1 => own_kept hv (fun b eb => o3 b (fun e' => own_ne h.rs hv n1 (b := g) rfl (by rw [eb, e'])))
  have nB : B ≠ g := fun e => own_ne_block h.rs h.head (by decide) (by rw [e]; rfl)
  have hz : (w.setCell ⟨g, (d.ws.getD k (0, [])).1, none⟩ (Q k)).heap.size = w.heap.size := by simp [World.setCell]
  refine ⟨⟨syTo_ok h0 _ hk, (o3 B nB).trans h.head, ?_, k3 h.rw_ (by decide), fun i hi => ?_, fun j hj => ⟨k3 (h.qs j hj).1 (by decide), (h.qs j hj).2⟩, h.sB, h.sS, h.sW, fun b e => by rw [hz]; exact h.lt b e⟩, Wrote.set _ _ _ _ (h.sS g rfl)⟩
  · have := own_setAt (show w.ownsRow 0 45 1 (.slice (some ⟨g, 0, none⟩) n cap) n (rowsOf P (syTo d k).length) by have := h.rs; simp only [hl0, ← hn] at this ⊢; exact this) (d.ws.getD k (0, [])).1 (Q k)
    rw [rowsOf_set P (Q k) (by rw [hl0]; exact hat), hl0] at this
    show World.ownsRow _ 0 _ 1 _ (syTo d (k + 1)).length (rowsOf _ (syTo d (k + 1)).length)
    rw [hl, ← hn] at *
    exact this
  · have hi' : i < (syTo d k).length := by rw [hl0, ← hl]; exact hi
    by_cases e : i = (d.ws.getD k (0, [])).1
    · have hq := h.qs k hk
      have es : (syTo d (k + 1))[i]'hi = (d.ws[k]'hk).2 := by
        have eg : d.ws.getD k (0, []) = d.ws[k]'hk := by simp [hk]
        have e2 := e
        rw [eg] at e2
        have h1 : (syTo d (k + 1))[i]? = some (d.ws[k]'hk).2 := by
          rw [syTo, eg, List.getElem?_set, if_pos e2.symm, if_pos (by rw [← e2]; exact hi')]
        exact Option.some.inj ((List.getElem?_eq_getElem hi).symm.trans h1)
      simp only [if_pos e, es]
      exact ⟨k3 hq.1 (by decide), hq.2⟩
    · have hp := h.ps i hi'
      have es : (syTo d (k + 1))[i]'hi = (syTo d k)[i]'hi' := by
        simp only [syTo, List.getElem_set]
        rw [if_neg (fun h => e h.symm)]
      simp only [if_neg e, es]
      exact ⟨k3 hp.1 (by decide), hp.2⟩
/-- None waits any more. -/
theorem rf_none {w : World} {B : Nat} {S : Nat → Prop} {vs vw : Value} {P Q : Nat → Value} {d : Dk} (h : RfX w B S vs vw P Q { d with sure := syTo d d.ws.length }) :
    RfAt (w.setCell ⟨B, 1, none⟩ (.slice none 0 0)) B S d.sync ∧ Wrote S w (w.setCell ⟨B, 1, none⟩ (.slice none 0 0)) := by
  have o3 : ∀ x, x ≠ B → (w.setCell ⟨B, 1, none⟩ (.slice none 0 0)).heap[x]? = w.heap[x]? := fun x hx => Below.heap_setCell _ _ _ _ (fun e => hx (by simp at e; exact e))
  have k3 : ∀ {e : TypeId} {sz n : Nat} {v : Value} {xs : List Value}, w.ownsRow 0 e sz v n xs → e ≠ 67 → (w.setCell ⟨B, 1, none⟩ (.slice none 0 0)).ownsRow 0 e sz v n xs := fun hv n1 => own_kept hv (fun b eb => o3 b (fun e' => own_ne_block hv h.head n1 (by rw [eb, e'])))
  have hz : (w.setCell ⟨B, 1, none⟩ (.slice none 0 0)).heap.size = w.heap.size := by simp [World.setCell]
  have hd : d.sync = { sure := syTo d d.ws.length, ws := [] } := by rw [syTo_all]; rfl
  rw [hd]
  refine ⟨⟨vs, .slice none 0 0, P, Q, ⟨h.ok.pos, h.ok.max, h.ok.len, fun p hp => by cases hp⟩, pair_set1 _ h.head, k3 h.rs (by decide), World.ownsRow_nil _ _ _ _, fun i hi => ⟨k3 (h.ps i hi).1 (by decide), (h.ps i hi).2⟩, fun j hj => absurd hj (by simp), h.sB, h.sS, fun b e => by simp [Value.ownBlock] at e, fun b e => by rw [hz]; exact h.lt b e⟩, Wrote.set _ _ _ _ h.sB⟩
end Go.Proofs.YthnkakjelhnjdaaGreatDoor
