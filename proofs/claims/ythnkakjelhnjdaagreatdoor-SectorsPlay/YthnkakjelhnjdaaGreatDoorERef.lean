/- The document's own disk in memory: what is where. -/
import Derived.Test.YthnkakjelhnjdaaGreatDoorDNone
import Derived.Test.YthnkakjelhnjdaaGreatDoorBBook
set_option linter.unusedSimpArgs false
set_option linter.unusedVariables false
namespace Go.Proofs.YthnkakjelhnjdaaGreatDoor
open Go.RowKit Go.Maps

/-- Lists of bytes, by their values. -/
def rowsOf (P : Nat → Value) (n : Nat) : List Value := (List.range n).map P
/-- Writes that are not sure, by the values of their bytes. -/
def wsOf (ws : List (Nat × Sec)) (Q : Nat → Value) : List Value := (List.range ws.length).flatMap fun j => [.int .i64 ((ws.getD j (0, [])).1 : Int), Q j]
theorem rowsOf_len (P : Nat → Value) (n : Nat) : (rowsOf P n).length = n := by simp [rowsOf]
theorem rowsOf_get (P : Nat → Value) {n i : Nat} (h : i < n) : (rowsOf P n)[i]? = some (P i) := by simp [rowsOf, h]
theorem rowsOf_succ (P : Nat → Value) (n : Nat) : rowsOf P (n + 1) = rowsOf P n ++ [P n] := by simp [rowsOf, List.range_succ]
theorem rowsOf_congr {P Q : Nat → Value} {n : Nat} (h : ∀ i, i < n → P i = Q i) : rowsOf P n = rowsOf Q n := by
  unfold rowsOf
  exact List.map_congr_left (fun i hi => h i (by simpa using hi))
theorem rowsOf_set (P : Nat → Value) {n k : Nat} (v : Value) (h : k < n) : (rowsOf P n).set k v = rowsOf (fun i => if i = k then v else P i) n := by
  apply List.ext_getElem
  · simp [rowsOf]
  · intro i h1 h2
    simp only [List.getElem_set, rowsOf, List.getElem_map, List.getElem_range]
    by_cases e : k = i
    · simp [e]
    · have : ¬ i = k := fun h => e h.symm
      simp [e, this]
theorem wsOf_len (ws : List (Nat × Sec)) (Q : Nat → Value) : (wsOf ws Q).length = ws.length * 2 := by
  unfold wsOf
  generalize ws.length = n
  induction n with
  | zero => rfl
  | succ n ih => rw [List.range_succ, List.flatMap_append, List.length_append, ih]; simp; omega
theorem wsOf_get (ws : List (Nat × Sec)) (Q : Nat → Value) {j : Nat} (h : j < ws.length) : (wsOf ws Q)[j * 2]? = some (.int .i64 ((ws[j]'h).1 : Int)) ∧ (wsOf ws Q)[j * 2 + 1]? = some (Q j) := by
  have hf := flat_get (f := fun j => [.int .i64 ((ws.getD j (0, [])).1 : Int), Q j]) (size := 2) (fun _ => rfl) (List.range ws.length) j (by simpa using h)
  have h0 := hf 0 (by omega)
  have h1 := hf 1 (by omega)
  simp only [Nat.add_zero, List.getElem_range, List.getElem?_cons_zero, List.getElem?_cons_succ] at h0 h1
  refine ⟨?_, h1⟩
  show ((List.range ws.length).flatMap _)[j * 2]? = _
  rw [h0]
  simp [h]
theorem flat_congr {α β : Type} {f g : α → List β} : ∀ {l : List α}, (∀ x ∈ l, f x = g x) → l.flatMap f = l.flatMap g
  | [], _ => rfl
  | x :: l, h => by rw [List.flatMap_cons, List.flatMap_cons, h x (by simp), flat_congr (fun y hy => h y (by simp [hy]))]
theorem wsOf_snoc (ws : List (Nat × Sec)) (Q : Nat → Value) (i : Nat) (s : Sec) (v : Value) : wsOf (ws ++ [(i, s)]) (fun j => if j = ws.length then v else Q j) = wsOf ws Q ++ [.int .i64 (i : Int), v] := by
  unfold wsOf
  rw [List.length_append, List.length_singleton, List.range_succ, List.flatMap_append]
  congr 1
  · refine flat_congr (fun j hj => ?_)
    have hj' : j < ws.length := by simpa using hj
    have : ¬ j = ws.length := by omega
    simp [this, List.getElem?_append_left hj']
  · simp
/-- Rows of unlike elements lie in unlike blocks. -/
theorem own_ne {w : World} {b1 b2 : Nat} {e1 e2 : TypeId} {s1 s2 : Nat} {v1 v2 : Value} {n1 n2 : Nat} {x1 x2 : List Value} (h1 : w.ownsRow b1 e1 s1 v1 n1 x1) (h2 : w.ownsRow b2 e2 s2 v2 n2 x2) (he : e1 ≠ e2) {b : Nat} (hb : v1.ownBlock = some b) : v2.ownBlock ≠ some b := by
  intro hb2
  rcases h1.2 with ⟨rfl, _⟩ | ⟨g1, c1, cu1, rfl, _, k1, _⟩
  · cases hb
  · rcases h2.2 with ⟨rfl, _⟩ | ⟨g2, c2, cu2, rfl, _, k2, _⟩
    · cases hb2
    · cases hb
      cases hb2
      rw [k1] at k2
      cases k2
      exact he rfl
theorem own_ne_block {w : World} {b1 : Nat} {e1 : TypeId} {s1 : Nat} {v1 : Value} {n1 : Nat} {x1 : List Value} {g : Nat} {cs : Array Value} {t : TypeId} {fr : Nat × Nat} (h1 : w.ownsRow b1 e1 s1 v1 n1 x1) (hg : w.heap[g]? = some (.cells cs t fr)) (he : e1 ≠ t) : v1.ownBlock ≠ some g := by
  intro hb
  rcases h1.2 with ⟨rfl, _⟩ | ⟨g1, c1, cu1, rfl, _, k1, _⟩
  · cases hb
  · cases hb
    rw [k1] at hg
    cases hg
    exact he rfl
/-- The document's disk d lies at block B; all that it takes is in S. -/
structure RfX (w : World) (B : Nat) (S : Nat → Prop) (vs vw : Value) (P Q : Nat → Value) (d : Dk) : Prop where
  ok : d.ok
  head : w.heap[B]? = some (.cells #[vs, vw] 67 (0, 0))
  rs : w.ownsRow 0 45 1 vs d.sure.length (rowsOf P d.sure.length)
  rw_ : w.ownsRow 0 78 2 vw d.ws.length (wsOf d.ws Q)
  ps : ∀ i (h : i < d.sure.length), w.ownsRow 0 5 1 (P i) 64 (bcells (d.sure[i]'h)) ∧ ∀ b, (P i).ownBlock = some b → S b
  qs : ∀ j (h : j < d.ws.length), w.ownsRow 0 5 1 (Q j) 64 (bcells (d.ws[j]'h).2) ∧ ∀ b, (Q j).ownBlock = some b → S b
  sB : S B
  sS : ∀ b, vs.ownBlock = some b → S b
  sW : ∀ b, vw.ownBlock = some b → S b
  lt : ∀ b, S b → b < w.heap.size
def RfAt (w : World) (B : Nat) (S : Nat → Prop) (d : Dk) : Prop := ∃ vs vw P Q, RfX w B S vs vw P Q d
theorem RfX.kept {w w' : World} {B : Nat} {S : Nat → Prop} {vs vw : Value} {P Q : Nat → Value} {d : Dk} (h : RfX w B S vs vw P Q d) (hb : ∀ x, S x → w'.heap[x]? = w.heap[x]?) (hz : w.heap.size ≤ w'.heap.size) : RfX w' B S vs vw P Q d :=
  ⟨h.ok, by rw [hb B h.sB]; exact h.head, own_kept h.rs (fun b e => hb b (h.sS b e)), own_kept h.rw_ (fun b e => hb b (h.sW b e)), fun i hi => ⟨own_kept (h.ps i hi).1 (fun b e => hb b ((h.ps i hi).2 b e)), (h.ps i hi).2⟩,
    fun j hj => ⟨own_kept (h.qs j hj).1 (fun b e => hb b ((h.qs j hj).2 b e)), (h.qs j hj).2⟩, h.sB, h.sS, h.sW, fun b e => Nat.lt_of_lt_of_le (h.lt b e) hz⟩
theorem RfAt.kept {w w' : World} {B : Nat} {S : Nat → Prop} {d : Dk} (h : RfAt w B S d) (hb : ∀ x, S x → w'.heap[x]? = w.heap[x]?) (hz : w.heap.size ≤ w'.heap.size) : RfAt w' B S d := by
  obtain ⟨vs, vw, P, Q, h⟩ := h
  exact ⟨vs, vw, P, Q, h.kept hb hz⟩
theorem RfAt.lt {w : World} {B : Nat} {S : Nat → Prop} {d : Dk} (h : RfAt w B S d) : ∀ b, S b → b < w.heap.size := by
  obtain ⟨vs, vw, P, Q, h⟩ := h
  exact h.lt
theorem RfAt.ok {w : World} {B : Nat} {S : Nat → Prop} {d : Dk} (h : RfAt w B S d) : d.ok := by
  obtain ⟨vs, vw, P, Q, h⟩ := h
  exact h.ok
theorem RfAt.below {w w' : World} {B : Nat} {S : Nat → Prop} {d : Dk} (h : RfAt w B S d) (hb : Below w.heap.size w w') : RfAt w' B S d := h.kept (fun x hx => hb.block x (h.lt x hx)) hb.size
theorem RfAt.wrote {D : Nat → Prop} {w w' : World} {B : Nat} {S : Nat → Prop} {d : Dk} (h : RfAt w B S d) (hw : Wrote D w w') (hd : ∀ x, S x → ¬ D x) : RfAt w' B S d := h.kept (fun x hx => hw.block x (h.lt x hx) (hd x hx)) hw.size

theorem rsize_ok {w : World} {B : Nat} {S : Nat → Prop} {d : Dk} (h : RfAt w B S d) : Calls Tryz.prog 29 #[.pointer (some ⟨B, 0, none⟩)] w fun e w' => e = .returned (.int .i64 (d.sure.length : Int)) ∧ w = w' := by
  obtain ⟨vs, vw, P, Q, h⟩ := h
  obtain ⟨ao, c, hv, -, -⟩ := own_len' h.rs
  have hc := (pair_cell h.head).1
  rw [hv] at hc
  clear h
  go_enter Tryz.func29, Tryz.ntmps29
  go_wp2
  go_ret
  exact ⟨rfl, rfl⟩
theorem rwaits_ok {w : World} {B : Nat} {S : Nat → Prop} {d : Dk} (h : RfAt w B S d) : Calls Tryz.prog 20 #[.pointer (some ⟨B, 0, none⟩)] w fun e w' => e = .returned (.int .i64 (d.ws.length : Int)) ∧ w = w' := by
  obtain ⟨vs, vw, P, Q, h⟩ := h
  obtain ⟨ao, c, hv, -, -⟩ := own_len' h.rw_
  have hc := (pair_cell h.head).2
  rw [hv] at hc
  clear h
  go_enter Tryz.func20, Tryz.ntmps20
  go_wp2
  go_ret
  exact ⟨rfl, rfl⟩
end Go.Proofs.YthnkakjelhnjdaaGreatDoor
