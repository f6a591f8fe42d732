/- Memory that a book of lists holds: what is kept, filled, grown. No walk is here. -/
import Derived.Test.YtboinccdnaddmaaGreatDoorGBase
import Derived.Laws.OwnMore
import Derived.OneCell
set_option linter.unusedSimpArgs false
set_option linter.unusedVariables false
namespace Go.Proofs.YtboinccdnaddmaaGreatDoor
open Go.RowKit

/-- A pointer to block B. -/
abbrev ptr (b : Nat) : Value := .pointer (some ⟨b, 0, none⟩)
/-- Of the blocks that there were only those of d were written. -/
structure Wrote (d : Nat → Prop) (w w' : World) : Prop where
  os : w'.os = w.os
  tape : w'.tape = w.tape
  output : w'.output = w.output
  size : w.heap.size ≤ w'.heap.size
  block : ∀ k, k < w.heap.size → ¬ d k → w'.heap[k]? = w.heap[k]?
theorem Wrote.refl (d : Nat → Prop) (w : World) : Wrote d w w := ⟨rfl, rfl, rfl, Nat.le_refl _, fun _ _ _ => rfl⟩
theorem Wrote.trans {d : Nat → Prop} {a b c : World} (h : Wrote d a b) (k : Wrote d b c) : Wrote d a c :=
  ⟨k.os.trans h.os, k.tape.trans h.tape, k.output.trans h.output, Nat.le_trans h.size k.size, fun i hi hn => (k.block i (Nat.lt_of_lt_of_le hi h.size) hn).trans (h.block i hi hn)⟩
theorem Wrote.weak {d d' : Nat → Prop} {a b : World} (h : Wrote d a b) (hd : ∀ k, k < a.heap.size → d k → d' k) : Wrote d' a b := ⟨h.os, h.tape, h.output, h.size, fun k hk hn => h.block k hk (fun e => hn (hd k hk e))⟩
theorem Wrote.of_below {d : Nat → Prop} {w w' : World} (h : Below w.heap.size w w') : Wrote d w w' := ⟨h.os, h.tape, h.output, h.size, fun k hk _ => h.block k hk⟩
theorem Wrote.below {d : Nat → Prop} {w w' : World} {n : Nat} (h : Wrote d w w') (hn : n ≤ w.heap.size) (hd : ∀ k, k < n → ¬ d k) : Below n w w' := ⟨h.os, h.tape, h.output, h.size, fun k hk => h.block k (by omega) (hd k hk)⟩
theorem Wrote.set {d : Nat → Prop} (w : World) (g i : Nat) (u : Value) (hd : d g) : Wrote d w (w.setCell ⟨g, i, none⟩ u) :=
  ⟨rfl, rfl, rfl, by simp [World.setCell], fun k _ hn => Below.heap_setCell _ _ _ _ (fun e => hn (by simp at e; rw [e]; exact hd))⟩
theorem Wrote.alloc {d : Nat → Prop} (w : World) (o : Obj) : Wrote d w (w.alloc o) := .of_below ((Below.refl _ _).alloc (Nat.le_refl _) _)
theorem Wrote.drewN {d : Nat → Prop} (w : World) (n : Nat) : Wrote d w (w.drewN n) := ⟨rfl, rfl, rfl, Nat.le_refl _, fun _ _ _ => rfl⟩
theorem Wrote.grown {d : Nat → Prop} {w w' : World} {row : Option Nat} (hg : w.grownBy w' row) (hd : ∀ k, row = some k → k < w.heap.size → d k) : Wrote d w w' :=
  ⟨hg.os, hg.tape, hg.output, hg.size, fun k hk hn => hg.block k hk (fun e => hn (hd k e.symm hk))⟩
theorem Wrote.cell {d : Nat → Prop} {w w' : World} (h : Wrote d w w') {p : Addr} (hp : p.block < w.heap.size) (hn : ¬ d p.block) : w'.cell? p = w.cell? p := World.cell?_of_block (w := w) (h.block p.block hp hn)

theorem own_of_block {w w' : World} {base : Nat} {e : TypeId} {s : Nat} {v : Value} {n : Nat} {xs : List Value} (h : w.ownsRow base e s v n xs) (hb : ∀ b, v.ownBlock = some b → w'.heap[b]? = w.heap[b]?) : w'.ownsRow base e s v n xs := by
  refine ⟨h.1, ?_⟩
  rcases h.2 with h1 | ⟨g, cap, cur, rfl, h2, h3, h4⟩
  · exact .inl h1
  · exact .inr ⟨g, cap, cur, rfl, h2, by rw [hb g rfl]; exact h3, h4⟩
theorem own_wrote {d : Nat → Prop} {w w' : World} {base : Nat} {e : TypeId} {s : Nat} {v : Value} {n : Nat} {xs : List Value} (h : w.ownsRow base e s v n xs) (hw : Wrote d w w') (hd : ∀ b, v.ownBlock = some b → ¬ d b) : w'.ownsRow base e s v n xs :=
  own_of_block h (fun b hb => hw.block b (h.lt b hb).2 (hd b hb))
/-- A list that a book holds, its copy that grew, how long it is, its number. -/
structure Ent where
  l : Value
  long : Value
  len : Nat
  n : Nat
def entCells (x : Ent) : List Value := [x.l, x.long, .int .i64 (x.n : Int)]
theorem entCells_len (E : List Ent) : (E.flatMap entCells).length = E.length * 3 := by
  induction E with
  | nil => rfl
  | cons x E ih => rw [List.flatMap_cons, List.length_append, ih, List.length_cons]; show 3 + _ = _; omega
theorem entCells_get (E : List Ent) : ∀ (i : Nat) (x : Ent), E[i]? = some x → ∀ j u, (entCells x)[j]? = some u → (E.flatMap entCells)[i * 3 + j]? = some u := by
  induction E with
  | nil => intro i x h; simp at h
  | cons y E ih =>
    intro i x h j u hu
    have hj : j < 3 := by
      rcases Nat.lt_or_ge j 3 with h' | h'
      · exact h'
      · rw [List.getElem?_eq_none (by exact h')] at hu; cases hu
    rw [List.flatMap_cons]
    match i, h with
    | 0, h =>
      simp only [List.getElem?_cons_zero, Option.some.injEq] at h
      subst h
      rw [Nat.zero_mul, Nat.zero_add, List.getElem?_append_left (by exact hj)]; exact hu
    | i + 1, h =>
      simp only [List.getElem?_cons_succ] at h
      rw [List.getElem?_append_right (by show 3 ≤ _; omega)]
      have := ih i x h j u hu
      rw [← this]; congr 1; show (i + 1) * 3 + j - 3 = _; omega

/-- The blocks of lists. -/
def LD (E : List Ent) (b : Nat) : Prop := ∃ x ∈ E, x.l.ownBlock = some b
/-- And of the array that names them. -/
def DD (v : Value) (E : List Ent) (b : Nat) : Prop := v.ownBlock = some b ∨ LD E b

/-- Lists of one kind, as a book holds them. -/
structure KAt (w : World) (th e : TypeId) (s : Nat) (v : Value) (E : List Ent) : Prop where
  held : w.ownsRow 0 th 3 v E.length (E.flatMap entCells)
  rows : ∀ x ∈ E, x.len ≤ 1000000000 ∧ x.n ≤ 1000000000 ∧ ∃ xs, w.ownsRow 0 e s x.l x.len xs
  apart : ∀ (i j : Nat) (x y : Ent) (b : Nat), E[i]? = some x → E[j]? = some y → x.l.ownBlock = some b → y.l.ownBlock = some b → i = j
  off : ∀ b, LD E b → v.ownBlock ≠ some b
  few : E.length ≤ 1000000000
  fresh : ∀ x ∈ E, x.long = .slice none 0 0
theorem KAt_nil (w : World) (th e : TypeId) (s : Nat) : KAt w th e s (.slice none 0 0) [] :=
  ⟨World.ownsRow_nil w 0 th 3, (fun x hx => absurd hx List.not_mem_nil), (fun i j x y b h => by simp at h), (fun b ⟨x, hx, _⟩ => absurd hx List.not_mem_nil), Nat.zero_le _, (fun x hx => absurd hx List.not_mem_nil)⟩
theorem KAt.lt {w : World} {th e : TypeId} {s : Nat} {v : Value} {E : List Ent} (h : KAt w th e s v E) {b : Nat} (hb : DD v E b) : b < w.heap.size := by
  rcases hb with hb | ⟨x, hx, hb⟩
  · exact (h.held.lt b hb).2
  · obtain ⟨-, -, xs, ho⟩ := h.rows x hx
    exact (ho.lt b hb).2
theorem KAt.wrote {d : Nat → Prop} {w w' : World} {th e : TypeId} {s : Nat} {v : Value} {E : List Ent} (h : KAt w th e s v E) (hw : Wrote d w w') (hd : ∀ b, DD v E b → ¬ d b) : KAt w' th e s v E :=
  ⟨own_wrote h.held hw (fun b hb => hd b (.inl hb)), fun x hx => by
    obtain ⟨h1, h2, xs, ho⟩ := h.rows x hx
    exact ⟨h1, h2, xs, own_wrote ho hw (fun b hb => hd b (.inr ⟨x, hx, hb⟩))⟩, h.apart, h.off, h.few, h.fresh⟩
theorem held_cell {w : World} {th : TypeId} {v : Value} {E : List Ent} (h : w.ownsRow 0 th 3 v E.length (E.flatMap entCells)) {k : Nat} {x : Ent} (hx : E[k]? = some x) :
    ∃ g cap, v = .slice (some ⟨g, 0, none⟩) E.length cap ∧ E.length ≤ cap ∧ cap ≤ maxLen ∧ w.cell? ⟨g, k * 3, none⟩ = some x.l ∧ w.cell? ⟨g, k * 3 + 1, none⟩ = some x.long ∧ w.cell? ⟨g, k * 3 + 2, none⟩ = some (.int .i64 (x.n : Int)) ∧ w.frozen? ⟨g, k * 3 + 1, none⟩ = false := by
  have hk : k < E.length := (List.getElem?_eq_some_iff.mp hx).1
  obtain ⟨g, cap, rfl, -, -⟩ := h.form (by omega)
  have hc : ∀ j u, (entCells x)[j]? = some u → w.cell? ⟨g, k * 3 + j, none⟩ = some u := fun j u hu => by
    have := h.cells (g := g) rfl (k * 3 + j) u (entCells_get E k x hx j u hu)
    simpa [Addr.add_lit] using this
  obtain ⟨ao, c', e, h4, h5⟩ := own_len' h
  simp only [Value.slice.injEq, true_and] at e
  obtain ⟨-, rfl⟩ := e
  exact ⟨g, cap, rfl, h4, h5, by simpa using hc 0 _ rfl, hc 1 _ rfl, hc 2 _ rfl, h.frozenAt _⟩

/-- n's marks, q times. -/
def marks (m : List Value) (q : Nat) : List Value := (List.replicate q m).flatten
theorem marks_len (m : List Value) (q : Nat) : (marks m q).length = q * m.length := by simp [marks]
theorem marks_zero (m : List Value) : marks m 0 = [] := rfl
theorem marks_succ (m : List Value) (q : Nat) : marks m (q + 1) = marks m q ++ m := by
  unfold marks; rw [List.replicate_succ']; simp
theorem marks_get (m : List Value) (q : Nat) : ∀ i j u, i < q → m[j]? = some u → (marks m q)[i * m.length + j]? = some u := by
  induction q with
  | zero => intro i j u h; omega
  | succ q ih =>
    intro i j u hi hu
    have hj : j < m.length := by
      rcases Nat.lt_or_ge j m.length with h' | h'
      · exact h'
      · rw [List.getElem?_eq_none h'] at hu; cases hu
    rw [marks_succ]
    by_cases h : i < q
    · rw [List.getElem?_append_left]
      · exact ih i j u h hu
      · rw [marks_len]
        have : (i + 1) * m.length ≤ q * m.length := Nat.mul_le_mul_right _ h
        rw [Nat.add_mul] at this; omega
    · have : i = q := by omega
      subst this
      rw [List.getElem?_append_right (by rw [marks_len]; omega), marks_len]
      simpa using hu

/-- Cells of block g from o on are written, one by one. -/
def setCells (w : World) (g o : Nat) : List Value → World
  | [] => w
  | u :: us => setCells (w.setCell ⟨g, o, none⟩ u) g (o + 1) us
theorem setCells_own {base : Nat} {e : TypeId} {s n g cap : Nat} : ∀ (us : List Value) (A ys : List Value) (w : World), us.length ≤ ys.length → w.ownsRow base e s (.slice (some ⟨g, 0, none⟩) n cap) n (A ++ ys) → (setCells w g A.length us).ownsRow base e s (.slice (some ⟨g, 0, none⟩) n cap) n (A ++ us ++ ys.drop us.length) := by
  intro us
  induction us with
  | nil => intro A ys w _ h; simpa [setCells] using h
  | cons u us ih =>
    intro A ys w hl h
    match ys, hl with
    | y :: ys, hl =>
      have h1 := (h.stored A.length u).1
      rw [List.set_append_right _ _ (Nat.le_refl _), Nat.sub_self, List.set_cons_zero] at h1
      have h2 := ih (A ++ [u]) ys (w.setCell ⟨g, A.length, none⟩ u) (by simpa using hl) (by simpa using h1)
      simpa [setCells] using h2
theorem setCells_wrote {d : Nat → Prop} {g : Nat} (hd : d g) : ∀ (us : List Value) (w : World) (o : Nat), Wrote d w (setCells w g o us) := by
  intro us
  induction us with
  | nil => intro w o; exact Wrote.refl _ _
  | cons u us ih => intro w o; exact (Wrote.set w g o u hd).trans (ih _ _)

/-- While lists are filled: the first k are, and of the next one q elements. -/
structure FIn (w0 w : World) (e : TypeId) (s : Nat) (mk : Nat → List Value) (E : List Ent) (k q : Nat) : Prop where
  wrote : Wrote (LD E) w0 w
  rows : ∀ i x, E[i]? = some x → ∃ xs, w.ownsRow 0 e s x.l x.len xs ∧ (i < k → xs = marks (mk x.n) x.len) ∧ (i = k → xs.take (q * s) = marks (mk x.n) q)
theorem FIn.start {w : World} {th e : TypeId} {s : Nat} {v : Value} {E : List Ent} (mk : Nat → List Value) (h : KAt w th e s v E) : FIn w w e s mk E 0 0 :=
  ⟨Wrote.refl _ _, fun i x hx => by
    obtain ⟨-, -, xs, ho⟩ := h.rows x (List.mem_of_getElem? hx)
    exact ⟨xs, ho, fun hi => absurd hi (Nat.not_lt_zero _), fun _ => by simp [marks]⟩⟩
theorem FIn.below {w0 w w' : World} {e : TypeId} {s : Nat} {mk : Nat → List Value} {E : List Ent} {k q : Nat} (h : FIn w0 w e s mk E k q) (hb : Below w.heap.size w w') : FIn w0 w' e s mk E k q :=
  ⟨h.wrote.trans (.of_below hb), fun i x hx => by
    obtain ⟨xs, ho, h1, h2⟩ := h.rows i x hx
    exact ⟨xs, own_of_block ho (fun b hb' => hb.block b (ho.lt b hb').2), h1, h2⟩⟩
theorem FIn.next {w0 w : World} {e : TypeId} {s : Nat} {mk : Nat → List Value} {E : List Ent} {k : Nat} {x : Ent} (h : FIn w0 w e s mk E k x.len) (hx : E[k]? = some x) : FIn w0 w e s mk E (k + 1) 0 :=
  ⟨h.wrote, fun i y hy => by
    obtain ⟨xs, ho, h1, h2⟩ := h.rows i y hy
    refine ⟨xs, ho, fun hi => ?_, fun _ => by simp [marks]⟩
    rcases Nat.lt_or_ge i k with hk | hk
    · exact h1 hk
    · have hik : i = k := by omega
      subst hik
      rw [hx] at hy
      cases hy
      rw [← h2 rfl, List.take_of_length_le (by rw [ho.1]; exact Nat.le_refl _)]⟩
theorem FIn.row {w0 w : World} {e : TypeId} {s : Nat} {mk : Nat → List Value} {E : List Ent} {k q : Nat} {x : Ent} (h : FIn w0 w e s mk E k q) (hx : E[k]? = some x) : ∃ ao cap, x.l = .slice ao x.len cap ∧ x.len ≤ cap ∧ cap ≤ maxLen := by
  obtain ⟨xs, ho, -, -⟩ := h.rows k x hx
  exact own_len' ho
theorem FIn.store {w0 w : World} {e : TypeId} {s : Nat} {mk : Nat → List Value} {E : List Ent} {k q : Nat} {x : Ent} (h : FIn w0 w e s mk E k q) (hx : E[k]? = some x) (hq : q < x.len) (hm : ∀ n, (mk n).length = s) (hs : 0 < s)
    (hap : ∀ (i j : Nat) (x y : Ent) (b : Nat), E[i]? = some x → E[j]? = some y → x.l.ownBlock = some b → y.l.ownBlock = some b → i = j) :
    ∃ g cap, x.l = .slice (some ⟨g, 0, none⟩) x.len cap ∧ x.len ≤ cap ∧ cap ≤ maxLen ∧ (∀ j, j < s → (∃ u, w.cell? ⟨g, q * s + j, none⟩ = some u) ∧ w.frozen? ⟨g, q * s + j, none⟩ = false) ∧ LD E g ∧ FIn w0 (setCells w g (q * s) (mk x.n)) e s mk E k (q + 1) := by
  obtain ⟨xs, ho, -, h2⟩ := h.rows k x hx
  obtain ⟨g, cap, hl, -, hg⟩ := ho.form (by omega)
  obtain ⟨ao, c', e', h4, h5⟩ := own_len' ho
  have hLD : LD E g := ⟨x, List.mem_of_getElem? hx, by rw [hl]; rfl⟩
  rw [hl] at e'
  simp only [Value.slice.injEq, true_and] at e'
  obtain ⟨-, rfl⟩ := e'
  have hxl := ho.1
  have hqs : (q + 1) * s ≤ x.len * s := Nat.mul_le_mul_right _ hq
  rw [Nat.add_mul, Nat.one_mul] at hqs
  refine ⟨g, cap, hl, h4, h5, fun j hj => ⟨⟨xs[q * s + j]'(by omega), ?_⟩, ?_⟩, hLD, (h.wrote.trans (setCells_wrote hLD _ _ _)), fun i y hy => ?_⟩
  · rw [hl] at ho
    rw [ho.cellAt _ (by omega)]; simp
  · rw [hl] at ho; exact ho.frozenAt _
  · by_cases hik : i = k
    · subst hik
      rw [hx] at hy
      cases hy
      have e1 : xs = marks (mk x.n) q ++ xs.drop (q * s) := by rw [← h2 rfl, List.take_append_drop]
      have hml : (marks (mk x.n) q).length = q * s := by rw [marks_len, hm]
      have hdl : (mk x.n).length ≤ (xs.drop (q * s)).length := by rw [hm, List.length_drop]; omega
      rw [hl, e1] at ho
      have h6 := setCells_own (mk x.n) _ _ w hdl ho
      rw [hml] at h6
      refine ⟨_, by rw [hl]; exact h6, fun hi => absurd hi (Nat.lt_irrefl _), fun _ => ?_⟩
      rw [← marks_succ]
      have : (q + 1) * s = (marks (mk x.n) (q + 1)).length := by rw [marks_len, hm]
      rw [this, List.take_left]
    · obtain ⟨ys, hy1, hy2, hy3⟩ := h.rows i y hy
      refine ⟨ys, own_wrote (d := fun b => b = g) hy1 (setCells_wrote (d := fun b => b = g) rfl _ _ _) (fun b hb e => ?_), hy2, fun e => absurd e hik⟩
      subst e
      exact hik (hap i k y x _ hy hx hb (by rw [hl]; rfl))
/-- Filled lists. -/
structure FAt (w : World) (th e : TypeId) (s : Nat) (mk : Nat → List Value) (v : Value) (E : List Ent) : Prop where
  held : w.ownsRow 0 th 3 v E.length (E.flatMap entCells)
  rows : ∀ x ∈ E, x.len ≤ 1000000000 ∧ x.n ≤ 1000000000 ∧ w.ownsRow 0 e s x.l x.len (marks (mk x.n) x.len)
  apart : ∀ (i j : Nat) (x y : Ent) (b : Nat), E[i]? = some x → E[j]? = some y → x.l.ownBlock = some b → y.l.ownBlock = some b → i = j
  off : ∀ b, LD E b → v.ownBlock ≠ some b
  few : E.length ≤ 1000000000
  fresh : ∀ x ∈ E, x.long = .slice none 0 0
theorem FIn.fin {w0 w : World} {th e : TypeId} {s : Nat} {mk : Nat → List Value} {v : Value} {E : List Ent} (h : FIn w0 w e s mk E E.length 0) (h0 : KAt w0 th e s v E) : FAt w th e s mk v E :=
  ⟨own_wrote h0.held h.wrote (fun b hb hd => h0.off b hd hb), fun x hx => by
    obtain ⟨i, hi⟩ := List.getElem?_of_mem hx
    obtain ⟨xs, ho, h1, -⟩ := h.rows i x hi
    obtain ⟨g1, g2, -⟩ := h0.rows x hx
    rw [h1 (List.getElem?_eq_some_iff.mp hi).1] at ho
    exact ⟨g1, g2, ho⟩, h0.apart, h0.off, h0.few, h0.fresh⟩
theorem FAt.wrote {d : Nat → Prop} {w w' : World} {th e : TypeId} {s : Nat} {mk : Nat → List Value} {v : Value} {E : List Ent} (h : FAt w th e s mk v E) (hw : Wrote d w w') (hd : ∀ b, DD v E b → ¬ d b) : FAt w' th e s mk v E :=
  ⟨own_wrote h.held hw (fun b hb => hd b (.inl hb)), fun x hx => by
    obtain ⟨h1, h2, ho⟩ := h.rows x hx
    exact ⟨h1, h2, own_wrote ho hw (fun b hb => hd b (.inr ⟨x, hx, hb⟩))⟩, h.apart, h.off, h.few, h.fresh⟩
end Go.Proofs.YtboinccdnaddmaaGreatDoor
