/- Memory told in parts that lie apart: a part says what holds of a world, and of which blocks it speaks; a call that asks for some parts leaves all others as they were. -/
import Derived.Test.YtboinccdnaddmaaGreatDoorBBook
set_option linter.unusedSimpArgs false
set_option linter.unusedVariables false
namespace Go.Proofs.YtboinccdnaddmaaGreatDoor
open Go.RowKit

theorem own_base0 {w : World} {base : Nat} {e : TypeId} {s : Nat} {v : Value} {n : Nat} {xs : List Value} (h : w.ownsRow base e s v n xs) : w.ownsRow 0 e s v n xs := by
  refine ⟨h.1, ?_⟩
  rcases h.2 with h1 | ⟨g, cap, cur, h1, h2, h3⟩
  · exact .inl h1
  · exact .inr ⟨g, cap, cur, h1, Nat.zero_le _, h3⟩
/-- A part of memory: what holds of a world, the part's blocks being these; it hangs on these blocks alone. -/
structure Part where
  holds : World → (Nat → Prop) → Prop
  lt : ∀ w S, holds w S → ∀ b, S b → b < w.heap.size
  loc : ∀ w w' S, holds w S → (∀ b, S b → w'.heap[b]? = w.heap[b]?) → holds w' S

theorem blk_lt {w : World} {b : Nat} {o : Obj} (h : w.heap[b]? = some o) : b < w.heap.size := by
  rcases Nat.lt_or_ge b w.heap.size with h' | h'
  · exact h'
  · rw [Array.getElem?_eq_none h'] at h; cases h
theorem blk_of_eq {w w' : World} {b : Nat} (hb : b < w.heap.size) (h : w'.heap[b]? = w.heap[b]?) : b < w'.heap.size := by
  rcases Nat.lt_or_ge b w'.heap.size with h' | h'
  · exact h'
  · rw [Array.getElem?_eq_none h', Array.getElem?_eq_getElem hb] at h; cases h

/-- Parts, no two of which have a block in common. -/
def Parts : List Part → World → (Nat → Prop) → Prop
  | [], _, S => ∀ b, ¬ S b
  | P :: L, w, S => ∃ S1 S2, P.holds w S1 ∧ Parts L w S2 ∧ (∀ b, S1 b → ¬ S2 b) ∧ (∀ b, S b ↔ (S1 b ∨ S2 b))
theorem Parts.lt {L : List Part} : ∀ {w : World} {S : Nat → Prop}, Parts L w S → ∀ b, S b → b < w.heap.size := by
  induction L with
  | nil => intro w S h b hb; exact absurd hb (h b)
  | cons P L ih =>
    rintro w S ⟨S1, S2, h1, h2, -, h4⟩ b hb
    rcases (h4 b).1 hb with h | h
    · exact P.lt w S1 h1 b h
    · exact ih h2 b h
theorem Parts.loc {L : List Part} : ∀ {w w' : World} {S : Nat → Prop}, Parts L w S → (∀ b, S b → w'.heap[b]? = w.heap[b]?) → Parts L w' S := by
  induction L with
  | nil => intro w w' S h _; exact h
  | cons P L ih =>
    rintro w w' S ⟨S1, S2, h1, h2, h3, h4⟩ hb
    exact ⟨S1, S2, P.loc w w' S1 h1 (fun b h => hb b ((h4 b).2 (.inl h))), ih h2 (fun b h => hb b ((h4 b).2 (.inr h))), h3, h4⟩
theorem Parts.iff {L : List Part} {w : World} {S T : Nat → Prop} (h : Parts L w S) (hs : ∀ b, T b ↔ S b) : Parts L w T := by
  cases L with
  | nil => exact fun b hb => h b ((hs b).1 hb)
  | cons P L =>
    obtain ⟨S1, S2, h1, h2, h3, h4⟩ := h
    exact ⟨S1, S2, h1, h2, h3, fun b => (hs b).trans (h4 b)⟩
theorem Parts.swap {P Q : Part} {L : List Part} {w : World} {S : Nat → Prop} (h : Parts (P :: Q :: L) w S) : Parts (Q :: P :: L) w S := by
  obtain ⟨S1, S2, h1, ⟨S3, S4, k1, k2, k3, k4⟩, h3, h4⟩ := h
  refine ⟨S3, fun b => S1 b ∨ S4 b, k1, ⟨S1, S4, h1, k2, fun b hb hb' => h3 b hb ((k4 b).2 (.inr hb')), fun b => Iff.rfl⟩, fun b hb hb' => ?_, fun b => ?_⟩
  · rcases hb' with hb' | hb'
    · exact h3 b hb' ((k4 b).2 (.inl hb))
    · exact k3 b hb hb'
  · rw [h4 b, k4 b]
    constructor
    · rintro (h | h | h)
      · exact .inr (.inl h)
      · exact .inl h
      · exact .inr (.inr h)
    · rintro (h | h | h)
      · exact .inr (.inl h)
      · exact .inl h
      · exact .inr (.inr h)
theorem Parts.cons_mono {P : Part} {L L' : List Part} {w : World} {S : Nat → Prop} (h : Parts (P :: L) w S) (hk : ∀ T, Parts L w T → Parts L' w T) : Parts (P :: L') w S := by
  obtain ⟨S1, S2, h1, h2, h3, h4⟩ := h
  exact ⟨S1, S2, h1, hk S2 h2, h3, h4⟩
theorem Parts.perm {L L' : List Part} (hp : L.Perm L') : ∀ {w : World} {S : Nat → Prop}, Parts L w S → Parts L' w S := by
  induction hp with
  | nil => intro w S h; exact h
  | cons P _ ih => intro w S h; exact h.cons_mono (fun T hT => ih hT)
  | swap P Q L => intro w S h; exact h.swap
  | trans _ _ ih1 ih2 => intro w S h; exact ih2 (ih1 h)
theorem Parts.app {L L' : List Part} : ∀ {w : World} {S : Nat → Prop}, Parts (L ++ L') w S ↔ ∃ S1 S2, Parts L w S1 ∧ Parts L' w S2 ∧ (∀ b, S1 b → ¬ S2 b) ∧ (∀ b, S b ↔ (S1 b ∨ S2 b)) := by
  induction L with
  | nil =>
    intro w S
    constructor
    · intro h; exact ⟨fun _ => False, S, fun b h => h, h, fun b h => h.elim, fun b => ⟨.inr, fun h => h.elim False.elim id⟩⟩
    · rintro ⟨S1, S2, h1, h2, -, h4⟩
      exact Parts.iff h2 (fun b => (h4 b).trans ⟨fun h => h.elim (fun h => absurd h (h1 b)) id, .inr⟩)
  | cons P L ih =>
    intro w S
    constructor
    · rintro ⟨S1, S2, h1, h2, h3, h4⟩
      obtain ⟨S3, S4, k1, k2, k3, k4⟩ := ih.1 h2
      refine ⟨fun b => S1 b ∨ S3 b, S4, ⟨S1, S3, h1, k1, fun b hb hb' => h3 b hb ((k4 b).2 (.inl hb')), fun b => Iff.rfl⟩, k2, fun b hb hb' => ?_, fun b => by rw [h4 b, k4 b, or_assoc]⟩
      rcases hb with hb | hb
      · exact h3 b hb ((k4 b).2 (.inr hb'))
      · exact k3 b hb hb'
    · rintro ⟨T1, T2, ⟨S1, S3, h1, k1, k2, k3⟩, h2, h3, h4⟩
      refine ⟨S1, fun b => S3 b ∨ T2 b, h1, ih.2 ⟨S3, T2, k1, h2, fun b hb => h3 b ((k3 b).2 (.inr hb)), fun b => Iff.rfl⟩, fun b hb hb' => ?_, fun b => by rw [h4 b, k3 b, or_assoc]⟩
      rcases hb' with hb' | hb'
      · exact k2 b hb hb'
      · exact h3 b ((k3 b).2 (.inl hb)) hb'

/-- Several parts as one. -/
def Part.all (L : List Part) : Part := ⟨Parts L, fun _ _ h => h.lt, fun _ _ _ h hb => h.loc hb⟩
/-- A block and all that is in it. -/
def Part.blk (b : Nat) (o : Obj) : Part := ⟨fun w S => w.heap[b]? = some o ∧ ∀ x, S x ↔ x = b, fun w S h x hx => by rw [(h.2 x).1 hx]; exact blk_lt h.1, fun w w' S h hb => ⟨(hb b ((h.2 b).2 rfl)).trans h.1, h.2⟩⟩
/-- A row that is owned. -/
def Part.row (e : TypeId) (s : Nat) (v : Value) (n : Nat) (xs : List Value) : Part :=
  ⟨fun w S => w.ownsRow 0 e s v n xs ∧ ∀ x, S x ↔ v.ownBlock = some x, fun w S h x hx => (h.1.lt x ((h.2 x).1 hx)).2, fun w w' S h hb => ⟨own_of_block h.1 (fun b e => hb b ((h.2 b).2 e)), h.2⟩⟩
/-- What holds, no block being asked for. -/
def Part.pure (p : Prop) : Part := ⟨fun _ S => p ∧ ∀ x, ¬ S x, fun _ _ h b hb => absurd hb (h.2 b), fun _ _ _ h _ => h⟩
/-- A part that some thing has. -/
def Part.ex {α : Type} (P : α → Part) : Part := ⟨fun w S => ∃ x, (P x).holds w S, fun w S ⟨x, h⟩ => (P x).lt w S h, fun w w' S ⟨x, h⟩ hb => ⟨x, (P x).loc w w' S h hb⟩⟩

/-- What there is of some parts in w, as it came out of w0: they lie in the blocks S0, or in new ones; nothing else of w0 was written. -/
structure St (S0 : Nat → Prop) (w0 w : World) (L : List Part) : Prop where
  ex : ∃ S, Parts L w S ∧ (∀ b, S b → S0 b ∨ w0.heap.size ≤ b) ∧ Wrote S0 w0 w
abbrev noB : Nat → Prop := fun _ => False
section
variable {S0 : Nat → Prop} {w0 w w' : World} {P Q : Part} {K L L' : List Part}
theorem St.nil (w : World) : St noB w w [] := ⟨noB, fun _ h => h, fun _ h => h.elim, Wrote.refl _ _⟩
theorem St.start {S : Nat → Prop} (h : Parts L w S) : St S w w L := ⟨S, h, fun _ h => .inl h, Wrote.refl _ _⟩
theorem St.wrote (h : St S0 w0 w L) : Wrote S0 w0 w := h.ex.choose_spec.2.2
theorem St.size (h : St S0 w0 w L) : w0.heap.size ≤ w.heap.size := h.wrote.size
theorem St.below (h : St noB w0 w L) : Below w0.heap.size w0 w := h.wrote.below (Nat.le_refl _) (fun _ _ h => h)
theorem St.perm (h : St S0 w0 w L) (hp : L.Perm L') : St S0 w0 w L' := by
  obtain ⟨S, h1, h2, h3⟩ := h
  exact ⟨S, h1.perm hp, h2, h3⟩
theorem St.swap (h : St S0 w0 w (P :: Q :: L)) : St S0 w0 w (Q :: P :: L) := h.perm (.swap _ _ _)
theorem pick_perm {L : List Part} : ∀ (i : Nat) {P : Part}, L[i]? = some P → L.Perm (P :: L.eraseIdx i) := by
  induction L with
  | nil => intro i P h; simp at h
  | cons Q L ih =>
    intro i P h
    match i, h with
    | 0, h =>
      simp only [List.getElem?_cons_zero, Option.some.injEq] at h
      subst h
      exact .refl _
    | i + 1, h =>
      simp only [List.getElem?_cons_succ] at h
      exact ((ih i h).cons Q).trans (.swap _ _ _)
/-- The i-th part goes to the front. -/
theorem St.pick (h : St S0 w0 w L) (i : Nat) {P : Part} (hi : L[i]? = some P) : St S0 w0 w (P :: L.eraseIdx i) := h.perm (pick_perm i hi)
theorem range_getElem (L : List Part) : (List.range L.length).filterMap (fun i => L[i]?) = L := by
  have h1 : (List.range L.length).map (fun i => L[i]?) = L.map some := by
    apply List.ext_getElem?
    intro i
    simp only [List.getElem?_map]
    by_cases hi : i < L.length
    · simp [hi]
    · rw [List.getElem?_eq_none (by simpa using hi), List.getElem?_eq_none (by simpa using hi)]; rfl
  have h2 : ∀ l : List Nat, l.filterMap (fun i => L[i]?) = (l.map (fun i => L[i]?)).filterMap id := fun l => by rw [List.filterMap_map]; rfl
  rw [h2, h1, List.filterMap_map]
  simp
/-- The parts in another order, told by their places. -/
theorem St.re (h : St S0 w0 w L) (n : Nat) (is : List Nat) (hp : (List.range n).Perm is) (hl : L.length = n := by rfl) : St S0 w0 w (is.filterMap (fun i => L[i]?)) := by
  have h1 := hp.filterMap (fun i => L[i]?)
  rw [← hl, range_getElem] at h1
  exact h.perm h1
/-- The same of the first ones, the others staying behind them. -/
theorem St.rt (h : St S0 w0 w (K ++ L)) (n : Nat) (is : List Nat) (hp : (List.range n).Perm is) (hl : K.length = n := by rfl) : St S0 w0 w (is.filterMap (fun i => K[i]?) ++ L) := by
  have h1 := hp.filterMap (fun i => K[i]?)
  rw [← hl, range_getElem] at h1
  exact h.perm (h1.append (.refl _))
theorem St.sub (h : St S0 w0 w L) (hk : ∀ S, Parts L w S → ∃ S', Parts L' w S' ∧ ∀ b, S' b → S b) : St S0 w0 w L' := by
  obtain ⟨S, h1, h2, h3⟩ := h
  obtain ⟨S', k1, k2⟩ := hk S h1
  exact ⟨S', k1, fun b hb => h2 b (k2 b hb), h3⟩
theorem St.drop (h : St S0 w0 w (P :: L)) : St S0 w0 w L := h.sub (fun S ⟨S1, S2, h1, h2, h3, h4⟩ => ⟨S2, h2, fun b hb => (h4 b).2 (.inr hb)⟩)
theorem St.keep (h : St S0 w0 w (P :: L)) (hk : ∀ S, P.holds w S → ∃ S', Q.holds w S' ∧ ∀ b, S' b → S b) : St S0 w0 w (Q :: L) :=
  h.sub (fun S ⟨S1, S2, h1, h2, h3, h4⟩ => by
    obtain ⟨S', k1, k2⟩ := hk S1 h1
    exact ⟨fun b => S' b ∨ S2 b, ⟨S', S2, k1, h2, fun b hb => h3 b (k2 b hb), fun b => Iff.rfl⟩, fun b hb => (h4 b).2 (hb.elim (fun h => .inl (k2 b h)) .inr)⟩)
/-- The first ones alone. -/
theorem St.front (h : St S0 w0 w (K ++ L)) : St S0 w0 w K := h.sub (fun S hS => by
  obtain ⟨S1, S2, k1, k2, k3, k4⟩ := Parts.app.1 hS
  exact ⟨S1, k1, fun b hb => (k4 b).2 (.inl hb)⟩)
/-- What the first part says. -/
theorem St.head (h : St S0 w0 w (P :: L)) : ∃ S, P.holds w S ∧ ∀ b, S b → (S0 b ∨ w0.heap.size ≤ b) ∧ b < w.heap.size := by
  obtain ⟨S, ⟨S1, S2, h1, h2, h3, h4⟩, h5, h6⟩ := h
  exact ⟨S1, h1, fun b hb => ⟨h5 b ((h4 b).2 (.inl hb)), P.lt w S1 h1 b hb⟩⟩
theorem St.open_all (h : St S0 w0 w (Part.all K :: L)) : St S0 w0 w (K ++ L) := by
  obtain ⟨S, ⟨S1, S2, h1, h2, h3, h4⟩, h5, h6⟩ := h
  exact ⟨S, Parts.app.2 ⟨S1, S2, h1, h2, h3, h4⟩, h5, h6⟩
theorem St.shut_all (h : St S0 w0 w (K ++ L)) : St S0 w0 w (Part.all K :: L) := by
  obtain ⟨S, h1, h5, h6⟩ := h
  obtain ⟨S1, S2, k1, k2, k3, k4⟩ := Parts.app.1 h1
  exact ⟨S, ⟨S1, S2, k1, k2, k3, k4⟩, h5, h6⟩
/-- One more part to several as one. -/
theorem St.snoc (h : St S0 w0 w (Part.all K :: P :: L)) : St S0 w0 w (Part.all (K ++ [P]) :: L) := by
  have h1 := h.open_all
  refine St.shut_all (K := K ++ [P]) ?_
  rw [List.append_assoc]
  exact h1
theorem St.open_ex {α : Type} {P : α → Part} (h : St S0 w0 w (Part.ex P :: L)) : ∃ x, St S0 w0 w (P x :: L) := by
  obtain ⟨S, ⟨S1, S2, ⟨x, h1⟩, h2, h3, h4⟩, h5, h6⟩ := h
  exact ⟨x, S, ⟨S1, S2, h1, h2, h3, h4⟩, h5, h6⟩
theorem St.shut_ex {α : Type} {P : α → Part} (x : α) (h : St S0 w0 w (P x :: L)) : St S0 w0 w (Part.ex P :: L) := h.keep (fun S hS => ⟨S, ⟨x, hS⟩, fun _ h => h⟩)
theorem St.open_pure {p : Prop} (h : St S0 w0 w (Part.pure p :: L)) : p ∧ St S0 w0 w L := by
  obtain ⟨S, h1, -⟩ := h.head
  exact ⟨h1.1, h.drop⟩
/-- Memory that came since is no one's yet. -/
theorem St.more (h : St S0 w0 w L) (hb : Below w.heap.size w w') {Q : List Part} {T : Nat → Prop} (hQ : Parts Q w' T) (hT : ∀ b, T b → w.heap.size ≤ b) : St S0 w0 w' (Q ++ L) := by
  obtain ⟨S, h1, h2, h3⟩ := h
  have hz := h3.size
  refine ⟨fun b => T b ∨ S b, Parts.app.2 ⟨T, S, hQ, h1.loc (fun b hb' => hb.block b (h1.lt b hb')), fun b h4 h5 => ?_, fun b => Iff.rfl⟩, fun b hb' => ?_, h3.trans (.of_below hb)⟩
  · have := hT b h4; have := h1.lt b h5; omega
  · rcases hb' with h | h
    · have := hT b h; exact .inr (by omega)
    · exact h2 b h
theorem St.up (h : St S0 w0 w L) (hb : Below w.heap.size w w') : St S0 w0 w' L := h.more (Q := []) (T := fun _ => False) hb (fun _ h => h) (fun _ h => h.elim)
/-- What another contract made anew. -/
theorem St.and (h : St S0 w0 w L) {K : List Part} (k : St noB w w' K) : St S0 w0 w' (K ++ L) := by
  obtain ⟨T, k1, k2, k3⟩ := k
  exact h.more (k3.below (Nat.le_refl _) (fun _ _ h => h)) k1 (fun b hb => (k2 b hb).elim False.elim id)
theorem St.alloc (h : St S0 w0 w L) (o : Obj) : St S0 w0 (w.alloc o) (Part.blk w.heap.size o :: L) :=
  h.more (Q := [Part.blk w.heap.size o]) (T := fun b => b = w.heap.size) ((Below.refl _ _).alloc (Nat.le_refl _) _)
    ⟨fun b => b = w.heap.size, fun _ => False, ⟨by show (w.heap.push _)[w.heap.size]? = _; exact Array.getElem?_push_size, fun x => Iff.rfl⟩, fun _ h => h, fun _ _ h => h, fun b => ⟨.inl, fun h => h.elim id False.elim⟩⟩ (fun b h => by rw [h]; exact Nat.le_refl _)
theorem St.blk {b : Nat} {o : Obj} (h : St S0 w0 w (Part.blk b o :: L)) : w.heap[b]? = some o ∧ b < w.heap.size := by
  obtain ⟨S, h1, h2⟩ := h.head
  exact ⟨h1.1, (h2 b ((h1.2 b).2 rfl)).2⟩
theorem St.row {e : TypeId} {s n : Nat} {v : Value} {xs : List Value} (h : St S0 w0 w (Part.row e s v n xs :: L)) : w.ownsRow 0 e s v n xs := by
  obtain ⟨S, ⟨h1, h3⟩, h2⟩ := h.head
  exact h1
theorem St.parts (h : St S0 w0 w (K ++ L)) : ∃ S, Parts K w S ∧ ∀ b, S b → b < w.heap.size := by
  obtain ⟨S, h1, h2, h3⟩ := h
  obtain ⟨S1, S2, k1, k2, k3, k4⟩ := Parts.app.1 h1
  exact ⟨S1, k1, fun b hb => k1.lt b hb⟩
/-- One step behind another: what is asked for is what it is about, all else stays. -/
theorem St.then {S1 S2 : Nat → Prop} {w1 : World} {P Q : List Part} {S : Nat → Prop} (hS : ∀ b, S b → S0 b ∨ w0.heap.size ≤ b) (k1 : Parts P w S1) (k2 : Parts L w S2) (k3 : ∀ b, S1 b → ¬ S2 b) (k4 : ∀ b, S b ↔ (S1 b ∨ S2 b)) (h3 : Wrote S0 w0 w) (k : St S1 w w1 Q) : St S0 w0 w1 (Q ++ L) := by
  obtain ⟨S', g2, g4, g3⟩ := k
  have hz := h3.size
  refine ⟨fun b => S' b ∨ S2 b, Parts.app.2 ⟨S', S2, g2, k2.loc (fun b hb => g3.block b (k2.lt b hb) (fun h => k3 b h hb)), fun b h4 h5 => ?_, fun b => Iff.rfl⟩, fun b hb => ?_, ⟨g3.os.trans h3.os, g3.tape.trans h3.tape, g3.output.trans h3.output, Nat.le_trans h3.size g3.size, fun b hb hn => ?_⟩⟩
  · rcases g4 b h4 with h6 | h6
    · exact k3 b h6 h5
    · have := k2.lt b h5; omega
  · rcases hb with hb | hb
    · rcases g4 b hb with h6 | h6
      · exact hS b ((k4 b).2 (.inl h6))
      · exact .inr (by omega)
    · exact hS b ((k4 b).2 (.inr hb))
  · rw [g3.block b (by omega) (fun h => ?_), h3.block b hb hn]
    rcases hS b ((k4 b).2 (.inl h)) with h | h
    · exact hn h
    · omega
theorem St.step {P Q : List Part} (h : St S0 w0 w (P ++ L)) (hk : ∀ S, Parts P w S → St S w w' Q) : St S0 w0 w' (Q ++ L) := by
  obtain ⟨S, h1, h2, h3⟩ := h
  obtain ⟨S1, S2, k1, k2, k3, k4⟩ := Parts.app.1 h1
  exact St.then h2 k1 k2 k3 k4 h3 (hk S1 k1)
end
theorem parts_one {P : Part} {w : World} {S : Nat → Prop} : Parts [P] w S ↔ P.holds w S := by
  constructor
  · rintro ⟨S1, S2, h1, h2, h3, h4⟩
    have : S = S1 := funext fun b => propext ((h4 b).trans ⟨fun h => h.elim id (fun h => absurd h (h2 b)), .inl⟩)
    rw [this]; exact h1
  · intro h; exact ⟨S, fun _ => False, h, fun _ h => h, fun _ _ h => h, fun b => ⟨.inl, fun h => h.elim id False.elim⟩⟩
theorem St.set {S0 : Nat → Prop} {w0 w : World} {L : List Part} {b : Nat} {cs : Array Value} {t : TypeId} (h : St S0 w0 w (Part.blk b (.cells cs t (0, 0)) :: L)) (i : Nat) (u : Value) : St S0 w0 (w.setCell ⟨b, i, none⟩ u) (Part.blk b (.cells (cs.setIfInBounds i u) t (0, 0)) :: L) := by
  refine h.step (P := [_]) (Q := [_]) (fun S hS => ?_)
  obtain ⟨h1, h2⟩ := parts_one.1 hS
  exact ⟨S, parts_one.2 ⟨heap_setCell_same w b i cs t u h1, h2⟩, fun b hb => .inl hb, Wrote.set w b i u ((h2 b).2 rfl)⟩
/-- A row that was appended to. -/
theorem St.append {S0 : Nat → Prop} {w0 w w' : World} {L : List Part} {e : TypeId} {s n m : Nat} {v v' : Value} {xs ys : List Value} (h : St S0 w0 w (Part.row e s v n xs :: L)) (ho : w'.ownsRow 0 e s v' m ys) (hg : (v'.ownBlock = v.ownBlock ∧ w.grownBy w' v.ownBlock) ∨ (v'.ownBlock = some w.heap.size ∧ w.grownBy w' none)) :
    St S0 w0 w' (Part.row e s v' m ys :: L) := by
  refine h.step (P := [_]) (Q := [_]) (fun S hS => ?_)
  obtain ⟨h1, h2⟩ := parts_one.1 hS
  refine ⟨fun b => v'.ownBlock = some b, parts_one.2 ⟨ho, fun _ => Iff.rfl⟩, fun b hb => ?_, ?_⟩
  · rcases hg with ⟨e, -⟩ | ⟨e, -⟩
    · exact .inl ((h2 b).2 (by rw [← e]; exact hb))
    · rw [e] at hb; cases hb; exact .inr (Nat.le_refl _)
  · rcases hg with ⟨-, g⟩ | ⟨-, g⟩
    · exact .grown g (fun k e _ => (h2 k).2 e)
    · exact .grown g (fun k e => by cases e)
theorem St.drew {S0 : Nat → Prop} {w0 w : World} {L : List Part} (h : St S0 w0 w L) : St S0 w0 w.drew L := h.up ⟨rfl, rfl, rfl, Nat.le_refl _, fun _ _ => rfl⟩
theorem St.row_new {w w' : World} {e : TypeId} {s n : Nat} {v : Value} {xs : List Value} (h : w'.ownsRow w.heap.size e s v n xs) (hb : Below w.heap.size w w') : St noB w w' [Part.row e s v n xs] :=
  ⟨fun b => v.ownBlock = some b, parts_one.2 ⟨own_base0 h, fun _ => Iff.rfl⟩, fun b hb' => .inr (h.lt b hb').1, .of_below hb⟩

/-- What a call asks for, and what it leaves: an answer, and parts. -/
def Tri (f : FuncId) (args : Array Value) (w : World) (P : List Part) (Post : Ending → List Part → Prop) : Prop :=
  ∀ S, Parts P w S → Calls Tryz.prog f args w fun e w' => ∃ Q, Post e Q ∧ St S w w' Q
theorem Tri.st {f : FuncId} {args : Array Value} {S0 : Nat → Prop} {w0 w : World} {P L : List Part} {Post : Ending → List Part → Prop} (k : Tri f args w P Post) (h : St S0 w0 w (P ++ L)) :
    Calls Tryz.prog f args w fun e w' => ∃ Q, Post e Q ∧ St S0 w0 w' (Q ++ L) := by
  obtain ⟨S, h1, h2, h3⟩ := h
  obtain ⟨S1, S2, k1, k2, k3, k4⟩ := Parts.app.1 h1
  refine (k S1 k1).mono ?_
  rintro e w' ⟨Q, g1, g2⟩
  exact ⟨Q, g1, St.then h2 k1 k2 k3 k4 h3 g2⟩
end Go.Proofs.YtboinccdnaddmaaGreatDoor
