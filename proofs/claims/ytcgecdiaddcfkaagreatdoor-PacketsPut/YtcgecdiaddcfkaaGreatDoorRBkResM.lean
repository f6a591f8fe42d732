import Derived.Test.YtcgecdiaddcfkaaGreatDoorM9
import Derived.Test.YtcgecdiaddcfkaaGreatDoorM10
/- A book's lists of results: each mark is a list of one row, in a block of its own; memory of such lists as they are filled, and grow. -/
set_option linter.unusedSimpArgs false
set_option linter.unusedVariables false
namespace Go.Proofs.YtcgecdiaddcfkaaGreatDoor
open Go.RowKit

/-- A mark of the number n: a slice of one row whose key is n's word, in a block from top on. -/
def MkR (top : Nat) (w : World) (n : Nat) (u : Value) : Prop := ∃ b, top ≤ b ∧ u = .slice (some ⟨b, 0, none⟩) 1 1 ∧ w.heap[b]? = some (.cells #[.string (wordB n), .int .u32 0] 92 (0, 0))
theorem lt_of_some {w : World} {b : Nat} {o : Obj} (h : w.heap[b]? = some o) : b < w.heap.size := by
  rcases Nat.lt_or_ge b w.heap.size with h' | h'
  · exact h'
  · rw [Array.getElem?_eq_none h'] at h; cases h
theorem MkR.lt {top n : Nat} {w : World} {u : Value} (h : MkR top w n u) : ∀ b, u.ownBlock = some b → top ≤ b ∧ b < w.heap.size := by
  obtain ⟨b, h1, rfl, h3⟩ := h
  intro c hc
  have e : b = c := by simpa [Value.ownBlock] using hc
  rw [← e]
  exact ⟨h1, lt_of_some h3⟩
theorem MkR.wrote {d : Nat → Prop} {top n : Nat} {w w' : World} {u : Value} (h : MkR top w n u) (hw : Wrote d w w') (hd : ∀ b, u.ownBlock = some b → ¬ d b) : MkR top w' n u := by
  obtain ⟨b, h1, rfl, h3⟩ := h
  exact ⟨b, h1, rfl, (hw.block b (lt_of_some h3) (hd b rfl)).trans h3⟩
theorem MkR.below {top n : Nat} {w w' : World} {u : Value} (h : MkR top w n u) (hb : Below w.heap.size w w') : MkR top w' n u := h.wrote (d := fun _ => False) (.of_below hb) (fun _ _ h => h)
theorem MkR.one {top n : Nat} {w : World} {u : Value} (h : MkR top w n u) : u.oneCell' = true := by
  obtain ⟨b, -, rfl, -⟩ := h
  rfl

structure FInR (top : Nat) (w0 w : World) (E : List Ent) (k q : Nat) : Prop where
  wrote : Wrote (LD E) w0 w
  rows : ∀ i x, E[i]? = some x → ∃ xs, w.ownsRow 0 89 1 x.l x.len xs ∧ (i < k → ∀ u ∈ xs, MkR top w x.n u) ∧ (i = k → ∀ u ∈ xs.take q, MkR top w x.n u)
theorem FInR.start {top : Nat} {w : World} {th : TypeId} {v : Value} {E : List Ent} (h : KAt w th 89 1 v E) : FInR top w w E 0 0 :=
  ⟨Wrote.refl _ _, fun i x hx => by
    obtain ⟨-, -, xs, ho⟩ := h.rows x (List.mem_of_getElem? hx)
    exact ⟨xs, ho, fun hi => absurd hi (Nat.not_lt_zero _), fun _ u hu => by simp at hu⟩⟩
theorem FInR.below {top : Nat} {w0 w w' : World} {E : List Ent} {k q : Nat} (h : FInR top w0 w E k q) (hb : Below w.heap.size w w') : FInR top w0 w' E k q :=
  ⟨h.wrote.trans (.of_below hb), fun i x hx => by
    obtain ⟨xs, ho, h1, h2⟩ := h.rows i x hx
    exact ⟨xs, own_of_block ho (fun b hb' => hb.block b (ho.lt b hb').2), fun hi u hu => (h1 hi u hu).below hb, fun hi u hu => (h2 hi u hu).below hb⟩⟩
theorem FInR.next {top : Nat} {w0 w : World} {E : List Ent} {k : Nat} {x : Ent} (h : FInR top w0 w E k x.len) (hx : E[k]? = some x) : FInR top w0 w E (k + 1) 0 :=
  ⟨h.wrote, fun i y hy => by
    obtain ⟨xs, ho, h1, h2⟩ := h.rows i y hy
    refine ⟨xs, ho, fun hi => ?_, fun _ u hu => by simp at hu⟩
    rcases Nat.lt_or_ge i k with hk | hk
    · exact h1 hk
    · have hik : i = k := by omega
      subst hik
      rw [hx] at hy
      cases hy
      have := h2 rfl
      rw [List.take_of_length_le (by rw [ho.1]; omega)] at this
      exact this⟩
theorem FInR.row {top : Nat} {w0 w : World} {E : List Ent} {k q : Nat} {x : Ent} (h : FInR top w0 w E k q) (hx : E[k]? = some x) : ∃ ao cap, x.l = .slice ao x.len cap ∧ x.len ≤ cap ∧ cap ≤ maxLen := by
  obtain ⟨xs, ho, -, -⟩ := h.rows k x hx
  exact own_len' ho
theorem mem_set_take {xs : List Value} {q : Nat} {u z : Value} (h : z ∈ (xs.set q u).take (q + 1)) : z = u ∨ z ∈ xs.take q := by
  obtain ⟨j, hj⟩ := List.getElem?_of_mem h
  rw [List.getElem?_take] at hj
  split at hj
  · rename_i hlt
    rw [List.getElem?_set] at hj
    split at hj
    · split at hj
      · left; exact (Option.some.inj hj).symm
      · cases hj
    · right
      rename_i hne
      exact List.mem_of_getElem? (i := j) (by rw [List.getElem?_take, if_pos (by omega)]; exact hj)
  · cases hj
theorem FInR.store {top : Nat} {w0 w : World} {E : List Ent} {k q : Nat} {x : Ent} (h : FInR top w0 w E k q) (hx : E[k]? = some x) (hq : q < x.len) (hlt : ∀ b, LD E b → b < top)
    (hap : ∀ (i j : Nat) (x y : Ent) (b : Nat), E[i]? = some x → E[j]? = some y → x.l.ownBlock = some b → y.l.ownBlock = some b → i = j) {u : Value} (hu : MkR top w x.n u) :
    ∃ g cap, x.l = .slice (some ⟨g, 0, none⟩) x.len cap ∧ x.len ≤ cap ∧ cap ≤ maxLen ∧ ((∃ z, w.cell? ⟨g, q, none⟩ = some z) ∧ w.frozen? ⟨g, q, none⟩ = false) ∧ LD E g ∧ FInR top w0 (w.setCell ⟨g, q, none⟩ u) E k (q + 1) := by
  obtain ⟨xs, ho, -, h2⟩ := h.rows k x hx
  obtain ⟨g, cap, hl, -, hg⟩ := ho.form (by omega)
  obtain ⟨ao, c', e', h4, h5⟩ := own_len' ho
  have hLD : LD E g := ⟨x, List.mem_of_getElem? hx, by rw [hl]; rfl⟩
  have hgt := hlt g hLD
  rw [hl] at e'
  simp only [Value.slice.injEq, true_and] at e'
  obtain ⟨-, rfl⟩ := e'
  have hxl := ho.1
  have keep : ∀ n z, MkR top w n z → MkR top (w.setCell ⟨g, q, none⟩ u) n z := fun n z hz => hz.wrote (Wrote.set (d := fun b => b = g) w g q u rfl) (fun b hb e => by have := (hz.lt b hb).1; omega)
  refine ⟨g, cap, hl, h4, h5, ⟨⟨xs[q]'(by omega), ?_⟩, ?_⟩, hLD, h.wrote.trans (Wrote.set w g q u hLD), fun i y hy => ?_⟩
  · rw [hl] at ho
    rw [ho.cellAt _ (by omega)]; simp
  · rw [hl] at ho; exact ho.frozenAt _
  · by_cases hik : i = k
    · subst hik
      rw [hx] at hy
      cases hy
      rw [hl] at ho
      refine ⟨xs.set q u, by rw [hl]; exact (ho.stored q u).1, fun hi => absurd hi (Nat.lt_irrefl _), fun _ z hz => ?_⟩
      rcases mem_set_take hz with rfl | hz
      · exact keep _ _ hu
      · exact keep _ _ (h2 rfl z hz)
    · obtain ⟨ys, hy1, hy2, hy3⟩ := h.rows i y hy
      refine ⟨ys, own_wrote (d := fun b => b = g) hy1 (Wrote.set w g q u rfl) (fun b hb e => ?_), fun hi z hz => keep _ _ (hy2 hi z hz), fun e => absurd e hik⟩
      subst e
      exact hik (hap i k y x _ hy hx hb (by rw [hl]; rfl))

/-- Filled lists of results. -/
structure FAtR (top : Nat) (w : World) (th : TypeId) (v : Value) (E : List Ent) : Prop where
  held : w.ownsRow 0 th 3 v E.length (E.flatMap entCells)
  rows : ∀ x ∈ E, x.len ≤ 1000000000 ∧ x.n ≤ 1000000000 ∧ ∃ xs, w.ownsRow 0 89 1 x.l x.len xs ∧ ∀ u ∈ xs, MkR top w x.n u
  apart : ∀ (i j : Nat) (x y : Ent) (b : Nat), E[i]? = some x → E[j]? = some y → x.l.ownBlock = some b → y.l.ownBlock = some b → i = j
  off : ∀ b, LD E b → v.ownBlock ≠ some b
  few : E.length ≤ 1000000000
  fresh : ∀ x ∈ E, x.long = .slice none 0 0
  lt : ∀ b, DD v E b → b < top
theorem FInR.fin {top : Nat} {w0 w : World} {th : TypeId} {v : Value} {E : List Ent} (h : FInR top w0 w E E.length 0) (h0 : KAt w0 th 89 1 v E) (hlt : ∀ b, DD v E b → b < top) : FAtR top w th v E :=
  ⟨own_wrote h0.held h.wrote (fun b hb hd => h0.off b hd hb), fun x hx => by
    obtain ⟨i, hi⟩ := List.getElem?_of_mem hx
    obtain ⟨xs, ho, h1, -⟩ := h.rows i x hi
    obtain ⟨g1, g2, -⟩ := h0.rows x hx
    exact ⟨g1, g2, xs, ho, h1 (List.getElem?_eq_some_iff.mp hi).1⟩, h0.apart, h0.off, h0.few, h0.fresh, hlt⟩
theorem FAtR.wrote {d : Nat → Prop} {top : Nat} {w w' : World} {th : TypeId} {v : Value} {E : List Ent} (h : FAtR top w th v E) (hw : Wrote d w w') (hd : ∀ b, DD v E b → ¬ d b) (ht : ∀ b, top ≤ b → ¬ d b) : FAtR top w' th v E :=
  ⟨own_wrote h.held hw (fun b hb => hd b (.inl hb)), fun x hx => by
    obtain ⟨h1, h2, xs, ho, hm⟩ := h.rows x hx
    exact ⟨h1, h2, xs, own_wrote ho hw (fun b hb => hd b (.inr ⟨x, hx, hb⟩)), fun u hu => (hm u hu).wrote hw (fun b hb => ht b ((hm u hu).lt b hb).1)⟩, h.apart, h.off, h.few, h.fresh, h.lt⟩

/-! How they grow. -/
abbrev oneC (u : Value) : List Value := [u]
theorem oneC_flat (us : List Value) : us.flatMap oneC = us := by induction us with
  | nil => rfl
  | cons u us ih => rw [List.flatMap_cons, ih]; rfl
theorem slp_oneC {p : Nat → Prop} {w : World} {e : TypeId} {v v' : Value} {r g : Nat} {us vs : List Value} (h : w.ownsRow 0 e 1 v' r (us ++ vs)) (hv' : v'.ownBlock = some g) (hv : ∃ cap, v = .slice (some ⟨g, 0, none⟩) us.length cap ∧ us.length ≤ cap ∧ cap ≤ maxLen) (hp : p g) : SlP p 1 oneC w v us := by
  obtain ⟨cap, rfl, h1, h2⟩ := hv
  refine ⟨_, cap, rfl, h1, h2, fun h0 => ⟨g, 0, rfl, hp, (h.lt g hv').2, fun i hi j u hu => ?_⟩⟩
  have hj : j = 0 := by
    rcases Nat.eq_zero_or_pos j with h' | h'
    · exact h'
    · rw [List.getElem?_eq_none (by show 1 ≤ j; omega)] at hu; cases hu
  subst hj
  have hu' : us[i]'hi = u := by simpa using hu
  have := h.cells hv' i u (by rw [List.getElem?_append_left hi, List.getElem?_eq_getElem hi, hu'])
  rw [Addr.add_lit] at this
  simpa using this
theorem slp_own1 {p : Nat → Prop} {w : World} {e : TypeId} {v : Value} {us : List Value} {q : Nat} (h : w.ownsRow 0 e 1 v q us) (hp : ∀ b, v.ownBlock = some b → p b) : SlP p 1 oneC w v us := by
  have hl : us.length = q := by have := h.1; omega
  subst hl
  rcases h.2 with ⟨rfl, h0⟩ | ⟨g, cap, cur, rfl, -, hg, h4, h5, -⟩
  · exact ⟨none, 0, by rw [h0], by omega, Nat.zero_le _, fun hp => by omega⟩
  · exact slp_oneC (vs := []) (g := g) (by rw [List.append_nil]; exact h) rfl ⟨cap, rfl, h4, h5⟩ (hp g rfl)
/-- While the copy of the list x grows. -/
structure LInR (top : Nat) (wr w : World) (x : Ent) (us vs : List Value) (long : Value) : Prop where
  wrote : Wrote (fun b => x.l.ownBlock = some b) wr w
  own : w.ownsRow 0 89 1 long (x.len + vs.length) (us ++ vs)
  mark : ∀ u ∈ us ++ vs, MkR top w x.n u ∧ ∀ b, u.ownBlock = some b → long.ownBlock ≠ some b
  lies : ∀ b, long.ownBlock = some b → x.l.ownBlock = some b ∨ wr.heap.size ≤ b
  row : SlP (fun b => x.l.ownBlock = some b) 1 oneC w x.l us
theorem LInR.start {top : Nat} {w : World} {x : Ent} {us : List Value} (h : w.ownsRow 0 89 1 x.l x.len us) (hu : ∀ u ∈ us, MkR top w x.n u) (hlt : ∀ b, x.l.ownBlock = some b → b < top) : LInR top w w x us [] x.l :=
  ⟨Wrote.refl _ _, by rw [List.append_nil]; exact h, fun u hu' => by
    rw [List.append_nil] at hu'
    exact ⟨hu u hu', fun b h1 h2 => by have := ((hu u hu').lt b h1).1; have := hlt b h2; omega⟩, fun b hb => .inl hb, slp_own1 h (fun b hb => hb)⟩
theorem LInR.below {top : Nat} {wr w w' : World} {x : Ent} {us vs : List Value} {long : Value} (h : LInR top wr w x us vs long) (hb : Below w.heap.size w w') : LInR top wr w' x us vs long :=
  ⟨h.wrote.trans (.of_below hb), own_of_block h.own (fun b hb' => hb.block b (h.own.lt b hb').2), fun u hu => ⟨(h.mark u hu).1.below hb, (h.mark u hu).2⟩, h.lies, h.row.wrote (d := fun _ => False) (.of_below hb) (fun _ _ _ h => h)⟩
theorem LInR.app {top : Nat} {wr w w' : World} {x : Ent} {us vs : List Value} {long v' u : Value} (h : LInR top wr w x us vs long) (hul : us.length = x.len) (hl : ∀ ao len cap, x.l = .slice ao len cap → ao = none ∨ ∃ g, ao = some ⟨g, 0, none⟩) (hu : MkR top w x.n u) (hn : ∀ b, u.ownBlock = some b → long.ownBlock ≠ some b)
    (ho : w'.ownsRow 0 89 1 v' (x.len + vs.length + 1) (us ++ vs ++ [u])) (hg : (v'.ownBlock = long.ownBlock ∧ w.grownBy w' long.ownBlock) ∨ (v'.ownBlock = some w.heap.size ∧ w.grownBy w' none)) : LInR top wr w' x us (vs ++ [u]) v' := by
  have hz := h.wrote.size
  have mk : ∀ z ∈ us ++ (vs ++ [u]), MkR top w x.n z ∧ ∀ b, z.ownBlock = some b → long.ownBlock ≠ some b := fun z hz' => by
    rw [← List.append_assoc] at hz'
    rcases List.mem_append.mp hz' with hz' | hz'
    · exact h.mark z hz'
    · rw [List.mem_singleton] at hz'; subst hz'; exact ⟨hu, hn⟩
  have ho' : w'.ownsRow 0 89 1 v' (x.len + (vs ++ [u]).length) (us ++ (vs ++ [u])) := by
    rw [List.length_append, List.length_singleton, ← List.append_assoc]; exact ho
  rcases hg with ⟨g1, g2⟩ | ⟨g1, g2⟩
  · have W2 : Wrote (fun b => long.ownBlock = some b) w w' := .grown g2 (fun k e _ => e)
    refine ⟨⟨g2.os.trans h.wrote.os, g2.tape.trans h.wrote.tape, g2.output.trans h.wrote.output, Nat.le_trans hz g2.size, fun k hk hn => ?_⟩, ho', fun z hz' => ⟨(mk z hz').1.wrote W2 (fun b hb => (mk z hz').2 b hb), fun b hb => by rw [g1]; exact (mk z hz').2 b hb⟩, fun b hb => h.lies b (by rw [← g1]; exact hb), ?_⟩
    · rw [g2.block k (by omega) (fun e => ?_)]
      · exact h.wrote.block k hk hn
      · rcases h.lies k e.symm with h1 | h1
        · exact hn h1
        · omega
    · by_cases hsame : ∃ g, x.l.ownBlock = some g ∧ long.ownBlock = some g
      · obtain ⟨g, hg1, hg2⟩ := hsame
        obtain ⟨ao, cap, e1, e2, e3, -⟩ := h.row
        have : ao = some ⟨g, 0, none⟩ := by
          rw [e1] at hg1
          rcases hl ao _ cap e1 with h0 | ⟨g', h0⟩
          · rw [h0] at hg1; cases hg1
          · rw [h0] at hg1 ⊢
            have : g' = g := by simpa [Value.ownBlock] using hg1
            rw [this]
        exact slp_oneC (g := g) (vs := vs ++ [u]) ho' (by rw [g1]; exact hg2) ⟨cap, by rw [e1, this], e2, e3⟩ hg1
      · exact h.row.wrote (d := fun b => long.ownBlock = some b) W2 (fun b hb _ hd => hsame ⟨b, hb, hd⟩)
  · have W2 : Wrote (fun _ => False) w w' := .grown g2 (fun k e => by cases e)
    refine ⟨⟨g2.os.trans h.wrote.os, g2.tape.trans h.wrote.tape, g2.output.trans h.wrote.output, Nat.le_trans hz g2.size, fun k hk hn => ?_⟩, ho', fun z hz' => ⟨(mk z hz').1.wrote W2 (fun _ _ h => h), fun b hb e => ?_⟩, fun b hb => ?_, h.row.wrote (d := fun _ => False) W2 (fun _ _ _ h => h)⟩
    · rw [g2.block k (by omega) (by simp)]
      exact h.wrote.block k hk hn
    · rw [g1] at e
      have := ((mk z hz').1.lt b hb).2
      have e' : w.heap.size = b := Option.some.inj e
      omega
    · rw [g1] at hb
      cases hb
      exact .inr hz

/-- A list of results that grew, and what grew of it. -/
def DoneR (top : Nat) (w : World) (x : Ent) : Prop :=
  ∃ us vs, us.length = x.len ∧ vs.length = 40 ∧ SlP (fun b => x.l.ownBlock = some b) 1 oneC w x.l us ∧ SlP (fun b => x.l.ownBlock = some b ∨ top ≤ b) 1 oneC w x.long (us ++ vs) ∧ ∀ u ∈ us ++ vs, MkR top w x.n u
theorem DoneR.wrote {d : Nat → Prop} {top : Nat} {w w' : World} {x : Ent} (h : DoneR top w x) (hw : Wrote d w w') (h1 : ∀ b, x.l.ownBlock = some b → ¬ d b) (h2 : ∀ b, top ≤ b → ¬ d b) : DoneR top w' x := by
  obtain ⟨us, vs, a1, a2, a3, a4, a5⟩ := h
  exact ⟨us, vs, a1, a2, a3.wrote hw (fun b hb _ => h1 b hb), a4.wrote hw (fun b hb _ => by rcases hb with hb | hb; exact h1 b hb; exact h2 b hb), fun u hu => (a5 u hu).wrote hw (fun b hb => h2 b ((a5 u hu).lt b hb).1)⟩
structure GInR (top : Nat) (w0 w : World) (th : TypeId) (v : Value) (E E' : List Ent) (k : Nat) : Prop where
  wrote : Wrote (DD v E) w0 w
  same : E'.map (fun x => (x.l, x.len, x.n)) = E.map (fun x => (x.l, x.len, x.n))
  held : w.ownsRow 0 th 3 v E'.length (E'.flatMap entCells)
  past : ∀ i x, i < k → E'[i]? = some x → DoneR top w x
  rest : ∀ i x, k ≤ i → E'[i]? = some x → ∃ us, w.ownsRow 0 89 1 x.l x.len us ∧ ∀ u ∈ us, MkR top w x.n u
  fresh : ∀ i x, k ≤ i → E'[i]? = some x → x.long = .slice none 0 0
theorem GInR.start {top : Nat} {w : World} {th : TypeId} {v : Value} {E : List Ent} (h : FAtR top w th v E) : GInR top w w th v E E 0 :=
  ⟨Wrote.refl _ _, rfl, h.held, fun i x hi => absurd hi (Nat.not_lt_zero _), fun i x _ hx => (h.rows x (List.mem_of_getElem? hx)).2.2, fun i x _ hx => h.fresh x (List.mem_of_getElem? hx)⟩
theorem GInR.below {top : Nat} {w0 w w' : World} {th : TypeId} {v : Value} {E E' : List Ent} {k : Nat} (h : GInR top w0 w th v E E' k) (hb : Below w.heap.size w w') : GInR top w0 w' th v E E' k :=
  ⟨h.wrote.trans (.of_below hb), h.same, own_of_block h.held (fun b hb' => hb.block b (h.held.lt b hb').2), fun i x hi hx => (h.past i x hi hx).wrote (d := fun _ => False) (.of_below hb) (fun _ _ h => h) (fun _ _ h => h),
   fun i x hi hx => by
    obtain ⟨us, h1, h2⟩ := h.rest i x hi hx
    exact ⟨us, own_of_block h1 (fun b hb' => hb.block b (h1.lt b hb').2), fun u hu => (h2 u hu).below hb⟩, h.fresh⟩
theorem held_set {w : World} {th : TypeId} {v long : Value} {E' : List Ent} {k g cap : Nat} {x : Ent} (hx : E'[k]? = some x) (hv : v = .slice (some ⟨g, 0, none⟩) E'.length cap) (hheld : w.ownsRow 0 th 3 v E'.length (E'.flatMap entCells)) :
    (w.setCell ⟨g, k * 3 + 1, none⟩ long).ownsRow 0 th 3 v (E'.set k { x with long := long }).length ((E'.set k { x with long := long }).flatMap entCells) := by
  have hk : k < E'.length := (List.getElem?_eq_some_iff.mp hx).1
  have e1 : (E'.set k { x with long := long }).flatMap entCells = (E'.flatMap entCells).set (k * 3 + 1) long := by
    apply List.ext_getElem?
    intro i
    rw [List.getElem?_set, entCells_len]
    have hi3 : ∃ a j, j < 3 ∧ i = a * 3 + j := ⟨i / 3, i % 3, by omega, by omega⟩
    obtain ⟨a, j, hj, rfl⟩ := hi3
    by_cases ha : a < E'.length
    · have g1 := entCells_get E' a (E'[a]'ha) (by simp [ha])
      have hset : (E'.set k { x with long := long })[a]? = some (if a = k then { x with long := long } else E'[a]'ha) := by
        rw [List.getElem?_set]
        by_cases hak : a = k
        · subst hak; simp [hk]
        · rw [if_neg (fun e => hak e.symm), if_neg hak]; simp [ha]
      have g2 := entCells_get _ a _ hset
      by_cases hak : a = k
      · subst hak
        have hxa : E'[a]'ha = x := by have := hx; rw [List.getElem?_eq_getElem ha] at this; simpa using this
        rw [hxa] at g1
        simp only [if_true] at g2
        match j, hj with
        | 0, _ => rw [g2 0 _ rfl, if_neg (by omega), g1 0 _ rfl]
        | 1, _ => rw [g2 1 _ rfl, if_pos rfl, if_pos (by omega)]
        | 2, _ => rw [g2 2 _ rfl, if_neg (by omega), g1 2 _ rfl]
      · rw [if_neg hak] at g2
        rw [if_neg (by omega)]
        match j, hj with
        | 0, _ => rw [g2 0 _ rfl, g1 0 _ rfl]
        | 1, _ => rw [g2 1 _ rfl, g1 1 _ rfl]
        | 2, _ => rw [g2 2 _ rfl, g1 2 _ rfl]
    · rw [if_neg (by omega), List.getElem?_eq_none (by rw [entCells_len, List.length_set]; omega), List.getElem?_eq_none (by rw [entCells_len]; omega)]
  rw [e1, List.length_set]
  rw [hv] at hheld ⊢
  exact (hheld.stored _ _).1
theorem GInR.store {top : Nat} {w0 wr w : World} {th : TypeId} {v long : Value} {E E' : List Ent} {k g cap : Nat} {x : Ent} {us vs : List Value} (h : GInR top w0 wr th v E E' k) (hx : E'[k]? = some x) (h0 : FAtR top w0 th v E) (htop : top ≤ w0.heap.size)
    (hv : v = .slice (some ⟨g, 0, none⟩) E'.length cap) (hul : us.length = x.len) (hvl : vs.length = 40) (hL : LInR top wr w x us vs long) : GInR top w0 (w.setCell ⟨g, k * 3 + 1, none⟩ long) th v E (E'.set k { x with long := long }) (k + 1) := by
  have hk : k < E'.length := (List.getElem?_eq_some_iff.mp hx).1
  obtain ⟨y, hy, ey1, ey2, ey3⟩ := same_get h.same hx
  have hvb : v.ownBlock = some g := by rw [hv]; rfl
  have hgE : ¬ LD E g := fun hd => h0.off g hd hvb
  have hlx : ∀ b, x.l.ownBlock = some b → LD E b := fun b hb => ⟨y, List.mem_of_getElem? hy, by rw [ey1]; exact hb⟩
  have hgt : g < top := h0.lt g (.inl hvb)
  have hz0 := h.wrote.size
  have apart : ∀ i z b, i ≠ k → E'[i]? = some z → z.l.ownBlock = some b → x.l.ownBlock ≠ some b := fun i z b hi hz hb hb' => by
    obtain ⟨y', hy', e1, -, -⟩ := same_get h.same hz
    exact hi (h0.apart i k y' y b hy' hy (by rw [e1]; exact hb) (by rw [ey1]; exact hb'))
  have W1 : Wrote (fun b => x.l.ownBlock = some b ∨ b = g) wr (w.setCell ⟨g, k * 3 + 1, none⟩ long) := (hL.wrote.weak (fun _ _ h => .inl h)).trans (Wrote.set w g _ long (.inr rfl))
  have hheld : w.ownsRow 0 th 3 v E'.length (E'.flatMap entCells) := own_wrote h.held hL.wrote (fun b hb hd => h0.off b (hlx b hd) hb)
  have top_of : ∀ b, top ≤ b → ¬ (x.l.ownBlock = some b ∨ b = g) := fun b hb hd => by
    rcases hd with hd | hd
    · have := h0.lt b (.inr (hlx b hd)); omega
    · omega
  refine ⟨h.wrote.trans (W1.weak (fun b _ hd => ?_)), ?_, held_set hx hv hheld, fun i z hi hz => ?_, fun i z hi hz => ?_, fun i z hi hz => ?_⟩
  · rcases hd with hd | hd
    · exact .inr (hlx b hd)
    · exact .inl (by rw [hd]; exact hvb)
  · rw [← h.same, List.map_set]
    apply List.ext_getElem?
    intro i
    rw [List.getElem?_set]
    split
    · rename_i e'; subst e'
      simp [hx]
      omega
    · rfl
  · by_cases hik : i = k
    · subst hik
      rw [List.getElem?_set] at hz
      simp [hk] at hz
      subst hz
      have hxg : ∀ b, x.l.ownBlock = some b → ¬ b = g := fun b hb e => hgE (by rw [← e]; exact hlx b hb)
      refine ⟨us, vs, hul, hvl, hL.row.wrote (d := fun b => b = g) (Wrote.set w g _ long rfl) (fun b hb _ => hxg b hb), ?_, fun u hu => (hL.mark u hu).1.wrote (d := fun b => b = g) (Wrote.set w g _ long rfl) (fun b hb e => by have := ((hL.mark u hu).1.lt b hb).1; omega)⟩
      have s1 : SlP (fun b => x.l.ownBlock = some b ∨ top ≤ b) 1 oneC w long (us ++ vs) := slp_own1 hL.own (fun b hb => by
        rcases hL.lies b hb with h1 | h1
        · exact .inl h1
        · exact .inr (by omega))
      exact s1.wrote (d := fun b => b = g) (Wrote.set w g _ long rfl) (fun b hb _ e => by
        rcases hb with hb | hb
        · exact hxg b hb e
        · omega)
    · rw [List.getElem?_set, if_neg (fun e => hik e.symm)] at hz
      refine (h.past i z (by omega) hz).wrote W1 (fun b hb hd => ?_) top_of
      rcases hd with hd | hd
      · exact apart i z b hik hz hb hd
      · obtain ⟨y', hy', e1, -, -⟩ := same_get h.same hz
        exact hgE (by rw [← hd]; exact ⟨y', List.mem_of_getElem? hy', by rw [e1]; exact hb⟩)
  · have hik : i ≠ k := by omega
    rw [List.getElem?_set, if_neg (fun e => hik e.symm)] at hz
    obtain ⟨us', h1, h2⟩ := h.rest i z (by omega) hz
    refine ⟨us', own_wrote h1 W1 (fun b hb hd => ?_), fun u hu => (h2 u hu).wrote W1 (fun b hb => top_of b ((h2 u hu).lt b hb).1)⟩
    rcases hd with hd | hd
    · exact apart i z b hik hz hb hd
    · obtain ⟨y', hy', e1, -, -⟩ := same_get h.same hz
      exact hgE (by rw [← hd]; exact ⟨y', List.mem_of_getElem? hy', by rw [e1]; exact hb⟩)
  · have hik : i ≠ k := by omega
    rw [List.getElem?_set, if_neg (fun e => hik e.symm)] at hz
    exact h.fresh i z (by omega) hz
/-- Lists of results that grew. -/
structure GAtR (top : Nat) (w : World) (th : TypeId) (v : Value) (E : List Ent) : Prop where
  held : w.ownsRow 0 th 3 v E.length (E.flatMap entCells)
  done : ∀ x ∈ E, DoneR top w x ∧ x.len ≤ 1000000000 ∧ x.n ≤ 1000000000
  few : E.length ≤ 1000000000
theorem GInR.fin {top : Nat} {w0 w : World} {th : TypeId} {v : Value} {E E' : List Ent} (h : GInR top w0 w th v E E' E'.length) (h0 : FAtR top w0 th v E) : GAtR top w th v E' :=
  ⟨h.held, fun x hx => by
    obtain ⟨i, hi⟩ := List.getElem?_of_mem hx
    obtain ⟨y, hy, -, e2, e3⟩ := same_get h.same hi
    obtain ⟨g1, g2, -⟩ := h0.rows y (List.mem_of_getElem? hy)
    exact ⟨h.past i x (List.getElem?_eq_some_iff.mp hi).1 hi, by rw [← e2]; exact g1, by rw [← e3]; exact g2⟩, by rw [same_len h.same]; exact h0.few⟩
theorem GAtR.wrote {d : Nat → Prop} {top : Nat} {w w' : World} {th : TypeId} {v : Value} {E : List Ent} (h : GAtR top w th v E) (hw : Wrote d w w') (hd : ∀ b, DD v E b → ¬ d b) (ht : ∀ b, top ≤ b → ¬ d b) : GAtR top w' th v E :=
  ⟨own_wrote h.held hw (fun b hb => hd b (.inl hb)), fun x hx => ⟨(h.done x hx).1.wrote hw (fun b hb => hd b (.inr ⟨x, hx, hb⟩)) ht, (h.done x hx).2⟩, h.few⟩
end Go.Proofs.YtcgecdiaddcfkaaGreatDoor
