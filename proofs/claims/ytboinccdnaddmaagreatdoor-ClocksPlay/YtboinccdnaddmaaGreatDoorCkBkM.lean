import Derived.Test.YtboinccdnaddmaaGreatDoorCkRTickM
import Derived.Test.YtboinccdnaddmaaGreatDoorIBiIs
/- A book of ids as a part of memory; how the two clocks agree. -/
set_option linter.unusedSimpArgs false
set_option linter.unusedVariables false
set_option maxRecDepth 1000000
namespace Go.Proofs.YtboinccdnaddmaaGreatDoor
open Go.RowKit Go.Maps

theorem KAt.loc {w w' : World} {th e : TypeId} {s : Nat} {v : Value} {E : List Ent} (h : KAt w th e s v E) (hb : ∀ b, DD v E b → w'.heap[b]? = w.heap[b]?) : KAt w' th e s v E :=
  ⟨own_of_block h.held (fun b e => hb b (.inl e)), fun x hx => by obtain ⟨a1, a2, ys, a3⟩ := h.rows x hx; exact ⟨a1, a2, ys, own_of_block a3 (fun b e => hb b (.inr ⟨x, hx, e⟩))⟩, h.apart, h.off, h.few, h.fresh⟩
/-- A book of ids. -/
def bkP (bk n : Nat) : Part where
  holds w S := ∃ v E, BkB w bk n v E ∧ ∀ b, S b ↔ BkS bk v E b
  lt := fun w S ⟨v, E, I, hS⟩ b hb => I.lt b ((hS b).1 hb)
  loc := fun w w' S ⟨v, E, I, hS⟩ hb => ⟨v, E, ⟨(hb bk ((hS bk).2 (.inl rfl))).trans I.hB, I.k.loc (fun b h => hb b ((hS b).2 (.inr h))), I.nb, I.f⟩, hS⟩
section
variable {S0 : Nat → Prop} {w0 w w' : World} {L : List Part} {bk n : Nat}
theorem bk_new (h : St S0 w0 w L) : St S0 w0 (w.alloc (.cells #[.int .i64 0, .slice none 0 0, .slice none 0 0, .slice none 0 0, .slice none 0 0, .slice none 0 0, .slice none 0 0, .slice none 0 0, .slice none 0 0, .slice none 0 0, .slice none 0 0, .slice none 0 0, .slice none 0 0] 42)) (bkP w.heap.size 0 :: L) :=
  h.more (Q := [bkP w.heap.size 0]) (T := BkS w.heap.size (.slice none 0 0) []) (below_one w _) (parts_one.2 ⟨_, _, BkB.new w, fun _ => Iff.rfl⟩) (fun b hb => by
    rcases hb with rfl | hb | ⟨y, hy, -⟩
    · exact Nat.le_refl _
    · cases hb
    · cases hy)
theorem bk_keep {v : Value} {ys : List Nat} (h : St S0 w0 w (idsP v ys :: bkP bk n :: L)) (hn : n ≤ 100000) (hy : ys.length ≤ 1000000000) :
    Calls Tryz.prog 12 #[ptr bk, v] w fun e w' => e = .returned (.tuple #[]) ∧ St S0 w0 w' (bkP bk (n + 1) :: L) := by
  obtain ⟨S, h1, h2, h3⟩ := h
  obtain ⟨S1, S2, k1, k2, k3, k4⟩ := (Parts.app (L := [idsP v ys, bkP bk n]) (L' := L)).1 h1
  have k1' := k1
  obtain ⟨T1, T2, m1, m2, m3, m4⟩ := k1
  obtain ⟨vb, E, I, hS⟩ := parts_one.1 m2
  obtain ⟨own, hT⟩ := m1
  obtain ⟨al, cl, hv, -⟩ := row_form own
  subst hv
  refine (keepB I hn own hy (fun b e hb => m3 b ((hT b).2 e) ((hS b).2 hb))).mono ?_
  rintro e w' ⟨rfl, v', E', kb, kw, ks⟩
  refine ⟨rfl, St.then h2 k1' k2 k3 k4 h3 (Q := [bkP bk (n + 1)]) ⟨BkS bk v' E', parts_one.2 ⟨v', E', kb, fun _ => Iff.rfl⟩, fun b hb => ?_, kw.weak (fun b _ hb => (m4 b).2 (.inr ((hS b).2 hb)))⟩⟩
  rcases ks b hb with q | q | q
  · exact .inl ((m4 b).2 (.inr ((hS b).2 q)))
  · exact .inl ((m4 b).2 (.inl ((hT b).2 q)))
  · exact .inr q
theorem bk_apart (h : St noB w0 w (bkP bk n :: L)) : Calls Tryz.prog 15 #[ptr bk] w fun e w' => e = .returned (.bool true) ∧ Below w0.heap.size w0 w' := by
  have hb := h.below
  obtain ⟨S, h1, h2, h3⟩ := h
  obtain ⟨S1, S2, k1, k2, k3, k4⟩ := h1
  obtain ⟨v, E, I, hS⟩ := k1
  exact apartB I hb (fun b hb => by
    rcases h2 b ((k4 b).2 (.inl ((hS b).2 hb))) with q | q
    · exact q.elim
    · exact q)
end

/-- The two clocks agree. -/
structure Agree (now : Nat) (f : Nat → Option Nat) (l : List (Nat × Nat)) : Prop where
  asc : l.Pairwise (fun a b => a.1 < b.1)
  ok : ∀ x ∈ l, x.1 < 4294967296 ∧ 1 ≤ x.2 ∧ x.2 ≤ 1073741824
  same : ∀ id t, f id = some t ↔ ∃ x ∈ l, x.1 = id ∧ t = now + x.2
theorem Agree.start : Agree 0 noneD [] := ⟨List.Pairwise.nil, fun x h => (by cases h), fun id t => ⟨fun h => (by cases h), fun ⟨x, h, _⟩ => (by cases h)⟩⟩
section
variable {now : Nat} {f : Nat → Option Nat} {l l' : List (Nat × Nat)}
theorem Agree.near (h : Agree now f l) (hn : now ≤ 1000) : Near f := fun j t hj => by
  obtain ⟨x, hx, rfl, rfl⟩ := (h.same j t).1 hj
  have := h.ok x hx; omega
theorem Agree.nobody (h : Agree now f l) {id : Nat} (hn : ∀ x ∈ l, x.1 ≠ id) : f id = none := by
  cases q : f id with
  | none => rfl
  | some t => obtain ⟨x, hx, e, -⟩ := (h.same id t).1 q; exact absurd e (hn x hx)
theorem Agree.uniq (h : Agree now f l) {x y : Nat × Nat} (hx : x ∈ l) (hy : y ∈ l) (e : x.1 = y.1) : x = y := by
  have h1 := (h.same x.1 (now + x.2)).2 ⟨x, hx, rfl, rfl⟩
  have h2 := (h.same x.1 (now + y.2)).2 ⟨y, hy, e.symm, rfl⟩
  rw [h1] at h2
  simp only [Option.some.injEq] at h2
  exact Prod.ext e (by omega)
theorem asc_idx (h : l.Pairwise (fun a b => a.1 < b.1)) {i j : Nat} {x y : Nat × Nat} (hi : l[i]? = some x) (hj : l[j]? = some y) (hij : i < j) : x.1 < y.1 := by
  obtain ⟨h1, e1⟩ := List.getElem?_eq_some_iff.1 hi
  obtain ⟨h2, e2⟩ := List.getElem?_eq_some_iff.1 hj
  have := List.pairwise_iff_getElem.1 h i j h1 h2 hij
  rw [e1, e2] at this
  exact this
theorem Agree.del (h : Agree now f l) {id : Nat} (hd : Del l id l') : Agree now (updF f id none) l' ∧ ∀ x ∈ l', x.1 ≠ id := by
  rcases hd with ⟨rfl, hn⟩ | ⟨k, x, hk, he, rfl⟩
  · rw [updF_eq f id Option.none (h.nobody hn)]; exact ⟨h, hn⟩
  · have hm : ∀ y, y ∈ l.take k ++ l.drop (k + 1) ↔ y ∈ l ∧ y.1 ≠ id := fun y => by
      rw [← List.eraseIdx_eq_take_drop_succ, List.mem_eraseIdx_iff_getElem?]
      constructor
      · rintro ⟨i, hi, hy⟩
        refine ⟨List.mem_of_getElem? hy, fun e => ?_⟩
        rcases Nat.lt_or_gt_of_ne hi with q | q
        · have := asc_idx h.asc hy hk q; omega
        · have := asc_idx h.asc hk hy q; omega
      · rintro ⟨hy, hne⟩
        obtain ⟨i, hi⟩ := List.getElem?_of_mem hy
        exact ⟨i, fun e => by subst e; rw [hk] at hi; cases hi; exact hne he, hi⟩
    refine ⟨⟨?_, fun y hy => h.ok y ((hm y).1 hy).1, fun j t => ?_⟩, fun y hy => ((hm y).1 hy).2⟩
    · rw [← List.eraseIdx_eq_take_drop_succ]
      exact h.asc.sublist (List.eraseIdx_sublist ..)
    · by_cases e : j = id
      · subst e; rw [updF_same]
        exact ⟨fun q => (by cases q), fun ⟨y, hy, e, _⟩ => absurd e ((hm y).1 hy).2⟩
      · rw [updF_other _ _ e, h.same]
        constructor
        · rintro ⟨y, hy, e1, e2⟩; exact ⟨y, (hm y).2 ⟨hy, by omega⟩, e1, e2⟩
        · rintro ⟨y, hy, e1, e2⟩; exact ⟨y, ((hm y).1 hy).1, e1, e2⟩
theorem Agree.put (h : Agree now f l) {id t k : Nat} (hid : id < 4294967296) (h1 : 1 ≤ t) (h2 : t ≤ 1073741824) (hn : ∀ x ∈ l, x.1 ≠ id) (ha : ∀ j x, j < k → l[j]? = some x → x.1 < id) (hb : ∀ x, l[k]? = some x → ¬ x.1 < id) (hk : k ≤ l.length) :
    Agree now (updF f id (some (now + t))) (l.take k ++ [(id, t)] ++ l.drop k) := by
  have hm : ∀ y, y ∈ l.take k ++ [(id, t)] ++ l.drop k ↔ y = (id, t) ∨ y ∈ l := fun y => by
    have : y ∈ l ↔ y ∈ l.take k ∨ y ∈ l.drop k := by rw [← List.mem_append, List.take_append_drop]
    rw [this]
    simp only [List.mem_append, List.mem_singleton]
    constructor
    · rintro ((q | q) | q)
      · exact .inr (.inl q)
      · exact .inl q
      · exact .inr (.inr q)
    · rintro (q | q | q)
      · exact .inl (.inr q)
      · exact .inl (.inl q)
      · exact .inr q
  have hlo : ∀ y ∈ l.take k, y.1 < id := fun y hy => by
    obtain ⟨i, hi⟩ := List.getElem?_of_mem hy
    rw [List.getElem?_take] at hi
    split at hi
    · exact ha i y (by assumption) hi
    · cases hi
  have hhi : ∀ y ∈ l.drop k, id < y.1 := fun y hy => by
    obtain ⟨i, hi⟩ := List.getElem?_of_mem hy
    rw [List.getElem?_drop] at hi
    have hne := hn y (List.mem_of_getElem? hi)
    rcases Nat.eq_zero_or_pos i with e | e
    · subst e
      have := hb y hi
      omega
    · have hlt : k < l.length := by
        have := (List.getElem?_eq_some_iff.1 hi).1; omega
      have h0 : l[k]? = some l[k] := List.getElem?_eq_getElem hlt
      have q1 := hb _ h0
      have q2 := asc_idx h.asc h0 hi (by omega)
      omega
  refine ⟨?_, fun y hy => ?_, fun j u => ?_⟩
  · rw [List.append_assoc, List.pairwise_append]
    refine ⟨h.asc.sublist (List.take_sublist ..), ?_, fun a ha' b hb' => ?_⟩
    · rw [List.singleton_append, List.pairwise_cons]
      exact ⟨fun y hy => hhi y hy, h.asc.sublist (List.drop_sublist ..)⟩
    · have q := hlo a ha'
      rcases List.mem_append.1 hb' with e | e
      · rw [List.mem_singleton.1 e]; exact q
      · have := hhi b e; omega
  · rcases (hm y).1 hy with rfl | hy
    · exact ⟨hid, h1, h2⟩
    · exact h.ok y hy
  · by_cases e : j = id
    · subst e; rw [updF_same]
      constructor
      · intro q; simp only [Option.some.injEq] at q; exact ⟨(j, t), (hm _).2 (.inl rfl), rfl, q.symm⟩
      · rintro ⟨y, hy, e1, e2⟩
        rcases (hm y).1 hy with rfl | hy
        · rw [e2]
        · exact absurd e1 (hn y hy)
    · rw [updF_other _ _ e, h.same]
      constructor
      · rintro ⟨y, hy, e1, e2⟩; exact ⟨y, (hm y).2 (.inr hy), e1, e2⟩
      · rintro ⟨y, hy, e1, e2⟩
        rcases (hm y).1 hy with rfl | hy
        · exact absurd e1.symm e
        · exact ⟨y, hy, e1, e2⟩
theorem toldR_mem (l : List (Nat × Nat)) (id : Nat) : id ∈ toldR l ↔ ∃ x ∈ l, x.1 = id ∧ x.2 = 1 := by
  unfold toldR
  simp only [List.mem_map, List.mem_filter, decide_eq_true_eq]
  constructor
  · rintro ⟨x, ⟨h1, h2⟩, h3⟩; exact ⟨x, h1, h3, h2⟩
  · rintro ⟨x, h1, h3, h2⟩; exact ⟨x, ⟨h1, h2⟩, h3⟩
theorem Agree.told (h : Agree now f l) : (toldR l).Pairwise (· < ·) ∧ ∀ id, f id = some (now + 1) ↔ id ∈ toldR l := by
  refine ⟨?_, fun id => ?_⟩
  · unfold toldR
    exact List.pairwise_map.2 (h.asc.sublist List.filter_sublist)
  · rw [toldR_mem, h.same]
    constructor
    · rintro ⟨x, h1, h2, h3⟩; exact ⟨x, h1, h2, by omega⟩
    · rintro ⟨x, h1, h2, h3⟩; exact ⟨x, h1, h2, by omega⟩
theorem restR_mem (l : List (Nat × Nat)) (y : Nat × Nat) : y ∈ restR l ↔ ∃ x ∈ l, x.2 ≠ 1 ∧ y = (x.1, x.2 - 1) := by
  unfold restR
  simp only [List.mem_map, List.mem_filter, decide_eq_true_eq]
  constructor
  · rintro ⟨x, ⟨h1, h2⟩, h3⟩; exact ⟨x, h1, h2, h3.symm⟩
  · rintro ⟨x, h1, h2, h3⟩; exact ⟨x, ⟨h1, h2⟩, h3.symm⟩
theorem Agree.tick (h : Agree now f l) : Agree (now + 1) (tickF f (now + 1)) (restR l) := by
  refine ⟨?_, fun y hy => ?_, fun j t => ?_⟩
  · unfold restR
    exact List.pairwise_map.2 (h.asc.sublist List.filter_sublist)
  · obtain ⟨x, hx, hne, rfl⟩ := (restR_mem l y).1 hy
    have := h.ok x hx
    exact ⟨this.1, by show 1 ≤ x.2 - 1; omega, by show x.2 - 1 ≤ _; omega⟩
  · have e : tickF f (now + 1) j = some t ↔ f j = some t ∧ t ≠ now + 1 := by
      unfold tickF
      by_cases q : f j = some (now + 1)
      · rw [if_pos q, q]; simp; intro e1; omega
      · rw [if_neg q]
        exact ⟨fun h => ⟨h, fun e => q (by rw [h, e])⟩, fun h => h.1⟩
    rw [e, h.same]
    constructor
    · rintro ⟨⟨x, h1, h2, h3⟩, h4⟩
      have := h.ok x h1
      exact ⟨(x.1, x.2 - 1), (restR_mem l _).2 ⟨x, h1, by omega, rfl⟩, h2, by show t = now + 1 + (x.2 - 1); omega⟩
    · rintro ⟨y, hy, h2, h3⟩
      obtain ⟨x, hx, hne, rfl⟩ := (restR_mem l y).1 hy
      have := h.ok x hx
      have h3' : t = now + 1 + (x.2 - 1) := h3
      exact ⟨⟨x, hx, h2, by omega⟩, by omega⟩
end
end Go.Proofs.YtboinccdnaddmaaGreatDoor
