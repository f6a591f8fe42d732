/- Memory that a book of lists holds, while lists are put behind; what a book is told. No walk is here. -/
import Derived.Test.YtboinccdnaddmaaGreatDoorBBook
set_option linter.unusedSimpArgs false
set_option linter.unusedVariables false
namespace Go.Proofs.YtboinccdnaddmaaGreatDoor
open Go.RowKit

section
variable {P : Program} (w : World)
/-- Append onto an owned row, where the new row lies, and that the old one stays if it is another. -/
theorem run_append_stays (base : Nat) (t tx ty e : TypeId) (i : TypeInfo) (z : Value) (size bytes : Nat) (ht : P.underlying t = some (.slice e)) (hi : P.info? e = some i) (hz : i.zero = some z)
    (hsize : i.size = size) (hby : i.bytes = bytes) (hzs : z.cells.size = size) (hsz : 0 < size)
    (v : Value) (n : Nat) (xs : List Value) (hown : w.ownsRow base e size v n xs)
    (x : Value) (m : Nat) (news : List Value) (hs : Src P size tx x m news w)
    (h63 : n + m ≤ maxLen) (hbytes : (n + m) * bytes ≤ 140737488355328) (hbase : base ≤ w.heap.size) :
    ∃ v' w', (Builtin.append_ #[t, tx] ty #[v, x]).run P w = .ok v' w' ∧ w'.ownsRow base e size v' (n + m) (xs ++ news) ∧ ((v'.ownBlock = v.ownBlock ∧ w.grownBy w' v.ownBlock) ∨ (v'.ownBlock = some w.heap.size ∧ w.grownBy w' none)) := by
  subst hsize
  subst hby
  have hsmall : n + m ≤ 9223372036854775807 := by simp only [maxLen] at h63; omega
  have hl := hs.newsLen
  have hlen : (xs ++ news).length = (n + m) * i.size := by rw [List.length_append, hown.1, hl, Nat.add_mul]
  have grown : ∀ (old : Nat), old < n + m → ∀ (row : Option Nat),
      (w.drew.alloc (.cells ((xs ++ news).toArray ++ Builtin.zeroCells z.cells (grownCap w (n + m) old e - (n + m))) e)).ownsRow base e i.size
        (.slice (some ⟨w.heap.size, 0, none⟩) (n + m) (grownCap w (n + m) old e)) (n + m) (xs ++ news) ∧
      w.grownBy (w.drew.alloc (.cells ((xs ++ news).toArray ++ Builtin.zeroCells z.cells (grownCap w (n + m) old e - (n + m))) e)) row := by
    intro old ho row
    have hge := grownCap_ge w (n + m) old e
    have hcm : grownCap w (n + m) old e ≤ maxLen := grownCap_le_maxLen w (n + m) old e h63
    refine ⟨⟨hlen, .inr ⟨w.heap.size, _, _, rfl, hbase, heap_alloc_new w.drew _, hge, hcm, ?_, ?_⟩⟩, ⟨rfl, rfl, rfl, by simp, fun k hk _ => Below.heap_alloc w.drew _ k hk⟩⟩
    · simp only [Array.size_append, List.size_toArray, size_zeroCells, hzs, hlen, ← Nat.add_mul]
      congr 1
      omega
    · simp only [Array.toList_append]
      rw [← hlen]
      exact List.take_left
  rcases hown.2 with ⟨rfl, rfl⟩ | ⟨g, cap, cur, rfl, hbg, hg, hnc, hcm, hcs, htake⟩
  · have hx : xs = [] := List.eq_nil_of_length_eq_zero (by simpa using hown.1)
    subst hx
    by_cases hm : m = 0
    · subst hm
      have hn : news = [] := List.eq_nil_of_length_eq_zero (by simpa using hl)
      subst hn
      refine ⟨.slice none 0 0, w, ?_, World.ownsRow_nil w base e i.size, .inl ⟨rfl, ⟨rfl, rfl, rfl, Nat.le_refl _, fun _ _ _ => rfl⟩⟩⟩
      have hc := hs.cells
      rcases hs.kind with ⟨e', hk⟩ | hk <;> simp [Builtin.append_, run_underlying ht, run_underlying hk, sizeOf, typeInfo, hi, hs.len, hc]
    · have hr := run_append_grow_src (P := P) w t tx ty e i z ht hi hz none 0 0 [] (run_firstCells_none w.drew i.size 0 0 0) x m news hs (by omega) (by omega) (growslice_fits (by omega) hbytes)
      have hgr := grown 0 (by omega) none
      exact ⟨_, _, hr, hgr.1, .inr ⟨rfl, hgr.2⟩⟩
  · by_cases hroom : n + m ≤ cap
    · have hfit : n * i.size + news.length ≤ cur.size := by rw [hl, hcs, ← Nat.add_mul]; exact Nat.mul_le_mul_right _ hroom
      have hst := run_storeCells_at P g (n * i.size) e news 0 cur w hg (by simpa using hfit) hs.one
      simp only [Nat.add_zero] at hst
      have hr : (Builtin.append_ #[t, tx] ty #[.slice (some ⟨g, 0, none⟩) n cap, x]).run P w = .ok (.slice (some ⟨g, 0, none⟩) (n + m) cap) (w.setRow g (cur.toList.take (n * i.size) ++ news ++ cur.toList.drop (n * i.size + news.length)).toArray) := by
        rcases hs.kind with ⟨e', hk⟩ | hk <;> simp [Builtin.append_, run_underlying ht, run_underlying hk, sizeOf, typeInfo, hi, hs.len, hroom, hs.cells, Addr.add_lit, hst]
      refine ⟨_, _, hr, ⟨hlen, .inr ⟨g, cap, _, rfl, hbg, setRow_heap w g cur _ e _ hg, hroom, hcm, ?_, ?_⟩⟩, .inl ⟨rfl, ⟨rfl, rfl, rfl, by simp, fun k _ hk => setRow_other w g k _ (fun e => hk (by simp [Value.ownBlock, e]))⟩⟩⟩
      · simp only [List.size_toArray, List.length_append, List.length_take, List.length_drop, Array.length_toList]
        omega
      · rw [htake, ← hlen]
        exact List.take_left
    · have holds : ∀ j u, xs[j]? = some u → w.cell? ((⟨g, 0, none⟩ : Addr).add j) = some u := hown.cells (g := g) rfl
      have hr := run_append_grow_src (P := P) w t tx ty e i z ht hi hz (some ⟨g, 0, none⟩) n cap xs (run_firstCells_some w.drew i.size n ⟨g, 0, none⟩ n cap xs hown.1 (by simpa using holds)) x m news hs (by omega) (by omega) (growslice_fits (by omega) hbytes)
      have hgr := grown cap (by omega) none
      exact ⟨_, _, hr, hgr.1, .inr ⟨rfl, hgr.2⟩⟩

theorem wpList_append_stays {ops : Array Oper} {rest : List Oper} {o : Oper} {a : Act} {Q : Exit → Act → World → Prop} (hgd : o.guard = none) (s x : Operand) (t tx : TypeId)
    (ho : o.op = .call { callee := .builtin .append, args := #[s, x], argTypes := #[t, tx] })
    (base : Nat) (e : TypeId) (i : TypeInfo) (z : Value) (size bytes : Nat) (ht : P.underlying t = some (.slice e)) (hi : P.info? e = some i) (hz : i.zero = some z)
    (hsize : i.size = size) (hby : i.bytes = bytes) (hzs : z.cells.size = size) (hsz : 0 < size)
    (v : Value) (n : Nat) (xs : List Value) (hs : a.eval s = v) (hown : w.ownsRow base e size v n xs)
    (u : Value) (m : Nat) (news : List Value) (hx : a.eval x = u) (hsrc : Src P size tx u m news w)
    (h63 : n + m ≤ maxLen) (hbytes : (n + m) * bytes ≤ 140737488355328) (hbase : base ≤ w.heap.size)
    (h : ∀ v' w', w'.ownsRow base e size v' (n + m) (xs ++ news) → ((v'.ownBlock = v.ownBlock ∧ w.grownBy w' v.ownBlock) ∨ (v'.ownBlock = some w.heap.size ∧ w.grownBy w' none)) → wpList P ops Q rest (a.put o.dst v') w') : wpList P ops Q (o :: rest) a w :=
  wpList_plain hgd fun _ hK => by
    obtain ⟨v', w', hr, h2, h3⟩ := run_append_stays (P := P) w base t tx o.type e i z size bytes ht hi hz hsize hby hzs hsz v n xs hown u m news hsrc h63 hbytes hbase
    unfold Oper.wp execOp
    simp only [ho, resolve, invoke, builtin, Sem.run_bind, Sem.run_pure, Result.andThen_ok, List.map_toArray, List.map_cons, List.map_nil, hs, hx, hr]
    exact hK _ _ (h v' w' h2 h3)
end

/-- A slice whose elements are l, in a block of which p holds. -/
def SlP {α : Type} (p : Nat → Prop) (size : Nat) (f : α → List Value) (w : World) (v : Value) (l : List α) : Prop :=
  ∃ ao cap, v = .slice ao l.length cap ∧ l.length ≤ cap ∧ cap ≤ maxLen ∧ (0 < l.length → ∃ b off, ao = some ⟨b, off, none⟩ ∧ p b ∧ b < w.heap.size ∧ ∀ i (hi : i < l.length) j u, (f (l[i]'hi))[j]? = some u → w.cell? ⟨b, off + i * size + j, none⟩ = some u)
theorem SlP.wrote {α : Type} {p d : Nat → Prop} {size : Nat} {f : α → List Value} {w w' : World} {v : Value} {l : List α} (h : SlP p size f w v l) (hw : Wrote d w w') (hd : ∀ b, p b → b < w.heap.size → ¬ d b) : SlP p size f w' v l := by
  obtain ⟨ao, cap, h1, h2, h3, h4⟩ := h
  refine ⟨ao, cap, h1, h2, h3, fun hp => ?_⟩
  obtain ⟨b, off, e, g1, g2, g3⟩ := h4 hp
  exact ⟨b, off, e, g1, Nat.lt_of_lt_of_le g2 hw.size, fun i hi j u hu => (hw.cell (p := ⟨b, _, none⟩) g2 (hd b g1 g2)).trans (g3 i hi j u hu)⟩
theorem SlP.weak {α : Type} {p p' : Nat → Prop} {size : Nat} {f : α → List Value} {w : World} {v : Value} {l : List α} (h : SlP p size f w v l) (hp : ∀ b, p b → p' b) : SlP p' size f w v l := by
  obtain ⟨ao, cap, h1, h2, h3, h4⟩ := h
  refine ⟨ao, cap, h1, h2, h3, fun h0 => ?_⟩
  obtain ⟨b, off, e, g1, g2⟩ := h4 h0
  exact ⟨b, off, e, hp b g1, g2⟩
theorem SlP.at {α : Type} {p : Nat → Prop} {size : Nat} {f : α → List Value} {w : World} {v : Value} {l : List α} (h : SlP p size f w v l) : SlAt size f w w.heap.size v l := by
  obtain ⟨ao, cap, h1, h2, h3, h4⟩ := h
  refine ⟨ao, cap, h1, h2, h3, fun h0 => ?_⟩
  obtain ⟨b, off, e, g1, g2⟩ := h4 h0
  exact ⟨b, off, e, g2⟩
theorem slp_own {p : Nat → Prop} {w : World} {e : TypeId} {s : Nat} {mk : Nat → List Value} {v : Value} {q n : Nat} (h : w.ownsRow 0 e s v q (marks (mk n) q)) (hm : (mk n).length = s) (hp : ∀ b, v.ownBlock = some b → p b) : SlP p s mk w v (List.replicate q n) := by
  obtain ⟨ao, cap, rfl, h1, h2⟩ := own_len' h
  refine ⟨ao, cap, by simp, by simpa using h1, h2, fun h0 => ?_⟩
  have h0' : 0 < q := by simpa using h0
  obtain ⟨g, c', e', -, hg⟩ := h.form h0'
  simp only [Value.slice.injEq, true_and] at e'
  obtain ⟨rfl, rfl⟩ := e'
  refine ⟨g, 0, rfl, hp g rfl, hg, fun i hi j u hu => ?_⟩
  rw [List.getElem_replicate] at hu
  have := h.cells (g := g) rfl (i * s + j) u (by rw [← hm]; exact marks_get _ _ i j u (by simpa using hi) hu)
  rw [Addr.add_lit] at this
  rw [Nat.zero_add]; simpa using this
/-- The first elements of a row that grew in its place. -/
theorem slp_first {p : Nat → Prop} {w : World} {e : TypeId} {s : Nat} {mk : Nat → List Value} {v v' : Value} {q r n g : Nat} (h : w.ownsRow 0 e s v' r (marks (mk n) r)) (hm : (mk n).length = s) (hv' : v'.ownBlock = some g) (hv : ∃ cap, v = .slice (some ⟨g, 0, none⟩) q cap ∧ q ≤ cap ∧ cap ≤ maxLen) (hq : q ≤ r) (hp : p g) : SlP p s mk w v (List.replicate q n) := by
  obtain ⟨cap, rfl, h1, h2⟩ := hv
  refine ⟨_, cap, by simp, by simpa using h1, h2, fun h0 => ⟨g, 0, rfl, hp, (h.lt g hv').2, fun i hi j u hu => ?_⟩⟩
  rw [List.getElem_replicate] at hu
  have hi' : i < q := by simpa using hi
  have := h.cells hv' (i * s + j) u (by rw [← hm]; exact marks_get _ _ i j u (by omega) hu)
  rw [Addr.add_lit] at this
  rw [Nat.zero_add]; simpa using this

/-- A list that grew, and what grew of it. -/
def Done (top : Nat) (w : World) (s : Nat) (mk : Nat → List Value) (x : Ent) : Prop :=
  SlP (fun b => x.l.ownBlock = some b) s mk w x.l (List.replicate x.len x.n) ∧ SlP (fun b => x.l.ownBlock = some b ∨ top ≤ b) s mk w x.long (List.replicate (x.len + 40) x.n)
theorem Done.wrote {d : Nat → Prop} {top : Nat} {w w' : World} {s : Nat} {mk : Nat → List Value} {x : Ent} (h : Done top w s mk x) (hw : Wrote d w w') (h1 : ∀ b, x.l.ownBlock = some b → ¬ d b) (h2 : ∀ b, top ≤ b → ¬ d b) : Done top w' s mk x :=
  ⟨h.1.wrote hw (fun b hb _ => h1 b hb), h.2.wrote hw (fun b hb _ => by rcases hb with hb | hb; exact h1 b hb; exact h2 b hb)⟩

theorem own_zero {w : World} {base : Nat} {e : TypeId} {s : Nat} {v : Value} {n : Nat} {xs : List Value} (h : w.ownsRow base e s v n xs) : ∀ ao len cap, v = .slice ao len cap → ao = none ∨ ∃ g, ao = some ⟨g, 0, none⟩ := by
  intro ao len cap e
  rcases h.2 with ⟨rfl, _⟩ | ⟨g, cap, cur, rfl, _⟩
  · simp only [Value.slice.injEq] at e; exact .inl e.1.symm
  · simp only [Value.slice.injEq] at e; exact .inr ⟨g, e.1.symm⟩
/-- While the copy of the list x grows: q are put behind it. -/
structure LIn (wr w : World) (e : TypeId) (s : Nat) (mk : Nat → List Value) (x : Ent) (long : Value) (q : Nat) : Prop where
  wrote : Wrote (fun b => x.l.ownBlock = some b) wr w
  own : w.ownsRow 0 e s long (x.len + q) (marks (mk x.n) (x.len + q))
  lies : ∀ b, long.ownBlock = some b → x.l.ownBlock = some b ∨ wr.heap.size ≤ b
  row : SlP (fun b => x.l.ownBlock = some b) s mk w x.l (List.replicate x.len x.n)
theorem LIn.start {w : World} {e : TypeId} {s : Nat} {mk : Nat → List Value} {x : Ent} (h : w.ownsRow 0 e s x.l x.len (marks (mk x.n) x.len)) (hm : ∀ n, (mk n).length = s) : LIn w w e s mk x x.l 0 :=
  ⟨Wrote.refl _ _, h, fun b hb => .inl hb, slp_own h (hm _) (fun b hb => hb)⟩
theorem LIn.below {wr w w' : World} {e : TypeId} {s : Nat} {mk : Nat → List Value} {x : Ent} {long : Value} {q : Nat} (h : LIn wr w e s mk x long q) (hb : Below w.heap.size w w') : LIn wr w' e s mk x long q :=
  ⟨h.wrote.trans (.of_below hb), own_of_block h.own (fun b hb' => hb.block b (h.own.lt b hb').2), h.lies, h.row.wrote (d := fun _ => False) (.of_below hb) (fun _ _ _ h => h)⟩
theorem LIn.app {wr w w' : World} {e : TypeId} {s : Nat} {mk : Nat → List Value} {x : Ent} {long v' : Value} {q : Nat} (h : LIn wr w e s mk x long q) (hm : ∀ n, (mk n).length = s) (hl : ∀ ao len cap, x.l = .slice ao len cap → ao = none ∨ ∃ g, ao = some ⟨g, 0, none⟩)
    (ho : w'.ownsRow 0 e s v' (x.len + q + 1) (marks (mk x.n) (x.len + q) ++ mk x.n)) (hg : (v'.ownBlock = long.ownBlock ∧ w.grownBy w' long.ownBlock) ∨ (v'.ownBlock = some w.heap.size ∧ w.grownBy w' none)) : LIn wr w' e s mk x v' (q + 1) := by
  rw [← marks_succ] at ho
  have hz := h.wrote.size
  rcases hg with ⟨g1, g2⟩ | ⟨g1, g2⟩
  · refine ⟨⟨g2.os.trans h.wrote.os, g2.tape.trans h.wrote.tape, g2.output.trans h.wrote.output, Nat.le_trans hz g2.size, fun k hk hn => ?_⟩, ho, fun b hb => h.lies b (by rw [← g1]; exact hb), ?_⟩
    · rw [g2.block k (by omega) (fun e => ?_)]
      · exact h.wrote.block k hk hn
      · rcases h.lies k e.symm with h1 | h1
        · exact hn h1
        · omega
    · by_cases hsame : ∃ g, x.l.ownBlock = some g ∧ long.ownBlock = some g
      · obtain ⟨g, hg1, hg2⟩ := hsame
        obtain ⟨ao, cap, e1, e2, e3, -⟩ := h.row
        rw [List.length_replicate] at e1 e2
        have : ao = some ⟨g, 0, none⟩ := by
          rw [e1] at hg1
          rcases hl ao _ cap e1 with h0 | ⟨g', h0⟩
          · rw [h0] at hg1; cases hg1
          · rw [h0] at hg1 ⊢
            have : g' = g := by simpa [Value.ownBlock] using hg1
            rw [this]
        refine slp_first (g := g) (r := x.len + (q + 1)) ho (hm _) (by rw [g1]; exact hg2) ⟨cap, by rw [e1, this], e2, e3⟩ (by omega) hg1
      · refine h.row.wrote (d := fun b => long.ownBlock = some b) (.grown g2 (fun k e _ => e)) (fun b hb _ hd => hsame ⟨b, hb, hd⟩)
  · refine ⟨⟨g2.os.trans h.wrote.os, g2.tape.trans h.wrote.tape, g2.output.trans h.wrote.output, Nat.le_trans hz g2.size, fun k hk hn => ?_⟩, ho, fun b hb => ?_, h.row.wrote (d := fun _ => False) (.grown g2 (fun k e => by cases e)) (fun _ _ _ h => h)⟩
    · rw [g2.block k (by omega) (by simp)]
      exact h.wrote.block k hk hn
    · rw [g1] at hb
      cases hb
      exact .inr hz

/-- While lists grow: the first k did. -/
structure GIn (w0 w : World) (th e : TypeId) (s : Nat) (mk : Nat → List Value) (v : Value) (E E' : List Ent) (k : Nat) : Prop where
  wrote : Wrote (DD v E) w0 w
  same : E'.map (fun x => (x.l, x.len, x.n)) = E.map (fun x => (x.l, x.len, x.n))
  held : w.ownsRow 0 th 3 v E'.length (E'.flatMap entCells)
  past : ∀ i x, i < k → E'[i]? = some x → Done w0.heap.size w s mk x
  rest : ∀ i x, k ≤ i → E'[i]? = some x → w.ownsRow 0 e s x.l x.len (marks (mk x.n) x.len)
  fresh : ∀ i x, k ≤ i → E'[i]? = some x → x.long = .slice none 0 0
theorem GIn.start {w : World} {th e : TypeId} {s : Nat} {mk : Nat → List Value} {v : Value} {E : List Ent} (h : FAt w th e s mk v E) : GIn w w th e s mk v E E 0 :=
  ⟨Wrote.refl _ _, rfl, h.held, fun i x hi => absurd hi (Nat.not_lt_zero _), fun i x _ hx => (h.rows x (List.mem_of_getElem? hx)).2.2, fun i x _ hx => h.fresh x (List.mem_of_getElem? hx)⟩
theorem same_len {E E' : List Ent} (h : E'.map (fun x => (x.l, x.len, x.n)) = E.map (fun x => (x.l, x.len, x.n))) : E'.length = E.length := by
  have := congrArg List.length h
  simpa using this
theorem same_get {E E' : List Ent} (h : E'.map (fun x => (x.l, x.len, x.n)) = E.map (fun x => (x.l, x.len, x.n))) {i : Nat} {x : Ent} (hx : E'[i]? = some x) : ∃ y, E[i]? = some y ∧ y.l = x.l ∧ y.len = x.len ∧ y.n = x.n := by
  have e := congrArg (fun l => l[i]?) h
  simp only [List.getElem?_map, hx, Option.map_some] at e
  cases hy : E[i]? with
  | none => rw [hy] at e; simp at e
  | some y => rw [hy] at e; simp at e; exact ⟨y, rfl, e.1.symm, e.2.1.symm, e.2.2.symm⟩
theorem GIn.below {w0 w w' : World} {th e : TypeId} {s : Nat} {mk : Nat → List Value} {v : Value} {E E' : List Ent} {k : Nat} (h : GIn w0 w th e s mk v E E' k) (hb : Below w.heap.size w w') : GIn w0 w' th e s mk v E E' k :=
  ⟨h.wrote.trans (.of_below hb), h.same, own_of_block h.held (fun b hb' => hb.block b (h.held.lt b hb').2), fun i x hi hx => (h.past i x hi hx).wrote (d := fun _ => False) (.of_below hb) (fun _ _ h => h) (fun _ _ h => h),
   fun i x hi hx => own_of_block (h.rest i x hi hx) (fun b hb' => hb.block b ((h.rest i x hi hx).lt b hb').2), h.fresh⟩
theorem GIn.store {w0 wr w : World} {th e : TypeId} {s : Nat} {mk : Nat → List Value} {v long : Value} {E E' : List Ent} {k g cap : Nat} {x : Ent} (h : GIn w0 wr th e s mk v E E' k) (hx : E'[k]? = some x) (h0 : FAt w0 th e s mk v E) (hm : ∀ n, (mk n).length = s)
    (hv : v = .slice (some ⟨g, 0, none⟩) E'.length cap) (hL : LIn wr w e s mk x long 40) : GIn w0 (w.setCell ⟨g, k * 3 + 1, none⟩ long) th e s mk v E (E'.set k { x with long := long }) (k + 1) := by
  have hk : k < E'.length := (List.getElem?_eq_some_iff.mp hx).1
  obtain ⟨y, hy, ey1, ey2, ey3⟩ := same_get h.same hx
  have hvb : v.ownBlock = some g := by rw [hv]; rfl
  have hgE : ¬ LD E g := fun hd => h0.off g hd hvb
  have hlx : ∀ b, x.l.ownBlock = some b → LD E b := fun b hb => ⟨y, List.mem_of_getElem? hy, by rw [ey1]; exact hb⟩
  have hgw0 : g < w0.heap.size := (h0.held.lt g hvb).2
  have hz0 := h.wrote.size
  have apart : ∀ i z b, i ≠ k → E'[i]? = some z → z.l.ownBlock = some b → x.l.ownBlock ≠ some b := fun i z b hi hz hb hb' => by
    obtain ⟨y', hy', e1, -, -⟩ := same_get h.same hz
    exact hi (h0.apart i k y' y b hy' hy (by rw [e1]; exact hb) (by rw [ey1]; exact hb'))
  have W1 : Wrote (fun b => x.l.ownBlock = some b ∨ b = g) wr (w.setCell ⟨g, k * 3 + 1, none⟩ long) := (hL.wrote.weak (fun _ _ h => .inl h)).trans (Wrote.set w g _ long (.inr rfl))
  have hheld : w.ownsRow 0 th 3 v E'.length (E'.flatMap entCells) := own_wrote h.held hL.wrote (fun b hb hd => h0.off b (hlx b hd) hb)
  have top_of : ∀ b, w0.heap.size ≤ b → ¬ (x.l.ownBlock = some b ∨ b = g) := fun b hb hd => by
    rcases hd with hd | hd
    · obtain ⟨-, -, ho⟩ := h0.rows y (List.mem_of_getElem? hy)
      have := (ho.lt b (by rw [ey1]; exact hd)).2
      omega
    · omega
  refine ⟨h.wrote.trans (W1.weak (fun b _ hd => ?_)), ?_, ?_, fun i z hi hz => ?_, fun i z hi hz => ?_, fun i z hi hz => ?_⟩
  · rcases hd with hd | hd
    · exact .inr (hlx b hd)
    · exact .inl (by rw [hd]; exact hvb)
  · rw [← h.same, List.map_set]
    apply List.ext_getElem?
    intro i
    rw [List.getElem?_set]
    split
    · rename_i e'; subst e'
      simp [hx]
      omega
    · rfl
  · have e1 : (E'.set k { x with long := long }).flatMap entCells = (E'.flatMap entCells).set (k * 3 + 1) long := by
      apply List.ext_getElem?
      intro i
      rw [List.getElem?_set, entCells_len]
      have hi3 : ∃ a j, j < 3 ∧ i = a * 3 + j := ⟨i / 3, i % 3, by omega, by omega⟩
      obtain ⟨a, j, hj, rfl⟩ := hi3
      by_cases ha : a < E'.length
      · have g1 := entCells_get E' a (E'[a]'ha) (by simp [ha])
        have hset : (E'.set k { x with long := long })[a]? = some (if a = k then { x with long := long } else E'[a]'ha) := by
          rw [List.getElem?_set]
          by_cases hak : a = k
          · subst hak; simp [hk]
          · rw [if_neg (fun e => hak e.symm), if_neg hak]; simp [ha]
        have g2 := entCells_get _ a _ hset
        by_cases hak : a = k
        · subst hak
          have hxa : E'[a]'ha = x := by have := hx; rw [List.getElem?_eq_getElem ha] at this; simpa using this
          rw [hxa] at g1
          simp only [if_true] at g2
          match j, hj with
          | 0, _ => rw [g2 0 _ rfl, if_neg (by omega), g1 0 _ rfl]
          | 1, _ => rw [g2 1 _ rfl, if_pos rfl, if_pos (by omega)]
          | 2, _ => rw [g2 2 _ rfl, if_neg (by omega), g1 2 _ rfl]
        · rw [if_neg hak] at g2
          rw [if_neg (by omega)]
          match j, hj with
          | 0, _ => rw [g2 0 _ rfl, g1 0 _ rfl]
          | 1, _ => rw [g2 1 _ rfl, g1 1 _ rfl]
          | 2, _ => rw [g2 2 _ rfl, g1 2 _ rfl]
      · rw [if_neg (by omega), List.getElem?_eq_none (by rw [entCells_len, List.length_set]; omega), List.getElem?_eq_none (by rw [entCells_len]; omega)]
    rw [e1, List.length_set]
    rw [hv] at hheld ⊢
    exact (hheld.stored _ _).1
  · by_cases hik : i = k
    · subst hik
      rw [List.getElem?_set] at hz
      simp [hk] at hz
      subst hz
      have hxg : ∀ b, x.l.ownBlock = some b → ¬ b = g := fun b hb e => hgE (by rw [← e]; exact hlx b hb)
      refine ⟨hL.row.wrote (d := fun b => b = g) (Wrote.set w g _ long rfl) (fun b hb _ => hxg b hb), ?_⟩
      have s1 : SlP (fun b => x.l.ownBlock = some b ∨ w0.heap.size ≤ b) s mk w long (List.replicate (x.len + 40) x.n) := slp_own hL.own (hm _) (fun b hb => by
        rcases hL.lies b hb with h1 | h1
        · exact .inl h1
        · exact .inr (by omega))
      exact s1.wrote (d := fun b => b = g) (Wrote.set w g _ long rfl) (fun b hb _ e => by
        rcases hb with hb | hb
        · exact hxg b hb e
        · omega)
    · rw [List.getElem?_set, if_neg (fun e => hik e.symm)] at hz
      refine (h.past i z (by omega) hz).wrote W1 (fun b hb hd => ?_) top_of
      rcases hd with hd | hd
      · exact apart i z b hik hz hb hd
      · obtain ⟨y', hy', e1, -, -⟩ := same_get h.same hz
        exact hgE (by rw [← hd]; exact ⟨y', List.mem_of_getElem? hy', by rw [e1]; exact hb⟩)
  · have hik : i ≠ k := by omega
    rw [List.getElem?_set, if_neg (fun e => hik e.symm)] at hz
    refine own_wrote (h.rest i z (by omega) hz) W1 (fun b hb hd => ?_)
    rcases hd with hd | hd
    · exact apart i z b hik hz hb hd
    · obtain ⟨y', hy', e1, -, -⟩ := same_get h.same hz
      exact hgE (by rw [← hd]; exact ⟨y', List.mem_of_getElem? hy', by rw [e1]; exact hb⟩)
  · have hik : i ≠ k := by omega
    rw [List.getElem?_set, if_neg (fun e => hik e.symm)] at hz
    exact h.fresh i z (by omega) hz
/-- Lists that grew. -/
structure GAt (top : Nat) (w : World) (th : TypeId) (s : Nat) (mk : Nat → List Value) (v : Value) (E : List Ent) : Prop where
  held : w.ownsRow 0 th 3 v E.length (E.flatMap entCells)
  done : ∀ x ∈ E, Done top w s mk x ∧ x.len ≤ 1000000000 ∧ x.n ≤ 1000000000
  few : E.length ≤ 1000000000
theorem GIn.fin {w0 w : World} {th e : TypeId} {s : Nat} {mk : Nat → List Value} {v : Value} {E E' : List Ent} (h : GIn w0 w th e s mk v E E' E'.length) (h0 : FAt w0 th e s mk v E) : GAt w0.heap.size w th s mk v E' :=
  ⟨h.held, fun x hx => by
    obtain ⟨i, hi⟩ := List.getElem?_of_mem hx
    obtain ⟨y, hy, -, e2, e3⟩ := same_get h.same hi
    obtain ⟨g1, g2, -⟩ := h0.rows y (List.mem_of_getElem? hy)
    exact ⟨h.past i x (List.getElem?_eq_some_iff.mp hi).1 hi, by rw [← e2]; exact g1, by rw [← e3]; exact g2⟩, by rw [same_len h.same]; exact h0.few⟩
theorem GAt.wrote {d : Nat → Prop} {top : Nat} {w w' : World} {th : TypeId} {s : Nat} {mk : Nat → List Value} {v : Value} {E : List Ent} (h : GAt top w th s mk v E) (hw : Wrote d w w') (hd : ∀ b, DD v E b → ¬ d b) (ht : ∀ b, top ≤ b → ¬ d b) : GAt top w' th s mk v E :=
  ⟨own_wrote h.held hw (fun b hb => hd b (.inl hb)), fun x hx => ⟨(h.done x hx).1.wrote hw (fun b hb => hd b (.inr ⟨x, hx, hb⟩)) ht, (h.done x hx).2⟩, h.few⟩
theorem DD_same {v : Value} {E E' : List Ent} (h : E'.map (fun x => (x.l, x.len, x.n)) = E.map (fun x => (x.l, x.len, x.n))) {b : Nat} (hb : DD v E' b) : DD v E b := by
  rcases hb with hb | ⟨x, hx, hb⟩
  · exact .inl hb
  · obtain ⟨i, hi⟩ := List.getElem?_of_mem hx
    obtain ⟨y, hy, e1, -, -⟩ := same_get h hi
    exact .inr ⟨y, List.mem_of_getElem? hy, by rw [e1]; exact hb⟩
end Go.Proofs.YtboinccdnaddmaaGreatDoor
