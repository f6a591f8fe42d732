/- Maps in memory, told as functions from numbers; a map as a part of memory. -/
import Derived.Test.YtboinccdnaddmaaGreatDoorGSep
import Derived.Maps.OwnSet
import Derived.Maps.RangeWalk
import Derived.Maps.Ext
set_option linter.unusedSimpArgs false
set_option linter.unusedVariables false
namespace Go.Proofs.YtboinccdnaddmaaGreatDoor
open Go.RowKit Go.Maps

def noneD {β : Type} : Nat → Option β := fun _ => none
def updF {β : Type} (f : Nat → Option β) (k : Nat) (x : Option β) : Nat → Option β := fun j => if j = k then x else f j
theorem updF_same {β : Type} (f : Nat → Option β) (k : Nat) (x : Option β) : updF f k x k = x := by simp [updF]
theorem updF_other {β : Type} (f : Nat → Option β) {k j : Nat} (x : Option β) (h : j ≠ k) : updF f k x j = f j := by simp [updF, h]
theorem updF_eq {β : Type} (f : Nat → Option β) (k : Nat) (x : Option β) (h : f k = x) : updF f k x = f := funext fun j => by
  by_cases e : j = k
  · subst e; rw [updF_same, h]
  · exact updF_other f x e
theorem updF_updF {β : Type} (f : Nat → Option β) (k : Nat) (x y : Option β) : updF (updF f k x) k y = updF f k y := funext fun j => by
  by_cases e : j = k
  · subst e; rw [updF_same, updF_same]
  · rw [updF_other _ _ e, updF_other _ _ e, updF_other _ _ e]

/-- A map's datum D reads as f. -/
structure FnM {β : Type} (q : IntKind) (enc : β → DataW Unit) (D : DataW Unit) (f : Nat → Option β) : Prop where
  at_ : ∀ (k : Nat) z, D.atKey (.int q k) z = ((f k).map enc).getD z
  keys : ∀ kl, Maps.has D kl = true → ∃ k : Nat, kl = .int q k
section
variable {β : Type} {q : IntKind} {enc : β → DataW Unit} {D : DataW Unit} {f : Nat → Option β}
theorem FnM.nil : FnM q enc (.map []) noneD := ⟨fun k z => rfl, fun kl h => by cases h⟩
theorem FnM.has (h : FnM q enc D f) (k : Nat) : Maps.has D (.int q k) = (f k).isSome := by
  cases hl : f k with
  | none => exact Maps.has_false_of_atKey (fun z => by rw [h.at_, hl]; rfl)
  | some s => exact Maps.has_true_of_atKey (y := enc s) (fun z => by rw [h.at_, hl]; rfl)
theorem FnM.put (h : FnM q enc D f) (hm : Maps.IsMap D) (i : Nat) (s : β) : FnM q enc (D.put (.int q i) (enc s)) (updF f i (some s)) := by
  refine ⟨fun k z => ?_, fun kl hk => ?_⟩
  · by_cases e : k = i
    · subst e
      rw [Maps.atKey_put_same (k := .int q (k : Int)) hm (by trivial), updF_same]
      rfl
    · rw [Maps.atKey_put_other (fun h' => e (by cases h'; rfl)), h.at_, updF_other _ _ e]
  · by_cases e : kl = .int q i
    · exact ⟨i, e⟩
    · rw [Maps.has_put_other e] at hk
      exact h.keys kl hk
theorem FnM.del (h : FnM q enc D f) (i : Nat) : FnM q enc (D.del (.int q i)) (updF f i none) := by
  refine ⟨fun k z => ?_, fun kl hk => ?_⟩
  · by_cases e : k = i
    · subst e
      rw [Maps.atKey_del_same, updF_same]
      rfl
    · rw [Maps.atKey_del_other (fun h' => e (by cases h'; rfl)), h.at_, updF_other _ _ e]
  · by_cases e : kl = .int q i
    · rw [e, Maps.has_del_same] at hk; cases hk
    · rw [Maps.has_del_other e] at hk
      exact h.keys kl hk
/-- No key at all: nothing is in it. -/
theorem FnM.size_pos (h : FnM q enc D f) (ht : Tidy D) {k : Nat} (hk : f k ≠ none) : 0 < Maps.size D := by
  have h1 : Maps.has D (.int q k) = true := by rw [h.has]; cases hf : f k with
    | none => exact absurd hf hk
    | some x => rfl
  have h2 := size_del (k := .int q (k : Int)) ht
  rw [h1] at h2
  simp at h2
  omega
end

/-- A map as a part: it reads as f; of at most n entries. -/
def Part.mapF {β : Type} (kt : TypeId) (q : IntKind) (R : Value → Option (DataW Unit × List MemPlace)) (enc : β → DataW Unit) (b n : Nat) (f : Nat → Option β) : Part :=
  ⟨fun w S => (∃ D, w.ownsMap Tryz.prog kt R b n D ∧ FnM q enc D f) ∧ ∀ x, S x ↔ x = b,
   fun w S ⟨⟨D, h, _⟩, hs⟩ x hx => by rw [(hs x).1 hx]; exact h.lt,
   fun w w' S ⟨⟨D, h, hf⟩, hs⟩ hb => ⟨⟨D, by
     obtain ⟨es, clock, h1, h2⟩ := h
     exact ⟨es, clock, (hb b ((hs b).2 rfl)).trans h1, h2⟩, hf⟩, hs⟩⟩
section
variable {S0 : Nat → Prop} {w0 w w' : World} {L : List Part} {β : Type} {kt : TypeId} {q : IntKind} {R : Value → Option (DataW Unit × List MemPlace)} {enc : β → DataW Unit} {b n : Nat} {f : Nat → Option β}
theorem St.mapF (h : St S0 w0 w (Part.mapF kt q R enc b n f :: L)) : (∃ D, w.ownsMap Tryz.prog kt R b n D ∧ FnM q enc D f) ∧ b < w.heap.size := by
  obtain ⟨S, ⟨h1, h3⟩, h2⟩ := h.head
  exact ⟨h1, (h2 b ((h3 b).2 rfl)).2⟩
/-- The map's block alone was written. -/
theorem St.mapF_to {f' : Nat → Option β} {n' : Nat} {D' : DataW Unit} (h : St S0 w0 w (Part.mapF kt q R enc b n f :: L)) (hg : w.grownBy w' (some b)) (ho : w'.ownsMap Tryz.prog kt R b n' D') (hf : FnM q enc D' f') : St S0 w0 w' (Part.mapF kt q R enc b n' f' :: L) := by
  refine h.step (P := [_]) (Q := [_]) (fun S hS => ?_)
  obtain ⟨h1, h2⟩ := parts_one.1 hS
  exact ⟨S, parts_one.2 ⟨⟨D', ho, hf⟩, h2⟩, fun b hb => .inl hb, .grown hg (fun k e _ => by cases e; exact (h2 b).2 rfl)⟩
theorem St.mapF_new (h : St S0 w0 w L) (kt : TypeId) (q : IntKind) (R : Value → Option (DataW Unit × List MemPlace)) (enc : β → DataW Unit) : St S0 w0 (w.alloc (.map #[] 0)) (Part.mapF kt q R enc w.heap.size 0 noneD :: L) :=
  h.more (Q := [Part.mapF kt q R enc w.heap.size 0 noneD]) (T := fun b => b = w.heap.size) ((Below.refl _ _).alloc (Nat.le_refl _) _)
    (parts_one.2 ⟨⟨_, World.ownsMap_made w Tryz.prog kt R, FnM.nil⟩, fun _ => Iff.rfl⟩) (fun b h => by rw [h]; exact Nat.le_refl _)
theorem St.mapF_mono (h : St S0 w0 w (Part.mapF kt q R enc b n f :: L)) {n' : Nat} (hn : n ≤ n') : St S0 w0 w (Part.mapF kt q R enc b n' f :: L) :=
  h.keep (fun S ⟨⟨D, h1, h2⟩, h3⟩ => ⟨S, ⟨⟨D, h1.mono hn, h2⟩, h3⟩, fun _ h => h⟩)
variable {t e : TypeId} {i : Nat}
/-- v, ok := m[i]. -/
theorem St.look_ok (h : St S0 w0 w (Part.mapF kt q R enc b n f :: L)) (hk : Tryz.prog.underlying kt = some (.int q)) (ht : Tryz.prog.underlying t = some (.map kt e)) {z : Value} (hz : (zeroValue e).run Tryz.prog w = .ok z w) {zd : DataW Unit} {zp : List MemPlace} (hzd : R z = some (zd, zp)) (hw : (Lit.int q i).wf = true) :
    ∃ v ps, (Instr.lookup t (.map (some b)) (.int q i) true).run Tryz.prog w = .ok (.tuple #[v, .bool (f i).isSome]) w ∧ R v = some (((f i).map enc).getD zd, ps) := by
  obtain ⟨⟨D, h1, h2⟩, -⟩ := h.mapF
  have := h1.look_ok (int_keyed hk) ht hz hzd (keyOf_int_mk hk hw)
  rw [h2.has, h2.at_] at this
  exact this
/-- m[i]. -/
theorem St.look (h : St S0 w0 w (Part.mapF kt q R enc b n f :: L)) (hk : Tryz.prog.underlying kt = some (.int q)) (ht : Tryz.prog.underlying t = some (.map kt e)) {z : Value} (hz : (zeroValue e).run Tryz.prog w = .ok z w) {zd : DataW Unit} {zp : List MemPlace} (hzd : R z = some (zd, zp)) (hw : (Lit.int q i).wf = true) :
    ∃ v ps, (Instr.lookup t (.map (some b)) (.int q i) false).run Tryz.prog w = .ok v w ∧ R v = some (((f i).map enc).getD zd, ps) := by
  obtain ⟨⟨D, h1, h2⟩, -⟩ := h.mapF
  have := h1.lookup (int_keyed hk) ht hz hzd (keyOf_int_mk hk hw)
  rw [h2.at_] at this
  exact this
/-- m[i] = val. -/
theorem St.mput (h : St S0 w0 w (Part.mapF kt q R enc b n f :: L)) (hk : Tryz.prog.underlying kt = some (.int q)) (ht : Tryz.prog.underlying t = some (.map kt e)) (hn : n < maxLen) {val : Value} {x : β} {ps : List MemPlace} (hv : R val = some (enc x, ps)) (hw : (Lit.int q i).wf = true) :
    ∃ w', (Instr.mapUpdate t (.map (some b)) (.int q i) val).run Tryz.prog w = .ok () w' ∧ St S0 w0 w' (Part.mapF kt q R enc b (n + 1) (updF f i (some x)) :: L) ∧ w.grownBy w' (some b) := by
  obtain ⟨⟨D, h1, h2⟩, -⟩ := h.mapF
  obtain ⟨w', k1, k2, k3⟩ := h1.update (int_keyed hk) ht hn (keyOf_int_mk hk hw) hv
  exact ⟨w', k1, h.mapF_to k3 k2 (h2.put h1.isMap i x), k3⟩
/-- delete(m, i). -/
theorem St.mdel (h : St S0 w0 w (Part.mapF kt q R enc b n f :: L)) (hk : Tryz.prog.underlying kt = some (.int q)) (ht : Tryz.prog.underlying t = some (.map kt e)) (hw : (Lit.int q i).wf = true) (ty : TypeId) :
    ∃ w', (Builtin.delete_ #[t, kt] ty #[.map (some b), .int q i]).run Tryz.prog w = .ok (.tuple #[]) w' ∧ St S0 w0 w' (Part.mapF kt q R enc b n (updF f i none) :: L) ∧ w.grownBy w' (some b) := by
  obtain ⟨⟨D, h1, h2⟩, -⟩ := h.mapF
  obtain ⟨w', k1, k2, k3⟩ := h1.drop (int_keyed hk) ht (keyOf_int_mk hk hw) ty
  exact ⟨w', k1, h.mapF_to k3.grown k2 (h2.del i), k3.grown⟩
/-- len(m). -/
theorem St.mlen (h : St S0 w0 w (Part.mapF kt q R enc b n f :: L)) (hk : Tryz.prog.underlying kt = some (.int q)) (ht : Tryz.prog.underlying t = some (.map kt e)) (ty : TypeId) :
    ∃ m : Nat, (Builtin.len_ #[t] ty #[.map (some b)]).run Tryz.prog w = .ok (.int .i64 m) w ∧ m ≤ n ∧ ∀ i, f i ≠ none → 0 < m := by
  obtain ⟨⟨D, h1, h2⟩, -⟩ := h.mapF
  exact ⟨Maps.size D, h1.len ht ty, h1.size_le, fun i hi => h2.size_pos (h1.tidy (int_keyed hk)) hi⟩
end
end Go.Proofs.YtboinccdnaddmaaGreatDoor
