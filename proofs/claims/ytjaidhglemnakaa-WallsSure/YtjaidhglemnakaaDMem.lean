/- Disks in memory: what is where, what is changed. -/
import Derived.Test.YtjaidhglemnakaaGBase
import Derived.Test.YtjaidhglemnakaaDMath
import Derived.Maps.OwnSet
import Derived.Maps.RangeWalk
import Derived.Maps.Ext
import Derived.Laws.CopyOwn
import Derived.Deep.WholeRow
import Derived.Deep.RegionLaw
set_option linter.unusedSimpArgs false
set_option linter.unusedVariables false
namespace Go.Proofs.Ytjaidhglemnakaa
open Go.RowKit Go.Maps

/-- All but the blocks S is as it was. -/
structure Chg (S : List Nat) (w w' : World) : Prop where
  os : w'.os = w.os
  tape : w'.tape = w.tape
  output : w'.output = w.output
  size : w.heap.size ≤ w'.heap.size
  block : ∀ k, k < w.heap.size → k ∉ S → w'.heap[k]? = w.heap[k]?
theorem Chg.refl (S : List Nat) (w : World) : Chg S w w := ⟨rfl, rfl, rfl, Nat.le_refl _, fun _ _ _ => rfl⟩
theorem Chg.of_below {w w' : World} (h : Below w.heap.size w w') (S : List Nat) : Chg S w w' := ⟨h.os, h.tape, h.output, h.size, fun k hk _ => h.block k hk⟩
theorem Chg.below {w w' : World} (h : Chg [] w w') : Below w.heap.size w w' := ⟨h.os, h.tape, h.output, h.size, fun k hk => h.block k hk (by simp)⟩
theorem Chg.trans {S T : List Nat} {a b c : World} (h : Chg S a b) (k : Chg T b c) (hT : ∀ x ∈ T, x ∈ S ∨ a.heap.size ≤ x) : Chg S a c :=
  ⟨k.os.trans h.os, k.tape.trans h.tape, k.output.trans h.output, Nat.le_trans h.size k.size, fun i hi hn => (k.block i (Nat.lt_of_lt_of_le hi h.size) (fun hm => by
    rcases hT i hm with h' | h'
    · exact hn h'
    · omega)).trans (h.block i hi hn)⟩
theorem Chg.mono {S T : List Nat} {w w' : World} (h : Chg S w w') (hS : ∀ x ∈ S, x ∈ T ∨ w.heap.size ≤ x) : Chg T w w' :=
  ⟨h.os, h.tape, h.output, h.size, fun k hk hn => h.block k hk (fun hm => by
    rcases hS k hm with h' | h'
    · exact hn h'
    · omega)⟩
theorem Chg.to_below {S : List Nat} {w0 w w' : World} {B : Nat} (h : Chg S w w') (hb : Below B w0 w) (hB : B ≤ w.heap.size) (hS : ∀ x ∈ S, B ≤ x) : Below B w0 w' :=
  hb.trans ⟨h.os, h.tape, h.output, h.size, fun k hk => h.block k (by omega) (fun hm => by have := hS k hm; omega)⟩
theorem Chg.grown {S : List Nat} {a w w' : World} {row : Option Nat} (h : Chg S a w) (hg : w.grownBy w' row) (hr : ∀ k, row = some k → k ∈ S ∨ a.heap.size ≤ k) : Chg S a w' :=
  ⟨hg.os.trans h.os, hg.tape.trans h.tape, hg.output.trans h.output, Nat.le_trans h.size hg.size, fun k hk hn => (hg.block k (Nat.lt_of_lt_of_le hk h.size) (fun e => by
    rcases hr k e.symm with h' | h'
    · exact hn h'
    · omega)).trans (h.block k hk hn)⟩
theorem Chg.alloc {S : List Nat} {a w : World} (h : Chg S a w) (o : Obj) : Chg S a (w.alloc o) := h.grown (World.grownBy_alloc w o none) (fun k e => by cases e)
theorem Chg.drew {S : List Nat} {a w : World} (h : Chg S a w) : Chg S a w.drew := ⟨h.os, h.tape, h.output, h.size, h.block⟩
theorem Chg.setCell {S : List Nat} {a w : World} (h : Chg S a w) {p : Addr} (hp : p.block ∈ S ∨ a.heap.size ≤ p.block) (u : Value) : Chg S a (w.setCell p u) :=
  ⟨h.os, h.tape, h.output, by have := h.size; simpa [World.setCell] using this, fun k hk hn => by
    rw [Below.heap_setCell _ _ _ _ (fun e => by subst e; rcases hp with hp | hp <;> first | exact hn hp | omega)]
    exact h.block k hk hn⟩
theorem Chg.setRow {S : List Nat} {a w : World} (h : Chg S a w) {g : Nat} (hp : g ∈ S ∨ a.heap.size ≤ g) (cs : Array Value) : Chg S a (w.setRow g cs) :=
  ⟨h.os, h.tape, h.output, by have := h.size; simpa using this, fun k hk hn => by
    rw [setRow_other _ _ _ _ (fun e => by subst e; rcases hp with hp | hp <;> first | exact hn hp | omega)]
    exact h.block k hk hn⟩

/-- A row of bytes, as a value. -/
def secV (s : Sec) : Value := .agg (bcells s).toArray
def decB : Value → Option UInt8
  | .int .u8 n => if 0 ≤ n ∧ n < 256 then some (UInt8.ofNat n.toNat) else none
  | _ => none
theorem decB_bv (c : UInt8) : decB (bv c) = some c := by
  have := c.toNat_lt
  simp [decB, bv]
  omega
theorem decB_inv {v : Value} {c : UInt8} (h : decB v = some c) : v = bv c := by
  unfold decB at h
  split at h
  · split at h
    · rename_i n hn
      simp at h
      subst h
      simp [bv]
      omega
    · cases h
  · cases h
theorem mapM_decB (s : Sec) : (bcells s).mapM decB = some s := by
  induction s with
  | nil => rfl
  | cons c s ih =>
    show List.mapM decB (bv c :: bcells s) = _
    rw [List.mapM_cons, decB_bv, ih]
    rfl
theorem mapM_inv : ∀ {l : List Value} {s : Sec}, l.mapM decB = some s → l = bcells s
  | [], s, h => by simp at h; subst h; rfl
  | v :: l, s, h => by
    rw [List.mapM_cons] at h
    cases hv : decB v with
    | none => rw [hv] at h; simp at h
    | some c =>
      cases hl : l.mapM decB with
      | none => rw [hv, hl] at h; simp at h
      | some t =>
        rw [hv, hl] at h
        simp at h
        subst h
        rw [mapM_inv hl, decB_inv hv]
        rfl
/-- How a sector in a map reads. -/
def secR (v : Value) : Option (DataW Unit × List MemPlace) :=
  match v with
  | .agg cs => match cs.toList.mapM decB with
    | some s => if s.length = 64 then some (.lit (.string s), []) else none
    | none => none
  | _ => none
theorem secR_mk {s : Sec} (h : s.length = 64) : secR (secV s) = some (.lit (.string s), []) := by
  simp only [secR, secV, mapM_decB, h, if_true]
theorem secR_inv {v : Value} {y : DataW Unit × List MemPlace} (h : secR v = some y) : ∃ s : Sec, s.length = 64 ∧ v = secV s ∧ y = (.lit (.string s), []) := by
  unfold secR at h
  split at h
  · rename_i cs
    split at h
    · rename_i s hs
      split at h
      · rename_i hl
        simp at h
        refine ⟨s, hl, ?_, h.symm⟩
        have := mapM_inv hs
        unfold secV
        rw [← this]
      · cases h
    · cases h
  · cases h
theorem law_int : Keyed Try.prog 3 := int_keyed Try.underlying3
/-- A map that has the last write of each sector. -/
structure FreshOf (D : DataW Unit) (ws : List (Nat × Sec)) : Prop where
  at_ : ∀ (k : Nat) z, D.atKey (.int .i64 k) z = ((lastAt ws k).map (fun s => DataW.lit (.string s))).getD z
  keys : ∀ kl, Maps.has D kl = true → ∃ k : Nat, kl = .int .i64 k
theorem FreshOf.nil : FreshOf (.map []) [] := ⟨fun k z => rfl, fun kl h => by cases h⟩
theorem FreshOf.has {D : DataW Unit} {ws : List (Nat × Sec)} (h : FreshOf D ws) (k : Nat) : Maps.has D (.int .i64 k) = (lastAt ws k).isSome := by
  cases hl : lastAt ws k with
  | none => exact Maps.has_false_of_atKey (fun z => by rw [h.at_, hl]; rfl)
  | some s => exact Maps.has_true_of_atKey (y := .lit (.string s)) (fun z => by rw [h.at_, hl]; rfl)
theorem FreshOf.put {D : DataW Unit} {ws : List (Nat × Sec)} (h : FreshOf D ws) (hm : Maps.IsMap D) (i : Nat) (s : Sec) : FreshOf (D.put (.int .i64 i) (.lit (.string s))) (ws ++ [(i, s)]) := by
  refine ⟨fun k z => ?_, fun kl hk => ?_⟩
  · rw [lastAt_snoc]
    by_cases e : i = k
    · subst e
      rw [if_pos rfl, Maps.atKey_put_same (k := .int .i64 (i : Int)) hm (by trivial)]
      rfl
    · rw [if_neg e, Maps.atKey_put_other (fun h' => e (by cases h'; rfl)), h.at_]
  · by_cases e : kl = .int .i64 i
    · exact ⟨i, e⟩
    · rw [Maps.has_put_other e] at hk
      exact h.keys kl hk

def wcells (p : Nat × Sec) : List Value := .int .i64 (p.1 : Int) :: bcells p.2
/-- Where a disk lies: the pointer's block, the sectors', the map's, the writes'. -/
def blocksOf (B G M : Nat) (F : Value) : List Nat := B :: G :: M :: F.ownBlock.toList
structure DkAtX (w : World) (B G M cap : Nat) (F : Value) (D : DataW Unit) (d : Dk) : Prop where
  ok : d.ok
  head : w.heap[B]? = some (.cells #[.slice (some ⟨G, 0, none⟩) d.sure.length cap, .map (some M), F, .int .i64 (d.ws.length : Int)] 41 (0, 0))
  sure : w.ownsRow 0 74 64 (.slice (some ⟨G, 0, none⟩) d.sure.length cap) d.sure.length (d.sure.flatMap bcells)
  map : w.ownsMap Try.prog 3 secR M d.ws.length D
  fresh : FreshOf D d.ws
  first : w.ownsRow 0 76 65 F (min 64 d.ws.length) ((d.ws.take 64).flatMap wcells)
  bg : B ≠ G
  fb : F.ownBlock ≠ some B
  fg : F.ownBlock ≠ some G
/-- The disk d lies at block B, and takes the blocks S. -/
def DkAt (w : World) (B : Nat) (S : List Nat) (d : Dk) : Prop := ∃ G M cap F D, S = blocksOf B G M F ∧ DkAtX w B G M cap F D d

theorem lt_of_block {w : World} {b : Nat} {o : Obj} (h : w.heap[b]? = some o) : b < w.heap.size := (Array.getElem?_eq_some_iff.1 h).1
theorem DkAtX.lt {w : World} {B G M cap : Nat} {F : Value} {D : DataW Unit} {d : Dk} (h : DkAtX w B G M cap F D d) : ∀ x ∈ blocksOf B G M F, x < w.heap.size := by
  intro x hx
  simp only [blocksOf, List.mem_cons, Option.mem_toList] at hx
  rcases hx with rfl | rfl | rfl | hx
  · exact lt_of_block h.head
  · exact (h.sure.lt _ rfl).2
  · exact h.map.lt
  · exact (h.first.lt _ hx).2
theorem DkAt.lt {w : World} {B : Nat} {S : List Nat} {d : Dk} (h : DkAt w B S d) : ∀ x ∈ S, x < w.heap.size := by
  obtain ⟨G, M, cap, F, D, rfl, h⟩ := h
  exact h.lt
theorem DkAt.ok {w : World} {B : Nat} {S : List Nat} {d : Dk} (h : DkAt w B S d) : d.ok := by
  obtain ⟨G, M, cap, F, D, rfl, h⟩ := h
  exact h.ok
theorem DkAt.memB {w : World} {B : Nat} {S : List Nat} {d : Dk} (h : DkAt w B S d) : B ∈ S := by
  obtain ⟨G, M, cap, F, D, rfl, h⟩ := h
  simp [blocksOf]
theorem own_kept {w w' : World} {base : Nat} {e : TypeId} {size : Nat} {v : Value} {n : Nat} {xs : List Value} (h : w.ownsRow base e size v n xs) (hb : ∀ b, v.ownBlock = some b → w'.heap[b]? = w.heap[b]?) : w'.ownsRow base e size v n xs := by
  refine ⟨h.1, ?_⟩
  rcases h.2 with h1 | ⟨g, cap, cur, rfl, h2, h3, h4⟩
  · exact .inl h1
  · exact .inr ⟨g, cap, cur, rfl, h2, by rw [hb g rfl]; exact h3, h4⟩
theorem map_kept {w w' : World} {M n : Nat} {D : DataW Unit} (h : w.ownsMap Try.prog 3 secR M n D) (hb : w'.heap[M]? = w.heap[M]?) : w'.ownsMap Try.prog 3 secR M n D := by
  obtain ⟨es, clock, h1, h2⟩ := h
  exact ⟨es, clock, by rw [hb]; exact h1, h2⟩
theorem DkAtX.kept {w w' : World} {B G M cap : Nat} {F : Value} {D : DataW Unit} {d : Dk} (h : DkAtX w B G M cap F D d) (hb : ∀ x ∈ blocksOf B G M F, w'.heap[x]? = w.heap[x]?) : DkAtX w' B G M cap F D d :=
  ⟨h.ok, by rw [hb B (by simp [blocksOf])]; exact h.head, own_kept h.sure (fun b e => by cases e; exact hb G (by simp [blocksOf])), map_kept h.map (hb M (by simp [blocksOf])), h.fresh,
    own_kept h.first (fun b e => hb b (by simp [blocksOf, e])), h.bg, h.fb, h.fg⟩
theorem DkAt.kept {w w' : World} {B : Nat} {S : List Nat} {d : Dk} (h : DkAt w B S d) (hb : ∀ x ∈ S, w'.heap[x]? = w.heap[x]?) : DkAt w' B S d := by
  obtain ⟨G, M, cap, F, D, rfl, h⟩ := h
  exact ⟨G, M, cap, F, D, rfl, h.kept hb⟩
theorem DkAt.below {w w' : World} {B : Nat} {S : List Nat} {d : Dk} (h : DkAt w B S d) (hb : Below w.heap.size w w') : DkAt w' B S d := h.kept (fun x hx => hb.block x (h.lt x hx))
/-- A change of other blocks. -/
theorem DkAt.chg {w w' : World} {B : Nat} {S T : List Nat} {d : Dk} (h : DkAt w B S d) (hc : Chg T w w') (hd : ∀ x ∈ S, x ∉ T) : DkAt w' B S d := h.kept (fun x hx => hc.block x (h.lt x hx) (hd x hx))
theorem DkAtX.cells {w : World} {B G M cap : Nat} {F : Value} {D : DataW Unit} {d : Dk} (h : DkAtX w B G M cap F D d) :
    w.cell? ⟨B, 0, none⟩ = some (.slice (some ⟨G, 0, none⟩) d.sure.length cap) ∧ w.cell? ⟨B, 1, none⟩ = some (.map (some M)) ∧ w.cell? ⟨B, 2, none⟩ = some F ∧ w.cell? ⟨B, 3, none⟩ = some (.int .i64 (d.ws.length : Int)) := by
  have := h.head
  simp [World.cell?, this]
theorem DkAtX.cap {w : World} {B G M cap : Nat} {F : Value} {D : DataW Unit} {d : Dk} (h : DkAtX w B G M cap F D d) : d.sure.length ≤ cap ∧ cap ≤ maxLen := by
  obtain ⟨ao, c, e, h1, h2⟩ := own_len' h.sure
  cases e
  exact ⟨h1, h2⟩
/-- No block is two of them. -/
theorem DkAtX.apart {w : World} {B G M cap : Nat} {F : Value} {D : DataW Unit} {d : Dk} (h : DkAtX w B G M cap F D d) : M ≠ B ∧ M ≠ G ∧ F.ownBlock ≠ some M := by
  obtain ⟨es, clock, h1, _⟩ := h.map
  have h2 := h.head
  refine ⟨fun e => ?_, fun e => ?_, fun e => ?_⟩
  · subst e; rw [h1] at h2; cases h2
  · subst e
    rcases h.sure.2 with ⟨e, _⟩ | ⟨g, c, cur, e, _, h3, _⟩
    · cases e
    · cases e; rw [h1] at h3; cases h3
  · rcases h.first.2 with ⟨e', _⟩ | ⟨g, c, cur, e', _, h3, _⟩
    · subst e'; cases e
    · subst e'; cases e; rw [h1] at h3; cases h3
end Go.Proofs.Ytjaidhglemnakaa
