/- A range over a function whose iterator keeps a walk over a map in memory: what it turns between two rounds is that walk's object, laid since its call began. -/
import Derived.Test.YtboinccdnaddmaaGreatDoorGOver
import Derived.Test.YtboinccdnaddmaaGreatDoorGSep
set_option linter.unusedSimpArgs false
set_option linter.unusedVariables false
namespace Go.Proofs.YtboinccdnaddmaaGreatDoor
open Go.RowKit

def isIter : Obj → Bool
  | .mapIter .. => true
  | _ => false
/-- All is as it was but what was laid since, and walks' objects from block B on. -/
structure StepW (B : Nat) (W W' : World) : Prop where
  os : W'.os = W.os
  tape : W'.tape = W.tape
  output : W'.output = W.output
  size : W.heap.size ≤ W'.heap.size
  block : ∀ (k : Nat) (o : Obj), W.heap[k]? = some o → (k < B ∨ isIter o = false) → W'.heap[k]? = some o
theorem StepW.refl (B : Nat) (W : World) : StepW B W W := ⟨rfl, rfl, rfl, Nat.le_refl _, fun _ _ h _ => h⟩
theorem StepW.trans {B : Nat} {a b c : World} (h : StepW B a b) (k : StepW B b c) : StepW B a c :=
  ⟨k.os.trans h.os, k.tape.trans h.tape, k.output.trans h.output, Nat.le_trans h.size k.size, fun i o hi hn => k.block i o (h.block i o hi hn) hn⟩
theorem StepW.of_below {B : Nat} {W W' : World} (h : Below W.heap.size W W') : StepW B W W' :=
  ⟨h.os, h.tape, h.output, h.size, fun k o hk _ => (h.block k (blk_lt hk)).trans hk⟩
theorem StepW.grown {B : Nat} {W W' : World} {row : Option Nat} (hg : W.grownBy W' row) (hr : ∀ r, row = some r → B ≤ r ∧ ∃ o : Obj, W.heap[r]? = some o ∧ isIter o = true) : StepW B W W' :=
  ⟨hg.os, hg.tape, hg.output, hg.size, fun k o hk hn => (hg.block k (blk_lt hk) (fun e => by
    obtain ⟨h1, o', h2, h3⟩ := hr k e.symm
    rw [hk] at h2
    cases h2
    rcases hn with h | h
    · omega
    · rw [h] at h3; cases h3)).trans hk⟩
theorem StepW.below {B : Nat} {w0 W W' : World} (h : Below w0.heap.size w0 W) (k : StepW B W W') (hB : w0.heap.size ≤ B) : Below w0.heap.size w0 W' :=
  ⟨k.os.trans h.os, k.tape.trans h.tape, k.output.trans h.output, Nat.le_trans h.size k.size, fun i hi => by
    have h1 := h.block i hi
    have h2 : W.heap[i]? = some (w0.heap[i]'hi) := by rw [h1]; exact Array.getElem?_eq_getElem hi
    rw [k.block i _ h2 (.inl (by omega)), Array.getElem?_eq_getElem hi]⟩
theorem StepW.put {B : Nat} {A C : World} {k : Nat} {o : Obj} (h : StepW B A C) (hk : k < A.heap.size) (ho : isIter o = false) : StepW B (A.putObj k o) (C.putObj k o) := by
  have hs := h.size
  refine ⟨h.os, h.tape, h.output, by simpa using hs, fun i o' hi hn => ?_⟩
  by_cases e : i = k
  · subst e
    rw [World.putObj_heap_same hk] at hi
    rw [World.putObj_heap_same (by omega)]
    exact hi
  · rw [World.putObj_heap_other e] at hi ⊢
    exact h.block i o' hi hn

/-- An iterator's word: what of its own a round must keep is what walks lean on. -/
def SeqW {α : Type} (P : Program) (g : Nat) (lb : Array Value) (enc : α → Array Value) (Inv : List α → World → Prop) (Hx : List α → α → Prop) (S : List α → Prop) : Prop :=
  ∀ (l : Nat) (J : List α → World → Prop), (∀ pre W, J pre W → Inv pre W) → ∀ W, J [] W →
    (∀ pre x W1 W', J pre W1 → StepW W.heap.size W1 W' → Hx pre x → YieldAt Fence.wide 0 P l (enc x) W' fun e W'' => e = .returned (.bool true) ∧ J (pre ++ [x]) W'' ∧ KeepsWalks W' W'') →
    CallsIn Fence.wide 0 P g (#[.func (.yield l) #[] #[]] ++ lb) W fun e W' => (∃ v, e = .returned v) ∧ ∃ xs W1, S xs ∧ J xs W1 ∧ StepW W.heap.size W1 W'

theorem over_allW {α : Type} {P : Program} {g : Operand} {ps : Array Tmp} {assign body : Code} {Q : Exit → Act → World → Prop} {a : Act} {w : World}
    {gf : Nat} {lb : Array Value} (hg : a.eval g = .func (.func gf) #[] lb) (eg : ∀ args w, (callFunc gf args).run P w = .ok (.enter gf args) w)
    {enc : α → Array Value} {Inv : List α → World → Prop} {Hx : List α → α → Prop} {S : List α → Prop}
    (hseq : SeqW P gf lb enc Inv Hx S) (hps : ∀ x, (enc x).size = ps.size)
    (I : List α → World → Prop) (hInv : ∀ pre W, I pre W → Inv pre W)
    (hput : ∀ pre W k o o', (k = w.heap.size ∨ k = w.heap.size + 1) → I pre W → W.heap[k]? = some o → o.isCells = false → o.isWalk = false → I pre (W.putObj k o'))
    (h0 : ∀ o, I [] ((w.alloc (.deferred (some []))).alloc o)) (a₁ : α → Act)
    (hassign : ∀ (l : Nat) (x : α) (W : World) (K : Act → World → Prop), K (a₁ x) W →
      assign.wpIn (Fence.wide.inRound l) 0 P (Exit.then K (fun _ _ _ => False)) { tmps := (ps.zip (enc x)).foldl (fun t (p, v) => t.setIfInBounds p v) a.tmps, defers := [] } W)
    (hbody : ∀ (l : Nat) (pre : List α) (x : α) (W W' : World), I pre W → StepW (w.heap.size + 2) W W' → Hx pre x → w.heap.size + 2 ≤ W.heap.size →
      (∀ k, (k = w.heap.size ∨ k = w.heap.size + 1) → ∃ o, W'.heap[k]? = some o ∧ o.isCells = false ∧ o.isWalk = false) →
      body.wpIn (Fence.wide.inRound l) 0 P (RoundEnd fun W'' => (I (pre ++ [x]) W'' ∧ KeepsWalks W' W'') ∧ ∀ k, (k = w.heap.size ∨ k = w.heap.size + 1) → W''.heap[k]? = W'.heap[k]?) (a₁ x) W')
    (hdone : ∀ (xs : List α) (W1 W : World), S xs → I xs W1 → StepW (w.heap.size + 2) W1 W → w.heap.size + 2 ≤ W1.heap.size → W.heap[w.heap.size]? = some (.deferred (some [])) →
      Q .normal { a with defers := { target := .collected w.heap.size, args := #[] } :: a.defers } W) :
    (Code.rangeFunc g ps assign body).wpIn Fence.wide 0 P Q a w := by
  refine wpIn_rangeFunc ?_
  intro fn hfn
  rw [Fence.wide_round]
  obtain ⟨rc, hrc⟩ : ∃ rc : LoopState → Loop, rc = fun st => { state := st, pending := none, fn, tmps := a.tmps, params := ps, assign, body, defers := w.heap.size } := ⟨_, rfl⟩
  obtain ⟨W1, hW1⟩ : ∃ W1, (w.alloc (.deferred (some []))).alloc (.loop (rc .ready)) = W1 := ⟨_, rfl⟩
  have hL1 : W1.heap[w.heap.size + 1]? = some (.loop (rc .ready)) := by
    rw [← hW1]; have := World.alloc_heap_new (w.alloc (.deferred (some []))) (.loop (rc .ready)); rwa [World.size_alloc] at this
  have hK1 : W1.heap[w.heap.size]? = some (.deferred (some [])) := by
    rw [← hW1]; exact (Below.heap_alloc _ _ _ (by simp)).trans (World.alloc_heap_new w _)
  have hs1 : W1.heap.size = w.heap.size + 2 := by rw [← hW1]; simp
  have hI1 : I [] W1 := by rw [← hW1]; exact h0 _
  refine ⟨w.heap.size + 1, [{ target := .collected w.heap.size, args := #[] }], W1, { target := .fn (.func gf) lb, args := #[.func (.yield (w.heap.size + 1)) #[] #[]] }, W1, gf,
    #[.func (.yield (w.heap.size + 1)) #[] #[]] ++ lb, W1, ?_, ?_, ?_, ?_, (fun h => by simp [Fence.wide] at h), ?_⟩
  · rw [← hW1, hrc]; exact run_enterLoop_outer _ _ _ _ _
  · simp only [resolve, hg]
    simp [go_sem]
  · intro f' hf'; trivial
  · simp [invoke, go_sem, eg]
  · have hq := hseq (w.heap.size + 1) (fun pre W => (I pre W ∧ w.heap.size + 2 ≤ W.heap.size) ∧ W.heap[w.heap.size + 1]? = some (.loop (rc .ready)) ∧ W.heap[w.heap.size]? = some (.deferred (some [])))
      (fun pre W h => hInv pre W h.1.1) W1 ⟨⟨hI1, by omega⟩, hL1, hK1⟩ ?_
    · refine hq.mono ?_
      rintro e W2 ⟨⟨v, rfl⟩, xs, W3, hS, ⟨⟨hi, hz⟩, hl, hk⟩, hb⟩
      rw [hs1] at hb
      have hlt : w.heap.size + 1 < W3.heap.size := (Array.getElem?_eq_some_iff.1 hl).1
      have hl2 := hb.block _ _ hl (.inr rfl)
      have hk2 := hb.block _ _ hk (.inr rfl)
      refine ⟨none, _, by have := run_endLoop (P := P) hl2 (by rw [hrc]; simp); rw [hrc] at this; exact this, ?_⟩
      exact hdone xs (W3.putObj (w.heap.size + 1) _) (W2.putObj (w.heap.size + 1) _) hS (hput _ _ _ _ _ (.inr rfl) hi hl rfl rfl) (hb.put hlt rfl) (by rw [World.putObj_size]; omega) ((World.putObj_heap_other (by omega)).trans hk2)
    · rw [hs1]
      rintro pre x W W' ⟨⟨hi, hz⟩, hl, hk⟩ hb hx
      have hlt : w.heap.size + 1 < W.heap.size := (Array.getElem?_eq_some_iff.1 hl).1
      have hlt' : w.heap.size + 1 < W'.heap.size := Nat.lt_of_lt_of_le hlt hb.size
      have hl' : W'.heap[w.heap.size + 1]? = some (.loop (rc .ready)) := hb.block _ _ hl (.inr rfl)
      have hk' : W'.heap[w.heap.size]? = some (.deferred (some [])) := hb.block _ _ hk (.inr rfl)
      have hy := run_yield (P := P) (args := enc x) hl' (by rw [hrc]; exact hps x)
      rw [hrc] at hy
      refine ⟨fn, _, assign, body, hy, roundIn_of_wpIn hfn (hassign _ x W' _ ⟨_, run_beginRound hl' (by rw [hrc]), ?_⟩)⟩
      obtain ⟨bz, hbz⟩ : ∃ bz, bz = Obj.loop { rc .ready with state := .busy } := ⟨_, rfl⟩
      rw [← hbz]
      have hl2 : (W'.putObj (w.heap.size + 1) bz).heap[w.heap.size + 1]? = some bz := World.putObj_heap_same hlt'
      have hk2 : (W'.putObj (w.heap.size + 1) bz).heap[w.heap.size]? = some (.deferred (some [])) := (World.putObj_heap_other (by omega)).trans hk'
      refine wpIn_mono (hbody _ pre x (W.putObj (w.heap.size + 1) bz) (W'.putObj (w.heap.size + 1) bz) (hput _ _ _ _ _ (.inr rfl) hi hl rfl rfl) (hb.put hlt (by rw [hbz]; rfl)) hx (by rw [World.putObj_size]; omega) (by rintro k (rfl | rfl); exact ⟨_, hk2, rfl, rfl⟩; exact ⟨_, hl2, by rw [hbz]; rfl, by rw [hbz]; rfl⟩)) ?_
      rintro e a3 W3 hp
      cases e with
      | normal =>
        obtain ⟨⟨hi3, hkp3⟩, hs3⟩ := hp
        have hl3 := (hs3 _ (.inr rfl)).trans hl2
        have hk3 := (hs3 _ (.inl rfl)).trans hk2
        have hlt3 := (Array.getElem?_eq_some_iff.1 hl3).1
        rw [hbz] at hl3
        have he := run_endRound (P := P) none hl3
        rw [hrc] at he
        refine ⟨_, _, he, rfl, ⟨⟨hput _ _ _ _ _ (.inr rfl) hi3 hl3 rfl rfl, by rw [World.putObj_size]; omega⟩, ?_, ?_⟩, ?_⟩
        · rw [World.putObj_heap_same hlt3, hrc]; rfl
        · rw [World.putObj_heap_other (by omega)]; exact hk3
        · rw [hbz] at hkp3
          exact ((KeepsWalks.putObj _ hl' rfl).trans hkp3).trans (KeepsWalks.putObj _ hl3 rfl)
      | ret => exact hp.elim
      | exit id => exact hp.elim
      | goto t => exact hp.elim
      | panic ch => exact hp.elim
      | outgrown => exact hp.elim
end Go.Proofs.YtboinccdnaddmaaGreatDoor
