/- A range over a function: a law of my own, in which the iterator may hand over memory, keep memory of its own, and read what the body writes. -/
import Derived.Test.YtboinccdnaddmaaGreatDoorGBase
import Derived.RangeFuncNested
import Derived.RangeFuncBound
import Derived.RangeFuncCalls
import Derived.RangeFuncLeaves
import Derived.OwnWalkIn
import Derived.TacticsInMore
import Derived.LoopNIn
import Derived.LoopIn
set_option linter.unusedSimpArgs false
set_option linter.unusedVariables false
namespace Go.Proofs.YtboinccdnaddmaaGreatDoor
open Go.RowKit

/-- An iterator's word. Inv: what it wants to find between two rounds; Hx: what it hands over, with the world behind the last round and the world now; Kp: what of its own a round must keep; S: what all that is handed over is. -/
def SeqTo {α : Type} (P : Program) (g : Nat) (lb : Array Value) (enc : α → Array Value) (Inv : List α → World → Prop) (Hx : List α → α → World → World → Prop) (Kp : World → World → Prop) (S : List α → Prop) : Prop :=
  ∀ (l : Nat) (J : List α → World → Prop), (∀ pre W, J pre W → Inv pre W) →
    (∀ pre x W W', J pre W → Below W.heap.size W W' → Hx pre x W W' → YieldAt Fence.wide 0 P l (enc x) W' fun e W'' => e = .returned (.bool true) ∧ J (pre ++ [x]) W'' ∧ Kp W' W'') →
    ∀ W, J [] W → CallsIn Fence.wide 0 P g (#[.func (.yield l) #[] #[]] ++ lb) W fun e W' => (∃ v, e = .returned v) ∧ ∃ xs W1, S xs ∧ J xs W1 ∧ Below W1.heap.size W1 W'

/-- How a round's body is left: off its end. -/
def RoundEnd (R : World → Prop) : Exit → Act → World → Prop
  | .normal, _, W => R W
  | .ret, _, _ => False
  | .exit _, _, _ => False
  | .goto _, _, _ => False
  | .panic _, _, _ => False
  | .outgrown, _, _ => False

theorem below_put {A B : World} {k : Nat} {o : Obj} (h : Below A.heap.size A B) (hk : k < A.heap.size) : Below (A.putObj k o).heap.size (A.putObj k o) (B.putObj k o) := by
  have hs := h.size
  refine ⟨h.os, h.tape, h.output, by simpa using hs, fun i hi => ?_⟩
  rw [World.putObj_size] at hi
  by_cases e : i = k
  · subst e
    rw [World.putObj_heap_same (by omega), World.putObj_heap_same hi]
  · rw [World.putObj_heap_other e, World.putObj_heap_other e]
    exact h.block i hi

theorem over_all {α : Type} {P : Program} {g : Operand} {ps : Array Tmp} {assign body : Code} {Q : Exit → Act → World → Prop} {a : Act} {w : World}
    {gf : Nat} {lb : Array Value} (hg : a.eval g = .func (.func gf) #[] lb) (eg : ∀ args w, (callFunc gf args).run P w = .ok (.enter gf args) w)
    {enc : α → Array Value} {Inv : List α → World → Prop} {Hx : List α → α → World → World → Prop} {Kp : World → World → Prop} {S : List α → Prop}
    (hseq : SeqTo P gf lb enc Inv Hx Kp S) (hps : ∀ x, (enc x).size = ps.size)
    (I : List α → World → Prop) (hInv : ∀ pre W, I pre W → Inv pre W)
    (hput : ∀ pre W k o o', (k = w.heap.size ∨ k = w.heap.size + 1) → I pre W → W.heap[k]? = some o → o.isCells = false → o.isWalk = false → I pre (W.putObj k o'))
    (hHx : ∀ pre x W W' k o, k < W.heap.size → Hx pre x W W' → Hx pre x (W.putObj k o) (W'.putObj k o))
    (hKp : ∀ W W3 k o o' o3 o3', W.heap[k]? = some o → o.isCells = false → W3.heap[k]? = some o3 → o3.isCells = false → Kp (W.putObj k o') W3 → Kp W (W3.putObj k o3'))
    (h0 : ∀ o, I [] ((w.alloc (.deferred (some []))).alloc o)) (a₁ : α → Act)
    (hassign : ∀ (l : Nat) (x : α) (W : World) (K : Act → World → Prop), K (a₁ x) W →
      assign.wpIn (Fence.wide.inRound l) 0 P (Exit.then K (fun _ _ _ => False)) { tmps := (ps.zip (enc x)).foldl (fun t (p, v) => t.setIfInBounds p v) a.tmps, defers := [] } W)
    (hbody : ∀ (l : Nat) (pre : List α) (x : α) (W W' : World), I pre W → Below W.heap.size W W' → Hx pre x W W' → w.heap.size + 2 ≤ W.heap.size →
      (∀ k, (k = w.heap.size ∨ k = w.heap.size + 1) → ∃ o, W'.heap[k]? = some o ∧ o.isCells = false ∧ o.isWalk = false) →
      body.wpIn (Fence.wide.inRound l) 0 P (RoundEnd fun W'' => (I (pre ++ [x]) W'' ∧ Kp W' W'') ∧ ∀ k, (k = w.heap.size ∨ k = w.heap.size + 1) → W''.heap[k]? = W'.heap[k]?) (a₁ x) W')
    (hdone : ∀ (xs : List α) (W1 W : World), S xs → I xs W1 → Below W1.heap.size W1 W → w.heap.size + 2 ≤ W1.heap.size → W.heap[w.heap.size]? = some (.deferred (some [])) →
      Q .normal { a with defers := { target := .collected w.heap.size, args := #[] } :: a.defers } W) :
    (Code.rangeFunc g ps assign body).wpIn Fence.wide 0 P Q a w := by
  refine wpIn_rangeFunc ?_
  intro fn hfn
  rw [Fence.wide_round]
  obtain ⟨rc, hrc⟩ : ∃ rc : LoopState → Loop, rc = fun st => { state := st, pending := none, fn, tmps := a.tmps, params := ps, assign, body, defers := w.heap.size } := ⟨_, rfl⟩
  obtain ⟨W1, hW1⟩ : ∃ W1, (w.alloc (.deferred (some []))).alloc (.loop (rc .ready)) = W1 := ⟨_, rfl⟩
  have hL1 : W1.heap[w.heap.size + 1]? = some (.loop (rc .ready)) := by
    rw [← hW1]; have := World.alloc_heap_new (w.alloc (.deferred (some []))) (.loop (rc .ready)); rwa [World.size_alloc] at this
  have hK1 : W1.heap[w.heap.size]? = some (.deferred (some [])) := by
    rw [← hW1]; exact (Below.heap_alloc _ _ _ (by simp)).trans (World.alloc_heap_new w _)
  have hI1 : I [] W1 := by rw [← hW1]; exact h0 _
  refine ⟨w.heap.size + 1, [{ target := .collected w.heap.size, args := #[] }], W1, { target := .fn (.func gf) lb, args := #[.func (.yield (w.heap.size + 1)) #[] #[]] }, W1, gf,
    #[.func (.yield (w.heap.size + 1)) #[] #[]] ++ lb, W1, ?_, ?_, ?_, ?_, (fun h => by simp [Fence.wide] at h), ?_⟩
  · rw [← hW1, hrc]; exact run_enterLoop_outer _ _ _ _ _
  · simp only [resolve, hg]
    simp [go_sem]
  · intro f' hf'; trivial
  · simp [invoke, go_sem, eg]
  · refine (hseq (w.heap.size + 1) (fun pre W => I pre W ∧ W.heap[w.heap.size + 1]? = some (.loop (rc .ready)) ∧ W.heap[w.heap.size]? = some (.deferred (some [])))
      (fun pre W h => hInv pre W h.1) ?_ W1 ⟨hI1, hL1, hK1⟩).mono ?_
    · rintro pre x W W' ⟨hi, hl, hk⟩ hb hx
      have hlt : w.heap.size + 1 < W.heap.size := (Array.getElem?_eq_some_iff.1 hl).1
      have hlt' : w.heap.size + 1 < W'.heap.size := Nat.lt_of_lt_of_le hlt hb.size
      have hl' : W'.heap[w.heap.size + 1]? = some (.loop (rc .ready)) := (hb.block _ hlt).trans hl
      have hk' : W'.heap[w.heap.size]? = some (.deferred (some [])) := (hb.block _ (by omega)).trans hk
      have hy := run_yield (P := P) (args := enc x) hl' (by rw [hrc]; exact hps x)
      rw [hrc] at hy
      refine ⟨fn, _, assign, body, hy, roundIn_of_wpIn hfn (hassign _ x W' _ ⟨_, run_beginRound hl' (by rw [hrc]), ?_⟩)⟩
      obtain ⟨bz, hbz⟩ : ∃ bz, bz = Obj.loop { rc .ready with state := .busy } := ⟨_, rfl⟩
      rw [← hbz]
      have hl2 : (W'.putObj (w.heap.size + 1) bz).heap[w.heap.size + 1]? = some bz := World.putObj_heap_same hlt'
      have hk2 : (W'.putObj (w.heap.size + 1) bz).heap[w.heap.size]? = some (.deferred (some [])) := (World.putObj_heap_other (by omega)).trans hk'
      refine wpIn_mono (hbody _ pre x (W.putObj (w.heap.size + 1) bz) (W'.putObj (w.heap.size + 1) bz) (hput _ _ _ _ _ (.inr rfl) hi hl rfl rfl) (below_put hb hlt) (hHx _ _ _ _ _ _ hlt hx) (by rw [World.putObj_size]; omega) (by rintro k (rfl | rfl); exact ⟨_, hk2, rfl, rfl⟩; exact ⟨_, hl2, by rw [hbz]; rfl, by rw [hbz]; rfl⟩)) ?_
      rintro e a3 W3 hp
      cases e with
      | normal =>
        obtain ⟨⟨hi3, hkp3⟩, hs3⟩ := hp
        have hl3 := (hs3 _ (.inr rfl)).trans hl2
        have hk3 := (hs3 _ (.inl rfl)).trans hk2
        have hlt3 := (Array.getElem?_eq_some_iff.1 hl3).1
        rw [hbz] at hl3
        have he := run_endRound (P := P) none hl3
        rw [hrc] at he
        refine ⟨_, _, he, rfl, ⟨hput _ _ _ _ _ (.inr rfl) hi3 hl3 rfl rfl, ?_, ?_⟩, ?_⟩
        · rw [World.putObj_heap_same hlt3, hrc]; rfl
        · rw [World.putObj_heap_other (by omega)]; exact hk3
        · rw [hbz] at hkp3
          exact hKp _ _ _ _ _ _ _ hl' rfl hl3 rfl hkp3
      | ret => exact hp.elim
      | exit id => exact hp.elim
      | goto t => exact hp.elim
      | panic ch => exact hp.elim
      | outgrown => exact hp.elim
    · rintro e W2 ⟨⟨v, rfl⟩, xs, W3, hS, ⟨hi, hl, hk⟩, hb⟩
      have hlt : w.heap.size + 1 < W3.heap.size := (Array.getElem?_eq_some_iff.1 hl).1
      have hl2 := (hb.block _ hlt).trans hl
      have hk2 := (hb.block _ (show w.heap.size < _ by omega)).trans hk
      refine ⟨none, _, by have := run_endLoop (P := P) hl2 (by rw [hrc]; simp); rw [hrc] at this; exact this, ?_⟩
      exact hdone xs (W3.putObj (w.heap.size + 1) _) (W2.putObj (w.heap.size + 1) _) hS (hput _ _ _ _ _ (.inr rfl) hi hl rfl rfl) (below_put hb hlt) (by rw [World.putObj_size]; omega) ((World.putObj_heap_other (by omega)).trans hk2)
end Go.Proofs.YtboinccdnaddmaaGreatDoor
