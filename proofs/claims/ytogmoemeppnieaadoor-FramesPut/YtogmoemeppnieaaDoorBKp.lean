/- A book of bytes, and lists that are still to be kept in it: none shares a block with another one. -/
import Derived.Test.YtogmoemeppnieaaDoorBBiBs
set_option linter.unusedSimpArgs false
set_option linter.unusedVariables false
namespace Go.Proofs.YtogmoemeppnieaaDoor
open Go.RowKit

theorem own_from {w : World} {base base' : Nat} {e : TypeId} {size : Nat} {v : Value} {n : Nat} {xs : List Value} (h : w.ownsRow base e size v n xs) (hb : base' ≤ base) : w.ownsRow base' e size v n xs := by
  refine ⟨h.1, ?_⟩
  rcases h.2 with h1 | ⟨g, cap, cur, h1, h2, h3⟩
  · exact .inl h1
  · exact .inr ⟨g, cap, cur, h1, by omega, h3⟩
/-- The book at bk has n lists; those of Ps are to come; all lies from w0's end on. -/
structure KpX (w0 W : World) (bk n : Nat) (v : Value) (E : List Ent) (Ps : List Value) : Prop where
  bb : BkB W bk n v E
  be : Below w0.heap.size w0 W
  bs : ∀ b, BkS bk v E b → w0.heap.size ≤ b
  own : ∀ p ∈ Ps, ∃ al ln cl xs, p = .slice al ln cl ∧ ln ≤ 1000000000 ∧ W.ownsRow 0 5 1 p ln xs
  off : ∀ p ∈ Ps, ∀ b, p.ownBlock = some b → w0.heap.size ≤ b ∧ ¬ BkS bk v E b
  apart : Ps.Pairwise (fun p q => ∀ b, p.ownBlock = some b → q.ownBlock ≠ some b)
def KpI (w0 W : World) (bk n : Nat) (Ps : List Value) : Prop := ∃ v E, KpX w0 W bk n v E Ps
theorem kp_keep {w0 W : World} {bk n : Nat} {p : Value} {Ps : List Value} (h : KpI w0 W bk n (p :: Ps)) (hn : n ≤ 100000) :
    Calls Tryd.prog 9 #[ptr bk, p] W fun e W' => e = .returned (.tuple #[]) ∧ KpI w0 W' bk (n + 1) Ps := by
  obtain ⟨v, E, h⟩ := h
  obtain ⟨al, ln, cl, xs, rfl, hln, hx⟩ := h.own _ (List.mem_cons_self ..)
  have hof := h.off _ (List.mem_cons_self ..)
  refine (keepB h.bb hn hx hln (fun b e => (hof b e).2)).mono ?_
  rintro e W' ⟨rfl, v', E', kb, kw, ks⟩
  have hbe := h.be.size
  have hap := List.pairwise_cons.1 h.apart
  refine ⟨rfl, v', E', kb, h.be.trans (kw.below hbe (fun x hx hm => by have := h.bs x hm; omega)), fun x hx => ?_, fun q hq => ?_, fun q hq b e => ?_, hap.2⟩
  · rcases ks x hx with e | e | e
    · exact h.bs x e
    · exact (hof x e).1
    · omega
  · obtain ⟨al', ln', cl', xs', rfl, h1, h2⟩ := h.own q (List.mem_cons_of_mem _ hq)
    exact ⟨al', ln', cl', xs', rfl, h1, own_wrote h2 kw (fun b e => (h.off _ (List.mem_cons_of_mem _ hq) b e).2)⟩
  · have hq' := h.off q (List.mem_cons_of_mem _ hq) b e
    refine ⟨hq'.1, fun hm => ?_⟩
    rcases ks b hm with e' | e' | e'
    · exact hq'.2 e'
    · exact hap.1 q hq b e' e
    · obtain ⟨al', ln', cl', xs', rfl, h1, h2⟩ := h.own q (List.mem_cons_of_mem _ hq)
      have := (h2.lt b e).2
      omega
theorem kp_apart {w0 W : World} {bk n : Nat} (h : KpI w0 W bk n []) :
    Calls Tryd.prog 10 #[ptr bk] W fun e w' => e = .returned (.bool true) ∧ Below w0.heap.size w0 w' := by
  obtain ⟨v, E, h⟩ := h
  exact apartB h.bb h.be h.bs
theorem kp_new {w0 W : World} {Ps : List Value} (be : Below w0.heap.size w0 W) (own : ∀ p ∈ Ps, ∃ al ln cl xs, p = .slice al ln cl ∧ ln ≤ 1000000000 ∧ W.ownsRow w0.heap.size 5 1 p ln xs) (apart : Ps.Pairwise (fun p q => ∀ b, p.ownBlock = some b → q.ownBlock ≠ some b)) :
    KpI w0 (W.alloc (.cells #[.int .i64 0, .slice none 0 0, .slice none 0 0, .slice none 0 0, .slice none 0 0, .slice none 0 0, .slice none 0 0, .slice none 0 0, .slice none 0 0, .slice none 0 0, .slice none 0 0, .slice none 0 0, .slice none 0 0] 41)) W.heap.size 0 Ps := by
  have hz := be.size
  have hbS : ∀ x, BkS W.heap.size (.slice none 0 0) [] x → x = W.heap.size := by
    rintro x (h | h | ⟨y, hy, _⟩)
    · exact h
    · cases h
    · cases hy
  refine ⟨_, _, BkB.new W, be.trans ((below_one W _).mono hz), fun b h => by rw [hbS b h]; exact hz, fun p hp => ?_, fun p hp b e => ?_, apart⟩
  · obtain ⟨al, ln, cl, xs, rfl, h1, h2⟩ := own p hp
    exact ⟨al, ln, cl, xs, rfl, h1, (own_from h2 (Nat.zero_le _)).alloc _⟩
  · obtain ⟨al, ln, cl, xs, rfl, h1, h2⟩ := own p hp
    have := h2.lt b e
    exact ⟨this.1, fun hm => by have := hbS b hm; omega⟩
end Go.Proofs.YtogmoemeppnieaaDoor
