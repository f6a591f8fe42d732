/- A book's lists of one kind, one more being kept; twins as lists; what argument lists weigh. -/
import Derived.Test.YtboinccdnaddmaaGreatDoorBKeep
set_option linter.unusedSimpArgs false
set_option linter.unusedVariables false
namespace Go.Proofs.YtboinccdnaddmaaGreatDoor
open Go.RowKit

/-- One more was kept: what the kind's lists lie in. -/
theorem dd_more {w : World} {v v' : Value} {E : List Ent} {x : Ent} (hm : Moved w v v') {b : Nat} (h : DD v' (E ++ [x]) b) : DD v E b ∨ x.l.ownBlock = some b ∨ w.heap.size ≤ b := by
  rcases h with h | ⟨y, hy, h⟩
  · rcases hm with e | ⟨c, e, hc⟩
    · exact .inl (.inl (by rw [← e]; exact h))
    · rw [e] at h; simp at h; subst h; exact .inr (.inr hc)
  · rcases List.mem_append.mp hy with hy | hy
    · exact .inl (.inr ⟨y, hy, h⟩)
    · obtain rfl : y = x := by simpa using hy
      exact .inr (.inl h)
theorem kat_more {w w' : World} {bk : Nat} {th e : TypeId} {s : Nat} {v v' : Value} {E : List Ent} {x : Ent} {xs : List Value} (h : KAt w th e s v E) (ho : w'.ownsRow 0 th 3 v' (E ++ [x]).length ((E ++ [x]).flatMap entCells)) (hm : Moved w v v')
    (hw : Wrote (fun b => b = bk ∨ v.ownBlock = some b) w w') (hlt : bk < w.heap.size) (hn : ¬ DD v E bk) (hx : w.ownsRow 0 e s x.l x.len xs) (h1 : x.len ≤ 1000000000) (h2 : x.n ≤ 1000000000) (h3 : x.long = .slice none 0 0) (h4 : E.length < 1000000000)
    (hb : ∀ b, x.l.ownBlock = some b → b ≠ bk ∧ ¬ DD v E b) : KAt w' th e s v' (E ++ [x]) ∧ ¬ DD v' (E ++ [x]) bk := by
  have hxw : w'.ownsRow 0 e s x.l x.len xs := own_wrote hx hw (fun b hb' hd => by
    rcases hd with hd | hd
    · exact (hb b hb').1 hd
    · exact (hb b hb').2 (.inl hd))
  have hlx : ∀ b, x.l.ownBlock = some b → b < w.heap.size := fun b hb' => (hx.lt b hb').2
  refine ⟨⟨ho, fun y hy => ?_, fun i j y z b hi hj hy hz => ?_, fun b hL hv => ?_, by simp; omega, fun y hy => ?_⟩, fun hd => ?_⟩
  · rcases List.mem_append.mp hy with hy | hy
    · obtain ⟨a1, a2, ys, a3⟩ := h.rows y hy
      refine ⟨a1, a2, ys, own_wrote a3 hw (fun b hb' hd => ?_)⟩
      rcases hd with rfl | hd
      · exact hn (.inr ⟨y, hy, hb'⟩)
      · exact h.off b ⟨y, hy, hb'⟩ hd
    · obtain rfl : y = x := by simpa using hy
      exact ⟨h1, h2, xs, hxw⟩
  · have key : ∀ (i : Nat) (y : Ent), (E ++ [x])[i]? = some y → (i < E.length ∧ E[i]? = some y) ∨ (i = E.length ∧ y = x) := fun i y hi => by
      rcases Nat.lt_or_ge i E.length with h' | h'
      · rw [List.getElem?_append_left h'] at hi; exact .inl ⟨h', hi⟩
      · rw [List.getElem?_append_right h'] at hi
        have h0 : i - E.length = 0 := by
          rcases Nat.eq_zero_or_pos (i - E.length) with h0 | h0
          · exact h0
          · rw [List.getElem?_eq_none (by show 1 ≤ _; omega)] at hi; cases hi
        rw [h0] at hi
        simp at hi
        exact .inr ⟨by omega, hi.symm⟩
    rcases key i y hi with ⟨_, hi'⟩ | ⟨hi', rfl⟩
    · rcases key j z hj with ⟨_, hj'⟩ | ⟨hj', rfl⟩
      · exact h.apart i j y z b hi' hj' hy hz
      · exact absurd (.inr ⟨y, List.mem_of_getElem? hi', hy⟩) (hb b hz).2
    · rcases key j z hj with ⟨_, hj'⟩ | ⟨hj', rfl⟩
      · exact absurd (.inr ⟨z, List.mem_of_getElem? hj', hz⟩) (hb b hy).2
      · omega
  · have hlt' : b < w.heap.size := by
      obtain ⟨y, hy, hy'⟩ := hL
      rcases List.mem_append.mp hy with hy | hy
      · exact h.lt (.inr ⟨y, hy, hy'⟩)
      · obtain rfl : y = x := by simpa using hy
        exact hlx b hy'
    rcases hm with e | ⟨c, e, hc⟩
    · rw [e] at hv
      obtain ⟨y, hy, hy'⟩ := hL
      rcases List.mem_append.mp hy with hy | hy
      · exact h.off b ⟨y, hy, hy'⟩ hv
      · obtain rfl : y = x := by simpa using hy
        exact (hb b hy').2 (.inl hv)
    · rw [e] at hv; simp at hv; omega
  · rcases List.mem_append.mp hy with hy | hy
    · exact h.fresh y hy
    · obtain rfl : y = x := by simpa using hy
      exact h3
  · rcases dd_more hm hd with hd | hd | hd
    · exact hn hd
    · exact (hb bk hd).1 rfl
    · omega
theorem kat_other {w w' : World} {bk : Nat} {th e : TypeId} {s : Nat} {v u : Value} {E F : List Ent} (h : KAt w th e s u F) (hw : Wrote (fun b => b = bk ∨ v.ownBlock = some b) w w') (hn : ¬ DD u F bk) (hd : ∀ b, DD v E b → ¬ DD u F b) : KAt w' th e s u F :=
  h.wrote hw (fun b hb hd' => by
    rcases hd' with rfl | hd'
    · exact hn hb
    · exact hd b (.inl hd') hb)

/-- The first of some that lie in a row. -/
theorem own_first {w : World} {base : Nat} {e : TypeId} {s g n cap : Nat} {xs ys : List Value} (h : w.ownsRow base e s (.slice (some ⟨g, 0, none⟩) (n + 1) cap) (n + 1) (xs ++ ys)) (hl : xs.length = n * s) : w.ownsRow base e s (.slice (some ⟨g, 0, none⟩) n cap) n xs := by
  refine ⟨hl, ?_⟩
  rcases h.2 with ⟨h1, _⟩ | ⟨g', cap', cur, h1, h2, h3, h4, h5, h6, h7⟩
  · cases h1
  · simp only [Value.slice.injEq, Option.some.injEq, Addr.mk.injEq, and_true, true_and] at h1
    obtain ⟨rfl, rfl⟩ := h1
    refine .inr ⟨g, cap, cur, rfl, h2, h3, by omega, h5, h6, ?_⟩
    have e1 : List.take (n * s) (List.take ((n + 1) * s) cur.toList) = List.take (n * s) (xs ++ ys) := by rw [h7]
    rw [List.take_take, Nat.min_eq_left (Nat.mul_le_mul_right _ (by omega))] at e1
    rw [e1, List.take_append_of_le_length (by omega), List.take_of_length_le (by omega)]
theorem flat_lenB {α : Type} {f : α → List Value} {s : Nat} (hf : ∀ x, (f x).length = s) (l : List α) : (l.flatMap f).length = l.length * s := by
  induction l with
  | nil => simp
  | cons x l ih => rw [List.flatMap_cons, List.length_append, ih, hf, List.length_cons, Nat.add_mul]; omega
theorem twin_own {α : Type} {f : α → List Value} {w : World} {base : Nat} {e : TypeId} {s g cap : Nat} {l : List α} {ys : List Value} (hf : ∀ x, (f x).length = s) (h : w.ownsRow base e s (.slice (some ⟨g, 0, none⟩) (l.length + 1) cap) (l.length + 1) (l.flatMap f ++ ys)) :
    w.ownsRow base e s (.slice (some ⟨g, 0, none⟩) l.length cap) l.length (l.flatMap f) := own_first h (flat_lenB hf l)

section
variable {H : Type} {enc : TypeId × Value → H} {W : World} {base : Nat} {sp : Nat → Bool} {held : Bool}
theorem weights_all {P : Program} {e : TypeId} : ∀ {l : List (DataW H)} {d : DataW H}, d ∈ l → ∀ n ∈ d.weights P e, n ∈ DataW.weightsAll P e l
  | x :: r, d, h, n, hn => by
    simp only [DataW.weightsAll, List.mem_append]
    rcases List.mem_cons.mp h with rfl | h
    · exact .inl hn
    · exact .inr (weights_all h n hn)
end
end Go.Proofs.YtboinccdnaddmaaGreatDoor
