/- A book that holds lists of ids alone: what holds of it, one more being kept, Apart; lists may be made behind the book. -/
import Derived.Test.YtboinccdnaddmaaGreatDoorIKpId
import Derived.Test.YtboinccdnaddmaaGreatDoorIApIs
import Derived.Test.YtboinccdnaddmaaGreatDoorBKat
set_option linter.unusedSimpArgs false
set_option linter.unusedVariables false
namespace Go.Proofs.YtboinccdnaddmaaGreatDoor
open Go.RowKit

structure BkB (w : World) (bk n : Nat) (v : Value) (E : List Ent) : Prop where
  hB : w.heap[bk]? = some (.cells #[.int .i64 (n : Int), .slice none 0 0, v, .slice none 0 0, .slice none 0 0, .slice none 0 0, .slice none 0 0, .slice none 0 0, .slice none 0 0, .slice none 0 0, .slice none 0 0, .slice none 0 0, .slice none 0 0] 42 (0, 0))
  k : KAt w 81 43 1 v E
  nb : ¬ DD v E bk
  f : E.length ≤ n
/-- The blocks of the book, of its array, and of its lists. -/
def BkS (bk : Nat) (v : Value) (E : List Ent) (b : Nat) : Prop := b = bk ∨ DD v E b
theorem BkB.lt {w : World} {bk n : Nat} {v : Value} {E : List Ent} (I : BkB w bk n v E) : ∀ b, BkS bk v E b → b < w.heap.size := by
  rintro b (rfl | h)
  · rcases Nat.lt_or_ge b w.heap.size with h' | h'
    · exact h'
    · have := I.hB; rw [Array.getElem?_eq_none h'] at this; cases this
  · exact I.k.lt h
theorem BkB.new (w : World) : BkB (w.alloc (.cells #[.int .i64 0, .slice none 0 0, .slice none 0 0, .slice none 0 0, .slice none 0 0, .slice none 0 0, .slice none 0 0, .slice none 0 0, .slice none 0 0, .slice none 0 0, .slice none 0 0, .slice none 0 0, .slice none 0 0] 42)) w.heap.size 0 (.slice none 0 0) [] :=
  ⟨by show (w.heap.push _)[w.heap.size]? = _; exact Array.getElem?_push_size, KAt_nil _ _ _ _, (fun h => by rcases h with h | ⟨x, hx, _⟩; cases h; cases hx), Nat.le_refl _⟩
theorem BkB.wrote {d : Nat → Prop} {w w' : World} {bk n : Nat} {v : Value} {E : List Ent} (I : BkB w bk n v E) (hw : Wrote d w w') (hd : ∀ b, BkS bk v E b → ¬ d b) : BkB w' bk n v E :=
  ⟨(hw.block bk (I.lt bk (.inl rfl)) (hd bk (.inl rfl))).trans I.hB, I.k.wrote hw (fun b hb => hd b (.inr hb)), I.nb, I.f⟩
/-- One more list is kept. -/
theorem keepB {w : World} {bk n ln cl : Nat} {al : Option Addr} {xs : List Value} {v : Value} {E : List Ent} (I : BkB w bk n v E) (hn : n ≤ 100000)
    (hx : w.ownsRow 0 43 1 (.slice al ln cl) ln xs) (hln : ln ≤ 1000000000) (hf : ∀ b, (Value.slice al ln cl).ownBlock = some b → ¬ BkS bk v E b) :
    Calls Tryz.prog 12 #[ptr bk, .slice al ln cl] w fun e w' => e = .returned (.tuple #[]) ∧ ∃ v' E', BkB w' bk (n + 1) v' E' ∧ Wrote (BkS bk v E) w w' ∧ ∀ b, BkS bk v' E' b → BkS bk v E b ∨ (Value.slice al ln cl).ownBlock = some b ∨ w.heap.size ≤ b := by
  have hlt := I.lt bk (.inl rfl)
  have hf2 := I.f
  obtain ⟨ao, m, cp, rfl⟩ := own_slice I.k.held
  refine (bookIds_any w bk n m cp ln cl ao al _ _ _ _ _ _ _ _ _ _ _ E I.hB (by omega) I.k.held (by omega) (fun h => I.nb (.inl h))).mono ?_
  rintro e w' ⟨rfl, v', hB', ho, hm, hw⟩
  obtain ⟨kX, nX'⟩ := kat_more (x := Ent.mk (.slice al ln cl) (.slice none 0 0) ln (n + 1)) I.k ho hm hw hlt I.nb hx hln (by show n + 1 ≤ _; omega) rfl (by omega) (fun b hb => ⟨fun e => hf b hb (.inl e), fun h => hf b hb (.inr h)⟩)
  refine ⟨rfl, v', E ++ [Ent.mk (.slice al ln cl) (.slice none 0 0) ln (n + 1)], ⟨by rw [show (((n + 1 : Nat)) : Int) = (n : Int) + 1 from by omega]; exact hB', kX, nX', by rw [List.length_append]; show _ + 1 ≤ _; omega⟩, hw.weak (fun b _ h => by
    rcases h with h | h
    · exact .inl h
    · exact .inr (.inl h)), fun b hb => ?_⟩
  rcases hb with h | h | ⟨y, hy, hb⟩
  · exact .inl (.inl h)
  · rcases hm with e | ⟨c, e, hc⟩
    · exact .inl (.inr (.inl (by rw [← e]; exact h)))
    · rw [e] at h; simp at h; right; right; omega
  · rcases List.mem_append.mp hy with hy | hy
    · exact .inl (.inr (.inr ⟨y, hy, hb⟩))
    · rw [List.mem_singleton.mp hy] at hb; exact .inr (.inl hb)
theorem apartB {w0 w : World} {bk n : Nat} {v : Value} {E : List Ent} (I : BkB w bk n v E) (hb : Below w0.heap.size w0 w) (hS : ∀ b, BkS bk v E b → w0.heap.size ≤ b) :
    Calls Tryz.prog 15 #[ptr bk] w fun e w' => e = .returned (.bool true) ∧ Below w0.heap.size w0 w' := by
  refine (apartIs_any w bk n v E I.hB I.k I.nb).mono ?_
  rintro e w' ⟨rfl, hw⟩
  exact ⟨rfl, hb.trans (hw.below hb.size (fun k hk hd => by have := hS k (.inr hd); omega))⟩
end Go.Proofs.YtboinccdnaddmaaGreatDoor
