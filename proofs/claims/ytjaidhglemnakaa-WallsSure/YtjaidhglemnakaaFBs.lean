/- Bytes that are owned: one cell of them, one written, some written, a piece of them. -/
import Derived.Test.YtjaidhglemnakaaSLaw
set_option linter.unusedSimpArgs false
set_option linter.unusedVariables false
namespace Go.Proofs.Ytjaidhglemnakaa
open Go.RowKit

theorem bs_shape {w : World} {base : Nat} {v : Value} {bs : List UInt8} (h : BsAt w base v bs) (hp : 0 < bs.length) : ∃ g cap, v = .slice (some ⟨g, 0, none⟩) bs.length cap ∧ base ≤ g ∧ g < w.heap.size ∧ bs.length ≤ cap ∧ cap ≤ maxLen := by
  rcases h.2 with ⟨rfl, hn⟩ | ⟨g, cap, cur, rfl, hb, hg, hnc, hcm, hcs, ht⟩
  · omega
  · exact ⟨g, cap, rfl, hb, (h.lt g rfl).2, hnc, hcm⟩
theorem bs_cell {w : World} {base g n cap : Nat} {bs : List UInt8} (h : BsAt w base (.slice (some ⟨g, 0, none⟩) n cap) bs) {i : Nat} (hi : i < bs.length) : w.cell? ⟨g, i, none⟩ = some (.int .u8 ((bs[i]'hi).toNat : Int)) ∧ w.frozen? ⟨g, i, none⟩ = false := by
  have hc := h.cells (g := g) rfl i (bv (bs[i]'hi)) (by simp [bcells, hi])
  rw [Addr.add_lit] at hc
  simp only [Nat.zero_add] at hc
  refine ⟨hc, ?_⟩
  rcases h.2 with ⟨e, hn⟩ | ⟨g', cap', cur, e, hb, hg, hnc, hcm, hcs, ht⟩
  · cases e
  · simp only [Value.slice.injEq, Option.some.injEq, Addr.mk.injEq] at e
    obtain ⟨⟨rfl, -⟩, -⟩ := e
    simp [World.frozen?, hg]
theorem bs_set {w : World} {base g n cap : Nat} {bs : List UInt8} (h : BsAt w base (.slice (some ⟨g, 0, none⟩) n cap) bs) {i : Nat} (hi : i < bs.length) (x : UInt8) : BsAt (w.setCell ⟨g, i, none⟩ (.int .u8 (x.toNat : Int))) base (.slice (some ⟨g, 0, none⟩) n cap) (bs.set i x) := by
  unfold BsAt at h ⊢
  have hl : (bcells (bs.set i x)).length = (bs.set i x).length * 1 := by rw [bcells_len, Nat.mul_one]
  refine ⟨hl, ?_⟩
  rcases h.2 with ⟨e, hn⟩ | ⟨g', cap', cur, e, hb, hg, hnc, hcm, hcs, ht⟩
  · cases e
  · simp only [Value.slice.injEq, Option.some.injEq, Addr.mk.injEq] at e
    obtain ⟨⟨rfl, -⟩, rfl, rfl⟩ := e
    refine .inr ⟨g, cap, cur.setIfInBounds i (.int .u8 (x.toNat : Int)), by rw [List.length_set], hb, heap_setCell_same _ _ _ _ _ _ hg, by rw [List.length_set]; exact hnc, hcm, by rw [Array.size_setIfInBounds]; exact hcs, ?_⟩
    rw [Array.toList_setIfInBounds, List.length_set, List.take_set, ht]
    simp only [bcells, List.map_set]
    rfl
/-- Some bytes of a list, written from a place on. -/
def wrt (bs : List UInt8) (at_ : Nat) (l : List UInt8) : List UInt8 := bs.take at_ ++ (l ++ bs.drop (at_ + l.length))
theorem wrt_nil (bs : List UInt8) (a : Nat) : wrt bs a [] = bs := by unfold wrt; simp
theorem wrt_len (bs : List UInt8) (a : Nat) (l : List UInt8) (h : a + l.length ≤ bs.length) : (wrt bs a l).length = bs.length := by
  unfold wrt; simp only [List.length_append, List.length_take, List.length_drop]; omega
theorem wrt_step (bs : List UInt8) (a : Nat) (l : List UInt8) (k : Nat) (hk : k < l.length) (h : a + l.length ≤ bs.length) : (wrt bs a (l.take k)).set (a + k) (l[k]'hk) = wrt bs a (l.take (k + 1)) := by
  have hlk : (l.take k).length = k := by rw [List.length_take]; omega
  have hlk1 : (l.take (k + 1)).length = k + 1 := by rw [List.length_take]; omega
  have hta : (bs.take a).length = a := by rw [List.length_take]; omega
  unfold wrt
  rw [List.set_append_right _ _ (by omega), hta, Nat.add_sub_cancel_left, List.set_append_right _ _ (by omega), hlk, Nat.sub_self, hlk1, List.take_succ_eq_append_getElem hk, List.append_assoc]
  congr 2
  have hd : a + k < bs.length := by omega
  rw [List.drop_eq_getElem_cons hd]
  simp [Nat.add_assoc]
/-- A piece of a list, with no spare room. -/
theorem in_piece {w : World} {lim m cap i j : Nat} {ao ao' : Option Addr} {bs : List UInt8} (h : InAt w lim (.slice ao m cap) bs) (hij : i ≤ j) (hj : j ≤ bs.length) (ha : i < j → ∀ b off, ao = some ⟨b, off, none⟩ → ao' = some ⟨b, off + i, none⟩) : InAt w lim (.slice ao' (j - i) (j - i)) ((bs.drop i).take (j - i)) := by
  obtain ⟨ao1, cap', hv, h1, h2, h3⟩ := h
  simp only [Value.slice.injEq] at hv
  obtain ⟨rfl, rfl, rfl⟩ := hv
  have hl : ((bs.drop i).take (j - i)).length = j - i := by rw [List.length_take, List.length_drop]; omega
  refine ⟨ao', j - i, by rw [hl], by omega, by omega, fun hp => ?_⟩
  obtain ⟨b, off, e, hb, hc⟩ := h3 (by omega)
  refine ⟨b, off + i, ha (by omega) b off e, hb, fun k hk m u hu => ?_⟩
  rw [List.getElem_take, List.getElem_drop] at hu
  have := hc (i + k) (by omega) m u hu
  rwa [show off + (i + k) * 1 + m = off + i + k * 1 + m by omega] at this
end Go.Proofs.Ytjaidhglemnakaa
