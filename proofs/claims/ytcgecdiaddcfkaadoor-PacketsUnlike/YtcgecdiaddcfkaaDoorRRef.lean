/- The walks of the document's own Count, Number and text: a count, a number, a text as bytes. -/
import Derived.Test.YtcgecdiaddcfkaaDoorRefCheck
import Derived.Test.YtcgecdiaddcfkaaDoorRLaw
set_option linter.unusedSimpArgs false
set_option linter.unusedVariables false
namespace Go.Proofs.YtcgecdiaddcfkaaDoor
open Go.RowKit

theorem bs_lit (w : World) (bs : List UInt8) (vs : List Value) (h : vs = bcells bs) (n : Nat) (hn : bs.length = n) (hm : n ≤ maxLen) : BsAt (w.alloc (.cells vs.toArray 5)) w.heap.size (.slice (some ⟨w.heap.size, 0, none⟩) n n) bs := by
  subst h hn
  unfold BsAt
  have := World.ownsRow_lit (base := w.heap.size) (e := 5) (size := 1) w (bcells bs).toArray bs.length (Nat.le_refl _) hm (by simp [bcells_len])
  simpa using this

/-- What is appended to bytes that are owned: other bytes that are owned. -/
theorem src_own {w : World} {base : Nat} {v : Value} {bs : List UInt8} (h : BsAt w base v bs) (hp : 0 < bs.length) : ∃ g cap, v = .slice (some ⟨g, 0, none⟩) bs.length cap ∧ Src Tryd.prog 1 28 (.slice (some ⟨g, 0, none⟩) bs.length cap) bs.length (bcells bs) w := by
  obtain ⟨g, cap, hv, _, _⟩ := h.form hp
  subst hv
  exact ⟨g, cap, rfl, Src.ofSlice _ Tryd.underlying28 ⟨g, 0, none⟩ bs.length cap (bcells bs) (by rw [bcells_len]; omega) (World.ownsRow.cells h rfl) (bcells_one _)⟩
theorem bs_next {w W w1 : World} {H : Nat} {v v' : Value} {bs news : List UInt8} (h : BsAt W H v bs) (hB : Below H w W) (hs : H ≤ W.heap.size) (ho : w1.ownsRow H 5 1 v' (bs.length + news.length) (bcells bs ++ bcells news)) (hg : W.grownBy w1 v.ownBlock) : BsAt w1 H v' (bs ++ news) ∧ Below H w w1 := by
  refine ⟨?_, hB.grown hg hs (fun k e => own_row_ge h k e)⟩
  unfold BsAt
  rw [List.length_append, bcells_app]; exact ho
end Go.Proofs.YtcgecdiaddcfkaaDoor
