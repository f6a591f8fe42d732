/- A number as a word: the walk of word; the table of powers of ten. -/
import Derived.Test.YtcgecdiaddcfkaaDoorRBook2
import Derived.Test.YtcgecdiaddcfkaaDoorShelf
import Derived.Lib.ItoaMem
set_option linter.unusedSimpArgs false
set_option linter.unusedVariables false
namespace Go.Proofs.YtcgecdiaddcfkaaDoor
open Go.RowKit Go.Shelf Go.Sort Go.Lib

/-- The table of powers of ten is as the program's text lays it. -/
abbrev Tab (w : World) : Prop := Lib.TabIs Tryd.prog w "internal/strconv.uint64pow10" .u64 Lib.pow10Tab
theorem tab_block {w w' : World} (h : Tab w) (hb : ∀ b, b < w.heap.size → Tryd.prog.globalNamed "internal/strconv.uint64pow10" = some b → w'.heap[b]? = w.heap[b]?) : Tab w' := by
  unfold Tab Lib.TabIs World.var? at *
  cases hg : Tryd.prog.globalNamed "internal/strconv.uint64pow10" with
  | none => simp [hg] at h
  | some g =>
    simp only [hg, Option.bind_some] at h ⊢
    have hlt : g < w.heap.size := by
      rcases Nat.lt_or_ge g w.heap.size with h' | h'
      · exact h'
      · rw [Array.getElem?_eq_none h'] at h; simp at h
    rw [hb g hlt hg]
    exact h
theorem tab_below {w w' : World} (h : Tab w) (hb : Below w.heap.size w w') : Tab w' := tab_block h (fun b hlt _ => hb.block b hlt)
theorem below_growN (w : World) (k : Nat) (os : Array Obj) : Below w.heap.size w (grow (w.drewN k) os) := by
  refine ⟨rfl, rfl, rfl, ?_, ?_⟩
  · show w.heap.size ≤ (w.heap ++ os).size
    simp
  · intro j hj
    show (w.heap ++ os)[j]? = w.heap[j]?
    rw [Array.getElem?_append_left hj]

theorem nDigits_small {g : Nat} (h : g < 4294967296) : Lib.nDigits g ≤ 20 := by
  rcases Nat.eq_zero_or_pos g with rfl | h1
  · rw [← Lib.decDigits_length, Lib.decDigits_one (by omega)]; simp
  · have := Lib.numDigits_eq g h1 (by omega); split at this <;> omega
def wordB (n : Nat) : ByteArray := ⟨#[35]⟩ ++ ⟨(Lib.itoa (n : Int)).toArray⟩

end Go.Proofs.YtcgecdiaddcfkaaDoor
