/- A number as a word: the walk of word; the table of powers of ten. -/
import Derived.Test.YtndjgilheleplaaGreatDoorRBook2
import Derived.Test.YtndjgilheleplaaGreatDoorShelf
import Derived.Lib.ItoaMem
set_option linter.unusedSimpArgs false
set_option linter.unusedVariables false
namespace Go.Proofs.YtndjgilheleplaaGreatDoor
open Go.RowKit Go.Shelf Go.Sort Go.Lib

/-- The table of powers of ten is as the program's text lays it. -/
abbrev Tab (w : World) : Prop := Lib.TabIs Tryz.prog w "internal/strconv.uint64pow10" .u64 Lib.pow10Tab
theorem tab_block {w w' : World} (h : Tab w) (hb : ∀ b, b < w.heap.size → Tryz.prog.globalNamed "internal/strconv.uint64pow10" = some b → w'.heap[b]? = w.heap[b]?) : Tab w' := by
  unfold Tab Lib.TabIs World.var? at *
  cases hg : Tryz.prog.globalNamed "internal/strconv.uint64pow10" with
  | none => simp [hg] at h
  | some g =>
    simp only [hg, Option.bind_some] at h ⊢
    have hlt : g < w.heap.size := by
      rcases Nat.lt_or_ge g w.heap.size with h' | h'
      · exact h'
      · rw [Array.getElem?_eq_none h'] at h; simp at h
    rw [hb g hlt hg]
    exact h
theorem tab_below {w w' : World} (h : Tab w) (hb : Below w.heap.size w w') : Tab w' := tab_block h (fun b hlt _ => hb.block b hlt)
theorem below_growN (w : World) (k : Nat) (os : Array Obj) : Below w.heap.size w (grow (w.drewN k) os) := by
  refine ⟨rfl, rfl, rfl, ?_, ?_⟩
  · show w.heap.size ≤ (w.heap ++ os).size
    simp
  · intro j hj
    show (w.heap ++ os)[j]? = w.heap[j]?
    rw [Array.getElem?_append_left hj]

theorem nDigits_small {g : Nat} (h : g < 4294967296) : Lib.nDigits g ≤ 20 := by
  rcases Nat.eq_zero_or_pos g with rfl | h1
  · rw [← Lib.decDigits_length, Lib.decDigits_one (by omega)]; simp
  · have := Lib.numDigits_eq g h1 (by omega); split at this <;> omega
def wordB (n : Nat) : ByteArray := ⟨#[35]⟩ ++ ⟨(Lib.itoa (n : Int)).toArray⟩

set_option maxHeartbeats 1000000 in
set_option maxRecDepth 1000000 in
theorem word_any (n : Nat) (hn : n ≤ 1000000000) (w : World) (htab : Tab w) :
    Calls Tryz.prog 167 #[.int .i64 (n : Int)] w fun e w' => e = .returned (.string (wordB n)) ∧ Below w.heap.size w w' := by
  have k0 := Proofs.Tryz.strconv_Itoa (n : Int) (by omega) (by omega) w htab
  have k := k0.mono (fun e w' ⟨h1, j, os, h2⟩ => (⟨h1, h2 ▸ below_growN w j os⟩ : e = _ ∧ Below w.heap.size w w'))
  clear k0
  have hl : (ByteArray.mk (Lib.itoa (n : Int)).toArray).size ≤ 20 := by
    show (Lib.itoa (n : Int)).toArray.size ≤ 20
    rw [List.size_toArray, Lib.itoa_nonneg, Lib.decDigits_length]; exact nDigits_small (by omega)
  unfold wordB
  generalize hS : ByteArray.mk (Lib.itoa (n : Int)).toArray = S at *
  clear hS
  go_enter Tryz.func167, Tryz.ntmps167
  go_wp2_with fail
  refine k.mono ?_
  rintro e w' ⟨rfl, hb⟩
  go_wp2
  go_ret
  exact ⟨rfl, hb⟩
end Go.Proofs.YtndjgilheleplaaGreatDoor
