/- The order of texts by bytes; the walk of keys.In: whether a text is from one to another one. -/
import Derived.Test.YthcngkikclaodaaDoorRows
import Derived.WalkKit
import Derived.WalkSpells
import Derived.WalkLawsBesides
import Derived.Below
set_option linter.unusedSimpArgs false
set_option linter.unusedVariables false
namespace Go.Proofs.YthcngkikclaodaaDoor
open Go.RowKit

theorem bytesLess_dec : ∀ (x y : List UInt8), Op.bytesLess x y = decide (x < y)
  | [], [] => by simp [Op.bytesLess]
  | _ :: _, [] => by simp [Op.bytesLess]
  | [], _ :: _ => by simp [Op.bytesLess]
  | a :: x, b :: y => by
    rw [Op.bytesLess, bytesLess_dec x y]
    simp only [List.cons_lt_cons_iff]
    by_cases h1 : a < b <;> by_cases h2 : a = b <;> by_cases h3 : x < y <;> simp [h1, h2, h3]

/-- Is a text not greater than another one, by bytes? -/
def leB (a b : ByteArray) : Bool := Op.bytesLess a.toList b.toList || a.toList == b.toList
theorem leB_iff (a b : ByteArray) : leB a b = true ↔ a.toList ≤ b.toList := by
  unfold leB
  rw [bytesLess_dec, List.le_iff_lt_or_eq]
  simp
theorem leB_refl (a : ByteArray) : leB a a = true := (leB_iff _ _).mpr (List.le_refl _)
theorem leB_trans {a b c : ByteArray} (h : leB a b = true) (g : leB b c = true) : leB a c = true :=
  (leB_iff _ _).mpr (List.le_trans ((leB_iff _ _).mp h) ((leB_iff _ _).mp g))
theorem text_ext {a b : ByteArray} (h : a.toList = b.toList) : a = b := by
  rw [ByteArray.toList_eq, ByteArray.toList_eq] at h
  exact ByteArray.ext (Array.toList_inj.mp h)
theorem leB_antisymm {a b : ByteArray} (h : leB a b = true) (g : leB b a = true) : a = b :=
  text_ext (List.le_antisymm ((leB_iff _ _).mp h) ((leB_iff _ _).mp g))
theorem leB_total (a b : ByteArray) : leB a b = true ∨ leB b a = true :=
  (List.le_total a.toList b.toList).imp (leB_iff _ _).mpr (leB_iff _ _).mpr

/-- Is a text from one to another one? -/
def inB (k f t : ByteArray) : Bool := leB f k && leB k t
theorem inB_iff (k f t : ByteArray) : inB k f t = true ↔ leB f k = true ∧ leB k t = true := by unfold inB; simp
theorem inB_1 {k f t : ByteArray} (h : (Op.bytesLess f.toList k.toList || f.toList == k.toList) = true) : inB k f t = (Op.bytesLess k.toList t.toList || k.toList == t.toList) := by
  unfold inB leB; rw [h]; rfl
theorem inB_0 {k f t : ByteArray} (h : (Op.bytesLess f.toList k.toList || f.toList == k.toList) = false) : inB k f t = false := by
  unfold inB leB; rw [h]; rfl

set_option maxHeartbeats 1000000 in
set_option maxRecDepth 1000000 in
theorem in_any (k f t : ByteArray) (w : World) :
    Calls Tryd.prog 9 #[.string k, .string f, .string t] w fun e w' => e = .returned (.bool (inB k f t)) ∧ w' = w := by
  by_cases h : (Op.bytesLess f.toList k.toList || f.toList == k.toList) = true
  · rw [inB_1 h]
    go_enter Tryd.func9, Tryd.ntmps9
    go_wp2
    all_goals
      go_ret
      exact ⟨rfl, rfl⟩
  · rw [Bool.not_eq_true] at h
    rw [inB_0 h]
    go_enter Tryd.func9, Tryd.ntmps9
    go_wp2
    all_goals
      go_ret
      exact ⟨rfl, rfl⟩
end Go.Proofs.YthcngkikclaodaaDoor
