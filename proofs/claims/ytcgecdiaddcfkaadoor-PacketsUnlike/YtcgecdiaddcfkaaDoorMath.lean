/- Plain facts on texts: which bytes may stand in a key, and which texts are keys. -/
import Derived.WalkKit
import Derived.Laws.RangeAny
set_option linter.unusedSimpArgs false
set_option linter.unusedVariables false
namespace Go.Proofs.YtcgecdiaddcfkaaDoor

/-- Which bytes may stand in a key. -/
def mayB (c : Nat) : Bool := (decide (97 ≤ c) && decide (c ≤ 122)) || ((decide (48 ≤ c) && decide (c ≤ 57)) || decide (c = 95))
/-- Which texts are keys. -/
def chk (s : ByteArray) : Bool := (decide (1 ≤ s.size) && decide (s.size ≤ 16)) && s.data.toList.all (fun b => mayB b.toNat)

theorem mayB_iff (c : Nat) : mayB c = true ↔ (97 ≤ c ∧ c ≤ 122) ∨ (48 ≤ c ∧ c ≤ 57) ∨ c = 95 := by
  unfold mayB; simp

theorem all_iff (s : ByteArray) : s.data.toList.all (fun b => mayB b.toNat) = true ↔ ∀ i (h : i < s.size), mayB (s[i]'h).toNat = true := by
  rw [List.all_eq_true]
  constructor
  · intro h i hi
    exact h _ (by
      have : s[i]'hi = s.data.toList[i]'(by simpa using hi) := rfl
      rw [this]; exact List.getElem_mem _)
  · intro h b hb
    obtain ⟨i, hi, rfl⟩ := List.getElem_of_mem hb
    exact h i (by simpa using hi)

theorem chk_iff (s : ByteArray) : chk s = true ↔ (1 ≤ s.size ∧ s.size ≤ 16) ∧ ∀ i (h : i < s.size), mayB (s[i]'h).toNat = true := by
  unfold chk; rw [Bool.and_eq_true, all_iff]; simp
theorem chk_long (s : ByteArray) (h : s.size < 1 ∨ 16 < s.size) : chk s = false := by
  rw [Bool.eq_false_iff, Ne, chk_iff]; omega
theorem chk_bad (s : ByteArray) (i : Nat) (h : i < s.size) (hb : mayB (s[i]'h).toNat = false) : chk s = false := by
  rw [Bool.eq_false_iff, Ne, chk_iff]
  rintro ⟨_, g⟩
  rw [g i h] at hb; cases hb
theorem mayB_high (c : Nat) (h : 128 ≤ c) : mayB c = false := by
  rw [Bool.eq_false_iff, Ne, mayB_iff]; omega
/-- The rune at a place may stand just if the byte there may. -/
theorem may_decode (s : ByteArray) (p : Nat) (h : p < s.size) : mayB (Utf8.decode s p).1 = mayB (s[p]'h).toNat := by
  by_cases ha : (s[p]'h).toNat < 128
  · rw [decode_ascii s p h ha]
  · rw [mayB_high _ (decode_high s p h (by omega)).1, mayB_high _ (by omega)]
theorem width_ascii (s : ByteArray) (p : Nat) (h : p < s.size) (hm : mayB (s[p]'h).toNat = true) : (Utf8.decode s p).2 = 1 := by
  have ha : (s[p]'h).toNat < 128 := by rw [mayB_iff] at hm; omega
  rw [decode_ascii s p h ha]
end Go.Proofs.YtcgecdiaddcfkaaDoor
