/- What the walk of KeysJoined leans on. -/
import Derived.Test.YthcngkikclaodaaDoorAlive
import Derived.Test.YthcngkikclaodaaDoorBeyond
import Derived.Deep.RegionHeld3
import Derived.Deep.Cut
import Derived.OpenShut
set_option linter.unusedSimpArgs false
set_option linter.unusedVariables false
namespace Go.Proofs.YthcngkikclaodaaDoor
open Go.RowKit

/-- A text with one byte more. -/
def more (k : ByteArray) (c : UInt8) : ByteArray := k ++ ⟨#[c]⟩
theorem more_data (k : ByteArray) (c : UInt8) : (more k c).data.toList = k.data.toList ++ [c] := by
  unfold more; rw [ByteArray.data_append, Array.toList_append]
theorem more_size (k : ByteArray) (c : UInt8) : (more k c).size = k.size + 1 := by
  unfold more; rw [ByteArray.size_append]; rfl
theorem chk_more (k : ByteArray) (c : UInt8) : chk (more k c) = (mayB c.toNat && decide (k.size < 16) && (decide (k.size = 0) || chk k)) := by
  unfold chk
  rw [more_size, more_data, List.all_append]
  have e : decide (1 ≤ k.size + 1) = true := by simp
  rw [e, Bool.true_and]
  simp only [List.all_cons, List.all_nil, Bool.and_true]
  by_cases h0 : k.size = 0
  · have hn : k.data.toList = [] := by
      apply List.eq_nil_of_length_eq_zero
      simpa using h0
    rw [hn, h0]; simp
  · have h1 : decide (1 ≤ k.size) = true := by simp; omega
    rw [h1, show decide (k.size = 0) = false by simpa using h0]
    by_cases h16 : k.size < 16
    · rw [show decide (k.size + 1 ≤ 16) = true by simp; omega, show decide (k.size < 16) = true by simpa using h16, show decide (k.size ≤ 16) = true by simp; omega]
      cases mayB c.toNat <;> simp
    · rw [show decide (k.size + 1 ≤ 16) = false by simp; omega, show decide (k.size < 16) = false by simpa using h16]
      simp
theorem le_append (l r : List UInt8) : l ≤ l ++ r := by
  induction l with
  | nil => exact List.nil_le _
  | cons x l ih => rw [List.cons_append, List.cons_le_cons_iff]; exact Or.inr ⟨rfl, ih⟩
theorem not_append_le (l : List UInt8) (c : UInt8) : ¬ (l ++ [c] ≤ l) := by
  induction l with
  | nil => simp
  | cons x l ih =>
    rw [List.cons_append, List.cons_le_cons_iff]
    rintro (h | ⟨_, h⟩)
    · exact absurd h (UInt8.lt_irrefl _)
    · exact ih h
theorem append_le_append (l r r' : List UInt8) (h : r ≤ r') : l ++ r ≤ l ++ r' := by
  induction l with
  | nil => simpa using h
  | cons x l ih => rw [List.cons_append, List.cons_append, List.cons_le_cons_iff]; exact Or.inr ⟨rfl, ih⟩
theorem byte_le (c : UInt8) : [c] ≤ [255, 255] := by
  rw [List.cons_le_cons_iff]
  by_cases e : c = 255
  · exact Or.inr ⟨e, List.nil_le _⟩
  · left
    have h1 : c.toNat ≠ 255 := fun h2 => e (UInt8.toNat_inj.mp h2)
    have h2 := c.toNat_lt
    rw [UInt8.lt_iff_toNat_lt]
    show c.toNat < 255
    omega
theorem in_more (k : ByteArray) (c : UInt8) : inB (more k c) k (k ++ ⟨#[255, 255]⟩) = true := by
  rw [inB_iff, leB_iff, leB_iff]
  simp only [ByteArray.toList_eq, more_data, ByteArray.data_append, Array.toList_append]
  exact ⟨le_append _ _, append_le_append _ _ _ (byte_le c)⟩
theorem not_in_more (k : ByteArray) (c : UInt8) : inB k (more k c) (more k c) = false := by
  rw [Bool.eq_false_iff, Ne, inB_iff, leB_iff]
  simp only [ByteArray.toList_eq, more_data]
  exact fun h => not_append_le _ _ h.1

set_option maxHeartbeats 4000000 in
set_option maxRecDepth 1000000 in
theorem joined_yes (k : ByteArray) (c : UInt8) (w : World) (hk : k.size ≤ 140737488351232) (htab : Tab w) (hn : 1048576 < (k.size : Int)) :
    Calls Tryd.prog 6 #[.string k, .int .u8 c.toNat] w fun e w' => e = .returned (.bool true) ∧ Below w.heap.size w w' := by
  have ka := alive_any w htab
  have kb := fun w2 => beyond_yes (k.size : Int) w2 hn (by omega)
  go_enter Tryd.func6, Tryd.ntmps6
  go_wp2_with fail
  refine ka.mono ?_
  rintro e w2 ⟨rfl, B⟩
  go_wp2_with fail
  refine (kb w2).mono ?_
  rintro e w3 ⟨rfl, rfl⟩
  have B2 := B.alloc B.size (.cells #[.int .i64 (k.size : Int)] 3)
  go_wp2_with fail
  refine (alive_any _ (tab_below htab B2)).mono ?_
  rintro e w4 ⟨rfl, hb⟩
  go_wp2
  go_ret
  exact ⟨rfl, B2.trans (hb.mono B2.size)⟩

theorem byte_text (c : UInt8) (w3 : World) : (convert 32 9 (.slice (some ⟨w3.heap.size, 0, none⟩) 1 1)).run Tryd.prog (w3.alloc (.cells #[.int .u8 c.toNat] 5)) = .ok (.string ⟨#[c]⟩) (w3.alloc (.cells #[.int .u8 c.toNat] 5)) :=
  run_convert_bytes_back (P := Tryd.prog) (w3.alloc (.cells #[.int .u8 c.toNat] 5)) 32 9 5 ⟨w3.heap.size, 0, none⟩ 1 [c] Tryd.underlying32 Tryd.underlying5 Tryd.underlying9 (fun j hj => by
    match j, hj with
    | 0, _ => rw [Lib.add_plain]; go_simp)
theorem check_at {w0 W : World} (s : ByteArray) (b : Bool) (hs : s.size ≤ maxLen) (hb : chk s = b) (h : Below w0.heap.size w0 W) :
    Calls Tryd.prog 14 #[.string s] W fun e w' => e = .returned (.bool b) ∧ Below w0.heap.size w0 w' := by
  refine (check_any s W hs).mono ?_
  rintro e w' ⟨rfl, hb'⟩
  exact ⟨by rw [hb], h.trans (hb'.mono h.size)⟩
theorem reserved_at {w0 W : World} (s : ByteArray) (b : Bool) (hs : s.size ≤ maxLen) (hb : rsv s = b) (h : Below w0.heap.size w0 W) :
    Calls Tryd.prog 15 #[.string s] W fun e w' => e = .returned (.bool b) ∧ Below w0.heap.size w0 w' := by
  refine (reserved_any s W hs).mono ?_
  rintro e w' ⟨rfl, hb'⟩
  exact ⟨by rw [hb], h.trans (hb'.mono h.size)⟩

theorem mayB_no {c : Nat} (h : mayB c = false) : c < 48 ∨ (57 < c ∧ c < 95) ∨ c = 96 ∨ 122 < c := by
  rw [Bool.eq_false_iff, Ne, mayB_iff] at h; omega
theorem in_at (k f t : ByteArray) (b : Bool) (hb : inB k f t = b) (W : World) :
    Calls Tryd.prog 9 #[.string k, .string f, .string t] W fun e w' => e = .returned (.bool b) ∧ w' = W := by
  rw [← hb]; exact in_any k f t W
theorem not_empty {k : ByteArray} (h : 0 < k.size) : k.toList.isEmpty = false := by
  rw [ByteArray.toList_eq, Bool.eq_false_iff, Ne, List.isEmpty_iff]
  intro e
  have e1 : k.data.toList.length = 0 := by rw [e]; rfl
  have e2 : k.data.toList.length = k.size := by simp
  omega

end Go.Proofs.YthcngkikclaodaaDoor
