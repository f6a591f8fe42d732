/- The walks of the document's own Less, In. -/
import Derived.Test.YthcngkikclaodaaDoorIn
import Derived.Deep.QuietTactic
import Derived.BigQuiet
set_option linter.unusedSimpArgs false
set_option linter.unusedVariables false
namespace Go.Proofs.YthcngkikclaodaaDoor
open Go.RowKit

theorem less_at : ∀ (k : Nat) (x y : List UInt8) (hx : k < x.length) (hy : k < y.length), x.take k = y.take k → x[k] ≠ y[k] → Op.bytesLess x y = decide (x[k] < y[k])
  | 0, a :: x, b :: y, _, _, _, h => by
    simp only [List.getElem_cons_zero] at *
    rw [Op.bytesLess]
    simp [h]
  | k + 1, a :: x, b :: y, hx, hy, ht, h => by
    simp only [List.take_succ_cons, List.cons.injEq] at ht
    obtain ⟨rfl, ht⟩ := ht
    simp only [List.getElem_cons_succ] at *
    rw [Op.bytesLess, less_at k x y (by simpa using hx) (by simpa using hy) ht h]
    simp
theorem less_end : ∀ (k : Nat) (x y : List UInt8), x.take k = y.take k → k ≤ x.length → k ≤ y.length → (x.length = k ∨ y.length = k) → Op.bytesLess x y = decide (x.length < y.length)
  | 0, [], [], _, _, _, _ => by simp [Op.bytesLess]
  | 0, [], _ :: _, _, _, _, _ => by simp [Op.bytesLess]
  | 0, _ :: _, [], _, _, _, _ => by simp [Op.bytesLess]
  | 0, _ :: _, _ :: _, _, _, _, h => by simp at h
  | k + 1, a :: x, b :: y, ht, hx, hy, h => by
    simp only [List.take_succ_cons, List.cons.injEq] at ht
    obtain ⟨rfl, ht⟩ := ht
    rw [Op.bytesLess, less_end k x y ht (by simpa using hx) (by simpa using hy) (by simpa using h)]
    simp
  | k + 1, [], _, _, hx, _, _ => by simp at hx
  | k + 1, _ :: _, [], _, _, hy, _ => by simp at hy

/-- Does one text stand ahead of another one? -/
def lessB (a b : ByteArray) : Bool := Op.bytesLess a.toList b.toList
theorem lessB_at {a b : ByteArray} {k : Nat} (ha : k < a.size) (hb : k < b.size) (ht : a.data.toList.take k = b.data.toList.take k) (h : ((a[k].toNat : Int) != b[k].toNat) = true) : lessB a b = decide (a[k].toNat < b[k].toNat) := by
  unfold lessB
  rw [ByteArray.toList_eq, ByteArray.toList_eq]
  have ha' : k < a.data.toList.length := by simpa using ha
  have hb' : k < b.data.toList.length := by simpa using hb
  have e1 : a.data.toList[k]'ha' = a[k]'ha := rfl
  have e2 : b.data.toList[k]'hb' = b[k]'hb := rfl
  have hne : a.data.toList[k]'ha' ≠ b.data.toList[k]'hb' := by
    rw [e1, e2]; intro e; rw [e] at h; simp at h
  rw [less_at k _ _ ha' hb' ht hne, e1, e2]
  simp [UInt8.lt_iff_toNat_lt]
theorem lessB_end {a b : ByteArray} {k : Nat} (ha : k ≤ a.size) (hb : k ≤ b.size) (ht : a.data.toList.take k = b.data.toList.take k) (h : a.size = k ∨ b.size = k) : lessB a b = decide (a.size < b.size) := by
  unfold lessB
  rw [ByteArray.toList_eq, ByteArray.toList_eq]
  have e1 : a.data.toList.length = a.size := by simp
  have e2 : b.data.toList.length = b.size := by simp
  rw [less_end k _ _ ht (by omega) (by omega) (by omega), e1, e2]
theorem take_more {a b : ByteArray} {k : Nat} (ha : k < a.size) (hb : k < b.size) (ht : a.data.toList.take k = b.data.toList.take k) (h : ((a[k].toNat : Int) != b[k].toNat) = false) : a.data.toList.take (k + 1) = b.data.toList.take (k + 1) := by
  have ha' : k < a.data.toList.length := by simpa using ha
  have hb' : k < b.data.toList.length := by simpa using hb
  have e : a[k]'ha = b[k]'hb := by
    have h2 : ((a[k]'ha).toNat : Int) = (b[k]'hb).toNat := by simpa using h
    exact UInt8.toNat_inj.mp (by omega)
  rw [List.take_succ_eq_append_getElem ha', List.take_succ_eq_append_getElem hb', ht]
  exact congrArg _ (congrArg (fun z => [z]) e)
theorem leB_not_less (f k : ByteArray) : leB f k = !lessB k f := by
  rw [Bool.eq_iff_iff, leB_iff]
  unfold lessB
  rw [bytesLess_dec]
  simp
theorem inB_ref (k f t : ByteArray) : inB k f t = (!lessB k f && !lessB t k) := by
  unfold inB; rw [leB_not_less, leB_not_less]

set_option maxHeartbeats 4000000 in
set_option maxRecDepth 1000000 in
theorem less_any (a b : ByteArray) (w : World) (ha : a.size ≤ 140737488351232) (hb : b.size ≤ 140737488351232) :
    Calls Tryd.prog 16 #[.string a, .string b] w fun e w' => e = .returned (.bool (lessB a b)) ∧ ∃ n, w' = w.drewN n := by
  go_enter Tryd.func16, Tryd.ntmps16
  go_wp2
  go_loopw [5] (fun i wr => ∃ k n : Nat, k ≤ a.size ∧ k ≤ b.size ∧ i = .int .i64 k ∧ wr = w.drewN n ∧ Hid (a.data.toList.take k = b.data.toList.take k)) (fun i _ => a.size - (intOf i).toNat)
  case atStart => exact ⟨0, 0, by omega, by omega, rfl, rfl, rfl⟩
  case round =>
    obtain ⟨k, n, hka, hkb, rfl, rfl, ht⟩ := hrel
    by_cases h1 : k < a.size
    · by_cases h2 : k < b.size
      · have i1 : (k : Int) < (a.size : Int) := by omega
        have i2 : (k : Int) < (b.size : Int) := by omega
        by_cases hne : ((a[k].toNat : Int) != b[k].toNat) = true
        · have H : Hid _ := lessB_at h1 h2 ht.out hne
          go_wp2
          go_quiet (fail)
          go_wp2
          go_quiet (fail)
          go_wp2
          go_ret
          exact ⟨by rw [H.out]; rfl, _, by rw [World.drewN_drewN, World.drewN_drewN]⟩
        · rw [Bool.not_eq_true] at hne
          have H : Hid _ := take_more h1 h2 ht.out hne
          go_wp2
          go_quiet (fail)
          go_wp2
          go_roundw
          case rel => exact ⟨k + 1, _, by omega, by omega, by go_num, rfl, H⟩
          case measure => simp [intOf]; omega
      · have H : Hid _ := lessB_end hka hkb ht.out (by omega)
        go_wp2
        go_ret
        exact ⟨by rw [H.out]; rfl, n, rfl⟩
    · have H : Hid _ := lessB_end hka hkb ht.out (by omega)
      go_wp2
      go_ret
      exact ⟨by rw [H.out]; rfl, n, rfl⟩

set_option maxHeartbeats 4000000 in
set_option maxRecDepth 1000000 in
theorem refIn_any (k f t : ByteArray) (w : World) (hk : k.size ≤ 140737488351232) (hf : f.size ≤ 140737488351232) (ht : t.size ≤ 140737488351232) :
    Calls Tryd.prog 10 #[.string k, .string f, .string t] w fun e w' => e = .returned (.bool (inB k f t)) ∧ ∃ n, w' = w.drewN n := by
  have k1 := fun w => less_any k f w hk hf
  have k2 := fun w => less_any t k w ht hk
  have H := inB_ref k f t
  cases h : lessB k f
  · rw [h, Bool.not_false, Bool.true_and] at H
    rw [H]
    rw [h] at k1
    clear H h
    generalize lessB t k = L at *
    go_enter Tryd.func10, Tryd.ntmps10
    go_wp2_with fail
    refine (k1 _).mono ?_
    rintro e w1 ⟨rfl, n1, rfl⟩
    go_wp2_with fail
    refine (k2 _).mono ?_
    rintro e w2 ⟨rfl, n2, rfl⟩
    cases L
    all_goals
      go_wp2
      go_ret
      exact ⟨rfl, _, rfl⟩
  · rw [h, Bool.not_true, Bool.false_and] at H
    rw [H]
    rw [h] at k1
    clear H h
    go_enter Tryd.func10, Tryd.ntmps10
    go_wp2_with fail
    refine (k1 _).mono ?_
    rintro e w1 ⟨rfl, n1, rfl⟩
    go_wp2
    go_ret
    exact ⟨rfl, _, rfl⟩
end Go.Proofs.YthcngkikclaodaaDoor
