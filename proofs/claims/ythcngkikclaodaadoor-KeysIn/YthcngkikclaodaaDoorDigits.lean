/- Plain facts on decimal numerals and markers. -/
import Derived.Test.YthcngkikclaodaaDoorAlive
set_option linter.unusedSimpArgs false
set_option linter.unusedVariables false
namespace Go.Proofs.YthcngkikclaodaaDoor

theorem ofNat_digit {d : Nat} (h : d < 10) : (UInt8.ofNat (48 + d)).toNat = 48 + d := by
  simp; omega
theorem dec_digit : ∀ (n u : Nat), u < n → ∀ c ∈ Lib.decDigits u, 48 ≤ c.toNat ∧ c.toNat ≤ 57
  | 0, u, h => by omega
  | n + 1, u, h => by
    intro c hc
    by_cases hu : u < 10
    · rw [Lib.decDigits_one hu, List.mem_singleton] at hc
      subst hc
      rw [ofNat_digit hu]; omega
    · rw [dec_step hu, List.mem_append, List.mem_singleton] at hc
      rcases hc with hc | hc
      · exact dec_digit n (u / 10) (by omega) c hc
      · subst hc
        rw [ofNat_digit (by omega)]; omega
/-- The number that a row of digits tells. -/
def val (l : List UInt8) : Nat := l.foldl (fun n c => 10 * n + (c.toNat - 48)) 0
theorem val_snoc (l : List UInt8) (c : UInt8) : val (l ++ [c]) = 10 * val l + (c.toNat - 48) := by
  unfold val; rw [List.foldl_append]; rfl
theorem val_dec : ∀ (n u : Nat), u < n → val (Lib.decDigits u) = u
  | 0, u, h => by omega
  | n + 1, u, h => by
    by_cases hu : u < 10
    · rw [Lib.decDigits_one hu]
      show 10 * 0 + _ = _
      rw [ofNat_digit hu]; omega
    · rw [dec_step hu, val_snoc, val_dec n (u / 10) (by omega), ofNat_digit (by omega)]; omega
theorem val_take_le (l : List UInt8) : ∀ k, val (l.take k) ≤ val l := by
  intro k
  have key : ∀ (r p : List UInt8), val p ≤ val (p ++ r) := by
    intro r
    induction r with
    | nil => intro p; simp
    | cons c r ih =>
      intro p
      have h1 := ih (p ++ [c])
      rw [List.append_assoc, val_snoc] at h1
      have : val p ≤ 10 * val p + (c.toNat - 48) := by omega
      exact Nat.le_trans this h1
  have := key (l.drop k) (l.take k)
  rwa [List.take_append_drop] at this
theorem dec_len : ∀ (n u : Nat), u < 10 ^ (n + 1) → (Lib.decDigits u).length ≤ n + 1
  | 0, u, h => by rw [Lib.decDigits_one (by simpa using h)]; simp
  | n + 1, u, h => by
    by_cases hu : u < 10
    · rw [Lib.decDigits_one hu]; simp
    · rw [dec_step hu, List.length_append, List.length_singleton]
      have := dec_len n (u / 10) (by rw [Nat.pow_succ] at h; omega)
      omega
theorem dec_pos : ∀ (u : Nat), 1 ≤ (Lib.decDigits u).length := by
  intro u
  by_cases hu : u < 10
  · rw [Lib.decDigits_one hu]; simp
  · rw [dec_step hu]; simp
theorem dec_head : ∀ (n u : Nat), u < n → 10 ≤ u → ∃ c l, Lib.decDigits u = c :: l ∧ c.toNat ≠ 48
  | 0, u, h, _ => by omega
  | n + 1, u, h, h10 => by
    rw [dec_step (by omega)]
    by_cases hu : u / 10 < 10
    · rw [Lib.decDigits_one hu]
      exact ⟨_, _, rfl, by rw [ofNat_digit hu]; omega⟩
    · obtain ⟨c, l, e, hc⟩ := dec_head n (u / 10) (by omega) (by omega)
      rw [e]
      exact ⟨c, _, rfl, hc⟩

theorem mark_list (g : Nat) : (mark g).toList = 95 :: 109 :: Lib.decDigits g := by
  unfold mark
  rw [ByteArray.toList_eq, ByteArray.data_append, Array.toList_append]
  rfl
theorem mark_data (g : Nat) : (mark g).data.toList = 95 :: 109 :: Lib.decDigits g := by rw [← ByteArray.toList_eq, mark_list]
theorem mark_size (g : Nat) : (mark g).size = (Lib.decDigits g).length + 2 := by
  have : (mark g).size = (mark g).data.toList.length := by simp
  rw [this, mark_data]; simp
theorem mark_at (g i : Nat) (h : i + 2 < (mark g).size) : (mark g)[i + 2] = (Lib.decDigits g)[i]'(by rw [mark_size] at h; omega) := by
  have e : (mark g)[i + 2] = (mark g).data.toList[i + 2]'(by simpa using h) := rfl
  rw [e]
  simp only [mark_data, List.getElem_cons_succ]
theorem mark_long (g : Nat) (h : g < 4294967296) : (Lib.decDigits g).length ≤ 10 := dec_len 9 g (by omega)
theorem chk_mark (g : Nat) (h : g < 4294967296) : chk (mark g) = true := by
  unfold chk
  rw [mark_data, mark_size]
  have h1 := mark_long g h
  have h2 := dec_digit (g + 1) g (by omega)
  simp only [List.all_cons, Bool.and_eq_true, decide_eq_true_eq, List.all_eq_true]
  refine ⟨by omega, by decide, by decide, fun c hc => ?_⟩
  rw [mayB_iff]
  have := h2 c hc
  omega
theorem rsv_mark (g : Nat) (h : g < 4294967296) : rsv (mark g) = true := by
  have hs := mark_size g
  rw [rsv_yes (chk_mark g h) (by omega)]
  have e : (mark g)[0]'(by omega) = (mark g).data.toList[0]'(by simp [mark_data]) := rfl
  rw [e]
  simp only [mark_data]
  rfl
theorem mark_inj (g h : Nat) : ((mark g).toList == (mark h).toList) = ((g : Int) == h) := by
  rw [Bool.eq_iff_iff, beq_iff_eq, beq_iff_eq, mark_list, mark_list]
  constructor
  · intro e
    simp only [List.cons.injEq, true_and] at e
    have a := val_dec (g + 1) g (by omega)
    have b := val_dec (h + 1) h (by omega)
    rw [e] at a
    omega
  · intro e
    rw [show g = h by omega]

/-- What a marker's bytes tell: the digits behind its first two bytes, one by one. -/
theorem mark_facts (g : Nat) (hg : g < 4294967296) : ∃ pv : Nat → Nat, pv 2 = 0 ∧ pv (mark g).size = g ∧ (∀ k, pv k ≤ g) ∧
    ∀ k (h : k < (mark g).size), 2 ≤ k → (48 ≤ ((mark g)[k]'h).toNat ∧ ((mark g)[k]'h).toNat ≤ 57) ∧ pv (k + 1) = 10 * pv k + (((mark g)[k]'h).toNat - 48) := by
  refine ⟨fun k => val ((Lib.decDigits g).take (k - 2)), rfl, ?_, ?_, ?_⟩
  · show val (List.take ((mark g).size - 2) _) = g
    rw [mark_size, Nat.add_sub_cancel, List.take_length]
    exact val_dec (g + 1) g (by omega)
  · intro k
    have := val_take_le (Lib.decDigits g) (k - 2)
    rw [val_dec (g + 1) g (by omega)] at this
    exact this
  · intro k h h2
    obtain ⟨i, rfl⟩ : ∃ i, k = i + 2 := ⟨k - 2, by omega⟩
    have hi : i < (Lib.decDigits g).length := by rw [mark_size] at h; omega
    rw [mark_at g i h]
    refine ⟨dec_digit (g + 1) g (by omega) _ (List.getElem_mem _), ?_⟩
    show val ((Lib.decDigits g).take (i + 2 + 1 - 2)) = 10 * val ((Lib.decDigits g).take (i + 2 - 2)) + _
    rw [show i + 2 + 1 - 2 = i + 1 by omega, Nat.add_sub_cancel, List.take_succ_eq_append_getElem hi, val_snoc]
theorem mark_head (g : Nat) (h : 3 < (mark g).size) (h2 : 2 < (mark g).size) : (((mark g)[2]'h2).toNat : Int) ≠ 48 := by
  have h10 : 10 ≤ g := by
    rcases Nat.lt_or_ge g 10 with hl | hl
    · rw [mark_size, Lib.decDigits_one hl] at h; simp at h
    · exact hl
  obtain ⟨c, l, e, hc⟩ := dec_head (g + 1) g (by omega) h10
  rw [mark_at g 0 h2]
  simp only [e, List.getElem_cons_zero]
  omega
theorem mark_two (g : Nat) : ((mark g).extract 0 2).toList = [95, 109] := by
  rw [ByteArray.toList_eq, ByteArray.data_extract, Array.toList_extract, mark_data]
  rfl
end Go.Proofs.YthcngkikclaodaaDoor
