/- Two messages' lines are the same just if their four numbers are. -/
import Derived.Test.YtcgecdiaddcfkaaDoorPAlive
set_option linter.unusedSimpArgs false
set_option linter.unusedVariables false
namespace Go.Proofs.YtcgecdiaddcfkaaDoor
open Go.RowKit

theorem dec_step {u : Nat} (h : ¬ u < 10) : Lib.decDigits u = Lib.decDigits (u / 10) ++ [UInt8.ofNat (48 + u % 10)] := by
  rw [Lib.decDigits, dif_neg h]
theorem ofNat_digit {d : Nat} (h : d < 10) : (UInt8.ofNat (48 + d)).toNat = 48 + d := by
  simp; omega
theorem dec_digit : ∀ (n u : Nat), u < n → ∀ c ∈ Lib.decDigits u, 48 ≤ c.toNat ∧ c.toNat ≤ 57
  | 0, u, h => by omega
  | n + 1, u, h => by
    intro c hc
    by_cases hu : u < 10
    · rw [Lib.decDigits_one hu, List.mem_singleton] at hc
      subst hc
      rw [ofNat_digit hu]; omega
    · rw [dec_step hu, List.mem_append, List.mem_singleton] at hc
      rcases hc with hc | hc
      · exact dec_digit n (u / 10) (by omega) c hc
      · subst hc
        rw [ofNat_digit (by omega)]; omega
/-- The number that a row of digits tells. -/
def val (l : List UInt8) : Nat := l.foldl (fun n c => 10 * n + (c.toNat - 48)) 0
theorem val_snoc (l : List UInt8) (c : UInt8) : val (l ++ [c]) = 10 * val l + (c.toNat - 48) := by
  unfold val; rw [List.foldl_append]; rfl
theorem val_dec : ∀ (n u : Nat), u < n → val (Lib.decDigits u) = u
  | 0, u, h => by omega
  | n + 1, u, h => by
    by_cases hu : u < 10
    · rw [Lib.decDigits_one hu]
      show 10 * 0 + _ = _
      rw [ofNat_digit hu]; omega
    · rw [dec_step hu, val_snoc, val_dec n (u / 10) (by omega), ofNat_digit (by omega)]; omega
theorem dec_inj {a b : Nat} (h : Lib.decDigits a = Lib.decDigits b) : a = b := by
  rw [← val_dec (a + 1) a (by omega), h, val_dec (b + 1) b (by omega)]
theorem dec_no (u : Nat) : ∀ c ∈ Lib.decDigits u, c ≠ 32 := by
  intro c hc e
  have := dec_digit (u + 1) u (by omega) c hc
  subst e
  revert this
  decide
theorem split32 : ∀ (a b x y : List UInt8), (∀ c ∈ a, c ≠ 32) → (∀ c ∈ b, c ≠ 32) → a ++ 32 :: x = b ++ 32 :: y → a = b ∧ x = y
  | [], [], x, y, _, _, h => by simpa using h
  | [], d :: b, x, y, _, hb, h => by
    simp only [List.nil_append, List.cons_append, List.cons.injEq] at h
    exact absurd h.1.symm (hb d (by simp))
  | c :: a, [], x, y, ha, _, h => by
    simp only [List.nil_append, List.cons_append, List.cons.injEq] at h
    exact absurd h.1 (ha c (by simp))
  | c :: a, d :: b, x, y, ha, hb, h => by
    simp only [List.cons_append, List.cons.injEq] at h
    obtain ⟨h1, h2⟩ := split32 a b x y (fun e he => ha e (by simp [he])) (fun e he => hb e (by simp [he])) h.2
    exact ⟨by rw [h.1, h1], h2⟩
theorem line_list (s f t g : Nat) : (lineN s f t g 3).toList = Lib.decDigits s ++ 32 :: (Lib.decDigits f ++ 32 :: (Lib.decDigits t ++ 32 :: Lib.decDigits g)) := by
  rw [ByteArray.toList_eq]
  show (numB s ++ (spB ++ numB f) ++ (spB ++ numB t) ++ (spB ++ numB g)).data.toList = _
  simp only [ByteArray.data_append, Array.toList_append]
  show ((Lib.decDigits s ++ ([32] ++ Lib.decDigits f)) ++ ([32] ++ Lib.decDigits t)) ++ ([32] ++ Lib.decDigits g) = _
  simp
theorem line_eq (s f t g s' f' t' g' : Nat) : ((lineN s f t g 3).toList == (lineN s' f' t' g' 3).toList) = decide (s = s' ∧ f = f' ∧ t = t' ∧ g = g') := by
  rw [line_list, line_list, Bool.eq_iff_iff, beq_iff_eq, decide_eq_true_iff]
  constructor
  · intro h
    obtain ⟨h1, h⟩ := split32 _ _ _ _ (dec_no s) (dec_no s') h
    obtain ⟨h2, h⟩ := split32 _ _ _ _ (dec_no f) (dec_no f') h
    obtain ⟨h3, h4⟩ := split32 _ _ _ _ (dec_no t) (dec_no t') h
    exact ⟨dec_inj h1, dec_inj h2, dec_inj h3, dec_inj h4⟩
  · rintro ⟨rfl, rfl, rfl, rfl⟩
    rfl
end Go.Proofs.YtcgecdiaddcfkaaDoor
