/- Records that stand one right behind the other, plain facts. -/
import Derived.Test.YtjaidhglemnakaaFMath
set_option linter.unusedSimpArgs false
set_option linter.unusedVariables false
namespace Go.Proofs.Ytjaidhglemnakaa

/-- The records that bytes begin with, at most so many of them. -/
def recsF : Nat → List UInt8 → List (List UInt8)
  | 0, _ => []
  | f + 1, b => match getF b with
    | none => []
    | some r => r :: recsF f (b.drop (secs r.length * 64))
/-- The records that bytes begin with, one right behind the other. -/
def recs (b : List UInt8) : List (List UInt8) := recsF b.length b
/-- Of how many sectors records' frames are. -/
def span (L : List (List UInt8)) : Nat := (L.map fun r => secs r.length).sum
theorem span_nil : span [] = 0 := rfl
theorem span_cons (r : List UInt8) (L : List (List UInt8)) : span (r :: L) = secs r.length + span L := by simp [span]
theorem span_app (A B : List (List UInt8)) : span (A ++ B) = span A + span B := by simp [span]
theorem recsF_fuel : ∀ (f g : Nat) (b : List UInt8), b.length ≤ f → b.length ≤ g → recsF f b = recsF g b := by
  intro f
  induction f with
  | zero =>
    intro g b hf hg
    have hb : b = [] := List.eq_nil_of_length_eq_zero (by omega)
    subst hb
    cases g with
    | zero => rfl
    | succ g => rfl
  | succ f ih =>
    intro g b hf hg
    cases hget : getF b with
    | none =>
      cases g with
      | zero =>
        have hb : b = [] := List.eq_nil_of_length_eq_zero (by omega)
        subst hb
        rfl
      | succ g => simp only [recsF, hget]
    | some r =>
      obtain ⟨h1, h2, -⟩ := getF_some hget
      have h3 := secs_pos r.length
      cases g with
      | zero => omega
      | succ g =>
        simp only [recsF, hget]
        rw [ih g _ (by rw [List.length_drop]; omega) (by rw [List.length_drop]; omega)]
theorem recs_none {b : List UInt8} (h : getF b = none) : recs b = [] := by
  unfold recs
  cases hb : b.length with
  | zero => rfl
  | succ f => simp only [recsF, h]
theorem recs_some {b r : List UInt8} (h : getF b = some r) : recs b = r :: recs (b.drop (secs r.length * 64)) := by
  obtain ⟨h1, h2, -⟩ := getF_some h
  have h3 := secs_pos r.length
  unfold recs
  cases hb : b.length with
  | zero => omega
  | succ f =>
    simp only [recsF, h]
    rw [recsF_fuel f _ _ (by rw [List.length_drop]; omega) (Nat.le_refl _)]
theorem recs_frame (r m : List UInt8) (h : r.length ≤ 16384) : recs (frame r ++ m) = r :: recs m := by
  rw [recs_some (getF_frame r m h), List.drop_left' (frame_len r)]
theorem recs_frames (L : List (List UInt8)) (m : List UInt8) (h : ∀ r ∈ L, r.length ≤ 16384) : recs (L.flatMap frame ++ m) = L ++ recs m := by
  induction L with
  | nil => rfl
  | cons r L ih =>
    rw [List.flatMap_cons, List.append_assoc, recs_frame r _ (h r (by simp)), ih (fun x hx => h x (by simp [hx]))]
    rfl
theorem frames_len (L : List (List UInt8)) : (L.flatMap frame).length = span L * 64 := by
  induction L with
  | nil => rfl
  | cons r L ih => rw [List.flatMap_cons, List.length_append, frame_len, ih, span_cons, Nat.add_mul]
/-- Noughts are no frame. -/
theorem getF_noughts {b : List UInt8} (h : b.all (· == 0) = true) : getF b = none := by
  have hb := all_zero.1 h
  generalize b.length = n at hb
  subst hb
  by_cases h1 : n < 64
  · unfold getF
    rw [if_pos (by rw [List.length_replicate]; exact h1)]
  have e4 : (List.replicate n (0 : UInt8)).take 4 = [0, 0, 0, 0] := by rw [List.take_replicate, Nat.min_eq_left (by omega)]; rfl
  have e8 : ((List.replicate n (0 : UInt8)).drop 4).take 4 = [0, 0, 0, 0] := by rw [List.drop_replicate, List.take_replicate, Nat.min_eq_left (by omega)]; rfl
  have n0 : num [0, 0, 0, 0] = 0 := by decide
  have s1 : secs 0 * 64 = 64 := by decide
  rw [getF_step (by rw [List.length_replicate]; exact h1) (by rw [e4, n0]; omega) (by rw [e4, n0, s1, List.length_replicate]; exact h1), if_neg]
  rintro ⟨h2, -⟩
  rw [e8, e4, n0] at h2
  revert h2
  rw [List.take_zero, List.append_nil]
  decide +kernel
theorem recs_noughts {b : List UInt8} (h : b.all (· == 0) = true) : recs b = [] := recs_none (getF_noughts h)
/-- What is told of bytes stands there. -/
theorem recs_stand : ∀ (f : Nat) (b : List UInt8), b.length ≤ f → (∀ r ∈ recs b, r.length ≤ 16384) ∧ span (recs b) * 64 ≤ b.length ∧ b.take (span (recs b) * 64) = (recs b).flatMap frame ∧ getF (b.drop (span (recs b) * 64)) = none := by
  intro f
  induction f with
  | zero =>
    intro b hf
    have hb : b = [] := List.eq_nil_of_length_eq_zero (by omega)
    subst hb
    exact ⟨(fun r hr => by cases hr), Nat.le_refl _, rfl, rfl⟩
  | succ f ih =>
    intro b hf
    cases hget : getF b with
    | none =>
      rw [recs_none hget, span_nil, Nat.zero_mul]
      exact ⟨(fun r hr => by cases hr), Nat.zero_le _, by simp, by rw [List.drop_zero]; exact hget⟩
    | some r =>
      obtain ⟨h1, h2, h3⟩ := getF_some hget
      have h4 := secs_pos r.length
      obtain ⟨i1, i2, i3, i4⟩ := ih (b.drop (secs r.length * 64)) (by rw [List.length_drop]; omega)
      rw [recs_some hget, span_cons, Nat.add_mul]
      rw [List.length_drop] at i2
      refine ⟨fun x hx => ?_, by omega, ?_, ?_⟩
      · rcases List.mem_cons.1 hx with rfl | hx
        · exact h1
        · exact i1 x hx
      · rw [List.take_add, h3, i3, List.flatMap_cons]
      · rw [← List.drop_drop]
        exact i4
theorem recs_le (b : List UInt8) : ∀ r ∈ recs b, r.length ≤ 16384 := (recs_stand _ b (Nat.le_refl _)).1
theorem recs_span (b : List UInt8) : span (recs b) * 64 ≤ b.length := (recs_stand _ b (Nat.le_refl _)).2.1
theorem recs_take (b : List UInt8) : b.take (span (recs b) * 64) = (recs b).flatMap frame := (recs_stand _ b (Nat.le_refl _)).2.2.1
/-- What is told, with noughts behind it, tells the same. -/
theorem recs_clean (b z : List UInt8) (hz : z.all (· == 0) = true) : recs (b.take (span (recs b) * 64) ++ z) = recs b := by
  rw [recs_take, recs_frames _ _ (recs_le b), recs_noughts hz, List.append_nil]
/-- Records that bytes begin with are told first, whatever stands behind them. -/
theorem recs_first (L : List (List UInt8)) (b : List UInt8) (h : ∀ r ∈ L, r.length ≤ 16384) (hb : b.take (span L * 64) = L.flatMap frame) : ∃ M, recs b = L ++ M := by
  refine ⟨recs (b.drop (span L * 64)), ?_⟩
  rw [← recs_frames L _ h, ← hb, List.take_append_drop]
end Go.Proofs.Ytjaidhglemnakaa
