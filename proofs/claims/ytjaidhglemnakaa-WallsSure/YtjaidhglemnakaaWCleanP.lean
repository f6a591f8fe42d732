/- What is written behind the records, plainly. -/
import Derived.Test.YtjaidhglemnakaaWStep
set_option linter.unusedSimpArgs false
set_option linter.unusedVariables false
namespace Go.Proofs.Ytjaidhglemnakaa

/-- Bytes that begin with eight noughts begin with no record. -/
theorem getF_eight {b : List UInt8} (h : b.take 8 = List.replicate 8 0) : getF b = none := by
  by_cases h1 : b.length < 64
  · unfold getF
    rw [if_pos h1]
  have e4 : b.take 4 = [0, 0, 0, 0] := by
    have := congrArg (List.take 4) h
    rw [List.take_take] at this
    exact this
  have e8 : (b.drop 4).take 4 = [0, 0, 0, 0] := by
    have := congrArg (List.drop 4) h
    rw [List.drop_take] at this
    exact this
  have n0 : num [0, 0, 0, 0] = 0 := by decide
  have s1 : secs 0 * 64 = 64 := by decide
  rw [getF_step h1 (by rw [e4, n0]; omega) (by rw [e4, n0, s1]; exact h1), if_neg]
  rintro ⟨h2, -⟩
  rw [e8, e4, n0] at h2
  revert h2
  rw [List.take_zero, List.append_nil]
  decide +kernel
theorem chunk_take8 {b : List UInt8} {i : Nat} (h : chunk b i = List.replicate 64 0) : (b.drop (i * 64)).take 8 = List.replicate 8 0 := by
  have := congrArg (List.take 8) h
  unfold chunk at this
  rw [List.take_take] at this
  exact this
/-- Behind the records' end all is noughts. -/
theorem Clean.behind {d : Dk} {L : List (List UInt8)} (h : Clean d L) {i : Nat} (hi : span L ≤ i) (hs : i < d.sure.length) : d.view i = List.replicate 64 0 := by
  rw [← Dk.all_chunk h.ok hs, h.all, chunk_right (frames_len L) hi, chunk_zero (by omega)]
/-- What is written two sectors and more behind the records is not told. -/
theorem Clean.other {d : Dk} {L : List (List UInt8)} (h : Clean d L) {i : Nat} {s : List UInt8} (hi : span L < i) (hs : i < d.sure.length) (hl : s.length ≤ 64) : Proofs.Ytjaidhglemnakaa.recs (d.write i s).all = L := by
  have hok := h.ok.write hs hl
  have hsz : (d.write i s).sure.length = d.sure.length := rfl
  have hal := Dk.all_len hok
  have hch : ∀ k, k < i → chunk (d.write i s).all k = chunk d.all k := fun k hk => by
    rw [Dk.all_chunk hok (by rw [hsz]; omega), Dk.all_chunk h.ok (by omega), Dk.view_write, if_neg (by omega)]
  have htake : (d.write i s).all.take (span L * 64) = L.flatMap frame := by
    have key : ∀ k, k ≤ span L → (d.write i s).all.take (k * 64) = d.all.take (k * 64) := by
      intro k
      induction k with
      | zero => intro _; simp
      | succ k ih =>
        intro hk
        rw [Nat.succ_mul, List.take_add, List.take_add, ih (by omega)]
        have := hch k (by omega)
        unfold chunk at this
        rw [this]
    rw [key _ (Nat.le_refl _), h.all, List.take_left' (frames_len L)]
  have hz : getF ((d.write i s).all.drop (span L * 64)) = none := by
    refine getF_eight (chunk_take8 ?_)
    rw [hch _ hi, Dk.all_chunk h.ok (by omega)]
    exact h.behind (Nat.le_refl _) (by omega)
  rw [← List.take_append_drop (span L * 64) (d.write i s).all, htake, recs_frames L _ h.le, recs_none hz, List.append_nil]
end Go.Proofs.Ytjaidhglemnakaa
