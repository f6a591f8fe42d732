/- What the walks of the statements on sums share: numbers as arguments, a list of bytes as what is appended. -/
import Derived.Test.YtnnmdmodcmfelaaSDiv
import Derived.Test.YtnnmdmodcmfelaaGOpen
set_option linter.unusedSimpArgs false
set_option linter.unusedVariables false
namespace Go.Proofs.Ytnnmdmodcmfelaa
open Go.RowKit

theorem u32_uv {n : Int} (h : (Lit.int .u32 n).wf = true) : ∃ s : BitVec 32, n = uv s := by
  have hb := bounds_u32 h
  exact ⟨BitVec.ofNat 32 n.toNat, by rw [show uv (BitVec.ofNat 32 n.toNat) = _ from uv_ofNat (by omega)]; omega⟩

theorem uv_eqB (a b : BitVec 32) : (uv a == uv b) = decide (a = b) := by
  rw [Bool.eq_iff_iff]
  simp only [beq_iff_eq, decide_eq_true_eq]
  exact ⟨uv_inj, fun h => by rw [h]⟩
theorem src_in {w : World} {lim : Nat} {v : Value} {l : List UInt8} (h : InAt w lim v l) : Src Try.prog 1 22 v l.length (bcells l) w := by
  obtain ⟨ao, cap, rfl, h1, h2, h3⟩ := h
  by_cases hp : 0 < l.length
  · obtain ⟨b, off, rfl, hb, hc⟩ := h3 hp
    refine Src.ofSlice w Try.underlying22 _ _ _ _ (by rw [bcells_len, Nat.mul_one]) (fun j u hu => ?_) (bcells_one l)
    rw [Addr.add_lit]
    have hj : j < l.length := by
      rcases Nat.lt_or_ge j l.length with h' | h'
      · exact h'
      · rw [List.getElem?_eq_none (by rw [bcells_len]; exact h')] at hu; cases hu
    have := hc j hj 0 u (by
      rw [← hu]
      simp [bCell, bcells, hj])
    simpa using this
  · obtain rfl : l = [] := List.eq_nil_of_length_eq_zero (by omega)
    cases ao with
    | none => exact Src.ofNil w Try.underlying22 cap
    | some a => exact Src.ofSlice w Try.underlying22 a 0 cap [] rfl (fun j u hu => by simp at hu) (fun u hu => by cases hu)
end Go.Proofs.Ytnnmdmodcmfelaa
