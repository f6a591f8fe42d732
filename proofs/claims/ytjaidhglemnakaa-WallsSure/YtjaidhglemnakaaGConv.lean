/- A list of bytes as a text. -/
import Derived.Test.YtjaidhglemnakaaGBase
import Derived.Laws.BytesString
import Derived.Laws.BytesArg
set_option linter.unusedSimpArgs false
set_option linter.unusedVariables false
namespace Go.Proofs.Ytjaidhglemnakaa
open Go.RowKit

theorem conv_in {w : World} {lim : Nat} {v : Value} {bs : List UInt8} (h : InAt w lim v bs) : (convert 22 9 v).run Try.prog w = .ok (.string ⟨bs.toArray⟩) w := by
  obtain ⟨ao, cap, rfl, hlc, hcm, hc⟩ := h
  by_cases hl : 0 < bs.length
  · obtain ⟨b, off, rfl, hb, hcell⟩ := hc hl
    have := run_convert_bytes_arg (P := Try.prog) w 22 5 Try.underlying22 Try.underlying5 b off bs.length cap (bs.map fun c => (c.toNat : Int)) (by simp) (fun i hi => by
      have := hcell i hi 0 _ rfl
      simp only [Nat.add_zero, Nat.mul_one, bv] at this
      rw [this]
      simp [hi]) 9 Try.underlying9
    rw [this]
    have e : strOfNums (bs.map fun c => (c.toNat : Int)) = ⟨bs.toArray⟩ := by
      unfold strOfNums
      rw [List.map_map, show ((fun n : Int => UInt8.ofNat n.toNat) ∘ fun c : UInt8 => (c.toNat : Int)) = id from funext fun c => by simp, List.map_id]
    rw [e]
  · have e : bs = [] := List.eq_nil_of_length_eq_zero (by omega)
    subst e
    cases ao with
    | none => exact run_convert_bytes_nil (P := Try.prog) w 22 5 Try.underlying22 Try.underlying5 0 cap 9 Try.underlying9
    | some a =>
      show (convert 22 9 (.slice (some a) 0 cap)).run Try.prog w = _
      rw [run_convert_bytes_string (P := Try.prog) w 22 9 5 (some a) 0 cap Try.underlying22 Try.underlying5 Try.underlying9]
      have hl0 : (loadCells a 0).run Try.prog w = .ok (([] : List Int).map (Value.int .u8)).toArray w := run_loadCells_list (P := Try.prog) w a [] (fun j v hj => by simp at hj)
      have := run_bytesToString (P := Try.prog) w a 0 cap [] hl0
      rw [this]
      rfl

end Go.Proofs.Ytjaidhglemnakaa
