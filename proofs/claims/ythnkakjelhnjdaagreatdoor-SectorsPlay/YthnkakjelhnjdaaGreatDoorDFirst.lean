/- The walk of first: a sector's first byte; bytes of a literal. -/
import Derived.Test.YthnkakjelhnjdaaGreatDoorDNone
import Derived.Lib.SlBytesConst
set_option linter.unusedSimpArgs false
set_option linter.unusedVariables false
namespace Go.Proofs.YthnkakjelhnjdaaGreatDoor
open Go.RowKit Go.Maps

theorem lit_in (w : World) (cs : List UInt8) (fr : Nat × Nat) (t : TypeId) (hn : cs.length ≤ 100) : InAt (w.alloc (.cells (bcells cs).toArray t fr)) (w.heap.size + 1) (.slice (some ⟨w.heap.size, 0, none⟩) cs.length cs.length) cs := by
  refine ⟨_, _, rfl, Nat.le_refl _, by unfold maxLen; omega, fun hp => ⟨w.heap.size, 0, rfl, by omega, fun i hi j u hu => ?_⟩⟩
  have hj : j < 1 := by
    rcases Nat.lt_or_ge j 1 with h' | h'
    · exact h'
    · rw [List.getElem?_eq_none (by exact h')] at hu; cases hu
  obtain rfl : j = 0 := by omega
  have hcl : (w.alloc (.cells (bcells cs).toArray t fr)).cell? ⟨w.heap.size, i, none⟩ = (bcells cs).toArray[i]? := cell_of_row _ _ _ _ _ _ (heap_alloc_last w _)
  rw [show 0 + i * 1 + 0 = i by omega, hcl]
  simp only [bCell, List.getElem?_cons_zero] at hu
  simp [bcells, hi]
  exact Option.some.inj hu
/-- A sector's first byte. -/
def hd (s : Sec) : UInt8 := s.getD 0 0
theorem hd_cell {w : World} {g : Nat} {s : Sec} {t : TypeId} (h : w.heap[g]? = some (.cells (bcells s).toArray t (0, 0))) (hs : s.length = 64) : w.cell? ⟨g, 0, none⟩ = some (.int .u8 ((hd s).toNat : Int)) := by
  rw [cell_of_row _ _ _ _ _ _ h]
  cases s with
  | nil => simp at hs
  | cons c s => rfl
theorem row_in {w : World} {g : Nat} {s : Sec} {t : TypeId} (h : w.heap[g]? = some (.cells (bcells s).toArray t (0, 0))) (n : Nat) (hn : n = s.length) (hm : n ≤ 1000) : InAt w w.heap.size (.slice (some ⟨g, 0, none⟩) n n) s := by
  subst hn
  refine ⟨_, _, rfl, Nat.le_refl _, by unfold maxLen; omega, fun hp => ⟨g, 0, rfl, lt_of_block h, fun i hi j u hu => ?_⟩⟩
  have hj : j < 1 := by
    rcases Nat.lt_or_ge j 1 with h' | h'
    · exact h'
    · rw [List.getElem?_eq_none (by exact h')] at hu; cases hu
  obtain rfl : j = 0 := by omega
  rw [show 0 + i * 1 + 0 = i by omega, cell_of_row _ _ _ _ _ _ h]
  simp only [bCell, List.getElem?_cons_zero] at hu
  simp [bcells, hi]
  exact Option.some.inj hu
end Go.Proofs.YthnkakjelhnjdaaGreatDoor
