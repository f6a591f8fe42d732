/- The walks of the document's own Check and Reserved, and of Beyond. -/
import Derived.Test.YtcgecdiaddcfkaaDoorKCheck
set_option linter.unusedSimpArgs false
set_option linter.unusedVariables false
namespace Go.Proofs.YtcgecdiaddcfkaaDoor
open Go.RowKit

theorem mayB_no {c : Nat} (h : mayB c = false) : c < 48 ∨ (57 < c ∧ c < 95) ∨ c = 96 ∨ 122 < c := by
  rw [Bool.eq_false_iff, Ne, mayB_iff] at h; omega

end Go.Proofs.YtcgecdiaddcfkaaDoor
