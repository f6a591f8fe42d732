/- The walk of the closure that writes a number into a frame. -/
import Derived.Test.YtogmoemeppnieaaGreatDoorFBs
import Derived.Test.YtogmoemeppnieaaGreatDoorFSmall
import Derived.BigRegion
set_option linter.unusedSimpArgs false
set_option linter.unusedVariables false
namespace Go.Proofs.YtogmoemeppnieaaGreatDoor
open Go.RowKit

theorem be4_uv (n : BitVec 32) : uv n / 16777216 = ((byteBE n.toNat 3).toNat : Int) ∧ uv n / 65536 % 256 = ((byteBE n.toNat 2).toNat : Int) ∧ uv n / 256 % 256 = ((byteBE n.toNat 1).toNat : Int) ∧ uv n % 256 = ((byteBE n.toNat 0).toNat : Int) := by
  have := n.isLt
  rw [byteBE_nat, byteBE_nat, byteBE_nat, byteBE_nat]
  unfold uv
  omega
end Go.Proofs.YtogmoemeppnieaaGreatDoor
