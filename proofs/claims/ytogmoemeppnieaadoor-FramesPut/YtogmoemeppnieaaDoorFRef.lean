/- The walks of the document's own number, Sectors and Put. -/
import Derived.Test.YtogmoemeppnieaaDoorFPut
import Derived.Test.YtogmoemeppnieaaDoorSRef
set_option linter.unusedSimpArgs false
set_option linter.unusedVariables false
namespace Go.Proofs.YtogmoemeppnieaaDoor
open Go.RowKit

set_option maxHeartbeats 1000000 in
set_option maxRecDepth 1000000 in
theorem number_any (w : World) (n : BitVec 32) :
    Calls Tryd.prog 14 #[.int .u32 (uv n)] w fun e w' => e = .returned (.slice (some ⟨w.heap.size, 0, none⟩) 4 4) ∧ w' = w.alloc (.cells (bcells (be4 n.toNat)).toArray 5) := by
  obtain ⟨u3, u2, u1, u0⟩ := be4_uv n
  have ub := uv_bd n
  have E : Hid ((bcells (be4 n.toNat)).toArray = #[.int .u8 ((byteBE n.toNat 3).toNat : Int), .int .u8 ((byteBE n.toNat 2).toNat : Int), .int .u8 ((byteBE n.toNat 1).toNat : Int), .int .u8 ((byteBE n.toNat 0).toNat : Int)]) := rfl
  rw [E.out]
  clear E
  generalize byteBE n.toNat 3 = y3 at *
  generalize byteBE n.toNat 2 = y2 at *
  generalize byteBE n.toNat 1 = y1 at *
  generalize byteBE n.toNat 0 = y0 at *
  generalize uv n = m at *
  go_enter Tryd.func14, Tryd.ntmps14
  go_wp2
  go_ret
  exact ⟨rfl, rfl⟩
end Go.Proofs.YtogmoemeppnieaaDoor
