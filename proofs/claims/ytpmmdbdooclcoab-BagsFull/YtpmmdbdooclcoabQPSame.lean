/- The walks of MsgSize and of SameMsg, where the messages are the same. -/
import Derived.Test.YtpmmdbdooclcoabQData
import Derived.Test.YtpmmdbdooclcoabQRSameR
import Derived.Test.YtpmmdbdooclcoabQRSameO
set_option linter.unusedSimpArgs false
set_option linter.unusedVariables false
namespace Go.Proofs.Ytpmmdbdooclcoab
open Go.RowKit

set_option maxHeartbeats 2000000 in
set_option maxRecDepth 1000000 in
theorem msgSize_any (w : World) (vo vr : Value) (m : MsgD) (l : List ResP) (h : MsgAt w w.heap.size vo vr m l) :
    Calls Try.prog 5 #[msgV m vo vr] w fun e w' => (∃ z : Int, e = .returned (.int .i64 z)) ∧ Below w.heap.size w w' := by
  obtain ⟨ao, ca, bo, cb, rfl, rfl⟩ := h.form
  unfold msgV
  obtain ⟨W, hW⟩ : ∃ W, W = w.alloc (.cells #[.int .u8 (m.say.toNat : Int), .int .u8 (m.src.toNat : Int), .int .u8 (m.dst.toNat : Int), .int .u32 (m.g.toNat : Int), .slice ao m.ops.length ca, .slice bo l.length cb] 27) := ⟨_, rfl⟩
  have B0 : Below w.heap.size w W := by rw [hW]; exact below_one w _
  have HW := h.up B0
  have k1 := opsSize_any W _ _ _ HW.ops HW.sm
  have k2 := fun n => resultsSize_any (W.drewN n) _ l (HW.up (below_drewN W n)).res
  have c5 : ∀ n, (W.drewN n).cell? ⟨w.heap.size, 5, none⟩ = some (.slice bo l.length cb) := fun n => by
    show W.cell? ⟨w.heap.size, 5, none⟩ = _
    rw [hW]; go_simp
  have fin : ∀ n, Below w.heap.size w (W.drewN n) := fun n => B0.trans ((below_drewN W n).mono B0.size)
  clear B0 HW h
  subst hW
  go_enter Try.func5, Try.ntmps5
  go_wp2_with fail
  refine k1.mono ?_
  rintro e w1 ⟨⟨z1, rfl⟩, n1, rfl⟩
  obtain ⟨y, hy⟩ : ∃ y, IntKind.i64.wrap (1 + z1) = y := ⟨_, rfl⟩
  have b1 := fin n1
  have k3 := k2 n1
  have d5 := c5 n1
  clear k1 k2 fin c5
  generalize World.drewN _ n1 = w2 at *
  by_cases hle : y ≤ 1048576
  · go_wp2_with fail
    refine k3.mono ?_
    rintro e w3 ⟨⟨z2, rfl⟩, b3⟩
    have b4 := b1.trans (b3.mono b1.size)
    clear k3 d5 b1 b3
    go_wp2
    go_ret
    exact ⟨⟨_, rfl⟩, b4⟩
  · clear k3 d5
    go_wp2
    go_ret
    exact ⟨⟨_, rfl⟩, b1⟩

end Go.Proofs.Ytpmmdbdooclcoab
