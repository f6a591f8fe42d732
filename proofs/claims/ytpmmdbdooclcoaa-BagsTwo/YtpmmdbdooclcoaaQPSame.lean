/- The walks of MsgSize and of SameMsg, where the messages are the same. -/
import Derived.Test.YtpmmdbdooclcoaaQData
import Derived.Test.YtpmmdbdooclcoaaQRSameR
import Derived.Test.YtpmmdbdooclcoaaQRSameO
set_option linter.unusedSimpArgs false
set_option linter.unusedVariables false
namespace Go.Proofs.Ytpmmdbdooclcoaa
open Go.RowKit

set_option maxHeartbeats 2000000 in
set_option maxRecDepth 1000000 in
theorem msgSize_any (w : World) (vo vr : Value) (m : MsgD) (l : List ResP) (h : MsgAt w w.heap.size vo vr m l) :
    Calls Try.prog 19 #[msgV m vo vr] w fun e w' => (∃ z : Int, e = .returned (.int .i64 z)) ∧ Below w.heap.size w w' := by
  obtain ⟨ao, ca, bo, cb, rfl, rfl⟩ := h.form
  unfold msgV
  obtain ⟨W, hW⟩ : ∃ W, W = w.alloc (.cells #[.int .u8 (m.say.toNat : Int), .int .u8 (m.src.toNat : Int), .int .u8 (m.dst.toNat : Int), .int .u32 (m.g.toNat : Int), .slice ao m.ops.length ca, .slice bo l.length cb] 27) := ⟨_, rfl⟩
  have B0 : Below w.heap.size w W := by rw [hW]; exact below_one w _
  have HW := h.up B0
  have k1 := opsSize_any W _ _ _ HW.ops HW.sm
  have k2 := fun n => resultsSize_any (W.drewN n) _ l (HW.up (below_drewN W n)).res
  have c5 : ∀ n, (W.drewN n).cell? ⟨w.heap.size, 5, none⟩ = some (.slice bo l.length cb) := fun n => by
    show W.cell? ⟨w.heap.size, 5, none⟩ = _
    rw [hW]; go_simp
  have fin : ∀ n, Below w.heap.size w (W.drewN n) := fun n => B0.trans ((below_drewN W n).mono B0.size)
  clear B0 HW h
  subst hW
  go_enter Try.func19, Try.ntmps19
  go_wp2_with fail
  refine k1.mono ?_
  rintro e w1 ⟨⟨z1, rfl⟩, n1, rfl⟩
  obtain ⟨y, hy⟩ : ∃ y, IntKind.i64.wrap (1 + z1) = y := ⟨_, rfl⟩
  have b1 := fin n1
  have k3 := k2 n1
  have d5 := c5 n1
  clear k1 k2 fin c5
  generalize World.drewN _ n1 = w2 at *
  by_cases hle : y ≤ 1048576
  · go_wp2_with fail
    refine k3.mono ?_
    rintro e w3 ⟨⟨z2, rfl⟩, b3⟩
    have b4 := b1.trans (b3.mono b1.size)
    clear k3 d5 b1 b3
    go_wp2
    go_ret
    exact ⟨⟨_, rfl⟩, b4⟩
  · clear k3 d5
    go_wp2
    go_ret
    exact ⟨⟨_, rfl⟩, b1⟩

set_option maxHeartbeats 2000000 in
set_option maxRecDepth 1000000 in
theorem sameMsg_any (w : World) (vo vr uo ur : Value) (m : MsgD) (l k : List ResP) (h1 : MsgAt w w.heap.size vo vr m l) (h2 : MsgAt w w.heap.size uo ur m k) :
    Calls Try.prog 18 #[msgV m vo vr, msgV m uo ur] w fun e w' => e = .returned (.bool true) ∧ Below w.heap.size w w' := by
  obtain ⟨ao, ca, bo, cb, rfl, rfl⟩ := h1.form
  obtain ⟨co, cc, eo, ce, rfl, rfl⟩ := h2.form
  unfold msgV
  obtain ⟨W, hW⟩ : ∃ W, W = (w.alloc (.cells #[.int .u8 (m.say.toNat : Int), .int .u8 (m.src.toNat : Int), .int .u8 (m.dst.toNat : Int), .int .u32 (m.g.toNat : Int), .slice ao m.ops.length ca, .slice bo l.length cb] 27)).alloc (.cells #[.int .u8 (m.say.toNat : Int), .int .u8 (m.src.toNat : Int), .int .u8 (m.dst.toNat : Int), .int .u32 (m.g.toNat : Int), .slice co m.ops.length cc, .slice eo k.length ce] 27) := ⟨_, rfl⟩
  have B0 : Below w.heap.size w W := by rw [hW]; exact ((Below.refl _ _).alloc (Nat.le_refl _) _).alloc (by simp) _
  have H1 := h1.up B0
  have H2 := h2.up B0
  have ko := sameOps_any W _ _ _ _ _ H1.ops H2.ops
  have kr := fun n => sameResults_any (W.drewN n) _ _ l k (H1.up (below_drewN W n)).res (H2.up (below_drewN W n)).res (by rw [h1.eq, h2.eq])
  have c5 : ∀ n, (W.drewN n).cell? ⟨w.heap.size, 5, none⟩ = some (.slice bo l.length cb) := fun n => by
    show W.cell? ⟨w.heap.size, 5, none⟩ = _
    rw [hW]; go_simp
  have e5 : ∀ n, (W.drewN n).cell? ⟨w.heap.size + 1, 5, none⟩ = some (.slice eo k.length ce) := fun n => by
    show W.cell? ⟨w.heap.size + 1, 5, none⟩ = _
    rw [hW]; go_simp
  have fin : ∀ n, Below w.heap.size w (W.drewN n) := fun n => B0.trans ((below_drewN W n).mono B0.size)
  clear B0 H1 H2 h1 h2
  subst hW
  go_enter Try.func18, Try.ntmps18
  go_wp2_with fail
  refine ko.mono ?_
  rintro e w1 ⟨rfl, n1, rfl⟩
  have b1 := fin n1
  have k3 := kr n1
  have d5 := c5 n1
  have f5 := e5 n1
  clear ko kr fin c5 e5
  generalize World.drewN _ n1 = w2 at *
  go_wp2_with fail
  refine k3.mono ?_
  rintro e w3 ⟨rfl, b3⟩
  have b4 := b1.trans (b3.mono b1.size)
  clear k3 d5 f5 b1 b3
  go_wp2
  go_ret
  exact ⟨rfl, b4⟩
end Go.Proofs.Ytpmmdbdooclcoaa
