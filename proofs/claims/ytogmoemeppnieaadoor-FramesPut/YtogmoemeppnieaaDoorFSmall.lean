/- The walks of what frames' Put and Get call: sectorsOf, sumOf, noughts. -/
import Derived.Test.YtogmoemeppnieaaDoorFMath
import Derived.Test.YtogmoemeppnieaaDoorSLaw
set_option linter.unusedSimpArgs false
set_option linter.unusedVariables false
namespace Go.Proofs.YtogmoemeppnieaaDoor
open Go.RowKit

theorem ret_i64 {a b : Int} (h : a = b) : Ending.returned (.int .i64 a) = .returned (.int .i64 b) := by rw [h]
theorem sectorsOf_any (w : World) (n : Nat) (h : n ≤ 1000000000) :
    Calls Tryd.prog 11 #[.int .i64 (n : Int)] w fun e w' => e = .returned (.int .i64 ((secs n : Nat) : Int)) ∧ w = w' := by
  have E : Hid (((secs n : Nat) : Int) = (8 + (n : Int) + 64 - 1) / 64) := by show _ = _; unfold secs; omega
  go_enter Tryd.func11, Tryd.ntmps11
  go_wp2
  go_ret
  exact ⟨by rw [E.out]; apply ret_i64; omega, rfl⟩
theorem fsumOf_any (w : World) (la lb : Nat) (va vb : Value) (l r : List UInt8) (hl : InAt w la va l) (hr : InAt w lb vb r) (h1 : la ≤ w.heap.size) (h2 : lb ≤ w.heap.size) :
    Calls Tryd.prog 13 #[va, vb] w fun e w' => e = .returned (.int .u32 (uv (sumOf (l ++ r)))) ∧ Below w.heap.size w w' := by
  have k1 := of_any w la va l hl h1
  have k2 := fun W (hW : Below w.heap.size w W) => on_any W lb vb r (sumOf l) (hr.below hW h2) (Nat.le_trans h2 hW.size)
  obtain ⟨ao, ca, rfl, -, -, -⟩ := hl
  obtain ⟨bo, cb, rfl, -, -, -⟩ := hr
  rw [sumOf_app]
  generalize uv (sumOf l) = p at *
  generalize uv (sumOn (sumOf l) r) = q at *
  go_enter Tryd.func13, Tryd.ntmps13
  go_wp2_with fail
  refine k1.mono ?_
  rintro e w1 ⟨rfl, b1⟩
  go_wp2_with fail
  refine (k2 w1 b1).mono ?_
  rintro e w2 ⟨rfl, b2⟩
  go_wp2
  go_ret
  exact ⟨rfl, b1.trans (b2.mono b1.size)⟩
end Go.Proofs.YtogmoemeppnieaaDoor
