/- The walk of move: one bit down. -/
import Derived.Test.YtjaidhglemnakaaRows
import Derived.Test.YtjaidhglemnakaaSMath
import Derived.WalkKit
import Derived.Laws.BitsAll
import Derived.Below
set_option linter.unusedSimpArgs false
set_option linter.unusedVariables false
namespace Go.Proofs.Ytjaidhglemnakaa
open Go.RowKit

/-- A number as the program has it. -/
def uv (n : BitVec 32) : Int := (n.toNat : Int)
theorem uv_bd (n : BitVec 32) : 0 ≤ uv n ∧ uv n < 4294967296 := by have := n.isLt; unfold uv; omega
theorem uv_xor (a b : BitVec 32) : bits .xor .u32 (uv a) (uv b) = uv (a ^^^ b) := by
  unfold uv; rw [u32_xor_nat _ _ a.isLt b.isLt, BitVec.toNat_xor]
theorem uv_not (a : BitVec 32) : bits .xor .u32 IntKind.u32.max (uv a) = uv (~~~ a) := by
  rw [show IntKind.u32.max = (4294967295 : Int) from by decide, show (4294967295 : Int) = uv 4294967295#32 from rfl, uv_xor, ← not_eq]
theorem uv_low (a : BitVec 32) : (uv a % 2 = 1) ↔ a.getLsbD 0 = true := by
  unfold uv
  rw [show a.getLsbD 0 = a.toNat.testBit 0 from rfl, Nat.testBit_zero]
  simp
  omega
theorem uv_half (a : BitVec 32) : uv a / (2 : Int) = uv (a >>> (1 : Nat)) := by
  unfold uv; rw [BitVec.toNat_ushiftRight, Nat.shiftRight_eq_div_pow]; omega
theorem uv_inj {a b : BitVec 32} (h : uv a = uv b) : a = b := BitVec.eq_of_toNat_eq (by unfold uv at h; omega)
theorem mv_one {n : BitVec 32} (h : uv n % 2 = 1) : uv (mv n) = bits .xor .u32 (uv n / 2) 3988292384 := by
  unfold mv
  rw [if_pos ((uv_low n).1 h), uv_half, show (3988292384 : Int) = uv dsr from rfl, uv_xor]
theorem mv_none {n : BitVec 32} (h : uv n % 2 = 0) : uv (mv n) = uv n / 2 := by
  unfold mv
  rw [if_neg (fun e => by have := (uv_low n).2 e; omega), uv_half]

set_option maxHeartbeats 1000000 in
set_option maxRecDepth 1000000 in
theorem move_any (w : World) (n : BitVec 32) : Calls Try.prog 57 #[.int .u32 (uv n)] w fun e w' => e = .returned (.int .u32 (uv (mv n))) ∧ w' = w := by
  have hb := uv_bd n
  have h1 : bits .and .u32 (uv n) 1 = uv n % 2 := by have := hb; go_bits2
  rcases (show uv n % 2 = 1 ∨ uv n % 2 = 0 by omega) with h | h
  · have E : Hid (uv (mv n) = bits .xor .u32 (uv n / 2) 3988292384) := mv_one h
    generalize uv (mv n) = r at *
    generalize uv n = u at *
    go_enter Try.func57, Try.ntmps57
    go_wp2
    go_ret
    exact ⟨by rw [E.out]; rfl, rfl⟩
  · have E : Hid (uv (mv n) = uv n / 2) := mv_none h
    generalize uv (mv n) = r at *
    generalize uv n = u at *
    go_enter Try.func57, Try.ntmps57
    go_wp2
    go_ret
    exact ⟨by rw [E.out]; rfl, rfl⟩
end Go.Proofs.Ytjaidhglemnakaa
