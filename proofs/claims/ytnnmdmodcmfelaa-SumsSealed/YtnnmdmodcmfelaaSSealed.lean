/- The walk of SumsSealed: bytes with their sum behind them have all one sum. -/
import Derived.Test.YtnnmdmodcmfelaaSAlive
import Derived.Test.YtnnmdmodcmfelaaSLaw
set_option linter.unusedSimpArgs false
set_option linter.unusedVariables false
namespace Go.Proofs.Ytnnmdmodcmfelaa
open Go.RowKit

/-- A number's bytes, the lowest one first. -/
def byteAt (n : BitVec 32) (k : Nat) : UInt8 := UInt8.ofNat (n.toNat / 256 ^ k % 256)
theorem byteAt_nat (n : BitVec 32) (k : Nat) : (byteAt n k).toNat = n.toNat / 256 ^ k % 256 := u8_nat (Nat.mod_lt _ (by omega))
theorem four_bytes (n : BitVec 32) : n = four (byteAt n 0) (byteAt n 1) (byteAt n 2) (byteAt n 3) := by
  apply BitVec.eq_of_toNat_eq
  have := n.isLt
  rw [four_toNat, byteAt_nat, byteAt_nat, byteAt_nat, byteAt_nat]
  omega
theorem sealed_of (l : List UInt8) : sumOf (l ++ [byteAt (sumOf l) 0, byteAt (sumOf l) 1, byteAt (sumOf l) 2, byteAt (sumOf l) 3]) = 558161692#32 := sealed l _ _ _ _ (four_bytes _)
theorem byteAt_uv (n : BitVec 32) : uv n % 256 = ((byteAt n 0).toNat : Int) ∧ uv n / 256 % 256 = ((byteAt n 1).toNat : Int) ∧ uv n / 65536 % 256 = ((byteAt n 2).toNat : Int) ∧ uv n / 16777216 = ((byteAt n 3).toNat : Int) := by
  have := n.isLt
  rw [byteAt_nat, byteAt_nat, byteAt_nat, byteAt_nat]
  unfold uv
  omega

set_option maxHeartbeats 4000000 in
set_option maxRecDepth 1000000 in
theorem sealed_any (w : World) (vb : Value) (l : List UInt8) (hl : InAt w w.heap.size vb l) :
    Calls Try.prog 8 #[vb] w fun e w' => e = .returned (.bool true) ∧ Below w.heap.size w w' := by
  have kA := alive_any w
  have hl0 := hl
  obtain ⟨ao, cap, rfl, hlc, hcm, hc⟩ := hl
  clear hc
  unfold maxLen at hcm
  by_cases hlong : 100000 < l.length
  · have i1 : (100000 : Int) < (l.length : Int) := by omega
    clear hl0
    go_enter Try.func8, Try.ntmps8
    go_wp2_with fail
    refine kA.mono ?_
    rintro e w1 ⟨rfl, b1⟩
    clear kA
    go_wp2_with fail
    refine (alive_any _).mono ?_
    rintro e w2 ⟨rfl, b2⟩
    have b3 := b1.trans (b2.mono b1.size)
    go_wp2
    go_ret
    exact ⟨rfl, b3⟩
  have i1 : ¬ (100000 : Int) < (l.length : Int) := by omega
  obtain ⟨i0, hi, hz0, hz1, hz2⟩ := info_parts info_u8
  have kO := fun W (hW : Below w.heap.size w W) => of_any W _ _ l (hl0.below hW (Nat.le_refl _)) hW.size
  have E := sealed_of l
  obtain ⟨e0, e1, e2, e3⟩ := byteAt_uv (sumOf l)
  have ub := uv_bd (sumOf l)
  generalize byteAt (sumOf l) 0 = y0 at *
  generalize byteAt (sumOf l) 1 = y1 at *
  generalize byteAt (sumOf l) 2 = y2 at *
  generalize byteAt (sumOf l) 3 = y3 at *
  have kF := fun W v (hW : InAt W W.heap.size v (l ++ [y0, y1, y2, y3])) => of_any W _ v _ hW (Nat.le_refl _)
  rw [E, show uv 558161692#32 = 558161692 from by decide] at kF
  clear E
  generalize uv (sumOf l) = p at *
  go_enter Try.func8, Try.ntmps8
  go_wp2_with fail
  refine kA.mono ?_
  rintro e w1 ⟨rfl, b1⟩
  clear kA
  go_wp2_with fail
  refine (kO w1 b1).mono ?_
  rintro e w2 ⟨rfl, h⟩
  have b2 := b1.trans (h.mono b1.size)
  have s2 := src_in (hl0.below b2 (Nat.le_refl _))
  have z2 := b2.size
  clear h b1 kO
  go_wp2_with (first
    | (at_builtin; refine wpList_append_own_src _ rfl (.const (.slice none 0 0)) (.tmp 15) 22 22 rfl w.heap.size 5 i0 (.int .u8 0) 1 1 Try.underlying22 hi hz0 hz1 hz2 rfl (by decide) (.slice none 0 0) 0 [] rfl (World.ownsRow_nil _ _ _ _) (.slice ao l.length cap) l.length (bcells l) rfl s2 (by unfold maxLen; omega) (by omega) z2 ?_; refine fun v3 w3 o3 g3 _ => ?_; have b3 := grown_below b2 g3 z2 (BsAt.nil w2 w.heap.size); have O3 : BsAt w3 w.heap.size v3 l := BsAt.app (a := []) o3; have z3 := b3.size; have O4 := O3.alloc (.cells (bcells [y0, y1, y2, y3]).toArray 5); have s4 := src_lit w3 [y0, y1, y2, y3] (by simp); have b4 := b3.alloc z3 (.cells (bcells [y0, y1, y2, y3]).toArray 5); have z4 := b4.size; clear s2 o3 g3 O3)
    | (at_builtin; refine wpList_append_own_src _ rfl (.tmp 16) (.tmp 28) 22 22 rfl w.heap.size 5 i0 (.int .u8 0) 1 1 Try.underlying22 hi hz0 hz1 hz2 rfl (by decide) v3 l.length (bcells l) rfl O4 (.slice (some ⟨w3.heap.size, 0, none⟩) 4 4) 4 (bcells [y0, y1, y2, y3]) rfl s4 (by unfold maxLen; omega) (by omega) z4 ?_; refine fun v5 w5 o5 g5 _ => ?_; have b5 := grown_below b4 g5 z4 O4; have O5 : BsAt w5 w.heap.size v5 (l ++ [y0, y1, y2, y3]) := BsAt.app (b := [y0, y1, y2, y3]) o5; clear s4 O4 o5 g5))
  refine (kF w5 v5 O5.in).mono ?_
  rintro e w6 ⟨rfl, h⟩
  have b6 := b5.trans (h.mono b5.size)
  go_wp2
  go_ret
  exact ⟨rfl, b6⟩
end Go.Proofs.Ytnnmdmodcmfelaa
