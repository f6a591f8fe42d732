/- The walk of SumsLong: with a byte more the sum hangs on that byte, and on the sum ahead of it, alone. -/
import Derived.Test.YtnnmdmodcmfelaaSAlive
import Derived.Test.YtnnmdmodcmfelaaSLaw
set_option linter.unusedSimpArgs false
set_option linter.unusedVariables false
namespace Go.Proofs.Ytnnmdmodcmfelaa
open Go.RowKit

theorem long_iff (a b : List UInt8) (c : UInt8) : sumOf (a ++ [c]) = sumOf (b ++ [c]) ↔ sumOf a = sumOf b := by
  rw [sumOf_app, sumOf_app]
  exact sumOn_iff _ _ _
theorem long_eqB (a b : List UInt8) (c : UInt8) : (uv (sumOf (a ++ [c])) == uv (sumOf (b ++ [c]))) = (uv (sumOf a) == uv (sumOf b)) := by
  rw [uv_eqB, uv_eqB, decide_eq_decide]
  exact long_iff a b c

set_option maxHeartbeats 4000000 in
set_option maxRecDepth 1000000 in
theorem long_any (w : World) (va vb : Value) (a b : List UInt8) (z : Int) (ha : InAt w w.heap.size va a) (la : a.length ≤ 140737488351232) (hb : InAt w w.heap.size vb b) (lb : b.length ≤ 140737488351232) (hz : (Lit.int .u8 z).wf = true) :
    Calls Try.prog 7 #[va, vb, .int .u8 z] w fun e w' => e = .returned (.bool true) ∧ Below w.heap.size w w' := by
  obtain ⟨c, rfl⟩ := u8_of_wf hz
  have kA := alive_any w
  have ha0 := ha
  have hb0 := hb
  obtain ⟨ao, ca, rfl, hac, ham, -⟩ := ha
  obtain ⟨bo, cb, rfl, hbc, hbm, -⟩ := hb
  unfold maxLen at ham hbm
  by_cases hlong : 100000 < a.length + b.length
  · have i1 : (100000 : Int) < (a.length : Int) + (b.length : Int) := by omega
    clear ha0 hb0
    go_enter Try.func7, Try.ntmps7
    go_wp2_with fail
    refine kA.mono ?_
    rintro e w1 ⟨rfl, b1⟩
    clear kA
    go_wp2_with fail
    refine (alive_any _).mono ?_
    rintro e w2 ⟨rfl, b2⟩
    have b3 := b1.trans (b2.mono b1.size)
    go_wp2
    go_ret
    exact ⟨rfl, b3⟩
  have i1 : ¬ (100000 : Int) < (a.length : Int) + (b.length : Int) := by omega
  obtain ⟨i0, hi, hz0, hz1, hz2⟩ := info_parts info_u8
  have kO := fun W (hW : Below w.heap.size w W) => of_any W _ _ a (ha0.below hW (Nat.le_refl _)) hW.size
  have kP := fun W (hW : Below w.heap.size w W) => of_any W _ _ b (hb0.below hW (Nat.le_refl _)) hW.size
  have kX := fun W v (hW : InAt W W.heap.size v (a ++ [c])) => of_any W _ v _ hW (Nat.le_refl _)
  have kY := fun W v (hW : InAt W W.heap.size v (b ++ [c])) => of_any W _ v _ hW (Nat.le_refl _)
  have kZ := fun W => lit_on W [c] (0, 0) (sumOf a) (uv (sumOf (a ++ [c]))) (by rw [sumOf_app]) (by simp)
  have E := long_eqB a b c
  generalize uv (sumOf (a ++ [c])) = x at *
  generalize uv (sumOf (b ++ [c])) = y at *
  generalize uv (sumOf a) = p at *
  generalize uv (sumOf b) = q at *
  go_enter Try.func7, Try.ntmps7
  go_wp2_with fail
  refine kA.mono ?_
  rintro e w2 ⟨rfl, b2⟩
  clear kA
  have s2 := src_in (ha0.below b2 (Nat.le_refl _))
  have z2 := b2.size
  go_wp2_with (first
    | (at_builtin; refine wpList_append_own_src _ rfl (.const (.slice none 0 0)) (.tmp 20) 22 22 rfl w.heap.size 5 i0 (.int .u8 0) 1 1 Try.underlying22 hi hz0 hz1 hz2 rfl (by decide) (.slice none 0 0) 0 [] rfl (World.ownsRow_nil _ _ _ _) (.slice ao a.length ca) a.length (bcells a) rfl s2 (by unfold maxLen; omega) (by omega) z2 ?_; refine fun v3 w3 o3 g3 _ => ?_; have b3 := grown_below b2 g3 z2 (BsAt.nil w2 w.heap.size); have O3 : BsAt w3 w.heap.size v3 a := BsAt.app (a := []) o3; have z3 := b3.size; have O4 := O3.alloc (.cells (bcells [c]).toArray 5); have s4 := src_lit w3 [c] (by simp); have b4 := b3.alloc z3 (.cells (bcells [c]).toArray 5); have z4 := b4.size; clear s2 o3 g3 O3)
    | (at_builtin; refine wpList_append_own_src _ rfl (.tmp 21) (.tmp 23) 22 22 rfl w.heap.size 5 i0 (.int .u8 0) 1 1 Try.underlying22 hi hz0 hz1 hz2 rfl (by decide) v3 a.length (bcells a) rfl O4 (.slice (some ⟨w3.heap.size, 0, none⟩) 1 1) 1 (bcells [c]) rfl s4 (by unfold maxLen; omega) (by omega) z4 ?_; refine fun v5 w5 o5 g5 _ => ?_; have b5 := grown_below b4 g5 z4 O4; have O5 : BsAt w5 w.heap.size v5 (a ++ [c]) := BsAt.app (b := [c]) o5; clear s4 O4 o5 g5))
  refine (kX w5 v5 O5.in).mono ?_
  rintro e w6 ⟨rfl, h⟩
  have b6 := b5.trans (h.mono b5.size)
  have s6 := src_in (hb0.below b6 (Nat.le_refl _))
  have z6 := b6.size
  clear h b5 O5 kX b4 z4 b3 z3 b2 z2
  go_wp2_with (first
    | (at_builtin; refine wpList_append_own_src _ rfl (.const (.slice none 0 0)) (.tmp 26) 22 22 rfl w.heap.size 5 i0 (.int .u8 0) 1 1 Try.underlying22 hi hz0 hz1 hz2 rfl (by decide) (.slice none 0 0) 0 [] rfl (World.ownsRow_nil _ _ _ _) (.slice bo b.length cb) b.length (bcells b) rfl s6 (by unfold maxLen; omega) (by omega) z6 ?_; refine fun v7 w7 o7 g7 _ => ?_; have b7 := grown_below b6 g7 z6 (BsAt.nil w6 w.heap.size); have O7 : BsAt w7 w.heap.size v7 b := BsAt.app (a := []) o7; have z7 := b7.size; have O8 := O7.alloc (.cells (bcells [c]).toArray 5); have s8 := src_lit w7 [c] (by simp); have b8 := b7.alloc z7 (.cells (bcells [c]).toArray 5); have z8 := b8.size; clear s6 o7 g7 O7)
    | (at_builtin; refine wpList_append_own_src _ rfl (.tmp 27) (.tmp 29) 22 22 rfl w.heap.size 5 i0 (.int .u8 0) 1 1 Try.underlying22 hi hz0 hz1 hz2 rfl (by decide) v7 b.length (bcells b) rfl O8 (.slice (some ⟨w7.heap.size, 0, none⟩) 1 1) 1 (bcells [c]) rfl s8 (by unfold maxLen; omega) (by omega) z8 ?_; refine fun v9 w9 o9 g9 _ => ?_; have b9 := grown_below b8 g9 z8 O8; have O9 : BsAt w9 w.heap.size v9 (b ++ [c]) := BsAt.app (b := [c]) o9; clear s8 O8 o9 g9))
  refine (kY w9 v9 O9.in).mono ?_
  rintro e wa ⟨rfl, h⟩
  have ba := b9.trans (h.mono b9.size)
  clear h b9 O9 kY b8 z8 b7 z7 b6 z6
  go_wp2_with fail
  refine (kO wa ba).mono ?_
  rintro e wb ⟨rfl, h⟩
  have bb := ba.trans (h.mono ba.size)
  clear h ba
  go_wp2_with fail
  refine (kP wb bb).mono ?_
  rintro e wc ⟨rfl, h⟩
  have bc := bb.trans (h.mono bb.size)
  clear h bb kP
  go_wp2_with fail
  refine (kO wc bc).mono ?_
  rintro e wd ⟨rfl, h⟩
  have bd := bc.trans (h.mono bc.size)
  clear h bc kO
  go_wp2_with fail
  refine (kZ wd).mono ?_
  rintro e we ⟨rfl, h⟩
  have be := bd.trans (h.mono bd.size)
  clear h bd kZ
  go_wp2
  go_ret
  exact ⟨rfl, be⟩
end Go.Proofs.Ytnnmdmodcmfelaa
