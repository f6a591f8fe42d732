/- The walk of alive: the answers that the document fixes are given. -/
import Derived.Test.YtapfkoojplbfmabDFirst
set_option linter.unusedSimpArgs false
set_option linter.unusedVariables false
namespace Go.Proofs.Ytapfkoojplbfmab
open Go.RowKit Go.Maps

/-- The disk of the document's examples. -/
def dA : Dk := (((Dk.new 2).write 0 [97]).sync.write 0 [98]).write 1 [99]
theorem al_write {base : Nat} {w0 w : World} {B : Nat} {d : Dk} (h : Own base w B d) (hb : base ≤ w.heap.size) (hw : Below base w0 w) (i : Nat) (hi : i < d.sure.length) (c : UInt8) (z : Int) (hz : z = (i : Int)) (y : Int) (hy : y = (c.toNat : Int)) (hn : d.ws.length ≤ 1000000) :
    Calls Try.prog 12 #[.pointer (some ⟨B, 0, none⟩), .int .i64 z, .slice (some ⟨w.heap.size, 0, none⟩) 1 1] (w.alloc (.cells #[.int .u8 y] 5 (1, 2))) fun e w' => e = .returned (.int .i64 0) ∧ Own base w' B (d.write i [c]) ∧ Below base w0 w' := by
  subst hz hy
  have hb1 := below_one w (.cells #[.int .u8 (c.toNat : Int)] 5 (1, 2))
  have k := write_own (h.below hb1) (Nat.le_trans hb hb1.size) i hi _ [c] (lit_in w [c] (1, 2) 5 (by simp)) (by simp) hn
  refine k.mono ?_
  rintro e w' ⟨rfl, o, b⟩
  exact ⟨rfl, o, hw.trans ((hb1.mono hb).trans b)⟩
theorem al_first {base : Nat} {w0 w : World} {B : Nat} {d : Dk} (h : Own base w B d) {bb : Nat} (hw : Below bb w0 w) (hbb : bb ≤ w.heap.size) (i : Nat) (hi : i < d.sure.length) (z : Int) (hz : z = (i : Int)) (r : Int) (hr : ((hd (d.view i)).toNat : Int) = r) :
    Calls Try.prog 13 #[.pointer (some ⟨B, 0, none⟩), .int .i64 z] w fun e w' => e = .returned (.int .u8 r) ∧ Below bb w0 w' ∧ Below w.heap.size w w' := by
  subst hz
  exact (first_own h i hi r hr).mono fun e w' ⟨k1, k2⟩ => ⟨k1, hw.trans (k2.mono hbb), k2⟩
theorem al_fail {base : Nat} {w0 w : World} {B : Nat} {d : Dk} (h : Own base w B d) {bb : Nat} (hw : Below bb w0 w) (hbb : bb ≤ w.heap.size) (k : Nat) (hk : k < 18446744073709551616) (z : Int) (hz : z = (k : Int)) (t : Int) (ht : -1 ≤ t) :
    Calls Try.prog 8 #[.pointer (some ⟨B, 0, none⟩), .int .u64 z, .int .i64 t] w fun e w' =>
      ∃ B', e = .returned (.tuple #[.pointer (some ⟨B', 0, none⟩), .int .i64 0]) ∧ Below bb w0 w' ∧ Below w.heap.size w w' ∧ Own w.heap.size w' B' (d.fail k t) := by
  subst hz
  exact (fail_own h k hk t ht).mono fun e w' ⟨B', k1, k2, k3⟩ => ⟨B', k1, hw.trans (k2.mono hbb), k2, k3⟩

set_option maxHeartbeats 4000000 in
set_option maxRecDepth 1000000 in
theorem alive_any (w : World) : Calls Try.prog 5 #[] w fun e w' => e = .returned (.bool true) ∧ Below w.heap.size w w' := by
  have hcc := fun (w : World) (C : Array Value) (n c : Nat) => Lib.run_convert_bytes_const (P := Try.prog) w 31 5 C n c Try.underlying31 Try.underlying5
  have hmk : ∀ W : World, (Instr.makeSlice 31 (.int .i64 65) (.int .i64 65)).run Try.prog W = .ok (.slice (some ⟨W.heap.size, 0, none⟩) 65 65) (W.alloc (.cells (madeCells #[.int .u8 0] 65) 5)) := fun W =>
    run_make_row' 31 5 (.int .u8 0) 1 Try.underlying31 info_u8 rfl .i64 .i64 65 (by omega) (by omega) W
  go_enter Try.func5, Try.ntmps5
  go_wp2_with fail
  refine (new_own w 2 (by omega) (by omega)).mono ?_
  rintro e w1 ⟨B, rfl, b1, o1⟩
  go_wp2_with fail
  refine (new_bad w1 4097 (by omega)).mono ?_
  rintro e w1' ⟨rfl, rfl⟩
  go_wp2_with fail
  refine (al_write o1 b1.size b1 0 (by decide) 97 0 rfl 97 rfl (by decide)).mono ?_
  rintro e w2 ⟨rfl, o2, b2⟩
  clear o1 b1
  go_wp2_with fail
  refine (sync_own o2 b2.size).mono ?_
  rintro e w3 ⟨rfl, o3, b3'⟩
  have b3 := b2.trans b3'
  clear o2 b2 b3'
  go_wp2_with fail
  refine (al_write o3 b3.size b3 0 (by decide) 98 0 rfl 98 rfl (by decide)).mono ?_
  rintro e w4 ⟨rfl, o4, b4⟩
  clear o3 b3
  go_wp2_with fail
  refine (al_write o4 b4.size b4 1 (by decide) 99 1 rfl 99 rfl (by decide)).mono ?_
  rintro e w5 ⟨rfl, o5', b5⟩
  have o5 : Own w.heap.size w5 B dA := o5'
  clear o4 b4 o5'
  go_wp2_with fail
  refine (waits_own o5).mono ?_
  rintro e w5' ⟨rfl, rfl⟩
  go_wp2_with fail
  refine (al_first o5 b5 b5.size 0 (by decide) 0 rfl 98 (by decide +kernel)).mono ?_
  rintro e w6 ⟨rfl, b6, c6⟩
  have o6 := o5.below c6
  clear o5 b5 c6
  go_wp2_with fail
  refine ((by obtain ⟨S, h1, h2⟩ := o6; exact write_bad h1 2 none 0 0 (by omega) (.inl (.inr (by decide)))) : Calls Try.prog _ _ _ _).mono ?_
  rintro e w6' ⟨rfl, rfl⟩
  go_wp2_with fail
  have c7 := below_one w6 (.cells (madeCells #[.int .u8 0] 65) 5)
  have o7 := o6.below c7
  have b7 := b6.trans (c7.mono b6.size)
  generalize w6.alloc (.cells (madeCells #[.int .u8 0] 65) 5) = w7 at *
  clear o6 b6 c7
  refine ((by obtain ⟨S, h1, h2⟩ := o7; exact write_bad h1 0 _ 65 65 (by omega) (.inr (by decide))) : Calls Try.prog _ _ _ _).mono ?_
  rintro e w7' ⟨rfl, rfl⟩
  go_wp2_with fail
  refine (al_fail o7 b7 b7.size 2 (by decide) 2 rfl (-1) (by decide)).mono ?_
  rintro e w8 ⟨Ba, rfl, b8, c8, a8⟩
  have o8 := o7.below c8
  clear o7 b7 c8
  go_wp2_with fail
  refine (al_fail o8 b8 b8.size 3 (by decide) 3 rfl 0 (by decide)).mono ?_
  rintro e w9 ⟨Bb, rfl, b9, c9, q9⟩
  have o9 := o8.below c9
  have a9 := a8.below c9
  clear o8 b8 a8 c9
  go_wp2_with fail
  refine (al_fail o9 b9 b9.size 0 (by decide) 0 rfl 0 (by decide)).mono ?_
  rintro e w10 ⟨Bc, rfl, b10, c10, r10⟩
  have o10 := o9.below c10
  have a10 := a9.below c10
  have q10 := q9.below c10
  clear o9 b9 a9 q9 c10
  go_wp2_with fail
  refine ((by obtain ⟨S, h1, h2⟩ := o10; exact fail_bad h1 0 (-2) (by decide)) : Calls Try.prog _ _ _ _).mono ?_
  rintro e w10' ⟨rfl, rfl⟩
  go_wp2_with fail
  refine (al_first a10 b10 b10.size 0 (by decide +kernel) 0 rfl 97 (by decide +kernel)).mono ?_
  rintro e w11 ⟨rfl, b11, c11⟩
  have o11 := o10.below c11
  have a11 := a10.below c11
  have q11 := q10.below c11
  have r11 := r10.below c11
  clear o10 a10 q10 r10 b10 c11
  go_wp2_with fail
  refine (al_first a11 b11 b11.size 1 (by decide +kernel) 1 rfl 99 (by decide +kernel)).mono ?_
  rintro e w12 ⟨rfl, b12, c12⟩
  have o12 := o11.below c12
  have a12 := a11.below c12
  have q12 := q11.below c12
  have r12 := r11.below c12
  clear o11 a11 q11 r11 b11 c12
  go_wp2_with fail
  refine (al_first q12 b12 b12.size 0 (by decide +kernel) 0 rfl 98 (by decide +kernel)).mono ?_
  rintro e w13 ⟨rfl, b13, c13⟩
  have o13 := o12.below c13
  have a13 := a12.below c13
  have q13 := q12.below c13
  have r13 := r12.below c13
  clear o12 a12 q12 r12 b12 c13
  go_wp2_with fail
  refine (al_first q13 b13 b13.size 1 (by decide +kernel) 1 rfl 99 (by decide +kernel)).mono ?_
  rintro e w14 ⟨rfl, b14, c14⟩
  have o14 := o13.below c14
  have a14 := a13.below c14
  have r14 := r13.below c14
  clear o13 a13 q13 r13 b13 c14
  go_wp2_with fail
  refine (al_first r14 b14 b14.size 0 (by decide +kernel) 0 rfl 97 (by decide +kernel)).mono ?_
  rintro e w15 ⟨rfl, b15, c15⟩
  have o15 := o14.below c15
  have a15 := a14.below c15
  have r15 := r14.below c15
  clear o14 a14 r14 b14 c15
  go_wp2_with fail
  refine (al_first r15 b15 b15.size 1 (by decide +kernel) 1 rfl 0 (by decide +kernel)).mono ?_
  rintro e w16 ⟨rfl, b16, c16⟩
  have o16 := o15.below c16
  have a16 := a15.below c16
  clear o15 a15 r15 b15 c16
  go_wp2_with fail
  refine (waits_own o16).mono ?_
  rintro e w16' ⟨rfl, rfl⟩
  go_wp2_with fail
  refine (waits_own a16).mono ?_
  rintro e w16' ⟨rfl, rfl⟩
  go_wp2
  go_ret
  exact ⟨rfl, b16⟩
end Go.Proofs.Ytapfkoojplbfmab
