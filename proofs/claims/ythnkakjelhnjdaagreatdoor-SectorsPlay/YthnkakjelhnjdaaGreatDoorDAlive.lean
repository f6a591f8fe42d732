/- The walk of alive: the answers that the document fixes are given. -/
import Derived.Test.YthnkakjelhnjdaaGreatDoorDFirst
set_option linter.unusedSimpArgs false
set_option linter.unusedVariables false
namespace Go.Proofs.YthnkakjelhnjdaaGreatDoor
open Go.RowKit Go.Maps

/-- The disk of the document's examples. -/
def dA : Dk := (((Dk.new 2).write 0 [97]).sync.write 0 [98]).write 1 [99]
theorem al_write {base : Nat} {w0 w : World} {B : Nat} {d : Dk} (h : Own base w B d) (hb : base ≤ w.heap.size) (hw : Below base w0 w) (i : Nat) (hi : i < d.sure.length) (c : UInt8) (z : Int) (hz : z = (i : Int)) (y : Int) (hy : y = (c.toNat : Int)) (hn : d.ws.length ≤ 1000000) :
    Calls Tryz.prog 8 #[.pointer (some ⟨B, 0, none⟩), .int .i64 z, .slice (some ⟨w.heap.size, 0, none⟩) 1 1] (w.alloc (.cells #[.int .u8 y] 5 (1, 2))) fun e w' => e = .returned (.int .i64 0) ∧ Own base w' B (d.write i [c]) ∧ Below base w0 w' := by
  subst hz hy
  have hb1 := below_one w (.cells #[.int .u8 (c.toNat : Int)] 5 (1, 2))
  have k := write_own (h.below hb1) (Nat.le_trans hb hb1.size) i hi _ [c] (lit_in w [c] (1, 2) 5 (by simp)) (by simp) hn
  refine k.mono ?_
  rintro e w' ⟨rfl, o, b⟩
  exact ⟨rfl, o, hw.trans ((hb1.mono hb).trans b)⟩
theorem al_fail {base : Nat} {w0 w : World} {B : Nat} {d : Dk} (h : Own base w B d) {bb : Nat} (hw : Below bb w0 w) (hbb : bb ≤ w.heap.size) (k : Nat) (hk : k < 18446744073709551616) (z : Int) (hz : z = (k : Int)) (t : Int) (ht : -1 ≤ t) :
    Calls Tryz.prog 16 #[.pointer (some ⟨B, 0, none⟩), .int .u64 z, .int .i64 t] w fun e w' =>
      ∃ B', e = .returned (.tuple #[.pointer (some ⟨B', 0, none⟩), .int .i64 0]) ∧ Below bb w0 w' ∧ Below w.heap.size w w' ∧ Own w.heap.size w' B' (d.fail k t) := by
  subst hz
  exact (fail_own h k hk t ht).mono fun e w' ⟨B', k1, k2, k3⟩ => ⟨B', k1, hw.trans (k2.mono hbb), k2, k3⟩

end Go.Proofs.YthnkakjelhnjdaaGreatDoor
