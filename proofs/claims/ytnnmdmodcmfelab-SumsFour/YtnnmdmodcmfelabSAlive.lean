/- The walk of alive: the answers that the document fixes are given. -/
import Derived.Test.YtnnmdmodcmfelabSDiv
import Derived.Lib.SlBytesConst
import Derived.Deep.OwnRows
set_option linter.unusedSimpArgs false
set_option linter.unusedVariables false
namespace Go.Proofs.Ytnnmdmodcmfelab
open Go.RowKit

theorem lit_in (w : World) (cs : List UInt8) (fr : Nat × Nat) (t : TypeId) (hn : cs.length ≤ 100) : InAt (w.alloc (.cells (bcells cs).toArray t fr)) (w.heap.size + 1) (.slice (some ⟨w.heap.size, 0, none⟩) cs.length cs.length) cs := by
  refine ⟨_, _, rfl, Nat.le_refl _, by unfold maxLen; omega, fun hp => ⟨w.heap.size, 0, rfl, by omega, fun i hi j u hu => ?_⟩⟩
  have hj : j < 1 := by
    rcases Nat.lt_or_ge j 1 with h' | h'
    · exact h'
    · rw [List.getElem?_eq_none (by exact h')] at hu; cases hu
  obtain rfl : j = 0 := by omega
  have hcl : (w.alloc (.cells (bcells cs).toArray t fr)).cell? ⟨w.heap.size, i, none⟩ = (bcells cs).toArray[i]? := cell_of_row _ _ _ _ _ _ (heap_alloc_last w _)
  rw [show 0 + i * 1 + 0 = i by omega, hcl]
  simp only [bCell, List.getElem?_cons_zero] at hu
  simp [bcells, hi]
  exact Option.some.inj hu
theorem lit_of (w : World) (cs : List UInt8) (fr : Nat × Nat) (r : Int) (hr : uv (sumOf cs) = r) (hn : cs.length ≤ 100) :
    Calls Try.prog 5 #[.slice (some ⟨w.heap.size, 0, none⟩) cs.length cs.length] (w.alloc (.cells (bcells cs).toArray 5 fr)) fun e w' => e = .returned (.int .u32 r) ∧ Below w.heap.size w w' := by
  have k := of_any _ _ _ cs (lit_in w cs fr 5 hn) (by simp)
  rw [hr] at k
  refine k.mono ?_
  rintro e w' ⟨rfl, h⟩
  exact ⟨rfl, (below_one w _).trans (h.mono (by simp))⟩
theorem lit_on (w : World) (cs : List UInt8) (fr : Nat × Nat) (s : BitVec 32) (r : Int) (hr : uv (sumOn s cs) = r) (hn : cs.length ≤ 100) :
    Calls Try.prog 6 #[.int .u32 (uv s), .slice (some ⟨w.heap.size, 0, none⟩) cs.length cs.length] (w.alloc (.cells (bcells cs).toArray 5 fr)) fun e w' => e = .returned (.int .u32 r) ∧ Below w.heap.size w w' := by
  have k := on_any _ _ _ cs s (lit_in w cs fr 5 hn) (by simp)
  rw [hr] at k
  refine k.mono ?_
  rintro e w' ⟨rfl, h⟩
  exact ⟨rfl, (below_one w _).trans (h.mono (by simp))⟩
theorem al0 (w : World) : Calls Try.prog 5 #[.slice none 0 0] w fun e w' => e = .returned (.int .u32 0) ∧ Below w.heap.size w w' := by
  have k := of_any w 0 _ [] (InAt_nil w 0) (by omega)
  rw [show uv (sumOf []) = 0 from by decide] at k
  exact k
theorem al6 (w : World) : Calls Try.prog 6 #[.int .u32 5, .slice none 0 0] w fun e w' => e = .returned (.int .u32 5) ∧ Below w.heap.size w w' := by
  have k := on_any w 0 _ [] 5#32 (InAt_nil w 0) (by omega)
  rw [show uv (sumOn 5#32 []) = 5 from by decide, show uv 5#32 = 5 from by decide] at k
  exact k
theorem al1 (w : World) : Calls Try.prog 5 #[.slice (some ⟨w.heap.size, 0, none⟩) 9 9] (w.alloc (.cells #[.int .u8 49, .int .u8 50, .int .u8 51, .int .u8 52, .int .u8 53, .int .u8 54, .int .u8 55, .int .u8 56, .int .u8 57] 5 (9, 10))) fun e w' => e = .returned (.int .u32 3421780262) ∧ Below w.heap.size w w' :=
  lit_of w [49, 50, 51, 52, 53, 54, 55, 56, 57] _ _ (by decide +kernel) (by decide)
theorem al2 (w : World) : Calls Try.prog 5 #[.slice (some ⟨w.heap.size, 0, none⟩) 1 1] (w.alloc (.cells #[.int .u8 97] 5 (1, 2))) fun e w' => e = .returned (.int .u32 3904355907) ∧ Below w.heap.size w w' :=
  lit_of w [97] _ _ (by decide +kernel) (by decide)
theorem al3 (w : World) : Calls Try.prog 5 #[.slice (some ⟨w.heap.size, 0, none⟩) 4 4] (w.alloc (.cells #[.int .u8 0, .int .u8 0, .int .u8 0, .int .u8 0] 5)) fun e w' => e = .returned (.int .u32 558161692) ∧ Below w.heap.size w w' :=
  lit_of w [0, 0, 0, 0] (0, 0) _ (by decide +kernel) (by decide)
theorem al4 (w : World) : Calls Try.prog 6 #[.int .u32 3904355907, .slice (some ⟨w.heap.size, 0, none⟩) 2 2] (w.alloc (.cells #[.int .u8 98, .int .u8 99] 5 (2, 3))) fun e w' => e = .returned (.int .u32 891568578) ∧ Below w.heap.size w w' :=
  lit_on w [98, 99] _ 3904355907#32 _ (by decide +kernel) (by decide)
theorem al5 (w : World) : Calls Try.prog 5 #[.slice (some ⟨w.heap.size, 0, none⟩) 3 3] (w.alloc (.cells #[.int .u8 97, .int .u8 98, .int .u8 99] 5 (3, 4))) fun e w' => e = .returned (.int .u32 891568578) ∧ Below w.heap.size w w' :=
  lit_of w [97, 98, 99] _ _ (by decide +kernel) (by decide)

set_option maxHeartbeats 4000000 in
set_option maxRecDepth 1000000 in
theorem alive_any (w : World) : Calls Try.prog 4 #[] w fun e w' => e = .returned (.bool true) ∧ Below w.heap.size w w' := by
  have hmk : ∀ W : World, (Instr.makeSlice 22 (.int .i64 4) (.int .i64 4)).run Try.prog W = .ok (.slice (some ⟨W.heap.size, 0, none⟩) 4 4) (W.alloc (.cells #[.int .u8 0, .int .u8 0, .int .u8 0, .int .u8 0] 5)) := fun W => by
    have h := run_make_row' 22 5 (.int .u8 0) 1 Try.underlying22 info_u8 rfl .i64 .i64 4 (by omega) (by omega) W
    have e : madeCells #[Value.int .u8 0] 4 = #[.int .u8 0, .int .u8 0, .int .u8 0, .int .u8 0] := by simp [madeCells, show Array.range 4 = #[0, 1, 2, 3] from by decide]
    rw [e] at h
    exact h
  have hcc := fun (w : World) (C : Array Value) (n c : Nat) => Lib.run_convert_bytes_const (P := Try.prog) w 22 5 C n c Try.underlying22 Try.underlying5
  go_enter Try.func4, Try.ntmps4
  go_wp2_with fail
  refine (al0 _).mono ?_
  rintro e w1 ⟨rfl, b1⟩
  go_wp2_with fail
  refine (al1 _).mono ?_
  rintro e w2 ⟨rfl, b⟩
  have b2 := b1.trans (b.mono b1.size)
  clear b b1
  go_wp2_with fail
  refine (al2 _).mono ?_
  rintro e w3 ⟨rfl, b⟩
  have b3 := b2.trans (b.mono b2.size)
  clear b b2
  go_wp2_with fail
  refine (al3 _).mono ?_
  rintro e w4 ⟨rfl, b⟩
  have b4 := b3.trans (b.mono b3.size)
  clear b b3
  go_wp2_with fail
  refine (al4 _).mono ?_
  rintro e w5 ⟨rfl, b⟩
  have b5 := b4.trans (b.mono b4.size)
  clear b b4
  go_wp2_with fail
  refine (al5 _).mono ?_
  rintro e w6 ⟨rfl, b⟩
  have b6 := b5.trans (b.mono b5.size)
  clear b b5
  go_wp2_with fail
  refine (al6 _).mono ?_
  rintro e w7 ⟨rfl, b⟩
  have b7 := b6.trans (b.mono b6.size)
  clear b b6
  go_wp2
  go_ret
  exact ⟨rfl, b7⟩
end Go.Proofs.Ytnnmdmodcmfelab
