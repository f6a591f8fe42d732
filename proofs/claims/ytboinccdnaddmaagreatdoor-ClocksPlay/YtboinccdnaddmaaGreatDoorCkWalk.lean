/- The walks of a clock's calls: there, drop, put, Set, Clear, Left. -/
import Derived.Test.YtboinccdnaddmaaGreatDoorCkClock
import Derived.Deep.WholeRow
set_option linter.unusedSimpArgs false
set_option linter.unusedVariables false
set_option maxRecDepth 1000000
namespace Go.Proofs.YtboinccdnaddmaaGreatDoor
open Go.RowKit Go.Maps

theorem pass_ok (w : World) (nb now : Nat) (hn : now < 1000000000000) (hc : w.heap[nb]? = some (nowO now)) : Calls Tryz.prog 60 #[ptr nb] w fun e w' => e = .returned (.int .u64 ((now : Int) + 1)) ∧ w.setCell ⟨nb, 0, none⟩ (.int .u64 ((now : Int) + 1)) = w' := by
  have c := box_cell hc
  have fz := box_frozen (i := 0) hc
  go_enter Tryz.func60, Tryz.ntmps60
  go_wp2
  go_ret
  exact ⟨rfl, rfl⟩
theorem in_ok (w : World) (nb now t : Nat) (hn : now < 1000000000000) (ht : t ≤ 1073741824) (hc : w.heap[nb]? = some (nowO now)) : Calls Tryz.prog 61 #[.int .i64 (t : Int), ptr nb] w fun e w' => e = .returned (.int .u64 ((now : Int) + (t : Int))) ∧ w = w' := by
  have c := box_cell hc
  go_enter Tryz.func61, Tryz.ntmps61
  go_wp2
  go_ret
  exact ⟨rfl, rfl⟩
theorem eq_fn (w : World) (d : Nat) (k : Fn) (a b : Array Value) : (Op.equalIn (d + 1) 58 (.func k a b) .nilFunc).run Tryz.prog w = .ok false w := by
  simp [Op.equalIn, run_underlying Tryz.underlying58]
theorem eq_nofn (w : World) (d : Nat) : (Op.equalIn (d + 1) 58 .nilFunc .nilFunc).run Tryz.prog w = .ok true w := by
  simp [Op.equalIn, run_underlying Tryz.underlying58]
theorem eq_map (w : World) (d : Nat) (m : Option Nat) : (Op.equalIn (d + 1) 76 (.map m) (.map none)).run Tryz.prog w = .ok m.isNone w := by
  have hu : Tryz.prog.underlying 76 = some (.map 43 77) := Tryz.underlying76
  cases m <;> simp [Op.equalIn, run_underlying hu]
theorem run_neq_fn (w : World) (k : Fn) (a b : Array Value) : (binOp .neq 58 (.func k a b) .nilFunc).run Tryz.prog w = .ok (.bool true) w := by
  simp only [binOp]
  simp [Op.equal, Op.maxDepth, eq_fn w 9999]
theorem run_neq_nofn (w : World) : (binOp .neq 58 .nilFunc .nilFunc).run Tryz.prog w = .ok (.bool false) w := by
  simp only [binOp]
  simp [Op.equal, Op.maxDepth, eq_nofn w 9999]
theorem run_eql_map (w : World) (m : Option Nat) : (binOp .eql 76 (.map m) (.map none)).run Tryz.prog w = .ok (.bool m.isNone) w := by
  simp only [binOp]
  simp [Op.equal, Op.maxDepth, eq_map w 9999]
theorem there_ok (w : World) (C : Nat) (D : ClkD) (hc : w.heap[C]? = some (clkO D)) : Calls Tryz.prog 17 #[ptr C] w fun e w' => e = .returned (.bool true) ∧ w = w' := by
  obtain ⟨c0, c1, c2, c3⟩ := four_cells hc
  unfold inV at c1
  have hq := run_neq_fn w (.func 61) #[] #[ptr D.nb]
  go_enter Tryz.func17, Tryz.ntmps17
  go_wp2
  go_ret
  exact ⟨rfl, rfl⟩
theorem zero_u64 (w : World) : (zeroValue 67).run Tryz.prog w = .ok (.int .u64 0) w := (zero_of_info (by kernel_rfl : (Tryz.prog.info? 67).map (fun i => (i.zero, i.size)) = some (some (.int .u64 0), 1))).1 w
theorem zero_crowd (w : World) : (zeroValue 76).run Tryz.prog w = .ok (.map none) w := (zero_of_info (by kernel_rfl : (Tryz.prog.info? 76).map (fun i => (i.zero, i.size)) = some (some (.map none), 1))).1 w
section
variable {S0 : Nat → Prop} {w0 w w' : World} {L : List Part} {C now n : Nat} {f : Nat → Option Nat} {D : ClkD}
theorem when_look (h : St S0 w0 w (whenP n f D :: L)) (id : Nat) (hid : id < 4294967296) : (Instr.lookup 62 (.map (some D.wh)) (.int .u32 id) true).run Tryz.prog w = .ok (.tuple #[.int .u64 (((f id).getD 0 : Nat) : Int), .bool (f id).isSome]) w := by
  obtain ⟨v, ps, h1, h2⟩ := h.look_ok Tryz.underlying43 Tryz.underlying62 (zero_u64 w) (tickR_mk (t := 0) (by omega)) (wf_u32 hid)
  rw [h1, tickR_inv h2]
theorem due_look (h : St S0 w0 w (dueP n D :: L)) (t : Nat) (ht : t < 18446744073709551616) : (Instr.lookup 61 (.map (some D.du)) (.int .u64 t) false).run Tryz.prog w = .ok (.map (D.hd t)) w := by
  obtain ⟨v, ps, h1, h2⟩ := h.look Tryz.underlying67 Tryz.underlying61 (zero_crowd w) (zd := .lit (.bool false)) (zp := []) rfl (wf_u64 ht)
  rw [h1, hdR_inv h2]
end
end Go.Proofs.YtboinccdnaddmaaGreatDoor
