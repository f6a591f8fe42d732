/- The walk of ClocksNone. -/
import Derived.Test.YtboinccdnaddmaaCkFarL
set_option linter.unusedSimpArgs false
set_option linter.unusedVariables false
namespace Go.Proofs.Ytboinccdnaddmaa
open Go.RowKit Go.Maps

/-- No clock: nil, or one that New did not make. -/
def NoneAt (w : World) (v : Value) : Prop := v = .pointer none ∨ ∃ Z, v = ptr Z ∧ w.heap[Z]? = some (.cells #[.nilFunc, .nilFunc, .map none, .map none] 29 (0, 0))
theorem there_none (w : World) (v : Value) (h : NoneAt w v) : Calls Try.prog 15 #[v] w fun e w' => e = .returned (.bool false) ∧ w = w' := by
  rcases h with rfl | ⟨Z, rfl, hZ⟩
  · go_enter Try.func15, Try.ntmps15
    go_wp2
    go_ret
    exact ⟨rfl, rfl⟩
  · obtain ⟨c0, c1, c2, c3⟩ := four_cells hZ
    have hq := run_neq_nofn w
    go_enter Try.func15, Try.ntmps15
    go_wp2
    go_ret
    exact ⟨rfl, rfl⟩
theorem NoneAt.form {w : World} {v : Value} (h : NoneAt w v) : ∃ p, v = .pointer p := by
  rcases h with rfl | ⟨Z, rfl, -⟩ <;> exact ⟨_, rfl⟩
theorem left_no (w : World) (v : Value) (id : Int) (h : NoneAt w v) : Calls Try.prog 8 #[v, .int .u32 id] w fun e w' => e = .returned (.tuple #[.int .i64 0, .bool false]) ∧ w = w' := by
  have kt := there_none w v h
  obtain ⟨p, rfl⟩ := h.form
  clear h
  go_enter Try.func8, Try.ntmps8
  go_wp2_with fail
  refine kt.mono ?_
  rintro e w1 ⟨rfl, rfl⟩
  go_wp2
  go_ret2
  exact ⟨rfl, rfl⟩
theorem set_no (w : World) (v : Value) (id t : Int) (h : NoneAt w v) : Calls Try.prog 9 #[v, .int .u32 id, .int .i64 t] w fun e w' => e = .returned (.int .i64 2) ∧ w = w' := by
  have kt := there_none w v h
  obtain ⟨p, rfl⟩ := h.form
  clear h
  go_enter Try.func9, Try.ntmps9
  go_wp2_with fail
  refine kt.mono ?_
  rintro e w1 ⟨rfl, rfl⟩
  go_wp2
  go_ret
  exact ⟨rfl, rfl⟩
theorem clear_no (w : World) (v : Value) (id : Int) (h : NoneAt w v) : Calls Try.prog 10 #[v, .int .u32 id] w fun e w' => e = .returned (.int .i64 2) ∧ w = w' := by
  have kt := there_none w v h
  obtain ⟨p, rfl⟩ := h.form
  clear h
  go_enter Try.func10, Try.ntmps10
  go_wp2_with fail
  refine kt.mono ?_
  rintro e w1 ⟨rfl, rfl⟩
  go_wp2
  go_ret
  exact ⟨rfl, rfl⟩
theorem tick_no (w : World) (v : Value) (h : NoneAt w v) : Calls Try.prog 11 #[v] w fun e w' => e = .returned (.slice none 0 0) ∧ w = w' := by
  have kt := there_none w v h
  obtain ⟨p, rfl⟩ := h.form
  clear h
  go_enter Try.func11, Try.ntmps11
  go_wp2_with fail
  refine kt.mono ?_
  rintro e w1 ⟨rfl, rfl⟩
  go_wp2
  go_ret
  exact ⟨rfl, rfl⟩
set_option maxHeartbeats 1000000 in
set_option maxRecDepth 1000000 in
theorem none_walk (w : World) (id t : Int) :
    Calls Try.prog 3 #[.int .u32 id, .int .i64 t] w fun e w' => e = .returned (.bool true) ∧ Below w.heap.size w w' := by
  obtain ⟨A, hA⟩ : ∃ A, A = w.alloc (.cells #[.nilFunc, .nilFunc, .map none, .map none] 29) := ⟨_, rfl⟩
  obtain ⟨B, hB⟩ : ∃ B, B = A.alloc (.cells #[.pointer none, ptr w.heap.size] 23) := ⟨_, rfl⟩
  have hAs : A.heap.size = w.heap.size + 1 := by rw [hA]; simp
  have b1 : Below w.heap.size w B := by rw [hB, hA]; exact ((below_one w _).alloc (below_one w _).size _)
  have p0 : B.heap[w.heap.size]? = some (.cells #[.nilFunc, .nilFunc, .map none, .map none] 29 (0, 0)) := by
    rw [hB]; exact alloc_block (by rw [hA]; exact World.alloc_heap_new w _) _
  have p1 : B.heap[w.heap.size + 1]? = some (.cells #[.pointer none, ptr w.heap.size] 23 (0, 0)) := by
    rw [hB, ← hAs]; exact World.alloc_heap_new A _
  have HN : Hid (∀ k, k < 2 → ∃ p, B.cell? ⟨w.heap.size + 1, k, none⟩ = some (.pointer p) ∧ NoneAt B (.pointer p)) := fun k hk => by
    match k, hk with
    | 0, _ => exact ⟨none, by simp [World.cell?, p1], .inl rfl⟩
    | 1, _ => exact ⟨_, by simp [World.cell?, p1], .inr ⟨_, rfl, p0⟩⟩
  have HB : Hid ((w.alloc (.cells #[.nilFunc, .nilFunc, .map none, .map none] 29)).alloc (.cells #[.pointer none, .pointer (some ⟨w.heap.size, 0, none⟩)] 23) = B) := by rw [hB, hA]; exact rfl
  clear hA hB p0 p1 hAs
  go_enter Try.func3, Try.ntmps3
  go_wp2
  rw [HB.out]
  clear HB
  obtain ⟨D, hD⟩ : ∃ D, D = w.heap.size + 1 := ⟨_, rfl⟩
  rw [← hD] at HN ⊢
  clear hD
  go_loopw [6] (fun i W => ∃ k : Nat, i = .int .i64 k ∧ k ≤ 2 ∧ W = B) (fun i _ => 2 - (intOf i).toNat)
  case atStart => exact ⟨0, rfl, by omega, rfl⟩
  case round =>
    obtain ⟨k, rfl, hk, rfl⟩ := hrel
    by_cases hlt : k < 2
    · obtain ⟨p, c0, hno⟩ := HN.out k hlt
      have kl := left_no wr (.pointer p) id hno
      have ks := set_no wr (.pointer p) id t hno
      have kc := clear_no wr (.pointer p) id hno
      have kt := tick_no wr (.pointer p) hno
      clear hno HN
      go_wp2_with fail
      refine kl.mono ?_
      rintro e w2 ⟨rfl, ew⟩
      rw [← ew]
      clear ew w2 kl
      go_wp2_with fail
      refine ks.mono ?_
      rintro e w2 ⟨rfl, ew⟩
      rw [← ew]
      clear ew w2 ks
      go_wp2_with fail
      refine kc.mono ?_
      rintro e w2 ⟨rfl, ew⟩
      rw [← ew]
      clear ew w2 kc
      go_wp2_with fail
      refine kt.mono ?_
      rintro e w2 ⟨rfl, ew⟩
      rw [← ew]
      clear ew w2 kt
      go_wp2
      go_roundw
      case rel => exact ⟨k + 1, by go_num, by omega, trivial⟩
      case measure => (simp [intOf]; try omega)
    · obtain rfl : k = 2 := by omega
      clear HN
      go_wp2
      go_ret
      exact ⟨rfl, b1⟩
theorem none_any (w : World) (a b : Int) (ha : (Lit.int .u32 a).wf = true) (hb : (Lit.int .i64 b).wf = true) :
    Calls Try.prog 3 #[.int .u32 a, .int .i64 b] w fun e w' => e = .returned (.bool true) ∧ Below w.heap.size w w' := none_walk w a b
end Go.Proofs.Ytboinccdnaddmaa
