/- The walk of WallsNone. -/
import Derived.Test.YtjaidhglemnakaaWNone
import Derived.LoopTactic
set_option linter.unusedSimpArgs false
set_option linter.unusedVariables false
namespace Go.Proofs.Ytjaidhglemnakaa
open Go.RowKit Go.Maps

set_option maxHeartbeats 4000000 in
set_option maxRecDepth 1000000 in
theorem none_any (w : World) (vb : Value) (b : List UInt8) (n : Int) (hb : InAt w w.heap.size vb b) (hn : (Lit.int .i64 n).wf = true) :
    Calls Try.prog 3 #[vb, .int .i64 n] w fun e w' => e = .returned (.bool true) ∧ Below w.heap.size w w' := by
  obtain ⟨ab, cb, rfl, -⟩ := hb
  clear hn
  have e1 := below_one w (.cells #[.pointer none, .int .i64 0] 28)
  have cL : (w.alloc (.cells #[.pointer none, .int .i64 0] 28)).heap[w.heap.size]? = some (.cells #[.pointer none, .int .i64 0] 28 (0, 0)) := World.alloc_heap_new w _
  have s1 : (w.alloc (.cells #[.pointer none, .int .i64 0] 28)).heap.size = w.heap.size + 1 := by simp
  obtain ⟨W1, hW1⟩ : ∃ W1, w.alloc (.cells #[.pointer none, .int .i64 0] 28) = W1 := ⟨_, rfl⟩
  rw [hW1] at e1 cL s1
  have e2 := below_one W1 (.cells #[.pointer none, .pointer (some ⟨w.heap.size, 0, none⟩)] 23)
  have cA : (W1.alloc (.cells #[.pointer none, .pointer (some ⟨w.heap.size, 0, none⟩)] 23)).heap[W1.heap.size]? = some (.cells #[.pointer none, .pointer (some ⟨w.heap.size, 0, none⟩)] 23 (0, 0)) := World.alloc_heap_new W1 _
  have b2 := e1.trans (e2.mono (by omega))
  have cL2 := (e2.block _ (lt_of_block cL)).trans cL
  have s1H : Hid (W1.heap.size = w.heap.size + 1) := s1
  clear s1
  go_enter Try.func3, Try.ntmps3
  go_wp2
  obtain ⟨W2, hW2⟩ : ∃ W2, W1.alloc (.cells #[.pointer none, .pointer (some ⟨w.heap.size, 0, none⟩)] 23) = W2 := ⟨_, rfl⟩
  rw [hW2] at e2 cA b2 cL2 ⊢
  obtain ⟨c0, c1⟩ := pair_cell cA
  have n0 : NoLg W2 (.pointer none) := .inl rfl
  have n1 : NoLg W2 (.pointer (some ⟨w.heap.size, 0, none⟩)) := .inr ⟨_, rfl, (pair_cell cL2).1⟩
  clear hW1 hW2 e1 e2 cL cL2 cA
  go_loopw [6] (fun i wr => wr = W2 ∧ ∃ k : Nat, k ≤ 2 ∧ i = .int .i64 k) (fun i _ => 2 - (intOf i).toNat)
  case atStart => exact ⟨rfl, 0, by omega, rfl⟩
  case round =>
    obtain ⟨rfl, k, hk, rfl⟩ := hrel
    match k, hk with
    | 0, _ =>
      go_wp2_with (first
        | (go_at_call 8; refine (add_no n0 _).mono ?_; rintro e w' ⟨rfl, rfl⟩)
        | (go_at_call 9; refine (force_no n0).mono ?_; rintro e w' ⟨rfl, rfl⟩)
        | (go_at_call 10; refine (room_no n0 _).mono ?_; rintro e w' ⟨rfl, rfl⟩))
      go_roundw
      case rel => exact ⟨trivial, 1, by omega, by go_num⟩
      case measure => simp [intOf]
    | 1, _ =>
      go_wp2_with (first
        | (go_at_call 8; refine (add_no n1 _).mono ?_; rintro e w' ⟨rfl, rfl⟩)
        | (go_at_call 9; refine (force_no n1).mono ?_; rintro e w' ⟨rfl, rfl⟩)
        | (go_at_call 10; refine (room_no n1 _).mono ?_; rintro e w' ⟨rfl, rfl⟩))
      go_roundw
      case rel => exact ⟨trivial, 2, by omega, by go_num⟩
      case measure => simp [intOf]
    | 2, _ =>
      go_wp2_with fail
      refine (open_no (w := wr) (.inl rfl) (fun B e => by cases e)).mono ?_
      rintro e w3 ⟨rfl, b3⟩
      replace b3 := b2.trans (b3.mono b2.size)
      have b4 := below_one w3 (.cells #[.slice none 0 0, .map none, .slice none 0 0, .int .i64 0] 41)
      have c4 : (w3.alloc (.cells #[.slice none 0 0, .map none, .slice none 0 0, .int .i64 0] 41)).heap[w3.heap.size]? = some (.cells #[.slice none 0 0, .map none, .slice none 0 0, .int .i64 0] 41 (0, 0)) := World.alloc_heap_new w3 _
      have b34 := b3.trans (b4.mono b3.size)
      have k4 := open_no (w := w3.alloc (.cells #[.slice none 0 0, .map none, .slice none 0 0, .int .i64 0] 41)) (v := .pointer (some ⟨w3.heap.size, 0, none⟩)) (.inr ⟨_, rfl, (quad_cells c4).1⟩) (fun B e => by cases e; simp)
      clear b4 c4
      go_wp2_with fail
      refine k4.mono ?_
      rintro e w5 ⟨rfl, b5⟩
      go_wp2
      go_ret
      exact ⟨rfl, b34.trans (b5.mono b34.size)⟩
end Go.Proofs.Ytjaidhglemnakaa
