/- The walk of the closure that fills the table of what bytes do. -/
import Derived.Test.YtjaidhglemnakaaSMove
set_option linter.unusedSimpArgs false
set_option linter.unusedVariables false
namespace Go.Proofs.Ytjaidhglemnakaa
open Go.RowKit

theorem mvN_one (k : Nat) (n : BitVec 32) : mvN (k + 1) n = mv (mvN k n) := by rw [mvN_add]; rfl
theorem uv_ofNat {x : Nat} (h : x < 4294967296) : uv (BitVec.ofNat 32 x) = (x : Int) := by unfold uv; rw [BitVec.toNat_ofNat, Nat.mod_eq_of_lt h]

set_option maxHeartbeats 1000000 in
set_option maxRecDepth 1000000 in
theorem fill_any (w : World) (B x : Nat) (cur : Array Value) (hx : x < 256) (hB : w.heap[B]? = some (.cells cur 103 (0, 0))) (hs : cur.size = 256) :
    Calls Try.prog 56 #[.int .i64 (x : Int), .pointer (some ⟨B, 0, none⟩)] w fun e w' => e = .returned (.tuple #[]) ∧ w' = w.setCell ⟨B, x, none⟩ (.int .u32 (uv (mvN 8 (BitVec.ofNat 32 x)))) := by
  have hc : w.cell? ⟨B, x, none⟩ = some (cur[x]'(by omega)) := by
    rw [cell_of_row w B x cur _ (0, 0) hB, Array.getElem?_eq_getElem]
  have hf : w.frozen? ⟨B, x, none⟩ = false := by simp [World.frozen?, hB]
  have hw : IntKind.u32.wrap (x : Int) = (x : Int) := by rw [IntKind.wrap_u32']; omega
  have h0 : Hid ((x : Int) = uv (mvN 0 (BitVec.ofNat 32 x))) := by show _ = _; unfold mvN; rw [uv_ofNat (by omega)]
  have hx0 : (x : Int) < 256 := by omega
  generalize cur[x]'(by omega) = old at *
  go_enter Try.func56, Try.ntmps56
  go_wp2
  go_loop [3, 6] (fun n i => ∃ k : Nat, k ≤ 8 ∧ i = .int .i64 k ∧ n = .int .u32 (uv (mvN k (BitVec.ofNat 32 x)))) (fun _ i => 8 - (intOf i).toNat)
  case atStart => exact ⟨0, by omega, rfl, by rw [← h0.out]⟩
  case round =>
    obtain ⟨k, hk, rfl, rfl⟩ := hrel
    by_cases h1 : k < 8
    · have i1 : (k : Int) < 8 := by omega
      have km := fun W => move_any W (mvN k (BitVec.ofNat 32 x))
      go_wp2_with (go_at_call 57; refine (km _).mono ?_; rintro e w' ⟨rfl, rfl⟩)
      go_round
      case rel => exact ⟨k + 1, by omega, by go_num, by rw [mvN_one]⟩
      case measure => simp [intOf]; omega
    · obtain rfl : k = 8 := by omega
      go_wp2
      go_end0
      exact ⟨rfl, rfl⟩
end Go.Proofs.Ytjaidhglemnakaa
