/- The walk of the closure that writes a number into a frame. -/
import Derived.Test.YtjaidhglemnakaaFBs
import Derived.Test.YtjaidhglemnakaaFSmall
import Derived.BigRegion
set_option linter.unusedSimpArgs false
set_option linter.unusedVariables false
namespace Go.Proofs.Ytjaidhglemnakaa
open Go.RowKit

theorem be4_uv (n : BitVec 32) : uv n / 16777216 = ((byteBE n.toNat 3).toNat : Int) ∧ uv n / 65536 % 256 = ((byteBE n.toNat 2).toNat : Int) ∧ uv n / 256 % 256 = ((byteBE n.toNat 1).toNat : Int) ∧ uv n % 256 = ((byteBE n.toNat 0).toNat : Int) := by
  have := n.isLt
  rw [byteBE_nat, byteBE_nat, byteBE_nat, byteBE_nat]
  unfold uv
  omega
set_option maxHeartbeats 4000000 in
set_option maxRecDepth 1000000 in
theorem tell_any (w : World) (X g cap base at_ : Nat) (bs : List UInt8) (n : BitVec 32) (hX : w.cell? ⟨X, 0, none⟩ = some (.slice (some ⟨g, 0, none⟩) bs.length cap)) (hne : X ≠ g) (hO : BsAt w base (.slice (some ⟨g, 0, none⟩) bs.length cap) bs) (hat : at_ + 4 ≤ bs.length) (hbs : bs.length ≤ 1000000) :
    Calls Try.prog 35 #[.int .i64 (at_ : Int), .int .u32 (uv n), .pointer (some ⟨X, 0, none⟩)] w fun e w' => e = .returned (.tuple #[]) ∧ BsAt w' base (.slice (some ⟨g, 0, none⟩) bs.length cap) (wrt bs at_ (be4 n.toNat)) ∧ Kept g w.heap.size w w' := by
  obtain ⟨u3, u2, u1, u0⟩ := be4_uv n
  have ub := uv_bd n
  have hXl := World.block_lt_of_cell? w _ hX
  simp only at hXl
  have hst := fun k hk => wrt_step bs at_ (be4 n.toNat) k hk (by rw [be4_len]; exact hat)
  have hwl := fun k => wrt_len bs at_ ((be4 n.toNat).take k) (by rw [List.length_take, be4_len]; omega)
  go_enter Try.func35, Try.ntmps35
  go_wp2
  go_loopw [6] (fun i wr => ∃ k : Nat, k ≤ 4 ∧ i = .int .i64 k ∧ BsAt wr base (.slice (some ⟨g, 0, none⟩) bs.length cap) (wrt bs at_ ((be4 n.toNat).take k)) ∧ Kept g w.heap.size w wr) (fun i _ => 4 - (intOf i).toNat)
  case atStart => exact ⟨0, by omega, rfl, by rw [List.take_zero, wrt_nil]; exact hO, Kept.refl _ _ _⟩
  case round =>
    obtain ⟨k, hk, rfl, hB, hK⟩ := hrel
    by_cases h1 : k < 4
    · have hX' := (hK.cell hXl hne).trans hX
      have hix : at_ + k < (wrt bs at_ ((be4 n.toNat).take k)).length := by rw [hwl]; omega
      obtain ⟨c0, z0⟩ := bs_cell hB hix
      have F : Hid (∀ y : UInt8, y = (be4 n.toNat)[k]'(by rw [be4_len]; exact h1) → BsAt (wr.setCell ⟨g, at_ + k, none⟩ (.int .u8 (y.toNat : Int))).drew base (.slice (some ⟨g, 0, none⟩) bs.length cap) (wrt bs at_ ((be4 n.toNat).take (k + 1))) ∧ Kept g w.heap.size w (wr.setCell ⟨g, at_ + k, none⟩ (.int .u8 (y.toNat : Int))).drew) := fun y hy => by
        have hS := bs_set hB hix y
        rw [hy, hst k (by rw [be4_len]; exact h1), ← hy] at hS
        exact ⟨hS.below ⟨rfl, rfl, rfl, Nat.le_refl _, fun _ _ => rfl⟩, (hK.setCell (at_ + k) _).drew⟩
      generalize (wrt bs at_ ((be4 n.toNat).take k))[at_ + k] = old at *
      clear hst hwl hB hX hK hix
      have j1 : (at_ : Int) + 4 ≤ (bs.length : Int) := by omega
      rcases (show k = 0 ∨ k = 1 ∨ k = 2 ∨ k = 3 by omega) with rfl | rfl | rfl | rfl
      · have G := F.out (byteBE n.toNat 3) rfl
        clear F
        generalize byteBE n.toNat 3 = y at *
        simp only [Nat.add_zero] at c0 z0 G
        go_wp2
        go_region
        go_wp2
        go_roundw
        case rel => exact ⟨1, by omega, by go_num, G.1, G.2⟩
        case measure => simp [intOf]
      · have G := F.out (byteBE n.toNat 2) rfl
        clear F
        generalize byteBE n.toNat 2 = y at *
        go_wp2
        go_region
        go_wp2
        go_roundw
        case rel => exact ⟨2, by omega, by go_num, G.1, G.2⟩
        case measure => simp [intOf]
      · have G := F.out (byteBE n.toNat 1) rfl
        clear F
        generalize byteBE n.toNat 1 = y at *
        go_wp2
        go_region
        go_wp2
        go_roundw
        case rel => exact ⟨3, by omega, by go_num, G.1, G.2⟩
        case measure => simp [intOf]
      · have G := F.out (byteBE n.toNat 0) rfl
        clear F
        generalize byteBE n.toNat 0 = y at *
        go_wp2
        go_region
        go_wp2
        go_roundw
        case rel => exact ⟨4, by omega, by go_num, G.1, G.2⟩
        case measure => simp [intOf]
    · obtain rfl : k = 4 := by omega
      rw [List.take_of_length_le (by rw [be4_len]; omega)] at hB
      clear hst hwl
      go_wp2
      go_end0
      exact ⟨rfl, hB, hK⟩
end Go.Proofs.Ytjaidhglemnakaa
