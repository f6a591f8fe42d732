/- The walk of FramesMany: as many bytes as there may be, and one more. -/
import Derived.Test.YtogmoemeppnieaaFAlive
set_option linter.unusedSimpArgs false
set_option linter.unusedVariables false
namespace Go.Proofs.Ytogmoemeppnieaa
open Go.RowKit

set_option maxHeartbeats 8000000 in
set_option maxRecDepth 1000000 in
theorem many_any (w : World) (near : Int) (hn : (Lit.int .u8 near).wf = true) :
    Calls Try.prog 5 #[.int .u8 near] w fun e w' => e = .returned (.bool true) ∧ Below w.heap.size w w' := by
  have nb := bounds_u8 hn
  obtain ⟨k, ek⟩ : ∃ k : Nat, near.tmod 6 = (k : Int) := ⟨(near % 6).toNat, by rw [Int.tmod_eq_emod_of_nonneg (by omega)]; omega⟩
  have ek2 : near % 6 = (k : Int) := by rw [← ek, Int.tmod_eq_emod_of_nonneg (by omega)]
  have hk : k < 6 := by omega
  obtain ⟨i0, hi, hz0, hz1, hz2⟩ := info_parts info_u8
  obtain ⟨n, en⟩ : ∃ n : Nat, n = 16381 + k := ⟨_, rfl⟩
  have e1 : 16381 + (k : Int) = (n : Int) := by omega
  have hn1 : n ≤ 16386 := by omega
  have hll : (List.replicate n (0 : UInt8)).length = n := List.length_replicate
  clear en
  by_cases hbig : 16384 < n
  · have i1 : (16384 : Int) < (n : Int) := by omega
    have kP : ∀ W v, InAt W W.heap.size v (List.replicate n 0) → Calls Try.prog 8 #[v] W fun e w' => e = .returned (.tuple #[.slice none 0 0, .int .i64 3]) ∧ W = w' := fun W v hv => put_big W v _ hv (by rw [hll]; exact hbig)
    clear hll
    go_enter Try.func5, Try.ntmps5
    go_wp2_with (at_make; refine wpList_make_full _ rfl _ _ 22 rfl w.heap.size 5 i0 (.int .u8 0) 1 Try.underlying22 hi hz0 hz1 .i64 .i64 _ _ n rfl rfl rfl rfl (by rw [hz2]; omega) (by unfold maxLen; omega) (Nat.le_refl _) ?_; intro w1 hown hgr)
    rw [made_zero] at hown
    have b1 : Below w.heap.size w w1 := (Below.refl _ _).grown hgr (Nat.le_refl _) (fun k e => by cases e)
    have O1 : BsAt w1 w.heap.size (.slice (some ⟨w.heap.size, 0, none⟩) n n) (List.replicate n 0) := by unfold BsAt; rw [List.length_replicate]; exact hown
    have kp := kP w1 _ O1.in
    clear hown hgr kP
    refine kp.mono ?_
    rintro e w2 ⟨rfl, rfl⟩
    clear kp O1
    go_wp2_with (go_at_call 7; refine (alive_any _).mono ?_; rintro e w3 ⟨rfl, b3⟩)
    go_ret
    exact ⟨rfl, b1.trans (b3.mono b1.size)⟩
  · have i1 : ¬ (16384 : Int) < (n : Int) := by omega
    obtain ⟨N, hN⟩ : ∃ N, N = secs n * 64 := ⟨_, rfl⟩
    obtain ⟨S, hS⟩ : ∃ S, S = ((secs n : Nat) : Int) := ⟨_, rfl⟩
    have eS : Hid (S = ((n : Int) + 8 + 63) / 64) := by show _ = _; rw [hS]; unfold secs; omega
    have kP : ∀ W v, InAt W W.heap.size v (List.replicate n 0) → Calls Try.prog 8 #[v] W fun e w' => e = .returned (.tuple #[.slice (some ⟨W.heap.size, 0, none⟩) N N, .int .i64 0]) ∧ BsAt w' W.heap.size (.slice (some ⟨W.heap.size, 0, none⟩) N N) (frame (List.replicate n 0)) ∧ Below W.heap.size W w' := fun W v hv => by
      have := put_ok W v _ hv (by rw [hll]; omega)
      rw [hll, ← hN] at this
      exact this
    have kG : ∀ W v, InAt W W.heap.size v (frame (List.replicate n 0)) → Calls Try.prog 9 #[v] W fun e w' => ∃ g, e = .returned (.tuple #[.slice (some ⟨g, 0, none⟩) n n, .int .i64 S, .int .i64 0]) ∧ Below W.heap.size W w' := fun W v hv => by
      have h0 := getF_frame (List.replicate n 0) [] (by rw [hll]; omega)
      rw [List.append_nil] at h0
      have := get_some W v _ _ hv h0
      rw [hll, ← hS] at this
      exact this.mono fun e w' ⟨g, h1, _, _, h2⟩ => ⟨g, h1, h2⟩
    clear hN hS hll
    go_enter Try.func5, Try.ntmps5
    go_wp2_with (at_make; refine wpList_make_full _ rfl _ _ 22 rfl w.heap.size 5 i0 (.int .u8 0) 1 Try.underlying22 hi hz0 hz1 .i64 .i64 _ _ n rfl rfl rfl rfl (by rw [hz2]; omega) (by unfold maxLen; omega) (Nat.le_refl _) ?_; intro w1 hown hgr)
    rw [made_zero] at hown
    have b1 : Below w.heap.size w w1 := (Below.refl _ _).grown hgr (Nat.le_refl _) (fun k e => by cases e)
    have O1 : BsAt w1 w.heap.size (.slice (some ⟨w.heap.size, 0, none⟩) n n) (List.replicate n 0) := by unfold BsAt; rw [List.length_replicate]; exact hown
    have kp := kP w1 _ O1.in
    clear hown hgr kP
    refine kp.mono ?_
    rintro e w2 ⟨rfl, O2, b2⟩
    have kg := kG w2 _ O2.in
    have B2 := b1.trans (b2.mono b1.size)
    clear kp O1 O2 b1 b2 kG
    go_wp2_with fail
    refine kg.mono ?_
    rintro e w3 ⟨g, rfl, b3⟩
    have B3 := B2.trans (b3.mono B2.size)
    have eS2 : ((n : Int) + 8 + 63) / 64 = S := eS.out.symm
    clear b3 B2 kg
    go_wp2_with (go_at_call 7; refine (alive_any _).mono ?_; rintro e w4 ⟨rfl, b4⟩)
    go_ret
    exact ⟨rfl, B3.trans (b4.mono B3.size)⟩
end Go.Proofs.Ytogmoemeppnieaa
