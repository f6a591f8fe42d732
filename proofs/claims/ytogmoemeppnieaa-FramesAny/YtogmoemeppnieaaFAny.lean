/- The walk of FramesAny: what is got from any bytes is a record whose frame they begin with. -/
import Derived.Test.YtogmoemeppnieaaFAlive
import Derived.Test.YtogmoemeppnieaaGSame
set_option linter.unusedSimpArgs false
set_option linter.unusedVariables false
namespace Go.Proofs.Ytogmoemeppnieaa
open Go.RowKit

set_option maxHeartbeats 8000000 in
set_option maxRecDepth 1000000 in
theorem fany_any (w : World) (vb : Value) (bs : List UInt8) (hb : InAt w w.heap.size vb bs) :
    Calls Try.prog 4 #[vb] w fun e w' => e = .returned (.bool true) ∧ Below w.heap.size w w' := by
  have kA := alive_any w
  have hb0 := hb
  obtain ⟨bo, cap, rfl, hbc, hbm, -⟩ := hb
  unfold maxLen at hbm
  by_cases hlong : 30000 < bs.length
  · have i1 : (30000 : Int) < (bs.length : Int) := by omega
    clear hb0
    go_enter Try.func4, Try.ntmps4
    go_wp2_with fail
    refine kA.mono ?_
    rintro e w1 ⟨rfl, b1⟩
    clear kA
    go_wp2_with fail
    refine (alive_any _).mono ?_
    rintro e w2 ⟨rfl, b2⟩
    have b3 := b1.trans (b2.mono b1.size)
    go_wp2
    go_ret
    exact ⟨rfl, b3⟩
  have i1 : ¬ (30000 : Int) < (bs.length : Int) := by omega
  cases hg : getF bs with
  | none =>
    have kG : ∀ W, Below w.heap.size w W → Calls Try.prog 9 #[.slice bo bs.length cap] W fun e w' => e = .returned (.tuple #[.slice none 0 0, .int .i64 0, .int .i64 4]) ∧ Below W.heap.size W w' := fun W hW => get_none W _ _ ((hb0.below hW (Nat.le_refl _)).mono hW.size) hg
    clear hb0 hg
    go_enter Try.func4, Try.ntmps4
    go_wp2_with fail
    refine kA.mono ?_
    rintro e w1 ⟨rfl, b1⟩
    have kg := kG w1 b1
    clear kA kG
    go_wp2_with (go_at_call 9; refine kg.mono ?_; rintro e w2 ⟨rfl, b2⟩)
    go_ret
    exact ⟨rfl, b1.trans (b2.mono b1.size)⟩
  | some r =>
    obtain ⟨hr, hW, hfr⟩ := getF_some hg
    obtain ⟨N, hN⟩ : ∃ N, N = secs r.length * 64 := ⟨_, rfl⟩
    obtain ⟨S, hS⟩ : ∃ S, S = ((secs r.length : Nat) : Int) := ⟨_, rfl⟩
    have hlt := secs_lt r.length
    have mN : 64 * S = (N : Int) := by rw [hN, hS]; omega
    have kG : ∀ W, Below w.heap.size w W → Calls Try.prog 9 #[.slice bo bs.length cap] W fun e w' => ∃ g, e = .returned (.tuple #[.slice (some ⟨g, 0, none⟩) r.length r.length, .int .i64 S, .int .i64 0]) ∧ BsAt w' W.heap.size (.slice (some ⟨g, 0, none⟩) r.length r.length) r ∧ W.heap.size ≤ g ∧ Below W.heap.size W w' := fun W hW => by
      rw [hS]; exact get_some W _ _ r ((hb0.below hW (Nat.le_refl _)).mono hW.size) hg
    have kP : ∀ W v, InAt W W.heap.size v r → Calls Try.prog 8 #[v] W fun e w' => e = .returned (.tuple #[.slice (some ⟨W.heap.size, 0, none⟩) N N, .int .i64 0]) ∧ BsAt w' W.heap.size (.slice (some ⟨W.heap.size, 0, none⟩) N N) (frame r) ∧ Below W.heap.size W w' := fun W v hv => by
      rw [hN]; exact put_ok W _ r hv hr
    rw [← hN] at hW hfr hlt
    have HF : Hid (bs.take N = frame r) := hfr
    clear hN hS hg hfr
    have j1 : (N : Int) ≤ (bs.length : Int) := by omega
    have j2 : (N : Int) ≤ (cap : Int) := by omega
    go_enter Try.func4, Try.ntmps4
    go_wp2_with fail
    refine kA.mono ?_
    rintro e w1 ⟨rfl, b1⟩
    have kg := kG w1 b1
    clear kA kG
    go_wp2_with fail
    refine kg.mono ?_
    rintro e w2 ⟨g, rfl, O2, hg, b2⟩
    have B2 := b1.trans (b2.mono b1.size)
    have kp := kP w2 _ O2.in
    clear kg kP
    go_wp2_with fail
    refine kp.mono ?_
    rintro e w3 ⟨rfl, O3, b3⟩
    have B3 := B2.trans (b3.mono B2.size)
    have q3 : InAt w3 w.heap.size (.slice bo N cap) (frame r) := by
      rw [← HF.out]
      exact in_take (hb0.below B3 (Nat.le_refl _)) hW
    have kS := sameBytes_any w3 _ _ _ _ (frame r) O3.in q3
    clear O3 q3 O2 hb0 b1 b2 b3 kp
    go_wp2_with (go_at_call 10; refine kS.mono ?_; rintro e w6 ⟨rfl, n6, rfl⟩)
    go_ret
    exact ⟨rfl, B3.trans ((below_drewN w3 n6).mono B3.size)⟩
end Go.Proofs.Ytogmoemeppnieaa
