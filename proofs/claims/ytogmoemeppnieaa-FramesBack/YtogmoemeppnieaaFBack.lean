/- The walk of FramesBack: a record's frame begins with it, whatever stands behind. -/
import Derived.Test.YtogmoemeppnieaaFAlive
import Derived.Test.YtogmoemeppnieaaGSame
set_option linter.unusedSimpArgs false
set_option linter.unusedVariables false
namespace Go.Proofs.Ytogmoemeppnieaa
open Go.RowKit

set_option maxHeartbeats 8000000 in
set_option maxRecDepth 1000000 in
theorem back_any (w : World) (va vb : Value) (r m : List UInt8) (hr : InAt w w.heap.size va r) (hm : InAt w w.heap.size vb m) :
    Calls Try.prog 3 #[va, vb] w fun e w' => e = .returned (.bool true) ∧ Below w.heap.size w w' := by
  have kA := alive_any w
  have hr0 := hr
  have hm0 := hm
  obtain ⟨ao, cap, rfl, hrc, hrm, -⟩ := hr
  obtain ⟨bo, cbp, rfl, hmc, hmm, -⟩ := hm
  unfold maxLen at hrm hmm
  by_cases hlong : 20000 < r.length ∨ 20000 < m.length
  · have kA2 := fun W => alive_any W
    clear hr0 hm0
    by_cases h1 : 20000 < r.length
    · have i1 : (20000 : Int) < (r.length : Int) := by omega
      go_enter Try.func3, Try.ntmps3
      go_wp2_with fail
      refine kA.mono ?_
      rintro e w1 ⟨rfl, b1⟩
      clear kA
      go_wp2_with fail
      refine (kA2 _).mono ?_
      rintro e w2 ⟨rfl, b2⟩
      have b3 := b1.trans (b2.mono b1.size)
      go_wp2
      go_ret
      exact ⟨rfl, b3⟩
    · have i1 : ¬ (20000 : Int) < (r.length : Int) := by omega
      have i2 : (20000 : Int) < (m.length : Int) := by omega
      go_enter Try.func3, Try.ntmps3
      go_wp2_with fail
      refine kA.mono ?_
      rintro e w1 ⟨rfl, b1⟩
      clear kA
      go_wp2_with fail
      refine (kA2 _).mono ?_
      rintro e w2 ⟨rfl, b2⟩
      have b3 := b1.trans (b2.mono b1.size)
      go_wp2
      go_ret
      exact ⟨rfl, b3⟩
  have i1 : ¬ (20000 : Int) < (r.length : Int) := by omega
  have i2 : ¬ (20000 : Int) < (m.length : Int) := by omega
  by_cases hbig : 16384 < r.length
  · have i3 : (16384 : Int) < (r.length : Int) := by omega
    go_enter Try.func3, Try.ntmps3
    go_wp2_with fail
    refine kA.mono ?_
    rintro e w1 ⟨rfl, b1⟩
    have kP := put_big w1 _ r ((hr0.below b1 (Nat.le_refl _)).mono b1.size) hbig
    clear kA hr0 hm0
    go_wp2_with (go_at_call 8; refine kP.mono ?_; rintro e w' ⟨rfl, rfl⟩)
    go_ret
    exact ⟨rfl, b1⟩
  have i3 : (r.length : Int) ≤ 16384 := by omega
  obtain ⟨i0, hi, hz0, hz1, hz2⟩ := info_parts info_u8
  have hge := secs_ge r.length
  have hlt := secs_lt r.length
  have hfl := frame_len r
  have hgf := getF_frame r m (by omega)
  obtain ⟨N, hN⟩ : ∃ N, N = secs r.length * 64 := ⟨_, rfl⟩
  obtain ⟨S, hS⟩ : ∃ S, S = ((secs r.length : Nat) : Int) := ⟨_, rfl⟩
  have mN : Hid (64 * S = (N : Int)) := by show _ = _; rw [hN, hS]; omega
  have kP : ∀ W, Below w.heap.size w W → Calls Try.prog 8 #[.slice ao r.length cap] W fun e w' => e = .returned (.tuple #[.slice (some ⟨W.heap.size, 0, none⟩) N N, .int .i64 0]) ∧ BsAt w' W.heap.size (.slice (some ⟨W.heap.size, 0, none⟩) N N) (frame r) ∧ Below W.heap.size W w' := fun W hW => by
    rw [hN]; exact put_ok W _ r ((hr0.below hW (Nat.le_refl _)).mono hW.size) (by omega)
  have kG : ∀ W v, InAt W W.heap.size v (frame r ++ m) → Calls Try.prog 9 #[v] W fun e w' => ∃ g, e = .returned (.tuple #[.slice (some ⟨g, 0, none⟩) r.length r.length, .int .i64 S, .int .i64 0]) ∧ BsAt w' W.heap.size (.slice (some ⟨g, 0, none⟩) r.length r.length) r ∧ W.heap.size ≤ g ∧ Below W.heap.size W w' := fun W v hv => by
    rw [hS]; exact get_some W v _ r hv hgf
  rw [← hN] at hge hlt hfl
  have HFL : Hid ((frame r).length = N) := hfl
  clear hN hS hgf hfl
  have j1 : (r.length : Int) + 8 ≤ (N : Int) := by omega
  have j2 : (N : Int) < (r.length : Int) + 8 + 64 := by omega
  have mM : Hid ((64 * S : Int) = (N : Int)) := mN
  generalize frame r = fr at *
  go_enter Try.func3, Try.ntmps3
  go_wp2_with fail
  refine kA.mono ?_
  rintro e w1 ⟨rfl, b1⟩
  clear kA
  have kp := kP w1 b1
  clear kP
  go_wp2_with fail
  refine kp.mono ?_
  rintro e w2 ⟨rfl, O2, b2⟩
  have B2 := b1.trans (b2.mono b1.size)
  have z2 := B2.size
  have s2 := src_in O2.in
  rw [HFL.out] at s2
  clear b1 b2 kp
  go_wp2_with (first
    | (at_builtin; refine wpList_append_own_src _ rfl (.const (.slice none 0 0)) (.tmp 51) 22 22 rfl w.heap.size 5 i0 (.int .u8 0) 1 1 Try.underlying22 hi hz0 hz1 hz2 rfl (by decide) (.slice none 0 0) 0 [] rfl (World.ownsRow_nil _ _ _ _) (.slice (some ⟨w1.heap.size, 0, none⟩) N N) N (bcells fr) rfl s2 (by unfold maxLen; omega) (by omega) z2 ?_; refine fun v3 w3 o3 g3 _ => ?_; have b3 := grown_below B2 g3 z2 (BsAt.nil w2 w.heap.size); have z3 := b3.size; have s3 := src_in (hm0.below b3 (Nat.le_refl _)); clear g3)
    | (at_builtin; refine wpList_append_own_src _ rfl (.tmp 52) (.tmp 53) 22 22 rfl w.heap.size 5 i0 (.int .u8 0) 1 1 Try.underlying22 hi hz0 hz1 hz2 rfl (by decide) v3 _ _ rfl o3 (.slice bo m.length cbp) m.length (bcells m) rfl s3 (by unfold maxLen; omega) (by omega) z3 ?_; refine fun v4 w4 o4 g4 _ => ?_; have b4 := grown_below b3 g4 z3 o3; clear g4))
  have O4 : BsAt w4 w.heap.size v4 (fr ++ m) := by
    unfold BsAt
    rw [List.length_append, HFL.out, bcells_app]
    have e : (([] : List Value) ++ bcells fr) = bcells fr := rfl
    simpa using o4
  clear o4 o3 s2 s3 O2
  refine (kG w4 v4 O4.in).mono ?_
  rintro e w5 ⟨g, rfl, O5, hg, b5⟩
  replace b5 := b4.trans (b5.mono b4.size)
  have kS := sameBytes_any w5 _ _ _ _ r O5.in (hr0.below b5 (Nat.le_refl _))
  clear O4 b4 b3 z3 O5 hr0 hm0 B2 kG
  have e64 := mN.out
  go_wp2_with (go_at_call 10; refine kS.mono ?_; rintro e w6 ⟨rfl, n6, rfl⟩)
  go_ret
  exact ⟨rfl, b5.trans ((below_drewN w5 n6).mono b5.size)⟩
end Go.Proofs.Ytogmoemeppnieaa
