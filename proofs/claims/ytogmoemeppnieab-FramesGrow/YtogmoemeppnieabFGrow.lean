/- The walk of FramesGrow: the frame of two records as one. -/
import Derived.Test.YtogmoemeppnieabFAlive
import Derived.Test.YtogmoemeppnieabGTwByte
set_option linter.unusedSimpArgs false
set_option linter.unusedVariables false
namespace Go.Proofs.Ytogmoemeppnieab
open Go.RowKit

theorem twin_bs {w : World} {base g cap : Nat} {l : List UInt8} (h : w.ownsRow base 5 1 (.slice (some ⟨g, 0, none⟩) (l.length + 1) cap) (l.length + 1) (l.flatMap bCell ++ spareByte)) : BsAt w base (.slice (some ⟨g, 0, none⟩) l.length cap) l := by
  rw [bcells_flat] at h
  have hl : (bcells l).length = l.length * 1 := by rw [bcells_len, Nat.mul_one]
  refine ⟨hl, ?_⟩
  rcases h.2 with ⟨h1, _⟩ | ⟨g', cap', cur, h1, h2, h3, h4, h5, h6, h7⟩
  · cases h1
  · simp only [Value.slice.injEq, Option.some.injEq, Addr.mk.injEq, and_true, true_and] at h1
    obtain ⟨rfl, rfl⟩ := h1
    refine .inr ⟨g, cap, cur, rfl, h2, h3, by omega, h5, h6, ?_⟩
    have e1 : List.take (l.length * 1) (List.take ((l.length + 1) * 1) cur.toList) = List.take (l.length * 1) (bcells l ++ spareByte) := by rw [h7]
    rw [List.take_take, Nat.min_eq_left (Nat.mul_le_mul_right _ (by omega))] at e1
    rw [e1, List.take_append_of_le_length (by omega), List.take_of_length_le (by omega)]
set_option maxHeartbeats 8000000 in
set_option maxRecDepth 1000000 in
theorem grow_any (w : World) (va vb : Value) (a b : List UInt8) (ha : InAt w w.heap.size va a) (sa : a.length ≤ 140737488351232) (hb : InAt w w.heap.size vb b) (sb : b.length ≤ 140737488351232) :
    Calls Try.prog 3 #[va, vb] w fun e w' => e = .returned (.bool true) ∧ Below w.heap.size w w' := by
  have kA := alive_any w
  have ha0 := ha
  have hb0 := hb
  obtain ⟨ao, ca, rfl, hac, ham, -⟩ := ha
  obtain ⟨bo, cb, rfl, hbc, hbm, -⟩ := hb
  unfold maxLen at ham hbm
  by_cases h1 : 16384 < a.length + b.length
  · have i1 : (16384 : Int) < (a.length : Int) + (b.length : Int) := by omega
    clear ha0 hb0
    go_enter Try.func3, Try.ntmps3
    go_wp2_with fail
    refine kA.mono ?_
    rintro e w1 ⟨rfl, b1⟩
    clear kA
    go_wp2_with fail
    refine (alive_any _).mono ?_
    rintro e w2 ⟨rfl, b2⟩
    have b3 := b1.trans (b2.mono b1.size)
    go_wp2
    go_ret
    exact ⟨rfl, b3⟩
  have i1 : ¬ (16384 : Int) < (a.length : Int) + (b.length : Int) := by omega
  obtain ⟨i0, hi, hz0, hz1, hz2⟩ := info_parts info_u8
  have kPa := fun W (hW : Below w.heap.size w W) => put_ok W _ a ((ha0.below hW (Nat.le_refl _)).mono hW.size) (by omega)
  have kPb := fun W (hW : Below w.heap.size w W) => put_ok W _ b ((hb0.below hW (Nat.le_refl _)).mono hW.size) (by omega)
  have kPc := fun W v (hv : InAt W W.heap.size v (a ++ b)) => put_ok W v (a ++ b) hv (by rw [List.length_append]; omega)
  rw [List.length_append] at kPc
  have e1 : ∃ X Y Z : Nat, X = secs a.length ∧ Y = secs b.length ∧ Z = secs (a.length + b.length) ∧ X ≤ Z ∧ Y ≤ Z ∧ Z ≤ X + Y ∧ Z ≤ 1000 := ⟨_, _, _, rfl, rfl, rfl, by unfold secs; omega, by unfold secs; omega, by unfold secs; omega, by unfold secs; omega⟩
  obtain ⟨X, Y, Z, eX, eY, eZ, x1, x2, x3, x4⟩ := e1
  rw [← eX] at kPa
  rw [← eY] at kPb
  rw [← eZ] at kPc
  clear eX eY eZ
  obtain ⟨N, eN⟩ : ∃ N, N = X * 64 := ⟨_, rfl⟩
  obtain ⟨M, eM⟩ : ∃ M, M = Y * 64 := ⟨_, rfl⟩
  obtain ⟨K, eK⟩ : ∃ K, K = Z * 64 := ⟨_, rfl⟩
  have t1 : (N : Int).tmod 64 = 0 := by rw [Int.tmod_eq_emod_of_nonneg (by omega)]; omega
  have t2 : (M : Int).tmod 64 = 0 := by rw [Int.tmod_eq_emod_of_nonneg (by omega)]; omega
  have t3 : (K : Int).tmod 64 = 0 := by rw [Int.tmod_eq_emod_of_nonneg (by omega)]; omega
  have u1 : (N : Int) % 64 = 0 := by omega
  have u2 : (M : Int) % 64 = 0 := by omega
  have u3 : (K : Int) % 64 = 0 := by omega
  have j1 : (N : Int) ≤ (K : Int) := by omega
  have j2 : (M : Int) ≤ (K : Int) := by omega
  have j3 : (K : Int) ≤ (N : Int) + (M : Int) := by omega
  have j4 : (K : Int) ≤ 64000 := by omega
  rw [← eN] at kPa
  rw [← eM] at kPb
  rw [← eK] at kPc
  clear eN eM eK x1 x2 x3 x4
  go_enter Try.func3, Try.ntmps3
  go_wp2_with fail
  refine kA.mono ?_
  rintro e w1 ⟨rfl, b1⟩
  have kp := kPa w1 b1
  clear kA kPa
  go_wp2_with fail
  refine kp.mono ?_
  rintro e w2 ⟨rfl, -, b2⟩
  have B2 := b1.trans (b2.mono b1.size)
  have kq := kPb w2 B2
  clear kp b1 b2 kPb
  go_wp2_with fail
  refine kq.mono ?_
  rintro e w3 ⟨rfl, -, b3⟩
  have B3 := B2.trans (b3.mono B2.size)
  have kT := twinByte_any w3 _ a ((ha0.below B3 (Nat.le_refl _)).mono B3.size) (by omega)
  clear kq b3 B2
  go_wp2_with fail
  refine kT.mono ?_
  rintro e w4 ⟨rfl, o4, b4⟩
  have O4 := twin_bs o4
  have B4 := B3.trans (b4.mono B3.size)
  have s4 := src_in (hb0.below B4 (Nat.le_refl _))
  have z4 := b4.size
  clear o4 kT
  go_wp2_with (at_builtin; refine wpList_append_own_src _ rfl (.tmp 34) (.tmp 35) 22 22 rfl w3.heap.size 5 i0 (.int .u8 0) 1 1 Try.underlying22 hi hz0 hz1 hz2 rfl (by decide) (.slice (some ⟨w3.heap.size, 0, none⟩) a.length (a.length + 1)) a.length (bcells a) rfl O4 (.slice bo b.length cb) b.length (bcells b) rfl s4 (by unfold maxLen; omega) (by omega) z4 ?_; refine fun v5 w5 o5 g5 _ => ?_)
  have b5 := grown_below b4 g5 z4 O4
  have B5 := B3.trans (b5.mono B3.size)
  have O5 : BsAt w5 w3.heap.size v5 (a ++ b) := BsAt.app o5
  have kr := kPc w5 v5 O5.in
  clear o5 g5 s4 O4 kPc
  refine kr.mono ?_
  rintro e w6 ⟨rfl, -, b6⟩
  have B6 := B5.trans (b6.mono B5.size)
  clear b6 kr O5 ha0 hb0
  go_wp2
  go_ret
  exact ⟨rfl, B6⟩
end Go.Proofs.Ytogmoemeppnieab
