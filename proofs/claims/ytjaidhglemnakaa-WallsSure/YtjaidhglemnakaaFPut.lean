/- The walk of Put. -/
import Derived.Test.YtjaidhglemnakaaFTell
import Derived.Test.YtjaidhglemnakaaFCopy
set_option linter.unusedSimpArgs false
set_option linter.unusedVariables false
namespace Go.Proofs.Ytjaidhglemnakaa
open Go.RowKit

theorem frame_wrt (r : List UInt8) : wrt (wrt (wrt (List.replicate (secs r.length * 64) 0) 0 (be4 r.length)) 4 (be4 (fsum r).toNat)) 8 r = frame r := by
  have := secs_ge r.length
  have e0 : wrt (List.replicate (secs r.length * 64) (0 : UInt8)) 0 (be4 r.length) = be4 r.length ++ List.replicate (secs r.length * 64 - 4) 0 := by
    unfold wrt; rw [List.take_zero, List.nil_append, be4_len, List.drop_replicate, Nat.zero_add]
  rw [e0]
  have e1 : wrt (be4 r.length ++ List.replicate (secs r.length * 64 - 4) 0) 4 (be4 (fsum r).toNat) = (be4 r.length ++ be4 (fsum r).toNat) ++ List.replicate (secs r.length * 64 - 8) 0 := by
    unfold wrt
    rw [List.take_left' (be4_len _), be4_len, List.drop_append, be4_len, List.drop_of_length_le (by rw [be4_len]; omega), List.nil_append, List.drop_replicate, List.append_assoc]
    congr 3
  rw [e1]
  have l8 : (be4 r.length ++ be4 (fsum r).toNat).length = 8 := by rw [List.length_append, be4_len, be4_len]
  unfold wrt frame
  rw [List.take_left' l8, List.drop_append, l8, List.drop_of_length_le (by rw [l8]; omega), List.nil_append, List.drop_replicate, List.append_assoc]
  congr 4
  omega
theorem kept_below {g : Nat} {w0 w w' : World} {B : Nat} (h : Kept g w.heap.size w w') (hb : Below B w0 w) (hB : B ≤ w.heap.size) (hg : B ≤ g) : Below B w0 w' :=
  hb.trans (h.below hg hB)
theorem in_keptg {g : Nat} {w w' : World} {lim : Nat} {v : Value} {l : List UInt8} (h : InAt w lim v l) (hk : Kept g w.heap.size w w') (hl : lim ≤ w.heap.size) (hg : lim ≤ g) : InAt w' lim v l :=
  h.below (hk.below (n := lim) hg hl) (Nat.le_refl _)
theorem tell_ok (w : World) (X g cap base at_ m : Nat) (bs : List UInt8) (n : BitVec 32) (hm : bs.length = m) (hX : w.cell? ⟨X, 0, none⟩ = some (.slice (some ⟨g, 0, none⟩) m cap)) (hne : X ≠ g) (hO : BsAt w base (.slice (some ⟨g, 0, none⟩) m cap) bs) (hat : at_ + 4 ≤ m) (hbs : m ≤ 1000000) :
    Calls Try.prog 35 #[.int .i64 (at_ : Int), .int .u32 (uv n), .pointer (some ⟨X, 0, none⟩)] w fun e w' => e = .returned (.tuple #[]) ∧ BsAt w' base (.slice (some ⟨g, 0, none⟩) m cap) (wrt bs at_ (be4 n.toNat)) ∧ Kept g w.heap.size w w' := by
  subst hm
  exact tell_any w X g cap base at_ bs n hX hne hO hat hbs
set_option maxHeartbeats 4000000 in
set_option maxRecDepth 1000000 in
theorem put_ok (w : World) (v : Value) (r : List UInt8) (hr : InAt w w.heap.size v r) (h : r.length ≤ 16384) :
    Calls Try.prog 22 #[v] w fun e w' => e = .returned (.tuple #[.slice (some ⟨w.heap.size, 0, none⟩) (secs r.length * 64) (secs r.length * 64), .int .i64 0]) ∧ BsAt w' w.heap.size (.slice (some ⟨w.heap.size, 0, none⟩) (secs r.length * 64) (secs r.length * 64)) (frame r) ∧ Below w.heap.size w w' := by
  have ks := fun W => sectorsOf_any W r.length (by omega)
  have hge := secs_ge r.length
  have hlt := secs_lt r.length
  have hfr := frame_wrt r
  have hfl := frame_len r
  have hr0 := hr
  obtain ⟨ao, vc, rfl, hr1, hr2, -⟩ := hr
  unfold maxLen at hr2
  obtain ⟨i0, hi, hz0, hz1, hz2⟩ := info_parts info_u8
  have hmf : ∀ (fn : Fn) (first cap : Array Value) (w : World), (Instr.makeFunc fn first cap).run Try.prog w = .ok (.func fn first cap) w := fun _ _ _ _ => rfl
  obtain ⟨N, hN⟩ : ∃ N, N = secs r.length * 64 := ⟨_, rfl⟩
  have i1 : ¬ (16384 : Int) < (r.length : Int) := by omega
  have mN : ((secs r.length : Nat) : Int) * 64 = (N : Int) := by rw [hN]; omega
  rw [← hN] at hge hlt hfr hfl ⊢
  clear hN
  have HF : Hid (wrt (wrt (wrt (List.replicate N 0) 0 (be4 r.length)) 4 (be4 (fsum r).toNat)) 8 r = frame r) := hfr
  have HL : Hid ((frame r).length = N) := hfl
  clear hfr hfl
  generalize ((secs r.length : Nat) : Int) = S at *
  have sb : 0 ≤ S ∧ S ≤ 1000 := by omega
  obtain ⟨sb1, sb2⟩ := sb
  go_enter Try.func22, Try.ntmps22
  go_wp2_with (first
    | (go_at_call 34; refine (ks _).mono ?_; rintro e w' ⟨rfl, rfl⟩)
    | (at_make; refine wpList_make_full _ rfl _ _ 22 rfl w.heap.size 5 i0 (.int .u8 0) 1 Try.underlying22 hi hz0 hz1 .i64 .i64 _ _ N rfl rfl rfl rfl (by rw [hz2]; omega) (by unfold maxLen; omega) (Nat.le_refl _) ?_; intro w1 hown hgr))
  rw [made_zero] at hown
  have b1 : Below w.heap.size w w1 := (Below.refl _ _).grown hgr (Nat.le_refl _) (fun k e => by cases e)
  have hgl := (hown.lt w.heap.size rfl).2
  have O1 : BsAt w1 w.heap.size (.slice (some ⟨w.heap.size, 0, none⟩) N N) (List.replicate N 0) := by unfold BsAt; rw [List.length_replicate]; exact hown
  have O2 := O1.alloc (.cells #[.slice (some ⟨w.heap.size, 0, none⟩) N N] 22)
  have X2 : (w1.alloc (.cells #[.slice (some ⟨w.heap.size, 0, none⟩) N N] 22)).cell? ⟨w1.heap.size, 0, none⟩ = some (.slice (some ⟨w.heap.size, 0, none⟩) N N) := by go_simp
  have b2 := b1.alloc b1.size (.cells #[.slice (some ⟨w.heap.size, 0, none⟩) N N] 22)
  have z2 : w1.heap.size < (w1.alloc (.cells #[.slice (some ⟨w.heap.size, 0, none⟩) N N] 22)).heap.size := by simp
  clear hown hgr O1 b1
  generalize w1.alloc (.cells #[.slice (some ⟨w.heap.size, 0, none⟩) N N] 22) = w2 at *
  generalize w1.heap.size = X at *
  obtain ⟨g, hgw⟩ : ∃ g, g = w.heap.size := ⟨_, rfl⟩
  have HG : Hid (g = w.heap.size) := hgw
  rw [← hgw] at O2 X2 hgl b2 ⊢
  rw [← hgw] at hr0
  clear hgw
  have kt1 : Calls Try.prog 35 #[.int .i64 0, .int .u32 (r.length : Int), .pointer (some ⟨X, 0, none⟩)] w2 fun e w' => e = .returned (.tuple #[]) ∧ BsAt w' g (.slice (some ⟨g, 0, none⟩) N N) (wrt (List.replicate N 0) 0 (be4 r.length)) ∧ Kept g w2.heap.size w2 w' := by
    have := tell_ok w2 X g N g 0 N (List.replicate N 0) (BitVec.ofNat 32 r.length) (by simp) X2 (by omega) O2 (by omega) (by omega)
    rw [uv_ofNat (by omega), BitVec.toNat_ofNat, Nat.mod_eq_of_lt (by omega)] at this
    exact this
  refine kt1.mono ?_
  rintro e w3 ⟨rfl, O3, K3⟩
  have X3 := (K3.cell (p := ⟨X, 0, none⟩) z2 (by simp; omega)).trans X2
  have b3 := kept_below K3 b2 (by omega) (Nat.le_refl _)
  have z3 := Nat.lt_of_lt_of_le z2 K3.size
  clear kt1 O2 X2 b2 K3 z2
  have l3 : (wrt (List.replicate N 0) 0 (be4 r.length)).length = N := by rw [wrt_len _ _ _ (by rw [List.length_replicate, be4_len]; omega), List.length_replicate]
  have p3 : InAt w3 w3.heap.size (.slice (some ⟨g, 0, none⟩) 4 4) (be4 r.length) := by
    have := in_piece (i := 0) (j := 4) (ao' := some ⟨g, 0, none⟩) O3.in (by omega) (by rw [l3]; omega) (fun _ b off e => by cases e; rfl)
    have e : ((wrt (List.replicate N 0) 0 (be4 r.length)).drop 0).take (4 - 0) = be4 r.length := by
      unfold wrt
      rw [List.take_zero, List.nil_append, List.drop_zero]
      exact List.take_left' (be4_len _)
    rw [e] at this
    exact this
  have q3 : InAt w3 g (.slice ao r.length vc) r := SlAt.below hr0 b3 (Nat.le_refl _)
  have kf := fsumOf_any w3 _ g _ _ _ r p3 q3 (Nat.le_refl _) (by omega)
  have FE : Hid (sumOf (be4 r.length ++ r) = fsum r) := rfl
  rw [FE.out] at kf
  clear p3
  generalize wrt (List.replicate N 0) 0 (be4 r.length) = bs3 at *
  have kt2 : Hid (∀ W, Below w3.heap.size w3 W → Calls Try.prog 35 #[.int .i64 4, .int .u32 (uv (fsum r)), .pointer (some ⟨X, 0, none⟩)] W fun e w' => e = .returned (.tuple #[]) ∧ BsAt w' g (.slice (some ⟨g, 0, none⟩) N N) (wrt bs3 4 (be4 (fsum r).toNat)) ∧ Kept g W.heap.size W w') := fun W hW =>
    tell_ok W X g N g 4 N bs3 (fsum r) l3 ((hW.cell (p := ⟨X, 0, none⟩) z3).trans X3) (by omega) (O3.below hW) (by omega) (by omega)
  have i4 : (4 : Int) ≤ (N : Int) := by omega
  go_wp2_with (first | (go_at_call 36; refine kf.mono ?_; rintro e w4 ⟨rfl, b4⟩) | fail)
  have X4 := (b4.cell (p := ⟨X, 0, none⟩) z3).trans X3
  have z4 := Nat.lt_of_lt_of_le z3 b4.size
  refine (kt2.out w4 b4).mono ?_
  rintro e w5 ⟨rfl, O5, K5⟩
  have b4' := b3.trans (b4.mono (by omega))
  have X5 := (K5.cell (p := ⟨X, 0, none⟩) z4 (by simp; omega)).trans X4
  have b5 := kept_below K5 b4' (by omega) (Nat.le_refl _)
  have z5 := Nat.lt_of_lt_of_le z4 K5.size
  have q5 : InAt w5 g (.slice ao r.length vc) r := SlAt.below hr0 b5 (Nat.le_refl _)
  have l5 : (wrt bs3 4 (be4 (fsum r).toNat)).length = N := by rw [wrt_len _ _ _ (by rw [l3, be4_len]; omega), l3]
  obtain ⟨w6, hcp, O6, K6⟩ := copy_bs (off := 8) O5 q5 (N - 8) (N - 8) (by rw [l5]; omega) (by omega)
  rw [HF.out] at O6
  have X6 := (K6.cell (p := ⟨X, 0, none⟩) z5 (by simp; omega)).trans X5
  have b6 := kept_below K6 b5 (by omega) (Nat.le_refl _)
  have i8 : (8 : Int) ≤ (N : Int) := by omega
  have n8 : ((N : Int) - 8).toNat = N - 8 := by omega
  rw [HG.out] at O6 b6
  clear kt2 kf O5 K5 K6 l5 l3 O3 X3 X4 b3 b4 b4' b5 q3 q5
  go_wp2
  have e := HG.out
  subst e
  go_ret2
  exact ⟨rfl, O6, b6⟩
theorem put_big (w : World) (v : Value) (r : List UInt8) (hr : InAt w w.heap.size v r) (h : 16384 < r.length) :
    Calls Try.prog 22 #[v] w fun e w' => e = .returned (.tuple #[.slice none 0 0, .int .i64 3]) ∧ w = w' := by
  obtain ⟨ao, vc, rfl, hr1, hr2, -⟩ := hr
  unfold maxLen at hr2
  have i1 : (16384 : Int) < (r.length : Int) := by omega
  go_enter Try.func22, Try.ntmps22
  go_wp2
  go_ret2
  exact ⟨rfl, rfl⟩
end Go.Proofs.Ytjaidhglemnakaa
