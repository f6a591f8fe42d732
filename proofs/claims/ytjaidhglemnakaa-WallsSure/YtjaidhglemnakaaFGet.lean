/- The walk of Get. -/
import Derived.Test.YtjaidhglemnakaaFFind3sum
import Derived.Test.YtjaidhglemnakaaFFind3pad
import Derived.Test.YtjaidhglemnakaaFFind3ok
set_option linter.unusedSimpArgs false
set_option linter.unusedVariables false
namespace Go.Proofs.Ytjaidhglemnakaa
open Go.RowKit

theorem find_none (w : World) (v : Value) (bs : List UInt8) (hb : InAt w w.heap.size v bs) (h : getF bs = none) :
    Calls Try.prog 48 #[v] w fun e w' => e = .returned (.tuple #[.slice none 0 0, .bool false]) ∧ Below w.heap.size w w' := by
  by_cases h1 : bs.length < 64
  · exact find_short w v bs hb h1
  by_cases h2 : 16384 < num (bs.take 4)
  · exact find_long w v bs hb (by omega) h2
  by_cases h3 : bs.length < secs (num (bs.take 4)) * 64
  · exact find_few w v bs hb (by omega) h2 h3
  by_cases h4 : num ((bs.drop 4).take 4) = (sumOf (bs.take 4 ++ (bs.drop 8).take (num (bs.take 4)))).toNat
  · by_cases h5 : ((bs.drop (8 + num (bs.take 4))).take (secs (num (bs.take 4)) * 64 - (8 + num (bs.take 4)))).all (· == 0) = true
    · rw [getF_step h1 h2 h3, if_pos ⟨h4, h5⟩] at h
      cases h
    · exact find_pad w v bs hb (by omega) h2 h3 h4 (by simpa using h5)
  · exact find_sum w v bs hb (by omega) h2 h3 h4
theorem find_some (w : World) (v : Value) (bs r : List UInt8) (hb : InAt w w.heap.size v bs) (h : getF bs = some r) :
    Calls Try.prog 48 #[v] w fun e w' => ∃ o, e = .returned (.tuple #[.slice (some o) r.length r.length, .bool true]) ∧ InAt w' w.heap.size (.slice (some o) r.length r.length) r ∧ Below w.heap.size w w' := by
  have h0 := h
  unfold getF at h
  split at h
  · cases h
  split at h
  · cases h
  split at h
  · cases h
  rename_i h1 h2 h3
  clear h
  rw [getF_step h1 h2 h3] at h0
  split at h0
  · rename_i h4
    have h5 := secs_ge (num (bs.take 4))
    have hr : ((bs.drop 8).take (num (bs.take 4))).length = num (bs.take 4) := by rw [List.length_take, List.length_drop]; omega
    obtain rfl := Option.some.inj h0
    rw [hr]
    exact find_ok w v bs hb (by omega) h2 h3 h4.1 h4.2
  · cases h0
theorem get_none (w : World) (v : Value) (bs : List UInt8) (hb : InAt w w.heap.size v bs) (h : getF bs = none) :
    Calls Try.prog 41 #[v] w fun e w' => e = .returned (.tuple #[.slice none 0 0, .int .i64 0, .int .i64 4]) ∧ Below w.heap.size w w' := by
  have kf := find_none w v bs hb h
  obtain ⟨ao, cap, rfl, -, -, -⟩ := hb
  clear h
  go_enter Try.func41, Try.ntmps41
  go_wp2_with (go_at_call 48; refine kf.mono ?_; rintro e w1 ⟨rfl, b1⟩)
  refine bodyPost_ret (v := .tuple #[.slice none 0 0, .int .i64 0, .int .i64 4]) (by simp [results, Try.results41, go_sem]) rfl ⟨rfl, b1⟩
set_option maxHeartbeats 2000000 in
set_option maxRecDepth 1000000 in
theorem get_some (w : World) (v : Value) (bs r : List UInt8) (hb : InAt w w.heap.size v bs) (h : getF bs = some r) :
    Calls Try.prog 41 #[v] w fun e w' => ∃ g, e = .returned (.tuple #[.slice (some ⟨g, 0, none⟩) r.length r.length, .int .i64 ((secs r.length : Nat) : Int), .int .i64 0]) ∧ BsAt w' w.heap.size (.slice (some ⟨g, 0, none⟩) r.length r.length) r ∧ w.heap.size ≤ g ∧ Below w.heap.size w w' := by
  have kf := find_some w v bs r hb h
  obtain ⟨hr, -, -⟩ := getF_some h
  have ks := fun W => sectorsOf_any W r.length (by omega)
  obtain ⟨ao, cap, rfl, -, -, -⟩ := hb
  obtain ⟨i0, hi, hz0, hz1, hz2⟩ := info_parts info_u8
  clear h
  generalize ((secs r.length : Nat) : Int) = S at *
  go_enter Try.func41, Try.ntmps41
  go_wp2_with fail
  refine kf.mono ?_
  rintro e w1 ⟨o, rfl, hu, b1⟩
  have z1 := b1.size
  go_wp2_with (at_make; refine wpList_make_full _ rfl _ _ 22 rfl w.heap.size 5 i0 (.int .u8 0) 1 Try.underlying22 hi hz0 hz1 .i64 .i64 _ _ r.length rfl rfl rfl rfl (by rw [hz2]; omega) (by unfold maxLen; omega) z1 ?_; intro w2 hown hgr; rw [made_zero] at hown; have O2 : BsAt w2 w.heap.size (.slice (some ⟨w1.heap.size, 0, none⟩) r.length r.length) (List.replicate r.length 0) := (by unfold BsAt; rw [List.length_replicate]; exact hown); have b2 : Below w.heap.size w w2 := b1.grown hgr z1 (fun k e => by cases e); have b12 : Below w1.heap.size w1 w2 := (Below.refl _ _).grown hgr (Nat.le_refl _) (fun k e => by cases e); obtain ⟨w3, hcp, O3, K3⟩ := copy_bs (off := 0) O2 (hu.below b12 (by exact z1)) r.length r.length (by rw [List.length_replicate]; omega) (by omega); rw [wrt_all _ _ rfl] at O3; have b3 := kept_below K3 b2 b2.size z1; clear O2 K3 hown hgr)
  refine (ks w3).mono ?_
  rintro e w4 ⟨rfl, rfl⟩
  go_wp2
  refine bodyPost_ret (v := .tuple #[.slice (some ⟨w1.heap.size, 0, none⟩) r.length r.length, .int .i64 S, .int .i64 0]) (by simp [results, Try.results41, go_sem]) rfl ⟨_, rfl, O3, z1, b3⟩
end Go.Proofs.Ytjaidhglemnakaa
