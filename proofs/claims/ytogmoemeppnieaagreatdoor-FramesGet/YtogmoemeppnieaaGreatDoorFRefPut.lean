/- The walk of the document's own Put. -/
import Derived.Test.YtogmoemeppnieaaGreatDoorFRef
import Derived.Deep.OwnRows
set_option linter.unusedSimpArgs false
set_option linter.unusedVariables false
namespace Go.Proofs.YtogmoemeppnieaaGreatDoor
open Go.RowKit

theorem rlit_in (w : World) (cs : List UInt8) (fr : Nat × Nat) (t : TypeId) (hn : cs.length ≤ 100) : InAt (w.alloc (.cells (bcells cs).toArray t fr)) (w.heap.size + 1) (.slice (some ⟨w.heap.size, 0, none⟩) cs.length cs.length) cs := by
  refine ⟨_, _, rfl, Nat.le_refl _, by unfold maxLen; omega, fun hp => ⟨w.heap.size, 0, rfl, by omega, fun i hi j u hu => ?_⟩⟩
  have hj : j < 1 := by
    rcases Nat.lt_or_ge j 1 with h' | h'
    · exact h'
    · rw [List.getElem?_eq_none (by exact h')] at hu; cases hu
  obtain rfl : j = 0 := by omega
  have hcl : (w.alloc (.cells (bcells cs).toArray t fr)).cell? ⟨w.heap.size, i, none⟩ = (bcells cs).toArray[i]? := cell_of_row _ _ _ _ _ _ (heap_alloc_last w _)
  rw [show 0 + i * 1 + 0 = i by omega, hcl]
  simp only [bCell, List.getElem?_cons_zero] at hu
  simp [bcells, hi]
  exact Option.some.inj hu
theorem bs_base {w : World} {b b' : Nat} {v : Value} {bs : List UInt8} (h : BsAt w b v bs) (hb : b' ≤ b) : BsAt w b' v bs := by
  refine ⟨h.1, ?_⟩
  rcases h.2 with h1 | ⟨g, cap, cur, h1, h2, h3⟩
  · exact .inl h1
  · exact .inr ⟨g, cap, cur, h1, by omega, h3⟩
def slLen : Value → Nat
  | .slice _ n _ => n
  | _ => 0
theorem bs_len {w : World} {b : Nat} {v : Value} {bs : List UInt8} (h : BsAt w b v bs) : ∃ ao cap, v = .slice ao bs.length cap ∧ bs.length ≤ cap ∧ cap ≤ maxLen := own_len' h
theorem refPut_big (w : World) (v : Value) (r : List UInt8) (hr : InAt w w.heap.size v r) (h : 16384 < r.length) :
    Calls Tryz.prog 14 #[v] w fun e w' => e = .returned (.tuple #[.slice none 0 0, .int .i64 3]) ∧ w = w' := by
  obtain ⟨ao, vc, rfl, hr1, hr2, -⟩ := hr
  unfold maxLen at hr2
  have i1 : (16384 : Int) < (r.length : Int) := by omega
  go_enter Tryz.func14, Tryz.ntmps14
  go_wp2
  go_ret2
  exact ⟨rfl, rfl⟩
theorem frame_ref (r : List UInt8) : frame r = (be4 r.length ++ be4 (fsum r).toNat ++ r) ++ List.replicate (secs r.length * 64 - (8 + r.length)) 0 := by
  unfold frame; simp only [List.append_assoc]
set_option maxHeartbeats 8000000 in
set_option maxRecDepth 1000000 in
theorem refPut_ok (w : World) (v : Value) (r : List UInt8) (hr : InAt w w.heap.size v r) (h : r.length ≤ 16384) :
    Calls Tryz.prog 14 #[v] w fun e w' => ∃ u, e = .returned (.tuple #[u, .int .i64 0]) ∧ BsAt w' w.heap.size u (frame r) ∧ Below w.heap.size w w' := by
  have hr0 := hr
  obtain ⟨ao, vc, rfl, hr1, hr2, -⟩ := hr
  unfold maxLen at hr2
  obtain ⟨i0, hi, hz0, hz1, hz2⟩ := info_parts info_u8
  have i1 : ¬ (16384 : Int) < (r.length : Int) := by omega
  have kn1 : Calls Tryz.prog 56 #[.int .u32 (r.length : Int)] w fun e w' => e = .returned (.slice (some ⟨w.heap.size, 0, none⟩) 4 4) ∧ w' = w.alloc (.cells (bcells (be4 r.length)).toArray 5) := by
    have := number_any w (BitVec.ofNat 32 r.length)
    rw [uv_ofNat (by omega), BitVec.toNat_ofNat, Nat.mod_eq_of_lt (by omega)] at this
    exact this
  have hd0 := rlit_in w (be4 r.length) (0, 0) 5 (by rw [be4_len]; omega)
  rw [be4_len] at hd0
  have b1 := below_one w (.cells (bcells (be4 r.length)).toArray 5)
  have z1 : w.heap.size + 1 = (w.alloc (.cells (bcells (be4 r.length)).toArray 5)).heap.size := by simp
  have FE : Hid (sumOf (be4 r.length ++ r) = fsum r) := rfl
  have HF := frame_ref r
  have hge := secs_ge r.length
  have hlt := secs_lt r.length
  have hmod : Hid (∀ k, 8 + r.length + k ≤ secs r.length * 64 → ((8 + r.length + k) % 64 = 0 ↔ k = secs r.length * 64 - (8 + r.length))) := fun k hk => by unfold secs at *; omega
  generalize secs r.length * 64 = N at *
  have HFF : Hid (frame r = (be4 r.length ++ be4 (fsum r).toNat ++ r) ++ List.replicate (N - (8 + r.length)) 0) := HF
  clear HF
  go_enter Tryz.func14, Tryz.ntmps14
  go_wp2_with fail
  refine kn1.mono ?_
  rintro e w1 ⟨rfl, ew1⟩
  rw [← ew1] at hd0 b1 z1
  rw [z1] at hd0
  have sH : Hid (∀ W, Below w1.heap.size w1 W → Src Tryz.prog 1 22 (.slice (some ⟨w.heap.size, 0, none⟩) 4 4) 4 (bcells (be4 r.length)) W) := fun W hW => src_in (hd0.below hW (Nat.le_refl _))
  have sR : Hid (∀ W, Below w1.heap.size w1 W → Src Tryz.prog 1 22 (.slice ao r.length vc) r.length (bcells r) W) := fun W hW => src_in (hr0.below (b1.trans (hW.mono b1.size)) (Nat.le_refl _))
  have q0 := Below.refl w1.heap.size w1
  have sA := sH.out w1 q0
  clear ew1 kn1 hd0
  go_wp2_with (first
    | (at_builtin; refine wpList_append_own_src _ rfl (.const (.slice none 0 0)) (.tmp 14) 22 22 rfl w1.heap.size 5 i0 (.int .u8 0) 1 1 Tryz.underlying22 hi hz0 hz1 hz2 rfl (by decide) (.slice none 0 0) 0 [] rfl (World.ownsRow_nil _ _ _ _) (.slice (some ⟨w.heap.size, 0, none⟩) 4 4) 4 (bcells (be4 r.length)) rfl sA (by unfold maxLen; omega) (by omega) (Nat.le_refl _) ?_; refine fun v2 w2 o2 g2 _ => ?_; have b2 := grown_below q0 g2 (Nat.le_refl _) (BsAt.nil w1 w1.heap.size); have z2 := b2.size; have sB := sR.out w2 b2; clear g2)
    | (at_builtin; refine wpList_append_own_src _ rfl (.tmp 15) (.tmp 16) 22 22 rfl w1.heap.size 5 i0 (.int .u8 0) 1 1 Tryz.underlying22 hi hz0 hz1 hz2 rfl (by decide) v2 _ _ rfl o2 (.slice ao r.length vc) r.length (bcells r) rfl sB (by unfold maxLen; omega) (by omega) z2 ?_; refine fun v3 w3 o3 g3 _ => ?_; have b3 := grown_below b2 g3 z2 o2; have z3 := b3.size; have sC := sH.out w3 b3; clear g3)
    | (at_builtin; refine wpList_append_own_src _ rfl (.const (.slice none 0 0)) (.tmp 18) 22 22 rfl w3.heap.size 5 i0 (.int .u8 0) 1 1 Tryz.underlying22 hi hz0 hz1 hz2 rfl (by decide) (.slice none 0 0) 0 [] rfl (World.ownsRow_nil _ _ _ _) (.slice (some ⟨w.heap.size, 0, none⟩) 4 4) 4 (bcells (be4 r.length)) rfl sC (by unfold maxLen; omega) (by omega) (Nat.le_refl _) ?_; refine fun v4 w4 o4 g4 _ => ?_; have b4 := grown_below (Below.refl w3.heap.size w3) g4 (Nat.le_refl _) (BsAt.nil w3 w3.heap.size); clear g4))
  have O3 : BsAt w3 w1.heap.size v3 (be4 r.length ++ r) := by
    unfold BsAt
    rw [List.length_append, bcells_app, be4_len]
    simpa using o3
  have O4 : BsAt w4 w3.heap.size v4 (be4 r.length) := by
    unfold BsAt
    rw [be4_len]
    simpa using o4
  have kO := refOf_any w4 _ v3 _ (O3.below b4).in
  rw [FE.out] at kO
  refine kO.mono ?_
  rintro e w5 ⟨rfl, e5⟩
  rw [e5]
  have kn2 := number_any w4 (fsum r)
  have hd5 := rlit_in w4 (be4 (fsum r).toNat) (0, 0) 5 (by rw [be4_len]; omega)
  rw [be4_len] at hd5
  have b45 := below_one w4 (.cells (bcells (be4 (fsum r).toNat)).toArray 5)
  clear e5 kO o4 o3 o2 O3 sA sB sC w5
  go_wp2_with fail
  refine kn2.mono ?_
  rintro e w5 ⟨rfl, ew5⟩
  rw [← ew5] at hd5 b45
  have s5 := src_in hd5
  have b35 := b4.trans (b45.mono b4.size)
  have O5 := O4.below b45
  have z5 := b35.size
  have b15 := b3.trans (b35.mono z3)
  clear kn2 ew5 hd5 O4 b4 b45
  have sD := sR
  go_wp2_with (first
    | (at_builtin; refine wpList_append_own_src _ rfl (.tmp 19) (.tmp 22) 22 22 rfl w3.heap.size 5 i0 (.int .u8 0) 1 1 Tryz.underlying22 hi hz0 hz1 hz2 rfl (by decide) v4 4 (bcells (be4 r.length)) rfl O5 (.slice (some ⟨w4.heap.size, 0, none⟩) 4 4) 4 (bcells (be4 (fsum r).toNat)) rfl s5 (by unfold maxLen; omega) (by omega) z5 ?_; refine fun v6 w6 o6 g6 _ => ?_; have b6 := grown_below b35 g6 z5 O5; have z6 := b6.size; have b16 := b3.trans (b6.mono z3); have s6 := sR.out w6 b16; clear g6)
    | (at_builtin; refine wpList_append_own_src _ rfl (.tmp 24) (.tmp 25) 22 22 rfl w3.heap.size 5 i0 (.int .u8 0) 1 1 Tryz.underlying22 hi hz0 hz1 hz2 rfl (by decide) v6 _ _ rfl o6 (.slice ao r.length vc) r.length (bcells r) rfl s6 (by unfold maxLen; omega) (by omega) z6 ?_; refine fun v7 w7 o7 g7 _ => ?_; have b7 := grown_below b6 g7 z6 o6; clear g7))
  have B7 := b1.trans ((b3.trans (b7.mono z3)).mono b1.size)
  have O7 : BsAt w7 w.heap.size v7 (be4 r.length ++ be4 (fsum r).toNat ++ r ++ List.replicate 0 0) := by
    refine bs_base (b := w3.heap.size) ?_ (Nat.le_trans b1.size z3)
    unfold BsAt
    rw [List.replicate_zero, List.append_nil, List.length_append, List.length_append, bcells_app, bcells_app, be4_len, be4_len]
    exact o7
  have lH : (be4 r.length ++ be4 (fsum r).toNat ++ r).length = 8 + r.length := by rw [List.length_append, List.length_append, be4_len, be4_len]
  generalize be4 r.length ++ be4 (fsum r).toNat ++ r = hd at *
  have HL : Hid (hd.length = 8 + r.length) := lH
  clear o7 o6 s6 s5 O5 b15 b16 sH sR sD b3 b35 b6 b7 q0 lH
  go_loopw [6] (fun vb wr => ∃ k : Nat, 8 + r.length + k ≤ N ∧ BsAt wr w.heap.size vb (hd ++ List.replicate k 0) ∧ Below w.heap.size w wr) (fun vb _ => N - slLen vb)
  case atStart => exact ⟨0, by omega, O7, B7⟩
  case round =>
    clear O7 B7
    obtain ⟨k, hk, hO, hB⟩ := hrel
    have hlen : (hd ++ List.replicate k 0).length = 8 + r.length + k := by rw [List.length_append, HL.out, List.length_replicate]
    have hm := hmod.out k hk
    obtain ⟨L, eL⟩ : ∃ L, L = 8 + r.length + k := ⟨_, rfl⟩
    rw [← eL] at hlen hm
    obtain ⟨av, cp, ev, hc1, hc2⟩ := bs_len hO
    rw [hlen] at ev hc1
    subst ev
    unfold maxLen at hc2
    have hL : L ≤ 20000 := by omega
    have HLen : Hid ((hd ++ List.replicate k 0).length = L) := hlen
    by_cases hend : k = N - (8 + r.length)
    · have t0 : (L : Int).tmod 64 = 0 := by rw [Int.tmod_eq_emod_of_nonneg (by omega)]; have := hm.2 hend; omega
      have t1 : (L : Int) % 64 = 0 := by have := hm.2 hend; omega
      rw [hend, ← HFF.out] at hO
      clear hm hlen eL hend HLen
      go_wp2
      go_ret2
      exact ⟨_, rfl, hO, hB⟩
    · have t1 : ¬ (L : Int) % 64 = 0 := by intro e; exact hend (hm.1 (by omega))
      have t2 : ¬ (L : Int).tmod 64 = 0 := by rw [Int.tmod_eq_emod_of_nonneg (by omega)]; exact t1
      have t3 : ((L : Int).tmod 64 != 0) = true := by rw [bne_iff_ne]; exact t2
      have t4 : ((L : Int) % 64 != 0) = true := by rw [bne_iff_ne]; exact t1
      have O8 : (wr.alloc (.cells #[.int .u8 0] 5)).ownsRow w.heap.size 5 1 (.slice av L cp) L (bcells (hd ++ List.replicate k 0)) := by
        have := hO.alloc (.cells #[.int .u8 0] 5)
        unfold BsAt at this
        rw [HLen.out] at this
        exact this
      have b8 := hB.alloc hB.size (.cells #[.int .u8 0] 5)
      have z8 := b8.size
      have s8 := src_in (rlit_in wr [0] (0, 0) 5 (by simp))
      have fin : Hid (∀ w9 v9, w9.ownsRow w.heap.size 5 1 v9 (L + 1) (bcells (hd ++ List.replicate k 0) ++ bcells [0]) → BsAt w9 w.heap.size v9 (hd ++ List.replicate (k + 1) 0)) := fun w9 v9 h9 => by
        have e1 : hd ++ List.replicate (k + 1) 0 = (hd ++ List.replicate k 0) ++ [(0 : UInt8)] := by rw [List.append_assoc, List.replicate_succ']
        rw [e1]
        unfold BsAt
        rw [List.length_append, HLen.out, bcells_app]
        exact h9
      have kk : k + 1 ≤ N - (8 + r.length) := by omega
      have hLN : L < N := by omega
      clear hm hlen eL hO hB hend
      go_wp2_with (at_builtin; refine wpList_append_own_src _ rfl (.tmp 31) (.tmp 32) 22 22 rfl w.heap.size 5 i0 (.int .u8 0) 1 1 Tryz.underlying22 hi hz0 hz1 hz2 rfl (by decide) (.slice av L cp) L (bcells (hd ++ List.replicate k 0)) rfl O8 (.slice (some ⟨wr.heap.size, 0, none⟩) 1 1) 1 (bcells [0]) rfl s8 (by unfold maxLen; omega) (by omega) z8 ?_; refine fun v9 w9 o9 g9 _ => ?_; have b9 := grown_below b8 g9 z8 O8; have O9 := fin.out w9 v9 o9; have q9 := own_len' o9)
      obtain ⟨a9, c9, e9, -, -⟩ := q9
      subst e9
      go_roundw
      case rel => exact ⟨k + 1, by omega, O9, b9⟩
      case measure => simp [slLen]; omega
end Go.Proofs.YtogmoemeppnieaaGreatDoor
