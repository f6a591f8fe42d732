/- The walk of the document's own Get. -/
import Derived.Test.YtogmoemeppnieaaGreatDoorFRefPut
import Derived.Test.YtogmoemeppnieaaGreatDoorGConv
import Derived.Deep.QuietTactic
import Derived.BigQuiet
set_option linter.unusedSimpArgs false
set_option linter.unusedVariables false
namespace Go.Proofs.YtogmoemeppnieaaGreatDoor
open Go.RowKit

theorem refGet_short (w : World) (v : Value) (bs : List UInt8) (hb : InAt w w.heap.size v bs) (h : bs.length < 8) :
    Calls Tryz.prog 6 #[v] w fun e w' => e = .returned (.tuple #[.slice none 0 0, .int .i64 0, .int .i64 4]) ∧ w = w' := by
  obtain ⟨ao, cap, rfl, hb1, hb2, -⟩ := hb
  unfold maxLen at hb2
  have i1 : (bs.length : Int) < 8 := by omega
  go_enter Tryz.func6, Tryz.ntmps6
  go_wp2
  refine bodyPost_ret (v := .tuple #[.slice none 0 0, .int .i64 0, .int .i64 4]) (by simp [results, Tryz.results6, go_sem]) rfl ⟨rfl, rfl⟩
theorem head_cells {w : World} {lim b off m cap : Nat} {bs : List UInt8} (h : InAt w lim (.slice (some ⟨b, off, none⟩) m cap) bs) (h8 : 8 ≤ bs.length) : ∃ x0 x1 x2 x3 : UInt8, bs.take 4 = [x0, x1, x2, x3] ∧ w.cell? ⟨b, off, none⟩ = some (.int .u8 (x0.toNat : Int)) ∧ w.cell? ⟨b, off + 1, none⟩ = some (.int .u8 (x1.toNat : Int)) ∧ w.cell? ⟨b, off + 2, none⟩ = some (.int .u8 (x2.toNat : Int)) ∧ w.cell? ⟨b, off + 3, none⟩ = some (.int .u8 (x3.toNat : Int)) := by
  obtain ⟨ao', cap', hv, h1, h2, h3⟩ := h
  simp only [Value.slice.injEq] at hv
  obtain ⟨rfl, rfl, rfl⟩ := hv
  obtain ⟨b', o', e, -, hc⟩ := h3 (by omega)
  cases e
  have c : ∀ i (hi : i < bs.length), w.cell? ⟨b, off + i, none⟩ = some (.int .u8 ((bs[i]'hi).toNat : Int)) := fun i hi => by
    have := hc i hi 0 _ rfl
    rw [Nat.mul_one, Nat.add_zero] at this
    exact this
  refine ⟨bs[0]'(by omega), bs[1]'(by omega), bs[2]'(by omega), bs[3]'(by omega), ?_, c 0 (by omega), c 1 (by omega), c 2 (by omega), c 3 (by omega)⟩
  apply List.ext_getElem
  · rw [List.length_take]; simp; omega
  · intro i h1 h2
    rw [List.getElem_take]
    have : i < 4 := by simpa using h2
    rcases (show i = 0 ∨ i = 1 ∨ i = 2 ∨ i = 3 by omega) with rfl | rfl | rfl | rfl <;> rfl
set_option maxHeartbeats 4000000 in
set_option maxRecDepth 1000000 in
theorem refGet_long (w : World) (v : Value) (bs : List UInt8) (hb : InAt w w.heap.size v bs) (h8 : 8 ≤ bs.length) (h : 16384 < num (bs.take 4)) :
    Calls Tryz.prog 6 #[v] w fun e w' => e = .returned (.tuple #[.slice none 0 0, .int .i64 0, .int .i64 4]) ∧ Below w.heap.size w w' := by
  have hb0 := hb
  obtain ⟨ao, cap, rfl, hb1, hb2, hb3⟩ := hb
  obtain ⟨b, off, rfl, hbl, -⟩ := hb3 (by omega)
  unfold maxLen at hb2
  obtain ⟨x0, x1, x2, x3, e4, c0, c1, c2, c3⟩ := head_cells hb0 h8
  rw [e4, num_four] at h
  have a0 := x0.toNat_lt; have a1 := x1.toNat_lt; have a2 := x2.toNat_lt; have a3 := x3.toNat_lt
  have i1 : ¬ (bs.length : Int) < 8 := by omega
  have i2 : (16384 : Int) < 16777216 * (x0.toNat : Int) + 65536 * (x1.toNat : Int) + 256 * (x2.toNat : Int) + (x3.toNat : Int) := by omega
  clear hb0 hb3 e4
  go_enter Tryz.func6, Tryz.ntmps6
  go_wp2
  go_quiet (fail)
  go_wp2
  refine bodyPost_ret (v := .tuple #[.slice none 0 0, .int .i64 0, .int .i64 4]) (by simp [results, Tryz.results6, go_sem]) rfl ⟨rfl, below_drewN w nq⟩
set_option maxHeartbeats 4000000 in
set_option maxRecDepth 1000000 in
theorem refGet_few (w : World) (v : Value) (bs : List UInt8) (hb : InAt w w.heap.size v bs) (h8 : 8 ≤ bs.length) (h : ¬ 16384 < num (bs.take 4)) (hW : bs.length < secs (num (bs.take 4)) * 64) :
    Calls Tryz.prog 6 #[v] w fun e w' => e = .returned (.tuple #[.slice none 0 0, .int .i64 0, .int .i64 4]) ∧ Below w.heap.size w w' := by
  have hb0 := hb
  obtain ⟨ao, cap, rfl, hb1, hb2, hb3⟩ := hb
  obtain ⟨b, off, rfl, hbl, -⟩ := hb3 (by omega)
  unfold maxLen at hb2
  obtain ⟨x0, x1, x2, x3, e4, c0, c1, c2, c3⟩ := head_cells hb0 h8
  have en : num (bs.take 4) = 16777216 * x0.toNat + 65536 * x1.toNat + 256 * x2.toNat + x3.toNat := by rw [e4, num_four]
  have ks := fun W => refSectors_any W (num (bs.take 4)) (by omega)
  have hlt := secs_lt (num (bs.take 4))
  have a0 := x0.toNat_lt; have a1 := x1.toNat_lt; have a2 := x2.toNat_lt; have a3 := x3.toNat_lt
  have i1 : ¬ (bs.length : Int) < 8 := by omega
  obtain ⟨N, eN⟩ : ∃ N, N = secs (num (bs.take 4)) * 64 := ⟨_, rfl⟩
  have mN : ((secs (num (bs.take 4)) : Nat) : Int) * 64 = (N : Int) := by rw [eN]; omega
  rw [← eN] at hW hlt
  clear eN
  generalize ((secs (num (bs.take 4)) : Nat) : Int) = S at *
  generalize num (bs.take 4) = n at *
  have sb : 0 ≤ S ∧ S ≤ 1000 := by omega
  obtain ⟨sb1, sb2⟩ := sb
  have ei : 16777216 * (x0.toNat : Int) + 65536 * (x1.toNat : Int) + 256 * (x2.toNat : Int) + (x3.toNat : Int) = (n : Int) := by omega
  have i2 : ¬ (16384 : Int) < (n : Int) := by omega
  have i3 : (bs.length : Int) < (N : Int) := by omega
  clear hb0 hb3 e4 en
  go_enter Tryz.func6, Tryz.ntmps6
  go_wp2
  go_quiet (fail)
  go_wp2_with (go_at_call 13; refine (ks _).mono ?_; rintro e w' ⟨rfl, rfl⟩)
  refine bodyPost_ret (v := .tuple #[.slice none 0 0, .int .i64 0, .int .i64 4]) (by simp [results, Tryz.results6, go_sem]) rfl ⟨rfl, below_drewN w nq⟩
set_option maxHeartbeats 8000000 in
set_option maxRecDepth 1000000 in
theorem refGet_ok (w : World) (v : Value) (bs : List UInt8) (hb : InAt w w.heap.size v bs) (h8 : 8 ≤ bs.length) (h : ¬ 16384 < num (bs.take 4)) (hW : ¬ bs.length < secs (num (bs.take 4)) * 64) (hf : bs.take (secs (num (bs.take 4)) * 64) = frame ((bs.drop 8).take (num (bs.take 4)))) :
    Calls Tryz.prog 6 #[v] w fun e w' => ∃ u, e = .returned (.tuple #[u, .int .i64 ((secs (num (bs.take 4)) : Nat) : Int), .int .i64 0]) ∧ BsAt w' w.heap.size u ((bs.drop 8).take (num (bs.take 4))) ∧ Below w.heap.size w w' := by
  have hb0 := hb
  obtain ⟨ao, cap, rfl, hb1, hb2, hb3⟩ := hb
  obtain ⟨b, off, rfl, hbl, -⟩ := hb3 (by omega)
  unfold maxLen at hb2
  obtain ⟨i0, hi, hz0, hz1, hz2⟩ := info_parts info_u8
  obtain ⟨x0, x1, x2, x3, e4, c0, c1, c2, c3⟩ := head_cells hb0 h8
  have en : num (bs.take 4) = 16777216 * x0.toNat + 65536 * x1.toNat + 256 * x2.toNat + x3.toNat := by rw [e4, num_four]
  have ks := fun W => refSectors_any W (num (bs.take 4)) (by omega)
  have hlt := secs_lt (num (bs.take 4))
  have hge := secs_ge (num (bs.take 4))
  have a0 := x0.toNat_lt; have a1 := x1.toNat_lt; have a2 := x2.toNat_lt; have a3 := x3.toNat_lt
  have i1 : ¬ (bs.length : Int) < 8 := by omega
  obtain ⟨N, eN⟩ : ∃ N, N = secs (num (bs.take 4)) * 64 := ⟨_, rfl⟩
  have mN : ((secs (num (bs.take 4)) : Nat) : Int) * 64 = (N : Int) := by rw [eN]; omega
  rw [← eN] at hW hlt hge hf
  clear eN
  generalize ((secs (num (bs.take 4)) : Nat) : Int) = S at *
  generalize num (bs.take 4) = n at *
  have sb : 0 ≤ S ∧ S ≤ 1000 := by omega
  obtain ⟨sb1, sb2⟩ := sb
  have ei : 16777216 * (x0.toNat : Int) + 65536 * (x1.toNat : Int) + 256 * (x2.toNat : Int) + (x3.toNat : Int) = (n : Int) := by omega
  have i2 : ¬ (16384 : Int) < (n : Int) := by omega
  have i3 : ¬ (bs.length : Int) < (N : Int) := by omega
  have hrl : ((bs.drop 8).take n).length = n := by rw [List.length_take, List.length_drop]; omega
  have iR : ∀ W, Below w.heap.size w W → InAt W w.heap.size (.slice (some ⟨b, off + 8, none⟩) n (cap - 8)) ((bs.drop 8).take n) := fun W hW => by
    have := in_drop (n := 8) (ao' := some ⟨b, off + 8, none⟩) (hb0.below hW (Nat.le_refl _)) h8 (fun _ b' o' e => by cases e; rfl)
    rw [show bs.length - 8 = (bs.drop 8).length by rw [List.length_drop]] at this
    exact in_take this (by rw [List.length_drop]; omega)
  have iF : ∀ W, Below w.heap.size w W → InAt W w.heap.size (.slice (some ⟨b, off, none⟩) N cap) (bs.take N) := fun W hW => in_take (hb0.below hW (Nat.le_refl _)) (by omega)
  have kP : ∀ W u, InAt W W.heap.size u ((bs.drop 8).take n) → Calls Tryz.prog 14 #[u] W fun e w' => ∃ u, e = .returned (.tuple #[u, .int .i64 0]) ∧ BsAt w' W.heap.size u (frame ((bs.drop 8).take n)) ∧ Below W.heap.size W w' := fun W u hu => refPut_ok W u _ hu (by rw [hrl]; omega)
  generalize (bs.drop 8).take n = r at *
  have j1 : (8 : Int) < (cap : Int) := by omega
  have j2 : (8 : Int) + (n : Int) ≤ (cap : Int) := by omega
  have j3 : (N : Int) ≤ (cap : Int) := by omega
  have HR : Hid (r.length = n) := hrl
  have HS : Hid ((⟨(bs.take N).toArray⟩ : ByteArray) = ⟨(frame r).toArray⟩) := by show _ = _; rw [hf]
  clear hb0 hb3 e4 en hf hrl
  go_enter Tryz.func6, Tryz.ntmps6
  go_wp2
  go_quiet (fail)
  have bq := below_drewN w nq
  have sR := src_in (iR _ bq)
  rw [HR.out] at sR
  have sR8 : Src Tryz.prog 1 22 (.slice (some ⟨b, off + 8, none⟩) (8 + n - 8) (cap - 8)) n (bcells r) (w.drewN nq) := by rw [Nat.add_sub_cancel_left]; exact sR
  clear sR
  have zq := bq.size
  generalize w.drewN nq = w1 at *
  clear c0 c1 c2 c3
  go_wp2_with (first
    | (go_at_call 13; refine (ks _).mono ?_; rintro e w' ⟨rfl, rfl⟩)
    | (at_builtin; refine wpList_append_own_src _ rfl (.const (.slice none 0 0)) (.tmp 47) 22 22 rfl w.heap.size 5 i0 (.int .u8 0) 1 1 Tryz.underlying22 hi hz0 hz1 hz2 rfl (by decide) (.slice none 0 0) 0 [] rfl (World.ownsRow_nil _ _ _ _) (.slice (some ⟨b, off + 8, none⟩) (8 + n - 8) (cap - 8)) n (bcells r) rfl sR8 (by unfold maxLen; omega) (by omega) zq ?_; refine fun v2 w2 o2 g2 _ => ?_; have b2 := grown_below bq g2 zq (BsAt.nil w1 w.heap.size); clear g2))
  have O2 : BsAt w2 w.heap.size v2 r := by
    unfold BsAt
    rw [HR.out]
    simpa using o2
  refine (kP w2 v2 O2.in).mono ?_
  rintro e w3 ⟨v3, rfl, O3, b3⟩
  have B3 := b2.trans (b3.mono b2.size)
  have O23 := O2.below b3
  have hc1 : ∀ m, (convert 22 9 v3).run Tryz.prog (w3.drewN m) = .ok (.string ⟨(frame r).toArray⟩) (w3.drewN m) := fun m => conv_in (O3.below (below_drewN w3 m)).in
  have hc2 : ∀ m, (convert 22 9 (.slice (some ⟨b, off, none⟩) N cap)).run Tryz.prog (w3.drewN m) = .ok (.string ⟨(bs.take N).toArray⟩) (w3.drewN m) := fun m => conv_in (iF _ (B3.trans ((below_drewN w3 m).mono B3.size)))
  clear o2 O2 O3 kP iR iF sR8 ks b2 b3
  rw [HS.out] at hc2
  clear HS
  generalize (⟨(frame r).toArray⟩ : ByteArray) = S1 at *
  go_wp2
  go_quiet (fail)
  go_wp2
  refine bodyPost_ret (v := .tuple #[v2, .int .i64 S, .int .i64 0]) (by simp [results, Tryz.results6, go_sem]) rfl ⟨_, rfl, O23.below (below_drewN w3 _), B3.trans ((below_drewN w3 _).mono B3.size)⟩
set_option maxHeartbeats 8000000 in
set_option maxRecDepth 1000000 in
theorem refGet_not (w : World) (v : Value) (bs : List UInt8) (hb : InAt w w.heap.size v bs) (h8 : 8 ≤ bs.length) (h : ¬ 16384 < num (bs.take 4)) (hW : ¬ bs.length < secs (num (bs.take 4)) * 64) (hf : bs.take (secs (num (bs.take 4)) * 64) ≠ frame ((bs.drop 8).take (num (bs.take 4)))) :
    Calls Tryz.prog 6 #[v] w fun e w' => e = .returned (.tuple #[.slice none 0 0, .int .i64 0, .int .i64 4]) ∧ Below w.heap.size w w' := by
  have hb0 := hb
  obtain ⟨ao, cap, rfl, hb1, hb2, hb3⟩ := hb
  obtain ⟨b, off, rfl, hbl, -⟩ := hb3 (by omega)
  unfold maxLen at hb2
  obtain ⟨i0, hi, hz0, hz1, hz2⟩ := info_parts info_u8
  obtain ⟨x0, x1, x2, x3, e4, c0, c1, c2, c3⟩ := head_cells hb0 h8
  have en : num (bs.take 4) = 16777216 * x0.toNat + 65536 * x1.toNat + 256 * x2.toNat + x3.toNat := by rw [e4, num_four]
  have ks := fun W => refSectors_any W (num (bs.take 4)) (by omega)
  have hlt := secs_lt (num (bs.take 4))
  have hge := secs_ge (num (bs.take 4))
  have a0 := x0.toNat_lt; have a1 := x1.toNat_lt; have a2 := x2.toNat_lt; have a3 := x3.toNat_lt
  have i1 : ¬ (bs.length : Int) < 8 := by omega
  obtain ⟨N, eN⟩ : ∃ N, N = secs (num (bs.take 4)) * 64 := ⟨_, rfl⟩
  have mN : ((secs (num (bs.take 4)) : Nat) : Int) * 64 = (N : Int) := by rw [eN]; omega
  rw [← eN] at hW hlt hge hf
  clear eN
  generalize ((secs (num (bs.take 4)) : Nat) : Int) = S at *
  generalize num (bs.take 4) = n at *
  have sb : 0 ≤ S ∧ S ≤ 1000 := by omega
  obtain ⟨sb1, sb2⟩ := sb
  have ei : 16777216 * (x0.toNat : Int) + 65536 * (x1.toNat : Int) + 256 * (x2.toNat : Int) + (x3.toNat : Int) = (n : Int) := by omega
  have i2 : ¬ (16384 : Int) < (n : Int) := by omega
  have i3 : ¬ (bs.length : Int) < (N : Int) := by omega
  have hrl : ((bs.drop 8).take n).length = n := by rw [List.length_take, List.length_drop]; omega
  have iR : ∀ W, Below w.heap.size w W → InAt W w.heap.size (.slice (some ⟨b, off + 8, none⟩) n (cap - 8)) ((bs.drop 8).take n) := fun W hW => by
    have := in_drop (n := 8) (ao' := some ⟨b, off + 8, none⟩) (hb0.below hW (Nat.le_refl _)) h8 (fun _ b' o' e => by cases e; rfl)
    rw [show bs.length - 8 = (bs.drop 8).length by rw [List.length_drop]] at this
    exact in_take this (by rw [List.length_drop]; omega)
  have iF : ∀ W, Below w.heap.size w W → InAt W w.heap.size (.slice (some ⟨b, off, none⟩) N cap) (bs.take N) := fun W hW => in_take (hb0.below hW (Nat.le_refl _)) (by omega)
  have kP : ∀ W u, InAt W W.heap.size u ((bs.drop 8).take n) → Calls Tryz.prog 14 #[u] W fun e w' => ∃ u, e = .returned (.tuple #[u, .int .i64 0]) ∧ BsAt w' W.heap.size u (frame ((bs.drop 8).take n)) ∧ Below W.heap.size W w' := fun W u hu => refPut_ok W u _ hu (by rw [hrl]; omega)
  generalize (bs.drop 8).take n = r at *
  have j1 : (8 : Int) < (cap : Int) := by omega
  have j2 : (8 : Int) + (n : Int) ≤ (cap : Int) := by omega
  have j3 : (N : Int) ≤ (cap : Int) := by omega
  have HR : Hid (r.length = n) := hrl
  have HS : Hid (((⟨(frame r).toArray⟩ : ByteArray).toList == (⟨(bs.take N).toArray⟩ : ByteArray).toList) = false) := by
    show _ = _
    rw [beq_eq_false_iff_ne, ByteArray.toList_eq, ByteArray.toList_eq]
    intro e
    exact hf e.symm
  clear hb0 hb3 e4 en hf hrl
  go_enter Tryz.func6, Tryz.ntmps6
  go_wp2
  go_quiet (fail)
  have bq := below_drewN w nq
  have sR := src_in (iR _ bq)
  rw [HR.out] at sR
  have sR8 : Src Tryz.prog 1 22 (.slice (some ⟨b, off + 8, none⟩) (8 + n - 8) (cap - 8)) n (bcells r) (w.drewN nq) := by rw [Nat.add_sub_cancel_left]; exact sR
  clear sR
  have zq := bq.size
  generalize w.drewN nq = w1 at *
  clear c0 c1 c2 c3
  go_wp2_with (first
    | (go_at_call 13; refine (ks _).mono ?_; rintro e w' ⟨rfl, rfl⟩)
    | (at_builtin; refine wpList_append_own_src _ rfl (.const (.slice none 0 0)) (.tmp 47) 22 22 rfl w.heap.size 5 i0 (.int .u8 0) 1 1 Tryz.underlying22 hi hz0 hz1 hz2 rfl (by decide) (.slice none 0 0) 0 [] rfl (World.ownsRow_nil _ _ _ _) (.slice (some ⟨b, off + 8, none⟩) (8 + n - 8) (cap - 8)) n (bcells r) rfl sR8 (by unfold maxLen; omega) (by omega) zq ?_; refine fun v2 w2 o2 g2 _ => ?_; have b2 := grown_below bq g2 zq (BsAt.nil w1 w.heap.size); clear g2))
  have O2 : BsAt w2 w.heap.size v2 r := by
    unfold BsAt
    rw [HR.out]
    simpa using o2
  refine (kP w2 v2 O2.in).mono ?_
  rintro e w3 ⟨v3, rfl, O3, b3⟩
  have B3 := b2.trans (b3.mono b2.size)
  have O23 := O2.below b3
  have hc1 : ∀ m, (convert 22 9 v3).run Tryz.prog (w3.drewN m) = .ok (.string ⟨(frame r).toArray⟩) (w3.drewN m) := fun m => conv_in (O3.below (below_drewN w3 m)).in
  have hc2 : ∀ m, (convert 22 9 (.slice (some ⟨b, off, none⟩) N cap)).run Tryz.prog (w3.drewN m) = .ok (.string ⟨(bs.take N).toArray⟩) (w3.drewN m) := fun m => conv_in (iF _ (B3.trans ((below_drewN w3 m).mono B3.size)))
  clear o2 O2 O3 kP iR iF sR8 ks b2 b3
  have hs := HS.out
  clear HS
  generalize (⟨(frame r).toArray⟩ : ByteArray) = S1 at *
  generalize (⟨(bs.take N).toArray⟩ : ByteArray) = S2 at *
  go_wp2
  go_quiet (fail)
  go_wp2
  refine bodyPost_ret (v := .tuple #[.slice none 0 0, .int .i64 0, .int .i64 4]) (by simp [results, Tryz.results6, go_sem]) rfl ⟨rfl, B3.trans ((below_drewN w3 _).mono B3.size)⟩
theorem refGet_none (w : World) (v : Value) (bs : List UInt8) (hb : InAt w w.heap.size v bs) (h : getF bs = none) :
    Calls Tryz.prog 6 #[v] w fun e w' => e = .returned (.tuple #[.slice none 0 0, .int .i64 0, .int .i64 4]) ∧ Below w.heap.size w w' := by
  by_cases h1 : bs.length < 8
  · refine (refGet_short w v bs hb h1).mono ?_
    rintro e w' ⟨rfl, rfl⟩
    exact ⟨rfl, Below.refl _ _⟩
  by_cases h2 : 16384 < num (bs.take 4)
  · exact refGet_long w v bs hb (by omega) h2
  by_cases h3 : bs.length < secs (num (bs.take 4)) * 64
  · exact refGet_few w v bs hb (by omega) h2 h3
  refine refGet_not w v bs hb (by omega) h2 h3 (fun e => ?_)
  unfold getF at h
  have h4 := secs_pos (num (bs.take 4))
  rw [if_neg (by omega), if_neg h2, if_neg h3, if_pos e] at h
  cases h
theorem refGet_some (w : World) (v : Value) (bs r : List UInt8) (hb : InAt w w.heap.size v bs) (h : getF bs = some r) :
    Calls Tryz.prog 6 #[v] w fun e w' => ∃ u, e = .returned (.tuple #[u, .int .i64 ((secs r.length : Nat) : Int), .int .i64 0]) ∧ BsAt w' w.heap.size u r ∧ Below w.heap.size w w' := by
  unfold getF at h
  split at h
  · cases h
  split at h
  · cases h
  split at h
  · cases h
  split at h
  · rename_i h1 h2 h3 h4
    have h5 := secs_ge (num (bs.take 4))
    have hr : ((bs.drop 8).take (num (bs.take 4))).length = num (bs.take 4) := by rw [List.length_take, List.length_drop]; omega
    obtain rfl := Option.some.inj h
    rw [hr]
    exact refGet_ok w v bs hb (by omega) h2 h3 h4
  · cases h
end Go.Proofs.YtogmoemeppnieaaGreatDoor
