/- The walk of SumsTurned: bytes in which up to 32 bits in a row are turned have another sum. -/
import Derived.Test.YtnnmdmodcmfelaaSAlive
import Derived.Test.YtnnmdmodcmfelaaSLaw
set_option linter.unusedSimpArgs false
set_option linter.unusedVariables false
namespace Go.Proofs.Ytnnmdmodcmfelaa
open Go.RowKit

/-- What is owned, one byte of it written. -/
theorem BsAt.shape {w : World} {base : Nat} {v : Value} {bs : List UInt8} (h : BsAt w base v bs) (hp : 0 < bs.length) : ∃ g cap, v = .slice (some ⟨g, 0, none⟩) bs.length cap ∧ base ≤ g ∧ bs.length ≤ cap ∧ cap ≤ maxLen := by
  rcases h.2 with ⟨rfl, hn⟩ | ⟨g, cap, cur, rfl, hb, hg, hnc, hcm, hcs, ht⟩
  · omega
  · exact ⟨g, cap, rfl, hb, hnc, hcm⟩
theorem BsAt.cell {w : World} {base g n cap : Nat} {bs : List UInt8} (h : BsAt w base (.slice (some ⟨g, 0, none⟩) n cap) bs) {i : Nat} (hi : i < bs.length) : w.cell? ⟨g, i, none⟩ = some (.int .u8 ((bs[i]'hi).toNat : Int)) ∧ w.frozen? ⟨g, i, none⟩ = false := by
  have hc := h.cells (g := g) rfl i (bv (bs[i]'hi)) (by simp [bcells, hi])
  rw [Addr.add_lit] at hc
  simp only [Nat.zero_add] at hc
  refine ⟨hc, ?_⟩
  rcases h.2 with ⟨e, hn⟩ | ⟨g', cap', cur, e, hb, hg, hnc, hcm, hcs, ht⟩
  · cases e
  · simp only [Value.slice.injEq, Option.some.injEq, Addr.mk.injEq] at e
    obtain ⟨⟨rfl, -⟩, -⟩ := e
    simp [World.frozen?, hg]
theorem BsAt.set {w : World} {base g n cap : Nat} {bs : List UInt8} (h : BsAt w base (.slice (some ⟨g, 0, none⟩) n cap) bs) {i : Nat} (hi : i < bs.length) (x : UInt8) : BsAt (w.setCell ⟨g, i, none⟩ (.int .u8 (x.toNat : Int))) base (.slice (some ⟨g, 0, none⟩) n cap) (bs.set i x) := by
  unfold BsAt at h ⊢
  have hl : (bcells (bs.set i x)).length = (bs.set i x).length * 1 := by rw [bcells_len, Nat.mul_one]
  refine ⟨hl, ?_⟩
  rcases h.2 with ⟨e, hn⟩ | ⟨g', cap', cur, e, hb, hg, hnc, hcm, hcs, ht⟩
  · cases e
  · simp only [Value.slice.injEq, Option.some.injEq, Addr.mk.injEq] at e
    obtain ⟨⟨rfl, -⟩, rfl, rfl⟩ := e
    refine .inr ⟨g, cap, cur.setIfInBounds i (.int .u8 (x.toNat : Int)), by rw [List.length_set], hb, heap_setCell_same _ _ _ _ _ _ hg, by rw [List.length_set]; exact hnc, hcm, by rw [Array.size_setIfInBounds]; exact hcs, ?_⟩
    rw [Array.toList_setIfInBounds, List.length_set, List.take_set, ht]
    simp only [bcells, List.map_set]
    rfl
theorem bit_of {B k q : Nat} (hB : B < 4294967296) (hq : B / 2 ^ k % 2 = q) : bits .and .u32 ((B : Int) / 2 ^ k) 1 = (q : Int) := by
  have h1 : ((B : Int) / 2 ^ k) = ((B / 2 ^ k : Nat) : Int) := by rw [Int.natCast_ediv, Int.natCast_pow]; rfl
  have h2 : B / 2 ^ k ≤ B := Nat.div_le_self _ _
  have h3 := u32_and_nat (B / 2 ^ k) 1 (by omega) (by omega)
  rw [h1]
  rw [nat_mask1, hq] at h3
  exact h3
theorem byte_bit (x : UInt8) (n : Nat) : ∃ y : UInt8, y.toNat = 2 ^ (n % 8) ∧ bits .xor .u8 (x.toNat : Int) (2 ^ (n % 8) % 256) = ((x ^^^ y).toNat : Int) := by
  have h8 : 2 ^ (n % 8) < 256 := Nat.pow_lt_pow_right (a := 2) (m := n % 8) (n := 8) (by omega) (Nat.mod_lt _ (by omega))
  have hy : (UInt8.ofNat (2 ^ (n % 8))).toNat = 2 ^ (n % 8) := u8_nat h8
  refine ⟨UInt8.ofNat (2 ^ (n % 8)), hy, ?_⟩
  have h1 : ((2 : Int) ^ (n % 8) % 256) = ((2 ^ (n % 8) : Nat) : Int) := by
    have e : ((2 : Int) ^ (n % 8)) = ((2 ^ (n % 8) : Nat) : Int) := by rw [Int.natCast_pow]; rfl
    rw [e]
    omega
  have hx8 := x.toNat_lt
  rw [h1, u8_xor_nat _ _ (by omega) h8, UInt8.toNat_xor, hy]
theorem sum_not (a b : List UInt8) (h : ¬ dv (~~~ 0#32) a = dv (~~~ 0#32) b) : ¬ uv (sumOf a) = uv (sumOf b) := fun e => h (not_inj (uv_inj e))

set_option maxHeartbeats 8000000 in
set_option maxRecDepth 1000000 in
theorem turned_any (w : World) (vb : Value) (l : List UInt8) (at_ bits_ : Int) (hl : InAt w w.heap.size vb l) (hat : (Lit.int .u32 at_).wf = true) (hbt : (Lit.int .u32 bits_).wf = true) :
    Calls Try.prog 5 #[vb, .int .u32 at_, .int .u32 bits_] w fun e w' => e = .returned (.bool true) ∧ Below w.heap.size w w' := by
  have ab := bounds_u32 hat
  have bb := bounds_u32 hbt
  clear hat hbt
  have kA := alive_any w
  have hl0 := hl
  obtain ⟨ao, cap, rfl, hlc, hcm, -⟩ := hl
  unfold maxLen at hcm
  by_cases hlong : 100000 < l.length ∨ l.length = 0
  · clear hl0
    by_cases h1 : 100000 < l.length
    · have i1 : (100000 : Int) < (l.length : Int) := by omega
      go_enter Try.func5, Try.ntmps5
      go_wp2_with fail
      refine kA.mono ?_
      rintro e w1 ⟨rfl, b1⟩
      clear kA
      go_wp2_with fail
      refine (alive_any _).mono ?_
      rintro e w2 ⟨rfl, b2⟩
      have b3 := b1.trans (b2.mono b1.size)
      go_wp2
      go_ret
      exact ⟨rfl, b3⟩
    · obtain rfl : l = [] := List.eq_nil_of_length_eq_zero (by omega)
      go_enter Try.func5, Try.ntmps5
      go_wp2_with fail
      refine kA.mono ?_
      rintro e w1 ⟨rfl, b1⟩
      clear kA
      go_wp2_with fail
      refine (alive_any _).mono ?_
      rintro e w2 ⟨rfl, b2⟩
      have b3 := b1.trans (b2.mono b1.size)
      go_wp2
      go_ret
      exact ⟨rfl, b3⟩
  have i1 : ¬ (100000 : Int) < (l.length : Int) := by omega
  have i2 : 0 < (l.length : Int) := by omega
  have n1 : decide ((100000 : Int) < (l.length : Int)) = false := by simpa using i1
  have n2 : ((l.length : Int) == 0) = false := by rw [beq_eq_false_iff_ne]; omega
  obtain ⟨frm, e1, hfrm⟩ : ∃ frm : Nat, wrap64 (at_ % (8 * (l.length : Int))) = (frm : Int) ∧ frm < 8 * l.length := by
    have q1 := Int.emod_nonneg at_ (b := 8 * (l.length : Int)) (by omega)
    have q2 := Int.emod_lt_of_pos at_ (b := 8 * (l.length : Int)) (by omega)
    refine ⟨(at_ % (8 * (l.length : Int))).toNat, ?_, by omega⟩
    rw [show wrap64 (at_ % (8 * (l.length : Int))) = at_ % (8 * (l.length : Int)) from by unfold wrap64; omega]
    omega
  obtain ⟨B, e2, hB, hB32⟩ : ∃ B : Nat, bits .or .u32 bits_ 1 = (B : Int) ∧ B % 2 = 1 ∧ B < 4294967296 := by
    obtain ⟨n, rfl⟩ := Int.eq_ofNat_of_zero_le bb.1
    refine ⟨n ||| 1, u32_or_nat n 1 (by omega) (by omega), ?_, Nat.or_lt_two_pow (n := 32) (by omega) (by omega)⟩
    have : (n ||| 1).testBit 0 = true := by rw [Nat.testBit_or]; simp
    rw [Nat.testBit_zero] at this
    exact of_decide_eq_true this
  obtain ⟨i0, hi, hz0, hz1, hz2⟩ := info_parts info_u8
  have kO := fun W (hW : Below w.heap.size w W) => of_any W _ _ l (hl0.below hW (Nat.le_refl _)) hW.size
  have kC := fun W v c (hW : InAt W W.heap.size v c) => of_any W _ v c hW (Nat.le_refl _)
  go_enter Try.func5, Try.ntmps5
  go_wp2_with fail
  refine kA.mono ?_
  rintro e w2 ⟨rfl, b2⟩
  clear kA
  have s2 := src_in (hl0.below b2 (Nat.le_refl _))
  have z2 := b2.size
  go_wp2_with (at_builtin; refine wpList_append_own_src _ rfl (.const (.slice none 0 0)) (.tmp 23) 22 22 rfl w.heap.size 5 i0 (.int .u8 0) 1 1 Try.underlying22 hi hz0 hz1 hz2 rfl (by decide) (.slice none 0 0) 0 [] rfl (World.ownsRow_nil _ _ _ _) (.slice ao l.length cap) l.length (bcells l) rfl s2 (by unfold maxLen; omega) (by omega) z2 ?_; refine fun v3 w3 o3 g3 _ => ?_; have b3 := grown_below b2 g3 z2 (BsAt.nil w2 w.heap.size); have O3 : BsAt w3 w.heap.size v3 l := BsAt.app (a := []) o3; have z3 := b3.size; clear s2 o3 g3)
  obtain ⟨g, cap3, rfl, hg, hc3, hm3⟩ := O3.shape (by omega)
  unfold maxLen at hm3
  have R0 : dv (~~~ 0#32) l = dv (~~~ 0#32) l ^^^ mvN (8 * l.length - frm) (BitVec.ofNat 32 (B % 2 ^ 0)) := by
    rw [Nat.pow_zero, Nat.mod_one, mvN_zero, BitVec.xor_zero]
  go_loopw [9] (fun i wr => ∃ k : Nat, k ≤ 32 ∧ frm + k ≤ 8 * l.length ∧ i = .int .i64 k ∧ ∃ c : List UInt8, c.length = l.length ∧ BsAt wr w.heap.size (.slice (some ⟨g, 0, none⟩) l.length cap3) c ∧ dv (~~~ 0#32) c = dv (~~~ 0#32) l ^^^ mvN (8 * l.length - frm) (BitVec.ofNat 32 (B % 2 ^ k)) ∧ Below w.heap.size w wr) (fun i _ => 32 - (intOf i).toNat)
  case atStart => exact ⟨0, by omega, by omega, rfl, l, rfl, O3, R0, b3⟩
  case round =>
    clear R0 O3 b3 z3 b2 z2
    obtain ⟨k, hk, hfk, rfl, c, hcl, hO, hR, hb⟩ := hrel
    by_cases hk32 : k < 32 ∧ frm + k < 8 * l.length
    · obtain ⟨hk1, hk2⟩ := hk32
      have j1 : (k : Int) < 32 := by omega
      have j2 : (frm : Int) + (k : Int) < 8 * (l.length : Int) := by omega
      have hix : (frm + k) / 8 < c.length := by omega
      obtain ⟨p0, p1⟩ := hO.cell hix
      generalize hx : c[(frm + k) / 8] = x at *
      have bn := fun q => bit_of (k := k) (q := q) hB32
      rcases (show B / 2 ^ k % 2 = 1 ∨ B / 2 ^ k % 2 = 0 by omega) with hbit | hbit
      · have hA : bits .and .u32 ((B : Int) / 2 ^ k) 1 = 1 := bn 1 hbit
        obtain ⟨y, hy, hX⟩ := byte_bit x (frm + k)
        have hO2 := hO.set hix (x ^^^ y)
        have hR2 := turn_step hcl hk1 hk2 hR y hy hbit hix
        rw [hx] at hR2
        generalize x ^^^ y = xy at *
        have hb2 := hb.setCell (p := ⟨g, (frm + k) / 8, none⟩) hg (.int .u8 (xy.toNat : Int))
        clear hO hR hb bn
        go_wp2
        go_roundw
        case rel => exact ⟨k + 1, by omega, by omega, by go_num, _, by rw [List.length_set]; exact hcl, hO2, hR2, hb2⟩
        case measure => simp [intOf]; omega
      · have hA : bits .and .u32 ((B : Int) / 2 ^ k) 1 = 0 := bn 0 hbit
        have hR2 := hR
        rw [← turn_skip hbit] at hR2
        clear bn p0 p1 hR
        go_wp2
        go_roundw
        case rel => exact ⟨k + 1, by omega, by omega, by go_num, c, hcl, hO, hR2, hb⟩
        case measure => simp [intOf]; omega
    · have hne := sum_not c l (turn_end (by omega) (by omega) hB hR)
      have n3 : (uv (sumOf c) != uv (sumOf l)) = true := by rw [bne_iff_ne]; exact hne
      have kc := kC wr _ c hO.in
      clear kC hR hO hne
      generalize uv (sumOf c) = s1 at *
      generalize uv (sumOf l) = s2 at *
      have hend : (k : Int) < 32 → ¬ ((frm : Int) + (k : Int) < 8 * (l.length : Int)) := fun h => by omega
      by_cases hk3 : k < 32
      · have j1 : (k : Int) < 32 := by omega
        have j2 : ¬ ((frm : Int) + (k : Int) < 8 * (l.length : Int)) := by omega
        clear hend
        go_wp2_with fail
        refine kc.mono ?_
        rintro e w4 ⟨rfl, h⟩
        have b4 := hb.trans (h.mono hb.size)
        clear h kc
        go_wp2_with fail
        refine (kO w4 b4).mono ?_
        rintro e w5 ⟨rfl, h⟩
        have b5 := b4.trans (h.mono b4.size)
        clear h kO
        go_wp2
        go_ret
        exact ⟨rfl, b5⟩
      · have j1 : ¬ (k : Int) < 32 := by omega
        clear hend
        go_wp2_with fail
        refine kc.mono ?_
        rintro e w4 ⟨rfl, h⟩
        have b4 := hb.trans (h.mono hb.size)
        clear h kc
        go_wp2_with fail
        refine (kO w4 b4).mono ?_
        rintro e w5 ⟨rfl, h⟩
        have b5 := b4.trans (h.mono b4.size)
        clear h kO
        go_wp2
        go_ret
        exact ⟨rfl, b5⟩
end Go.Proofs.Ytnnmdmodcmfelaa
