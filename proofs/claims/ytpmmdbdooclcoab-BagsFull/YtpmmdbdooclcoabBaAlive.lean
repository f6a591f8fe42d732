/- The walk of alive: some answers that the document fixes. -/
import Derived.Test.YtpmmdbdooclcoabBaTell
set_option linter.unusedSimpArgs false
set_option linter.unusedVariables false
namespace Go.Proofs.Ytpmmdbdooclcoab
open Go.RowKit

/-- A message of a number, with nothing in it. -/
def mG (say : UInt8) (g : UInt32) : MsgD := ⟨say, 0, 0, g, [], []⟩
theorem mG_at (w : World) (lim : Nat) (say : UInt8) (g : UInt32) : MsgAt w lim (.slice none 0 0) (.slice none 0 0) (mG say g) [] :=
  ⟨⟨none, 0, rfl, Nat.le_refl _, Nat.zero_le _, fun h => by simp [mG] at h⟩, (fun x hx => by cases hx), ⟨⟨none, 0, rfl, Nat.le_refl _, Nat.zero_le _, fun h => by simp at h⟩, fun p hp => by cases hp⟩, rfl⟩
theorem Add_mG {S0 : Nat → Prop} {w0 w : World} {L : List Part} (B most : Nat) (ms : List MsgO) (say : UInt8) (g : UInt32) (h : St S0 w0 w (bagP B most ms :: L)) (h0 : 0 < most) (hn : most ≤ 256) (hf : ms.length < most) :
    Calls Try.prog 7 #[ptr B, .agg #[.int .u8 (say.toNat : Int), .int .u8 0, .int .u8 0, .int .u32 (g.toNat : Int), .slice none 0 0, .slice none 0 0]] w fun e w' => e = .returned (.int .i64 0) ∧ ∃ y : MsgO, y.d = mG say g ∧ St S0 w0 w' (bagP B most (ms ++ [y]) :: L) :=
  Add_ok B most ms (.slice none 0 0) (.slice none 0 0) (mG say g) [] h (mG_at w _ say g) h0 hn hf (by simp [mG]) (by simp) (fun p hp => by cases hp)
theorem Add_mGf {S0 : Nat → Prop} {w0 w : World} {L : List Part} (B most : Nat) (ms : List MsgO) (say : UInt8) (g : UInt32) (h : St S0 w0 w (bagP B most ms :: L)) (h0 : 0 < most) (hn : most ≤ 256) (hf : most ≤ ms.length) :
    Calls Try.prog 7 #[ptr B, .agg #[.int .u8 (say.toNat : Int), .int .u8 0, .int .u8 0, .int .u32 (g.toNat : Int), .slice none 0 0, .slice none 0 0]] w fun e w' => e = .returned (.int .i64 5) ∧ St S0 w0 w' (bagP B most ms :: L) :=
  (Add_full B most ms (.slice none 0 0) (.slice none 0 0) (mG say g) [] h (mG_at w _ say g) h0 hn hf).mono (fun e w' ⟨e1, e2⟩ => ⟨e1, h.up e2⟩)
theorem ids_lit {S0 : Nat → Prop} {w0 w : World} {L : List Part} (h : St S0 w0 w L) (l : List UInt32) (hl : l.length ≤ 1000) : St S0 w0 (w.alloc (.cells (l.flatMap idCell).toArray 23)) (Part.row 23 1 (.slice (some ⟨w.heap.size, 0, none⟩) l.length l.length) l.length (l.flatMap idCell) :: L) := by
  have ho := lit_own w 23 1 idCell_len l (by unfold maxLen; omega) (flat_lenB idCell_len l)
  exact h.and (St.row_new ho (below_one _ _))
theorem is_lit {S0 : Nat → Prop} {w0 w : World} {L : List Part} (B most : Nat) (ms : List MsgO) (h : St S0 w0 w (bagP B most ms :: L)) (h0 : 0 < most) (hn : most ≤ 256) (hl : ms.length ≤ most) (l : List UInt32) (hi : idsOf ms = l) (k : Nat) (hk : l.length = k) :
    Calls Try.prog 13 #[ptr B, .slice (some ⟨w.heap.size, 0, none⟩) k k] (w.alloc (.cells (l.flatMap idCell).toArray 23)) fun e w' => e = .returned (.bool true) ∧ St S0 w0 w' (bagP B most ms :: L) := by
  have hl2 : l.length ≤ 256 := by rw [← hi]; simp [idsOf]; omega
  have s := (ids_lit h l (by omega)).swap
  subst hk
  refine (is_ok B most ms s h0 hn hl _ _ _ [] (fun w' hw => ?_)).mono (fun e w' ⟨e1, e2⟩ => ⟨e1, e2.swap.drop⟩)
  rw [hi]
  exact sl_own idCell_len (hw.pick 1 rfl).row
set_option maxHeartbeats 4000000 in
set_option maxRecDepth 1000000 in
theorem alive_ok (w : World) : Calls Try.prog 4 #[] w fun e w' => e = .returned (.bool true) ∧ Below w.heap.size w w' := by
  have k1 := New_ok w 3 (by omega) (by omega)
  have k2 : Hid (∀ W, Calls Try.prog 6 #[.int .i64 257] W fun e w' => e = .returned (.tuple #[.pointer none, .int .i64 1]) ∧ W = w') := fun W => New_bad W 257 (by omega)
  obtain ⟨B, hB⟩ : ∃ B, B = w.heap.size := ⟨_, rfl⟩
  rw [← hB] at k1
  have HB : Hid (B = w.heap.size) := hB
  clear hB
  go_enter Try.func4, Try.ntmps4
  go_wp2_with fail
  refine k1.mono ?_
  rintro e w1 ⟨rfl, s1⟩
  have k3 := k2.out w1
  have S1 : Hid _ := s1
  clear k1 k2 s1
  go_wp2_with fail
  refine k3.mono ?_
  rintro e w' ⟨rfl, ew⟩
  rw [← ew]
  clear ew w' k3
  have k4 := Add_mG B 3 [] 0 1 S1.out (by omega) (by omega) (by simp)
  clear S1
  go_wp2_with fail
  refine k4.mono ?_
  rintro e w2 ⟨rfl, y1, hy1, s2⟩
  have k5 := Add_mG B 3 ([] ++ [y1]) 0 2 s2 (by omega) (by omega) (by simp)
  clear k4 s2
  go_wp2_with fail
  refine k5.mono ?_
  rintro e w3 ⟨rfl, y2, hy2, s3⟩
  have k6 := Copy_ok B 3 (([] ++ [y1]) ++ [y2]) 0 y1 rfl (by simp) s3 (by omega) (by omega) (by simp)
  clear k5 s3
  go_wp2_with fail
  refine k6.mono ?_
  rintro e w4 ⟨rfl, y3, hy3, s4⟩
  have S4 : Hid (St noB w w4 [bagP B 3 [y1, y2, y3]]) := s4
  have k7 := is_lit B 3 [y1, y2, y3] s4 (by omega) (by omega) (by simp) [1, 2, 1] (by simp [idsOf, hy1, hy2, hy3, mG]) 3 rfl
  have HY : Hid (y1.d = mG 0 1 ∧ y2.d = mG 0 2 ∧ y3.d = y1.d) := ⟨hy1, hy2, hy3⟩
  clear k6 s4 hy1 hy2 hy3
  go_wp2_with fail
  refine k7.mono ?_
  rintro e w5 ⟨rfl, s5⟩
  have S5 : Hid (St noB w w5 [bagP B 3 [y1, y2, y3]]) := s5
  have k8 := Copy_full B 3 [y1, y2, y3] 0 y1 rfl (by simp) s5 (by omega) (by omega) (by simp)
  clear k7 s5 S4
  go_wp2_with fail
  refine k8.mono ?_
  rintro e w6 ⟨rfl, b6⟩
  have k9 := Add_mGf B 3 [y1, y2, y3] 0 3 (S5.out.up b6) (by omega) (by omega) (by simp)
  clear k8 b6 S5
  go_wp2_with fail
  refine k9.mono ?_
  rintro e w7 ⟨rfl, s7⟩
  obtain ⟨⟨a1, n1, d1, e1⟩, a2, n2, d2, e2⟩ := MsgO.slices_of (bag_mem s7 (x := y2) (by simp)).2
  have k10 := Take_ok B 3 [y1, y2, y3] 1 y2 rfl s7 (by omega) (by omega) (by simp)
  have hv : y2.v = .agg #[.int .u8 0, .int .u8 0, .int .u8 0, .int .u32 2, .slice a1 n1 d1, .slice a2 n2 d2] := by show msgV _ _ _ = _; rw [e1, e2, HY.out.2.1]; rfl
  rw [hv] at k10
  clear k9 s7 e1 e2 hv
  go_wp2_with fail
  refine k10.mono ?_
  rintro e w8 ⟨rfl, s8⟩
  have s9 := s8.alloc (.cells #[.int .u8 0, .int .u8 0, .int .u8 0, .int .u32 2, .slice a1 n1 d1, .slice a2 n2 d2] 27)
  have S9 : Hid (St noB w (w8.alloc (.cells #[.int .u8 0, .int .u8 0, .int .u8 0, .int .u32 2, .slice a1 n1 d1, .slice a2 n2 d2] 27)) [Part.blk w8.heap.size (.cells #[.int .u8 0, .int .u8 0, .int .u8 0, .int .u32 2, .slice a1 n1 d1, .slice a2 n2 d2] 27 (0, 0)), bagP B 3 [y1, y3], y2.part]) := s9
  have k11 := Take_bad B 3 [y1, y3] 2 (.inr (by simp)) (S9.out.pick 1 rfl) (by omega) (by omega) (by simp)
  clear k10 s8 s9
  go_wp2_with fail
  refine k11.mono ?_
  rintro e w9 ⟨rfl, b9⟩
  have s10 := (S9.out.up b9).alloc (.cells #[.int .u8 0, .int .u8 0, .int .u8 0, .int .u32 0, .slice none 0 0, .slice none 0 0] 27)
  have c3 := (six_cells (s10.pick 1 rfl).blk.1).2.2.2.1
  have hids : idsOf [y1, y3] = [1, 1] := by simp [idsOf, HY.out.1, HY.out.2.2, mG]
  have k12 := is_lit B 3 [y1, y3] (s10.pick 2 rfl) (by omega) (by omega) (by simp) [1, 1] hids 2 rfl
  rw [show (w9.alloc (.cells #[.int .u8 0, .int .u8 0, .int .u8 0, .int .u32 0, .slice none 0 0, .slice none 0 0] 27)).heap.size = w9.heap.size + 1 by simp] at k12
  clear k11 b9 S9 s10
  go_wp2_with fail
  refine k12.mono ?_
  rintro e w10 ⟨rfl, s11⟩
  have S11 : Hid (Below w.heap.size w w10) := s11.below
  have k13 := Copy_bad B 3 [y1, y3] (-1) (.inl (by omega)) s11 (by omega) (by omega) (by simp)
  clear k12 s11 c3 hids
  go_wp2_with fail
  refine k13.mono ?_
  rintro e w11 ⟨rfl, b11⟩
  have B11 := S11.out.trans (b11.mono S11.out.size)
  clear k13 b11 S11
  go_wp2
  go_ret
  exact ⟨rfl, B11⟩
end Go.Proofs.Ytpmmdbdooclcoab
