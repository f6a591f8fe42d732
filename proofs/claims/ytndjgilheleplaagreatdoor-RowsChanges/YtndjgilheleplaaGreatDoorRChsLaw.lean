/- The walk of RowsChanges. -/
import Derived.Test.YtndjgilheleplaaGreatDoorRBiChs
import Derived.Test.YtndjgilheleplaaGreatDoorRTwChange
import Derived.Test.YtndjgilheleplaaGreatDoorRTwByte
import Derived.Test.YtndjgilheleplaaGreatDoorRSameB
import Derived.Test.YtndjgilheleplaaGreatDoorRSameC
import Derived.Test.YtndjgilheleplaaGreatDoorRRefCh
import Derived.Test.YtndjgilheleplaaGreatDoorRRgCh
set_option linter.unusedSimpArgs false
set_option linter.unusedVariables false
namespace Go.Proofs.YtndjgilheleplaaGreatDoor
open Go.RowKit

theorem sm_of_szChs {x : ChD} (h : chSz x) : chSm x := by
  unfold chSz at h
  unfold chSm maxLen
  omega
theorem ld_two {v l1 l2 : Value} {n1 n2 k1 k2 b : Nat} (h : LD ([] ++ [Ent.mk l1 v n1 k1] ++ [Ent.mk l2 v n2 k2]) b) : l1.ownBlock = some b ∨ l2.ownBlock = some b := by
  obtain ⟨x, hx, h⟩ := h
  simp at hx
  rcases hx with rfl | rfl
  · exact .inl h
  · exact .inr h
theorem ld_one {v l1 : Value} {n1 k1 b : Nat} (h : LD ([] ++ [Ent.mk l1 v n1 k1]) b) : l1.ownBlock = some b := by
  obtain ⟨x, hx, h⟩ := h
  simp at hx
  subst hx
  exact h
theorem ld_no {b : Nat} (h : LD [] b) : False := by
  obtain ⟨x, hx, h⟩ := h
  cases hx
theorem getChs_few (bs : List UInt8) : (getChs bs).1.length ≤ 1000000000 := by
  rcases getChs_two bs with ⟨l, h, -, h2, -⟩ | h
  · rw [h]; show l.length ≤ _; omega
  · rw [h]; show 0 ≤ _; omega
theorem putChs_few (l : List ChD) (hsm : ∀ x ∈ l, chSm x) (hn : l.length ≤ 100000) : (putChs l).1.length ≤ 1000000000 := by
  unfold putChs
  by_cases h : l.all chOk = true
  · rw [if_pos h]
    by_cases h2 : l.length ≤ 4096
    · rw [if_pos h2]
      have := putChs_len h
      show (encList encCh l).length ≤ _
      unfold encList
      rw [List.length_append, be2_len]
      omega
    · rw [if_neg h2]; show 0 ≤ _; omega
  · rw [if_neg h]; show 0 ≤ _; omega

set_option maxHeartbeats 8000000 in
set_option maxRecDepth 1000000 in
theorem rowschanges_walk (w : World) (vl vb : Value) (l : List ChD) (bs : List UInt8) (hl : SlAt 3 chCells w w.heap.size vl l) (hz : ∀ x ∈ l, chSz x) (hb : InAt w w.heap.size vb bs) (htab : Tab w) :
    Calls Tryz.prog 5 #[vl, vb] w fun e w' => e = .returned (.bool true) ∧ Below w.heap.size w w' := by
  have hsm : ∀ x ∈ l, chSm x := fun x h => sm_of_szChs (hz x h)
  have HL : Hid (SlAt 3 chCells w w.heap.size vl l) := hl
  have HB : Hid (InAt w w.heap.size vb bs) := hb
  have HT : Hid (Tab w) := htab
  have HS : Hid (∀ x ∈ l, chSm x) := hsm
  have kS : ∀ W, Below w.heap.size w W → Calls Tryz.prog 31 #[vl] W fun e w' => (∃ z : Int, e = .returned (.int .i64 z) ∧ (l.length : Int) ≤ z) ∧ ∃ n, w' = W.drewN n := fun W hW => sizeChange_any W w.heap.size vl l (hl.below hW (Nat.le_refl _)) hz
  obtain ⟨ao0, ca0, rfl, hlc, hlm, -⟩ := id hl
  obtain ⟨ab0, cb0, rfl, hbc, hbm, -⟩ := id hb
  unfold maxLen at hlm hbm
  clear hl hb htab hz hsm
  have B0 : Below w.heap.size w w := Below.refl _ _
  go_enter Tryz.func5, Tryz.ntmps5
  by_cases h5 : 5000 < l.length
  · go_wp2
    go_ret
    exact ⟨rfl, Below.refl _ _⟩
  go_wp2_with fail
  refine (kS w B0).mono ?_
  rintro e w1 ⟨⟨z, rfl, hz⟩, n1, rfl⟩
  obtain ⟨W1, hW1⟩ : ∃ W1, W1 = w.drewN n1 := ⟨_, rfl⟩
  have b1 : Below w.heap.size w W1 := by rw [hW1]; exact below_drewN w n1
  rw [← hW1]
  clear hW1 kS
  have B1 : Below w.heap.size w W1 := B0.trans (b1.mono B0.size)
  clear b1 B0
  by_cases hz3 : 100000 < z
  · clear HL HB HT HS
    go_wp2
    go_ret
    exact ⟨rfl, B1⟩
  by_cases hb7 : 70000 < bs.length
  · clear HL HB HT HS
    have hb8 : (70000 : Int) < (bs.length : Int) := by omega
    go_wp2
    go_ret
    exact ⟨rfl, B1⟩
  have hb8 : ¬ (70000 : Int) < (bs.length : Int) := by omega
  have hln : l.length ≤ 100000 := by omega
  clear hz
  go_wp2_with fail
  refine (twinChange_any W1 _ l ((HL.out.below B1 (Nat.le_refl _)).mono B1.size) (by omega)).mono ?_
  rintro e W2 ⟨rfl, t1, b2⟩
  have T1 : Hid _ := t1
  have z1 : Hid (w.heap.size ≤ W1.heap.size) := B1.size
  have L1' : Hid (W1.heap.size < W2.heap.size) := (t1.lt _ rfl).2
  clear t1
  have B2 : Below w.heap.size w W2 := B1.trans (b2.mono B1.size)
  clear b2 B1
  go_wp2_with fail
  refine (twinByte_any W2 _ bs ((HB.out.below B2 (Nat.le_refl _)).mono B2.size) (by omega)).mono ?_
  rintro e W3 ⟨rfl, t2, b3⟩
  have T2 : Hid _ := t2
  have L1 : Hid (W1.heap.size < W2.heap.size) := L1'
  have L2 : Hid (W2.heap.size < W3.heap.size) := (t2.lt _ rfl).2
  clear t2
  have B3 : Below w.heap.size w W3 := B2.trans (b3.mono B2.size)
  replace T1 : Hid _ := own_below T1.out b3
  clear b3 B2
  obtain ⟨R, hR⟩ : ∃ R, putChs l = R := ⟨_, rfl⟩
  obtain ⟨S, hS⟩ : ∃ S, getChs bs = S := ⟨_, rfl⟩
  have kP : ∀ W v, SlAt 3 chCells W W.heap.size v l → Calls Tryz.prog 33 #[v] W fun e w' => ∃ v, e = .returned (.tuple #[v, .int .i64 (R.2 : Int)]) ∧ BsAt w' W.heap.size v R.1 ∧ Below W.heap.size W w' := fun W v h => by rw [← hR]; exact PutChanges_any W v l h HS.out
  have kQ : ∀ W v, SlAt 3 chCells W W.heap.size v l → Calls Tryz.prog 35 #[v] W fun e w' => ∃ v, e = .returned (.tuple #[v, .int .i64 (R.2 : Int)]) ∧ BsAt w' W.heap.size v R.1 ∧ Below W.heap.size W w' := fun W v h => by rw [← hR]; exact refPutChanges_any W v l h HS.out
  have kG : ∀ W v, InAt W W.heap.size v bs → Calls Tryz.prog 34 #[v] W fun e w' => ∃ v, e = .returned (.tuple #[v, .int .i64 (S.2 : Int)]) ∧ w'.ownsRow W.heap.size 124 3 v S.1.length (S.1.flatMap chCells) ∧ Below W.heap.size W w' := fun W v h => by rw [← hS]; exact GetChanges_any W v bs h
  have kH : ∀ W v, InAt W W.heap.size v bs → Calls Tryz.prog 36 #[v] W fun e w' => ∃ v, e = .returned (.tuple #[v, .int .i64 (S.2 : Int)]) ∧ w'.ownsRow W.heap.size 124 3 v S.1.length (S.1.flatMap chCells) ∧ Below W.heap.size W w' := fun W v h => by rw [← hS]; exact refGetChanges_any W v bs h
  have hS9 : Hid (S.1.length ≤ 1000000000) := by show _ ≤ _; rw [← hS]; exact getChs_few bs
  have hR9 : Hid (R.1.length ≤ 1000000000) := by show _ ≤ _; rw [← hR]; exact putChs_few l HS.out hln
  clear hR hS
  obtain ⟨R1, R2⟩ := R
  obtain ⟨S1, S2⟩ := S
  simp only at kP kQ kG kH hS9 hR9
  go_wp2_with fail
  refine (kP W3 _ (sl_own chCells_len (twin_own chCells_len T1.out))).mono ?_
  rintro e W4 ⟨v4, rfl, p4, b4⟩
  obtain ⟨a4, c4, rfl⟩ := own_len p4
  have P1 : Hid _ := p4
  have PB : Hid _ := p4.lt
  have L3 : Hid (W3.heap.size ≤ W4.heap.size) := b4.size
  clear p4 kP
  have B4 : Below w.heap.size w W4 := B3.trans (b4.mono B3.size)
  replace T1 : Hid _ := own_below T1.out b4
  replace T2 : Hid _ := own_below T2.out b4
  clear b4 B3
  go_wp2_with fail
  refine (kG W4 _ (sl_own (fun _ => rfl) (twin_own (fun _ => rfl) T2.out))).mono ?_
  rintro e W5 ⟨v5, rfl, q5, b5⟩
  obtain ⟨a5, c5, rfl⟩ := own_len q5
  have Q1 : Hid _ := q5
  have QB : Hid _ := q5.lt
  have L4 : Hid (W4.heap.size ≤ W5.heap.size) := b5.size
  clear q5 kG
  have B5 : Below w.heap.size w W5 := B4.trans (b5.mono B4.size)
  replace T1 : Hid _ := own_below T1.out b5
  replace T2 : Hid _ := own_below T2.out b5
  replace P1 : Hid _ := own_below P1.out b5
  clear b5 B4
  go_wp2_with fail
  refine (kQ W5 _ ((HL.out.below B5 (Nat.le_refl _)).mono B5.size)).mono ?_
  rintro e W6 ⟨v6, rfl, p6, b6⟩
  obtain ⟨a6, c6, rfl⟩ := own_len p6
  have P2 : Hid _ := p6
  have L5 : Hid (W5.heap.size ≤ W6.heap.size) := b6.size
  clear p6 kQ
  have B6 : Below w.heap.size w W6 := B5.trans (b6.mono B5.size)
  replace T1 : Hid _ := own_below T1.out b6
  replace T2 : Hid _ := own_below T2.out b6
  replace P1 : Hid _ := own_below P1.out b6
  replace Q1 : Hid _ := own_below Q1.out b6
  clear b6 B5
  go_wp2_with fail
  refine (kH W6 _ ((HB.out.below B6 (Nat.le_refl _)).mono B6.size)).mono ?_
  rintro e W7 ⟨v7, rfl, q7, b7⟩
  obtain ⟨a7, c7, rfl⟩ := own_len q7
  have Q2 : Hid _ := q7
  have Z7 : Hid (W5.heap.size ≤ W7.heap.size) := Nat.le_trans L5.out b7.size
  clear q7 kH L5
  have B7 : Below w.heap.size w W7 := B6.trans (b7.mono B6.size)
  replace T1 : Hid _ := own_below T1.out b7
  replace T2 : Hid _ := own_below T2.out b7
  replace P1 : Hid _ := own_below P1.out b7
  replace P2 : Hid _ := own_below P2.out b7
  replace Q1 : Hid _ := own_below Q1.out b7
  clear b7 B6
  go_wp2_with fail
  refine (sameBytes_any W7 _ _ _ _ R1 (in_own P1.out) (in_own P2.out)).mono ?_
  rintro e w8 ⟨rfl, n8, rfl⟩
  obtain ⟨W8, hW8⟩ : ∃ W8, W8 = W7.drewN n8 := ⟨_, rfl⟩
  have b8 : Below W7.heap.size W7 W8 := by rw [hW8]; exact below_drewN W7 n8
  rw [← hW8]
  clear hW8
  have Z8 : Hid (W5.heap.size ≤ W8.heap.size) := Nat.le_trans Z7.out b8.size
  clear Z7
  have B8 : Below w.heap.size w W8 := B7.trans (b8.mono B7.size)
  replace T1 : Hid _ := own_below T1.out b8
  replace T2 : Hid _ := own_below T2.out b8
  replace P1 : Hid _ := own_below P1.out b8
  replace P2 : Hid _ := own_below P2.out b8
  replace Q1 : Hid _ := own_below Q1.out b8
  replace Q2 : Hid _ := own_below Q2.out b8
  clear b8 B7
  go_wp2_with fail
  refine (sameChs_any W8 _ _ _ _ S1 (sl_own chCells_len Q1.out) (sl_own chCells_len Q2.out)).mono ?_
  rintro e w9 ⟨rfl, n9, rfl⟩
  obtain ⟨W9, hW9⟩ : ∃ W9, W9 = W8.drewN n9 := ⟨_, rfl⟩
  have b9 : Below W8.heap.size W8 W9 := by rw [hW9]; exact below_drewN W8 n9
  rw [← hW9]
  clear hW9
  have Z9 : Hid (W5.heap.size ≤ W9.heap.size) := Nat.le_trans Z8.out b9.size
  clear Z8
  have B9 : Below w.heap.size w W9 := B8.trans (b9.mono B8.size)
  replace T1 : Hid _ := own_below T1.out b9
  replace T2 : Hid _ := own_below T2.out b9
  replace P1 : Hid _ := own_below P1.out b9
  replace P2 : Hid _ := own_below P2.out b9
  replace Q1 : Hid _ := own_below Q1.out b9
  replace Q2 : Hid _ := own_below Q2.out b9
  clear b9 B8
  go_wp2_with fail
  refine (leftChange_any W9 _ _ _ _ _ l T1.out (HL.out.below B9 (Nat.le_refl _))).mono ?_
  rintro e W10 ⟨rfl, b10⟩
  have Z10 : Hid (W5.heap.size ≤ W10.heap.size) := Nat.le_trans Z9.out b10.size
  clear Z9
  have B10 : Below w.heap.size w W10 := B9.trans (b10.mono B9.size)
  replace T1 : Hid _ := own_below T1.out b10
  replace T2 : Hid _ := own_below T2.out b10
  replace P1 : Hid _ := own_below P1.out b10
  replace P2 : Hid _ := own_below P2.out b10
  replace Q1 : Hid _ := own_below Q1.out b10
  replace Q2 : Hid _ := own_below Q2.out b10
  clear b10 B9
  go_wp2_with fail
  refine (leftByte_any W10 _ _ _ _ _ bs T2.out (HB.out.below B10 (Nat.le_refl _))).mono ?_
  rintro e W11 ⟨rfl, b11⟩
  have Z11 : Hid (W5.heap.size ≤ W11.heap.size) := Nat.le_trans Z10.out b11.size
  clear Z10
  have B11 : Below w.heap.size w W11 := B10.trans (b11.mono B10.size)
  replace T1 : Hid _ := own_below T1.out b11
  replace T2 : Hid _ := own_below T2.out b11
  replace P1 : Hid _ := own_below P1.out b11
  replace P2 : Hid _ := own_below P2.out b11
  replace Q1 : Hid _ := own_below Q1.out b11
  replace Q2 : Hid _ := own_below Q2.out b11
  clear b11 B10
  have I0 : Hid _ := BkChs.new W11
  have b12 := below_one W11 (.cells #[.int .i64 0, .slice none 0 0, .slice none 0 0, .slice none 0 0, .slice none 0 0, .slice none 0 0, .slice none 0 0, .slice none 0 0, .slice none 0 0, .slice none 0 0, .slice none 0 0, .slice none 0 0, .slice none 0 0] 52)
  clear P2 Q2
  go_wp2_with fail
  generalize hW12 : W11.alloc (.cells #[.int .i64 0, .slice none 0 0, .slice none 0 0, .slice none 0 0, .slice none 0 0, .slice none 0 0, .slice none 0 0, .slice none 0 0, .slice none 0 0, .slice none 0 0, .slice none 0 0, .slice none 0 0, .slice none 0 0] 52) = W12 at I0 b12 ⊢
  clear hW12
  have K0 : Hid (W5.heap.size ≤ W11.heap.size) := Z11.out
  have Z12 : Hid (W5.heap.size ≤ W12.heap.size) := Nat.le_trans Z11.out b12.size
  have B12 : Below w.heap.size w W12 := B11.trans (b12.mono B11.size)
  replace T1 : Hid _ := own_below T1.out b12
  replace T2 : Hid _ := own_below T2.out b12
  replace P1 : Hid _ := own_below P1.out b12
  replace Q1 : Hid _ := own_below Q1.out b12
  clear b12 B11
  go_wp2_with fail
  refine (keepChsChange I0.out (by omega) (own_mono (twin_own chCells_len T1.out) (Nat.zero_le _)) (by omega) (fun b hb => by simp only [Value.ownBlock, Option.some.injEq] at hb; have := L1.out; have := L2.out; have := L3.out; have := L4.out; have := K0.out; exact ⟨by omega, fun h => ld_no h, fun h => ld_no h⟩)).mono ?_
  rintro e W13 ⟨rfl, u13, i13, b13⟩
  have I1 : Hid _ := i13
  have B13 : Below w.heap.size w W13 := B12.trans (b13.below B12.size (fun k hk hd => by have := z1.out; have := L1.out; have := L2.out; have := L3.out; have := L4.out; have := K0.out; omega))
  replace T2 : Hid _ := own_wrote T2.out b13 (fun b hb hd => by simp only [Value.ownBlock, Option.some.injEq] at hb; have := L1.out; have := L2.out; have := L3.out; have := L4.out; have := K0.out; omega)
  replace P1 : Hid _ := own_wrote P1.out b13 (fun b hb hd => by have := PB.out b hb; have := L1.out; have := L2.out; have := L3.out; have := L4.out; have := K0.out; omega)
  replace Q1 : Hid _ := own_wrote Q1.out b13 (fun b hb hd => by have := QB.out b hb; have := L1.out; have := L2.out; have := L3.out; have := L4.out; have := K0.out; omega)
  clear i13 b13 B12 I0
  go_wp2_with fail
  refine (keepChsByte I1.out (by omega) (own_mono (twin_own (fun _ => rfl) T2.out) (Nat.zero_le _)) (by omega) (fun b hb => by simp only [Value.ownBlock, Option.some.injEq] at hb; have := L1.out; have := L2.out; have := L3.out; have := L4.out; have := K0.out; exact ⟨by omega, fun h => ld_no h, fun h => by have h := ld_one h; simp only [Value.ownBlock, Option.some.injEq] at h; omega⟩)).mono ?_
  rintro e W14 ⟨rfl, u14, i14, b14⟩
  have I2 : Hid _ := i14
  have B14 : Below w.heap.size w W14 := B13.trans (b14.below B13.size (fun k hk hd => by have := z1.out; have := L1.out; have := L2.out; have := L3.out; have := L4.out; have := K0.out; omega))
  replace P1 : Hid _ := own_wrote P1.out b14 (fun b hb hd => by have := PB.out b hb; have := L1.out; have := L2.out; have := L3.out; have := L4.out; have := K0.out; omega)
  replace Q1 : Hid _ := own_wrote Q1.out b14 (fun b hb hd => by have := QB.out b hb; have := L1.out; have := L2.out; have := L3.out; have := L4.out; have := K0.out; omega)
  clear i14 b14 B13 I1
  go_wp2_with fail
  refine (keepChsByte I2.out (by omega) (own_mono P1.out (Nat.zero_le _)) hR9.out (fun b hb => by have hb := PB.out b hb; have := L1.out; have := L2.out; have := L3.out; have := L4.out; have := K0.out; exact ⟨by omega, fun h => by have h := ld_one h; simp only [Value.ownBlock, Option.some.injEq] at h; omega, fun h => by have h := ld_one h; simp only [Value.ownBlock, Option.some.injEq] at h; omega⟩)).mono ?_
  rintro e W15 ⟨rfl, u15, i15, b15⟩
  have I3 : Hid _ := i15
  have B15 : Below w.heap.size w W15 := B14.trans (b15.below B14.size (fun k hk hd => by have := z1.out; have := L1.out; have := L2.out; have := L3.out; have := L4.out; have := K0.out; omega))
  replace Q1 : Hid _ := own_wrote Q1.out b15 (fun b hb hd => by have := QB.out b hb; have := L1.out; have := L2.out; have := L3.out; have := L4.out; have := K0.out; omega)
  clear i15 b15 B14 I2
  go_wp2_with fail
  refine (keepChsChange I3.out (by omega) (own_mono Q1.out (Nat.zero_le _)) hS9.out (fun b hb => by have hb := QB.out b hb; have := L1.out; have := L2.out; have := L3.out; have := L4.out; have := K0.out; exact ⟨by omega, fun h => by rcases ld_two h with h | h; (simp only [Value.ownBlock, Option.some.injEq] at h; omega); (have := PB.out b h; omega), fun h => by have h := ld_one h; simp only [Value.ownBlock, Option.some.injEq] at h; omega⟩)).mono ?_
  rintro e W16 ⟨rfl, u16, i16, b16⟩
  have I4 : Hid _ := i16
  have B16 : Below w.heap.size w W16 := B15.trans (b16.below B15.size (fun k hk hd => by have := z1.out; have := L1.out; have := L2.out; have := L3.out; have := L4.out; have := K0.out; omega))
  clear i16 b16 B15 I3
  go_wp2_with fail
  refine (apartChs I4.out B16 (by have := z1.out; have := L1.out; have := L2.out; have := L3.out; have := L4.out; have := K0.out; omega) (fun b h => by have := z1.out; have := L1.out; have := L2.out; have := L3.out; have := L4.out; have := K0.out; rcases ld_two h with h | h; (simp only [Value.ownBlock, Option.some.injEq] at h; omega); (have := PB.out b h; omega)) (fun b h => by have := z1.out; have := L1.out; have := L2.out; have := L3.out; have := L4.out; have := K0.out; rcases ld_two h with h | h; (simp only [Value.ownBlock, Option.some.injEq] at h; omega); (have := QB.out b h; omega)) HT.out).mono ?_
  rintro e W17 ⟨rfl, bF⟩
  go_wp2
  go_ret
  exact ⟨rfl, bF⟩
end Go.Proofs.YtndjgilheleplaaGreatDoor
