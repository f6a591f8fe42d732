import Derived.Test.YtndjgilheleplaaGreatDoorM11
/- The walk of RowsResults. -/
set_option linter.unusedSimpArgs false
set_option linter.unusedVariables false
namespace Go.Proofs.YtndjgilheleplaaGreatDoor
open Go.RowKit

set_option maxHeartbeats 8000000 in
set_option maxRecDepth 1000000 in
theorem rowsresults_walk (w : World) (vl vb : Value) (l : List ResP) (bs : List UInt8) (hl : ResAt w w.heap.size vl l) (hz : ∀ p ∈ l, resSz p) (hb : InAt w w.heap.size vb bs) (htab : Tab w) :
    Calls Tryz.prog 4 #[vl, vb] w fun e w' => e = .returned (.bool true) ∧ Below w.heap.size w w' := by
  have HL : Hid (ResAt w w.heap.size vl l) := hl
  have HB : Hid (InAt w w.heap.size vb bs) := hb
  have HT : Hid (Tab w) := htab
  have HSM : Hid (∀ p ∈ l, ∀ x ∈ p.2, rowSm x) := fun p hp => (hl.2 p hp).2
  have kS := sizeResults_any w vl l hl hz
  obtain ⟨ao0, ca0, rfl, hlc, hlm, -⟩ := id hl.1
  obtain ⟨ab0, cb0, rfl, hbc, hbm, -⟩ := id hb
  unfold maxLen at hlm hbm
  clear hl hb htab hz
  have B0 : Below w.heap.size w w := Below.refl _ _
  go_enter Tryz.func4, Tryz.ntmps4
  go_wp2_with fail
  refine kS.mono ?_
  rintro e W1 ⟨⟨z, rfl, hz1, hz2'⟩, b1⟩
  have hz2 : Hid (z ≤ 1048576 → ∀ p ∈ l, (p.2.length : Int) ≤ z) := hz2'
  have B1 : Below w.heap.size w W1 := b1
  clear kS b1 hz2' B0
  by_cases hz3 : 3000 < z
  · clear HL HB HT HSM hz2
    go_wp2
    go_ret
    exact ⟨rfl, B1⟩
  by_cases hb7 : 70000 < bs.length
  · clear HL HB HT HSM hz2
    have hb8 : (70000 : Int) < (bs.length : Int) := by omega
    go_wp2
    go_ret
    exact ⟨rfl, B1⟩
  have hb8 : ¬ (70000 : Int) < (bs.length : Int) := by omega
  have hln : l.length ≤ 3000 := by omega
  have hrl : Hid (∀ p ∈ l, p.2.length ≤ 3000) := fun p hp => by have := hz2.out (by omega) p hp; omega
  clear hz1 hz2
  go_wp2_with fail
  refine (twinResults_any W1 _ l ((HL.out.below B1 (Nat.le_refl _)).mono B1.size) (by omega) (fun p hp => by have := hrl.out p hp; omega)).mono ?_
  rintro e W2 ⟨rfl, ms, sb, hms', t1, t2, t3, t4, b2⟩
  have hms : Hid (ms.map (·.2) = l.map (·.2)) := hms'
  have hml : Hid (ms.length = l.length) := by show _ = _; have := congrArg List.length hms'; simpa using this
  have M : Hid (TwM W2 W1.heap.size l.length sb ms) := ⟨t1, t2, t4, hml.out⟩
  have MB : Hid (∀ p ∈ ms, ∀ b, p.1.ownBlock = some b → W1.heap.size < b ∧ b < W2.heap.size) := t1.lt
  have MP : Hid (ms.Pairwise (fun p q => ∀ g, p.1.ownBlock = some g → q.1.ownBlock ≠ some g)) := t1.pair
  have MS : Hid (∀ p ∈ ms, ∀ x ∈ p.2, rowSm x) := fun p hp x hx => by
    obtain ⟨q, hq, e⟩ := mem_snd hms' hp
    exact HSM.out q hq x (by rw [e]; exact hx)
  have MR : Hid (∀ p ∈ ms, p.2.length ≤ 3000) := fun p hp => by
    obtain ⟨q, hq, e⟩ := mem_snd hms' hp
    rw [← e]; exact hrl.out q hq
  have z1 : Hid (w.heap.size ≤ W1.heap.size) := B1.size
  have L1 : Hid (W1.heap.size < W2.heap.size) := (t2.lt _ rfl).2
  clear t1 t2 t3 t4 hms' hrl
  have B2 : Below w.heap.size w W2 := B1.trans (b2.mono B1.size)
  clear b2 B1
  go_wp2_with fail
  refine (twinByte_any W2 _ bs ((HB.out.below B2 (Nat.le_refl _)).mono B2.size) (by omega)).mono ?_
  rintro e W3 ⟨rfl, t2, b3⟩
  have T2 : Hid _ := t2
  have L2 : Hid (W2.heap.size < W3.heap.size) := (t2.lt _ rfl).2
  clear t2
  have B3 : Below w.heap.size w W3 := B2.trans (b3.mono B2.size)
  replace M : Hid _ := TwM.below M.out b3
  clear b3 B2
  obtain ⟨R, hR⟩ : ∃ R, putRes (l.map (·.2)) = R := ⟨_, rfl⟩
  obtain ⟨S, hS⟩ : ∃ S, getRes bs = S := ⟨_, rfl⟩
  have kP : ∀ W v, ResAt W W.heap.size v ms → Calls Tryz.prog 24 #[v] W fun e w' => ∃ v, e = .returned (.tuple #[v, .int .i64 (R.2 : Int)]) ∧ BsAt w' W.heap.size v R.1 ∧ Below W.heap.size W w' := fun W v h => by rw [← hR, ← hms.out]; exact PutResults_any W v ms h
  have kQ : ∀ W v, ResAt W W.heap.size v l → Calls Tryz.prog 26 #[v] W fun e w' => ∃ v, e = .returned (.tuple #[v, .int .i64 (R.2 : Int)]) ∧ BsAt w' W.heap.size v R.1 ∧ Below W.heap.size W w' := fun W v h => by rw [← hR]; exact refPutResults_any W v l h
  have kG : ∀ W v, InAt W W.heap.size v bs → Calls Tryz.prog 25 #[v] W fun e w' => ∃ v, e = .returned (.tuple #[v, .int .i64 (S.2 : Int)]) ∧ Hid (∃ m, OwnRes w' W.heap.size v m ∧ m.map (·.2) = S.1) ∧ Below W.heap.size W w' := fun W v h => by rw [← hS]; exact GetResults_any W v bs h
  have kH : ∀ W v, InAt W W.heap.size v bs → Calls Tryz.prog 27 #[v] W fun e w' => ∃ v, e = .returned (.tuple #[v, .int .i64 (S.2 : Int)]) ∧ Hid (∃ m : List ResP, m.map (·.2) = S.1 ∧ ResAt w' w'.heap.size v m) ∧ Below W.heap.size W w' := fun W v h => by rw [← hS]; exact refGetResults_any W v bs h
  have hS9 : Hid (S.1.length ≤ 16 ∧ ∀ r ∈ S.1, r.length ≤ 256 ∧ ∀ x ∈ r, rowSm x) := by show _ ∧ _; rw [← hS]; exact getRes_few bs
  have hR9 : Hid (R.1.length ≤ 1000000000) := by show _ ≤ _; rw [← hR]; exact putRes_few _
  clear hR hS
  obtain ⟨R1, R2⟩ := R
  obtain ⟨S1, S2⟩ := S
  simp only at kP kQ kG kH hS9 hR9
  go_wp2_with fail
  refine (kP W3 _ (M.out.at MS.out)).mono ?_
  rintro e W4 ⟨v4, rfl, p4, b4⟩
  obtain ⟨a4, c4, rfl⟩ := own_len p4
  have P1 : Hid _ := p4
  have PB : Hid _ := p4.lt
  have L3 : Hid (W3.heap.size ≤ W4.heap.size) := b4.size
  clear p4 kP
  have B4 : Below w.heap.size w W4 := B3.trans (b4.mono B3.size)
  replace M : Hid _ := TwM.below M.out b4
  replace T2 : Hid _ := own_below T2.out b4
  clear b4 B3
  go_wp2_with fail
  refine (kG W4 _ (sl_own (fun _ => rfl) (twin_own (fun _ => rfl) T2.out))).mono ?_
  rintro e W5 ⟨v5, rfl, q5', b5⟩
  obtain ⟨mq, q5, q6⟩ := q5'.out
  have HQ : Hid (mq.map (·.2) = S1) := q6
  have hql : Hid (mq.length ≤ 16) := by show _ ≤ _; have := hS9.out.1; rw [← q6, List.length_map] at this; exact this
  have QF : Hid (∀ p ∈ mq, p.2.length ≤ 256 ∧ ∀ x ∈ p.2, rowSm x) := fun p hp => hS9.out.2 p.2 (by rw [← q6]; exact List.mem_map_of_mem hp)
  obtain ⟨a5, c5, rfl⟩ := own_len q5.own
  have Q1 : Hid (OwnRes W5 W4.heap.size (.slice a5 mq.length c5) mq) := q5
  have QB : Hid (∀ b, (Value.slice a5 mq.length c5).ownBlock = some b → W4.heap.size ≤ b ∧ b < W5.heap.size) := q5.own.lt
  have QR : Hid (∀ p ∈ mq, ∀ b, p.1.ownBlock = some b → W4.heap.size ≤ b ∧ b < W5.heap.size) := fun p hp => (q5.rows p hp).lt
  have L4 : Hid (W4.heap.size ≤ W5.heap.size) := b5.size
  clear q5 q6 q5' kG hS9
  have B5 : Below w.heap.size w W5 := B4.trans (b5.mono B4.size)
  replace M : Hid _ := TwM.below M.out b5
  replace T2 : Hid _ := own_below T2.out b5
  replace P1 : Hid _ := own_below P1.out b5
  clear b5 B4
  go_wp2_with fail
  refine (kQ W5 _ ((HL.out.below B5 (Nat.le_refl _)).mono B5.size)).mono ?_
  rintro e W6 ⟨v6, rfl, p6, b6⟩
  obtain ⟨a6, c6, rfl⟩ := own_len p6
  have P2 : Hid _ := p6
  have L5 : Hid (W5.heap.size ≤ W6.heap.size) := b6.size
  clear p6 kQ
  have B6 : Below w.heap.size w W6 := B5.trans (b6.mono B5.size)
  replace M : Hid _ := TwM.below M.out b6
  replace T2 : Hid _ := own_below T2.out b6
  replace P1 : Hid _ := own_below P1.out b6
  replace Q1 : Hid _ := OwnRes.below Q1.out b6
  clear b6 B5
  go_wp2_with fail
  refine (kH W6 _ ((HB.out.below B6 (Nat.le_refl _)).mono B6.size)).mono ?_
  rintro e W7 ⟨v7, rfl, q7', b7⟩
  obtain ⟨m7, q7, q8⟩ := q7'.out
  have HQ7 : Hid (mq.map (·.2) = m7.map (·.2)) := by show _ = _; rw [HQ.out, q7]
  obtain ⟨a7, c7, hv7, -, -, -⟩ := id q8.1
  subst hv7
  have Q2 : Hid (ResAt W7 W7.heap.size (.slice a7 m7.length c7) m7) := q8
  have Z7 : Hid (W5.heap.size ≤ W7.heap.size) := Nat.le_trans L5.out b7.size
  clear q7 q8 q7' kH L5 HQ
  have B7 : Below w.heap.size w W7 := B6.trans (b7.mono B6.size)
  replace M : Hid _ := TwM.below M.out b7
  replace T2 : Hid _ := own_below T2.out b7
  replace P1 : Hid _ := own_below P1.out b7
  replace P2 : Hid _ := own_below P2.out b7
  replace Q1 : Hid _ := OwnRes.below Q1.out b7
  clear b7 B6
  go_wp2_with fail
  refine (sameBytes_any W7 _ _ _ _ R1 (in_own P1.out) (in_own P2.out)).mono ?_
  rintro e w8 ⟨rfl, n8, rfl⟩
  obtain ⟨W8, hW8⟩ : ∃ W8, W8 = W7.drewN n8 := ⟨_, rfl⟩
  have b8 : Below W7.heap.size W7 W8 := by rw [hW8]; exact below_drewN W7 n8
  rw [← hW8]
  clear hW8
  have Z8 : Hid (W5.heap.size ≤ W8.heap.size) := Nat.le_trans Z7.out b8.size
  clear Z7
  have B8 : Below w.heap.size w W8 := B7.trans (b8.mono B7.size)
  replace M : Hid _ := TwM.below M.out b8
  replace T2 : Hid _ := own_below T2.out b8
  replace P1 : Hid _ := own_below P1.out b8
  replace P2 : Hid _ := own_below P2.out b8
  replace Q1 : Hid _ := OwnRes.below Q1.out b8
  replace Q2 : Hid _ := ResAt.mono (ResAt.below Q2.out b8 (Nat.le_refl _)) b8.size
  clear b8 B7
  go_wp2_with fail
  refine (sameResults_any W8 _ _ mq m7 (Q1.out.at (fun p hp => (QF.out p hp).2)) Q2.out HQ7.out).mono ?_
  rintro e W9 ⟨rfl, b9⟩
  have Z9 : Hid (W5.heap.size ≤ W9.heap.size) := Nat.le_trans Z8.out b9.size
  clear Z8
  have B9 : Below w.heap.size w W9 := B8.trans (b9.mono B8.size)
  replace M : Hid _ := TwM.below M.out b9
  replace T2 : Hid _ := own_below T2.out b9
  replace P1 : Hid _ := own_below P1.out b9
  replace P2 : Hid _ := own_below P2.out b9
  replace Q1 : Hid _ := OwnRes.below Q1.out b9
  replace Q2 : Hid _ := ResAt.mono (ResAt.below Q2.out b9 (Nat.le_refl _)) b9.size
  clear b9 B8
  go_wp2_with fail
  refine (leftResults_any W9 W1.heap.size W1.heap.size W1.heap.size sb (l.length + 1) w.heap.size _ l ms hms.out M.out.rows M.out.own M.out.sp (HL.out.below B9 (Nat.le_refl _)) B9.size).mono ?_
  rintro e W10 ⟨rfl, b10⟩
  have Z10 : Hid (W5.heap.size ≤ W10.heap.size) := Nat.le_trans Z9.out b10.size
  clear Z9
  have B10 : Below w.heap.size w W10 := B9.trans (b10.mono B9.size)
  replace M : Hid _ := TwM.below M.out b10
  replace T2 : Hid _ := own_below T2.out b10
  replace P1 : Hid _ := own_below P1.out b10
  replace P2 : Hid _ := own_below P2.out b10
  replace Q1 : Hid _ := OwnRes.below Q1.out b10
  replace Q2 : Hid _ := ResAt.mono (ResAt.below Q2.out b10 (Nat.le_refl _)) b10.size
  clear b10 B9
  go_wp2_with fail
  refine (leftByte_any W10 _ _ _ _ _ bs T2.out (HB.out.below B10 (Nat.le_refl _))).mono ?_
  rintro e W11 ⟨rfl, b11⟩
  have Z11 : Hid (W5.heap.size ≤ W11.heap.size) := Nat.le_trans Z10.out b11.size
  clear Z10
  have B11 : Below w.heap.size w W11 := B10.trans (b11.mono B10.size)
  replace M : Hid _ := TwM.below M.out b11
  replace T2 : Hid _ := own_below T2.out b11
  replace P1 : Hid _ := own_below P1.out b11
  replace P2 : Hid _ := own_below P2.out b11
  replace Q1 : Hid _ := OwnRes.below Q1.out b11
  replace Q2 : Hid _ := ResAt.mono (ResAt.below Q2.out b11 (Nat.le_refl _)) b11.size
  clear b11 B10
  have I0 : Hid _ := BkRes.new W11
  have b12 := below_one W11 (.cells #[.int .i64 0, .slice none 0 0, .slice none 0 0, .slice none 0 0, .slice none 0 0, .slice none 0 0, .slice none 0 0, .slice none 0 0, .slice none 0 0, .slice none 0 0, .slice none 0 0, .slice none 0 0, .slice none 0 0] 52)
  clear P2 Q2 HQ7 HL HB
  go_wp2_with fail
  generalize hW12 : W11.alloc (.cells #[.int .i64 0, .slice none 0 0, .slice none 0 0, .slice none 0 0, .slice none 0 0, .slice none 0 0, .slice none 0 0, .slice none 0 0, .slice none 0 0, .slice none 0 0, .slice none 0 0, .slice none 0 0, .slice none 0 0] 52) = W12 at I0 b12 ⊢
  clear hW12
  have K0 : Hid (W5.heap.size ≤ W11.heap.size) := Z11.out
  clear Z11
  have B12 : Below w.heap.size w W12 := B11.trans (b12.mono B11.size)
  replace M : Hid _ := TwM.below M.out b12
  replace T2 : Hid _ := own_below T2.out b12
  replace P1 : Hid _ := own_below P1.out b12
  replace Q1 : Hid _ := OwnRes.below Q1.out b12
  clear b12 B11
  have J0 : Hid (∀ p ∈ ms, p.2.length ≤ 1000000000 ∧ ∃ xs, W12.ownsRow 0 109 2 p.1 p.2.length xs) := fun p hp => by
    obtain ⟨c, -, e, ho⟩ := M.out.rows.rows p hp
    have := MR.out p hp
    exact ⟨by omega, _, by rw [e]; exact own_mono (twin_own rowCells_len ho) (Nat.zero_le _)⟩
  go_wp2_with fail
  refine (bookResultsN I0.out ms hml.out (by omega) (own_mono M.out.first (Nat.zero_le _)) J0.out MP.out (fun p hp b hb h => by have h0 := MB.out p hp b hb; simp only [Value.ownBlock, Option.some.injEq] at h; omega) (fun p hp b hb => by have h0 := MB.out p hp b hb; have := L1.out; have := L2.out; have := L3.out; have := L4.out; have := K0.out; exact ⟨by omega, fun h => ldR_no h, fun h => ldR_no h, fun h => ldR_no h⟩) (fun b hb => by simp only [Value.ownBlock, Option.some.injEq] at hb; have := L1.out; have := L2.out; have := L3.out; have := L4.out; have := K0.out; exact ⟨by omega, fun h => ldR_no h, fun h => ldR_no h, fun h => ldR_no h⟩)).mono ?_
  rintro e W13 ⟨rfl, uR13, ER13, uS13, i13, e13, b13⟩
  have I1 : Hid _ := i13
  have E1 : Hid (∀ b, LD ER13 b → W1.heap.size < b ∧ b < W2.heap.size) := fun b h => by
    rcases e13 b h with h | ⟨p, hp, h⟩
    · exact absurd h (fun h => ldR_no h)
    · exact MB.out p hp b h
  clear i13 e13 J0 M
  have B13 : Below w.heap.size w W13 := B12.trans (b13.below B12.size (fun k hk hd => by have := z1.out; have := L1.out; have := L2.out; have := L3.out; have := L4.out; have := K0.out; omega))
  replace T2 : Hid _ := own_wrote T2.out b13 (fun b hb hd => by simp only [Value.ownBlock, Option.some.injEq] at hb; have := L1.out; have := L2.out; have := L3.out; have := L4.out; have := K0.out; omega)
  replace P1 : Hid _ := own_wrote P1.out b13 (fun b hb hd => by have := PB.out b hb; have := L1.out; have := L2.out; have := L3.out; have := L4.out; have := K0.out; omega)
  replace Q1 : Hid _ := OwnRes.wrote Q1.out b13 (fun b hb hd => by have := QB.out b hb; have := L1.out; have := L2.out; have := L3.out; have := L4.out; have := K0.out; omega) (fun p hp b hb hd => by have := QR.out p hp b hb; have := L1.out; have := L2.out; have := L3.out; have := L4.out; have := K0.out; omega)
  clear b13 B12 I0
  go_wp2_with fail
  refine (keepResByte I1.out (by omega) (own_mono (twin_own (fun _ => rfl) T2.out) (Nat.zero_le _)) (by omega) (fun b hb => by simp only [Value.ownBlock, Option.some.injEq] at hb; have := L1.out; have := L2.out; have := L3.out; have := L4.out; have := K0.out; exact ⟨by omega, fun h => ldR_no h, fun h => by have := E1.out b h; omega, fun h => by have h := ldR_one h; simp only [Value.ownBlock, Option.some.injEq] at h; omega⟩)).mono ?_
  rintro e W14 ⟨rfl, u14, i14, b14⟩
  have I2 : Hid _ := i14
  clear i14
  have B14 : Below w.heap.size w W14 := B13.trans (b14.below B13.size (fun k hk hd => by have := z1.out; have := L1.out; have := L2.out; have := L3.out; have := L4.out; have := K0.out; omega))
  replace P1 : Hid _ := own_wrote P1.out b14 (fun b hb hd => by have := PB.out b hb; have := L1.out; have := L2.out; have := L3.out; have := L4.out; have := K0.out; omega)
  replace Q1 : Hid _ := OwnRes.wrote Q1.out b14 (fun b hb hd => by have := QB.out b hb; have := L1.out; have := L2.out; have := L3.out; have := L4.out; have := K0.out; omega) (fun p hp b hb hd => by have := QR.out p hp b hb; have := L1.out; have := L2.out; have := L3.out; have := L4.out; have := K0.out; omega)
  clear b14 B13 I1
  go_wp2_with fail
  refine (keepResByte I2.out (by omega) (own_mono P1.out (Nat.zero_le _)) hR9.out (fun b hb => by have hb := PB.out b hb; have := L1.out; have := L2.out; have := L3.out; have := L4.out; have := K0.out; exact ⟨by omega, fun h => by have h := ldR_one h; simp only [Value.ownBlock, Option.some.injEq] at h; omega, fun h => by have := E1.out b h; omega, fun h => by have h := ldR_one h; simp only [Value.ownBlock, Option.some.injEq] at h; omega⟩)).mono ?_
  rintro e W15 ⟨rfl, u15, i15, b15⟩
  have I3 : Hid _ := i15
  clear i15
  have B15 : Below w.heap.size w W15 := B14.trans (b15.below B14.size (fun k hk hd => by have := z1.out; have := L1.out; have := L2.out; have := L3.out; have := L4.out; have := K0.out; omega))
  replace Q1 : Hid _ := OwnRes.wrote Q1.out b15 (fun b hb hd => by have := QB.out b hb; have := L1.out; have := L2.out; have := L3.out; have := L4.out; have := K0.out; omega) (fun p hp b hb hd => by have := QR.out p hp b hb; have := L1.out; have := L2.out; have := L3.out; have := L4.out; have := K0.out; omega)
  clear b15 B14 I2
  have hq16 := hql.out
  have J3 : Hid (∀ p ∈ mq, p.2.length ≤ 1000000000 ∧ ∃ xs, W15.ownsRow 0 109 2 p.1 p.2.length xs) := fun p hp => by
    have := (QF.out p hp).1
    exact ⟨by omega, _, own_mono (Q1.out.rows p hp) (Nat.zero_le _)⟩
  go_wp2_with fail
  refine (bookResultsN I3.out mq rfl (by omega) (own_mono Q1.out.own (Nat.zero_le _)) J3.out Q1.out.pair Q1.out.apart (fun p hp b hb => by have h0 := QR.out p hp b hb; have := L1.out; have := L2.out; have := L3.out; have := L4.out; have := K0.out; exact ⟨by omega, fun h => by rcases ldR_two h with h | h; (simp only [Value.ownBlock, Option.some.injEq] at h; omega); (have := PB.out b h; omega), fun h => by have := E1.out b h; omega, fun h => by have h := ldR_one h; simp only [Value.ownBlock, Option.some.injEq] at h; omega⟩) (fun b hb => by have h0 := QB.out b hb; have := L1.out; have := L2.out; have := L3.out; have := L4.out; have := K0.out; exact ⟨by omega, fun h => by rcases ldR_two h with h | h; (simp only [Value.ownBlock, Option.some.injEq] at h; omega); (have := PB.out b h; omega), fun h => by have := E1.out b h; omega, fun h => by have h := ldR_one h; simp only [Value.ownBlock, Option.some.injEq] at h; omega⟩)).mono ?_
  rintro e W16 ⟨rfl, uR16, ER16, uS16, i16, e16, b16⟩
  have I4 : Hid _ := i16
  have E2 : Hid (∀ b, LD ER16 b → W1.heap.size < b) := fun b h => by
    rcases e16 b h with h | ⟨p, hp, h⟩
    · exact (E1.out b h).1
    · have := QR.out p hp b h
      have := L1.out; have := L2.out; have := L3.out; have := L4.out; have := K0.out
      omega
  clear i16 e16 J3
  have B16 : Below w.heap.size w W16 := B15.trans (b16.below B15.size (fun k hk hd => by have := z1.out; have := L1.out; have := L2.out; have := L3.out; have := L4.out; have := K0.out; omega))
  clear b16 B15 I3
  go_wp2_with fail
  refine (apartRes I4.out B16 (by have := z1.out; have := L1.out; have := L2.out; have := L3.out; have := L4.out; have := K0.out; omega) (fun b h => by have := z1.out; have := L1.out; have := L2.out; have := L3.out; have := L4.out; have := K0.out; rcases ldR_two h with h | h; (simp only [Value.ownBlock, Option.some.injEq] at h; omega); (have := PB.out b h; omega)) (fun b h => by have := z1.out; have := E2.out b h; omega) (fun b h => by have := z1.out; have := L1.out; have := L2.out; have := L3.out; have := L4.out; have := K0.out; rcases ldR_two h with h | h; (simp only [Value.ownBlock, Option.some.injEq] at h; omega); (have := QB.out b h; omega)) HT.out).mono ?_
  rintro e W17 ⟨rfl, bF⟩
  go_wp2
  go_ret
  exact ⟨rfl, bF⟩
end Go.Proofs.YtndjgilheleplaaGreatDoor
