/- The walk of RowsOps. -/
import Derived.Test.YtndjgilheleplaaGreatDoorRBiOps
import Derived.Test.YtndjgilheleplaaGreatDoorRTwOp
import Derived.Test.YtndjgilheleplaaGreatDoorRTwByte
import Derived.Test.YtndjgilheleplaaGreatDoorRSameB
import Derived.Test.YtndjgilheleplaaGreatDoorRSameO
import Derived.Test.YtndjgilheleplaaGreatDoorRRefOp
import Derived.Test.YtndjgilheleplaaGreatDoorRRgOp
import Derived.Test.YtndjgilheleplaaGreatDoorRfChkO
import Derived.Deep.RegionHeld3
set_option linter.unusedSimpArgs false
set_option linter.unusedVariables false
namespace Go.Proofs.YtndjgilheleplaaGreatDoor
open Go.RowKit

theorem sm_of_szOps {x : OpD} (h : opSz x) : opSm x := by
  unfold opSz at h
  unfold opSm maxLen
  omega
theorem ld_two {v l1 l2 : Value} {n1 n2 k1 k2 b : Nat} (h : LD ([] ++ [Ent.mk l1 v n1 k1] ++ [Ent.mk l2 v n2 k2]) b) : l1.ownBlock = some b ∨ l2.ownBlock = some b := by
  obtain ⟨x, hx, h⟩ := h
  simp at hx
  rcases hx with rfl | rfl
  · exact .inl h
  · exact .inr h
theorem ld_one {v l1 : Value} {n1 k1 b : Nat} (h : LD ([] ++ [Ent.mk l1 v n1 k1]) b) : l1.ownBlock = some b := by
  obtain ⟨x, hx, h⟩ := h
  simp at hx
  subst hx
  exact h
theorem ld_no {b : Nat} (h : LD [] b) : False := by
  obtain ⟨x, hx, h⟩ := h
  cases hx
theorem getOps_few (bs : List UInt8) : (getOps bs).1.length ≤ 1000000000 := by
  rcases getOps_two bs with ⟨l, h, -, h2, -⟩ | h
  · rw [h]; show l.length ≤ _; omega
  · rw [h]; show 0 ≤ _; omega
theorem putOps_few (l : List OpD) (hsm : ∀ x ∈ l, opSm x) (hn : l.length ≤ 3000) : (putOps l).1.length ≤ 1000000000 := by
  unfold putOps
  by_cases h : l.all opOk = true
  · rw [if_pos h]
    by_cases h2 : l.length ≤ 16
    · rw [if_pos h2]
      have := putOps_len h
      show (encList encOp l).length ≤ _
      unfold encList
      rw [List.length_append, be2_len]
      omega
    · rw [if_neg h2]; show 0 ≤ _; omega
  · rw [if_neg h]; show 0 ≤ _; omega
/-- The op's own block, as it stays. -/
structure XBox (w : World) (x : OpD) (W : World) : Prop where
  b : Below w.heap.size w W
  c0 : W.cell? ⟨w.heap.size, 0, none⟩ = some (.int .u8 (x.kind.toNat : Int))
  c1 : W.cell? ⟨w.heap.size, 1, none⟩ = some (.string x.key)
  c2 : W.cell? ⟨w.heap.size, 2, none⟩ = some (.string x.to)
  c3 : W.cell? ⟨w.heap.size, 3, none⟩ = some (.int .u32 (x.value.toNat : Int))
  z : w.heap.size < W.heap.size
theorem XBox.next {w W W' : World} {x : OpD} (h : XBox w x W) (hb : Below W.heap.size W W') : XBox w x W' :=
  ⟨h.b.trans (hb.mono h.b.size), (hb.cell h.z).trans h.c0, (hb.cell h.z).trans h.c1, (hb.cell h.z).trans h.c2, (hb.cell h.z).trans h.c3, Nat.lt_of_lt_of_le h.z hb.size⟩
theorem XBox.new (w : World) (x : OpD) : XBox w x (w.alloc (.cells #[.int .u8 (x.kind.toNat : Int), .string x.key, .string x.to, .int .u32 (x.value.toNat : Int)] 25)) :=
  ⟨below_one w _, by go_simp, by go_simp, by go_simp, by go_simp, by simp⟩
/-- While the answers are looked at: the op's own block, and all that was there at U. -/
abbrev CkS (g : Nat) (U : World) (x : OpD) (W : World) : Prop := W.cell? ⟨g, 0, none⟩ = some (.int .u8 (x.kind.toNat : Int)) ∧ W.cell? ⟨g, 1, none⟩ = some (.string x.key) ∧ W.cell? ⟨g, 2, none⟩ = some (.string x.to) ∧ W.cell? ⟨g, 3, none⟩ = some (.int .u32 (x.value.toNat : Int)) ∧ Below U.heap.size U W
theorem CkS.drewN {g : Nat} {U : World} {x : OpD} {W : World} (h : CkS g U x W) (m : Nat) : CkS g U x (W.drewN m) := ⟨h.1, h.2.1, h.2.2.1, h.2.2.2.1, h.2.2.2.2.trans ((below_drewN W m).mono h.2.2.2.2.size)⟩
theorem CkS.next {g : Nat} {U : World} {x : OpD} {W W' : World} (hg : g < U.heap.size) (h : CkS g U x W) (hb : Below W.heap.size W W') : CkS g U x W' := by
  have z := h.2.2.2.2.size
  have e : ∀ i, W'.cell? ⟨g, i, none⟩ = W.cell? ⟨g, i, none⟩ := fun i => hb.cell (p := ⟨g, i, none⟩) (by show g < _; omega)
  exact ⟨(e 0).trans h.1, (e 1).trans h.2.1, (e 2).trans h.2.2.1, (e 3).trans h.2.2.2.1, h.2.2.2.2.trans (hb.mono z)⟩

set_option maxHeartbeats 8000000 in
set_option maxRecDepth 1000000 in
theorem rowsops_walk (w : World) (vl vb : Value) (x : OpD) (l : List OpD) (bs : List UInt8) (hx : opSm x) (hl : SlAt 4 opCells w w.heap.size vl l) (hz : ∀ x ∈ l, opSz x) (hb : InAt w w.heap.size vb bs) (htab : Tab w) :
    Calls Tryz.prog 3 #[opV x, vl, vb] w fun e w' => e = .returned (.bool true) ∧ Below w.heap.size w w' := by
  have hsm : ∀ x ∈ l, opSm x := fun x h => sm_of_szOps (hz x h)
  have HL : Hid (SlAt 4 opCells w w.heap.size vl l) := hl
  have HB : Hid (InAt w w.heap.size vb bs) := hb
  have HT : Hid (Tab w) := htab
  have HS : Hid (∀ x ∈ l, opSm x) := hsm
  have kS : ∀ W, Below w.heap.size w W → Calls Tryz.prog 6 #[vl] W fun e w' => (∃ z : Int, e = .returned (.int .i64 z) ∧ (l.length : Int) ≤ z) ∧ ∃ n, w' = W.drewN n := fun W hW => sizeOp_any W w.heap.size vl l (hl.below hW (Nat.le_refl _)) hz
  obtain ⟨ao0, ca0, rfl, hlc, hlm, -⟩ := id hl
  obtain ⟨ab0, cb0, rfl, hbc, hbm, -⟩ := id hb
  unfold maxLen at hlm hbm
  clear hl hb htab hz hsm
  have X0 := XBox.new w x
  unfold opV
  go_enter Tryz.func3, Tryz.ntmps3
  obtain ⟨W0, hW0⟩ : ∃ W0, W0 = w.alloc (.cells #[.int .u8 (x.kind.toNat : Int), .string x.key, .string x.to, .int .u32 (x.value.toNat : Int)] 25) := ⟨_, rfl⟩
  rw [← hW0] at X0
  have B0 : Below w.heap.size w W0 := X0.b
  go_wp2_with fail
  rw [← hW0]
  clear hW0
  refine (kS W0 B0).mono ?_
  rintro e w1 ⟨⟨z, rfl, hz⟩, n1, rfl⟩
  obtain ⟨W1, hW1⟩ : ∃ W1, W1 = W0.drewN n1 := ⟨_, rfl⟩
  have b1 : Below W0.heap.size W0 W1 := by rw [hW1]; exact below_drewN W0 n1
  rw [← hW1]
  clear hW1 kS
  have B1 : Below w.heap.size w W1 := B0.trans (b1.mono B0.size)
  have X1 := X0.next b1
  clear b1 B0 X0
  by_cases hz3 : 3000 < z
  · clear HL HB HT HS
    go_wp2
    go_ret
    exact ⟨rfl, B1⟩
  by_cases hb7 : 70000 < bs.length
  · clear HL HB HT HS
    have hb8 : (70000 : Int) < (bs.length : Int) := by omega
    go_wp2
    go_ret
    exact ⟨rfl, B1⟩
  have hb8 : ¬ (70000 : Int) < (bs.length : Int) := by omega
  have hln : l.length ≤ 3000 := by omega
  clear hz
  go_wp2_with fail
  refine (twinOp_any W1 _ l ((HL.out.below B1 (Nat.le_refl _)).mono B1.size) (by omega)).mono ?_
  rintro e W2 ⟨rfl, t1, b2⟩
  have T1 : Hid _ := t1
  have z1 : Hid (w.heap.size ≤ W1.heap.size) := B1.size
  have L1' : Hid (W1.heap.size < W2.heap.size) := (t1.lt _ rfl).2
  clear t1
  have B2 : Below w.heap.size w W2 := B1.trans (b2.mono B1.size)
  have X2 := X1.next b2
  clear b2 B1 X1
  go_wp2_with fail
  refine (twinByte_any W2 _ bs ((HB.out.below B2 (Nat.le_refl _)).mono B2.size) (by omega)).mono ?_
  rintro e W3 ⟨rfl, t2, b3⟩
  have T2 : Hid _ := t2
  have L1 : Hid (W1.heap.size < W2.heap.size) := L1'
  have L2 : Hid (W2.heap.size < W3.heap.size) := (t2.lt _ rfl).2
  clear t2
  have B3 : Below w.heap.size w W3 := B2.trans (b3.mono B2.size)
  have X3 := X2.next b3
  replace T1 : Hid _ := own_below T1.out b3
  clear b3 B2 X2
  obtain ⟨R, hR⟩ : ∃ R, putOps l = R := ⟨_, rfl⟩
  obtain ⟨S, hS⟩ : ∃ S, getOps bs = S := ⟨_, rfl⟩
  have kP : ∀ W v, SlAt 4 opCells W W.heap.size v l → Calls Tryz.prog 9 #[v] W fun e w' => ∃ v, e = .returned (.tuple #[v, .int .i64 (R.2 : Int)]) ∧ BsAt w' W.heap.size v R.1 ∧ Below W.heap.size W w' := fun W v h => by rw [← hR]; exact PutOps_any W v l h HS.out
  have kQ : ∀ W v, SlAt 4 opCells W W.heap.size v l → Calls Tryz.prog 11 #[v] W fun e w' => ∃ v, e = .returned (.tuple #[v, .int .i64 (R.2 : Int)]) ∧ BsAt w' W.heap.size v R.1 ∧ Below W.heap.size W w' := fun W v h => by rw [← hR]; exact refPutOps_any W v l h HS.out
  have kG : ∀ W v, InAt W W.heap.size v bs → Calls Tryz.prog 10 #[v] W fun e w' => ∃ v, e = .returned (.tuple #[v, .int .i64 (S.2 : Int)]) ∧ w'.ownsRow W.heap.size 25 4 v S.1.length (S.1.flatMap opCells) ∧ Below W.heap.size W w' := fun W v h => by rw [← hS]; exact GetOps_any W v bs h
  have kH : ∀ W v, InAt W W.heap.size v bs → Calls Tryz.prog 12 #[v] W fun e w' => ∃ v, e = .returned (.tuple #[v, .int .i64 (S.2 : Int)]) ∧ w'.ownsRow W.heap.size 25 4 v S.1.length (S.1.flatMap opCells) ∧ Below W.heap.size W w' := fun W v h => by rw [← hS]; exact refGetOps_any W v bs h
  have hS9 : Hid (S.1.length ≤ 1000000000) := by show _ ≤ _; rw [← hS]; exact getOps_few bs
  have hR9 : Hid (R.1.length ≤ 1000000000) := by show _ ≤ _; rw [← hR]; exact putOps_few l HS.out hln
  clear hR hS
  obtain ⟨R1, R2⟩ := R
  obtain ⟨S1, S2⟩ := S
  simp only at kP kQ kG kH hS9 hR9
  go_wp2_with fail
  refine (kP W3 _ (sl_own opCells_len (twin_own opCells_len T1.out))).mono ?_
  rintro e W4 ⟨v4, rfl, p4, b4⟩
  obtain ⟨a4, c4, rfl⟩ := own_len p4
  have P1 : Hid _ := p4
  have PB : Hid _ := p4.lt
  have L3 : Hid (W3.heap.size ≤ W4.heap.size) := b4.size
  clear p4 kP
  have B4 : Below w.heap.size w W4 := B3.trans (b4.mono B3.size)
  have X4 := X3.next b4
  replace T1 : Hid _ := own_below T1.out b4
  replace T2 : Hid _ := own_below T2.out b4
  clear b4 B3 X3
  go_wp2_with fail
  refine (kG W4 _ (sl_own (fun _ => rfl) (twin_own (fun _ => rfl) T2.out))).mono ?_
  rintro e W5 ⟨v5, rfl, q5, b5⟩
  obtain ⟨a5, c5, rfl⟩ := own_len q5
  have Q1 : Hid _ := q5
  have QB : Hid _ := q5.lt
  have L4 : Hid (W4.heap.size ≤ W5.heap.size) := b5.size
  clear q5 kG
  have B5 : Below w.heap.size w W5 := B4.trans (b5.mono B4.size)
  have X5 := X4.next b5
  replace T1 : Hid _ := own_below T1.out b5
  replace T2 : Hid _ := own_below T2.out b5
  replace P1 : Hid _ := own_below P1.out b5
  clear b5 B4 X4
  go_wp2_with fail
  refine (kQ W5 _ ((HL.out.below B5 (Nat.le_refl _)).mono B5.size)).mono ?_
  rintro e W6 ⟨v6, rfl, p6, b6⟩
  obtain ⟨a6, c6, rfl⟩ := own_len p6
  have P2 : Hid _ := p6
  have L5 : Hid (W5.heap.size ≤ W6.heap.size) := b6.size
  clear p6 kQ
  have B6 : Below w.heap.size w W6 := B5.trans (b6.mono B5.size)
  have X6 := X5.next b6
  replace T1 : Hid _ := own_below T1.out b6
  replace T2 : Hid _ := own_below T2.out b6
  replace P1 : Hid _ := own_below P1.out b6
  replace Q1 : Hid _ := own_below Q1.out b6
  clear b6 B5 X5
  go_wp2_with fail
  refine (kH W6 _ ((HB.out.below B6 (Nat.le_refl _)).mono B6.size)).mono ?_
  rintro e W7 ⟨v7, rfl, q7, b7⟩
  obtain ⟨a7, c7, rfl⟩ := own_len q7
  have Q2 : Hid _ := q7
  have Z7 : Hid (W5.heap.size ≤ W7.heap.size) := Nat.le_trans L5.out b7.size
  clear q7 kH L5
  have B7 : Below w.heap.size w W7 := B6.trans (b7.mono B6.size)
  have X7 := X6.next b7
  replace T1 : Hid _ := own_below T1.out b7
  replace T2 : Hid _ := own_below T2.out b7
  replace P1 : Hid _ := own_below P1.out b7
  replace P2 : Hid _ := own_below P2.out b7
  replace Q1 : Hid _ := own_below Q1.out b7
  clear b7 B6 X6
  obtain ⟨ck, hck⟩ : ∃ ck, opOk x = ck := ⟨_, rfl⟩
  have gX : Hid (w.heap.size < W7.heap.size) := X7.z
  have k1 : ∀ W, CkS w.heap.size W7 x W → Calls Tryz.prog 13 #[.agg #[.int .u8 (x.kind.toNat : Int), .string x.key, .string x.to, .int .u32 (x.value.toNat : Int)]] W fun e w' => e = .returned (.bool ck) ∧ CkS w.heap.size W7 x w' := fun W h => by rw [← hck]; exact (rcheck_any W x hx).mono fun e w' h' => ⟨h'.1, h.next gX.out h'.2⟩
  have k2 : ∀ W, CkS w.heap.size W7 x W → Calls Tryz.prog 14 #[.agg #[.int .u8 (x.kind.toNat : Int), .string x.key, .string x.to, .int .u32 (x.value.toNat : Int)]] W fun e w' => e = .returned (.bool ck) ∧ CkS w.heap.size W7 x w' := fun W h => by rw [← hck]; exact (refCheckOp_any W x hx).mono fun e w' h' => ⟨h'.1, h.next gX.out h'.2⟩
  clear hck
  have k3 : ∀ W, CkS w.heap.size W7 x W → Calls Tryz.prog 15 #[.slice a4 R1.length c4, .slice a6 R1.length c6] W fun e w' => e = .returned (.bool true) ∧ CkS w.heap.size W7 x w' := fun W h => (sameBytes_any W _ _ _ _ R1 (in_own (own_below P1.out h.2.2.2.2)) (in_own (own_below P2.out h.2.2.2.2))).mono fun e w' h' => ⟨h'.1, by obtain ⟨m, rfl⟩ := h'.2; exact h.drewN m⟩
  have k4 : ∀ W, CkS w.heap.size W7 x W → Calls Tryz.prog 16 #[.slice a5 S1.length c5, .slice a7 S1.length c7] W fun e w' => e = .returned (.bool true) ∧ CkS w.heap.size W7 x w' := fun W h => (sameOps_any W _ _ _ _ S1 (sl_own opCells_len (own_below Q1.out h.2.2.2.2)) (sl_own opCells_len (own_below Q2.out h.2.2.2.2))).mono fun e w' h' => ⟨h'.1, by obtain ⟨m, rfl⟩ := h'.2; exact h.drewN m⟩
  have k5 : ∀ W, CkS w.heap.size W7 x W → Calls Tryz.prog 17 #[.slice (some ⟨W1.heap.size, 0, none⟩) l.length (l.length + 1), .slice ao0 l.length ca0] W fun e w' => e = .returned (.bool true) ∧ CkS w.heap.size W7 x w' := fun W h => (leftOp_any W _ _ _ _ _ l (own_below T1.out h.2.2.2.2) (HL.out.below (B7.trans (h.2.2.2.2.mono B7.size)) (Nat.le_refl _))).mono fun e w' h' => ⟨h'.1, h.next gX.out h'.2⟩
  have k6 : ∀ W, CkS w.heap.size W7 x W → Calls Tryz.prog 18 #[.slice (some ⟨W2.heap.size, 0, none⟩) bs.length (bs.length + 1), .slice ab0 bs.length cb0] W fun e w' => e = .returned (.bool true) ∧ CkS w.heap.size W7 x w' := fun W h => (leftByte_any W _ _ _ _ _ bs (own_below T2.out h.2.2.2.2) (HB.out.below (B7.trans (h.2.2.2.2.mono B7.size)) (Nat.le_refl _))).mono fun e w' h' => ⟨h'.1, h.next gX.out h'.2⟩
  have s7 : CkS w.heap.size W7 x W7 := ⟨X7.c0, X7.c1, X7.c2, X7.c3, Below.refl _ _⟩
  have HX : Hid (XBox w x W7) := X7
  have HB7 : Hid (Below w.heap.size w W7) := B7
  clear X7 B7
  cases ck
  all_goals
    go_wp2_with fail
    go_region_held3 (fun W => W.cell? ⟨w.heap.size, 0, none⟩ = some (.int .u8 (x.kind.toNat : Int)) ∧ W.cell? ⟨w.heap.size, 1, none⟩ = some (.string x.key) ∧ W.cell? ⟨w.heap.size, 2, none⟩ = some (.string x.to) ∧ W.cell? ⟨w.heap.size, 3, none⟩ = some (.int .u32 (x.value.toNat : Int)) ∧ Below W7.heap.size W7 W) (first | assumption | exact CkS.drewN (by assumption) 1)
      (first
      | (go_at_call 13; refine (k1 _ (by assumption)).mono ?_; rintro e w' ⟨rfl, hb⟩)
      | (go_at_call 14; refine (k2 _ (by assumption)).mono ?_; rintro e w' ⟨rfl, hb⟩)
      | (go_at_call 15; refine (k3 _ (by assumption)).mono ?_; rintro e w' ⟨rfl, hb⟩)
      | (go_at_call 16; refine (k4 _ (by assumption)).mono ?_; rintro e w' ⟨rfl, hb⟩)
      | (go_at_call 17; refine (k5 _ (by assumption)).mono ?_; rintro e w' ⟨rfl, hb⟩)
      | (go_at_call 18; refine (k6 _ (by assumption)).mono ?_; rintro e w' ⟨rfl, hb⟩))
  all_goals
    rename_i hlast
    have b8 : Below W7.heap.size W7 w' := hlast.2.2.2.2
    clear k1 k2 k3 k4 k5 k6 s7 hlast HX hx
    generalize w' = W8 at b8 ⊢
    have B7 : Below w.heap.size w W7 := HB7.out
    have Z8 : Hid (W5.heap.size ≤ W8.heap.size) := Nat.le_trans Z7.out b8.size
    have B8 : Below w.heap.size w W8 := B7.trans (b8.mono B7.size)
    replace T1 : Hid _ := own_below T1.out b8
    replace T2 : Hid _ := own_below T2.out b8
    replace P1 : Hid _ := own_below P1.out b8
    replace P2 : Hid _ := own_below P2.out b8
    replace Q1 : Hid _ := own_below Q1.out b8
    replace Q2 : Hid _ := own_below Q2.out b8
    clear b8 B7
    have I0 : Hid _ := BkOps.new W8
    have b9 := below_one W8 (.cells #[.int .i64 0, .slice none 0 0, .slice none 0 0, .slice none 0 0, .slice none 0 0, .slice none 0 0, .slice none 0 0, .slice none 0 0, .slice none 0 0, .slice none 0 0, .slice none 0 0, .slice none 0 0, .slice none 0 0] 52)
    clear P2 Q2
    go_wp2_with fail
    generalize hW9 : W8.alloc (.cells #[.int .i64 0, .slice none 0 0, .slice none 0 0, .slice none 0 0, .slice none 0 0, .slice none 0 0, .slice none 0 0, .slice none 0 0, .slice none 0 0, .slice none 0 0, .slice none 0 0, .slice none 0 0, .slice none 0 0] 52) = W9 at I0 b9 ⊢
    clear hW9
    have K0 : Hid (W5.heap.size ≤ W8.heap.size) := Z8.out
    have Z9 : Hid (W5.heap.size ≤ W9.heap.size) := Nat.le_trans Z8.out b9.size
    have B9 : Below w.heap.size w W9 := B8.trans (b9.mono B8.size)
    replace T1 : Hid _ := own_below T1.out b9
    replace T2 : Hid _ := own_below T2.out b9
    replace P1 : Hid _ := own_below P1.out b9
    replace Q1 : Hid _ := own_below Q1.out b9
    clear b9 B8
    go_wp2_with fail
    refine (keepOpsOp I0.out (by omega) (own_mono (twin_own opCells_len T1.out) (Nat.zero_le _)) (by omega) (fun b hb => by simp only [Value.ownBlock, Option.some.injEq] at hb; have := L1.out; have := L2.out; have := L3.out; have := L4.out; have := K0.out; exact ⟨by omega, fun h => ld_no h, fun h => ld_no h⟩)).mono ?_
    rintro e W10 ⟨rfl, u10, i10, b10⟩
    have I1 : Hid _ := i10
    have B10 : Below w.heap.size w W10 := B9.trans (b10.below B9.size (fun k hk hd => by have := z1.out; have := L1.out; have := L2.out; have := L3.out; have := L4.out; have := K0.out; omega))
    replace T2 : Hid _ := own_wrote T2.out b10 (fun b hb hd => by simp only [Value.ownBlock, Option.some.injEq] at hb; have := L1.out; have := L2.out; have := L3.out; have := L4.out; have := K0.out; omega)
    replace P1 : Hid _ := own_wrote P1.out b10 (fun b hb hd => by have := PB.out b hb; have := L1.out; have := L2.out; have := L3.out; have := L4.out; have := K0.out; omega)
    replace Q1 : Hid _ := own_wrote Q1.out b10 (fun b hb hd => by have := QB.out b hb; have := L1.out; have := L2.out; have := L3.out; have := L4.out; have := K0.out; omega)
    clear i10 b10 B9 I0
    go_wp2_with fail
    refine (keepOpsByte I1.out (by omega) (own_mono (twin_own (fun _ => rfl) T2.out) (Nat.zero_le _)) (by omega) (fun b hb => by simp only [Value.ownBlock, Option.some.injEq] at hb; have := L1.out; have := L2.out; have := L3.out; have := L4.out; have := K0.out; exact ⟨by omega, fun h => ld_no h, fun h => by have h := ld_one h; simp only [Value.ownBlock, Option.some.injEq] at h; omega⟩)).mono ?_
    rintro e W11 ⟨rfl, u11, i11, b11⟩
    have I2 : Hid _ := i11
    have B11 : Below w.heap.size w W11 := B10.trans (b11.below B10.size (fun k hk hd => by have := z1.out; have := L1.out; have := L2.out; have := L3.out; have := L4.out; have := K0.out; omega))
    replace P1 : Hid _ := own_wrote P1.out b11 (fun b hb hd => by have := PB.out b hb; have := L1.out; have := L2.out; have := L3.out; have := L4.out; have := K0.out; omega)
    replace Q1 : Hid _ := own_wrote Q1.out b11 (fun b hb hd => by have := QB.out b hb; have := L1.out; have := L2.out; have := L3.out; have := L4.out; have := K0.out; omega)
    clear i11 b11 B10 I1
    go_wp2_with fail
    refine (keepOpsByte I2.out (by omega) (own_mono P1.out (Nat.zero_le _)) hR9.out (fun b hb => by have hb := PB.out b hb; have := L1.out; have := L2.out; have := L3.out; have := L4.out; have := K0.out; exact ⟨by omega, fun h => by have h := ld_one h; simp only [Value.ownBlock, Option.some.injEq] at h; omega, fun h => by have h := ld_one h; simp only [Value.ownBlock, Option.some.injEq] at h; omega⟩)).mono ?_
    rintro e W12 ⟨rfl, u12, i12, b12⟩
    have I3 : Hid _ := i12
    have B12 : Below w.heap.size w W12 := B11.trans (b12.below B11.size (fun k hk hd => by have := z1.out; have := L1.out; have := L2.out; have := L3.out; have := L4.out; have := K0.out; omega))
    replace Q1 : Hid _ := own_wrote Q1.out b12 (fun b hb hd => by have := QB.out b hb; have := L1.out; have := L2.out; have := L3.out; have := L4.out; have := K0.out; omega)
    clear i12 b12 B11 I2
    go_wp2_with fail
    refine (keepOpsOp I3.out (by omega) (own_mono Q1.out (Nat.zero_le _)) hS9.out (fun b hb => by have hb := QB.out b hb; have := L1.out; have := L2.out; have := L3.out; have := L4.out; have := K0.out; exact ⟨by omega, fun h => by rcases ld_two h with h | h; (simp only [Value.ownBlock, Option.some.injEq] at h; omega); (have := PB.out b h; omega), fun h => by have h := ld_one h; simp only [Value.ownBlock, Option.some.injEq] at h; omega⟩)).mono ?_
    rintro e W13 ⟨rfl, u13, i13, b13⟩
    have I4 : Hid _ := i13
    have B13 : Below w.heap.size w W13 := B12.trans (b13.below B12.size (fun k hk hd => by have := z1.out; have := L1.out; have := L2.out; have := L3.out; have := L4.out; have := K0.out; omega))
    clear i13 b13 B12 I3
    go_wp2_with fail
    refine (apartOps I4.out B13 (by have := z1.out; have := L1.out; have := L2.out; have := L3.out; have := L4.out; have := K0.out; omega) (fun b h => by have := z1.out; have := L1.out; have := L2.out; have := L3.out; have := L4.out; have := K0.out; rcases ld_two h with h | h; (simp only [Value.ownBlock, Option.some.injEq] at h; omega); (have := PB.out b h; omega)) (fun b h => by have := z1.out; have := L1.out; have := L2.out; have := L3.out; have := L4.out; have := K0.out; rcases ld_two h with h | h; (simp only [Value.ownBlock, Option.some.injEq] at h; omega); (have := QB.out b h; omega)) HT.out).mono ?_
    rintro e W14 ⟨rfl, bF⟩
    go_wp2
    go_ret
    exact ⟨rfl, bF⟩
end Go.Proofs.YtndjgilheleplaaGreatDoor
