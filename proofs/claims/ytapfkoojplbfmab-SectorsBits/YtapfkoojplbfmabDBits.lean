/- The walk of SectorsBits. -/
import Derived.Test.YtapfkoojplbfmabDSureM
import Derived.Test.YtapfkoojplbfmabGArr
set_option linter.unusedSimpArgs false
set_option linter.unusedVariables false
namespace Go.Proofs.Ytapfkoojplbfmab
open Go.RowKit Go.Maps Go.ChangeShapes Go.WideShapes

section
variable {H : Type} {enc : TypeId × Value → H} {W : World} {base : Nat} {sp : Nat → Bool} {held : Bool}
theorem arg_row8 {r : Reach} {b0 : Nat} {v : Value} {d : DataW H} {p : List MemPlace} (hv : Value.okWide Try.prog W r b0 36 v) (h : DataW.Trod enc Try.prog W base sp held 36 v d p) : ∃ l : List UInt8, l.length = 8 ∧ v = .agg (bcells l).toArray :=
  @open_arr _ enc W base sp held UInt8 ⟨0⟩ _ bv _ _ 8 Try.underlying36 (by kernel_rfl) (by kernel_rfl) el_b1 _ _ _ _ _ hv h
theorem arg_row2 {r : Reach} {b0 : Nat} {v : Value} {d : DataW H} {p : List MemPlace} (hv : Value.okWide Try.prog W r b0 37 v) (h : DataW.Trod enc Try.prog W base sp held 37 v d p) : ∃ x y : UInt8, v = .agg #[bv x, bv y] := by
  obtain ⟨l, hl, rfl⟩ := @open_arr _ enc W base sp held UInt8 ⟨0⟩ _ bv _ _ 2 Try.underlying37 (by kernel_rfl) (by kernel_rfl) el_b1 _ _ _ _ _ hv h
  match l, hl with
  | [x, y], _ => exact ⟨x, y, rfl⟩
end
/-- Which sector the i-th write is to. -/
def btA (m off i : Nat) : Nat := (i * (m * 2 + 1) + off) % 8
def btC (b : List UInt8) (i : Nat) : UInt8 := b.getD i 0 ||| 1
def btTo (b : List UInt8) (m off : Nat) : Nat → Dk
  | 0 => Dk.new 8
  | j + 1 => (btTo b m off j).write (btA m off j) [btC b j]
theorem btA_inj {m off i j : Nat} (hm : m < 4) (hi : i < 8) (hj : j < 8) (h : btA m off i = btA m off j) : i = j := by
  unfold btA at h
  match m, hm with
  | 0, _ => omega
  | 1, _ => omega
  | 2, _ => omega
  | 3, _ => omega
theorem btTo_sure (b : List UInt8) (m off j : Nat) : (btTo b m off j).sure = List.replicate 8 z64 := by
  induction j with
  | zero => rfl
  | succ j ih => exact ih
theorem btTo_ws (b : List UInt8) (m off j : Nat) : (btTo b m off j).ws = (List.range j).map fun i => (btA m off i, pad [btC b i]) := by
  induction j with
  | zero => rfl
  | succ j ih =>
    show (btTo b m off j).ws ++ [_] = _
    rw [ih, List.range_succ, List.map_append]
    rfl
theorem btA_lt (m off i : Nat) : btA m off i < 8 := Nat.mod_lt _ (by omega)
theorem btFail (b : List UInt8) (m off keep : Nat) (hm : m < 4) (t : Nat) (ht : t ≤ 8) (i : Nat) (hi : i < 8) :
    (failTo (btTo b m off 8).sure (btTo b m off 8).ws keep (-1) t).getD (btA m off i) [] = if i < t ∧ keep.testBit i = true then pad [btC b i] else z64 := by
  have hs := btTo_sure b m off 8
  have hw := btTo_ws b m off 8
  induction t with
  | zero =>
    rw [failTo, hs, if_neg (by omega)]
    rw [List.getD_eq_getElem?_getD, List.getElem?_replicate, if_pos (btA_lt m off i), Option.getD_some]
  | succ t ih =>
    have hlt : t < (btTo b m off 8).ws.length := by rw [hw]; simp; omega
    rw [failTo_succ hlt]
    have hget : (btTo b m off 8).ws[t]'hlt = (btA m off t, pad [btC b t]) := by simp only [hw, List.getElem_map, List.getElem_range]
    rw [hget]
    have hfl := failTo_len (btTo b m off 8).sure (btTo b m off 8).ws keep (-1) t
    have h8 : (failTo (btTo b m off 8).sure (btTo b m off 8).ws keep (-1) t).length = 8 := by rw [hfl, hs]; simp
    have htn : tornN (-1) t = 64 := by unfold tornN; rw [if_neg (by omega)]
    have ih' := ih (by omega)
    unfold failStep
    by_cases hb : keep.testBit t = true
    · rw [if_pos hb, htn]
      by_cases e : t = i
      · subst e
        rw [if_pos ⟨by omega, hb⟩]
        have hal : btA m off t < (failTo (btTo b m off 8).sure (btTo b m off 8).ws keep (-1) t).length := by rw [h8]; exact btA_lt _ _ _
        simp only [List.getD_eq_getElem?_getD, List.getElem?_set_self hal, Option.getD_some]
        rw [List.getD_eq_getElem?_getD] at ih'
        rw [ih']
        refine lay_all ?_ (pad_len (by simp))
        split
        · exact pad_len (by simp)
        · simp [z64]
      · have hne : btA m off t ≠ btA m off i := fun h => e (btA_inj hm (by omega) hi h)
        have : (i < t + 1 ∧ keep.testBit i = true) ↔ (i < t ∧ keep.testBit i = true) := by constructor <;> (rintro ⟨h1, h2⟩; exact ⟨by omega, h2⟩)
        simp only [List.getD_eq_getElem?_getD] at ih' ⊢
        rw [List.getElem?_set_ne hne, ih']
        simp only [this]
    · rw [if_neg hb, ih']
      have : (i < t + 1 ∧ keep.testBit i = true) ↔ (i < t ∧ keep.testBit i = true) := by
        constructor
        · rintro ⟨h1, h2⟩
          refine ⟨?_, h2⟩
          rcases Nat.lt_or_ge i t with h' | h'
          · exact h'
          · rw [show i = t by omega] at h2; exact absurd h2 hb
        · rintro ⟨h1, h2⟩; exact ⟨by omega, h2⟩
      simp only [this]
theorem btView (b : List UInt8) (m off keep : Nat) (hm : m < 4) (i : Nat) (hi : i < 8) : ((btTo b m off 8).fail keep (-1)).view (btA m off i) = if keep.testBit i = true then pad [btC b i] else z64 := by
  show (failTo (btTo b m off 8).sure (btTo b m off 8).ws keep (-1) (min 64 (btTo b m off 8).ws.length)).getD (btA m off i) [] = _
  have : (btTo b m off 8).ws.length = 8 := by rw [btTo_ws]; simp
  rw [this, show min 64 8 = 8 from by decide, btFail b m off keep hm 8 (Nat.le_refl _) i hi]
  simp [hi]
theorem btHd (b : List UInt8) (m off keep : Nat) (hm : m < 4) (i : Nat) (hi : i < 8) : hd (((btTo b m off 8).fail keep (-1)).view (btA m off i)) = if keep.testBit i = true then btC b i else 0 := by
  rw [btView b m off keep hm i hi]
  split
  · rfl
  · rfl
theorem btLen (b : List UInt8) (m off j : Nat) : (btTo b m off j).sure.length = 8 := by rw [btTo_sure]; simp
theorem btFlen (b : List UInt8) (m off keep : Nat) : ((btTo b m off 8).fail keep (-1)).sure.length = 8 := by unfold Dk.fail; rw [failTo_len]; exact btLen b m off 8
theorem bit8 (keep k : Nat) (hk : keep < 256) : bits BinOp.and IntKind.u8 ((keep : Int) / 2 ^ k) 1 = if keep.testBit k = true then 1 else 0 := by
  have h1 : ((keep : Int) / 2 ^ k) = ((keep / 2 ^ k : Nat) : Int) := by simp
  have h2 : keep / 2 ^ k ≤ keep := Nat.div_le_self _ _
  rw [h1, Nat.testBit_eq_decide_div_mod_eq]
  generalize keep / 2 ^ k = q at *
  have := u8_and_nat q 1 (by omega) (by omega)
  rw [show ((1 : Nat) : Int) = 1 from rfl] at this
  rw [this, Nat.and_one_is_mod]
  by_cases h : q % 2 = 1 <;> simp [h] <;> omega
theorem orB (x y : UInt8) : bits BinOp.or IntKind.u8 (x.toNat : Int) (y.toNat : Int) = ((x ||| y).toNat : Int) := by
  rw [u8_or_nat x.toNat y.toNat x.toNat_lt y.toNat_lt, UInt8.toNat_or]

theorem wrap_u64' (n : Nat) (h : n < 18446744073709551616) : IntKind.u64.wrap (n : Int) = (n : Int) := by
  simp [IntKind.wrap, IntKind.signed, IntKind.bits]
  omega
set_option maxHeartbeats 16000000 in
set_option maxRecDepth 1000000 in
theorem bits_any (w : World) (b : List UInt8) (z : Int) (k0 k1 : UInt8) (hb8 : b.length = 8) (hz : (Lit.int .u8 z).wf = true) :
    Calls Try.prog 4 #[.agg (bcells b).toArray, .int .u8 z, .agg #[bv k0, bv k1]] w fun e w' => e = .returned (.bool true) ∧ Below w.heap.size w w' := by
  have zb := bounds_u8 hz
  obtain ⟨wy, rfl⟩ : ∃ wy : Nat, z = (wy : Int) := ⟨z.toNat, by omega⟩
  clear hz
  have hba : ∀ W : World, (Instr.box 36 (.agg (bcells b).toArray)).run Try.prog W = .ok (.pointer (some ⟨W.heap.size, 0, none⟩)) (W.alloc (.cells (bcells b).toArray 36)) := fun W => by
    simp [Instr.box, newVar, newRow, Value.cells]
  unfold bv
  obtain ⟨W0, hW0⟩ : ∃ W0, Hid (W0 = (w.alloc (.cells (bcells b).toArray 36)).alloc (.cells #[.int .u8 (k0.toNat : Int), .int .u8 (k1.toNat : Int)] 37)) := ⟨_, rfl⟩
  have hB0 : Below w.heap.size w W0 := by rw [hW0.out]; exact ((Below.refl _ _).alloc (Nat.le_refl _) _).alloc (by simp) _
  have hZ0 : w.heap.size ≤ W0.heap.size := hB0.size
  have ra : W0.heap[w.heap.size]? = some (.cells (bcells b).toArray 36 (0, 0)) := by rw [hW0.out]; exact last1 _ _ _
  have rk : W0.heap[w.heap.size + 1]? = some (.cells #[.int .u8 (k0.toNat : Int), .int .u8 (k1.toNat : Int)] 37 (0, 0)) := by rw [hW0.out]; exact last2 _ _ _
  have up : ∀ {W : World} {o : Obj} {g : Nat}, Below W0.heap.size W0 W → W0.heap[g]? = some o → W.heap[g]? = some o := fun hW h => (hW.block _ (lt_of_block h)).trans h
  obtain ⟨m, hm⟩ : ∃ m, m = wy % 4 := ⟨_, rfl⟩
  obtain ⟨off, hof⟩ : ∃ off, off = wy / 4 := ⟨_, rfl⟩
  have hm4 : m < 4 := by omega
  have ho63 : off ≤ 63 := by omega
  have t1 : ((wy : Int)).tmod 4 = (m : Int) := by rw [hm]; exact tmod_nat wy 4
  have t2 : ((wy : Int)).tdiv 4 = (off : Int) := by rw [hof]; rfl
  have t3 : ((wy : Int)) / 4 = (off : Int) := by omega
  have w8 : IntKind.u8.wrap (off : Int) = (off : Int) := by rw [IntKind.wrap_u8']; omega
  have wm := wrap_i64 m (by omega)
  have wo := wrap_i64 off (by omega)
  have wk0 := wrap_u64' k0.toNat (by have := k0.toNat_lt; omega)
  have wk1 := wrap_u64' k1.toNat (by have := k1.toNat_lt; omega)
  have hk0 := k0.toNat_lt
  have hk1 := k1.toNat_lt
  have hor := orB k0 k1
  obtain ⟨kz, hkz⟩ : ∃ kz, kz = k0 ||| k1 := ⟨_, rfl⟩
  rw [← hkz] at hor
  have hbz : ∀ i, kz.toNat.testBit i = (k0.toNat.testBit i || k1.toNat.testBit i) := fun i => by rw [hkz, UInt8.toNat_or, Nat.testBit_or]
  have wkz := wrap_u64' kz.toNat (by have := kz.toNat_lt; omega)
  have hkzl := kz.toNat_lt
  clear hm hof hkz
  go_enter Try.func4, Try.ntmps4
  go_wp2_with fail
  rw [← hW0.out]
  clear hba hW0
  refine (new_own W0 8 (by omega) (by omega)).mono ?_
  rintro e w1 ⟨B, rfl, b1, o1⟩
  have b1s := b1.size
  go_wp2_with fail
  go_loopw [10] (fun i wr => ∃ j : Nat, j ≤ 8 ∧ i = .int .i64 (j : Int) ∧ Own W0.heap.size wr B (btTo b m off j) ∧ Below W0.heap.size W0 wr ∧ W0.heap.size ≤ wr.heap.size) (fun i _ => 8 - (intOf i).toNat)
  case atStart => exact ⟨0, by omega, rfl, o1, b1, b1s⟩
  case round =>
    obtain ⟨j, hj, rfl, ho, hbr, hs⟩ := hrel
    by_cases hj8 : j < 8
    · have j1 : (j : Int) < 8 := by omega
      obtain ⟨x, hx⟩ : ∃ x, x = b[j]'(by omega) := ⟨_, rfl⟩
      have cx := row_cell (up hbr ra) (List.getElem?_eq_getElem (show j < b.length by omega))
      rw [← hx] at cx
      obtain ⟨c, hc⟩ : ∃ c, c = x ||| 1 := ⟨_, rfl⟩
      have hbc : btC b j = c := by unfold btC; rw [hc, hx]; simp [show j < b.length by omega]
      have hor1 : bits BinOp.or IntKind.u8 (x.toNat : Int) 1 = (c.toNat : Int) := by rw [hc]; exact orB x 1
      obtain ⟨p, hp⟩ : ∃ p, p = j * (m * 2 + 1) := ⟨_, rfl⟩
      have hpl : p ≤ 100 := by
        rw [hp]
        have h1 : m * 2 + 1 ≤ 7 := by omega
        have := Nat.mul_le_mul (show j ≤ 8 by omega) h1
        omega
      have hmul : (j : Int) * ((m : Int) * 2 + 1) = (p : Int) := by rw [hp]; simp
      obtain ⟨at_, hat⟩ : ∃ at_, at_ = btA m off j := ⟨_, rfl⟩
      have tat : ((p : Int) + (off : Int)).tmod 8 = (at_ : Int) := by rw [hat]; unfold btA; rw [← hp]; exact tmod_nat (p + off) 8
      have hat8 : at_ < 8 := by rw [hat]; exact btA_lt _ _ _
      have hsu : Hid (btTo b m off (j + 1) = (btTo b m off j).write at_ [c]) := by show _ = _; rw [btTo, hbc, hat]
      have hln := btLen b m off j
      have hwl : (btTo b m off j).ws.length ≤ 1000000 := by rw [btTo_ws]; simp; omega
      clear hx hc hbc hp hat
      generalize btTo b m off j = dj at *
      go_wp2_with fail
      have b2 := below_one wr (.cells #[.int .u8 (c.toNat : Int)] 5)
      refine (write_own (ho.below b2) (Nat.le_trans hs b2.size) at_ (by rw [hln]; exact hat8) _ [c] (lit_in wr [c] (0, 0) 5 (by simp)) (by simp) hwl).mono ?_
      rintro e w3 ⟨rfl, o3, b3⟩
      have b3w := (hbr.trans (b2.mono hs)).trans b3
      have s3 := Nat.le_trans (Nat.le_trans hs b2.size) b3.size
      go_wp2
      go_roundw
      case rel => exact ⟨j + 1, by omega, by go_num, (by rw [hsu.out]; exact o3), b3w, s3⟩
      case measure => simp [intOf]; omega
    · have ej : j = 8 := by omega
      subst ej
      have ck := pair_cell (up hbr rk)
      have ck0 := ck.1
      have ck1 := ck.2
      clear ck o1 b1
      obtain ⟨wo', rfl⟩ : ∃ wo', wo' = wr := ⟨_, rfl⟩
      go_wp2_with fail
      refine (al_fail ho hbr hs k0.toNat (by omega) (k0.toNat : Int) rfl (-1) (by decide)).mono ?_
      rintro e w4 ⟨Bx, rfl, b4, c4, x4⟩
      have o4 := ho.below c4
      have ck := pair_cell (up b4 rk)
      have ck0 := ck.1
      have ck1 := ck.2
      clear ck ho hbr c4
      go_wp2_with fail
      refine (al_fail o4 b4 b4.size k1.toNat (by omega) (k1.toNat : Int) rfl (-1) (by decide)).mono ?_
      rintro e w5 ⟨By, rfl, b5, c5, y5⟩
      have o5 := o4.below c5
      have x5 := x4.below c5
      have ck := pair_cell (up b5 rk)
      have ck0 := ck.1
      have ck1 := ck.2
      clear ck o4 b4 c5 x4
      go_wp2_with fail
      refine (al_fail o5 b5 b5.size kz.toNat (by omega) (kz.toNat : Int) rfl (-1) (by decide)).mono ?_
      rintro e w6 ⟨Bz, rfl, b6, c6, z6⟩
      have x6 := x5.below c6
      have y6 := y5.below c6
      have b6s := b6.size
      obtain ⟨bx, x7⟩ : ∃ bx, Own bx w6 Bx ((btTo b m off 8).fail k0.toNat (-1)) := ⟨_, x6⟩
      obtain ⟨by_, y7⟩ : ∃ by_, Own by_ w6 By ((btTo b m off 8).fail k1.toNat (-1)) := ⟨_, y6⟩
      obtain ⟨bz, z7⟩ : ∃ bz, Own bz w6 Bz ((btTo b m off 8).fail kz.toNat (-1)) := ⟨_, z6⟩
      clear o5 b5 c6 x5 y5 x6 y6 z6 ck0 ck1
      go_wp2_with fail
      go_loopw [17] (fun i wr => ∃ j : Nat, j ≤ 8 ∧ i = .int .i64 (j : Int) ∧ Own bx wr Bx ((btTo b m off 8).fail k0.toNat (-1)) ∧ Own by_ wr By ((btTo b m off 8).fail k1.toNat (-1)) ∧ Own bz wr Bz ((btTo b m off 8).fail kz.toNat (-1)) ∧ Below W0.heap.size W0 wr ∧ W0.heap.size ≤ wr.heap.size) (fun i _ => 8 - (intOf i).toNat)
      case atStart => exact ⟨0, by omega, rfl, x7, y7, z7, b6, b6s⟩
      case round =>
        obtain ⟨j, hj, rfl, hx, hy, hz, hbr, hs2⟩ := hrel
        by_cases hj8 : j < 8
        · have j1 : (j : Int) < 8 := by omega
          have fin : ∀ W, Below wr.heap.size wr W → ∃ j1 : Nat, j1 ≤ 8 ∧ Value.int .i64 ((j : Int) + 1) = .int .i64 (j1 : Int) ∧ Own bx W Bx ((btTo b m off 8).fail k0.toNat (-1)) ∧ Own by_ W By ((btTo b m off 8).fail k1.toNat (-1)) ∧ Own bz W Bz ((btTo b m off 8).fail kz.toNat (-1)) ∧ Below W0.heap.size W0 W ∧ W0.heap.size ≤ W.heap.size := fun W hW => ⟨j + 1, by omega, by simp, hx.below hW, hy.below hW, hz.below hW, hbr.trans (hW.mono hs2), Nat.le_trans hs2 hW.size⟩
          have finH : Hid (∀ W, Below wr.heap.size wr W → _) := fin
          obtain ⟨xb, hxb⟩ : ∃ x, x = b[j]'(by omega) := ⟨_, rfl⟩
          have cx := row_cell (up hbr ra) (List.getElem?_eq_getElem (show j < b.length by omega))
          rw [← hxb] at cx
          obtain ⟨c, hc⟩ : ∃ c, c = xb ||| 1 := ⟨_, rfl⟩
          have hbc : btC b j = c := by unfold btC; rw [hc, hxb]; simp [show j < b.length by omega]
          have hor1 : bits BinOp.or IntKind.u8 (xb.toNat : Int) 1 = (c.toNat : Int) := by rw [hc]; exact orB xb 1
          obtain ⟨p, hp⟩ : ∃ p, p = j * (m * 2 + 1) := ⟨_, rfl⟩
          have hpl : p ≤ 100 := by
            rw [hp]
            have h1 : m * 2 + 1 ≤ 7 := by omega
            have := Nat.mul_le_mul (show j ≤ 8 by omega) h1
            omega
          have hmul : (j : Int) * ((m : Int) * 2 + 1) = (p : Int) := by rw [hp]; simp
          obtain ⟨at_, hat⟩ : ∃ at_, at_ = btA m off j := ⟨_, rfl⟩
          have tat : ((p : Int) + (off : Int)).tmod 8 = (at_ : Int) := by rw [hat]; unfold btA; rw [← hp]; exact tmod_nat (p + off) 8
          have hat8 : at_ < 8 := by rw [hat]; exact btA_lt _ _ _
          have vx := btHd b m off k0.toNat hm4 j hj8
          have vy := btHd b m off k1.toNat hm4 j hj8
          have vz := btHd b m off kz.toNat hm4 j hj8
          rw [← hat, hbc] at vx vy vz
          rw [hbz j] at vz
          have lx := btFlen b m off k0.toNat
          have ly := btFlen b m off k1.toNat
          have lz := btFlen b m off kz.toNat
          have ck0 := (pair_cell (up hbr rk)).1
          have hb0 := bit8 k0.toNat j hk0
          clear hxb hc hbc hp hat fin
          generalize (btTo b m off 8).fail k0.toNat (-1) = dx at *
          generalize (btTo b m off 8).fail k1.toNat (-1) = dy at *
          generalize (btTo b m off 8).fail kz.toNat (-1) = dz at *
          by_cases h0 : k0.toNat.testBit j = true
          · by_cases h1 : k1.toNat.testBit j = true
            · skip
              rw [if_pos h0] at hb0 vx
              rw [if_pos h1] at vy
              rw [if_pos (by simp [h0])] at vz
              have kx : ∀ W, Below wr.heap.size wr W → _ := fun W hW => first_own (hx.below hW) at_ (by rw [lx]; exact hat8) (c.toNat : Int) (by rw [vx])
              have ky : ∀ W, Below wr.heap.size wr W → _ := fun W hW => first_own (hy.below hW) at_ (by rw [ly]; exact hat8) (c.toNat : Int) (by rw [vy])
              have kz' : ∀ W, Below wr.heap.size wr W → _ := fun W hW => first_own (hz.below hW) at_ (by rw [lz]; exact hat8) (c.toNat : Int) (by rw [vz])
              have hor2 : bits BinOp.or IntKind.u8 (c.toNat : Int) (c.toNat : Int) = (c.toNat : Int) := by have := orB c c; simpa using this
              clear hx hy hz vx vy vz lx ly lz h0 h1 hbz
              go_wp2_with fail
              refine (kx wr (Below.refl _ _)).mono ?_
              rintro e u1 ⟨rfl, d1⟩
              go_wp2_with fail
              refine (kz' u1 d1).mono ?_
              rintro e u2 ⟨rfl, d2'⟩
              have d2 := d1.trans (d2'.mono d1.size)
              go_wp2_with fail
              refine (kx u2 d2).mono ?_
              rintro e u3 ⟨rfl, d3'⟩
              have d3 := d2.trans (d3'.mono d2.size)
              go_wp2_with fail
              refine (ky u3 d3).mono ?_
              rintro e u4 ⟨rfl, d4'⟩
              have f4 := finH.out u4 (d3.trans (d4'.mono d3.size))
              clear kx ky kz' finH d1 d2 d2' d3 d3' d4'
              go_wp2
              go_roundw
              case rel => exact f4
              case measure => simp [intOf]; omega
            · skip
              rw [if_pos h0] at hb0 vx
              rw [if_neg h1] at vy
              rw [if_pos (by simp [h0])] at vz
              have kx : ∀ W, Below wr.heap.size wr W → _ := fun W hW => first_own (hx.below hW) at_ (by rw [lx]; exact hat8) (c.toNat : Int) (by rw [vx])
              have ky : ∀ W, Below wr.heap.size wr W → _ := fun W hW => first_own (hy.below hW) at_ (by rw [ly]; exact hat8) 0 (by rw [vy]; rfl)
              have kz' : ∀ W, Below wr.heap.size wr W → _ := fun W hW => first_own (hz.below hW) at_ (by rw [lz]; exact hat8) (c.toNat : Int) (by rw [vz])
              have hor2 : bits BinOp.or IntKind.u8 (c.toNat : Int) 0 = (c.toNat : Int) := by have := orB c 0; simpa using this
              clear hx hy hz vx vy vz lx ly lz h0 h1 hbz
              go_wp2_with fail
              refine (kx wr (Below.refl _ _)).mono ?_
              rintro e u1 ⟨rfl, d1⟩
              go_wp2_with fail
              refine (kz' u1 d1).mono ?_
              rintro e u2 ⟨rfl, d2'⟩
              have d2 := d1.trans (d2'.mono d1.size)
              go_wp2_with fail
              refine (kx u2 d2).mono ?_
              rintro e u3 ⟨rfl, d3'⟩
              have d3 := d2.trans (d3'.mono d2.size)
              go_wp2_with fail
              refine (ky u3 d3).mono ?_
              rintro e u4 ⟨rfl, d4'⟩
              have f4 := finH.out u4 (d3.trans (d4'.mono d3.size))
              clear kx ky kz' finH d1 d2 d2' d3 d3' d4'
              go_wp2
              go_roundw
              case rel => exact f4
              case measure => simp [intOf]; omega
          · by_cases h1 : k1.toNat.testBit j = true
            · skip
              rw [if_neg h0] at hb0 vx
              rw [if_pos h1] at vy
              rw [if_pos (by simp [h1])] at vz
              have kx : ∀ W, Below wr.heap.size wr W → _ := fun W hW => first_own (hx.below hW) at_ (by rw [lx]; exact hat8) 0 (by rw [vx]; rfl)
              have ky : ∀ W, Below wr.heap.size wr W → _ := fun W hW => first_own (hy.below hW) at_ (by rw [ly]; exact hat8) (c.toNat : Int) (by rw [vy])
              have kz' : ∀ W, Below wr.heap.size wr W → _ := fun W hW => first_own (hz.below hW) at_ (by rw [lz]; exact hat8) (c.toNat : Int) (by rw [vz])
              have hor2 : bits BinOp.or IntKind.u8 0 (c.toNat : Int) = (c.toNat : Int) := by have := orB 0 c; simpa using this
              clear hx hy hz vx vy vz lx ly lz h0 h1 hbz
              go_wp2_with fail
              refine (kx wr (Below.refl _ _)).mono ?_
              rintro e u1 ⟨rfl, d1⟩
              go_wp2_with fail
              refine (kz' u1 d1).mono ?_
              rintro e u2 ⟨rfl, d2'⟩
              have d2 := d1.trans (d2'.mono d1.size)
              go_wp2_with fail
              refine (kx u2 d2).mono ?_
              rintro e u3 ⟨rfl, d3'⟩
              have d3 := d2.trans (d3'.mono d2.size)
              go_wp2_with fail
              refine (ky u3 d3).mono ?_
              rintro e u4 ⟨rfl, d4'⟩
              have f4 := finH.out u4 (d3.trans (d4'.mono d3.size))
              clear kx ky kz' finH d1 d2 d2' d3 d3' d4'
              go_wp2
              go_roundw
              case rel => exact f4
              case measure => simp [intOf]; omega
            · skip
              rw [if_neg h0] at hb0 vx
              rw [if_neg h1] at vy
              rw [if_neg (by simp [h0, h1])] at vz
              have kx : ∀ W, Below wr.heap.size wr W → _ := fun W hW => first_own (hx.below hW) at_ (by rw [lx]; exact hat8) 0 (by rw [vx]; rfl)
              have ky : ∀ W, Below wr.heap.size wr W → _ := fun W hW => first_own (hy.below hW) at_ (by rw [ly]; exact hat8) 0 (by rw [vy]; rfl)
              have kz' : ∀ W, Below wr.heap.size wr W → _ := fun W hW => first_own (hz.below hW) at_ (by rw [lz]; exact hat8) 0 (by rw [vz]; rfl)
              have hor2 : bits BinOp.or IntKind.u8 0 0 = 0 := by decide
              clear hx hy hz vx vy vz lx ly lz h0 h1 hbz
              go_wp2_with fail
              refine (kx wr (Below.refl _ _)).mono ?_
              rintro e u1 ⟨rfl, d1⟩
              go_wp2_with fail
              refine (kz' u1 d1).mono ?_
              rintro e u2 ⟨rfl, d2'⟩
              have d2 := d1.trans (d2'.mono d1.size)
              go_wp2_with fail
              refine (kx u2 d2).mono ?_
              rintro e u3 ⟨rfl, d3'⟩
              have d3 := d2.trans (d3'.mono d2.size)
              go_wp2_with fail
              refine (ky u3 d3).mono ?_
              rintro e u4 ⟨rfl, d4'⟩
              have f4 := finH.out u4 (d3.trans (d4'.mono d3.size))
              clear kx ky kz' finH d1 d2 d2' d3 d3' d4'
              go_wp2
              go_roundw
              case rel => exact f4
              case measure => simp [intOf]; omega
        · have j1 : ¬ (j : Int) < 8 := by omega
          go_wp2_with fail
          refine (alive_any _).mono ?_
          rintro e w9 ⟨rfl, b9⟩
          go_wp2
          go_ret
          exact ⟨rfl, (hB0.trans (hbr.mono hZ0)).trans (b9.mono (Nat.le_trans hZ0 hs2))⟩
end Go.Proofs.Ytapfkoojplbfmab
