/- Texts of this proof, laid into one. -/
import Derived.Test.YtcgecdiaddcfkaaGreatDoorPGetM
import Derived.Test.YtcgecdiaddcfkaaGreatDoorPPutM
/- Get, of any bytes. -/
set_option linter.unusedSimpArgs false
set_option linter.unusedVariables false
namespace Go.Proofs.YtcgecdiaddcfkaaGreatDoor
open Go.RowKit

def msgV (m : MsgD) (vo vr : Value) : Value := .agg #[.int .u8 (m.say.toNat : Int), .int .u8 (m.src.toNat : Int), .int .u8 (m.dst.toNat : Int), .int .u32 (m.g.toNat : Int), vo, vr]
theorem MsgOwn_zero (w : World) (base : Nat) : MsgOwn w base (.slice none 0 0) (.slice none 0 0) zeroM :=
  ⟨World.ownsRow_nil _ _ _ _, [], ⟨World.ownsRow_nil _ _ _ _, fun p hp => (by cases hp), fun p hp => (by cases hp), List.Pairwise.nil⟩, rfl⟩
set_option maxHeartbeats 2000000 in
set_option maxRecDepth 1000000 in
theorem Get_short (w : World) (vb : Value) (bs : List UInt8) (hb : InAt w w.heap.size vb bs) (hl : bs.length < 11) :
    Calls Tryz.prog 17 #[vb] w fun e w' => e = .returned (.tuple #[.agg #[.int .u8 0, .int .u8 0, .int .u8 0, .int .u32 0, .slice none 0 0, .slice none 0 0], .int .i64 4]) ∧ Below w.heap.size w w' := by
  obtain ⟨ao, cap, rfl, h1, h2, -⟩ := hb
  unfold maxLen at h2
  have i1 : (bs.length : Int) < 11 := by omega
  have B1 := below_one w (.cells #[.int .u8 0, .int .u8 0, .int .u8 0, .int .u32 0, .slice none 0 0, .slice none 0 0] 27)
  have P1 := heap_alloc_new w (.cells #[.int .u8 0, .int .u8 0, .int .u8 0, .int .u32 0, .slice none 0 0, .slice none 0 0] 27)
  go_enter Tryz.func17, Tryz.ntmps17
  go_wp2
  generalize w.alloc (.cells #[.int .u8 0, .int .u8 0, .int .u8 0, .int .u32 0, .slice none 0 0, .slice none 0 0] 27) = w1 at *
  obtain ⟨t0, t1, t2, t3, t4, t5⟩ := six_cells P1
  refine bodyPost_ret (v := .tuple #[.agg #[.int .u8 0, .int .u8 0, .int .u8 0, .int .u32 0, .slice none 0 0, .slice none 0 0], .int .i64 4]) (by simp [results, Tryz.results17, go_sem, t0, t1, t2, t3, t4, t5]) rfl ⟨rfl, B1⟩

theorem Get_any (w : World) (vb : Value) (bs : List UInt8) (hb : InAt w w.heap.size vb bs) :
    Calls Tryz.prog 17 #[vb] w fun e w' => ∃ oa on oc ra rn rc, e = .returned (.tuple #[msgV (getM bs).1 (.slice oa on oc) (.slice ra rn rc), .int .i64 ((getM bs).2 : Int)]) ∧ MsgOwn w' w.heap.size (.slice oa on oc) (.slice ra rn rc) (getM bs).1 ∧ Below w.heap.size w w' := by
  have zero : getM bs = (zeroM, 4) → Calls Tryz.prog 17 #[vb] w (fun e w' => e = .returned (.tuple #[.agg #[.int .u8 0, .int .u8 0, .int .u8 0, .int .u32 0, .slice none 0 0, .slice none 0 0], .int .i64 4]) ∧ Below w.heap.size w w') → Calls Tryz.prog 17 #[vb] w fun e w' => ∃ oa on oc ra rn rc, e = .returned (.tuple #[msgV (getM bs).1 (.slice oa on oc) (.slice ra rn rc), .int .i64 ((getM bs).2 : Int)]) ∧ MsgOwn w' w.heap.size (.slice oa on oc) (.slice ra rn rc) (getM bs).1 ∧ Below w.heap.size w w' := by
    intro h k
    rw [h]
    refine k.mono ?_
    rintro e w' ⟨rfl, b⟩
    exact ⟨none, 0, 0, none, 0, 0, rfl, MsgOwn_zero _ _, b⟩
  by_cases hl : bs.length < 11
  · exact zero (by unfold getM; rw [if_pos hl]) (Get_short w vb bs hb hl)
  cases hh : (rawM bs).head with
  | false => exact zero (by unfold getM; rw [if_neg hl, if_neg (by simp [hh])]) (Get_head w vb bs hb hl hh)
  | true =>
    by_cases ho : numAt 7 bs ≤ bs.length - 11
    case neg => exact zero (by unfold getM; rw [if_neg hl, if_neg (fun h => ho h.2)]) (Get_over w vb bs hb hl hh ho)
    rcases getOps_cases ((bs.drop 11).take (numAt 7 bs)) with ⟨lo, hpo, -, -, -⟩ | hpo
    · rcases getRes_cases ((bs.drop 11).drop (numAt 7 bs)) with ⟨lr, hpr, -, -, -, -⟩ | hpr
      · have e1 : getM bs = (rawM bs, 0) := by unfold getM; rw [if_neg hl, if_pos ⟨hh, ho⟩, hpo, hpr, if_pos ⟨rfl, rfl⟩]
        have e2 : (rawM bs).ops = lo := by unfold rawM; rw [hpo]
        have e3 : (rawM bs).res = lr := by unfold rawM; rw [hpr]
        rw [e1]
        refine (Get_ok w vb bs hb hl hh ho lo lr hpo hpr).mono ?_
        rintro e w' ⟨oa, on, oc, ra, rn, rc, rfl, o1, o2, b⟩
        exact ⟨oa, on, oc, ra, rn, rc, rfl, ⟨by rw [e2]; exact o1, by rw [e3]; exact o2⟩, b⟩
      · exact zero (by unfold getM; rw [if_neg hl, if_pos ⟨hh, ho⟩, hpo, hpr, if_neg (by simp)]) (Get_badR w vb bs hb hl hh ho lo [] hpo hpr)
    · obtain ⟨lr, er, hpr⟩ : ∃ lr er, getRes ((bs.drop 11).drop (numAt 7 bs)) = (lr, er) := ⟨_, _, rfl⟩
      exact zero (by unfold getM; rw [if_neg hl, if_pos ⟨hh, ho⟩, hpo, if_neg (by simp)]) (Get_badO w vb bs hb hl hh ho [] lr er hpo hpr)
end Go.Proofs.YtcgecdiaddcfkaaGreatDoor
/- The walk of Put itself. -/
set_option linter.unusedSimpArgs false
set_option linter.unusedVariables false
namespace Go.Proofs.YtcgecdiaddcfkaaGreatDoor
open Go.RowKit

theorem put_ix0 (X : Nat) (W : World) : (Instr.index 67 (.agg #[(.func (.func 25) #[] #[.pointer (some ⟨X, 0, none⟩)]), (.func (.func 27) #[] #[.pointer (some ⟨X, 0, none⟩)]), (.func (.func 30) #[] #[.pointer (some ⟨X, 0, none⟩)])]) (.int .i64 0)).run Tryz.prog W = .ok (.func (.func 25) #[] #[.pointer (some ⟨X, 0, none⟩)]) W := by kernel_rfl
theorem put_ix1 (X : Nat) (W : World) : (Instr.index 67 (.agg #[(.func (.func 25) #[] #[.pointer (some ⟨X, 0, none⟩)]), (.func (.func 27) #[] #[.pointer (some ⟨X, 0, none⟩)]), (.func (.func 30) #[] #[.pointer (some ⟨X, 0, none⟩)])]) (.int .i64 1)).run Tryz.prog W = .ok (.func (.func 27) #[] #[.pointer (some ⟨X, 0, none⟩)]) W := by kernel_rfl
theorem put_ix2 (X : Nat) (W : World) : (Instr.index 67 (.agg #[(.func (.func 25) #[] #[.pointer (some ⟨X, 0, none⟩)]), (.func (.func 27) #[] #[.pointer (some ⟨X, 0, none⟩)]), (.func (.func 30) #[] #[.pointer (some ⟨X, 0, none⟩)])]) (.int .i64 2)).run Tryz.prog W = .ok (.func (.func 30) #[] #[.pointer (some ⟨X, 0, none⟩)]) W := by kernel_rfl

set_option maxHeartbeats 2000000 in
set_option maxRecDepth 1000000 in
theorem Put_any (w : World) (m : MsgD) (vo vr : Value) (l : List ResP) (ho : SlAt 4 opCells w w.heap.size vo m.ops) (hs : ∀ x ∈ m.ops, opSm x) (hr : ResAt w w.heap.size vr l) (hm : l.map (·.2) = m.res) :
    Calls Tryz.prog 7 #[.agg #[.int .u8 (m.say.toNat : Int), .int .u8 (m.src.toNat : Int), .int .u8 (m.dst.toNat : Int), .int .u32 (m.g.toNat : Int), vo, vr]] w fun e w' => ∃ a c, e = .returned (.tuple #[.slice a (putM m).1.length c, .int .i64 ((putM m).2 : Int)]) ∧ BsAt w' w.heap.size (.slice a (putM m).1.length c) (putM m).1 ∧ Below w.heap.size w w' := by
  obtain ⟨i0, hi, hz0, hz1, hz2⟩ := info_parts info_u8
  obtain ⟨ao, ca, hvo, -, -, -⟩ := id ho
  obtain ⟨bo, cb, hvr, -, -, -⟩ := id hr.1
  obtain ⟨na, hna⟩ : ∃ n, n = m.ops.length := ⟨_, rfl⟩
  obtain ⟨nb, hnb⟩ : ∃ n, n = l.length := ⟨_, rfl⟩
  rw [← hna] at hvo
  rw [← hnb] at hvr
  subst hvo
  subst hvr
  clear hna hnb
  have hmf : ∀ (fn : Fn) (first cap : Array Value) (w : World), (Instr.makeFunc fn first cap).run Tryz.prog w = .ok (.func fn first cap) w := fun _ _ _ _ => rfl
  obtain ⟨X, hX⟩ : ∃ X, X = w.heap.size := ⟨_, rfl⟩
  obtain ⟨W1, hW1⟩ : ∃ W1, W1 = w.alloc (.cells #[.int .u8 (m.say.toNat : Int), .int .u8 (m.src.toNat : Int), .int .u8 (m.dst.toNat : Int), .int .u32 (m.g.toNat : Int), .slice ao na ca, .slice bo nb cb] 27) := ⟨_, rfl⟩
  have B1 : Below w.heap.size w W1 := by rw [hW1]; exact below_one w _
  have Z1 : W1.heap.size = X + 1 := by rw [hW1, hX]; simp
  have C1 : MCell W1 X (m.say.toNat : Int) (m.src.toNat : Int) (m.dst.toNat : Int) (m.g.toNat : Int) (.slice ao na ca) (.slice bo nb cb) := by
    rw [hW1, hX]
    constructor <;> go_simp
  have k0 : ∀ W, Below W1.heap.size W1 W → Part 25 X (pe m 0) (pb m 0) W := fun W hW => part0 W X m ao bo na ca nb cb (C1.below (by omega) hW)
  have k1 : ∀ W, Below W1.heap.size W1 W → Part 27 X (pe m 1) (pb m 1) W := fun W hW => by
    have b := B1.trans (hW.mono B1.size)
    exact part1 W X m ao bo na ca nb cb _ _ _ _ (C1.below (by omega) hW) ((ho.below b (Nat.le_refl _)).mono b.size) hs
  have k2 : ∀ W, Below W1.heap.size W1 W → Part 30 X (pe m 2) (pb m 2) W := fun W hW => by
    have b := B1.trans (hW.mono B1.size)
    exact part2 W X m ao bo na ca nb cb _ _ _ _ (C1.below (by omega) hW) l ((hr.below b (Nat.le_refl _)).mono b.size) hm
  have pl := pre_len m
  have ql := pb_len m
  have one := put_one m
  have sum := put_sum m
  have pc := pe_cases m
  have s0 : psd m 0 = 0 := rfl
  have r0 : pre m 0 = [] := rfl
  have ss : ∀ k, psd m (k + 1) = if pe m k = 0 then psd m k else pe m k := fun _ => rfl
  have rs : ∀ k, pre m (k + 1) = pre m k ++ pb m k := fun _ => rfl
  clear ho hs hr hm C1
  generalize pe m = er at *
  generalize pb m = bs at *
  generalize psd m = sd at *
  generalize pre m = pr at *
  generalize putM m = pm at *
  obtain ⟨W2, hW2⟩ : ∃ W2, W2 = W1.alloc (.cells #[.func (.func 25) #[] #[.pointer (some ⟨w.heap.size, 0, none⟩)], .func (.func 27) #[] #[.pointer (some ⟨w.heap.size, 0, none⟩)], .func (.func 30) #[] #[.pointer (some ⟨w.heap.size, 0, none⟩)]] 67) := ⟨_, rfl⟩
  have B2 : Below W1.heap.size W1 W2 := by rw [hW2]; exact below_one W1 _
  have bw2 := B1.trans (B2.mono B1.size)
  replace k0 : ∀ W, Below W2.heap.size W2 W → Part 25 X (er 0) (bs 0) W := fun W hW => k0 W (B2.trans (hW.mono B2.size))
  replace k1 : ∀ W, Below W2.heap.size W2 W → Part 27 X (er 1) (bs 1) W := fun W hW => k1 W (B2.trans (hW.mono B2.size))
  replace k2 : ∀ W, Below W2.heap.size W2 W → Part 30 X (er 2) (bs 2) W := fun W hW => k2 W (B2.trans (hW.mono B2.size))
  clear B2 Z1 B1
  subst hX
  subst hW1
  have hi0 := put_ix0 w.heap.size
  have hi1 := put_ix1 w.heap.size
  have hi2 := put_ix2 w.heap.size
  go_enter Tryz.func7, Tryz.ntmps7
  go_wp2
  rw [← hW2]
  clear hW2
  go_loopw [5, 6, 16] (fun made said i wr => ∃ k : Nat, k ≤ 3 ∧ i = .int .i64 (k : Int) ∧ said = .int .i64 (sd k : Int) ∧ (∀ j, j < k → er j ≠ 1) ∧ BsAt wr W2.heap.size made (pr k) ∧ Below W2.heap.size W2 wr) (fun _ _ i _ => 3 - (intOf i).toNat)
  case atStart => exact ⟨0, by omega, rfl, by rw [s0]; rfl, fun j hj => by omega, by rw [r0]; exact BsAt_nil _ _, Below.refl _ _⟩
  case round =>
    obtain ⟨k, hk, rfl, rfl, hne, hO, hB⟩ := hrel
    obtain ⟨ma, mc, rfl⟩ := own_len hO
    by_cases h3 : k < 3
    · have hz := hB.size
      have plk := pl k
      have qlk := ql k
      have fin : ∀ v' w3, w3.ownsRow W2.heap.size 5 1 v' ((pr k).length + (bs k).length) (bcells (pr k) ++ bcells (bs k)) → ∀ u, Below wr.heap.size wr u → u.grownBy w3 (Value.ownBlock (.slice ma (pr k).length mc)) → BsAt w3 W2.heap.size v' (pr (k + 1)) ∧ Below W2.heap.size W2 w3 := fun v' w3 ho u hu hg => by
        rw [rs k]
        have R := bs_next (W := u) (hO.below hu) (hB.trans (hu.mono hz)) (Nat.le_trans hz hu.size) ho hg
        exact R
      have hsk := ss k
      have kk : Calls Tryz.prog (if k = 0 then 25 else if k = 1 then 27 else 30) #[.pointer (some ⟨w.heap.size, 0, none⟩)] wr fun e w' => ∃ a c, e = .returned (.tuple #[.slice a (bs k).length c, .int .i64 (er k : Int)]) ∧ BsAt w' wr.heap.size (.slice a (bs k).length c) (bs k) ∧ Below wr.heap.size wr w' := by
        rcases (show k = 0 ∨ k = 1 ∨ k = 2 by omega) with rfl | rfl | rfl
        · refine (k0 wr hB).mono ?_
          rintro e w' ⟨a, n, c, rfl, o, b⟩
          obtain ⟨a', c', e⟩ := own_len o
          cases e
          exact ⟨_, _, rfl, o, b⟩
        · refine (k1 wr hB).mono ?_
          rintro e w' ⟨a, n, c, rfl, o, b⟩
          obtain ⟨a', c', e⟩ := own_len o
          cases e
          exact ⟨_, _, rfl, o, b⟩
        · refine (k2 wr hB).mono ?_
          rintro e w' ⟨a, n, c, rfl, o, b⟩
          obtain ⟨a', c', e⟩ := own_len o
          cases e
          exact ⟨_, _, rfl, o, b⟩
      have hn1 : Hid (er k ≠ 1 → ∀ j, j < k + 1 → er j ≠ 1) := fun h j hj => by
        by_cases e : j = k
        · rw [e]; exact h
        · exact hne j (by omega)
      have o1 := one k h3
      clear k0 k1 k2 pl ql hne s0 r0 ss rs
      rcases pc k with h0 | h1 | ⟨h4, h5⟩
      · have hs1 : Hid (sd (k + 1) = sd k) := by show _ = _; rw [hsk, if_pos h0]
        have hn2 : Hid (∀ j, j < k + 1 → er j ≠ 1) := hn1.out (by omega)
        rw [h0] at kk
        clear hsk o1 h0 one hn1 pc sum
        rcases (show k = 0 ∨ k = 1 ∨ k = 2 by omega) with rfl | rfl | rfl
        all_goals
          simp only [if_true, if_false, Nat.one_ne_zero, Nat.reduceEqDiff, Nat.reduceAdd, ↓reduceIte] at kk
          simp only [show ((0 : Nat) : Int) = 0 from rfl, show ((1 : Nat) : Int) = 1 from rfl, show ((2 : Nat) : Int) = 2 from rfl]
          go_wp2_with fail
          refine kk.mono ?_
          rintro e w4 ⟨a, c, rfl, o4, b4⟩
          have hO4 := hO.below b4
          have sr := src_inP (in_own o4)
          have z4 := Nat.le_trans hz b4.size
          clear kk
          go_wp2_with (at_builtin; refine wpList_append_own_src _ rfl (.tmp 30) (.tmp 31) 30 30 rfl W2.heap.size 5 i0 (.int .u8 0) 1 1 Tryz.underlying30 hi hz0 hz1 hz2 rfl (by decide) _ _ _ rfl hO4 _ _ _ rfl sr (by unfold maxLen; omega) (by omega) z4 ?_; intro v' w5 ho5 hg5 _; have R := fin v' w5 ho5 w4 b4 hg5; obtain ⟨a5, n5, c5, rfl⟩ := own_slice ho5)
          go_roundw
          case rel => exact ⟨_ + 1, by omega, by first | rfl | go_num, by rw [hs1.out] <;> rfl, hn2.out, R⟩
          case measure => simp [intOf]
      · rw [h1] at kk
        obtain rfl := o1 h1
        clear hsk o1 h1 one hn1 pc sum
        rcases (show k = 0 ∨ k = 1 ∨ k = 2 by omega) with rfl | rfl | rfl
        all_goals
          simp only [if_true, if_false, Nat.one_ne_zero, Nat.reduceEqDiff, Nat.reduceAdd, ↓reduceIte] at kk
          simp only [show ((0 : Nat) : Int) = 0 from rfl, show ((1 : Nat) : Int) = 1 from rfl, show ((2 : Nat) : Int) = 2 from rfl]
          go_wp2_with fail
          refine kk.mono ?_
          rintro e w4 ⟨a, c, rfl, o4, b4⟩
          have b5 := bw2.trans ((hB.trans (b4.mono hz)).mono bw2.size)
          clear kk o4 b4 fin
          go_wp2
          go_ret2
          exact ⟨_, _, rfl, BsAt_nil _ _, b5⟩
      · have hs1 : Hid (sd (k + 1) = 3) := by show _ = _; rw [hsk, if_neg (by omega), h4]
        have hn2 : Hid (∀ j, j < k + 1 → er j ≠ 1) := hn1.out (by omega)
        rw [h4] at kk
        clear hsk o1 h4 one hn1 pc sum h5
        rcases (show k = 0 ∨ k = 1 ∨ k = 2 by omega) with rfl | rfl | rfl
        all_goals
          simp only [if_true, if_false, Nat.one_ne_zero, Nat.reduceEqDiff, Nat.reduceAdd, ↓reduceIte] at kk
          simp only [show ((0 : Nat) : Int) = 0 from rfl, show ((1 : Nat) : Int) = 1 from rfl, show ((2 : Nat) : Int) = 2 from rfl]
          go_wp2_with fail
          refine kk.mono ?_
          rintro e w4 ⟨a, c, rfl, o4, b4⟩
          have hO4 := hO.below b4
          have sr := src_inP (in_own o4)
          have z4 := Nat.le_trans hz b4.size
          clear kk
          go_wp2_with (at_builtin; refine wpList_append_own_src _ rfl (.tmp 30) (.tmp 31) 30 30 rfl W2.heap.size 5 i0 (.int .u8 0) 1 1 Tryz.underlying30 hi hz0 hz1 hz2 rfl (by decide) _ _ _ rfl hO4 _ _ _ rfl sr (by unfold maxLen; omega) (by omega) z4 ?_; intro v' w5 ho5 hg5 _; have R := fin v' w5 ho5 w4 b4 hg5; obtain ⟨a5, n5, c5, rfl⟩ := own_slice ho5)
          go_roundw
          case rel => exact ⟨_ + 1, by omega, by first | rfl | go_num, by rw [hs1.out] <;> rfl, hn2.out, R⟩
          case measure => simp [intOf]
    · obtain rfl : k = 3 := by omega
      have b5 := bw2.trans (hB.mono bw2.size)
      have o5 := hO.mono bw2.size
      rcases sum hne with ⟨h1, h2⟩ | ⟨h1, h2⟩
      · subst h2
        rw [h1]
        clear k0 k1 k2 pl ql hne one sum pc ss rs hB hO
        go_wp2
        go_ret2
        exact ⟨_, _, rfl, o5, b5⟩
      · subst h2
        rw [h1]
        clear k0 k1 k2 pl ql hne one sum pc ss rs hB hO
        go_wp2
        go_ret2
        exact ⟨_, _, rfl, BsAt_nil _ _, b5⟩
end Go.Proofs.YtcgecdiaddcfkaaGreatDoor
