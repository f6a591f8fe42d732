/- The walk of ClocksShift. -/
import Derived.Test.YtboinccdnaddmabCkUtil
set_option linter.unusedSimpArgs false
set_option linter.unusedVariables false
namespace Go.Proofs.Ytboinccdnaddmab
open Go.RowKit Go.Maps

/-- The one clock is behind by I ticks. -/
def Behind (I : Nat) (f g : Nat → Option Nat) : Prop := ∀ x t, f x = some t ↔ ∃ s, g x = some s ∧ t = s + I
def Soon (j : Nat) (g : Nat → Option Nat) : Prop := ∀ x s, g x = some s → x < 7 ∧ j < s ∧ s ≤ 40
theorem Soon.near {j : Nat} {g : Nat → Option Nat} (h : Soon j g) : Near g := fun x t hx => by have := h x t hx; omega
theorem Behind.near {I j : Nat} {f g : Nat → Option Nat} (hb : Behind I f g) (h : Soon j g) (hI : I < 256) : Near f := fun x t hx => by
  obtain ⟨s, hs, rfl⟩ := (hb x t).1 hx
  have := h x s hs; omega
theorem Behind.set {I : Nat} {f g : Nat → Option Nat} (hb : Behind I f g) (r m : Nat) : Behind I (updF f r (some (I + m))) (updF g r (some (0 + m))) := fun x t => by
  by_cases e : x = r
  · subst e; rw [updF_same, updF_same]; simp; omega
  · rw [updF_other _ _ e, updF_other _ _ e]; exact hb x t
theorem Soon.set {g : Nat → Option Nat} (h : Soon 0 g) {r m : Nat} (hr : r < 7) (h1 : 1 ≤ m) (h2 : m ≤ 40) : Soon 0 (updF g r (some (0 + m))) := fun x s hx => by
  by_cases e : x = r
  · subst e; rw [updF_same] at hx; simp at hx; omega
  · rw [updF_other _ _ e] at hx; exact h x s hx
theorem Behind.tick {I : Nat} {f g : Nat → Option Nat} (hb : Behind I f g) (k : Nat) : Behind I (tickF f (I + k)) (tickF g k) := fun x t => by
  unfold tickF
  cases hg : g x with
  | none =>
    have hf : ∀ t, f x ≠ some t := fun t q => by obtain ⟨s, hs, -⟩ := (hb x t).1 q; rw [hg] at hs; cases hs
    constructor
    · intro q; split at q
      · cases q
      · exact absurd q (hf t)
    · rintro ⟨s, hs, -⟩; simp at hs
  | some s =>
    have hf : f x = some (s + I) := (hb x _).2 ⟨s, hg, rfl⟩
    rw [hf]
    by_cases e : s = k
    · subst e
      rw [if_pos (by rw [Nat.add_comm]), if_pos rfl]; simp
    · rw [if_neg (by simp; omega), if_neg (by simp; exact e)]; simp; omega
theorem Soon.tick {j : Nat} {g : Nat → Option Nat} (h : Soon j g) : Soon (j + 1) (tickF g (j + 1)) := fun x s hx => by
  unfold tickF at hx
  split at hx
  · cases hx
  · rename_i hne
    have := h x s hx
    rw [hx] at hne
    simp at hne
    omega
set_option maxHeartbeats 1000000 in
set_option maxRecDepth 1000000 in
theorem shift_walk (w : World) (I : Nat) (hI : I < 256) (vo : Value) (os : List UInt8) (ho : InAt w w.heap.size vo os) :
    Calls Try.prog 4 #[.int .u8 (I : Int), vo] w fun e w' => e = .returned (.bool true) ∧ Below w.heap.size w w' := by
  have ka := alive_ok
  obtain ⟨bo, cb, rfl, hb1, hb2, hb3⟩ := in_cells ho
  clear ho
  go_enter Try.func4, Try.ntmps4
  go_wp2_with fail
  refine (ka w).mono ?_
  rintro e w1 ⟨rfl, b1⟩
  by_cases h60 : 60 < os.length
  · have h60z : (60 : Int) < (os.length : Int) := by omega
    clear hb3
    go_wp2_with fail
    refine (ka w1).mono ?_
    rintro e w2 ⟨rfl, b2⟩
    go_wp2
    go_ret
    exact ⟨rfl, b1.trans (b2.mono b1.size)⟩
  · have h60z : ¬ (60 : Int) < (os.length : Int) := by omega
    obtain ⟨l, hl⟩ : ∃ l, l = os.length := ⟨_, rfl⟩
    rw [← hl] at hb1 hb3 h60 h60z ⊢
    obtain ⟨oc, hoc⟩ : ∃ oc : Nat → UInt8, ∀ k, oc k = os.getD k 0 := ⟨fun k => os.getD k 0, fun _ => rfl⟩
    have HB : Hid (0 < l → ∃ b off, bo = some ⟨b, off, none⟩ ∧ b < w.heap.size ∧ ∀ k, k < l → w.cell? ⟨b, off + k, none⟩ = some (.int .u8 ((oc k).toNat : Int))) := fun h => by simp only [hoc]; exact hb3 h
    clear hb3 hl hoc ka
    have kn := New_ok w1
    go_wp2_with fail
    refine kn.mono ?_
    rintro e w2 ⟨rfl, s1⟩
    clear kn
    obtain ⟨A, hA⟩ : ∃ A, A = w1.heap.size + 3 := ⟨_, rfl⟩
    rw [← hA] at s1 ⊢
    clear hA
    have kn := New_ok w2
    go_wp2_with fail
    refine kn.mono ?_
    rintro e w3 ⟨rfl, s2⟩
    clear kn
    obtain ⟨B, hB⟩ : ∃ B, B = w2.heap.size + 3 := ⟨_, rfl⟩
    rw [← hB] at s2 ⊢
    clear hB
    have S3 : Hid (St noB w1 w3 [clkP A 0 noneD 0, clkP B 0 noneD 0]) := (s1.and s2).swap
    clear s1 s2
    go_wp2_with fail
    go_loopw [7] (fun v W => ∃ i : Nat, v = .int .i64 i ∧ i ≤ I ∧ St noB w1 W [clkP A i noneD 0, clkP B 0 noneD 0]) (fun v _ => I - (intOf v).toNat)
    case atStart => exact ⟨0, rfl, by omega, S3.out⟩
    case round =>
      obtain ⟨i, rfl, hi, s4⟩ := hrel
      clear S3
      by_cases hiI : i < I
      · have kt := Tick_ok (by omega) (by omega) near_none s4
        rw [tickF_idle (fun x h => by cases h)] at kt
        clear s4
        go_wp2_with fail
        refine kt.mono ?_
        rintro e w5 ⟨v, ys, rfl, h1, h2, h3, s5⟩
        obtain rfl := nil_of h2 (fun x h => by cases h)
        obtain ⟨ao, cap, hv, -⟩ := row_form s5.row
        subst hv
        have S5 : Hid (St noB w1 w5 [clkP A (i + 1) noneD 0, clkP B 0 noneD 0]) := s5.drop
        clear kt s5 h1 h2 h3
        go_wp2
        go_roundw
        case rel => exact ⟨i + 1, by go_num, by omega, S5.out⟩
        case measure => (simp [intOf]; try omega)
      · obtain rfl : i = I := by omega
        have S4 : Hid (St noB w1 wr [clkP A i noneD 0, clkP B 0 noneD 0]) := s4
        clear s4
        go_wp2_with fail
        go_loopw [8] (fun v W => ∃ (k : Nat) (f g : Nat → Option Nat), v = .int .i64 k ∧ k ≤ l ∧ Behind i f g ∧ Soon 0 g ∧ St noB w1 W [clkP A i f k, clkP B 0 g k]) (fun v _ => l - (intOf v).toNat)
        case atStart => exact ⟨0, noneD, noneD, rfl, by omega, fun x t => ⟨fun h => (by cases h), fun ⟨s, h, _⟩ => (by cases h)⟩, fun x s h => (by cases h), S4.out⟩
        case round =>
          obtain ⟨k, f, g, rfl, hk, hbe, hso, s6⟩ := hrel
          clear S4
          by_cases hkl : k < l
          · obtain ⟨bb, ob, rfl, hbb, hcb⟩ := HB.out (by omega)
            have BW : Below w.heap.size w wr := b1.trans (s6.below.mono b1.size)
            obtain ⟨x, hx⟩ : ∃ x, x = (oc k).toNat := ⟨_, rfl⟩
            have q0 : wr.cell? ⟨bb, ob + k, none⟩ = some (.int .u8 (x : Int)) := by rw [hx]; exact (BW.cell (p := ⟨bb, ob + k, none⟩) hbb).trans (hcb k hkl)
            have hx256 : x < 256 := by rw [hx]; exact (oc k).toNat_lt
            obtain ⟨r, hr⟩ : ∃ r : Nat, r = k % 7 := ⟨_, rfl⟩
            obtain ⟨m, hm⟩ : ∃ m : Nat, m = 1 + x % 40 := ⟨_, rfl⟩
            have HR : Hid ((k : Int) % 7 = (r : Int)) := by show _ = _; omega
            have HM : Hid ((1 : Int) + (x : Int) % 40 = (m : Int)) := by show _ = _; omega
            have hm1 : 1 ≤ m := by omega
            have hm2 : m ≤ 40 := by omega
            have hr7 : r < 7 := by omega
            have kx := Set_ok r m (by omega) (by omega) (by omega) (by omega) (by omega) (hbe.near hso hI) s6
            have HBe : Hid (Behind i (updF f r (some (i + m))) (updF g r (some (0 + m)))) := hbe.set r m
            have HSo : Hid (Soon 0 (updF g r (some (0 + m)))) := hso.set hr7 hm1 hm2
            have hN := hso.near
            clear hr hm hx hcb BW s6 hbe hso
            go_wp2_with fail
            rw [HR.out, HM.out]
            refine kx.mono ?_
            rintro e w7 ⟨rfl, s7⟩
            have ky := Set_ok r m (by omega) (by omega) (by omega) (by omega) (by omega) hN s7.swap
            clear kx s7 q0
            go_wp2_with fail
            rw [HR.out]
            refine ky.mono ?_
            rintro e w8 ⟨rfl, s8⟩
            have S8 : Hid (St noB w1 w8 [clkP A i (updF f r (some (i + m))) (k + 1), clkP B 0 (updF g r (some (0 + m))) (k + 1)]) := s8.swap
            clear ky s8
            go_wp2_with fail
            go_roundw
            case rel => exact ⟨k + 1, _, _, by go_num, by omega, HBe.out, HSo.out, S8.out⟩
            case measure => (simp [intOf]; try omega)
          · obtain rfl : k = l := by omega
            have S6 : Hid (Behind i f g ∧ Soon 0 g ∧ St noB w1 wr [clkP A i f k, clkP B 0 g k]) := ⟨hbe, hso, s6⟩
            clear s6 hbe hso HB
            go_wp2_with fail
            go_loopw [10] (fun v W => ∃ (j : Nat) (f g : Nat → Option Nat), v = .int .i64 j ∧ j ≤ 41 ∧ Behind i f g ∧ Soon j g ∧ St noB w1 W [clkP A (i + j) f k, clkP B j g k]) (fun v _ => 41 - (intOf v).toNat)
            case atStart => exact ⟨0, f, g, rfl, by omega, S6.out⟩
            case round =>
              clear S6
              clear f g
              obtain ⟨j, f, g, rfl, hj, hbe, hso, s7⟩ := hrel
              by_cases hj41 : j < 41
              · have j1 : (j : Int) ≤ 40 := by omega
                have kt := Tick_ok (by omega) (by omega) (hbe.near hso hI) s7
                have HBe : Hid (Behind i (tickF f (i + (j + 1))) (tickF g (j + 1))) := hbe.tick (j + 1)
                have HSo : Hid (Soon (j + 1) (tickF g (j + 1))) := hso.tick
                have hN := hso.near
                have hE : Hid (∀ x, f x = some (i + j + 1) ↔ g x = some (j + 1)) := fun x => by
                  rw [hbe x]
                  constructor
                  · rintro ⟨s, hs, e⟩; rw [hs]; congr 1; omega
                  · intro q; exact ⟨_, q, by omega⟩
                clear s7 hbe hso
                go_wp2_with fail
                refine kt.mono ?_
                rintro e w8 ⟨v, ys, rfl, h1, h2, h3, s8⟩
                have ku := Tick_ok (by omega) (by omega) hN (s8.rt (K := [_, _, _]) 3 [2, 0, 1] (by decide))
                obtain ⟨ao, cap, hv, -⟩ := row_form s8.row
                subst hv
                clear kt s8
                go_wp2_with fail
                refine ku.mono ?_
                rintro e w9 ⟨v, zs, rfl, g1, g2, g3, s9⟩
                obtain rfl : zs = ys := told_is g1 g2 h1 (fun x => (hE.out x).symm.trans (h2 x).symm)
                have s10 := s9.rt (K := [_, _, _, _]) 4 [2, 0, 3, 1] (by decide)
                have ks := sameIds_ok w9 _ v _ _ (ids_row s10.row) (ids_row (s10.pick 1 rfl).row)
                have S10 : Hid (St noB w1 w9 [clkP A (i + (j + 1)) (tickF f (i + (j + 1))) k, clkP B (j + 1) (tickF g (j + 1)) k]) := s10.drop.drop
                obtain ⟨av, cv, hv, -⟩ := row_form (s10.pick 1 rfl).row
                subst hv
                clear s9 s10 ku h1 h2 h3 g1 g2 g3 hN hE
                go_wp2_with fail
                refine ks.mono ?_
                rintro e w10 ⟨rfl, n6, rfl⟩
                have S11 : Hid (St noB w1 (w9.drewN n6) [clkP A (i + (j + 1)) (tickF f (i + (j + 1))) k, clkP B (j + 1) (tickF g (j + 1)) k]) := S10.out.up (below_drewN _ _)
                clear ks S10
                rw [show decide True = true from decide_eq_true trivial]
                go_wp2
                go_roundw
                case rel => exact ⟨j + 1, _, _, by go_num, by omega, HBe.out, HSo.out, S11.out⟩
                case measure => (simp [intOf]; try omega)
              · obtain rfl : j = 41 := by omega
                have hf : f 0 = none := by
                  cases q : f 0 with
                  | none => rfl
                  | some t =>
                    obtain ⟨s, hs, -⟩ := (hbe 0 t).1 q
                    have := hso 0 s hs
                    omega
                have kl := Left_none 0 (by omega) hf s7
                have BB : Hid (Below w1.heap.size w1 wr) := s7.below
                clear s7 hbe hso
                go_wp2_with fail
                refine kl.mono ?_
                rintro e wz ⟨rfl, ew⟩
                rw [← ew]
                clear ew wz kl
                go_wp2
                go_ret
                exact ⟨rfl, b1.trans (BB.out.mono b1.size)⟩
theorem shift_any (w : World) (vo : Value) (a : Int) (os : List UInt8) (ha : (Lit.int .u8 a).wf = true) (ho : InAt w w.heap.size vo os) :
    Calls Try.prog 4 #[.int .u8 a, vo] w fun e w' => e = .returned (.bool true) ∧ Below w.heap.size w w' := by
  obtain ⟨q, rfl⟩ := nat_u8 ha
  exact shift_walk w q.toNat q.toNat_lt vo os ho
end Go.Proofs.Ytboinccdnaddmab
