/- The walk of alive. -/
import Derived.Test.YtboinccdnaddmabCkHelp
set_option linter.unusedSimpArgs false
set_option linter.unusedVariables false
namespace Go.Proofs.Ytboinccdnaddmab
open Go.RowKit Go.Maps

def aF1 : Nat → Option Nat := updF (updF (updF noneD 7 (some (0 + 2))) 5 (some (0 + 2))) 6 (some (0 + 1))
def aF2 : Nat → Option Nat := tickF aF1 (0 + 1)
def aF3 : Nat → Option Nat := tickF aF2 (0 + 1 + 1)
def aF4 : Nat → Option Nat := updF (updF aF3 1 (some (0 + 1 + 1 + 3))) 1 (some (0 + 1 + 1 + 1))
def aF5 : Nat → Option Nat := tickF aF4 (0 + 1 + 1 + 1)
theorem aF1_eq (x : Nat) : aF1 x = if x = 6 then some 1 else if x = 5 then some 2 else if x = 7 then some 2 else none := by
  unfold aF1 updF noneD; rfl
theorem aF2_eq (x : Nat) : aF2 x = if x = 5 then some 2 else if x = 7 then some 2 else none := by
  unfold aF2 tickF
  rw [aF1_eq]
  by_cases h6 : x = 6
  · subst h6; rfl
  · by_cases h5 : x = 5
    · subst h5; rfl
    · by_cases h7 : x = 7
      · subst h7; rfl
      · simp [h6, h5, h7]
theorem aF3_eq (x : Nat) : aF3 x = none := by
  unfold aF3 tickF
  rw [aF2_eq]
  by_cases h5 : x = 5
  · subst h5; rfl
  · by_cases h7 : x = 7
    · subst h7; rfl
    · simp [h5, h7]
theorem aF4_eq (x : Nat) : aF4 x = if x = 1 then some 3 else none := by
  unfold aF4 updF
  rw [aF3_eq]
  by_cases h : x = 1
  · subst h; rfl
  · simp [h]
theorem aF5_eq (x : Nat) : aF5 x = none := by
  unfold aF5 tickF
  rw [aF4_eq]
  by_cases h : x = 1
  · subst h; rfl
  · simp [h]
theorem told_is {ys zs : List Nat} {f : Nat → Option Nat} {t : Nat} (h1 : ys.Pairwise (· < ·)) (h2 : ∀ x, x ∈ ys ↔ f x = some t) (h3 : zs.Pairwise (· < ·)) (h4 : ∀ x, f x = some t ↔ x ∈ zs) : ys = zs :=
  asc_ext h1 h3 (fun x => (h2 x).trans (h4 x))
theorem lit_ids (w : World) (zs : List Nat) (h : zs.length ≤ 100) : IdsAt (w.alloc (.cells (zs.map u32V).toArray 28)) (.slice (some ⟨w.heap.size, 0, none⟩) zs.length zs.length) zs := by
  have := lit_own w 28 1 u32c_len zs (by unfold maxLen; omega) (by rw [flat_u32]; simp)
  have h2 := sl_own u32c_len this
  rw [flat_u32] at h2
  exact h2
set_option maxHeartbeats 1000000 in
set_option maxRecDepth 1000000 in
theorem alive_ok (w : World) : Calls Try.prog 5 #[] w fun e w' => e = .returned (.bool true) ∧ Below w.heap.size w w' := by
  have kn := New_ok w
  go_enter Try.func5, Try.ntmps5
  go_wp2_with fail
  refine kn.mono ?_
  rintro e w1 ⟨rfl, s1⟩
  clear kn
  obtain ⟨C, hC⟩ : ∃ C, C = w.heap.size + 3 := ⟨_, rfl⟩
  rw [← hC] at s1 ⊢
  clear hC
  have n0 : Near noneD := near_none
  have k1 := Set_ok 7 2 (by omega) (by omega) (by omega) (by omega) (by omega) n0 s1
  clear s1
  go_wp2_with fail
  refine k1.mono ?_
  rintro e w2 ⟨rfl, s2⟩
  have n1 := n0.set (id := 7) (t := 0 + 2) (by omega) (by omega)
  have k2 := Set_ok 5 2 (by omega) (by omega) (by omega) (by omega) (by omega) n1 s2
  clear s2 k1
  go_wp2_with fail
  refine k2.mono ?_
  rintro e w3 ⟨rfl, s3⟩
  have n2 := n1.set (id := 5) (t := 0 + 2) (by omega) (by omega)
  have k3 := Set_ok 6 1 (by omega) (by omega) (by omega) (by omega) (by omega) n2 s3
  clear s3 k2
  go_wp2_with fail
  refine k3.mono ?_
  rintro e w4 ⟨rfl, s4⟩
  have n3 : Near aF1 := n2.set (id := 6) (t := 0 + 1) (by omega) (by omega)
  have s4 : St noB w w4 [clkP C 0 aF1 3] := s4
  have k4 := Tick_ok (by omega) (by omega) n3 s4
  clear s4 k3 n0 n1 n2
  go_wp2_with fail
  refine k4.mono ?_
  rintro e w5 ⟨va, ya, rfl, a1, a2, a3, s5⟩
  obtain rfl : ya = [6] := told_is a1 a2 (by simp) (fun x => by rw [aF1_eq]; by_cases h6 : x = 6; subst h6; simp; by_cases h5 : x = 5; subst h5; simp; by_cases h7 : x = 7; subst h7; simp; simp [h6, h5, h7])
  have n4 : Near aF2 := n3.told _
  have s5 : St noB w w5 (Part.row 28 1 va [6].length ([6].map u32V) :: clkP C (0 + 1) aF2 3 :: []) := s5
  have k5 := Left_some 7 2 (by omega) (by rw [aF2_eq]; rfl) (by omega) (by omega) s5.swap
  have S5 : Hid (St noB w w5 (clkP C (0 + 1) aF2 3 :: Part.row 28 1 va [6].length ([6].map u32V) :: [])) := s5.swap
  clear s5 k4 a1 a2 a3 n3
  go_wp2_with fail
  refine k5.mono ?_
  rintro e w5' ⟨rfl, ew⟩
  rw [← ew]
  clear ew w5' k5
  have k6 := Tick_ok (by omega) (by omega) n4 S5.out
  clear S5
  go_wp2_with fail
  refine k6.mono ?_
  rintro e w6 ⟨vb, yb, rfl, a1, a2, a3, s6⟩
  obtain rfl : yb = [5, 7] := told_is a1 a2 (by simp) (fun x => by rw [aF2_eq]; by_cases h5 : x = 5; subst h5; simp; by_cases h7 : x = 7; subst h7; simp; simp [h5, h7])
  have n5 : Near aF3 := n4.told _
  have s6 : St noB w w6 (Part.row 28 1 vb [5, 7].length ([5, 7].map u32V) :: clkP C (0 + 1 + 1) aF3 3 :: Part.row 28 1 va [6].length ([6].map u32V) :: []) := s6
  have k7 := Left_none 7 (by omega) (by rw [aF3_eq]) s6.swap
  have S6 : Hid (St noB w w6 (clkP C (0 + 1 + 1) aF3 3 :: Part.row 28 1 vb [5, 7].length ([5, 7].map u32V) :: Part.row 28 1 va [6].length ([6].map u32V) :: [])) := s6.swap
  clear s6 k6 a1 a2 a3 n4
  go_wp2_with fail
  refine k7.mono ?_
  rintro e w6' ⟨rfl, ew⟩
  rw [← ew]
  clear ew w6' k7
  have SID : Hid (∀ {L : List Part} (W : World) (v : Value) (ys zs : List Nat) (P : Part), zs.length ≤ 100 → ys = zs → St noB w W (P :: Part.row 28 1 v ys.length (ys.map u32V) :: L) → Calls Try.prog 9 #[v, .slice (some ⟨W.heap.size, 0, none⟩) zs.length zs.length] (W.alloc (.cells (zs.map u32V).toArray 28)) fun e w' => e = .returned (.bool true) ∧ St noB w w' (P :: Part.row 28 1 v ys.length (ys.map u32V) :: L)) := fun {L} W v ys zs P hz he h => by
    subst he
    have h2 := (h.up (below_one W (.cells (ys.map u32V).toArray 28)))
    refine (sameIds_ok _ v _ ys ys (ids_row h2.swap.row) ((lit_ids W ys hz).mono (Nat.le_refl _))).mono ?_
    rintro e w' ⟨rfl, n, rfl⟩
    exact ⟨by simp, h2.up (below_drewN _ _)⟩
  go_wp2_with fail
  have g1 := S6.out.rt (K := [_, _, _]) 3 [0, 2, 1] (by decide)
  have k8 := SID.out w6 va [6] [6] _ (by simp) rfl g1
  refine k8.mono ?_
  rintro e w7 ⟨rfl, s7⟩
  have S7 : Hid (St noB w w7 (clkP C (0 + 1 + 1) aF3 3 :: Part.row 28 1 vb [5, 7].length ([5, 7].map u32V) :: Part.row 28 1 va [6].length ([6].map u32V) :: [])) := s7.rt (K := [_, _, _]) 3 [0, 2, 1] (by decide)
  clear k8 g1 s7 S6
  go_wp2_with fail
  have k9 := SID.out w7 vb [5, 7] [5, 7] _ (by simp) rfl S7.out
  refine k9.mono ?_
  rintro e w8 ⟨rfl, s8⟩
  have k10 := Set_ok 1 3 (by omega) (by omega) (by omega) (by omega) (by omega) n5 s8
  clear k9 S7 s8
  go_wp2_with fail
  refine k10.mono ?_
  rintro e w9 ⟨rfl, s9⟩
  have n6 := n5.set (id := 1) (t := 0 + 1 + 1 + 3) (by omega) (by omega)
  have k11 := Set_ok 1 1 (by omega) (by omega) (by omega) (by omega) (by omega) n6 s9
  clear k10 s9
  go_wp2_with fail
  refine k11.mono ?_
  rintro e w10 ⟨rfl, s10⟩
  have n7 : Near aF4 := n6.set (id := 1) (t := 0 + 1 + 1 + 1) (by omega) (by omega)
  have s10 : St noB w w10 (clkP C (0 + 1 + 1) aF4 5 :: Part.row 28 1 vb [5, 7].length ([5, 7].map u32V) :: Part.row 28 1 va [6].length ([6].map u32V) :: []) := s10
  have k12 := Tick_ok (by omega) (by omega) n7 s10
  clear k11 s10 n5 n6
  go_wp2_with fail
  refine k12.mono ?_
  rintro e w11 ⟨vd, yd, rfl, a1, a2, a3, s11⟩
  obtain rfl : yd = [1] := told_is a1 a2 (by simp) (fun x => by rw [aF4_eq]; by_cases h1 : x = 1; subst h1; simp; simp [h1])
  have n8 : Near aF5 := n7.told _
  have S11 : Hid (St noB w w11 (clkP C (0 + 1 + 1 + 1) aF5 5 :: Part.row 28 1 vd [1].length ([1].map u32V) :: Part.row 28 1 vb [5, 7].length ([5, 7].map u32V) :: Part.row 28 1 va [6].length ([6].map u32V) :: [])) := s11.swap
  clear k12 s11 a1 a2 a3 n7
  go_wp2_with fail
  have k13 := SID.out w11 vd [1] [1] _ (by simp) rfl S11.out
  refine k13.mono ?_
  rintro e w12 ⟨rfl, s12⟩
  have k14 := Clear_ok 1 (by omega) n8 s12
  rw [aF5_eq, updF_eq aF5 1 none (aF5_eq 1)] at k14
  clear k13 S11 s12 SID
  go_wp2_with fail
  refine k14.mono ?_
  rintro e w13 ⟨rfl, s13⟩
  have k15 := Set_bad 1 0 (.inl (by omega)) s13
  have k16 := Set_bad 1 1073741825 (.inr (by omega)) s13
  have B := s13.below
  clear k14 s13 n8
  go_wp2_with fail
  refine k15.mono ?_
  rintro e w14 ⟨rfl, ew⟩
  rw [← ew]
  clear ew w14 k15
  go_wp2_with fail
  refine k16.mono ?_
  rintro e w14 ⟨rfl, ew⟩
  rw [← ew]
  clear ew w14 k16
  go_wp2
  go_ret
  exact ⟨rfl, B⟩
end Go.Proofs.Ytboinccdnaddmab
