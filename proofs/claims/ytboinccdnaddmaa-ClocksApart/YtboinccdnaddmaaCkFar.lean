/- The walk of ClocksFar. -/
import Derived.Test.YtboinccdnaddmaaCkAlive
set_option linter.unusedSimpArgs false
set_option linter.unusedVariables false
namespace Go.Proofs.Ytboinccdnaddmaa
open Go.RowKit Go.Maps

/-- A tick at which nobody is told. -/
theorem tickF_idle {f : Nat → Option Nat} {t : Nat} (h : ∀ x, f x ≠ some t) : tickF f t = f := funext fun j => if_neg (h j)
theorem nil_of {ys : List Nat} {f : Nat → Option Nat} {t : Nat} (h2 : ∀ x, x ∈ ys ↔ f x = some t) (h : ∀ x, f x ≠ some t) : ys = [] := by
  cases ys with
  | nil => rfl
  | cons y ys => exact absurd ((h2 y).1 (List.mem_cons_self ..)) (h y)
set_option maxHeartbeats 1000000 in
set_option maxRecDepth 1000000 in
theorem far_walk (w : World) (id less : Nat) (gone : UInt8) (hid : id < 4294967296) (hless : less < 4294967296) :
    Calls Try.prog 6 #[.int .u32 (id : Int), .int .u32 (less : Int), .int .u8 (gone.toNat : Int)] w fun e w' => e = .returned (.bool true) ∧ Below w.heap.size w w' := by
  have kn := New_ok w
  have ka := alive_ok
  have hg := gone.toNat_lt
  go_enter Try.func6, Try.ntmps6
  go_wp2_with fail
  refine kn.mono ?_
  rintro e w1 ⟨rfl, s1⟩
  clear kn
  obtain ⟨C, hC⟩ : ∃ C, C = w.heap.size + 3 := ⟨_, rfl⟩
  rw [← hC] at s1 ⊢
  clear hC
  by_cases hN : less < 1073741824
  · obtain ⟨N, hN2⟩ : ∃ N : Nat, N = 1073741824 - less := ⟨_, rfl⟩
    have eN : Hid ((1073741824 : Int) - (less : Int) = (N : Int)) := by show _ = _; omega
    have k1 := Set_ok id N hid (by omega) (by omega) (by omega) (by omega) near_none s1
    have hNb : 1 ≤ N ∧ N ≤ 1073741824 := by omega
    have hNl : Hid (N + less = 1073741824) := by show _ = _; omega
    have nn := near_none.set (id := id) (t := 0 + N) hid (by omega)
    clear hN2 s1
    go_wp2_with fail
    rw [eN.out]
    refine k1.mono ?_
    rintro e w2 ⟨rfl, s2⟩
    have k2 := Set_bad id (1073741825 + (less : Int)) (.inr (by omega)) s2
    have S2 : Hid (St noB w w2 [clkP C 0 (updF noneD id (some (0 + N))) (0 + 1)]) := s2
    clear k1 s2
    go_wp2_with fail
    refine k2.mono ?_
    rintro e w2' ⟨rfl, ew⟩
    rw [← ew]
    clear ew w2' k2
    obtain ⟨hN1, hN3⟩ := hNb
    have i1 : (1 : Int) ≤ (N : Int) := by omega
    go_wp2_with fail
    obtain ⟨K, hK⟩ : ∃ K : Nat, K = min gone.toNat (N - 1) := ⟨_, rfl⟩
    rw [show (min (gone.toNat : Int) ((N : Int) - 1)) = (K : Int) by omega]
    have hKN : K + 1 ≤ N := by omega
    have hK255 : K ≤ 255 := by omega
    clear hK
    go_loopw [14] (fun v W => ∃ k : Nat, v = .int .i64 k ∧ k ≤ K ∧ St noB w W [clkP C k (updF noneD id (some (0 + N))) (0 + 1)]) (fun v _ => K - (intOf v).toNat)
    case atStart => exact ⟨0, rfl, Nat.zero_le _, S2.out⟩
    case round =>
      obtain ⟨k, rfl, hk, s3⟩ := hrel
      by_cases hlt : k < K
      · have hidle : ∀ x, updF noneD id (some (0 + N)) x ≠ some (k + 1) := fun x hx => by
          by_cases e : x = id
          · subst e; rw [updF_same] at hx; simp at hx; omega
          · rw [updF_other _ _ e] at hx; cases hx
        have kt := Tick_ok (by omega) (by omega) nn s3
        have HI : Hid (∀ x, updF noneD id (some (0 + N)) x ≠ some (k + 1)) := hidle
        clear s3 hidle
        go_wp2_with fail
        refine kt.mono ?_
        rintro e w3 ⟨v, ys, rfl, h1, h2, h3, s4⟩
        obtain rfl := nil_of h2 HI.out
        rw [tickF_idle HI.out] at s4
        obtain ⟨ao, cap, hv, -⟩ := row_form s4.row
        subst hv
        have S4 : Hid (St noB w w3 [clkP C (k + 1) (updF noneD id (some (0 + N))) (0 + 1)]) := s4.drop
        clear kt s4 h1 h2 h3
        go_wp2
        go_roundw
        case rel => exact ⟨k + 1, by go_num, by omega, S4.out⟩
        case measure => (simp [intOf]; try omega)
      · obtain rfl : k = K := by omega
        have kl := Left_some id (0 + N) hid (updF_same _ _ _) (by omega) (by omega) s3
        have B : Hid (Below w.heap.size w wr) := s3.below
        rw [show ((0 + N : Nat) : Int) = (N : Int) by omega] at kl
        clear s3 S2
        go_wp2_with fail
        refine kl.mono ?_
        rintro e w4 ⟨rfl, ew⟩
        rw [← ew]
        clear ew w4 kl
        go_wp2_with fail
        refine (ka wr).mono ?_
        rintro e w5 ⟨rfl, b5⟩
        go_wp2
        go_ret
        exact ⟨by simp, B.out.trans (b5.mono B.out.size)⟩
  · obtain ⟨n, hn⟩ : ∃ n : Int, n = 1073741824 - (less : Int) := ⟨_, rfl⟩
    have eN : Hid (1073741824 - (less : Int) = n) := hn.symm
    have hn1 : n < 1 := by omega
    have hn2 : -4294967296 < n := by omega
    have k1 := Set_bad id n (.inl hn1) s1
    have k2 := Set_bad id (1073741825 + (less : Int)) (.inr (by omega)) s1
    have kl := Left_none id hid (by rfl) s1
    have B : Hid (Below w.heap.size w w1) := s1.below
    clear hn s1
    go_wp2_with fail
    rw [eN.out]
    refine k1.mono ?_
    rintro e w2' ⟨rfl, ew⟩
    rw [← ew]
    clear ew w2' k1
    go_wp2_with fail
    refine k2.mono ?_
    rintro e w2' ⟨rfl, ew⟩
    rw [← ew]
    clear ew w2' k2
    go_wp2_with fail
    refine kl.mono ?_
    rintro e w2' ⟨rfl, ew⟩
    rw [← ew]
    clear ew w2' kl
    go_wp2_with fail
    refine (ka w1).mono ?_
    rintro e w5 ⟨rfl, b5⟩
    go_wp2
    go_ret
    exact ⟨rfl, B.out.trans (b5.mono B.out.size)⟩
end Go.Proofs.Ytboinccdnaddmaa
