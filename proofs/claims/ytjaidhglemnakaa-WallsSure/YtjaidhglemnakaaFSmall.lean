/- The walks of what frames' Put and Get call: sectorsOf, sumOf, noughts. -/
import Derived.Test.YtjaidhglemnakaaFMath
import Derived.Test.YtjaidhglemnakaaSLaw
set_option linter.unusedSimpArgs false
set_option linter.unusedVariables false
namespace Go.Proofs.Ytjaidhglemnakaa
open Go.RowKit

theorem ret_i64 {a b : Int} (h : a = b) : Ending.returned (.int .i64 a) = .returned (.int .i64 b) := by rw [h]
theorem sectorsOf_any (w : World) (n : Nat) (h : n ≤ 1000000000) :
    Calls Try.prog 34 #[.int .i64 (n : Int)] w fun e w' => e = .returned (.int .i64 ((secs n : Nat) : Int)) ∧ w = w' := by
  have E : Hid (((secs n : Nat) : Int) = (8 + (n : Int) + 64 - 1) / 64) := by show _ = _; unfold secs; omega
  go_enter Try.func34, Try.ntmps34
  go_wp2
  go_ret
  exact ⟨by rw [E.out]; apply ret_i64; omega, rfl⟩
theorem fsumOf_any (w : World) (la lb : Nat) (va vb : Value) (l r : List UInt8) (hl : InAt w la va l) (hr : InAt w lb vb r) (h1 : la ≤ w.heap.size) (h2 : lb ≤ w.heap.size) :
    Calls Try.prog 36 #[va, vb] w fun e w' => e = .returned (.int .u32 (uv (sumOf (l ++ r)))) ∧ Below w.heap.size w w' := by
  have k1 := of_any w la va l hl h1
  have k2 := fun W (hW : Below w.heap.size w W) => on_any W lb vb r (sumOf l) (hr.below hW h2) (Nat.le_trans h2 hW.size)
  obtain ⟨ao, ca, rfl, -, -, -⟩ := hl
  obtain ⟨bo, cb, rfl, -, -, -⟩ := hr
  rw [sumOf_app]
  generalize uv (sumOf l) = p at *
  generalize uv (sumOn (sumOf l) r) = q at *
  go_enter Try.func36, Try.ntmps36
  go_wp2_with fail
  refine k1.mono ?_
  rintro e w1 ⟨rfl, b1⟩
  go_wp2_with fail
  refine (k2 w1 b1).mono ?_
  rintro e w2 ⟨rfl, b2⟩
  go_wp2
  go_ret
  exact ⟨rfl, b1.trans (b2.mono b1.size)⟩
set_option maxHeartbeats 1000000 in
theorem noughts_any (w : World) (lim : Nat) (v : Value) (l : List UInt8) (hl : InAt w lim v l) :
    Calls Try.prog 54 #[v] w fun e w' => e = .returned (.bool (l.all (· == 0))) ∧ w = w' := by
  obtain ⟨ao, cap, rfl, hlc, hcm, hc⟩ := hl
  unfold maxLen at hcm
  go_enter Try.func54, Try.ntmps54
  go_wp2
  go_loop [7] (fun i => ∃ k : Nat, k ≤ l.length ∧ i = .int .i64 k ∧ (l.take k).all (· == 0) = true) (fun i => l.length - (intOf i).toNat)
  case atStart => exact ⟨0, by omega, rfl, rfl⟩
  case round =>
    obtain ⟨k, hk, rfl, hall⟩ := hrel
    by_cases h1 : k < l.length
    · obtain ⟨b, off, rfl, hb, hcell⟩ := hc (by omega)
      have c0 := hcell k h1 0 _ rfl
      simp only [Nat.mul_one, Nat.add_zero, bv] at c0
      have E : Hid ((l.take (k + 1)).all (· == 0) = ((l[k]'h1) == 0)) := by
        show _ = _
        rw [List.take_succ_eq_append_getElem h1, List.all_append, hall]
        simp
      have i1 : (k : Int) < (l.length : Int) := by omega
      have F : Hid ((l[k]'h1) ≠ 0 → l.all (· == 0) = false) := fun hne => by
        rw [List.all_eq_false]
        exact ⟨l[k]'h1, List.getElem_mem h1, by simpa using hne⟩
      clear hcell hc hall
      generalize l[k]'h1 = x at *
      by_cases hx : x = 0
      · subst hx
        have x0 : ((0 : UInt8).toNat : Int) = 0 := rfl
        rw [x0] at c0
        clear x0
        go_wp2
        go_round
        case rel => exact ⟨k + 1, by omega, by go_num, by rw [E.out]; rfl⟩
        case measure => simp [intOf]; omega
      · have n1 : ((x.toNat : Int) != 0) = true := by
          rw [bne_iff_ne]
          intro e
          exact hx (UInt8.toNat_inj.1 (by show x.toNat = 0; omega))
        go_wp2
        go_ret
        exact ⟨by rw [F.out hx]; rfl, rfl⟩
    · have e : l.take k = l := List.take_of_length_le (by omega)
      rw [e] at hall
      have H : Hid (l.all (· == 0) = true) := hall
      clear hc hall e
      go_wp2
      go_ret
      exact ⟨by rw [H.out]; rfl, rfl⟩
end Go.Proofs.Ytjaidhglemnakaa
