/- Two lists of bytes that are not the same. -/
import Derived.Test.YtogmoemeppnieaaGSame
set_option linter.unusedSimpArgs false
set_option linter.unusedVariables false
namespace Go.Proofs.Ytogmoemeppnieaa
open Go.RowKit

set_option maxHeartbeats 2000000 in
set_option maxRecDepth 1000000 in
theorem sameBytes_not (w : World) (la lb : Nat) (va vb : Value) (l m : List UInt8) (ha : InAt w la va l) (hb : InAt w lb vb m) (hne : l ≠ m) :
    Calls Try.prog 10 #[va, vb] w fun e w' => e = .returned (.bool false) ∧ ∃ n, w' = w.drewN n := by
  obtain ⟨ao, ca, rfl, ha1, ha2, ha3⟩ := ha
  obtain ⟨bo, cb, rfl, hb1, hb2, hb3⟩ := hb
  unfold maxLen at ha2 hb2
  by_cases hlen : l.length = m.length
  · have hLE : Hid (l.length = m.length) := hlen
    rw [← hlen]
    go_enter Try.func10, Try.ntmps10
    clear hlen
    go_wp2
    go_loopw [5] (fun i wr => ∃ k n : Nat, k ≤ l.length ∧ i = .int .i64 k ∧ l.take k = m.take k ∧ wr = w.drewN n) (fun i _ => l.length - (intOf i).toNat)
    case atStart => exact ⟨0, 0, by omega, rfl, rfl, rfl⟩
    case round =>
      obtain ⟨k, n, hk, rfl, htk, rfl⟩ := hrel
      by_cases h1 : k < l.length
      · have h2 : k < m.length := by have := hLE.out; omega
        obtain ⟨b1, o1, rfl, hl1, hc1⟩ := ha3 (by omega)
        obtain ⟨b2, o2, rfl, hl2, hc2⟩ := hb3 (by omega)
        have p0 := hc1 k h1 0 _ rfl
        have q0 := hc2 k h2 0 _ rfl
        simp only [Nat.add_zero, Nat.mul_one, bv] at p0 q0
        have E : Hid (l[k]'h1 = m[k]'h2 → l.take (k + 1) = m.take (k + 1)) := fun e => by
          rw [List.take_succ_eq_append_getElem h1, List.take_succ_eq_append_getElem h2, htk, e]
        clear hc1 hc2 ha3 hb3 htk
        generalize l[k]'h1 = x at *
        generalize m[k]'h2 = y at *
        have i1 : (k : Int) < (l.length : Int) := by omega
        by_cases hxy : x = y
        · subst hxy
          have T : Hid (l.take (k + 1) = m.take (k + 1)) := E.out rfl
          clear E
          go_wp2
          go_quiet (fail)
          go_wp2
          go_roundw
          case rel => exact ⟨k + 1, _, by omega, by go_num, T.out, rfl⟩
          case measure => simp [intOf]; omega
        · have n1 : ((x.toNat : Int) != (y.toNat : Int)) = true := by
            rw [bne_iff_ne]
            intro e
            exact hxy (UInt8.toNat_inj.1 (by omega))
          go_wp2
          go_quiet (fail)
          go_wp2
          go_ret
          exact ⟨rfl, _, World.drewN_drewN _ _ _⟩
      · exfalso
        have := hLE.out
        rw [List.take_of_length_le (by omega), List.take_of_length_le (by omega)] at htk
        exact hne htk
  · have n1 : ¬ (l.length : Int) = (m.length : Int) := by omega
    have n2 : ((l.length : Int) != (m.length : Int)) = true := by rw [bne_iff_ne]; exact n1
    clear ha3 hb3
    go_enter Try.func10, Try.ntmps10
    go_wp2
    go_ret
    exact ⟨rfl, 0, rfl⟩
end Go.Proofs.Ytogmoemeppnieaa
