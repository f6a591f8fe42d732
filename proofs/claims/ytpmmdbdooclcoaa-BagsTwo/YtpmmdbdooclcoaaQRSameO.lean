/- The walks of the statements' own helpers: whether two lists are the same, how much a list has in it. -/
import Derived.Test.YtpmmdbdooclcoaaQData
import Derived.Test.YtpmmdbdooclcoaaQRSizeO
import Derived.Deep.QuietTactic
import Derived.Laws.StructEq
set_option linter.unusedSimpArgs false
set_option linter.unusedVariables false
namespace Go.Proofs.Ytpmmdbdooclcoaa
open Go.RowKit



set_option maxHeartbeats 2000000 in
set_option maxRecDepth 1000000 in
theorem sameOps_any (w : World) (la lb : Nat) (va vb : Value) (l : List OpD) (ha : SlAt 4 opCells w la va l) (hb : SlAt 4 opCells w lb vb l) :
    Calls Try.prog 30 #[va, vb] w fun e w' => e = .returned (.bool true) ∧ ∃ n, w' = w.drewN n := by
  obtain ⟨ao, ca, rfl, ha1, ha2, ha3⟩ := ha
  obtain ⟨bo, cb, rfl, hb1, hb2, hb3⟩ := hb
  unfold maxLen at ha2 hb2
  go_enter Try.func30, Try.ntmps30
  go_wp2
  go_loopw [5] (fun i wr => ∃ k n : Nat, k ≤ l.length ∧ i = .int .i64 k ∧ wr = w.drewN n) (fun i _ => l.length - (intOf i).toNat)
  case atStart => exact ⟨0, 0, by omega, rfl, rfl⟩
  case round =>
    obtain ⟨k, n, hk, rfl, rfl⟩ := hrel
    by_cases h1 : k < l.length
    · obtain ⟨b1, o1, rfl, hl1, hc1⟩ := ha3 (by omega)
      obtain ⟨b2, o2, rfl, hl2, hc2⟩ := hb3 (by omega)
      obtain ⟨x, hx⟩ : ∃ x, x = l[k]'h1 := ⟨_, rfl⟩
      have p : ∀ j u, (opCells x)[j]? = some u → w.cell? ⟨b1, o1 + k * 4 + j, none⟩ = some u := fun j u hu => hc1 k h1 j u (by rw [← hx]; exact hu)
      have q : ∀ j u, (opCells x)[j]? = some u → w.cell? ⟨b2, o2 + k * 4 + j, none⟩ = some u := fun j u hu => hc2 k h1 j u (by rw [← hx]; exact hu)
      have p0 := p 0 _ rfl
      have q0 := q 0 _ rfl
      have p1 := p 1 _ rfl
      have q1 := q 1 _ rfl
      have p2 := p 2 _ rfl
      have q2 := q 2 _ rfl
      have p3 := p 3 _ rfl
      have q3 := q 3 _ rfl
      simp only [Nat.add_zero, Nat.mul_one] at p0 q0
      clear p q hx hc1 hc2 ha3 hb3
      have i1 : (k : Int) < (l.length : Int) := by omega

      go_wp2
      go_quiet (fail)
      go_wp2
      go_roundw
      case rel => exact ⟨k + 1, _, by omega, by go_num, rfl⟩
      case measure => simp [intOf]; omega
    · clear ha3 hb3
      go_wp2
      go_ret
      exact ⟨rfl, n, rfl⟩
end Go.Proofs.Ytpmmdbdooclcoaa
