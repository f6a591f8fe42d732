/- The walk of RowsMay: an op may be just if it has what its kind has, and nothing else. -/
import Derived.Test.YtndjgilheleplabRAlive
set_option linter.unusedSimpArgs false
set_option linter.unusedVariables false
namespace Go.Proofs.Ytndjgilheleplab
open Go.RowKit

/-- The op's own block, as it stays. -/
structure OpBox (w : World) (kd : Nat) (key to : ByteArray) (vl : Nat) (W : World) : Prop where
  b : Below w.heap.size w W
  c0 : W.cell? ⟨w.heap.size, 0, none⟩ = some (.int .u8 (kd : Int))
  c1 : W.cell? ⟨w.heap.size, 1, none⟩ = some (.string key)
  c2 : W.cell? ⟨w.heap.size, 2, none⟩ = some (.string to)
  c3 : W.cell? ⟨w.heap.size, 3, none⟩ = some (.int .u32 (vl : Int))
  z : w.heap.size < W.heap.size
theorem OpBox.next {w W W' : World} {kd vl : Nat} {key to : ByteArray} (h : OpBox w kd key to vl W) (hb : Below W.heap.size W W') : OpBox w kd key to vl W' :=
  ⟨h.b.trans (hb.mono h.b.size), (hb.cell h.z).trans h.c0, (hb.cell h.z).trans h.c1, (hb.cell h.z).trans h.c2, (hb.cell h.z).trans h.c3, Nat.lt_of_lt_of_le h.z hb.size⟩
theorem OpBox.new (w : World) (kd vl : Nat) (key to : ByteArray) : OpBox w kd key to vl (w.alloc (.cells #[.int .u8 (kd : Int), .string key, .string to, .int .u32 (vl : Int)] 40)) :=
  ⟨below_one w _, by go_simp, by go_simp, by go_simp, by go_simp, by simp⟩

set_option maxHeartbeats 8000000 in
set_option maxRecDepth 1000000 in
theorem may_nat (w : World) (kd vl : Nat) (key to : ByteArray) (ck te ct r : Bool) (hr : r = okN ck kd te ct vl) (hte : to.toList.isEmpty = te)
    (kK : ∀ W, Calls Try.prog 10 #[.string key] W fun e w' => e = .returned (.bool ck) ∧ Below W.heap.size W w')
    (kT : ∀ W, Calls Try.prog 10 #[.string to] W fun e w' => e = .returned (.bool ct) ∧ Below W.heap.size W w')
    (kR : ∀ W, Calls Try.prog 14 #[.agg #[.int .u8 (kd : Int), .string key, .string to, .int .u32 (vl : Int)]] W fun e w' => e = .returned (.bool r) ∧ Below W.heap.size W w') :
    Calls Try.prog 4 #[.agg #[.int .u8 (kd : Int), .string key, .string to, .int .u32 (vl : Int)]] w fun e w' => e = .returned (.bool true) ∧ Below w.heap.size w w' := by
  have hB := OpBox.new w kd vl key to
  have kA := alive_any (w.alloc (.cells #[.int .u8 (kd : Int), .string key, .string to, .int .u32 (vl : Int)] 40))
  by_cases hz : 1000 < wrap64 ((key.size : Int) + (to.size : Int))
  · go_enter Try.func4, Try.ntmps4
    go_wp2_with fail
    refine kA.mono ?_
    rintro e w1 ⟨rfl, b1⟩
    have h1 := hB.next b1
    obtain ⟨b, c0, c1, c2, c3, z⟩ := h1
    clear kA b1 hB kK kT kR
    go_wp2_with fail
    refine (alive_any _).mono ?_
    rintro e w2 ⟨rfl, b2⟩
    have b3 := b.trans (b2.mono b.size)
    go_wp2
    go_ret
    exact ⟨rfl, b3⟩
  cases ck with
  | false =>
    have hr' : r = false := by rw [hr]; rfl
    subst hr'
    clear hr
    go_enter Try.func4, Try.ntmps4
    go_wp2_with fail
    refine kA.mono ?_
    rintro e w1 ⟨rfl, b1⟩
    have h1 := hB.next b1
    clear kA b1 hB kT
    obtain ⟨b, c0, c1, c2, c3, z⟩ := id h1
    go_wp2_with fail
    refine (kK _).mono ?_
    rintro e w2 ⟨rfl, b2⟩
    have h2 := h1.next b2
    clear b2 b c0 c1 c2 c3 z h1 kK
    obtain ⟨b, c0, c1, c2, c3, z⟩ := id h2
    go_wp2_with fail
    refine (kR _).mono ?_
    rintro e w3 ⟨rfl, b3⟩
    have h3 := h2.next b3
    clear b3 b c0 c1 c2 c3 z h2 kR
    go_wp2
    go_ret
    exact ⟨rfl, h3.b⟩
  | true =>
  by_cases hk0 : kd < 1 ∨ 4 < kd
  · have hr' : r = false := by
      rw [hr]; unfold okN
      rw [if_neg (by omega), if_neg (by omega), if_neg (by omega)]; rfl
    subst hr'
    clear hr
    rcases hk0 with hk0 | hk0
    all_goals
      go_enter Try.func4, Try.ntmps4
      go_wp2_with fail
      refine kA.mono ?_
      rintro e w1 ⟨rfl, b1⟩
      have h1 := hB.next b1
      clear kA b1 hB kT
      obtain ⟨b, c0, c1, c2, c3, z⟩ := id h1
      go_wp2_with fail
      refine (kK _).mono ?_
      rintro e w2 ⟨rfl, b2⟩
      have h2 := h1.next b2
      clear b2 b c0 c1 c2 c3 z h1 kK
      obtain ⟨b, c0, c1, c2, c3, z⟩ := id h2
      go_wp2_with fail
      refine (kR _).mono ?_
      rintro e w3 ⟨rfl, b3⟩
      have h3 := h2.next b3
      clear b3 b c0 c1 c2 c3 z h2 kR
      go_wp2
      go_ret
      exact ⟨rfl, h3.b⟩
  by_cases h4 : kd = 4
  · subst h4
    clear hk0
    have hr2 : r = (ct && ((vl : Int) == 0)) := by rw [hr, int_eq_zero]; rfl
    clear hr
    have hv : ((vl : Int) == 0) = true ∨ ((vl : Int) == 0) = false := by cases ((vl : Int) == 0) <;> simp
    rcases hv with hv | hv <;> rw [hv] at hr2 <;> cases ct <;> simp only [Bool.and_true, Bool.and_false, Bool.false_and, Bool.true_and] at hr2 <;> subst hr2
    all_goals
      go_enter Try.func4, Try.ntmps4
      go_wp2_with fail
      refine kA.mono ?_
      rintro e w1 ⟨rfl, b1⟩
      have h1 := hB.next b1
      clear kA b1 hB
      obtain ⟨b, c0, c1, c2, c3, z⟩ := id h1
      go_wp2_with fail
      refine (kK _).mono ?_
      rintro e w2 ⟨rfl, b2⟩
      have h2 := h1.next b2
      clear b2 b c0 c1 c2 c3 z h1 kK
      obtain ⟨b, c0, c1, c2, c3, z⟩ := id h2
      go_wp2_with fail
      refine (kT _).mono ?_
      rintro e w3 ⟨rfl, b3⟩
      have h3 := h2.next b3
      clear b3 b c0 c1 c2 c3 z h2 kT
      obtain ⟨b, c0, c1, c2, c3, z⟩ := id h3
      go_wp2_with fail
      refine (kR _).mono ?_
      rintro e w4 ⟨rfl, b4⟩
      have h4 := h3.next b4
      clear b4 b c0 c1 c2 c3 z h3 kR
      obtain ⟨b, c0, c1, c2, c3, z⟩ := id h4
      go_wp2
      go_ret
      exact ⟨rfl, b⟩
  have n4 : ((kd : Int) == 4) = false := by rw [show (4 : Int) = ((4 : Nat) : Int) from rfl, int_eq_nat]; simpa using h4
  by_cases h2 : kd = 2
  · subst h2
    clear hk0 n4 h4
    have hr2 : r = te := by rw [hr]; rfl
    clear hr
    have hv : ((vl : Int) == 0) = true ∨ ((vl : Int) == 0) = false := by cases ((vl : Int) == 0) <;> simp
    rcases hv with hv | hv <;> cases te <;> subst hr2
    all_goals
      go_enter Try.func4, Try.ntmps4
      go_wp2_with fail
      refine kA.mono ?_
      rintro e w1 ⟨rfl, b1⟩
      have h1 := hB.next b1
      clear kA b1 hB kT
      obtain ⟨b, c0, c1, c2, c3, z⟩ := id h1
      go_wp2_with fail
      refine (kK _).mono ?_
      rintro e w2 ⟨rfl, b2⟩
      have h2 := h1.next b2
      clear b2 b c0 c1 c2 c3 z h1 kK
      obtain ⟨b, c0, c1, c2, c3, z⟩ := id h2
      go_wp2_with fail
      refine (kR _).mono ?_
      rintro e w4 ⟨rfl, b4⟩
      have h4 := h2.next b4
      clear b4 b c0 c1 c2 c3 z h2 kR
      obtain ⟨b, c0, c1, c2, c3, z⟩ := id h4
      go_wp2
      go_ret
      exact ⟨rfl, b⟩
  have n2 : ((kd : Int) == 2) = false := by rw [show (2 : Int) = ((2 : Nat) : Int) from rfl, int_eq_nat]; simpa using h2
  have hr2 : r = (te && ((vl : Int) == 0)) := by
    rw [hr, int_eq_zero]; unfold okN
    rw [if_pos (by omega)]; rfl
  have hk1 : 1 ≤ kd ∧ kd ≤ 4 := by omega
  obtain ⟨hk1, hk4⟩ := hk1
  clear hr hk0 h2 h4
  have hv : ((vl : Int) == 0) = true ∨ ((vl : Int) == 0) = false := by cases ((vl : Int) == 0) <;> simp
  rcases hv with hv | hv <;> rw [hv] at hr2 <;> cases te <;> simp only [Bool.and_true, Bool.and_false, Bool.false_and, Bool.true_and] at hr2 <;> subst hr2
  all_goals
    go_enter Try.func4, Try.ntmps4
    go_wp2_with fail
    refine kA.mono ?_
    rintro e w1 ⟨rfl, b1⟩
    have h1 := hB.next b1
    clear kA b1 hB kT
    obtain ⟨b, c0, c1, c2, c3, z⟩ := id h1
    go_wp2_with fail
    refine (kK _).mono ?_
    rintro e w2 ⟨rfl, b2⟩
    have h2 := h1.next b2
    clear b2 b c0 c1 c2 c3 z h1 kK
    obtain ⟨b, c0, c1, c2, c3, z⟩ := id h2
    go_wp2_with fail
    refine (kR _).mono ?_
    rintro e w4 ⟨rfl, b4⟩
    have h4 := h2.next b4
    clear b4 b c0 c1 c2 c3 z h2 kR
    obtain ⟨b, c0, c1, c2, c3, z⟩ := id h4
    go_wp2
    go_ret
    exact ⟨rfl, b⟩

theorem may_walk (w : World) (x : OpD) (hs : opSm x) : Calls Try.prog 4 #[opV x] w fun e w' => e = .returned (.bool true) ∧ Below w.heap.size w w' :=
  may_nat w x.kind.toNat x.value.toNat x.key x.to (chk x.key) x.to.toList.isEmpty (chk x.to) (opOk x) (opOk_okN x) rfl
    (fun W => check_any x.key W hs.1) (fun W => check_any x.to W hs.2) (fun W => rcheck_any W x hs)
end Go.Proofs.Ytndjgilheleplab
