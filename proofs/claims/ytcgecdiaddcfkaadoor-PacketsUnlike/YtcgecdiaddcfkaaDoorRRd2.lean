/- The walks of the reader's methods, more: a byte, a count, a number, a text, a mark. -/
import Derived.Test.YtcgecdiaddcfkaaDoorRRd
set_option linter.unusedSimpArgs false
set_option linter.unusedVariables false
namespace Go.Proofs.YtcgecdiaddcfkaaDoor
open Go.RowKit

theorem takeS_len (n : Nat) (s : St) : (takeS n s).1.length ≤ n := by unfold takeS; split <;> simp; omega
theorem high1_lt (s : St) : (highS 1 s).1 < 256 := by
  have h := hiN_lt (takeS 1 s).1
  have h2 := takeS_len 1 s
  have h3 : 256 ^ (takeS 1 s).1.length ≤ 256 ^ 1 := Nat.pow_le_pow_right (by omega) h2
  show hiN (takeS 1 s).1 < 256
  omega
theorem high2_lt (s : St) : (highS 2 s).1 < 65536 := by
  have h := hiN_lt (takeS 2 s).1
  have h2 := takeS_len 2 s
  have h3 : 256 ^ (takeS 2 s).1.length ≤ 256 ^ 2 := Nat.pow_le_pow_right (by omega) h2
  show hiN (takeS 2 s).1 < 65536
  omega
theorem high4_lt (s : St) : (highS 4 s).1 < 4294967296 := by
  have h := hiN_lt (takeS 4 s).1
  have h2 := takeS_len 4 s
  have h3 : 256 ^ (takeS 4 s).1.length ≤ 256 ^ 4 := Nat.pow_le_pow_right (by omega) h2
  show hiN (takeS 4 s).1 < 4294967296
  omega

theorem conv_in {w : World} {lim : Nat} {v : Value} {bs : List UInt8} (h : InAt w lim v bs) : (convert 28 9 v).run Tryd.prog w = .ok (.string ⟨bs.toArray⟩) w := by
  obtain ⟨ao, cap, rfl, hlc, hcm, hc⟩ := h
  by_cases hl : 0 < bs.length
  · obtain ⟨b, off, rfl, hb, hcell⟩ := hc hl
    have := run_convert_bytes_arg (P := Tryd.prog) w 28 5 Tryd.underlying28 Tryd.underlying5 b off bs.length cap (bs.map fun c => (c.toNat : Int)) (by simp) (fun i hi => by
      have := hcell i hi 0 _ rfl
      simp only [Nat.add_zero, Nat.mul_one, bv] at this
      rw [this]
      simp [hi]) 9 Tryd.underlying9
    rw [this]
    have e : strOfNums (bs.map fun c => (c.toNat : Int)) = ⟨bs.toArray⟩ := by
      unfold strOfNums
      rw [List.map_map, show ((fun n : Int => UInt8.ofNat n.toNat) ∘ fun c : UInt8 => (c.toNat : Int)) = id from funext fun c => by simp, List.map_id]
    rw [e]
  · have e : bs = [] := List.eq_nil_of_length_eq_zero (by omega)
    subst e
    cases ao with
    | none => exact run_convert_bytes_nil (P := Tryd.prog) w 28 5 Tryd.underlying28 Tryd.underlying5 0 cap 9 Tryd.underlying9
    | some a =>
      show (convert 28 9 (.slice (some a) 0 cap)).run Tryd.prog w = _
      rw [run_convert_bytes_string (P := Tryd.prog) w 28 9 5 (some a) 0 cap Tryd.underlying28 Tryd.underlying5 Tryd.underlying9]
      have hl0 : (loadCells a 0).run Tryd.prog w = .ok (([] : List Int).map (Value.int .u8)).toArray w := run_loadCells_list (P := Tryd.prog) w a [] (fun j v hj => by simp at hj)
      have := run_bytesToString (P := Tryd.prog) w a 0 cap [] hl0
      rw [this]
      rfl

set_option maxHeartbeats 2000000 in
set_option maxRecDepth 1000000 in
theorem rsmall_any (w : World) (R lim : Nat) (s : St) (h : RAt w R lim s) :
    Calls Tryd.prog 48 #[ptr R] w fun e w' => e = .returned (.int .u8 ((highS 1 s).1 : Int)) ∧ RAt w' R lim (highS 1 s).2 ∧ Kept R w.heap.size w w' := by
  have k := high_any w R lim 1 s h (by omega)
  have hlt := high1_lt s
  generalize (highS 1 s).1 = x at *
  go_enter Tryd.func48, Tryd.ntmps48
  go_wp2_with fail
  refine k.mono ?_
  rintro e w1 ⟨rfl, h1, k1⟩
  clear k
  have e1 : (x : Int) % 256 = x := by omega
  go_wp2
  go_ret
  exact ⟨rfl, h1, k1⟩

set_option maxHeartbeats 2000000 in
set_option maxRecDepth 1000000 in
theorem rcount_any (w : World) (R lim : Nat) (s : St) (h : RAt w R lim s) :
    Calls Tryd.prog 65 #[ptr R] w fun e w' => e = .returned (.int .i64 ((highS 2 s).1 : Int)) ∧ RAt w' R lim (highS 2 s).2 ∧ Kept R w.heap.size w w' := by
  have k := high_any w R lim 2 s h (by omega)
  have hlt := high2_lt s
  generalize (highS 2 s).1 = x at *
  go_enter Tryd.func65, Tryd.ntmps65
  go_wp2_with fail
  refine k.mono ?_
  rintro e w1 ⟨rfl, h1, k1⟩
  clear k
  go_wp2
  go_ret
  exact ⟨rfl, h1, k1⟩

set_option maxHeartbeats 2000000 in
set_option maxRecDepth 1000000 in
theorem rnumber_any (w : World) (R lim : Nat) (s : St) (h : RAt w R lim s) :
    Calls Tryd.prog 50 #[ptr R] w fun e w' => e = .returned (.int .u32 ((highS 4 s).1 : Int)) ∧ RAt w' R lim (highS 4 s).2 ∧ Kept R w.heap.size w w' := by
  have k := high_any w R lim 4 s h (by omega)
  generalize (highS 4 s).1 = x at *
  go_enter Tryd.func50, Tryd.ntmps50
  go_wp2_with fail
  refine k.mono ?_
  rintro e w1 ⟨rfl, h1, k1⟩
  clear k
  go_wp2
  go_ret
  exact ⟨rfl, h1, k1⟩

set_option maxHeartbeats 2000000 in
set_option maxRecDepth 1000000 in
theorem rtext_any (w : World) (R lim : Nat) (s : St) (h : RAt w R lim s) :
    Calls Tryd.prog 49 #[ptr R] w fun e w' => e = .returned (.string (textS s).1) ∧ RAt w' R lim (textS s).2 ∧ Kept R w.heap.size w w' := by
  have k := rsmall_any w R lim s h
  have k2 : ∀ w1, RAt w1 R lim (highS 1 s).2 → _ := fun w1 h1 => take_any w1 R lim (highS 1 s).1 (highS 1 s).2 h1 (by have := high1_lt s; omega)
  show Calls _ _ _ _ fun e w' => e = .returned (.string ⟨(takeS (highS 1 s).1 (highS 1 s).2).1.toArray⟩) ∧ RAt w' R lim (takeS (highS 1 s).1 (highS 1 s).2).2 ∧ Kept R w.heap.size w w'
  have hlt := high1_lt s
  generalize (takeS (highS 1 s).1 (highS 1 s).2).1 = T at *
  generalize (takeS (highS 1 s).1 (highS 1 s).2).2 = s2 at *
  generalize (highS 1 s).1 = x at *
  generalize (highS 1 s).2 = s1 at *
  go_enter Tryd.func49, Tryd.ntmps49
  go_wp2_with fail
  refine k.mono ?_
  rintro e w1 ⟨rfl, h1, q1⟩
  have k3 := k2 w1 h1
  clear k k2
  go_wp2_with fail
  refine k3.mono ?_
  rintro e w2 ⟨v, rfl, hin, h2, q2⟩
  clear k3
  have hcv := conv_in hin
  have q3 := q1.trans (q2.mono q1.size)
  obtain ⟨ao, cap, rfl, -, -, -⟩ := hin
  go_wp2
  go_ret
  exact ⟨rfl, h2, q3⟩

end Go.Proofs.YtcgecdiaddcfkaaDoor
