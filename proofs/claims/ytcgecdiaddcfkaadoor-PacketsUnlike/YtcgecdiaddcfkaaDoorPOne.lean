/- The walks of the small functions of packets: what ahead of the ops may be, four bytes, a number. -/
import Derived.Test.YtcgecdiaddcfkaaDoorRLaw
import Derived.Test.YtcgecdiaddcfkaaDoorPMath
set_option linter.unusedSimpArgs false
set_option linter.unusedVariables false
namespace Go.Proofs.YtcgecdiaddcfkaaDoor
open Go.RowKit

set_option maxHeartbeats 2000000 in
set_option maxRecDepth 1000000 in
theorem headMay_any (w : World) (s f t g : Nat) (ao bo : Option Addr) (na ca nb cb : Nat) :
    Calls Tryd.prog 24 #[.agg #[.int .u8 (s : Int), .int .u8 (f : Int), .int .u8 (t : Int), .int .u32 (g : Int), .slice ao na ca, .slice bo nb cb]] w fun e w' => e = .returned (.bool (headOk s f t)) ∧ Below w.heap.size w w' := by
  have B0 := below_one w (.cells #[.int .u8 (s : Int), .int .u8 (f : Int), .int .u8 (t : Int), .int .u32 (g : Int), .slice ao na ca, .slice bo nb cb] 27)
  by_cases h1 : 1 ≤ s
  case neg =>
    have E : headOk s f t = false := by unfold headOk; exact decide_eq_false (by omega)
    have i1 : ¬ (1 : Int) ≤ (s : Int) := by omega
    rw [E]; clear E h1
    go_enter Tryd.func24, Tryd.ntmps24
    go_wp2
    go_ret
    exact ⟨rfl, B0⟩
  by_cases h2 : s ≤ 7
  case neg =>
    have E : headOk s f t = false := by unfold headOk; exact decide_eq_false (by omega)
    have i1 : (1 : Int) ≤ (s : Int) := by omega
    have i2 : ¬ (s : Int) ≤ 7 := by omega
    rw [E]; clear E h1 h2
    go_enter Tryd.func24, Tryd.ntmps24
    go_wp2
    go_ret
    exact ⟨rfl, B0⟩
  by_cases h3 : f ≤ 3
  case neg =>
    have E : headOk s f t = false := by unfold headOk; exact decide_eq_false (by omega)
    have i1 : (1 : Int) ≤ (s : Int) := by omega
    have i2 : (s : Int) ≤ 7 := by omega
    have i3 : ¬ (f : Int) ≤ 3 := by omega
    rw [E]; clear E h1 h2 h3
    go_enter Tryd.func24, Tryd.ntmps24
    go_wp2
    go_ret
    exact ⟨rfl, B0⟩
  have E : headOk s f t = decide ((t : Int) ≤ 3) := by
    unfold headOk
    congr 1
    rw [eq_iff_iff]
    omega
  have i1 : (1 : Int) ≤ (s : Int) := by omega
  have i2 : (s : Int) ≤ 7 := by omega
  have i3 : (f : Int) ≤ 3 := by omega
  rw [E]; clear E h1 h2 h3
  go_enter Tryd.func24, Tryd.ntmps24
  go_wp2
  go_ret
  exact ⟨rfl, B0⟩

set_option maxHeartbeats 2000000 in
set_option maxRecDepth 1000000 in
theorem four_any (w : World) (n : Nat) (hn : n < 4294967296) :
    Calls Tryd.prog 45 #[.int .u32 (n : Int)] w fun e w' => ∃ c, e = .returned (.slice (some ⟨w.heap.size, 0, none⟩) 4 c) ∧ BsAt w' w.heap.size (.slice (some ⟨w.heap.size, 0, none⟩) 4 c) (be4 n) ∧ Below w.heap.size w w' := by
  obtain ⟨vs, hvs⟩ : ∃ vs, vs = [Value.int .u8 ((n : Int) / 16777216 % 256), Value.int .u8 ((n : Int) / 65536 % 256), Value.int .u8 ((n : Int) / 256 % 256), Value.int .u8 ((n : Int) % 256)] := ⟨_, rfl⟩
  have E : Hid (vs = bcells (be4 n)) := hvs.trans (be4_cells hn)
  have O := World.ownsRow_lit (base := w.heap.size) (e := 5) (size := 1) w vs.toArray 4 (Nat.le_refl _) (by unfold maxLen; omega) (by rw [hvs]; rfl)
  rw [show vs.toArray.toList = bcells (be4 n) from E.out] at O
  have O' : Hid _ := O
  have B0 := below_one w (.cells vs.toArray 5)
  subst hvs
  clear E O hn
  go_enter Tryd.func45, Tryd.ntmps45
  go_wp2
  go_ret
  exact ⟨_, rfl, O'.out, B0⟩

set_option maxHeartbeats 2000000 in
set_option maxRecDepth 1000000 in
theorem pnumber_any (w : World) (v : Value) (bs : List UInt8) (hb : InAt w w.heap.size v bs) (hl : bs.length ≤ 4) :
    Calls Tryd.prog 23 #[v] w fun e w' => e = .returned (.int .u32 (hiN bs : Int)) ∧ w = w' := by
  obtain ⟨ao, cap, rfl, hlc, hcm, hc⟩ := hb
  unfold maxLen at hcm
  go_enter Tryd.func23, Tryd.ntmps23
  go_wp2
  go_loop [3, 5, 8] (fun x _ i => ∃ k : Nat, k ≤ bs.length ∧ i = .int .i64 k ∧ x = .int .u32 (hiN (bs.take k) : Int)) (fun _ _ i => bs.length - (intOf i).toNat)
  case atStart => exact ⟨0, Nat.zero_le _, rfl, rfl⟩
  case round =>
    obtain ⟨k, hk, rfl, rfl⟩ := hrel
    by_cases hlt : k < bs.length
    · obtain ⟨b, off, rfl, hbl, hcell⟩ := hc (by omega)
      have c0 := hcell k hlt 0 _ rfl
      simp only [Nat.add_zero, Nat.mul_one, bv] at c0
      clear hcell hc
      go_wp2
      go_round
      case rel => exact ⟨k + 1, by omega, by go_num, by rw [hi_succ hlt hl]⟩
      case measure => simp [intOf]; omega
    · have e : bs.take k = bs := List.take_of_length_le (by omega)
      rw [e]
      clear hc e
      go_wp2
      go_ret
      exact ⟨rfl, rfl⟩
end Go.Proofs.YtcgecdiaddcfkaaDoor
