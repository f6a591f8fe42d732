/- The walks of the closures with which the bytes are looked at. -/
import Derived.Test.YtjaidhglemnakaaFPut
set_option linter.unusedSimpArgs false
set_option linter.unusedVariables false
namespace Go.Proofs.Ytjaidhglemnakaa
open Go.RowKit

/-- Where a piece begins. -/
def pcOff (off i j : Nat) : Nat := if j = i then off else off + i
/-- A slice, cut. -/
theorem piece_any (w : World) (X b off m cap i j : Nat) (hX : w.cell? ⟨X, 0, none⟩ = some (.slice (some ⟨b, off, none⟩) m cap)) (hij : i ≤ j) (hj : j ≤ m) (hm : m ≤ cap) (hc : cap ≤ 9223372036854775807) :
    Calls Try.prog 52 #[.int .i64 (i : Int), .int .i64 (j : Int), .pointer (some ⟨X, 0, none⟩)] w fun e w' => e = .returned (.slice (some ⟨b, pcOff off i j, none⟩) (j - i) (j - i)) ∧ w = w' := by
  by_cases h : j = i
  · subst h
    have e : pcOff off j j = off := by simp [pcOff]
    rw [e, Nat.sub_self]
    have i2 : (j : Int) ≤ (cap : Int) := by omega
    clear e
    go_enter Try.func52, Try.ntmps52
    go_wp2
    go_ret
    exact ⟨rfl, rfl⟩
  · have e : pcOff off i j = off + i := by simp [pcOff, h]
    rw [e]
    have i1 : (i : Int) ≤ (j : Int) := by omega
    have i2 : (j : Int) ≤ (cap : Int) := by omega
    clear e
    go_enter Try.func52, Try.ntmps52
    go_wp2
    go_ret
    exact ⟨rfl, rfl⟩
theorem piece_in {w : World} {lim b off m cap i j : Nat} {bs : List UInt8} (h : InAt w lim (.slice (some ⟨b, off, none⟩) m cap) bs) (hij : i ≤ j) (hj : j ≤ bs.length) : InAt w lim (.slice (some ⟨b, pcOff off i j, none⟩) (j - i) (j - i)) ((bs.drop i).take (j - i)) :=
  in_piece h hij hj (fun hlt b' off' e => by cases e; simp [pcOff]; omega)
theorem num_take (l : List UInt8) (k : Nat) (h : k < l.length) : num (l.take (k + 1)) = 256 * num (l.take k) + (l[k]'h).toNat := by
  rw [List.take_succ_eq_append_getElem h]
  unfold num
  rw [List.foldl_append]
  rfl
theorem num_go (l : List UInt8) : ∀ n : Nat, l.foldl (fun n x => 256 * n + x.toNat) n < (n + 1) * 256 ^ l.length := by
  induction l with
  | nil => intro n; simp
  | cons x l ih =>
    intro n
    have hx := x.toNat_lt
    rw [List.foldl_cons, List.length_cons, Nat.pow_succ, Nat.mul_comm (256 ^ l.length), ← Nat.mul_assoc]
    exact Nat.lt_of_lt_of_le (ih _) (Nat.mul_le_mul_right _ (by omega))
theorem num_bd (l : List UInt8) : num l < 256 ^ l.length := by
  have := num_go l 0
  rw [Nat.zero_add, Nat.one_mul] at this
  exact this
theorem or_byte (m : Nat) (x : UInt8) (h : m < 16777216) : bits .or .u32 ((m : Int) * 256) (x.toNat : Int) = ((256 * m + x.toNat : Nat) : Int) := by
  have hx := x.toNat_lt
  have e : ((m : Int) * 256) = ((m * 256 : Nat) : Int) := by omega
  rw [e, u32_or_nat _ _ (by omega) (by omega)]
  have := Nat.shiftLeft_add_eq_or_of_lt (i := 8) (b := x.toNat) (by omega) m
  rw [Nat.shiftLeft_eq] at this
  rw [show m * 256 = m * 2 ^ 8 from rfl, ← this]
  congr 1
  omega
set_option maxHeartbeats 2000000 in
set_option maxRecDepth 1000000 in
theorem told_any (w : World) (X Y b off m cap lim at_ : Nat) (bs : List UInt8) (hY : w.cell? ⟨Y, 0, none⟩ = some (.func (.func 52) #[] #[.pointer (some ⟨X, 0, none⟩)])) (hX : w.cell? ⟨X, 0, none⟩ = some (.slice (some ⟨b, off, none⟩) m cap)) (hb : InAt w lim (.slice (some ⟨b, off, none⟩) m cap) bs) (hat : at_ + 4 ≤ bs.length) (h100 : at_ ≤ 100) :
    Calls Try.prog 53 #[.int .i64 (at_ : Int), .pointer (some ⟨Y, 0, none⟩)] w fun e w' => e = .returned (.int .u32 ((num ((bs.drop at_).take 4) : Nat) : Int)) ∧ w = w' := by
  have hp := piece_in (i := at_) (j := at_ + 4) hb (by omega) hat
  rw [Nat.add_sub_cancel_left] at hp
  obtain ⟨ao', cap', hv, h1, h2, -⟩ := hb
  simp only [Value.slice.injEq] at hv
  obtain ⟨rfl, rfl, rfl⟩ := hv
  unfold maxLen at h2
  have kp : Calls Try.prog 52 #[.int .i64 (at_ : Int), .int .i64 ((at_ : Int) + 4), .pointer (some ⟨X, 0, none⟩)] w fun e w' => e = .returned (.slice (some ⟨b, pcOff off at_ (at_ + 4), none⟩) 4 4) ∧ w = w' := by
    have := piece_any w X b off bs.length cap at_ (at_ + 4) hX (by omega) (by omega) h1 (by omega)
    rw [Nat.add_sub_cancel_left] at this
    exact this
  generalize pcOff off at_ (at_ + 4) = o at *
  have l4 : ((bs.drop at_).take 4).length = 4 := by rw [List.length_take, List.length_drop]; omega
  generalize (bs.drop at_).take 4 = l at *
  obtain ⟨ao', cap', hv, -, -, hc⟩ := hp
  simp only [Value.slice.injEq] at hv
  obtain ⟨rfl, -, rfl⟩ := hv
  obtain ⟨b', o', e, -, hcell⟩ := hc (by omega)
  cases e
  clear hc
  go_enter Try.func53, Try.ntmps53
  go_wp2_with (go_at_call 52; refine kp.mono ?_; rintro e w' ⟨rfl, rfl⟩)
  go_loop [4, 13] (fun n i => ∃ k : Nat, k ≤ 4 ∧ i = .int .i64 k ∧ n = .int .u32 ((num (l.take k) : Nat) : Int)) (fun _ i => 4 - (intOf i).toNat)
  case atStart => exact ⟨0, by omega, rfl, rfl⟩
  case round =>
    obtain ⟨k, hk, rfl, rfl⟩ := hrel
    by_cases hk4 : k < 4
    · have c0 := hcell k (by omega) 0 _ rfl
      simp only [Nat.mul_one, Nat.add_zero, bv] at c0
      have E : Hid (num (l.take (k + 1)) = 256 * num (l.take k) + (l[k]'(by omega)).toNat) := num_take l k (by omega)
      have nb := num_bd (l.take k)
      have nb2 : num (l.take k) < 16777216 := by
        refine Nat.lt_of_lt_of_le nb (Nat.le_trans (Nat.pow_le_pow_right (by omega) (show (l.take k).length ≤ 3 by rw [List.length_take]; omega)) (by omega))
      have ob := or_byte (num (l.take k)) (l[k]'(by omega)) nb2
      generalize num (l.take k) = m at *
      generalize l[k]'(by omega) = x at *
      have i1 : (k : Int) < 4 := by omega
      have xb := x.toNat_lt
      clear hcell nb kp
      go_wp2
      go_round
      case rel => exact ⟨k + 1, by omega, by go_num, by rw [E.out]; go_num⟩
      case measure => simp [intOf]; omega
    · have e : l.take k = l := List.take_of_length_le (by omega)
      rw [e]
      clear hcell kp
      go_wp2
      go_ret
      exact ⟨rfl, rfl⟩
end Go.Proofs.Ytjaidhglemnakaa
