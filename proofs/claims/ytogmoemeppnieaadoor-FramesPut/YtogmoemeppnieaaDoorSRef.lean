/- The walks of the document's own On and Of. -/
import Derived.Test.YtogmoemeppnieaaDoorSDiv
set_option linter.unusedSimpArgs false
set_option linter.unusedVariables false
namespace Go.Proofs.YtogmoemeppnieaaDoor
open Go.RowKit

theorem uv_sub (a : BitVec 32) : 4294967295 - uv a = uv (~~~ a) := by
  unfold uv
  have := a.isLt
  rw [BitVec.toNat_not]
  omega
theorem bw_uv (x : UInt8) : uv (bw x) = (x.toNat : Int) := by unfold uv; rw [bw_toNat]

set_option maxHeartbeats 2000000 in
set_option maxRecDepth 1000000 in
theorem refOn_any (w : World) (lim : Nat) (v : Value) (l : List UInt8) (s : BitVec 32) (hl : InAt w lim v l) :
    Calls Tryd.prog 55 #[.int .u32 (uv s), v] w fun e w' => e = .returned (.int .u32 (uv (sumOn s l))) ∧ w' = w := by
  obtain ⟨ao, cap, rfl, hlc, hcm, hc⟩ := hl
  unfold maxLen at hcm
  have hs := uv_bd s
  have E0 : Hid (4294967295 - uv s = uv (dv (~~~ s) (l.take 0))) := uv_sub s
  have E1 : Hid (uv (sumOn s l) = 4294967295 - uv (dv (~~~ s) l)) := (uv_sub _).symm
  go_enter Tryd.func55, Tryd.ntmps55
  go_wp2
  go_loop [5, 6] (fun m i => ∃ k : Nat, k ≤ l.length ∧ i = .int .i64 k ∧ m = .int .u32 (uv (dv (~~~ s) (l.take k)))) (fun _ i => l.length - (intOf i).toNat)
  case atStart => exact ⟨0, by omega, rfl, by rw [E0.out]⟩
  case round =>
    obtain ⟨k, hk, rfl, rfl⟩ := hrel
    by_cases h1 : k < l.length
    · obtain ⟨b, off, rfl, hb, hcell⟩ := hc (by omega)
      have c0 := hcell k h1 0 _ rfl
      simp only [Nat.mul_one, Nat.add_zero, bv] at c0
      have E : Hid (dv (~~~ s) (l.take (k + 1)) = mvN 8 (dv (~~~ s) (l.take k) ^^^ bw (l[k]'h1))) := dv_take _ l k h1
      generalize l[k]'h1 = x at *
      generalize dv (~~~ s) (l.take k) = m at *
      have ub := uv_bd m
      have e1 : bits .xor .u32 (uv m) (x.toNat : Int) = uv (mvN 0 (m ^^^ bw x)) := by rw [← bw_uv, uv_xor]; rfl
      have i1 : (k : Int) < (l.length : Int) := by omega
      have xb : (x.toNat : Int) < 256 := by have := x.toNat_lt; omega
      clear hcell hc
      go_wp2
      go_loop [5, 7] (fun y j => ∃ q : Nat, q ≤ 8 ∧ j = .int .i64 q ∧ y = .int .u32 (uv (mvN q (m ^^^ bw x)))) (fun _ j => 8 - (intOf j).toNat)
      case atStart => exact ⟨0, by omega, rfl, rfl⟩
      case round =>
        obtain ⟨q, hq, rfl, rfl⟩ := hrel
        by_cases h2 : q < 8
        · have i2 : (q : Int) < 8 := by omega
          have F : Hid (mvN (q + 1) (m ^^^ bw x) = mv (mvN q (m ^^^ bw x))) := mvN_one q _
          generalize mvN q (m ^^^ bw x) = y at *
          have yb := uv_bd y
          rcases (show uv y % 2 = 1 ∨ uv y % 2 = 0 by omega) with h | h
          · have G : Hid (uv (mv y) = bits .xor .u32 (uv y / 2) 3988292384) := mv_one h
            go_wp2
            go_round
            case rel => exact ⟨q + 1, by omega, by go_num, by rw [F.out, G.out]⟩
            case measure => simp [intOf]; omega
          · have G : Hid (uv (mv y) = uv y / 2) := mv_none h
            go_wp2
            go_round
            case rel => exact ⟨q + 1, by omega, by go_num, by rw [F.out, G.out]⟩
            case measure => simp [intOf]; omega
        · obtain rfl : q = 8 := by omega
          go_wp2
          go_round
          case rel => exact ⟨k + 1, by omega, by go_num, by rw [E.out]⟩
          case measure => simp [intOf]; omega
    · have e : l.take k = l := List.take_of_length_le (by omega)
      rw [e]
      have ub := uv_bd (dv (~~~ s) l)
      clear hc
      go_wp2
      go_ret
      exact ⟨by rw [E1.out]; rfl, rfl⟩

set_option maxHeartbeats 1000000 in
set_option maxRecDepth 1000000 in
theorem refOf_any (w : World) (lim : Nat) (v : Value) (l : List UInt8) (hl : InAt w lim v l) :
    Calls Tryd.prog 15 #[v] w fun e w' => e = .returned (.int .u32 (uv (sumOf l))) ∧ w' = w := by
  have k : Calls Tryd.prog 55 #[.int .u32 0, v] w fun e w' => e = .returned (.int .u32 (uv (sumOf l))) ∧ w' = w := refOn_any w lim v l 0#32 hl
  obtain ⟨ao, cap, rfl, hlc, hcm, hc⟩ := hl
  clear hc
  generalize uv (sumOf l) = r at *
  go_enter Tryd.func15, Tryd.ntmps15
  go_wp2_with fail
  refine k.mono ?_
  rintro e w1 ⟨rfl, rfl⟩
  go_wp2
  go_ret
  exact ⟨rfl, rfl⟩
end Go.Proofs.YtogmoemeppnieaaDoor
