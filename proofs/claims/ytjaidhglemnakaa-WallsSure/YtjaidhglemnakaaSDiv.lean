/- The walks of divide, On and Of. -/
import Derived.Test.YtjaidhglemnakaaSTab
import Derived.Test.YtjaidhglemnakaaGBase
set_option linter.unusedSimpArgs false
set_option linter.unusedVariables false
namespace Go.Proofs.Ytjaidhglemnakaa
open Go.RowKit

theorem uv_byte (n : BitVec 32) (x : UInt8) : bits .xor .u8 (uv n % 256) (x.toNat : Int) = (((n.toNat % 256) ^^^ x.toNat : Nat) : Int) := by
  have h1 : n.toNat % 256 < 256 := Nat.mod_lt _ (by omega)
  have hx := x.toNat_lt
  rw [← u8_xor_nat _ _ h1 (by omega)]
  unfold uv
  congr 1
theorem xor_lt (n : BitVec 32) (x : UInt8) : (n.toNat % 256) ^^^ x.toNat < 256 := by
  have h1 : n.toNat % 256 < 256 := Nat.mod_lt _ (by omega)
  have hx := x.toNat_lt
  exact Nat.xor_lt_two_pow (n := 8) (by omega) (by omega)
theorem uv_shift8 (n : BitVec 32) : uv n / 256 = uv (n >>> (8 : Nat)) := by
  unfold uv; rw [BitVec.toNat_ushiftRight, Nat.shiftRight_eq_div_pow]; omega
theorem dv_take (n : BitVec 32) (l : List UInt8) (k : Nat) (h : k < l.length) : dv n (l.take (k + 1)) = stp (dv n (l.take k)) (l[k]'h) := by
  rw [List.take_succ_eq_append_getElem h, dv_snoc]

set_option maxHeartbeats 1000000 in
set_option maxRecDepth 1000000 in
theorem divide_any (w : World) (lim : Nat) (v : Value) (l : List UInt8) (n : BitVec 32) (hl : InAt w lim v l) (hlim : lim ≤ w.heap.size) :
    Calls Try.prog 51 #[.int .u32 (uv n), v] w fun e w' => e = .returned (.int .u32 (uv (dv n l))) ∧ Below w.heap.size w w' := by
  have hz : ∀ w, (zeroValue 103).run Try.prog w = .ok (.agg (tabs 0)) w := by rw [tabs_zero]; exact (zero_of_info info39).1
  have hi : (Try.prog.info? 103).map (·.size) = some (tabs 256).size := by rw [tabs_size]; exact (zero_of_info info39).2
  have kt := tab_any w
  obtain ⟨ao, cap, rfl, hlc, hcm, hc⟩ := hl
  unfold maxLen at hcm
  go_enter Try.func51, Try.ntmps51
  go_wp2_with fail
  refine kt.mono ?_
  rintro e w1 ⟨rfl, b1⟩
  have z1 := b1.size
  go_wp2_with (refine wpList_store_row rfl 103 (.tmp 5) (.tmp 8) rfl w1.heap.size (tabs 256) rfl rfl 103 (tabs 0) (heap_alloc_last w1 _) hi (by rw [tabs_size, tabs_size]) (tabs_one 256) ?_; rw [World.setRow_alloc_new])
  have hT : (w1.alloc (.cells (tabs 256) 103)).heap[w1.heap.size]? = some (.cells (tabs 256) 103 (0, 0)) := heap_alloc_last w1 _
  have b2 : Below w.heap.size w (w1.alloc (.cells (tabs 256) 103)) := b1.alloc z1 _
  generalize w1.alloc (.cells (tabs 256) 103) = w2 at *
  have ht : ∀ i, i < 256 → w2.cell? ⟨w1.heap.size, i, none⟩ = some (tcell i) := fun i h => by
    rw [cell_of_row _ _ _ _ _ _ hT, tabs_get _ _ h, if_pos h]
  clear hT hz hi kt b1
  generalize w1.heap.size = B at *
  go_loop [0, 11] (fun m i => ∃ k : Nat, k ≤ l.length ∧ i = .int .i64 k ∧ m = .int .u32 (uv (dv n (l.take k)))) (fun _ i => l.length - (intOf i).toNat)
  case atStart => exact ⟨0, by omega, rfl, rfl⟩
  case round =>
    obtain ⟨k, hk, rfl, rfl⟩ := hrel
    by_cases h1 : k < l.length
    · obtain ⟨b, off, rfl, hb, hcell⟩ := hc (by omega)
      have c0 := (b2.cell (p := ⟨b, off + k * 1 + 0, none⟩) (by simp; omega)).trans (hcell k h1 0 _ rfl)
      simp only [Nat.mul_one, Nat.add_zero, bv] at c0
      have E : Hid (dv n (l.take (k + 1)) = stp (dv n (l.take k)) (l[k]'h1)) := dv_take n l k h1
      generalize l[k]'h1 = x at *
      generalize dv n (l.take k) = m at *
      have hx := xor_lt m x
      have e1 := uv_byte m x
      have e2 := uv_shift8 m
      have t0 := ht _ hx
      have F : Hid (uv (stp m x) = bits .xor .u32 (uv (m >>> (8 : Nat))) (uv (mvN 8 (BitVec.ofNat 32 ((m.toNat % 256) ^^^ x.toNat))))) := by
        show _ = _
        rw [uv_xor, ← stp_tab]
      unfold tcell at t0
      have i1 : (k : Int) < (l.length : Int) := by omega
      have ub := uv_bd m
      clear hcell hc ht
      generalize (m.toNat % 256) ^^^ x.toNat = ix at *
      have hx2 : (ix : Int) < 256 := by omega
      generalize uv (mvN 8 (BitVec.ofNat 32 ix)) = tv at *
      generalize uv (m >>> (8 : Nat)) = sh at *
      generalize uv m = u at *
      go_wp2
      go_round
      case rel => exact ⟨k + 1, by omega, by go_num, by rw [E.out, F.out]⟩
      case measure => simp [intOf]; omega
    · have e : l.take k = l := List.take_of_length_le (by omega)
      rw [e]
      clear hc ht
      go_wp2
      go_ret
      exact ⟨rfl, b2⟩

set_option maxHeartbeats 1000000 in
set_option maxRecDepth 1000000 in
theorem on_any (w : World) (lim : Nat) (v : Value) (l : List UInt8) (s : BitVec 32) (hl : InAt w lim v l) (hlim : lim ≤ w.heap.size) :
    Calls Try.prog 45 #[.int .u32 (uv s), v] w fun e w' => e = .returned (.int .u32 (uv (sumOn s l))) ∧ Below w.heap.size w w' := by
  have k := divide_any w lim v l (~~~ s) hl hlim
  have e1 := uv_not s
  have e2 := uv_not (dv (~~~ s) l)
  obtain ⟨ao, cap, rfl, hlc, hcm, hc⟩ := hl
  unfold sumOn
  clear hc
  generalize uv (~~~ dv (~~~ s) l) = r at *
  generalize uv (dv (~~~ s) l) = d at *
  generalize uv (~~~ s) = q at *
  generalize uv s = p at *
  go_enter Try.func45, Try.ntmps45
  go_wp2_with fail
  refine k.mono ?_
  rintro e w1 ⟨rfl, b1⟩
  go_wp2
  go_ret
  exact ⟨rfl, b1⟩

set_option maxHeartbeats 1000000 in
set_option maxRecDepth 1000000 in
theorem of_any (w : World) (lim : Nat) (v : Value) (l : List UInt8) (hl : InAt w lim v l) (hlim : lim ≤ w.heap.size) :
    Calls Try.prog 46 #[v] w fun e w' => e = .returned (.int .u32 (uv (sumOf l))) ∧ Below w.heap.size w w' := by
  have k : Calls Try.prog 45 #[.int .u32 0, v] w fun e w' => e = .returned (.int .u32 (uv (sumOf l))) ∧ Below w.heap.size w w' := on_any w lim v l 0#32 hl hlim
  obtain ⟨ao, cap, rfl, hlc, hcm, hc⟩ := hl
  clear hc
  generalize uv (sumOf l) = r at *
  go_enter Try.func46, Try.ntmps46
  go_wp2_with fail
  refine k.mono ?_
  rintro e w1 ⟨rfl, b1⟩
  go_wp2
  go_ret
  exact ⟨rfl, b1⟩
end Go.Proofs.Ytjaidhglemnakaa
