/- The walk of alive: the answers that the document fixes are given. -/
import Derived.Test.YtogmoemeppnieabFGet
import Derived.Test.YtogmoemeppnieabGConv
import Derived.Lib.SlBytesConst
import Derived.Deep.OwnRows
set_option linter.unusedSimpArgs false
set_option linter.unusedVariables false
namespace Go.Proofs.Ytogmoemeppnieab
open Go.RowKit

theorem flit_in (w : World) (cs : List UInt8) (fr : Nat × Nat) (t : TypeId) (hn : cs.length ≤ 100) : InAt (w.alloc (.cells (bcells cs).toArray t fr)) (w.heap.size + 1) (.slice (some ⟨w.heap.size, 0, none⟩) cs.length cs.length) cs := by
  refine ⟨_, _, rfl, Nat.le_refl _, by unfold maxLen; omega, fun hp => ⟨w.heap.size, 0, rfl, by omega, fun i hi j u hu => ?_⟩⟩
  have hj : j < 1 := by
    rcases Nat.lt_or_ge j 1 with h' | h'
    · exact h'
    · rw [List.getElem?_eq_none (by exact h')] at hu; cases hu
  obtain rfl : j = 0 := by omega
  have hcl : (w.alloc (.cells (bcells cs).toArray t fr)).cell? ⟨w.heap.size, i, none⟩ = (bcells cs).toArray[i]? := cell_of_row _ _ _ _ _ _ (heap_alloc_last w _)
  rw [show 0 + i * 1 + 0 = i by omega, hcl]
  simp only [bCell, List.getElem?_cons_zero] at hu
  simp [bcells, hi]
  exact Option.some.inj hu
theorem own_kept0 {w w' : World} {base : Nat} {v : Value} {bs : List UInt8} (h : BsAt w base v bs) (hb : ∀ b, v.ownBlock = some b → w'.heap[b]? = w.heap[b]?) : BsAt w' base v bs := by
  refine ⟨h.1, ?_⟩
  rcases h.2 with h1 | ⟨g, cap, cur, h1, h2, h3, h4⟩
  · exact .inl h1
  · exact .inr ⟨g, cap, cur, h1, h2, by rw [hb g (by rw [h1]; rfl)]; exact h3, h4⟩
/-- The frame of the record a. -/
def frA : List UInt8 := frame [97]
theorem frA_len : frA.length = 64 := by rw [frA, frame_len]; rfl
theorem frA_3 : (frA[3]'(by rw [frA_len]; omega)).toNat = 1 := by decide +kernel
theorem frA_8 : (frA[8]'(by rw [frA_len]; omega)).toNat = 97 := by decide +kernel
theorem getA_more (m : List UInt8) : getF (frA ++ m) = some [97] := getF_frame _ _ (by simp)
theorem getA_none : getF (List.replicate 64 0) = none := by decide +kernel
theorem getA_63 : getF (frA.take 63) = none := by
  unfold getF
  rw [if_pos (by rw [List.length_take, frA_len]; omega)]
theorem getA_last : getF (frA.set 63 1) = none := by decide +kernel
theorem putA (w : World) (fr : Nat × Nat) :
    Calls Try.prog 5 #[.slice (some ⟨w.heap.size, 0, none⟩) 1 1] (w.alloc (.cells #[.int .u8 97] 5 fr)) fun e w' => e = .returned (.tuple #[.slice (some ⟨w.heap.size + 1, 0, none⟩) 64 64, .int .i64 0]) ∧ BsAt w' (w.heap.size + 1) (.slice (some ⟨w.heap.size + 1, 0, none⟩) 64 64) frA ∧ Below w.heap.size w w' := by
  have hs : (w.alloc (.cells #[.int .u8 97] 5 fr)).heap.size = w.heap.size + 1 := by simp
  have k := put_ok (w.alloc (.cells #[.int .u8 97] 5 fr)) (.slice (some ⟨w.heap.size, 0, none⟩) 1 1) [97] (by rw [hs]; exact flit_in w [97] fr 5 (by simp)) (by simp)
  rw [hs] at k
  refine k.mono ?_
  rintro e w' ⟨h1, h2, h3⟩
  exact ⟨h1, h2, (below_one w _).trans (h3.mono (by omega))⟩
set_option maxHeartbeats 8000000 in
set_option maxRecDepth 1000000 in
theorem alive_any (w : World) : Calls Try.prog 4 #[] w fun e w' => e = .returned (.bool true) ∧ Below w.heap.size w w' := by
  obtain ⟨i0, hi, hz0, hz1, hz2⟩ := info_parts info_u8
  have hcc := fun (w : World) (C : Array Value) (n c : Nat) => Lib.run_convert_bytes_const (P := Try.prog) w 22 5 C n c Try.underlying22 Try.underlying5
  go_enter Try.func4, Try.ntmps4
  go_wp2_with fail
  refine (putA _ _).mono ?_
  rintro e w1 ⟨rfl, O1, b1⟩
  have z1 : w.heap.size + 1 < w1.heap.size := (O1.lt _ rfl).2
  obtain ⟨c3, -⟩ := bs_cell O1 (i := 3) (by rw [frA_len]; omega)
  obtain ⟨c8, -⟩ := bs_cell O1 (i := 8) (by rw [frA_len]; omega)
  rw [frA_3] at c3
  rw [frA_8] at c8
  replace c3 : w1.cell? ⟨w.heap.size + 1, 3, none⟩ = some (.int .u8 1) := c3
  replace c8 : w1.cell? ⟨w.heap.size + 1, 8, none⟩ = some (.int .u8 97) := c8
  have s1 := src_in O1.in
  rw [frA_len] at s1
  have hst : ∀ W : World, Src Try.prog 1 9 (.string ⟨#[109, 111, 114, 101]⟩) 4 (bcells [109, 111, 114, 101]) W := fun W => Src.ofString W Try.underlying9 ⟨#[109, 111, 114, 101]⟩
  go_wp2_with (first
    | (at_builtin; refine wpList_append_own_src _ rfl (.const (.slice none 0 0)) (.tmp 43) 22 22 rfl w1.heap.size 5 i0 (.int .u8 0) 1 1 Try.underlying22 hi hz0 hz1 hz2 rfl (by decide) (.slice none 0 0) 0 [] rfl (World.ownsRow_nil _ _ _ _) (.slice (some ⟨w.heap.size + 1, 0, none⟩) 64 64) 64 (bcells frA) rfl s1 (by unfold maxLen; omega) (by omega) (Nat.le_refl _) ?_; refine fun v3 w3 o3 g3 _ => ?_; have b3 := grown_below (Below.refl w1.heap.size w1) g3 (Nat.le_refl _) (BsAt.nil w1 w1.heap.size); have z3 := b3.size; clear g3)
    | (at_builtin; refine wpList_append_own_src _ rfl (.tmp 44) (.const (.string ⟨#[109, 111, 114, 101]⟩)) 22 9 rfl w1.heap.size 5 i0 (.int .u8 0) 1 1 Try.underlying22 hi hz0 hz1 hz2 rfl (by decide) v3 _ _ rfl o3 (.string ⟨#[109, 111, 114, 101]⟩) 4 (bcells [109, 111, 114, 101]) rfl (hst _) (by unfold maxLen; omega) (by omega) z3 ?_; refine fun v4 w4 o4 g4 _ => ?_; have b4 := grown_below b3 g4 z3 o3; clear g4))
  have O4 : BsAt w4 w1.heap.size v4 (frA ++ [109, 111, 114, 101]) := by
    unfold BsAt
    rw [List.length_append, frA_len, bcells_app]
    exact o4
  clear o4 o3 s1 hst
  have kg : Calls Try.prog 7 #[v4] w4 fun e w' => ∃ g, e = .returned (.tuple #[.slice (some ⟨g, 0, none⟩) 1 1, .int .i64 1, .int .i64 0]) ∧ BsAt w' w4.heap.size (.slice (some ⟨g, 0, none⟩) 1 1) [97] ∧ w4.heap.size ≤ g ∧ Below w4.heap.size w4 w' := get_some w4 v4 _ _ O4.in (getA_more _)
  refine kg.mono ?_
  rintro e w5 ⟨ga, rfl, O5, hga, b5⟩
  replace hga : w1.heap.size ≤ ga := Nat.le_trans b4.size hga
  replace b5 := b4.trans (b5.mono b4.size)
  have z5 := b5.size
  have hga5 : ga < w5.heap.size := (O5.lt _ rfl).2
  clear O4 b4 b3 z3 kg
  go_wp2_with (at_make; refine wpList_make_full _ rfl _ _ 22 rfl w5.heap.size 5 i0 (.int .u8 0) 1 Try.underlying22 hi hz0 hz1 .i64 .i64 _ _ 64 rfl rfl rfl rfl (by rw [hz2]; omega) (by unfold maxLen; omega) (Nat.le_refl _) ?_; intro w6 hown hgr)
  rw [made_zero] at hown
  have b6 : Below w5.heap.size w5 w6 := (Below.refl _ _).grown hgr (Nat.le_refl _) (fun k e => by cases e)
  have O6 : BsAt w6 w5.heap.size (.slice (some ⟨w5.heap.size, 0, none⟩) 64 64) (List.replicate 64 0) := by unfold BsAt; rw [List.length_replicate]; exact hown
  clear hown hgr
  refine (get_none w6 _ _ O6.in getA_none).mono ?_
  rintro e w7 ⟨rfl, b7⟩
  replace b7 := b6.trans (b7.mono b6.size)
  clear b6 O6
  have b17 := b5.trans (b7.mono z5)
  have i7 : InAt w7 w7.heap.size (.slice (some ⟨w.heap.size + 1, 0, none⟩) 63 64) (frA.take 63) := by
    have := (O1.below b17).in
    rw [← frA_len] at this
    have := in_take (n := 63) this (by rw [frA_len]; omega)
    rw [frA_len] at this
    exact this
  have k7 := get_none w7 _ _ i7 getA_63
  clear i7
  go_wp2_with (first
    | (go_at_call 7; refine k7.mono ?_; rintro e w8 ⟨rfl, b8⟩)
    | (at_make; refine wpList_make_full _ rfl _ _ 22 rfl w8.heap.size 5 i0 (.int .u8 0) 1 Try.underlying22 hi hz0 hz1 .i64 .i64 _ _ 16385 rfl rfl rfl rfl (by rw [hz2]; omega) (by unfold maxLen; omega) (Nat.le_refl _) ?_; intro w9 hown hgr))
  rw [made_zero] at hown
  have b9 : Below w8.heap.size w8 w9 := (Below.refl _ _).grown hgr (Nat.le_refl _) (fun k e => by cases e)
  have O9 : BsAt w9 w8.heap.size (.slice (some ⟨w8.heap.size, 0, none⟩) 16385 16385) (List.replicate 16385 0) := by unfold BsAt; rw [List.length_replicate]; exact hown
  clear hown hgr k7
  refine (put_big w9 _ _ O9.in (by rw [List.length_replicate]; omega)).mono ?_
  rintro e w10 ⟨rfl, rfl⟩
  clear O9
  have b19 := (b17.trans (b8.mono b17.size)).trans (b9.mono (Nat.le_trans b17.size b8.size))
  have b59 := (b7.trans (b8.mono b7.size)).trans (b9.mono (Nat.le_trans b7.size b8.size))
  clear b17 b8 b9 b7
  have O10 := O1.below b19
  have O10a := O5.below b59
  obtain ⟨c63, z63⟩ := bs_cell O10 (i := 63) (by rw [frA_len]; omega)
  have O11 : BsAt (w9.setCell ⟨w.heap.size + 1, 63, none⟩ (.int .u8 1)) (w.heap.size + 1) (.slice (some ⟨w.heap.size + 1, 0, none⟩) 64 64) (frA.set 63 1) := bs_set O10 (i := 63) (by rw [frA_len]; omega) 1
  generalize frA[63] = old at c63
  have hsz : (w9.setCell ⟨w.heap.size + 1, 63, none⟩ (.int .u8 1)).heap.size = w9.heap.size := by simp [World.setCell]
  have O11a : BsAt (w9.setCell ⟨w.heap.size + 1, 63, none⟩ (.int .u8 1)) w4.heap.size (.slice (some ⟨ga, 0, none⟩) 1 1) [97] := by
    refine own_kept0 O10a (fun b e => ?_)
    cases e
    exact Below.heap_setCell _ _ _ _ (by simp; omega)
  have b11 : Below w.heap.size w (w9.setCell ⟨w.heap.size + 1, 63, none⟩ (.int .u8 1)) := (b1.trans (b19.mono (by omega))).setCell (by simp) _
  clear O10 O10a O1 O5 b19 b59
  have k11 := get_none _ _ _ O11.in getA_last
  go_wp2_with (go_at_call 7; refine k11.mono ?_; rintro e w12 ⟨rfl, b12⟩; have hcv := conv_in (O11a.below b12).in)
  go_ret
  exact ⟨rfl, b11.trans (b12.mono (by rw [hsz]; have := b11.size; rw [hsz] at this; exact this))⟩
end Go.Proofs.Ytogmoemeppnieab
