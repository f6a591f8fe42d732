import Derived.Test.YtcgecdiaddcfkaaGreatDoorM9
import Derived.Test.YtcgecdiaddcfkaaGreatDoorPMathM
import Derived.Test.YtcgecdiaddcfkaaGreatDoorM15
/- The walk of Text: a message's line. -/
set_option linter.unusedSimpArgs false
set_option linter.unusedVariables false
namespace Go.Proofs.YtcgecdiaddcfkaaGreatDoor
open Go.RowKit

/-- A number's numeral. -/
def numB (n : Nat) : ByteArray := ⟨(Lib.decDigits n).toArray⟩
def spB : ByteArray := ⟨#[32]⟩
/-- The line's first so many numbers. -/
def lineN (s f t g : Nat) : Nat → ByteArray
  | 0 => numB s
  | 1 => numB s ++ (spB ++ numB f)
  | 2 => numB s ++ (spB ++ numB f) ++ (spB ++ numB t)
  | _ => numB s ++ (spB ++ numB f) ++ (spB ++ numB t) ++ (spB ++ numB g)
theorem numB_size {n : Nat} (h : n < 4294967296) : (numB n).size ≤ 20 := by
  show (Lib.decDigits n).toArray.size ≤ 20
  rw [List.size_toArray, Lib.decDigits_length]; exact nDigits_small (by omega)
theorem spB_size : spB.size = 1 := rfl
theorem lineN_size {s f t g : Nat} (h1 : s < 256) (h2 : f < 256) (h3 : t < 256) (h4 : g < 4294967296) (k : Nat) : (lineN s f t g k).size ≤ 90 := by
  have a1 := numB_size (n := s) (by omega)
  have a2 := numB_size (n := f) (by omega)
  have a3 := numB_size (n := t) (by omega)
  have a4 := numB_size (n := g) (by omega)
  match k with
  | 0 => show (numB s).size ≤ 90; omega
  | 1 => show (numB s ++ (spB ++ numB f)).size ≤ 90; simp only [ByteArray.size_append, spB_size]; omega
  | 2 => show (numB s ++ (spB ++ numB f) ++ (spB ++ numB t)).size ≤ 90; simp only [ByteArray.size_append, spB_size]; omega
  | k + 3 => show (numB s ++ (spB ++ numB f) ++ (spB ++ numB t) ++ (spB ++ numB g)).size ≤ 90; simp only [ByteArray.size_append, spB_size]; omega
theorem text_ix0 (f t g : Int) (W : World) : (Instr.index 71 (.agg #[.int .u32 f, .int .u32 t, .int .u32 g]) (.int .i64 0)).run Tryz.prog W = .ok (.int .u32 f) W := by kernel_rfl
theorem text_ix1 (f t g : Int) (W : World) : (Instr.index 71 (.agg #[.int .u32 f, .int .u32 t, .int .u32 g]) (.int .i64 1)).run Tryz.prog W = .ok (.int .u32 t) W := by kernel_rfl
theorem text_ix2 (f t g : Int) (W : World) : (Instr.index 71 (.agg #[.int .u32 f, .int .u32 t, .int .u32 g]) (.int .i64 2)).run Tryz.prog W = .ok (.int .u32 g) W := by kernel_rfl

set_option maxHeartbeats 2000000 in
set_option maxRecDepth 1000000 in
theorem Text_any (w : World) (s f t g : Nat) (h1 : s < 256) (h2 : f < 256) (h3 : t < 256) (h4 : g < 4294967296) (ao bo : Option Addr) (na ca nb cb : Nat) (htab : Tab w) :
    Calls Tryz.prog 10 #[.agg #[.int .u8 (s : Int), .int .u8 (f : Int), .int .u8 (t : Int), .int .u32 (g : Int), .slice ao na ca, .slice bo nb cb]] w fun e w' => e = .returned (.string (lineN s f t g 3)) ∧ Below w.heap.size w w' := by
  have kf : ∀ n : Nat, n < 4294967296 → ∀ W, Below w.heap.size w W → Calls Tryz.prog 36 #[.int .u64 (n : Int), .int .i64 10] W fun e w' => e = .returned (.string (numB n)) ∧ Below W.heap.size W w' := fun n hn W hW => fmt_any n W (by omega) (tab_below htab hW)
  have ks := kf s (by omega)
  have kk : ∀ k : Nat, k < 3 → ∀ W, Below w.heap.size w W → Calls Tryz.prog 36 #[.int .u64 ((if k = 0 then f else if k = 1 then t else g : Nat) : Int), .int .i64 10] W fun e w' => e = .returned (.string (numB (if k = 0 then f else if k = 1 then t else g))) ∧ Below W.heap.size W w' := fun k hk => kf _ (by split <;> (try split) <;> omega)
  have hb1 : (s : Int) < 256 := by omega
  have hb2 : (f : Int) < 256 := by omega
  have hb3 : (t : Int) < 256 := by omega
  have hb4 : (g : Int) < 4294967296 := by omega
  have ls := lineN_size h1 h2 h3 h4
  have ns : ∀ k : Nat, k < 3 → (numB (if k = 0 then f else if k = 1 then t else g)).size ≤ 20 := fun k _ => numB_size (by split <;> (try split) <;> omega)
  have l0 : lineN s f t g 0 = numB s := rfl
  have lk : Hid (∀ k : Nat, k < 3 → lineN s f t g k ++ (spB ++ numB (if k = 0 then f else if k = 1 then t else g)) = lineN s f t g (k + 1)) := fun k hk => by
    rcases (show k = 0 ∨ k = 1 ∨ k = 2 by omega) with rfl | rfl | rfl <;> rfl
  have i0 := text_ix0 f t g
  have i1 := text_ix1 f t g
  have i2 := text_ix2 f t g
  obtain ⟨W1, hW1⟩ : ∃ W1, W1 = w.alloc (.cells #[.int .u8 (s : Int), .int .u8 (f : Int), .int .u8 (t : Int), .int .u32 (g : Int), .slice ao na ca, .slice bo nb cb] 27) := ⟨_, rfl⟩
  have B1 : Below w.heap.size w W1 := by rw [hW1]; exact below_one w _
  have a1 : W1.cell? ⟨w.heap.size, 1, none⟩ = some (.int .u8 (f : Int)) := by rw [hW1]; go_simp
  have a2 : W1.cell? ⟨w.heap.size, 2, none⟩ = some (.int .u8 (t : Int)) := by rw [hW1]; go_simp
  have a3 : W1.cell? ⟨w.heap.size, 3, none⟩ = some (.int .u32 (g : Int)) := by rw [hW1]; go_simp
  have z1 : w.heap.size < W1.heap.size := by rw [hW1]; simp
  generalize lineN s f t g = ln at *
  clear kf h1 h2 h3 h4
  go_enter Tryz.func10, Tryz.ntmps10
  go_wp2_with fail
  rw [← hW1]
  refine (ks W1 B1).mono ?_
  rintro e w2 ⟨rfl, b2⟩
  have b3 := B1.trans (b2.mono B1.size)
  have c1 := (b2.cell (p := ⟨w.heap.size, 1, none⟩) z1).trans a1
  have c2 := (b2.cell (p := ⟨w.heap.size, 2, none⟩) z1).trans a2
  have c3 := (b2.cell (p := ⟨w.heap.size, 3, none⟩) z1).trans a3
  rw [← l0]
  clear ks a1 a2 a3 hW1 l0 B1 b2
  go_wp2
  go_loopw [3, 19] (fun x i wr => ∃ k : Nat, k ≤ 3 ∧ i = .int .i64 (k : Int) ∧ x = .string (ln k) ∧ Below w.heap.size w wr) (fun _ i _ => 3 - (intOf i).toNat)
  case atStart => exact ⟨0, by omega, rfl, rfl, b3⟩
  case round =>
    obtain ⟨k, hk, rfl, rfl, hB⟩ := hrel
    by_cases h3 : k < 3
    · have kc := kk k h3 wr hB
      have lsk := ls k
      have nsk := ns k h3
      have lkk : Hid _ := lk.out k h3
      clear kk ls ns lk c1 c2 c3
      rcases (show k = 0 ∨ k = 1 ∨ k = 2 by omega) with rfl | rfl | rfl
      all_goals
        simp only [if_true, if_false, Nat.one_ne_zero, Nat.reduceEqDiff, Nat.reduceAdd, ↓reduceIte] at kc lkk nsk
        simp only [show ((0 : Nat) : Int) = 0 from rfl, show ((1 : Nat) : Int) = 1 from rfl, show ((2 : Nat) : Int) = 2 from rfl]
        go_wp2_with fail
        refine kc.mono ?_
        rintro e w4 ⟨rfl, b4⟩
        have b5 := hB.trans (b4.mono hB.size)
        clear kc b4
        go_wp2
        go_roundw
        case rel => first | exact ⟨1, by omega, by first | rfl | go_num, by rw [← lkk.out]; rfl, b5⟩ | exact ⟨2, by omega, by first | rfl | go_num, by rw [← lkk.out]; rfl, b5⟩ | exact ⟨3, by omega, by first | rfl | go_num, by rw [← lkk.out]; rfl, b5⟩
        case measure => simp [intOf]
    · obtain rfl : k = 3 := by omega
      clear kk ls ns lk c1 c2 c3
      go_wp2
      go_ret
      exact ⟨rfl, hB⟩
end Go.Proofs.YtcgecdiaddcfkaaGreatDoor
