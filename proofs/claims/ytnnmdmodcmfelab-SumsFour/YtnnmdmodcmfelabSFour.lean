/- The walk of SumsFour: of at most four bytes, unlike ones have unlike sums. -/
import Derived.Test.YtnnmdmodcmfelabSAlive
import Derived.Test.YtnnmdmodcmfelabSLaw
import Derived.Test.YtnnmdmodcmfelabGConv
import Derived.Deep.RegionHeld3
set_option linter.unusedSimpArgs false
set_option linter.unusedVariables false
namespace Go.Proofs.Ytnnmdmodcmfelab
open Go.RowKit

def cells8 (x0 x1 x2 x3 y0 y1 y2 y3 : UInt8) : Array Value := #[.int .u8 (x0.toNat : Int), .int .u8 (x1.toNat : Int), .int .u8 (x2.toNat : Int), .int .u8 (x3.toNat : Int), .int .u8 (y0.toNat : Int), .int .u8 (y1.toNat : Int), .int .u8 (y2.toNat : Int), .int .u8 (y3.toNat : Int)]
def arr8 (x0 x1 x2 x3 y0 y1 y2 y3 : UInt8) : Value := .agg (cells8 x0 x1 x2 x3 y0 y1 y2 y3)
theorem up {W0 W : World} {F : Nat} {args : Array Value} {r : Value} {B : Nat} (hW : Below B W0 W) (h : Calls Try.prog F args W fun e w' => e = .returned r ∧ Below W.heap.size W w') (hB : B ≤ W0.heap.size := by exact Nat.le_refl _) : Calls Try.prog F args W fun e w' => e = .returned r ∧ Below B W0 w' :=
  h.mono (fun e w' ⟨h1, h2⟩ => ⟨h1, hW.trans (h2.mono (Nat.le_trans hB hW.size))⟩)
theorem in_part {w : World} {g o : Nat} {cs : Array Value} {t : TypeId} (hg : w.heap[g]? = some (.cells cs t (0, 0))) (m : List UInt8) (hm : m.length ≤ 4) (hc : ∀ i (hi : i < m.length), cs[o + i]? = some (bv (m[i]'hi))) : InAt w w.heap.size (.slice (some ⟨g, o, none⟩) m.length 4) m := by
  refine ⟨_, _, rfl, hm, by unfold maxLen; omega, fun hp => ⟨g, o, rfl, ?_, fun i hi j u hu => ?_⟩⟩
  · rcases Nat.lt_or_ge g w.heap.size with h' | h'
    · exact h'
    · rw [Array.getElem?_eq_none h'] at hg; cases hg
  · have hj : j < 1 := by
      rcases Nat.lt_or_ge j 1 with h' | h'
      · exact h'
      · rw [List.getElem?_eq_none (by exact h')] at hu; cases hu
    obtain rfl : j = 0 := by omega
    rw [Nat.mul_one, Nat.add_zero, cell_of_row w g _ cs t (0, 0) hg, hc i hi]
    exact hu
theorem in_first (w : World) (x0 x1 x2 x3 y0 y1 y2 y3 : UInt8) (k : Nat) (hk : k ≤ 4) : InAt (w.alloc (.cells (cells8 x0 x1 x2 x3 y0 y1 y2 y3) 24)) (w.alloc (.cells (cells8 x0 x1 x2 x3 y0 y1 y2 y3) 24)).heap.size (.slice (some ⟨w.heap.size, 0, none⟩) k 4) ([x0, x1, x2, x3].take k) := by
  have hl : ([x0, x1, x2, x3].take k).length = k := by simp; omega
  have := in_part (o := 0) (heap_alloc_last w (.cells (cells8 x0 x1 x2 x3 y0 y1 y2 y3) 24)) ([x0, x1, x2, x3].take k) (by omega) (fun i hi => by
    rw [List.getElem_take]
    match i, (show i < 4 by omega) with
    | 0, _ => rfl
    | 1, _ => rfl
    | 2, _ => rfl
    | 3, _ => rfl)
  rw [hl] at this
  exact this
theorem in_second (w : World) (x0 x1 x2 x3 y0 y1 y2 y3 : UInt8) (k : Nat) (hk : k ≤ 4) : InAt (w.alloc (.cells (cells8 x0 x1 x2 x3 y0 y1 y2 y3) 24)) (w.alloc (.cells (cells8 x0 x1 x2 x3 y0 y1 y2 y3) 24)).heap.size (.slice (some ⟨w.heap.size, 4, none⟩) k 4) ([y0, y1, y2, y3].take k) := by
  have hl : ([y0, y1, y2, y3].take k).length = k := by simp; omega
  have := in_part (o := 4) (heap_alloc_last w (.cells (cells8 x0 x1 x2 x3 y0 y1 y2 y3) 24)) ([y0, y1, y2, y3].take k) (by omega) (fun i hi => by
    rw [List.getElem_take]
    match i, (show i < 4 by omega) with
    | 0, _ => rfl
    | 1, _ => rfl
    | 2, _ => rfl
    | 3, _ => rfl)
  rw [hl] at this
  exact this

set_option maxHeartbeats 4000000 in
set_option maxRecDepth 1000000 in
theorem four_same (w : World) (vb : Value) (l : List UInt8) (x0 x1 x2 x3 y0 y1 y2 y3 : UInt8) (z : Int) (hl : InAt w w.heap.size vb l) (hz : (Lit.int .u8 z).wf = true) (hlong : ¬ 100000 < l.length)
    (hxy : [x0, x1, x2, x3].take (z % 5).toNat = [y0, y1, y2, y3].take (z % 5).toNat) :
    Calls Try.prog 3 #[vb, arr8 x0 x1 x2 x3 y0 y1 y2 y3, .int .u8 z] w fun e w' => e = .returned (.bool true) ∧ Below w.heap.size w w' := by
  have zb := bounds_u8 hz
  clear hz
  obtain ⟨k, ek, hk⟩ : ∃ k : Nat, z % 5 = (k : Int) ∧ k ≤ 4 := ⟨(z % 5).toNat, by omega, by omega⟩
  rw [ek, Int.toNat_natCast] at hxy
  obtain ⟨W0, hW0⟩ : ∃ W0, W0 = w.alloc (.cells (cells8 x0 x1 x2 x3 y0 y1 y2 y3) 24) := ⟨_, rfl⟩
  have B0 : Below w.heap.size w W0 := by rw [hW0]; exact below_one w _
  have Z0 : W0.heap.size = w.heap.size + 1 := by rw [hW0]; simp
  have ix : InAt W0 W0.heap.size (.slice (some ⟨w.heap.size, 0, none⟩) k 4) ([x0, x1, x2, x3].take k) := by rw [hW0]; exact in_first w _ _ _ _ _ _ _ _ k hk
  have iy : InAt W0 W0.heap.size (.slice (some ⟨w.heap.size, 4, none⟩) k 4) ([y0, y1, y2, y3].take k) := by rw [hW0]; exact in_second w _ _ _ _ _ _ _ _ k hk
  have E1 : (uv (sumOn (sumOf l) ([x0, x1, x2, x3].take k)) == uv (sumOn (sumOf l) ([y0, y1, y2, y3].take k))) = true := by
    rw [uv_eqB, decide_eq_true_eq, sum_few (by simp) (by simp; omega)]
    exact hxy
  have E2 : ((⟨([x0, x1, x2, x3].take k).toArray⟩ : ByteArray).toList == (⟨([y0, y1, y2, y3].take k).toArray⟩ : ByteArray).toList) = true := by
    rw [ByteArray.toList_eq, ByteArray.toList_eq]
    rw [beq_iff_eq]; exact hxy
  have kA := alive_any W0
  have kO : ∀ W, Below W0.heap.size W0 W → Calls Try.prog 5 #[vb] W fun e w' => e = .returned (.int .u32 (uv (sumOf l))) ∧ Below W0.heap.size W0 w' := fun W hW => up hW (of_any W _ _ l ((hl.below B0 (Nat.le_refl _)).below hW (by omega)) (by have := hW.size; omega))
  have kX : ∀ W, Below W0.heap.size W0 W → Calls Try.prog 6 #[.int .u32 (uv (sumOf l)), .slice (some ⟨w.heap.size, 0, none⟩) k 4] W fun e w' => e = .returned (.int .u32 (uv (sumOn (sumOf l) ([x0, x1, x2, x3].take k)))) ∧ Below W0.heap.size W0 w' := fun W hW => up hW (on_any W _ _ _ _ (ix.below hW (Nat.le_refl _)) hW.size)
  have kY : ∀ W, Below W0.heap.size W0 W → Calls Try.prog 6 #[.int .u32 (uv (sumOf l)), .slice (some ⟨w.heap.size, 4, none⟩) k 4] W fun e w' => e = .returned (.int .u32 (uv (sumOn (sumOf l) ([y0, y1, y2, y3].take k)))) ∧ Below W0.heap.size W0 w' := fun W hW => up hW (on_any W _ _ _ _ (iy.below hW (Nat.le_refl _)) hW.size)
  have cx : ∀ W, Below W0.heap.size W0 W → (convert 22 9 (.slice (some ⟨w.heap.size, 0, none⟩) k 4)).run Try.prog W = .ok (.string ⟨([x0, x1, x2, x3].take k).toArray⟩) W := fun W hW => conv_in (ix.below hW (Nat.le_refl _))
  have cy : ∀ W, Below W0.heap.size W0 W → (convert 22 9 (.slice (some ⟨w.heap.size, 4, none⟩) k 4)).run Try.prog W = .ok (.string ⟨([y0, y1, y2, y3].take k).toArray⟩) W := fun W hW => conv_in (iy.below hW (Nat.le_refl _))
  obtain ⟨ao, cap, rfl, hlc, hcm, -⟩ := hl
  unfold maxLen at hcm
  have i1 : ¬ (100000 : Int) < (l.length : Int) := by omega
  have i2 : (k : Int) ≤ 4 := by omega
  clear ix iy hxy
  generalize uv (sumOn (sumOf l) ([x0, x1, x2, x3].take k)) = p1 at *
  generalize uv (sumOn (sumOf l) ([y0, y1, y2, y3].take k)) = p2 at *
  generalize uv (sumOf l) = p0 at *
  generalize (⟨([x0, x1, x2, x3].take k).toArray⟩ : ByteArray) = sx at *
  generalize (⟨([y0, y1, y2, y3].take k).toArray⟩ : ByteArray) = sy at *
  unfold arr8
  unfold cells8 at hW0 ⊢
  have HW : Hid (w.alloc (.cells #[.int .u8 (x0.toNat : Int), .int .u8 (x1.toNat : Int), .int .u8 (x2.toNat : Int), .int .u8 (x3.toNat : Int), .int .u8 (y0.toNat : Int), .int .u8 (y1.toNat : Int), .int .u8 (y2.toNat : Int), .int .u8 (y3.toNat : Int)] 24) = W0) := hW0.symm
  clear hW0
  go_enter Try.func3, Try.ntmps3
  go_wp2_with fail
  rw [HW.out]
  refine kA.mono ?_
  rintro e w1 ⟨rfl, b1⟩
  clear kA
  go_wp2_with fail
  refine (kO w1 b1).mono ?_
  rintro e w2 ⟨rfl, b2⟩
  clear kO b1
  go_wp2_with fail
  clear hlong i1 hlc hcm zb
  refine wp_region_noPanic ?_
  refine wp_region_held_drew (S := fun w' => Below W0.heap.size W0 w') (by kernel_rfl) b2.drew (fun hHeld => ?_)
  clear b2
  -- REGION 1
  refine wpAnyH_take (i := 0) (oi := { dst := some 30, op := Go.Op.move (Go.Operand.tmp 8), type := 26, pos := _, after := #[], guard := none }) (v := .int .u32 p0) rfl (by kernel_rfl) (by kernel_rfl) (by kernel_rfl) (fun _ _ _ h => h) (Or.inl ⟨by rfl, fun W hW => by go_simp⟩) (by assumption) ?_
  try simp only [Act.put, List.setIfInBounds_toArray, List.set_cons_zero, List.set_cons_succ]
  refine wpAnyH_take (i := 1) (oi := { dst := some 31, op := Go.Op.move (Go.Operand.tmp 9), type := 22, pos := _, after := #[], guard := none }) (v := .slice (some ⟨w.heap.size, 0, none⟩) k 4) rfl (by kernel_rfl) (by kernel_rfl) (by kernel_rfl) (fun _ _ _ h => h) (Or.inl ⟨by rfl, fun W hW => by go_simp⟩) (by assumption) ?_
  try simp only [Act.put, List.setIfInBounds_toArray, List.set_cons_zero, List.set_cons_succ]
  refine wpAnyH_take (i := 3) (oi := { dst := some 33, op := Go.Op.move (Go.Operand.tmp 8), type := 26, pos := _, after := #[], guard := none }) (v := .int .u32 p0) rfl (by kernel_rfl) (by kernel_rfl) (by kernel_rfl) (fun _ _ _ h => h) (Or.inl ⟨by rfl, fun W hW => by go_simp⟩) (by assumption) ?_
  try simp only [Act.put, List.setIfInBounds_toArray, List.set_cons_zero, List.set_cons_succ]
  refine wpAnyH_take (i := 4) (oi := { dst := some 34, op := Go.Op.move (Go.Operand.tmp 10), type := 22, pos := _, after := #[], guard := none }) (v := .slice (some ⟨w.heap.size, 4, none⟩) k 4) rfl (by kernel_rfl) (by kernel_rfl) (by kernel_rfl) (fun _ _ _ h => h) (Or.inl ⟨by rfl, fun W hW => by go_simp⟩) (by assumption) ?_
  try simp only [Act.put, List.setIfInBounds_toArray, List.set_cons_zero, List.set_cons_succ]
  refine wpAnyH_take (i := 7) (oi := { dst := some 37, op := Go.Op.move (Go.Operand.tmp 9), type := 22, pos := _, after := #[], guard := none }) (v := .slice (some ⟨w.heap.size, 0, none⟩) k 4) rfl (by kernel_rfl) (by kernel_rfl) (by kernel_rfl) (fun _ _ _ h => h) (Or.inl ⟨by rfl, fun W hW => by go_simp⟩) (by assumption) ?_
  try simp only [Act.put, List.setIfInBounds_toArray, List.set_cons_zero, List.set_cons_succ]
  refine wpAnyH_take (i := 8) (oi := { dst := some 38, op := Go.Op.convert 22 9 (Go.Operand.tmp 37), type := 9, pos := _, after := #[{ on := 7, ground := Go.Ground.data }], guard := none }) (v := .string sx) rfl (by kernel_rfl) (by kernel_rfl) (by kernel_rfl) (fun _ _ _ h => h) (Or.inl ⟨by rfl, fun W hW => by have cx1 := cx W hW; have cy1 := cy W hW; go_simp⟩) (by assumption) ?_
  try simp only [Act.put, List.setIfInBounds_toArray, List.set_cons_zero, List.set_cons_succ]
  refine wpAnyH_take (i := 9) (oi := { dst := some 39, op := Go.Op.move (Go.Operand.tmp 10), type := 22, pos := _, after := #[], guard := none }) (v := .slice (some ⟨w.heap.size, 4, none⟩) k 4) rfl (by kernel_rfl) (by kernel_rfl) (by kernel_rfl) (fun _ _ _ h => h) (Or.inl ⟨by rfl, fun W hW => by go_simp⟩) (by assumption) ?_
  try simp only [Act.put, List.setIfInBounds_toArray, List.set_cons_zero, List.set_cons_succ]
  refine wpAnyH_take (i := 10) (oi := { dst := some 40, op := Go.Op.convert 22 9 (Go.Operand.tmp 39), type := 9, pos := _, after := #[{ on := 9, ground := Go.Ground.data }], guard := none }) (v := .string sy) rfl (by kernel_rfl) (by kernel_rfl) (by kernel_rfl) (fun _ _ _ h => h) (Or.inl ⟨by rfl, fun W hW => by have cx1 := cx W hW; have cy1 := cy W hW; go_simp⟩) (by assumption) ?_
  try simp only [Act.put, List.setIfInBounds_toArray, List.set_cons_zero, List.set_cons_succ]
  refine wpAnyH_take (i := 11) (oi := { dst := some 41, op := Go.Op.binOp Go.BinOp.eql 9 (Go.Operand.tmp 38) (Go.Operand.tmp 40) 9, type := 4, pos := _, after := #[{ on := 8, ground := Go.Ground.data }, { on := 10, ground := Go.Ground.data }], guard := none }) (v := .bool true) rfl (by kernel_rfl) (by kernel_rfl) (by kernel_rfl) (fun _ _ _ h => h) (Or.inl ⟨by rfl, fun W hW => by go_simp⟩) (by assumption) ?_
  try simp only [Act.put, List.setIfInBounds_toArray, List.set_cons_zero, List.set_cons_succ]
  refine wpAnyH_ready (rs := [2]) (by kernel_rfl) (by simp) ?_
  refine AllReadyH.cons (o := { dst := some 32, op := Go.Op.call { callee := Go.Callee.value (Go.Operand.func 6), args := #[Go.Operand.tmp 30, Go.Operand.tmp 31], argTypes := #[26, 22] }, type := 26, pos := _, after := #[{ on := 0, ground := Go.Ground.data }, { on := 1, ground := Go.Ground.data }], guard := none }) rfl (fun K hK => ?_) AllReadyH.nil
  go_simp
  refine (kX _ hHeld).mono ?_
  rintro e w' ⟨rfl, hb⟩
  go_wp2_with fail
  refine hK.out _ _ hb (fun hHeld2 => ?_)
  clear hK K hHeld hb
  have hHeld := hHeld2
  clear hHeld2
  try simp only [Act.put, List.setIfInBounds_toArray, List.set_cons_zero, List.set_cons_succ]
  refine wpAnyH_ready (rs := [5]) (by kernel_rfl) (by simp) ?_
  refine AllReadyH.cons (o := { dst := some 35, op := Go.Op.call { callee := Go.Callee.value (Go.Operand.func 6), args := #[Go.Operand.tmp 33, Go.Operand.tmp 34], argTypes := #[26, 22] }, type := 26, pos := _, after := #[{ on := 3, ground := Go.Ground.data }, { on := 4, ground := Go.Ground.data }, { on := 2, ground := Go.Ground.chain }], guard := none }) rfl (fun K hK => ?_) AllReadyH.nil
  go_simp
  refine (kY _ hHeld).mono ?_
  rintro e w' ⟨rfl, hb⟩
  go_wp2_with fail
  refine hK.out _ _ hb (fun hHeld2 => ?_)
  clear hK K hHeld hb
  have hHeld := hHeld2
  clear hHeld2
  try simp only [Act.put, List.setIfInBounds_toArray, List.set_cons_zero, List.set_cons_succ]
  refine wpAnyH_take (i := 6) (oi := { dst := some 36, op := Go.Op.binOp Go.BinOp.eql 26 (Go.Operand.tmp 32) (Go.Operand.tmp 35) 26, type := 4, pos := _, after := #[{ on := 2, ground := Go.Ground.data }, { on := 5, ground := Go.Ground.data }], guard := none }) (v := .bool true) rfl (by kernel_rfl) (by kernel_rfl) (by kernel_rfl) (fun _ _ _ h => h) (Or.inl ⟨by rfl, fun W hW => by go_simp⟩) (by assumption) ?_
  try simp only [Act.put, List.setIfInBounds_toArray, List.set_cons_zero, List.set_cons_succ]
  refine wpAnyH_take (i := 12) (oi := { dst := some 42, op := Go.Op.binOp Go.BinOp.eql 4 (Go.Operand.tmp 36) (Go.Operand.tmp 41) 4, type := 4, pos := _, after := #[{ on := 6, ground := Go.Ground.data }, { on := 11, ground := Go.Ground.data }], guard := none }) (v := .bool true) rfl (by kernel_rfl) (by kernel_rfl) (by kernel_rfl) (fun _ _ _ h => h) (Or.inl ⟨by rfl, fun W hW => by go_simp⟩) (by assumption) ?_
  try simp only [Act.put, List.setIfInBounds_toArray, List.set_cons_zero, List.set_cons_succ]
  refine wpAnyH_take (i := 13) (oi := { dst := some 6, op := Go.Op.assign (Go.Operand.tmp 42), type := 4, pos := _, after := #[{ on := 12, ground := Go.Ground.data }, { on := 5, ground := Go.Ground.chain }, { on := 0, ground := Go.Ground.phase }, { on := 1, ground := Go.Ground.phase }, { on := 2, ground := Go.Ground.phase }, { on := 3, ground := Go.Ground.phase }, { on := 4, ground := Go.Ground.phase }, { on := 5, ground := Go.Ground.phase }, { on := 6, ground := Go.Ground.phase }, { on := 7, ground := Go.Ground.phase }, { on := 8, ground := Go.Ground.phase }, { on := 9, ground := Go.Ground.phase }, { on := 10, ground := Go.Ground.phase }, { on := 11, ground := Go.Ground.phase }, { on := 12, ground := Go.Ground.phase }], guard := none }) (v := .bool true) rfl (by kernel_rfl) (by kernel_rfl) (by kernel_rfl) (fun _ _ _ h => h) (Or.inl ⟨by rfl, fun W hW => by go_simp⟩) (by assumption) ?_
  try simp only [Act.put, List.setIfInBounds_toArray, List.set_cons_zero, List.set_cons_succ]
  -- END 1
  refine wpAnyH_done (by kernel_rfl) ?_ _
  refine NoPanic.normal ?_
  go_wp2
  go_ret
  exact ⟨rfl, B0.trans (hHeld.mono (by omega))⟩

set_option maxHeartbeats 4000000 in
set_option maxRecDepth 1000000 in
theorem four_other (w : World) (vb : Value) (l : List UInt8) (x0 x1 x2 x3 y0 y1 y2 y3 : UInt8) (z : Int) (hl : InAt w w.heap.size vb l) (hz : (Lit.int .u8 z).wf = true) (hlong : ¬ 100000 < l.length)
    (hxy : ¬ [x0, x1, x2, x3].take (z % 5).toNat = [y0, y1, y2, y3].take (z % 5).toNat) :
    Calls Try.prog 3 #[vb, arr8 x0 x1 x2 x3 y0 y1 y2 y3, .int .u8 z] w fun e w' => e = .returned (.bool true) ∧ Below w.heap.size w w' := by
  have zb := bounds_u8 hz
  clear hz
  obtain ⟨k, ek, hk⟩ : ∃ k : Nat, z % 5 = (k : Int) ∧ k ≤ 4 := ⟨(z % 5).toNat, by omega, by omega⟩
  rw [ek, Int.toNat_natCast] at hxy
  obtain ⟨W0, hW0⟩ : ∃ W0, W0 = w.alloc (.cells (cells8 x0 x1 x2 x3 y0 y1 y2 y3) 24) := ⟨_, rfl⟩
  have B0 : Below w.heap.size w W0 := by rw [hW0]; exact below_one w _
  have Z0 : W0.heap.size = w.heap.size + 1 := by rw [hW0]; simp
  have ix : InAt W0 W0.heap.size (.slice (some ⟨w.heap.size, 0, none⟩) k 4) ([x0, x1, x2, x3].take k) := by rw [hW0]; exact in_first w _ _ _ _ _ _ _ _ k hk
  have iy : InAt W0 W0.heap.size (.slice (some ⟨w.heap.size, 4, none⟩) k 4) ([y0, y1, y2, y3].take k) := by rw [hW0]; exact in_second w _ _ _ _ _ _ _ _ k hk
  have E1 : (uv (sumOn (sumOf l) ([x0, x1, x2, x3].take k)) == uv (sumOn (sumOf l) ([y0, y1, y2, y3].take k))) = false := by
    rw [uv_eqB, decide_eq_false_iff_not, sum_few (by simp) (by simp; omega)]
    exact hxy
  have E2 : ((⟨([x0, x1, x2, x3].take k).toArray⟩ : ByteArray).toList == (⟨([y0, y1, y2, y3].take k).toArray⟩ : ByteArray).toList) = false := by
    rw [ByteArray.toList_eq, ByteArray.toList_eq]
    rw [beq_eq_false_iff_ne]; exact hxy
  have kA := alive_any W0
  have kO : ∀ W, Below W0.heap.size W0 W → Calls Try.prog 5 #[vb] W fun e w' => e = .returned (.int .u32 (uv (sumOf l))) ∧ Below W0.heap.size W0 w' := fun W hW => up hW (of_any W _ _ l ((hl.below B0 (Nat.le_refl _)).below hW (by omega)) (by have := hW.size; omega))
  have kX : ∀ W, Below W0.heap.size W0 W → Calls Try.prog 6 #[.int .u32 (uv (sumOf l)), .slice (some ⟨w.heap.size, 0, none⟩) k 4] W fun e w' => e = .returned (.int .u32 (uv (sumOn (sumOf l) ([x0, x1, x2, x3].take k)))) ∧ Below W0.heap.size W0 w' := fun W hW => up hW (on_any W _ _ _ _ (ix.below hW (Nat.le_refl _)) hW.size)
  have kY : ∀ W, Below W0.heap.size W0 W → Calls Try.prog 6 #[.int .u32 (uv (sumOf l)), .slice (some ⟨w.heap.size, 4, none⟩) k 4] W fun e w' => e = .returned (.int .u32 (uv (sumOn (sumOf l) ([y0, y1, y2, y3].take k)))) ∧ Below W0.heap.size W0 w' := fun W hW => up hW (on_any W _ _ _ _ (iy.below hW (Nat.le_refl _)) hW.size)
  have cx : ∀ W, Below W0.heap.size W0 W → (convert 22 9 (.slice (some ⟨w.heap.size, 0, none⟩) k 4)).run Try.prog W = .ok (.string ⟨([x0, x1, x2, x3].take k).toArray⟩) W := fun W hW => conv_in (ix.below hW (Nat.le_refl _))
  have cy : ∀ W, Below W0.heap.size W0 W → (convert 22 9 (.slice (some ⟨w.heap.size, 4, none⟩) k 4)).run Try.prog W = .ok (.string ⟨([y0, y1, y2, y3].take k).toArray⟩) W := fun W hW => conv_in (iy.below hW (Nat.le_refl _))
  obtain ⟨ao, cap, rfl, hlc, hcm, -⟩ := hl
  unfold maxLen at hcm
  have i1 : ¬ (100000 : Int) < (l.length : Int) := by omega
  have i2 : (k : Int) ≤ 4 := by omega
  clear ix iy hxy
  generalize uv (sumOn (sumOf l) ([x0, x1, x2, x3].take k)) = p1 at *
  generalize uv (sumOn (sumOf l) ([y0, y1, y2, y3].take k)) = p2 at *
  generalize uv (sumOf l) = p0 at *
  generalize (⟨([x0, x1, x2, x3].take k).toArray⟩ : ByteArray) = sx at *
  generalize (⟨([y0, y1, y2, y3].take k).toArray⟩ : ByteArray) = sy at *
  unfold arr8
  unfold cells8 at hW0 ⊢
  have HW : Hid (w.alloc (.cells #[.int .u8 (x0.toNat : Int), .int .u8 (x1.toNat : Int), .int .u8 (x2.toNat : Int), .int .u8 (x3.toNat : Int), .int .u8 (y0.toNat : Int), .int .u8 (y1.toNat : Int), .int .u8 (y2.toNat : Int), .int .u8 (y3.toNat : Int)] 24) = W0) := hW0.symm
  clear hW0
  go_enter Try.func3, Try.ntmps3
  go_wp2_with fail
  rw [HW.out]
  refine kA.mono ?_
  rintro e w1 ⟨rfl, b1⟩
  clear kA
  go_wp2_with fail
  refine (kO w1 b1).mono ?_
  rintro e w2 ⟨rfl, b2⟩
  clear kO b1
  go_wp2_with fail
  clear hlong i1 hlc hcm zb
  refine wp_region_noPanic ?_
  refine wp_region_held_drew (S := fun w' => Below W0.heap.size W0 w') (by kernel_rfl) b2.drew (fun hHeld => ?_)
  clear b2
  -- REGION 2
  refine wpAnyH_take (i := 0) (oi := { dst := some 30, op := Go.Op.move (Go.Operand.tmp 8), type := 26, pos := _, after := #[], guard := none }) (v := .int .u32 p0) rfl (by kernel_rfl) (by kernel_rfl) (by kernel_rfl) (fun _ _ _ h => h) (Or.inl ⟨by rfl, fun W hW => by go_simp⟩) (by assumption) ?_
  try simp only [Act.put, List.setIfInBounds_toArray, List.set_cons_zero, List.set_cons_succ]
  refine wpAnyH_take (i := 1) (oi := { dst := some 31, op := Go.Op.move (Go.Operand.tmp 9), type := 22, pos := _, after := #[], guard := none }) (v := .slice (some ⟨w.heap.size, 0, none⟩) k 4) rfl (by kernel_rfl) (by kernel_rfl) (by kernel_rfl) (fun _ _ _ h => h) (Or.inl ⟨by rfl, fun W hW => by go_simp⟩) (by assumption) ?_
  try simp only [Act.put, List.setIfInBounds_toArray, List.set_cons_zero, List.set_cons_succ]
  refine wpAnyH_take (i := 3) (oi := { dst := some 33, op := Go.Op.move (Go.Operand.tmp 8), type := 26, pos := _, after := #[], guard := none }) (v := .int .u32 p0) rfl (by kernel_rfl) (by kernel_rfl) (by kernel_rfl) (fun _ _ _ h => h) (Or.inl ⟨by rfl, fun W hW => by go_simp⟩) (by assumption) ?_
  try simp only [Act.put, List.setIfInBounds_toArray, List.set_cons_zero, List.set_cons_succ]
  refine wpAnyH_take (i := 4) (oi := { dst := some 34, op := Go.Op.move (Go.Operand.tmp 10), type := 22, pos := _, after := #[], guard := none }) (v := .slice (some ⟨w.heap.size, 4, none⟩) k 4) rfl (by kernel_rfl) (by kernel_rfl) (by kernel_rfl) (fun _ _ _ h => h) (Or.inl ⟨by rfl, fun W hW => by go_simp⟩) (by assumption) ?_
  try simp only [Act.put, List.setIfInBounds_toArray, List.set_cons_zero, List.set_cons_succ]
  refine wpAnyH_take (i := 7) (oi := { dst := some 37, op := Go.Op.move (Go.Operand.tmp 9), type := 22, pos := _, after := #[], guard := none }) (v := .slice (some ⟨w.heap.size, 0, none⟩) k 4) rfl (by kernel_rfl) (by kernel_rfl) (by kernel_rfl) (fun _ _ _ h => h) (Or.inl ⟨by rfl, fun W hW => by go_simp⟩) (by assumption) ?_
  try simp only [Act.put, List.setIfInBounds_toArray, List.set_cons_zero, List.set_cons_succ]
  refine wpAnyH_take (i := 8) (oi := { dst := some 38, op := Go.Op.convert 22 9 (Go.Operand.tmp 37), type := 9, pos := _, after := #[{ on := 7, ground := Go.Ground.data }], guard := none }) (v := .string sx) rfl (by kernel_rfl) (by kernel_rfl) (by kernel_rfl) (fun _ _ _ h => h) (Or.inl ⟨by rfl, fun W hW => by have cx1 := cx W hW; have cy1 := cy W hW; go_simp⟩) (by assumption) ?_
  try simp only [Act.put, List.setIfInBounds_toArray, List.set_cons_zero, List.set_cons_succ]
  refine wpAnyH_take (i := 9) (oi := { dst := some 39, op := Go.Op.move (Go.Operand.tmp 10), type := 22, pos := _, after := #[], guard := none }) (v := .slice (some ⟨w.heap.size, 4, none⟩) k 4) rfl (by kernel_rfl) (by kernel_rfl) (by kernel_rfl) (fun _ _ _ h => h) (Or.inl ⟨by rfl, fun W hW => by go_simp⟩) (by assumption) ?_
  try simp only [Act.put, List.setIfInBounds_toArray, List.set_cons_zero, List.set_cons_succ]
  refine wpAnyH_take (i := 10) (oi := { dst := some 40, op := Go.Op.convert 22 9 (Go.Operand.tmp 39), type := 9, pos := _, after := #[{ on := 9, ground := Go.Ground.data }], guard := none }) (v := .string sy) rfl (by kernel_rfl) (by kernel_rfl) (by kernel_rfl) (fun _ _ _ h => h) (Or.inl ⟨by rfl, fun W hW => by have cx1 := cx W hW; have cy1 := cy W hW; go_simp⟩) (by assumption) ?_
  try simp only [Act.put, List.setIfInBounds_toArray, List.set_cons_zero, List.set_cons_succ]
  refine wpAnyH_take (i := 11) (oi := { dst := some 41, op := Go.Op.binOp Go.BinOp.eql 9 (Go.Operand.tmp 38) (Go.Operand.tmp 40) 9, type := 4, pos := _, after := #[{ on := 8, ground := Go.Ground.data }, { on := 10, ground := Go.Ground.data }], guard := none }) (v := .bool false) rfl (by kernel_rfl) (by kernel_rfl) (by kernel_rfl) (fun _ _ _ h => h) (Or.inl ⟨by rfl, fun W hW => by go_simp⟩) (by assumption) ?_
  try simp only [Act.put, List.setIfInBounds_toArray, List.set_cons_zero, List.set_cons_succ]
  refine wpAnyH_ready (rs := [2]) (by kernel_rfl) (by simp) ?_
  refine AllReadyH.cons (o := { dst := some 32, op := Go.Op.call { callee := Go.Callee.value (Go.Operand.func 6), args := #[Go.Operand.tmp 30, Go.Operand.tmp 31], argTypes := #[26, 22] }, type := 26, pos := _, after := #[{ on := 0, ground := Go.Ground.data }, { on := 1, ground := Go.Ground.data }], guard := none }) rfl (fun K hK => ?_) AllReadyH.nil
  go_simp
  refine (kX _ hHeld).mono ?_
  rintro e w' ⟨rfl, hb⟩
  go_wp2_with fail
  refine hK.out _ _ hb (fun hHeld2 => ?_)
  clear hK K hHeld hb
  have hHeld := hHeld2
  clear hHeld2
  try simp only [Act.put, List.setIfInBounds_toArray, List.set_cons_zero, List.set_cons_succ]
  refine wpAnyH_ready (rs := [5]) (by kernel_rfl) (by simp) ?_
  refine AllReadyH.cons (o := { dst := some 35, op := Go.Op.call { callee := Go.Callee.value (Go.Operand.func 6), args := #[Go.Operand.tmp 33, Go.Operand.tmp 34], argTypes := #[26, 22] }, type := 26, pos := _, after := #[{ on := 3, ground := Go.Ground.data }, { on := 4, ground := Go.Ground.data }, { on := 2, ground := Go.Ground.chain }], guard := none }) rfl (fun K hK => ?_) AllReadyH.nil
  go_simp
  refine (kY _ hHeld).mono ?_
  rintro e w' ⟨rfl, hb⟩
  go_wp2_with fail
  refine hK.out _ _ hb (fun hHeld2 => ?_)
  clear hK K hHeld hb
  have hHeld := hHeld2
  clear hHeld2
  try simp only [Act.put, List.setIfInBounds_toArray, List.set_cons_zero, List.set_cons_succ]
  refine wpAnyH_take (i := 6) (oi := { dst := some 36, op := Go.Op.binOp Go.BinOp.eql 26 (Go.Operand.tmp 32) (Go.Operand.tmp 35) 26, type := 4, pos := _, after := #[{ on := 2, ground := Go.Ground.data }, { on := 5, ground := Go.Ground.data }], guard := none }) (v := .bool false) rfl (by kernel_rfl) (by kernel_rfl) (by kernel_rfl) (fun _ _ _ h => h) (Or.inl ⟨by rfl, fun W hW => by go_simp⟩) (by assumption) ?_
  try simp only [Act.put, List.setIfInBounds_toArray, List.set_cons_zero, List.set_cons_succ]
  refine wpAnyH_take (i := 12) (oi := { dst := some 42, op := Go.Op.binOp Go.BinOp.eql 4 (Go.Operand.tmp 36) (Go.Operand.tmp 41) 4, type := 4, pos := _, after := #[{ on := 6, ground := Go.Ground.data }, { on := 11, ground := Go.Ground.data }], guard := none }) (v := .bool true) rfl (by kernel_rfl) (by kernel_rfl) (by kernel_rfl) (fun _ _ _ h => h) (Or.inl ⟨by rfl, fun W hW => by go_simp⟩) (by assumption) ?_
  try simp only [Act.put, List.setIfInBounds_toArray, List.set_cons_zero, List.set_cons_succ]
  refine wpAnyH_take (i := 13) (oi := { dst := some 6, op := Go.Op.assign (Go.Operand.tmp 42), type := 4, pos := _, after := #[{ on := 12, ground := Go.Ground.data }, { on := 5, ground := Go.Ground.chain }, { on := 0, ground := Go.Ground.phase }, { on := 1, ground := Go.Ground.phase }, { on := 2, ground := Go.Ground.phase }, { on := 3, ground := Go.Ground.phase }, { on := 4, ground := Go.Ground.phase }, { on := 5, ground := Go.Ground.phase }, { on := 6, ground := Go.Ground.phase }, { on := 7, ground := Go.Ground.phase }, { on := 8, ground := Go.Ground.phase }, { on := 9, ground := Go.Ground.phase }, { on := 10, ground := Go.Ground.phase }, { on := 11, ground := Go.Ground.phase }, { on := 12, ground := Go.Ground.phase }], guard := none }) (v := .bool true) rfl (by kernel_rfl) (by kernel_rfl) (by kernel_rfl) (fun _ _ _ h => h) (Or.inl ⟨by rfl, fun W hW => by go_simp⟩) (by assumption) ?_
  try simp only [Act.put, List.setIfInBounds_toArray, List.set_cons_zero, List.set_cons_succ]
  -- END 2
  refine wpAnyH_done (by kernel_rfl) ?_ _
  refine NoPanic.normal ?_
  go_wp2
  go_ret
  exact ⟨rfl, B0.trans (hHeld.mono (by omega))⟩

set_option maxHeartbeats 4000000 in
set_option maxRecDepth 1000000 in
theorem four_any (w : World) (vb : Value) (l : List UInt8) (x0 x1 x2 x3 y0 y1 y2 y3 : UInt8) (z : Int) (hl : InAt w w.heap.size vb l) (hz : (Lit.int .u8 z).wf = true) :
    Calls Try.prog 3 #[vb, arr8 x0 x1 x2 x3 y0 y1 y2 y3, .int .u8 z] w fun e w' => e = .returned (.bool true) ∧ Below w.heap.size w w' := by
  by_cases hlong : 100000 < l.length
  · obtain ⟨ao, cap, rfl, hlc, hcm, -⟩ := hl
    unfold maxLen at hcm
    have i1 : (100000 : Int) < (l.length : Int) := by omega
    unfold arr8 cells8
    go_enter Try.func3, Try.ntmps3
    go_wp2_with fail
    have b0 := below_one w (.cells #[.int .u8 (x0.toNat : Int), .int .u8 (x1.toNat : Int), .int .u8 (x2.toNat : Int), .int .u8 (x3.toNat : Int), .int .u8 (y0.toNat : Int), .int .u8 (y1.toNat : Int), .int .u8 (y2.toNat : Int), .int .u8 (y3.toNat : Int)] 24)
    generalize w.alloc (.cells #[.int .u8 (x0.toNat : Int), .int .u8 (x1.toNat : Int), .int .u8 (x2.toNat : Int), .int .u8 (x3.toNat : Int), .int .u8 (y0.toNat : Int), .int .u8 (y1.toNat : Int), .int .u8 (y2.toNat : Int), .int .u8 (y3.toNat : Int)] 24) = W0 at *
    refine (alive_any W0).mono ?_
    rintro e w1 ⟨rfl, b1⟩
    have b2 := b0.trans (b1.mono b0.size)
    clear b0 b1
    go_wp2_with fail
    refine (alive_any _).mono ?_
    rintro e w2 ⟨rfl, b3⟩
    have b4 := b2.trans (b3.mono b2.size)
    go_wp2
    go_ret
    exact ⟨rfl, b4⟩
  · by_cases hxy : [x0, x1, x2, x3].take (z % 5).toNat = [y0, y1, y2, y3].take (z % 5).toNat
    · exact four_same w vb l x0 x1 x2 x3 y0 y1 y2 y3 z hl hz hlong hxy
    · exact four_other w vb l x0 x1 x2 x3 y0 y1 y2 y3 z hl hz hlong hxy
end Go.Proofs.Ytnnmdmodcmfelab
