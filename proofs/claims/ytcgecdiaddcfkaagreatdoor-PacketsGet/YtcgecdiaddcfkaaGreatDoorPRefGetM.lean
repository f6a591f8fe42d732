import Derived.Test.YtcgecdiaddcfkaaGreatDoorM19
import Derived.Test.YtcgecdiaddcfkaaGreatDoorRRgOpM
import Derived.Test.YtcgecdiaddcfkaaGreatDoorPRgResM
import Derived.Deep.QuietTactic
import Derived.BigQuiet
import Derived.BigRegion
/- The walk of the document's Get. -/
set_option linter.unusedSimpArgs false
set_option linter.unusedVariables false
namespace Go.Proofs.YtcgecdiaddcfkaaGreatDoor
open Go.RowKit

theorem six_set3 {w : World} {P : Nat} {a0 a1 a2 a3 a4 a5 : Value} {t : TypeId} (u : Value) (h : w.heap[P]? = some (.cells #[a0, a1, a2, a3, a4, a5] t (0, 0))) : (w.setCell ⟨P, 3, none⟩ u).heap[P]? = some (.cells #[a0, a1, a2, u, a4, a5] t (0, 0)) := by
  have := heap_setCell_same w P 3 #[a0, a1, a2, a3, a4, a5] t u h
  simpa using this
theorem num_four {bs : List UInt8} (hl : ¬ bs.length < 11) (k : Nat) (hk : k ≤ 7) : ((bs[k]'(by omega)).toNat * 16777216 + (bs[k + 1]'(by omega)).toNat * 65536 + (bs[k + 2]'(by omega)).toNat * 256 + (bs[k + 3]'(by omega)).toNat) = numAt k bs := by
  unfold numAt
  rw [List.drop_eq_getElem_cons (by omega), List.drop_eq_getElem_cons (by omega), List.drop_eq_getElem_cons (by omega), List.drop_eq_getElem_cons (by omega)]
  simp only [List.take_succ_cons, List.take_zero, hiN_4]
  simp only [Nat.add_assoc, Nat.reduceAdd]
  omega

set_option maxHeartbeats 3000000 in
set_option maxRecDepth 1000000 in
theorem rGet_over (w : World) (vb : Value) (bs : List UInt8) (hb : InAt w w.heap.size vb bs) (hl : ¬ bs.length < 11) (ho : ¬ numAt 7 bs ≤ bs.length - 11) :
    Calls Tryz.prog 18 #[vb] w fun e w' => e = .returned (.tuple #[.agg #[.int .u8 0, .int .u8 0, .int .u8 0, .int .u32 0, .slice none 0 0, .slice none 0 0], .int .i64 4]) ∧ Below w.heap.size w w' := by
  have hb0 := hb
  obtain ⟨ao, cap, rfl, h1, h2, hc⟩ := hb
  unfold maxLen at h2
  obtain ⟨b, off, rfl, hbl, hcell⟩ := hc (by omega)
  have i11 : ¬ (bs.length : Int) < 11 := by omega
  obtain ⟨w1, hw1⟩ : ∃ w1, w1 = w.alloc (.cells #[.int .u8 0, .int .u8 0, .int .u8 0, .int .u32 0, .slice none 0 0, .slice none 0 0] 27) := ⟨_, rfl⟩
  have B1 : Below w.heap.size w w1 := by rw [hw1]; exact below_one w _
  have C0 := hcell 0 (by omega) 0 _ rfl
  have C1 := hcell 1 (by omega) 0 _ rfl
  have C2 := hcell 2 (by omega) 0 _ rfl
  have C3 := hcell 3 (by omega) 0 _ rfl
  have C4 := hcell 4 (by omega) 0 _ rfl
  have C5 := hcell 5 (by omega) 0 _ rfl
  have C6 := hcell 6 (by omega) 0 _ rfl
  have C7 := hcell 7 (by omega) 0 _ rfl
  have C8 := hcell 8 (by omega) 0 _ rfl
  have C9 := hcell 9 (by omega) 0 _ rfl
  have C10 := hcell 10 (by omega) 0 _ rfl
  simp only [Nat.zero_mul, Nat.one_mul, Nat.add_zero, Nat.mul_one, bv] at C0 C1 C2 C3 C4 C5 C6 C7 C8 C9 C10
  obtain ⟨r0, r1, r2, r3⟩ := raw_head hl
  rw [← r0] at C0
  rw [← r1] at C1
  rw [← r2] at C2
  obtain ⟨x0, hx0⟩ : ∃ x, x = (rawM bs).say := ⟨_, rfl⟩
  obtain ⟨x1, hx1⟩ : ∃ x, x = (rawM bs).src := ⟨_, rfl⟩
  obtain ⟨x2, hx2⟩ : ∃ x, x = (rawM bs).dst := ⟨_, rfl⟩
  rw [← hx0] at C0
  rw [← hx1] at C1
  rw [← hx2] at C2
  have b3 := u8_lt (bs[3]'(by omega))
  obtain ⟨Y3, hy3⟩ : ∃ y : Int, y = ((bs[3]'(by omega)).toNat : Int) := ⟨_, rfl⟩
  rw [← hy3] at C3
  have l3 : 0 ≤ Y3 := by omega
  have u3 : Y3 < 256 := by omega
  have b4 := u8_lt (bs[4]'(by omega))
  obtain ⟨Y4, hy4⟩ : ∃ y : Int, y = ((bs[4]'(by omega)).toNat : Int) := ⟨_, rfl⟩
  rw [← hy4] at C4
  have l4 : 0 ≤ Y4 := by omega
  have u4 : Y4 < 256 := by omega
  have b5 := u8_lt (bs[5]'(by omega))
  obtain ⟨Y5, hy5⟩ : ∃ y : Int, y = ((bs[5]'(by omega)).toNat : Int) := ⟨_, rfl⟩
  rw [← hy5] at C5
  have l5 : 0 ≤ Y5 := by omega
  have u5 : Y5 < 256 := by omega
  have b6 := u8_lt (bs[6]'(by omega))
  obtain ⟨Y6, hy6⟩ : ∃ y : Int, y = ((bs[6]'(by omega)).toNat : Int) := ⟨_, rfl⟩
  rw [← hy6] at C6
  have l6 : 0 ≤ Y6 := by omega
  have u6 : Y6 < 256 := by omega
  have b7 := u8_lt (bs[7]'(by omega))
  obtain ⟨Y7, hy7⟩ : ∃ y : Int, y = ((bs[7]'(by omega)).toNat : Int) := ⟨_, rfl⟩
  rw [← hy7] at C7
  have l7 : 0 ≤ Y7 := by omega
  have u7 : Y7 < 256 := by omega
  have b8 := u8_lt (bs[8]'(by omega))
  obtain ⟨Y8, hy8⟩ : ∃ y : Int, y = ((bs[8]'(by omega)).toNat : Int) := ⟨_, rfl⟩
  rw [← hy8] at C8
  have l8 : 0 ≤ Y8 := by omega
  have u8 : Y8 < 256 := by omega
  have b9 := u8_lt (bs[9]'(by omega))
  obtain ⟨Y9, hy9⟩ : ∃ y : Int, y = ((bs[9]'(by omega)).toNat : Int) := ⟨_, rfl⟩
  rw [← hy9] at C9
  have l9 : 0 ≤ Y9 := by omega
  have u9 : Y9 < 256 := by omega
  have b10 := u8_lt (bs[10]'(by omega))
  obtain ⟨Y10, hy10⟩ : ∃ y : Int, y = ((bs[10]'(by omega)).toNat : Int) := ⟨_, rfl⟩
  rw [← hy10] at C10
  have l10 : 0 ≤ Y10 := by omega
  have u10 : Y10 < 256 := by omega
  have c0 : w1.cell? ⟨b, off, none⟩ = some (.int .u8 (x0.toNat : Int)) := (B1.cell hbl).trans C0
  have c1 : w1.cell? ⟨b, off + 1, none⟩ = some (.int .u8 (x1.toNat : Int)) := (B1.cell hbl).trans C1
  have c2 : w1.cell? ⟨b, off + 2, none⟩ = some (.int .u8 (x2.toNat : Int)) := (B1.cell hbl).trans C2
  have c3 : w1.cell? ⟨b, off + 3, none⟩ = some (.int .u8 Y3) := (B1.cell hbl).trans C3
  have c4 : w1.cell? ⟨b, off + 4, none⟩ = some (.int .u8 Y4) := (B1.cell hbl).trans C4
  have c5 : w1.cell? ⟨b, off + 5, none⟩ = some (.int .u8 Y5) := (B1.cell hbl).trans C5
  have c6 : w1.cell? ⟨b, off + 6, none⟩ = some (.int .u8 Y6) := (B1.cell hbl).trans C6
  have c7 : w1.cell? ⟨b, off + 7, none⟩ = some (.int .u8 Y7) := (B1.cell hbl).trans C7
  have c8 : w1.cell? ⟨b, off + 8, none⟩ = some (.int .u8 Y8) := (B1.cell hbl).trans C8
  have c9 : w1.cell? ⟨b, off + 9, none⟩ = some (.int .u8 Y9) := (B1.cell hbl).trans C9
  have c10 : w1.cell? ⟨b, off + 10, none⟩ = some (.int .u8 Y10) := (B1.cell hbl).trans C10
  have hb1 : InAt w1 w1.heap.size (.slice (some ⟨b, off, none⟩) bs.length cap) bs := (hb0.below B1 (Nat.le_refl _)).mono B1.size
  have hbl1 : b < w1.heap.size := Nat.lt_of_lt_of_le hbl B1.size
  have e7 := num_four hl 7 (by omega)
  have e3 := num_four hl 3 (by omega)
  simp only [Nat.reduceAdd] at e3 e7
  rw [← r3] at e3
  obtain ⟨g, hg⟩ : ∃ g, g = (rawM bs).g.toNat := ⟨_, rfl⟩
  obtain ⟨n, hn⟩ : ∃ n, n = numAt 7 bs := ⟨_, rfl⟩
  rw [← hg] at e3
  rw [← hn] at e7
  have s7 : Hid (16777216 * Y7 + 65536 * Y8 + 256 * Y9 + Y10 = (n : Int)) := by show _ = _; omega
  have s3 : Hid (16777216 * Y3 + 65536 * Y4 + 256 * Y5 + Y6 = (g : Int)) := by show _ = _; omega
  obtain ⟨A0, hA0⟩ : ∃ A : Int, A = 16777216 * Y7 := ⟨_, rfl⟩
  have p0 : Hid (IntKind.i64.wrap (16777216 * Y7) = A0) := by show _ = _; rw [IntKind.wrap_i64]; omega
  obtain ⟨A1, hA1⟩ : ∃ A : Int, A = 65536 * Y8 := ⟨_, rfl⟩
  have p1 : Hid (IntKind.i64.wrap (65536 * Y8) = A1) := by show _ = _; rw [IntKind.wrap_i64]; omega
  obtain ⟨A2, hA2⟩ : ∃ A : Int, A = 256 * Y9 := ⟨_, rfl⟩
  have p2 : Hid (IntKind.i64.wrap (256 * Y9) = A2) := by show _ = _; rw [IntKind.wrap_i64]; omega
  obtain ⟨S0, hS0⟩ : ∃ A : Int, A = A0 + A1 := ⟨_, rfl⟩
  have p3 : Hid (IntKind.i64.wrap (A0 + A1) = S0) := by show _ = _; rw [IntKind.wrap_i64]; omega
  obtain ⟨S1, hS1⟩ : ∃ A : Int, A = S0 + A2 := ⟨_, rfl⟩
  have p4 : Hid (IntKind.i64.wrap (S0 + A2) = S1) := by show _ = _; rw [IntKind.wrap_i64]; omega
  have p5 : Hid (IntKind.i64.wrap (S1 + Y10) = (n : Int)) := by show _ = _; have := s7.out; rw [IntKind.wrap_i64]; omega
  clear hA0 hA1 hA2 hS0 hS1
  obtain ⟨E0, hE0⟩ : ∃ A : Int, A = 16777216 * Y3 := ⟨_, rfl⟩
  have rr0 : Hid (IntKind.u32.wrap (16777216 * Y3) = E0) := by show _ = _; rw [IntKind.wrap_u32]; omega
  obtain ⟨E1, hE1⟩ : ∃ A : Int, A = 65536 * Y4 := ⟨_, rfl⟩
  have rr1 : Hid (IntKind.u32.wrap (65536 * Y4) = E1) := by show _ = _; rw [IntKind.wrap_u32]; omega
  obtain ⟨E2, hE2⟩ : ∃ A : Int, A = 256 * Y5 := ⟨_, rfl⟩
  have rr2 : Hid (IntKind.u32.wrap (256 * Y5) = E2) := by show _ = _; rw [IntKind.wrap_u32]; omega
  obtain ⟨G0, hG0⟩ : ∃ A : Int, A = E0 + E1 := ⟨_, rfl⟩
  have rr3 : Hid (IntKind.u32.wrap (E0 + E1) = G0) := by show _ = _; rw [IntKind.wrap_u32]; omega
  obtain ⟨G1, hG1⟩ : ∃ A : Int, A = G0 + E2 := ⟨_, rfl⟩
  have rr4 : Hid (IntKind.u32.wrap (G0 + E2) = G1) := by show _ = _; rw [IntKind.wrap_u32]; omega
  have rr5 : Hid (IntKind.u32.wrap (G1 + Y6) = (g : Int)) := by show _ = _; have := s3.out; rw [IntKind.wrap_u32]; omega
  clear hE0 hE1 hE2 hG0 hG1
  have nn : Hid (n < 4294967296) := by show _ < _; have := s7.out; omega
  have ng : Hid (g < 4294967296) := by show _ < _; have := s3.out; omega
  have q0 : (11 : Int) ≤ (bs.length : Int) := by omega
  have q1 : (11 : Int) ≤ (cap : Int) := by omega
  have q4 : ¬ bs.length = 0 := by omega
  have q101 : ¬ (bs.length : Int) ≤ 1 := by omega
  have q102 : ¬ (bs.length : Int) ≤ 2 := by omega
  have q103 : ¬ (bs.length : Int) ≤ 3 := by omega
  have q104 : ¬ (bs.length : Int) ≤ 4 := by omega
  have q105 : ¬ (bs.length : Int) ≤ 5 := by omega
  have q106 : ¬ (bs.length : Int) ≤ 6 := by omega
  have q107 : ¬ (bs.length : Int) ≤ 7 := by omega
  have q108 : ¬ (bs.length : Int) ≤ 8 := by omega
  have q109 : ¬ (bs.length : Int) ≤ 9 := by omega
  have q110 : ¬ (bs.length : Int) ≤ 10 := by omega
  have PX : w1.heap[w.heap.size]? = some (.cells #[.int .u8 0, .int .u8 0, .int .u8 0, .int .u32 0, .slice none 0 0, .slice none 0 0] 27 (0, 0)) := by rw [hw1]; exact heap_alloc_new w _
  have zX : w.heap.size < w1.heap.size := by rw [hw1]; simp
  rw [← hn] at ho
  clear hx0 hx1 hx2 hg hn
  clear C0 C1 C2 C3 C4 C5 C6 C7 C8 C9 C10 hcell hc hb0 r0 r1 r2 r3 hy3 hy4 hy5 hy6 hy7 hy8 hy9 hy10 e3 e7 b3 b4 b5 b6 b7 b8 b9 b10
  obtain ⟨L, hL⟩ : ∃ L, L = bs.length := ⟨_, rfl⟩
  have HL : Hid (L = bs.length) := hL
  rw [← hL] at ho hl h1 i11 q0 q4 q101 q102 q103 q104 q105 q106 q107 q108 q109 q110 ⊢
  clear hL
  subst hw1
  go_enter Tryz.func18, Tryz.ntmps18
  go_wp2_with fail
  generalize w.alloc (.cells #[.int .u8 0, .int .u8 0, .int .u8 0, .int .u32 0, .slice none 0 0, .slice none 0 0] 27) = w1 at *
  have b0 : Below w1.heap.size w1 w1.drew := ⟨rfl, rfl, rfl, Nat.le_refl _, fun _ _ => rfl⟩
  refine wp_region_noPanic ?_
  refine wp_region_held_drew (S := fun W => Below w1.heap.size w1 W) (by kernel_rfl) b0 (fun hHeld => ?_)
  refine wpAnyH_take (i := 0) (oi := { dst := some 14, op := Go.Op.move (Go.Operand.tmp 0), type := 30, pos := _, after := #[], guard := none }) (v := .slice (some ⟨b, off, none⟩) L cap) rfl (by kernel_rfl) (by kernel_rfl) (by kernel_rfl) (fun _ _ _ h => h) (Or.inl ⟨by rfl, fun W hW => by go_simp⟩) (by assumption) ?_
  try simp only [Act.put, List.setIfInBounds_toArray, List.set_cons_zero, List.set_cons_succ]
  refine wpAnyH_take (i := 1) (oi := { dst := some 15, op := Go.Op.indexAddr 30 (Go.Operand.tmp 14) (Go.Operand.const (Go.Value.int Go.IntKind.i64 7)), type := 0, pos := _, after := #[{ on := 0, ground := Go.Ground.data }], guard := none }) (v := .pointer (some ⟨b, off + 7, none⟩)) rfl (by kernel_rfl) (by kernel_rfl) (by kernel_rfl) (fun _ _ _ h => h) (Or.inl ⟨by rfl, fun W hW => by go_simp⟩) (by assumption) ?_
  try simp only [Act.put, List.setIfInBounds_toArray, List.set_cons_zero, List.set_cons_succ]
  refine wpAnyH_take (i := 2) (oi := { dst := some 16, op := Go.Op.load 5 (Go.Operand.tmp 15), type := 5, pos := _, after := #[{ on := 1, ground := Go.Ground.data }], guard := none }) (v := .int .u8 Y7) rfl (by kernel_rfl) (by kernel_rfl) (by kernel_rfl) (fun _ _ _ h => h) (Or.inl ⟨by rfl, fun W hW => by have h1 := (hW.cell hbl1).trans c7; go_simp⟩) (by assumption) ?_
  try simp only [Act.put, List.setIfInBounds_toArray, List.set_cons_zero, List.set_cons_succ]
  refine wpAnyH_take (i := 3) (oi := { dst := some 17, op := Go.Op.convert 5 2 (Go.Operand.tmp 16), type := 2, pos := _, after := #[{ on := 2, ground := Go.Ground.data }], guard := none }) (v := .int .i64 Y7) rfl (by kernel_rfl) (by kernel_rfl) (by kernel_rfl) (fun _ _ _ h => h) (Or.inl ⟨by rfl, fun W hW => by have o0 := (show IntKind.i64.wrap Y7 = Y7 by rw [IntKind.wrap_i64]; omega); go_simp⟩) (by assumption) ?_
  try simp only [Act.put, List.setIfInBounds_toArray, List.set_cons_zero, List.set_cons_succ]
  refine wpAnyH_take (i := 4) (oi := { dst := some 18, op := Go.Op.binOp Go.BinOp.mul 2 (Go.Operand.const (Go.Value.int Go.IntKind.i64 16777216)) (Go.Operand.tmp 17) 2, type := 2, pos := _, after := #[{ on := 3, ground := Go.Ground.data }], guard := none }) (v := .int .i64 A0) rfl (by kernel_rfl) (by kernel_rfl) (by kernel_rfl) (fun _ _ _ h => h) (Or.inl ⟨by rfl, fun W hW => by have o0 := p0.out; go_simp⟩) (by assumption) ?_
  try simp only [Act.put, List.setIfInBounds_toArray, List.set_cons_zero, List.set_cons_succ]
  refine wpAnyH_take (i := 5) (oi := { dst := some 19, op := Go.Op.move (Go.Operand.tmp 0), type := 30, pos := _, after := #[], guard := none }) (v := .slice (some ⟨b, off, none⟩) L cap) rfl (by kernel_rfl) (by kernel_rfl) (by kernel_rfl) (fun _ _ _ h => h) (Or.inl ⟨by rfl, fun W hW => by go_simp⟩) (by assumption) ?_
  try simp only [Act.put, List.setIfInBounds_toArray, List.set_cons_zero, List.set_cons_succ]
  refine wpAnyH_take (i := 6) (oi := { dst := some 20, op := Go.Op.indexAddr 30 (Go.Operand.tmp 19) (Go.Operand.const (Go.Value.int Go.IntKind.i64 8)), type := 0, pos := _, after := #[{ on := 5, ground := Go.Ground.data }], guard := none }) (v := .pointer (some ⟨b, off + 8, none⟩)) rfl (by kernel_rfl) (by kernel_rfl) (by kernel_rfl) (fun _ _ _ h => h) (Or.inl ⟨by rfl, fun W hW => by go_simp⟩) (by assumption) ?_
  try simp only [Act.put, List.setIfInBounds_toArray, List.set_cons_zero, List.set_cons_succ]
  refine wpAnyH_take (i := 7) (oi := { dst := some 21, op := Go.Op.load 5 (Go.Operand.tmp 20), type := 5, pos := _, after := #[{ on := 6, ground := Go.Ground.data }], guard := none }) (v := .int .u8 Y8) rfl (by kernel_rfl) (by kernel_rfl) (by kernel_rfl) (fun _ _ _ h => h) (Or.inl ⟨by rfl, fun W hW => by have h1 := (hW.cell hbl1).trans c8; go_simp⟩) (by assumption) ?_
  try simp only [Act.put, List.setIfInBounds_toArray, List.set_cons_zero, List.set_cons_succ]
  refine wpAnyH_take (i := 8) (oi := { dst := some 22, op := Go.Op.convert 5 2 (Go.Operand.tmp 21), type := 2, pos := _, after := #[{ on := 7, ground := Go.Ground.data }], guard := none }) (v := .int .i64 Y8) rfl (by kernel_rfl) (by kernel_rfl) (by kernel_rfl) (fun _ _ _ h => h) (Or.inl ⟨by rfl, fun W hW => by have o0 := (show IntKind.i64.wrap Y8 = Y8 by rw [IntKind.wrap_i64]; omega); go_simp⟩) (by assumption) ?_
  try simp only [Act.put, List.setIfInBounds_toArray, List.set_cons_zero, List.set_cons_succ]
  refine wpAnyH_take (i := 9) (oi := { dst := some 23, op := Go.Op.binOp Go.BinOp.mul 2 (Go.Operand.const (Go.Value.int Go.IntKind.i64 65536)) (Go.Operand.tmp 22) 2, type := 2, pos := _, after := #[{ on := 8, ground := Go.Ground.data }], guard := none }) (v := .int .i64 A1) rfl (by kernel_rfl) (by kernel_rfl) (by kernel_rfl) (fun _ _ _ h => h) (Or.inl ⟨by rfl, fun W hW => by have o0 := p1.out; go_simp⟩) (by assumption) ?_
  try simp only [Act.put, List.setIfInBounds_toArray, List.set_cons_zero, List.set_cons_succ]
  refine wpAnyH_take (i := 10) (oi := { dst := some 24, op := Go.Op.binOp Go.BinOp.add 2 (Go.Operand.tmp 18) (Go.Operand.tmp 23) 2, type := 2, pos := _, after := #[{ on := 4, ground := Go.Ground.data }, { on := 9, ground := Go.Ground.data }], guard := none }) (v := .int .i64 S0) rfl (by kernel_rfl) (by kernel_rfl) (by kernel_rfl) (fun _ _ _ h => h) (Or.inl ⟨by rfl, fun W hW => by have o0 := p3.out; go_simp⟩) (by assumption) ?_
  try simp only [Act.put, List.setIfInBounds_toArray, List.set_cons_zero, List.set_cons_succ]
  refine wpAnyH_take (i := 11) (oi := { dst := some 25, op := Go.Op.move (Go.Operand.tmp 0), type := 30, pos := _, after := #[], guard := none }) (v := .slice (some ⟨b, off, none⟩) L cap) rfl (by kernel_rfl) (by kernel_rfl) (by kernel_rfl) (fun _ _ _ h => h) (Or.inl ⟨by rfl, fun W hW => by go_simp⟩) (by assumption) ?_
  try simp only [Act.put, List.setIfInBounds_toArray, List.set_cons_zero, List.set_cons_succ]
  refine wpAnyH_take (i := 12) (oi := { dst := some 26, op := Go.Op.indexAddr 30 (Go.Operand.tmp 25) (Go.Operand.const (Go.Value.int Go.IntKind.i64 9)), type := 0, pos := _, after := #[{ on := 11, ground := Go.Ground.data }], guard := none }) (v := .pointer (some ⟨b, off + 9, none⟩)) rfl (by kernel_rfl) (by kernel_rfl) (by kernel_rfl) (fun _ _ _ h => h) (Or.inl ⟨by rfl, fun W hW => by go_simp⟩) (by assumption) ?_
  try simp only [Act.put, List.setIfInBounds_toArray, List.set_cons_zero, List.set_cons_succ]
  refine wpAnyH_take (i := 13) (oi := { dst := some 27, op := Go.Op.load 5 (Go.Operand.tmp 26), type := 5, pos := _, after := #[{ on := 12, ground := Go.Ground.data }], guard := none }) (v := .int .u8 Y9) rfl (by kernel_rfl) (by kernel_rfl) (by kernel_rfl) (fun _ _ _ h => h) (Or.inl ⟨by rfl, fun W hW => by have h1 := (hW.cell hbl1).trans c9; go_simp⟩) (by assumption) ?_
  try simp only [Act.put, List.setIfInBounds_toArray, List.set_cons_zero, List.set_cons_succ]
  refine wpAnyH_take (i := 14) (oi := { dst := some 28, op := Go.Op.convert 5 2 (Go.Operand.tmp 27), type := 2, pos := _, after := #[{ on := 13, ground := Go.Ground.data }], guard := none }) (v := .int .i64 Y9) rfl (by kernel_rfl) (by kernel_rfl) (by kernel_rfl) (fun _ _ _ h => h) (Or.inl ⟨by rfl, fun W hW => by have o0 := (show IntKind.i64.wrap Y9 = Y9 by rw [IntKind.wrap_i64]; omega); go_simp⟩) (by assumption) ?_
  try simp only [Act.put, List.setIfInBounds_toArray, List.set_cons_zero, List.set_cons_succ]
  refine wpAnyH_take (i := 15) (oi := { dst := some 29, op := Go.Op.binOp Go.BinOp.mul 2 (Go.Operand.const (Go.Value.int Go.IntKind.i64 256)) (Go.Operand.tmp 28) 2, type := 2, pos := _, after := #[{ on := 14, ground := Go.Ground.data }], guard := none }) (v := .int .i64 A2) rfl (by kernel_rfl) (by kernel_rfl) (by kernel_rfl) (fun _ _ _ h => h) (Or.inl ⟨by rfl, fun W hW => by have o0 := p2.out; go_simp⟩) (by assumption) ?_
  try simp only [Act.put, List.setIfInBounds_toArray, List.set_cons_zero, List.set_cons_succ]
  refine wpAnyH_take (i := 16) (oi := { dst := some 30, op := Go.Op.binOp Go.BinOp.add 2 (Go.Operand.tmp 24) (Go.Operand.tmp 29) 2, type := 2, pos := _, after := #[{ on := 10, ground := Go.Ground.data }, { on := 15, ground := Go.Ground.data }], guard := none }) (v := .int .i64 S1) rfl (by kernel_rfl) (by kernel_rfl) (by kernel_rfl) (fun _ _ _ h => h) (Or.inl ⟨by rfl, fun W hW => by have o0 := p4.out; go_simp⟩) (by assumption) ?_
  try simp only [Act.put, List.setIfInBounds_toArray, List.set_cons_zero, List.set_cons_succ]
  refine wpAnyH_take (i := 17) (oi := { dst := some 31, op := Go.Op.move (Go.Operand.tmp 0), type := 30, pos := _, after := #[], guard := none }) (v := .slice (some ⟨b, off, none⟩) L cap) rfl (by kernel_rfl) (by kernel_rfl) (by kernel_rfl) (fun _ _ _ h => h) (Or.inl ⟨by rfl, fun W hW => by go_simp⟩) (by assumption) ?_
  try simp only [Act.put, List.setIfInBounds_toArray, List.set_cons_zero, List.set_cons_succ]
  refine wpAnyH_take (i := 18) (oi := { dst := some 32, op := Go.Op.indexAddr 30 (Go.Operand.tmp 31) (Go.Operand.const (Go.Value.int Go.IntKind.i64 10)), type := 0, pos := _, after := #[{ on := 17, ground := Go.Ground.data }], guard := none }) (v := .pointer (some ⟨b, off + 10, none⟩)) rfl (by kernel_rfl) (by kernel_rfl) (by kernel_rfl) (fun _ _ _ h => h) (Or.inl ⟨by rfl, fun W hW => by go_simp⟩) (by assumption) ?_
  try simp only [Act.put, List.setIfInBounds_toArray, List.set_cons_zero, List.set_cons_succ]
  refine wpAnyH_take (i := 19) (oi := { dst := some 33, op := Go.Op.load 5 (Go.Operand.tmp 32), type := 5, pos := _, after := #[{ on := 18, ground := Go.Ground.data }], guard := none }) (v := .int .u8 Y10) rfl (by kernel_rfl) (by kernel_rfl) (by kernel_rfl) (fun _ _ _ h => h) (Or.inl ⟨by rfl, fun W hW => by have h1 := (hW.cell hbl1).trans c10; go_simp⟩) (by assumption) ?_
  try simp only [Act.put, List.setIfInBounds_toArray, List.set_cons_zero, List.set_cons_succ]
  refine wpAnyH_take (i := 20) (oi := { dst := some 34, op := Go.Op.convert 5 2 (Go.Operand.tmp 33), type := 2, pos := _, after := #[{ on := 19, ground := Go.Ground.data }], guard := none }) (v := .int .i64 Y10) rfl (by kernel_rfl) (by kernel_rfl) (by kernel_rfl) (fun _ _ _ h => h) (Or.inl ⟨by rfl, fun W hW => by have o0 := (show IntKind.i64.wrap Y10 = Y10 by rw [IntKind.wrap_i64]; omega); go_simp⟩) (by assumption) ?_
  try simp only [Act.put, List.setIfInBounds_toArray, List.set_cons_zero, List.set_cons_succ]
  refine wpAnyH_take (i := 21) (oi := { dst := some 35, op := Go.Op.binOp Go.BinOp.add 2 (Go.Operand.tmp 30) (Go.Operand.tmp 34) 2, type := 2, pos := _, after := #[{ on := 16, ground := Go.Ground.data }, { on := 20, ground := Go.Ground.data }], guard := none }) (v := .int .i64 (n : Int)) rfl (by kernel_rfl) (by kernel_rfl) (by kernel_rfl) (fun _ _ _ h => h) (Or.inl ⟨by rfl, fun W hW => by have o0 := p5.out; go_simp⟩) (by assumption) ?_
  try simp only [Act.put, List.setIfInBounds_toArray, List.set_cons_zero, List.set_cons_succ]
  refine wpAnyH_take (i := 22) (oi := { dst := some 4, op := Go.Op.assign (Go.Operand.tmp 35), type := 2, pos := _, after := #[{ on := 21, ground := Go.Ground.data }, { on := 0, ground := Go.Ground.phase }, { on := 1, ground := Go.Ground.phase }, { on := 2, ground := Go.Ground.phase }, { on := 3, ground := Go.Ground.phase }, { on := 4, ground := Go.Ground.phase }, { on := 5, ground := Go.Ground.phase }, { on := 6, ground := Go.Ground.phase }, { on := 7, ground := Go.Ground.phase }, { on := 8, ground := Go.Ground.phase }, { on := 9, ground := Go.Ground.phase }, { on := 10, ground := Go.Ground.phase }, { on := 11, ground := Go.Ground.phase }, { on := 12, ground := Go.Ground.phase }, { on := 13, ground := Go.Ground.phase }, { on := 14, ground := Go.Ground.phase }, { on := 15, ground := Go.Ground.phase }, { on := 16, ground := Go.Ground.phase }, { on := 17, ground := Go.Ground.phase }, { on := 18, ground := Go.Ground.phase }, { on := 19, ground := Go.Ground.phase }, { on := 20, ground := Go.Ground.phase }, { on := 21, ground := Go.Ground.phase }], guard := none }) (v := .int .i64 (n : Int)) rfl (by kernel_rfl) (by kernel_rfl) (by kernel_rfl) (fun _ _ _ h => h) (Or.inl ⟨by rfl, fun W hW => by go_simp⟩) (by assumption) ?_
  try simp only [Act.put, List.setIfInBounds_toArray, List.set_cons_zero, List.set_cons_succ]
  refine wpAnyH_done (by kernel_rfl) ?_ _
  refine NoPanic.normal ?_
  clear hHeld
  clear q101 q102 q103 q104 q105 q106 q107 q108 q109 q110 l3 u3 l4 u4 l5 u5 l6 u6 l7 u7 l8 u8 l9 u9 l10 u10 p0 rr0 p1 rr1 p2 rr2 p3 rr3 p4 rr4 p5 rr5 c3 c4 c5 c6 c7 c8 c9 c10 s7 s3
  obtain ⟨R, hR⟩ : ∃ R, R = L - 11 := ⟨_, rfl⟩
  have hw : IntKind.i64.wrap ((L : Int) - 11) = (R : Int) := by rw [IntKind.wrap_i64]; omega
  have v1 : (R : Int) < (n : Int) := by omega
  clear hR hl ho h1 h2 i11 q0 q1 q4 nn ng
  have x7 : w1.drew.heap[w.heap.size]? = _ := PX
  have b7 : Below w1.heap.size w1 w1.drew := b0
  clear b0
  generalize w1.drew = wd at *
  have fx := fun i => box_frozen (i := i) x7
  obtain ⟨t0, t1, t2, t3, t4, t5⟩ := six_cells x7
  obtain ⟨x8, k8⟩ := six_store x7 (.int .u8 0) (.int .u8 0) (.int .u8 0) (.int .u32 0) (.slice none 0 0) (.slice none 0 0)
  have b8 := (B1.trans (b7.mono B1.size)).trans (k8.below (Nat.le_refl _) (Nat.le_of_lt (Nat.lt_of_lt_of_le zX b7.size)))
  go_wp2
  generalize ((((((wd).setCell ⟨w.heap.size, 0, none⟩ (.int .u8 0)).setCell ⟨w.heap.size, 1, none⟩ (.int .u8 0)).setCell ⟨w.heap.size, 2, none⟩ (.int .u8 0)).setCell ⟨w.heap.size, 3, none⟩ (.int .u32 0)).setCell ⟨w.heap.size, 4, none⟩ (.slice none 0 0)).setCell ⟨w.heap.size, 5, none⟩ (.slice none 0 0) = w8 at *
  obtain ⟨z0, z1, z2, z3, z4, z5⟩ := six_cells x8
  refine bodyPost_ret (v := .tuple #[.agg #[.int .u8 0, .int .u8 0, .int .u8 0, .int .u32 0, .slice none 0 0, .slice none 0 0], .int .i64 4]) (by simp [results, Tryz.results18, go_sem, z0, z1, z2, z3, z4, z5]) rfl ⟨rfl, b8⟩

set_option maxHeartbeats 3000000 in
set_option maxRecDepth 1000000 in
theorem rGet_badO (w : World) (vb : Value) (bs : List UInt8) (hb : InAt w w.heap.size vb bs) (hl : ¬ bs.length < 11) (ho : numAt 7 bs ≤ bs.length - 11) (lo : List OpD) (lr : List (List RowD)) (er : Nat) (hpo : getOps ((bs.drop 11).take (numAt 7 bs)) = (lo, 4)) (hpr : getRes ((bs.drop 11).drop (numAt 7 bs)) = (lr, er)) :
    Calls Tryz.prog 18 #[vb] w fun e w' => e = .returned (.tuple #[.agg #[.int .u8 0, .int .u8 0, .int .u8 0, .int .u32 0, .slice none 0 0, .slice none 0 0], .int .i64 4]) ∧ Below w.heap.size w w' := by
  have hb0 := hb
  obtain ⟨ao, cap, rfl, h1, h2, hc⟩ := hb
  unfold maxLen at h2
  obtain ⟨b, off, rfl, hbl, hcell⟩ := hc (by omega)
  have i11 : ¬ (bs.length : Int) < 11 := by omega
  obtain ⟨w1, hw1⟩ : ∃ w1, w1 = w.alloc (.cells #[.int .u8 0, .int .u8 0, .int .u8 0, .int .u32 0, .slice none 0 0, .slice none 0 0] 27) := ⟨_, rfl⟩
  have B1 : Below w.heap.size w w1 := by rw [hw1]; exact below_one w _
  have C0 := hcell 0 (by omega) 0 _ rfl
  have C1 := hcell 1 (by omega) 0 _ rfl
  have C2 := hcell 2 (by omega) 0 _ rfl
  have C3 := hcell 3 (by omega) 0 _ rfl
  have C4 := hcell 4 (by omega) 0 _ rfl
  have C5 := hcell 5 (by omega) 0 _ rfl
  have C6 := hcell 6 (by omega) 0 _ rfl
  have C7 := hcell 7 (by omega) 0 _ rfl
  have C8 := hcell 8 (by omega) 0 _ rfl
  have C9 := hcell 9 (by omega) 0 _ rfl
  have C10 := hcell 10 (by omega) 0 _ rfl
  simp only [Nat.zero_mul, Nat.one_mul, Nat.add_zero, Nat.mul_one, bv] at C0 C1 C2 C3 C4 C5 C6 C7 C8 C9 C10
  obtain ⟨r0, r1, r2, r3⟩ := raw_head hl
  rw [← r0] at C0
  rw [← r1] at C1
  rw [← r2] at C2
  obtain ⟨x0, hx0⟩ : ∃ x, x = (rawM bs).say := ⟨_, rfl⟩
  obtain ⟨x1, hx1⟩ : ∃ x, x = (rawM bs).src := ⟨_, rfl⟩
  obtain ⟨x2, hx2⟩ : ∃ x, x = (rawM bs).dst := ⟨_, rfl⟩
  rw [← hx0] at C0
  rw [← hx1] at C1
  rw [← hx2] at C2
  have b3 := u8_lt (bs[3]'(by omega))
  obtain ⟨Y3, hy3⟩ : ∃ y : Int, y = ((bs[3]'(by omega)).toNat : Int) := ⟨_, rfl⟩
  rw [← hy3] at C3
  have l3 : 0 ≤ Y3 := by omega
  have u3 : Y3 < 256 := by omega
  have b4 := u8_lt (bs[4]'(by omega))
  obtain ⟨Y4, hy4⟩ : ∃ y : Int, y = ((bs[4]'(by omega)).toNat : Int) := ⟨_, rfl⟩
  rw [← hy4] at C4
  have l4 : 0 ≤ Y4 := by omega
  have u4 : Y4 < 256 := by omega
  have b5 := u8_lt (bs[5]'(by omega))
  obtain ⟨Y5, hy5⟩ : ∃ y : Int, y = ((bs[5]'(by omega)).toNat : Int) := ⟨_, rfl⟩
  rw [← hy5] at C5
  have l5 : 0 ≤ Y5 := by omega
  have u5 : Y5 < 256 := by omega
  have b6 := u8_lt (bs[6]'(by omega))
  obtain ⟨Y6, hy6⟩ : ∃ y : Int, y = ((bs[6]'(by omega)).toNat : Int) := ⟨_, rfl⟩
  rw [← hy6] at C6
  have l6 : 0 ≤ Y6 := by omega
  have u6 : Y6 < 256 := by omega
  have b7 := u8_lt (bs[7]'(by omega))
  obtain ⟨Y7, hy7⟩ : ∃ y : Int, y = ((bs[7]'(by omega)).toNat : Int) := ⟨_, rfl⟩
  rw [← hy7] at C7
  have l7 : 0 ≤ Y7 := by omega
  have u7 : Y7 < 256 := by omega
  have b8 := u8_lt (bs[8]'(by omega))
  obtain ⟨Y8, hy8⟩ : ∃ y : Int, y = ((bs[8]'(by omega)).toNat : Int) := ⟨_, rfl⟩
  rw [← hy8] at C8
  have l8 : 0 ≤ Y8 := by omega
  have u8 : Y8 < 256 := by omega
  have b9 := u8_lt (bs[9]'(by omega))
  obtain ⟨Y9, hy9⟩ : ∃ y : Int, y = ((bs[9]'(by omega)).toNat : Int) := ⟨_, rfl⟩
  rw [← hy9] at C9
  have l9 : 0 ≤ Y9 := by omega
  have u9 : Y9 < 256 := by omega
  have b10 := u8_lt (bs[10]'(by omega))
  obtain ⟨Y10, hy10⟩ : ∃ y : Int, y = ((bs[10]'(by omega)).toNat : Int) := ⟨_, rfl⟩
  rw [← hy10] at C10
  have l10 : 0 ≤ Y10 := by omega
  have u10 : Y10 < 256 := by omega
  have c0 : w1.cell? ⟨b, off, none⟩ = some (.int .u8 (x0.toNat : Int)) := (B1.cell hbl).trans C0
  have c1 : w1.cell? ⟨b, off + 1, none⟩ = some (.int .u8 (x1.toNat : Int)) := (B1.cell hbl).trans C1
  have c2 : w1.cell? ⟨b, off + 2, none⟩ = some (.int .u8 (x2.toNat : Int)) := (B1.cell hbl).trans C2
  have c3 : w1.cell? ⟨b, off + 3, none⟩ = some (.int .u8 Y3) := (B1.cell hbl).trans C3
  have c4 : w1.cell? ⟨b, off + 4, none⟩ = some (.int .u8 Y4) := (B1.cell hbl).trans C4
  have c5 : w1.cell? ⟨b, off + 5, none⟩ = some (.int .u8 Y5) := (B1.cell hbl).trans C5
  have c6 : w1.cell? ⟨b, off + 6, none⟩ = some (.int .u8 Y6) := (B1.cell hbl).trans C6
  have c7 : w1.cell? ⟨b, off + 7, none⟩ = some (.int .u8 Y7) := (B1.cell hbl).trans C7
  have c8 : w1.cell? ⟨b, off + 8, none⟩ = some (.int .u8 Y8) := (B1.cell hbl).trans C8
  have c9 : w1.cell? ⟨b, off + 9, none⟩ = some (.int .u8 Y9) := (B1.cell hbl).trans C9
  have c10 : w1.cell? ⟨b, off + 10, none⟩ = some (.int .u8 Y10) := (B1.cell hbl).trans C10
  have hb1 : InAt w1 w1.heap.size (.slice (some ⟨b, off, none⟩) bs.length cap) bs := (hb0.below B1 (Nat.le_refl _)).mono B1.size
  have hbl1 : b < w1.heap.size := Nat.lt_of_lt_of_le hbl B1.size
  have e7 := num_four hl 7 (by omega)
  have e3 := num_four hl 3 (by omega)
  simp only [Nat.reduceAdd] at e3 e7
  rw [← r3] at e3
  obtain ⟨g, hg⟩ : ∃ g, g = (rawM bs).g.toNat := ⟨_, rfl⟩
  obtain ⟨n, hn⟩ : ∃ n, n = numAt 7 bs := ⟨_, rfl⟩
  rw [← hg] at e3
  rw [← hn] at e7
  have s7 : Hid (16777216 * Y7 + 65536 * Y8 + 256 * Y9 + Y10 = (n : Int)) := by show _ = _; omega
  have s3 : Hid (16777216 * Y3 + 65536 * Y4 + 256 * Y5 + Y6 = (g : Int)) := by show _ = _; omega
  obtain ⟨A0, hA0⟩ : ∃ A : Int, A = 16777216 * Y7 := ⟨_, rfl⟩
  have p0 : Hid (IntKind.i64.wrap (16777216 * Y7) = A0) := by show _ = _; rw [IntKind.wrap_i64]; omega
  obtain ⟨A1, hA1⟩ : ∃ A : Int, A = 65536 * Y8 := ⟨_, rfl⟩
  have p1 : Hid (IntKind.i64.wrap (65536 * Y8) = A1) := by show _ = _; rw [IntKind.wrap_i64]; omega
  obtain ⟨A2, hA2⟩ : ∃ A : Int, A = 256 * Y9 := ⟨_, rfl⟩
  have p2 : Hid (IntKind.i64.wrap (256 * Y9) = A2) := by show _ = _; rw [IntKind.wrap_i64]; omega
  obtain ⟨S0, hS0⟩ : ∃ A : Int, A = A0 + A1 := ⟨_, rfl⟩
  have p3 : Hid (IntKind.i64.wrap (A0 + A1) = S0) := by show _ = _; rw [IntKind.wrap_i64]; omega
  obtain ⟨S1, hS1⟩ : ∃ A : Int, A = S0 + A2 := ⟨_, rfl⟩
  have p4 : Hid (IntKind.i64.wrap (S0 + A2) = S1) := by show _ = _; rw [IntKind.wrap_i64]; omega
  have p5 : Hid (IntKind.i64.wrap (S1 + Y10) = (n : Int)) := by show _ = _; have := s7.out; rw [IntKind.wrap_i64]; omega
  clear hA0 hA1 hA2 hS0 hS1
  obtain ⟨E0, hE0⟩ : ∃ A : Int, A = 16777216 * Y3 := ⟨_, rfl⟩
  have rr0 : Hid (IntKind.u32.wrap (16777216 * Y3) = E0) := by show _ = _; rw [IntKind.wrap_u32]; omega
  obtain ⟨E1, hE1⟩ : ∃ A : Int, A = 65536 * Y4 := ⟨_, rfl⟩
  have rr1 : Hid (IntKind.u32.wrap (65536 * Y4) = E1) := by show _ = _; rw [IntKind.wrap_u32]; omega
  obtain ⟨E2, hE2⟩ : ∃ A : Int, A = 256 * Y5 := ⟨_, rfl⟩
  have rr2 : Hid (IntKind.u32.wrap (256 * Y5) = E2) := by show _ = _; rw [IntKind.wrap_u32]; omega
  obtain ⟨G0, hG0⟩ : ∃ A : Int, A = E0 + E1 := ⟨_, rfl⟩
  have rr3 : Hid (IntKind.u32.wrap (E0 + E1) = G0) := by show _ = _; rw [IntKind.wrap_u32]; omega
  obtain ⟨G1, hG1⟩ : ∃ A : Int, A = G0 + E2 := ⟨_, rfl⟩
  have rr4 : Hid (IntKind.u32.wrap (G0 + E2) = G1) := by show _ = _; rw [IntKind.wrap_u32]; omega
  have rr5 : Hid (IntKind.u32.wrap (G1 + Y6) = (g : Int)) := by show _ = _; have := s3.out; rw [IntKind.wrap_u32]; omega
  clear hE0 hE1 hE2 hG0 hG1
  have nn : Hid (n < 4294967296) := by show _ < _; have := s7.out; omega
  have ng : Hid (g < 4294967296) := by show _ < _; have := s3.out; omega
  have q0 : (11 : Int) ≤ (bs.length : Int) := by omega
  have q1 : (11 : Int) ≤ (cap : Int) := by omega
  have q4 : ¬ bs.length = 0 := by omega
  have q101 : ¬ (bs.length : Int) ≤ 1 := by omega
  have q102 : ¬ (bs.length : Int) ≤ 2 := by omega
  have q103 : ¬ (bs.length : Int) ≤ 3 := by omega
  have q104 : ¬ (bs.length : Int) ≤ 4 := by omega
  have q105 : ¬ (bs.length : Int) ≤ 5 := by omega
  have q106 : ¬ (bs.length : Int) ≤ 6 := by omega
  have q107 : ¬ (bs.length : Int) ≤ 7 := by omega
  have q108 : ¬ (bs.length : Int) ≤ 8 := by omega
  have q109 : ¬ (bs.length : Int) ≤ 9 := by omega
  have q110 : ¬ (bs.length : Int) ≤ 10 := by omega
  have PX : w1.heap[w.heap.size]? = some (.cells #[.int .u8 0, .int .u8 0, .int .u8 0, .int .u32 0, .slice none 0 0, .slice none 0 0] 27 (0, 0)) := by rw [hw1]; exact heap_alloc_new w _
  have zX : w.heap.size < w1.heap.size := by rw [hw1]; simp
  rw [← hn] at ho hpo hpr
  clear hx0 hx1 hx2 hg hn
  clear C0 C1 C2 C3 C4 C5 C6 C7 C8 C9 C10 hcell hc hb0 r0 r1 r2 r3 hy3 hy4 hy5 hy6 hy7 hy8 hy9 hy10 e3 e7 b3 b4 b5 b6 b7 b8 b9 b10
  obtain ⟨L, hL⟩ : ∃ L, L = bs.length := ⟨_, rfl⟩
  have HL : Hid (L = bs.length) := hL
  rw [← hL] at ho hl h1 i11 q0 q4 q101 q102 q103 q104 q105 q106 q107 q108 q109 q110 ⊢
  clear hL
  subst hw1
  go_enter Tryz.func18, Tryz.ntmps18
  go_wp2_with fail
  generalize w.alloc (.cells #[.int .u8 0, .int .u8 0, .int .u8 0, .int .u32 0, .slice none 0 0, .slice none 0 0] 27) = w1 at *
  have b0 : Below w1.heap.size w1 w1.drew := ⟨rfl, rfl, rfl, Nat.le_refl _, fun _ _ => rfl⟩
  obtain ⟨R, hR⟩ : ∃ R, R = L - 11 := ⟨_, rfl⟩
  have hw : IntKind.i64.wrap ((L : Int) - 11) = (R : Int) := by rw [IntKind.wrap_i64]; omega
  refine wp_region_noPanic ?_
  refine wp_region_held_drew (S := fun W => Below w1.heap.size w1 W) (by kernel_rfl) b0 (fun hHeld => ?_)
  refine wpAnyH_take (i := 0) (oi := { dst := some 14, op := Go.Op.move (Go.Operand.tmp 0), type := 30, pos := _, after := #[], guard := none }) (v := .slice (some ⟨b, off, none⟩) L cap) rfl (by kernel_rfl) (by kernel_rfl) (by kernel_rfl) (fun _ _ _ h => h) (Or.inl ⟨by rfl, fun W hW => by go_simp⟩) (by assumption) ?_
  try simp only [Act.put, List.setIfInBounds_toArray, List.set_cons_zero, List.set_cons_succ]
  refine wpAnyH_take (i := 1) (oi := { dst := some 15, op := Go.Op.indexAddr 30 (Go.Operand.tmp 14) (Go.Operand.const (Go.Value.int Go.IntKind.i64 7)), type := 0, pos := _, after := #[{ on := 0, ground := Go.Ground.data }], guard := none }) (v := .pointer (some ⟨b, off + 7, none⟩)) rfl (by kernel_rfl) (by kernel_rfl) (by kernel_rfl) (fun _ _ _ h => h) (Or.inl ⟨by rfl, fun W hW => by go_simp⟩) (by assumption) ?_
  try simp only [Act.put, List.setIfInBounds_toArray, List.set_cons_zero, List.set_cons_succ]
  refine wpAnyH_take (i := 2) (oi := { dst := some 16, op := Go.Op.load 5 (Go.Operand.tmp 15), type := 5, pos := _, after := #[{ on := 1, ground := Go.Ground.data }], guard := none }) (v := .int .u8 Y7) rfl (by kernel_rfl) (by kernel_rfl) (by kernel_rfl) (fun _ _ _ h => h) (Or.inl ⟨by rfl, fun W hW => by have h1 := (hW.cell hbl1).trans c7; go_simp⟩) (by assumption) ?_
  try simp only [Act.put, List.setIfInBounds_toArray, List.set_cons_zero, List.set_cons_succ]
  refine wpAnyH_take (i := 3) (oi := { dst := some 17, op := Go.Op.convert 5 2 (Go.Operand.tmp 16), type := 2, pos := _, after := #[{ on := 2, ground := Go.Ground.data }], guard := none }) (v := .int .i64 Y7) rfl (by kernel_rfl) (by kernel_rfl) (by kernel_rfl) (fun _ _ _ h => h) (Or.inl ⟨by rfl, fun W hW => by have o0 := (show IntKind.i64.wrap Y7 = Y7 by rw [IntKind.wrap_i64]; omega); go_simp⟩) (by assumption) ?_
  try simp only [Act.put, List.setIfInBounds_toArray, List.set_cons_zero, List.set_cons_succ]
  refine wpAnyH_take (i := 4) (oi := { dst := some 18, op := Go.Op.binOp Go.BinOp.mul 2 (Go.Operand.const (Go.Value.int Go.IntKind.i64 16777216)) (Go.Operand.tmp 17) 2, type := 2, pos := _, after := #[{ on := 3, ground := Go.Ground.data }], guard := none }) (v := .int .i64 A0) rfl (by kernel_rfl) (by kernel_rfl) (by kernel_rfl) (fun _ _ _ h => h) (Or.inl ⟨by rfl, fun W hW => by have o0 := p0.out; go_simp⟩) (by assumption) ?_
  try simp only [Act.put, List.setIfInBounds_toArray, List.set_cons_zero, List.set_cons_succ]
  refine wpAnyH_take (i := 5) (oi := { dst := some 19, op := Go.Op.move (Go.Operand.tmp 0), type := 30, pos := _, after := #[], guard := none }) (v := .slice (some ⟨b, off, none⟩) L cap) rfl (by kernel_rfl) (by kernel_rfl) (by kernel_rfl) (fun _ _ _ h => h) (Or.inl ⟨by rfl, fun W hW => by go_simp⟩) (by assumption) ?_
  try simp only [Act.put, List.setIfInBounds_toArray, List.set_cons_zero, List.set_cons_succ]
  refine wpAnyH_take (i := 6) (oi := { dst := some 20, op := Go.Op.indexAddr 30 (Go.Operand.tmp 19) (Go.Operand.const (Go.Value.int Go.IntKind.i64 8)), type := 0, pos := _, after := #[{ on := 5, ground := Go.Ground.data }], guard := none }) (v := .pointer (some ⟨b, off + 8, none⟩)) rfl (by kernel_rfl) (by kernel_rfl) (by kernel_rfl) (fun _ _ _ h => h) (Or.inl ⟨by rfl, fun W hW => by go_simp⟩) (by assumption) ?_
  try simp only [Act.put, List.setIfInBounds_toArray, List.set_cons_zero, List.set_cons_succ]
  refine wpAnyH_take (i := 7) (oi := { dst := some 21, op := Go.Op.load 5 (Go.Operand.tmp 20), type := 5, pos := _, after := #[{ on := 6, ground := Go.Ground.data }], guard := none }) (v := .int .u8 Y8) rfl (by kernel_rfl) (by kernel_rfl) (by kernel_rfl) (fun _ _ _ h => h) (Or.inl ⟨by rfl, fun W hW => by have h1 := (hW.cell hbl1).trans c8; go_simp⟩) (by assumption) ?_
  try simp only [Act.put, List.setIfInBounds_toArray, List.set_cons_zero, List.set_cons_succ]
  refine wpAnyH_take (i := 8) (oi := { dst := some 22, op := Go.Op.convert 5 2 (Go.Operand.tmp 21), type := 2, pos := _, after := #[{ on := 7, ground := Go.Ground.data }], guard := none }) (v := .int .i64 Y8) rfl (by kernel_rfl) (by kernel_rfl) (by kernel_rfl) (fun _ _ _ h => h) (Or.inl ⟨by rfl, fun W hW => by have o0 := (show IntKind.i64.wrap Y8 = Y8 by rw [IntKind.wrap_i64]; omega); go_simp⟩) (by assumption) ?_
  try simp only [Act.put, List.setIfInBounds_toArray, List.set_cons_zero, List.set_cons_succ]
  refine wpAnyH_take (i := 9) (oi := { dst := some 23, op := Go.Op.binOp Go.BinOp.mul 2 (Go.Operand.const (Go.Value.int Go.IntKind.i64 65536)) (Go.Operand.tmp 22) 2, type := 2, pos := _, after := #[{ on := 8, ground := Go.Ground.data }], guard := none }) (v := .int .i64 A1) rfl (by kernel_rfl) (by kernel_rfl) (by kernel_rfl) (fun _ _ _ h => h) (Or.inl ⟨by rfl, fun W hW => by have o0 := p1.out; go_simp⟩) (by assumption) ?_
  try simp only [Act.put, List.setIfInBounds_toArray, List.set_cons_zero, List.set_cons_succ]
  refine wpAnyH_take (i := 10) (oi := { dst := some 24, op := Go.Op.binOp Go.BinOp.add 2 (Go.Operand.tmp 18) (Go.Operand.tmp 23) 2, type := 2, pos := _, after := #[{ on := 4, ground := Go.Ground.data }, { on := 9, ground := Go.Ground.data }], guard := none }) (v := .int .i64 S0) rfl (by kernel_rfl) (by kernel_rfl) (by kernel_rfl) (fun _ _ _ h => h) (Or.inl ⟨by rfl, fun W hW => by have o0 := p3.out; go_simp⟩) (by assumption) ?_
  try simp only [Act.put, List.setIfInBounds_toArray, List.set_cons_zero, List.set_cons_succ]
  refine wpAnyH_take (i := 11) (oi := { dst := some 25, op := Go.Op.move (Go.Operand.tmp 0), type := 30, pos := _, after := #[], guard := none }) (v := .slice (some ⟨b, off, none⟩) L cap) rfl (by kernel_rfl) (by kernel_rfl) (by kernel_rfl) (fun _ _ _ h => h) (Or.inl ⟨by rfl, fun W hW => by go_simp⟩) (by assumption) ?_
  try simp only [Act.put, List.setIfInBounds_toArray, List.set_cons_zero, List.set_cons_succ]
  refine wpAnyH_take (i := 12) (oi := { dst := some 26, op := Go.Op.indexAddr 30 (Go.Operand.tmp 25) (Go.Operand.const (Go.Value.int Go.IntKind.i64 9)), type := 0, pos := _, after := #[{ on := 11, ground := Go.Ground.data }], guard := none }) (v := .pointer (some ⟨b, off + 9, none⟩)) rfl (by kernel_rfl) (by kernel_rfl) (by kernel_rfl) (fun _ _ _ h => h) (Or.inl ⟨by rfl, fun W hW => by go_simp⟩) (by assumption) ?_
  try simp only [Act.put, List.setIfInBounds_toArray, List.set_cons_zero, List.set_cons_succ]
  refine wpAnyH_take (i := 13) (oi := { dst := some 27, op := Go.Op.load 5 (Go.Operand.tmp 26), type := 5, pos := _, after := #[{ on := 12, ground := Go.Ground.data }], guard := none }) (v := .int .u8 Y9) rfl (by kernel_rfl) (by kernel_rfl) (by kernel_rfl) (fun _ _ _ h => h) (Or.inl ⟨by rfl, fun W hW => by have h1 := (hW.cell hbl1).trans c9; go_simp⟩) (by assumption) ?_
  try simp only [Act.put, List.setIfInBounds_toArray, List.set_cons_zero, List.set_cons_succ]
  refine wpAnyH_take (i := 14) (oi := { dst := some 28, op := Go.Op.convert 5 2 (Go.Operand.tmp 27), type := 2, pos := _, after := #[{ on := 13, ground := Go.Ground.data }], guard := none }) (v := .int .i64 Y9) rfl (by kernel_rfl) (by kernel_rfl) (by kernel_rfl) (fun _ _ _ h => h) (Or.inl ⟨by rfl, fun W hW => by have o0 := (show IntKind.i64.wrap Y9 = Y9 by rw [IntKind.wrap_i64]; omega); go_simp⟩) (by assumption) ?_
  try simp only [Act.put, List.setIfInBounds_toArray, List.set_cons_zero, List.set_cons_succ]
  refine wpAnyH_take (i := 15) (oi := { dst := some 29, op := Go.Op.binOp Go.BinOp.mul 2 (Go.Operand.const (Go.Value.int Go.IntKind.i64 256)) (Go.Operand.tmp 28) 2, type := 2, pos := _, after := #[{ on := 14, ground := Go.Ground.data }], guard := none }) (v := .int .i64 A2) rfl (by kernel_rfl) (by kernel_rfl) (by kernel_rfl) (fun _ _ _ h => h) (Or.inl ⟨by rfl, fun W hW => by have o0 := p2.out; go_simp⟩) (by assumption) ?_
  try simp only [Act.put, List.setIfInBounds_toArray, List.set_cons_zero, List.set_cons_succ]
  refine wpAnyH_take (i := 16) (oi := { dst := some 30, op := Go.Op.binOp Go.BinOp.add 2 (Go.Operand.tmp 24) (Go.Operand.tmp 29) 2, type := 2, pos := _, after := #[{ on := 10, ground := Go.Ground.data }, { on := 15, ground := Go.Ground.data }], guard := none }) (v := .int .i64 S1) rfl (by kernel_rfl) (by kernel_rfl) (by kernel_rfl) (fun _ _ _ h => h) (Or.inl ⟨by rfl, fun W hW => by have o0 := p4.out; go_simp⟩) (by assumption) ?_
  try simp only [Act.put, List.setIfInBounds_toArray, List.set_cons_zero, List.set_cons_succ]
  refine wpAnyH_take (i := 17) (oi := { dst := some 31, op := Go.Op.move (Go.Operand.tmp 0), type := 30, pos := _, after := #[], guard := none }) (v := .slice (some ⟨b, off, none⟩) L cap) rfl (by kernel_rfl) (by kernel_rfl) (by kernel_rfl) (fun _ _ _ h => h) (Or.inl ⟨by rfl, fun W hW => by go_simp⟩) (by assumption) ?_
  try simp only [Act.put, List.setIfInBounds_toArray, List.set_cons_zero, List.set_cons_succ]
  refine wpAnyH_take (i := 18) (oi := { dst := some 32, op := Go.Op.indexAddr 30 (Go.Operand.tmp 31) (Go.Operand.const (Go.Value.int Go.IntKind.i64 10)), type := 0, pos := _, after := #[{ on := 17, ground := Go.Ground.data }], guard := none }) (v := .pointer (some ⟨b, off + 10, none⟩)) rfl (by kernel_rfl) (by kernel_rfl) (by kernel_rfl) (fun _ _ _ h => h) (Or.inl ⟨by rfl, fun W hW => by go_simp⟩) (by assumption) ?_
  try simp only [Act.put, List.setIfInBounds_toArray, List.set_cons_zero, List.set_cons_succ]
  refine wpAnyH_take (i := 19) (oi := { dst := some 33, op := Go.Op.load 5 (Go.Operand.tmp 32), type := 5, pos := _, after := #[{ on := 18, ground := Go.Ground.data }], guard := none }) (v := .int .u8 Y10) rfl (by kernel_rfl) (by kernel_rfl) (by kernel_rfl) (fun _ _ _ h => h) (Or.inl ⟨by rfl, fun W hW => by have h1 := (hW.cell hbl1).trans c10; go_simp⟩) (by assumption) ?_
  try simp only [Act.put, List.setIfInBounds_toArray, List.set_cons_zero, List.set_cons_succ]
  refine wpAnyH_take (i := 20) (oi := { dst := some 34, op := Go.Op.convert 5 2 (Go.Operand.tmp 33), type := 2, pos := _, after := #[{ on := 19, ground := Go.Ground.data }], guard := none }) (v := .int .i64 Y10) rfl (by kernel_rfl) (by kernel_rfl) (by kernel_rfl) (fun _ _ _ h => h) (Or.inl ⟨by rfl, fun W hW => by have o0 := (show IntKind.i64.wrap Y10 = Y10 by rw [IntKind.wrap_i64]; omega); go_simp⟩) (by assumption) ?_
  try simp only [Act.put, List.setIfInBounds_toArray, List.set_cons_zero, List.set_cons_succ]
  refine wpAnyH_take (i := 21) (oi := { dst := some 35, op := Go.Op.binOp Go.BinOp.add 2 (Go.Operand.tmp 30) (Go.Operand.tmp 34) 2, type := 2, pos := _, after := #[{ on := 16, ground := Go.Ground.data }, { on := 20, ground := Go.Ground.data }], guard := none }) (v := .int .i64 (n : Int)) rfl (by kernel_rfl) (by kernel_rfl) (by kernel_rfl) (fun _ _ _ h => h) (Or.inl ⟨by rfl, fun W hW => by have o0 := p5.out; go_simp⟩) (by assumption) ?_
  try simp only [Act.put, List.setIfInBounds_toArray, List.set_cons_zero, List.set_cons_succ]
  refine wpAnyH_take (i := 22) (oi := { dst := some 4, op := Go.Op.assign (Go.Operand.tmp 35), type := 2, pos := _, after := #[{ on := 21, ground := Go.Ground.data }, { on := 0, ground := Go.Ground.phase }, { on := 1, ground := Go.Ground.phase }, { on := 2, ground := Go.Ground.phase }, { on := 3, ground := Go.Ground.phase }, { on := 4, ground := Go.Ground.phase }, { on := 5, ground := Go.Ground.phase }, { on := 6, ground := Go.Ground.phase }, { on := 7, ground := Go.Ground.phase }, { on := 8, ground := Go.Ground.phase }, { on := 9, ground := Go.Ground.phase }, { on := 10, ground := Go.Ground.phase }, { on := 11, ground := Go.Ground.phase }, { on := 12, ground := Go.Ground.phase }, { on := 13, ground := Go.Ground.phase }, { on := 14, ground := Go.Ground.phase }, { on := 15, ground := Go.Ground.phase }, { on := 16, ground := Go.Ground.phase }, { on := 17, ground := Go.Ground.phase }, { on := 18, ground := Go.Ground.phase }, { on := 19, ground := Go.Ground.phase }, { on := 20, ground := Go.Ground.phase }, { on := 21, ground := Go.Ground.phase }], guard := none }) (v := .int .i64 (n : Int)) rfl (by kernel_rfl) (by kernel_rfl) (by kernel_rfl) (fun _ _ _ h => h) (Or.inl ⟨by rfl, fun W hW => by go_simp⟩) (by assumption) ?_
  try simp only [Act.put, List.setIfInBounds_toArray, List.set_cons_zero, List.set_cons_succ]
  refine wpAnyH_done (by kernel_rfl) ?_ _
  refine NoPanic.normal ?_
  clear hHeld
  have v1 : (n : Int) ≤ (R : Int) := by omega
  have v2 : ¬ (R : Int) < (n : Int) := by omega
  have b3 : Below w1.heap.size w1 w1.drew := b0
  have z3 : w1.heap.size ≤ w1.drew.heap.size := Nat.le_refl _
  have e3 : w1.drew.heap.size = w1.heap.size := rfl
  clear b0
  generalize w1.drew = w3 at *
  go_wp2_with fail
  have b4 : Below w1.heap.size w1 w3.drew := b3.drew
  refine wp_region_noPanic ?_
  refine wp_region_held_drew (S := fun W => Below w1.heap.size w1 W) (by kernel_rfl) b4 (fun hHeld => ?_)
  refine wpAnyH_take (i := 0) (oi := { dst := some 42, op := Go.Op.move (Go.Operand.tmp 0), type := 30, pos := _, after := #[], guard := none }) (v := .slice (some ⟨b, off, none⟩) L cap) rfl (by kernel_rfl) (by kernel_rfl) (by kernel_rfl) (fun _ _ _ h => h) (Or.inl ⟨by rfl, fun W hW => by go_simp⟩) (by assumption) ?_
  try simp only [Act.put, List.setIfInBounds_toArray, List.set_cons_zero, List.set_cons_succ]
  refine wpAnyH_take (i := 1) (oi := { dst := some 43, op := Go.Op.indexAddr 30 (Go.Operand.tmp 42) (Go.Operand.const (Go.Value.int Go.IntKind.i64 0)), type := 0, pos := _, after := #[{ on := 0, ground := Go.Ground.data }], guard := none }) (v := .pointer (some ⟨b, off, none⟩)) rfl (by kernel_rfl) (by kernel_rfl) (by kernel_rfl) (fun _ _ _ h => h) (Or.inl ⟨by rfl, fun W hW => by go_simp⟩) (by assumption) ?_
  try simp only [Act.put, List.setIfInBounds_toArray, List.set_cons_zero, List.set_cons_succ]
  refine wpAnyH_take (i := 2) (oi := { dst := some 44, op := Go.Op.load 5 (Go.Operand.tmp 43), type := 5, pos := _, after := #[{ on := 1, ground := Go.Ground.data }], guard := none }) (v := .int .u8 (x0.toNat : Int)) rfl (by kernel_rfl) (by kernel_rfl) (by kernel_rfl) (fun _ _ _ h => h) (Or.inl ⟨by rfl, fun W hW => by have h1 := (hW.cell hbl1).trans c0; go_simp⟩) (by assumption) ?_
  try simp only [Act.put, List.setIfInBounds_toArray, List.set_cons_zero, List.set_cons_succ]
  refine wpAnyH_take (i := 3) (oi := { dst := some 45, op := Go.Op.move (Go.Operand.tmp 0), type := 30, pos := _, after := #[], guard := none }) (v := .slice (some ⟨b, off, none⟩) L cap) rfl (by kernel_rfl) (by kernel_rfl) (by kernel_rfl) (fun _ _ _ h => h) (Or.inl ⟨by rfl, fun W hW => by go_simp⟩) (by assumption) ?_
  try simp only [Act.put, List.setIfInBounds_toArray, List.set_cons_zero, List.set_cons_succ]
  refine wpAnyH_take (i := 4) (oi := { dst := some 46, op := Go.Op.indexAddr 30 (Go.Operand.tmp 45) (Go.Operand.const (Go.Value.int Go.IntKind.i64 1)), type := 0, pos := _, after := #[{ on := 3, ground := Go.Ground.data }], guard := none }) (v := .pointer (some ⟨b, off + 1, none⟩)) rfl (by kernel_rfl) (by kernel_rfl) (by kernel_rfl) (fun _ _ _ h => h) (Or.inl ⟨by rfl, fun W hW => by go_simp⟩) (by assumption) ?_
  try simp only [Act.put, List.setIfInBounds_toArray, List.set_cons_zero, List.set_cons_succ]
  refine wpAnyH_take (i := 5) (oi := { dst := some 47, op := Go.Op.load 5 (Go.Operand.tmp 46), type := 5, pos := _, after := #[{ on := 4, ground := Go.Ground.data }], guard := none }) (v := .int .u8 (x1.toNat : Int)) rfl (by kernel_rfl) (by kernel_rfl) (by kernel_rfl) (fun _ _ _ h => h) (Or.inl ⟨by rfl, fun W hW => by have h1 := (hW.cell hbl1).trans c1; go_simp⟩) (by assumption) ?_
  try simp only [Act.put, List.setIfInBounds_toArray, List.set_cons_zero, List.set_cons_succ]
  refine wpAnyH_take (i := 6) (oi := { dst := some 48, op := Go.Op.move (Go.Operand.tmp 0), type := 30, pos := _, after := #[], guard := none }) (v := .slice (some ⟨b, off, none⟩) L cap) rfl (by kernel_rfl) (by kernel_rfl) (by kernel_rfl) (fun _ _ _ h => h) (Or.inl ⟨by rfl, fun W hW => by go_simp⟩) (by assumption) ?_
  try simp only [Act.put, List.setIfInBounds_toArray, List.set_cons_zero, List.set_cons_succ]
  refine wpAnyH_take (i := 7) (oi := { dst := some 49, op := Go.Op.indexAddr 30 (Go.Operand.tmp 48) (Go.Operand.const (Go.Value.int Go.IntKind.i64 2)), type := 0, pos := _, after := #[{ on := 6, ground := Go.Ground.data }], guard := none }) (v := .pointer (some ⟨b, off + 2, none⟩)) rfl (by kernel_rfl) (by kernel_rfl) (by kernel_rfl) (fun _ _ _ h => h) (Or.inl ⟨by rfl, fun W hW => by go_simp⟩) (by assumption) ?_
  try simp only [Act.put, List.setIfInBounds_toArray, List.set_cons_zero, List.set_cons_succ]
  refine wpAnyH_take (i := 8) (oi := { dst := some 50, op := Go.Op.load 5 (Go.Operand.tmp 49), type := 5, pos := _, after := #[{ on := 7, ground := Go.Ground.data }], guard := none }) (v := .int .u8 (x2.toNat : Int)) rfl (by kernel_rfl) (by kernel_rfl) (by kernel_rfl) (fun _ _ _ h => h) (Or.inl ⟨by rfl, fun W hW => by have h1 := (hW.cell hbl1).trans c2; go_simp⟩) (by assumption) ?_
  try simp only [Act.put, List.setIfInBounds_toArray, List.set_cons_zero, List.set_cons_succ]
  refine wpAnyH_take (i := 9) (oi := { dst := some 51, op := Go.Op.build 27 #[(0, Go.Operand.tmp 44), (1, Go.Operand.tmp 47), (2, Go.Operand.tmp 50)], type := 27, pos := _, after := #[{ on := 2, ground := Go.Ground.data }, { on := 5, ground := Go.Ground.data }, { on := 8, ground := Go.Ground.data }], guard := none }) (v := .agg #[.int .u8 (x0.toNat : Int), .int .u8 (x1.toNat : Int), .int .u8 (x2.toNat : Int), .int .u32 0, .slice none 0 0, .slice none 0 0]) rfl (by kernel_rfl) (by kernel_rfl) (by kernel_rfl) (fun _ _ _ h => h) (Or.inl ⟨by rfl, fun W hW => by go_simp⟩) (by assumption) ?_
  try simp only [Act.put, List.setIfInBounds_toArray, List.set_cons_zero, List.set_cons_succ]
  refine wpAnyH_ready (rs := [10]) (by kernel_rfl) (by simp) ?_
  refine AllReadyH.cons (o := { dst := some 5, op := Go.Op.alloc 27, type := 0, pos := _, after := #[], guard := none }) rfl (fun K hK => ?_) AllReadyH.nil
  go_simp
  have b5 : Below w1.heap.size w1 (w3.alloc (.cells #[.int .u8 0, .int .u8 0, .int .u8 0, .int .u32 0, .slice none 0 0, .slice none 0 0] 27)).drew := (b3.alloc z3 (.cells #[.int .u8 0, .int .u8 0, .int .u8 0, .int .u32 0, .slice none 0 0, .slice none 0 0] 27)).drew
  have b5' : Below w1.heap.size w1 (w3.drew.alloc (.cells #[.int .u8 0, .int .u8 0, .int .u8 0, .int .u32 0, .slice none 0 0, .slice none 0 0] 27)) := b3.drew.alloc z3 (.cells #[.int .u8 0, .int .u8 0, .int .u8 0, .int .u32 0, .slice none 0 0, .slice none 0 0] 27)
  refine hK.out _ _ (by first | exact b5 | exact b5') (fun hHeld => ?_)
  clear hK K
  try simp only [Act.put, List.setIfInBounds_toArray, List.set_cons_zero, List.set_cons_succ]
  refine wpAnyH_ready (rs := [11]) (by kernel_rfl) (by simp) ?_
  refine AllReadyH.cons (o := { dst := none, op := Go.Op.store 27 (Go.Operand.tmp 5) (Go.Operand.tmp 51), type := 0, pos := _, after := #[{ on := 10, ground := Go.Ground.data }, { on := 9, ground := Go.Ground.data }, { on := 0, ground := Go.Ground.phase }, { on := 1, ground := Go.Ground.phase }, { on := 2, ground := Go.Ground.phase }, { on := 3, ground := Go.Ground.phase }, { on := 4, ground := Go.Ground.phase }, { on := 5, ground := Go.Ground.phase }, { on := 6, ground := Go.Ground.phase }, { on := 7, ground := Go.Ground.phase }, { on := 8, ground := Go.Ground.phase }, { on := 9, ground := Go.Ground.phase }, { on := 10, ground := Go.Ground.phase }], guard := none }) rfl (fun K hK => ?_) AllReadyH.nil
  go_simp
  have b6 : Below w1.heap.size w1 (w3.alloc (.cells #[.int .u8 (x0.toNat : Int), .int .u8 (x1.toNat : Int), .int .u8 (x2.toNat : Int), .int .u32 0, .slice none 0 0, .slice none 0 0] 27)).drew := (b3.alloc z3 (.cells #[.int .u8 (x0.toNat : Int), .int .u8 (x1.toNat : Int), .int .u8 (x2.toNat : Int), .int .u32 0, .slice none 0 0, .slice none 0 0] 27)).drew
  refine hK.out _ _ b6 (fun hHeld => ?_)
  clear hK K
  try simp only [Act.put, List.setIfInBounds_toArray, List.set_cons_zero, List.set_cons_succ]
  refine wpAnyH_done (by kernel_rfl) ?_ _
  refine NoPanic.normal ?_
  clear hHeld b4
  have P4 : (w3.alloc (.cells #[.int .u8 (x0.toNat : Int), .int .u8 (x1.toNat : Int), .int .u8 (x2.toNat : Int), .int .u32 0, .slice none 0 0, .slice none 0 0] 27)).drew.heap[w1.heap.size]? = some (.cells #[.int .u8 (x0.toNat : Int), .int .u8 (x1.toNat : Int), .int .u8 (x2.toNat : Int), .int .u32 0, .slice none 0 0, .slice none 0 0] 27 (0, 0)) := by rw [← e3]; exact heap_alloc_new w3 _
  have b4 : Below w1.heap.size w1 (w3.alloc (.cells #[.int .u8 (x0.toNat : Int), .int .u8 (x1.toNat : Int), .int .u8 (x2.toNat : Int), .int .u32 0, .slice none 0 0, .slice none 0 0] 27)).drew := (b3.alloc z3 (.cells #[.int .u8 (x0.toNat : Int), .int .u8 (x1.toNat : Int), .int .u8 (x2.toNat : Int), .int .u32 0, .slice none 0 0, .slice none 0 0] 27)).drew
  have z4 : w1.heap.size < (w3.alloc (.cells #[.int .u8 (x0.toNat : Int), .int .u8 (x1.toNat : Int), .int .u8 (x2.toNat : Int), .int .u32 0, .slice none 0 0, .slice none 0 0] 27)).drew.heap.size := by show _ < (w3.alloc _).heap.size; simp; omega
  generalize (w3.alloc (.cells #[.int .u8 (x0.toNat : Int), .int .u8 (x1.toNat : Int), .int .u8 (x2.toNat : Int), .int .u32 0, .slice none 0 0, .slice none 0 0] 27)).drew = w4 at *
  try rw [e3]
  obtain ⟨P, hP⟩ : ∃ P, P = w1.heap.size := ⟨_, rfl⟩
  rw [← hP] at P4 z4 ⊢
  have k8 := (Kept.refl P w4.heap.size w4).setCell 3 (.int .u32 (g : Int))
  have b8 : Below w1.heap.size w1 (w4.setCell ⟨P, 3, none⟩ (.int .u32 (g : Int))).drew := (b4.trans (k8.below (by omega) (by omega))).drew
  have P8 := six_set3 (.int .u32 (g : Int)) P4
  have z8 : P < (w4.setCell ⟨P, 3, none⟩ (.int .u32 (g : Int))).drew.heap.size := Nat.lt_of_lt_of_le z4 k8.size
  obtain ⟨m0, m1, m2, m3, m4, m5⟩ := six_cells P4
  have fP := fun i => box_frozen (i := i) P4
  have HP : Hid (P = w1.heap.size) := hP
  clear b3 z3 e3 P4 z4 hP
  go_wp2_with fail
  have b5 : Below w1.heap.size w1 w4.drew := b4.drew
  refine wp_region_noPanic ?_
  refine wp_region_held_drew (S := fun W => Below w1.heap.size w1 W) (by kernel_rfl) b5 (fun hHeld => ?_)
  refine wpAnyH_take (i := 0) (oi := { dst := some 52, op := Go.Op.move (Go.Operand.tmp 0), type := 30, pos := _, after := #[], guard := none }) (v := .slice (some ⟨b, off, none⟩) L cap) rfl (by kernel_rfl) (by kernel_rfl) (by kernel_rfl) (fun _ _ _ h => h) (Or.inl ⟨by rfl, fun W hW => by go_simp⟩) (by assumption) ?_
  try simp only [Act.put, List.setIfInBounds_toArray, List.set_cons_zero, List.set_cons_succ]
  refine wpAnyH_take (i := 1) (oi := { dst := some 53, op := Go.Op.indexAddr 30 (Go.Operand.tmp 52) (Go.Operand.const (Go.Value.int Go.IntKind.i64 3)), type := 0, pos := _, after := #[{ on := 0, ground := Go.Ground.data }], guard := none }) (v := .pointer (some ⟨b, off + 3, none⟩)) rfl (by kernel_rfl) (by kernel_rfl) (by kernel_rfl) (fun _ _ _ h => h) (Or.inl ⟨by rfl, fun W hW => by go_simp⟩) (by assumption) ?_
  try simp only [Act.put, List.setIfInBounds_toArray, List.set_cons_zero, List.set_cons_succ]
  refine wpAnyH_take (i := 2) (oi := { dst := some 54, op := Go.Op.load 5 (Go.Operand.tmp 53), type := 5, pos := _, after := #[{ on := 1, ground := Go.Ground.data }], guard := none }) (v := .int .u8 Y3) rfl (by kernel_rfl) (by kernel_rfl) (by kernel_rfl) (fun _ _ _ h => h) (Or.inl ⟨by rfl, fun W hW => by have h1 := (hW.cell hbl1).trans c3; go_simp⟩) (by assumption) ?_
  try simp only [Act.put, List.setIfInBounds_toArray, List.set_cons_zero, List.set_cons_succ]
  refine wpAnyH_take (i := 3) (oi := { dst := some 55, op := Go.Op.convert 5 23 (Go.Operand.tmp 54), type := 23, pos := _, after := #[{ on := 2, ground := Go.Ground.data }], guard := none }) (v := .int .u32 Y3) rfl (by kernel_rfl) (by kernel_rfl) (by kernel_rfl) (fun _ _ _ h => h) (Or.inl ⟨by rfl, fun W hW => by have o0 := (show IntKind.u32.wrap Y3 = Y3 by rw [IntKind.wrap_u32]; omega); go_simp⟩) (by assumption) ?_
  try simp only [Act.put, List.setIfInBounds_toArray, List.set_cons_zero, List.set_cons_succ]
  refine wpAnyH_take (i := 4) (oi := { dst := some 56, op := Go.Op.binOp Go.BinOp.mul 23 (Go.Operand.const (Go.Value.int Go.IntKind.u32 16777216)) (Go.Operand.tmp 55) 23, type := 23, pos := _, after := #[{ on := 3, ground := Go.Ground.data }], guard := none }) (v := .int .u32 E0) rfl (by kernel_rfl) (by kernel_rfl) (by kernel_rfl) (fun _ _ _ h => h) (Or.inl ⟨by rfl, fun W hW => by have o0 := rr0.out; go_simp⟩) (by assumption) ?_
  try simp only [Act.put, List.setIfInBounds_toArray, List.set_cons_zero, List.set_cons_succ]
  refine wpAnyH_take (i := 5) (oi := { dst := some 57, op := Go.Op.move (Go.Operand.tmp 0), type := 30, pos := _, after := #[], guard := none }) (v := .slice (some ⟨b, off, none⟩) L cap) rfl (by kernel_rfl) (by kernel_rfl) (by kernel_rfl) (fun _ _ _ h => h) (Or.inl ⟨by rfl, fun W hW => by go_simp⟩) (by assumption) ?_
  try simp only [Act.put, List.setIfInBounds_toArray, List.set_cons_zero, List.set_cons_succ]
  refine wpAnyH_take (i := 6) (oi := { dst := some 58, op := Go.Op.indexAddr 30 (Go.Operand.tmp 57) (Go.Operand.const (Go.Value.int Go.IntKind.i64 4)), type := 0, pos := _, after := #[{ on := 5, ground := Go.Ground.data }], guard := none }) (v := .pointer (some ⟨b, off + 4, none⟩)) rfl (by kernel_rfl) (by kernel_rfl) (by kernel_rfl) (fun _ _ _ h => h) (Or.inl ⟨by rfl, fun W hW => by go_simp⟩) (by assumption) ?_
  try simp only [Act.put, List.setIfInBounds_toArray, List.set_cons_zero, List.set_cons_succ]
  refine wpAnyH_take (i := 7) (oi := { dst := some 59, op := Go.Op.load 5 (Go.Operand.tmp 58), type := 5, pos := _, after := #[{ on := 6, ground := Go.Ground.data }], guard := none }) (v := .int .u8 Y4) rfl (by kernel_rfl) (by kernel_rfl) (by kernel_rfl) (fun _ _ _ h => h) (Or.inl ⟨by rfl, fun W hW => by have h1 := (hW.cell hbl1).trans c4; go_simp⟩) (by assumption) ?_
  try simp only [Act.put, List.setIfInBounds_toArray, List.set_cons_zero, List.set_cons_succ]
  refine wpAnyH_take (i := 8) (oi := { dst := some 60, op := Go.Op.convert 5 23 (Go.Operand.tmp 59), type := 23, pos := _, after := #[{ on := 7, ground := Go.Ground.data }], guard := none }) (v := .int .u32 Y4) rfl (by kernel_rfl) (by kernel_rfl) (by kernel_rfl) (fun _ _ _ h => h) (Or.inl ⟨by rfl, fun W hW => by have o0 := (show IntKind.u32.wrap Y4 = Y4 by rw [IntKind.wrap_u32]; omega); go_simp⟩) (by assumption) ?_
  try simp only [Act.put, List.setIfInBounds_toArray, List.set_cons_zero, List.set_cons_succ]
  refine wpAnyH_take (i := 9) (oi := { dst := some 61, op := Go.Op.binOp Go.BinOp.mul 23 (Go.Operand.const (Go.Value.int Go.IntKind.u32 65536)) (Go.Operand.tmp 60) 23, type := 23, pos := _, after := #[{ on := 8, ground := Go.Ground.data }], guard := none }) (v := .int .u32 E1) rfl (by kernel_rfl) (by kernel_rfl) (by kernel_rfl) (fun _ _ _ h => h) (Or.inl ⟨by rfl, fun W hW => by have o0 := rr1.out; go_simp⟩) (by assumption) ?_
  try simp only [Act.put, List.setIfInBounds_toArray, List.set_cons_zero, List.set_cons_succ]
  refine wpAnyH_take (i := 10) (oi := { dst := some 62, op := Go.Op.binOp Go.BinOp.add 23 (Go.Operand.tmp 56) (Go.Operand.tmp 61) 23, type := 23, pos := _, after := #[{ on := 4, ground := Go.Ground.data }, { on := 9, ground := Go.Ground.data }], guard := none }) (v := .int .u32 G0) rfl (by kernel_rfl) (by kernel_rfl) (by kernel_rfl) (fun _ _ _ h => h) (Or.inl ⟨by rfl, fun W hW => by have o0 := rr3.out; go_simp⟩) (by assumption) ?_
  try simp only [Act.put, List.setIfInBounds_toArray, List.set_cons_zero, List.set_cons_succ]
  refine wpAnyH_take (i := 11) (oi := { dst := some 63, op := Go.Op.move (Go.Operand.tmp 0), type := 30, pos := _, after := #[], guard := none }) (v := .slice (some ⟨b, off, none⟩) L cap) rfl (by kernel_rfl) (by kernel_rfl) (by kernel_rfl) (fun _ _ _ h => h) (Or.inl ⟨by rfl, fun W hW => by go_simp⟩) (by assumption) ?_
  try simp only [Act.put, List.setIfInBounds_toArray, List.set_cons_zero, List.set_cons_succ]
  refine wpAnyH_take (i := 12) (oi := { dst := some 64, op := Go.Op.indexAddr 30 (Go.Operand.tmp 63) (Go.Operand.const (Go.Value.int Go.IntKind.i64 5)), type := 0, pos := _, after := #[{ on := 11, ground := Go.Ground.data }], guard := none }) (v := .pointer (some ⟨b, off + 5, none⟩)) rfl (by kernel_rfl) (by kernel_rfl) (by kernel_rfl) (fun _ _ _ h => h) (Or.inl ⟨by rfl, fun W hW => by go_simp⟩) (by assumption) ?_
  try simp only [Act.put, List.setIfInBounds_toArray, List.set_cons_zero, List.set_cons_succ]
  refine wpAnyH_take (i := 13) (oi := { dst := some 65, op := Go.Op.load 5 (Go.Operand.tmp 64), type := 5, pos := _, after := #[{ on := 12, ground := Go.Ground.data }], guard := none }) (v := .int .u8 Y5) rfl (by kernel_rfl) (by kernel_rfl) (by kernel_rfl) (fun _ _ _ h => h) (Or.inl ⟨by rfl, fun W hW => by have h1 := (hW.cell hbl1).trans c5; go_simp⟩) (by assumption) ?_
  try simp only [Act.put, List.setIfInBounds_toArray, List.set_cons_zero, List.set_cons_succ]
  refine wpAnyH_take (i := 14) (oi := { dst := some 66, op := Go.Op.convert 5 23 (Go.Operand.tmp 65), type := 23, pos := _, after := #[{ on := 13, ground := Go.Ground.data }], guard := none }) (v := .int .u32 Y5) rfl (by kernel_rfl) (by kernel_rfl) (by kernel_rfl) (fun _ _ _ h => h) (Or.inl ⟨by rfl, fun W hW => by have o0 := (show IntKind.u32.wrap Y5 = Y5 by rw [IntKind.wrap_u32]; omega); go_simp⟩) (by assumption) ?_
  try simp only [Act.put, List.setIfInBounds_toArray, List.set_cons_zero, List.set_cons_succ]
  refine wpAnyH_take (i := 15) (oi := { dst := some 67, op := Go.Op.binOp Go.BinOp.mul 23 (Go.Operand.const (Go.Value.int Go.IntKind.u32 256)) (Go.Operand.tmp 66) 23, type := 23, pos := _, after := #[{ on := 14, ground := Go.Ground.data }], guard := none }) (v := .int .u32 E2) rfl (by kernel_rfl) (by kernel_rfl) (by kernel_rfl) (fun _ _ _ h => h) (Or.inl ⟨by rfl, fun W hW => by have o0 := rr2.out; go_simp⟩) (by assumption) ?_
  try simp only [Act.put, List.setIfInBounds_toArray, List.set_cons_zero, List.set_cons_succ]
  refine wpAnyH_take (i := 16) (oi := { dst := some 68, op := Go.Op.binOp Go.BinOp.add 23 (Go.Operand.tmp 62) (Go.Operand.tmp 67) 23, type := 23, pos := _, after := #[{ on := 10, ground := Go.Ground.data }, { on := 15, ground := Go.Ground.data }], guard := none }) (v := .int .u32 G1) rfl (by kernel_rfl) (by kernel_rfl) (by kernel_rfl) (fun _ _ _ h => h) (Or.inl ⟨by rfl, fun W hW => by have o0 := rr4.out; go_simp⟩) (by assumption) ?_
  try simp only [Act.put, List.setIfInBounds_toArray, List.set_cons_zero, List.set_cons_succ]
  refine wpAnyH_take (i := 17) (oi := { dst := some 69, op := Go.Op.move (Go.Operand.tmp 0), type := 30, pos := _, after := #[], guard := none }) (v := .slice (some ⟨b, off, none⟩) L cap) rfl (by kernel_rfl) (by kernel_rfl) (by kernel_rfl) (fun _ _ _ h => h) (Or.inl ⟨by rfl, fun W hW => by go_simp⟩) (by assumption) ?_
  try simp only [Act.put, List.setIfInBounds_toArray, List.set_cons_zero, List.set_cons_succ]
  refine wpAnyH_take (i := 18) (oi := { dst := some 70, op := Go.Op.indexAddr 30 (Go.Operand.tmp 69) (Go.Operand.const (Go.Value.int Go.IntKind.i64 6)), type := 0, pos := _, after := #[{ on := 17, ground := Go.Ground.data }], guard := none }) (v := .pointer (some ⟨b, off + 6, none⟩)) rfl (by kernel_rfl) (by kernel_rfl) (by kernel_rfl) (fun _ _ _ h => h) (Or.inl ⟨by rfl, fun W hW => by go_simp⟩) (by assumption) ?_
  try simp only [Act.put, List.setIfInBounds_toArray, List.set_cons_zero, List.set_cons_succ]
  refine wpAnyH_take (i := 19) (oi := { dst := some 71, op := Go.Op.load 5 (Go.Operand.tmp 70), type := 5, pos := _, after := #[{ on := 18, ground := Go.Ground.data }], guard := none }) (v := .int .u8 Y6) rfl (by kernel_rfl) (by kernel_rfl) (by kernel_rfl) (fun _ _ _ h => h) (Or.inl ⟨by rfl, fun W hW => by have h1 := (hW.cell hbl1).trans c6; go_simp⟩) (by assumption) ?_
  try simp only [Act.put, List.setIfInBounds_toArray, List.set_cons_zero, List.set_cons_succ]
  refine wpAnyH_take (i := 20) (oi := { dst := some 72, op := Go.Op.convert 5 23 (Go.Operand.tmp 71), type := 23, pos := _, after := #[{ on := 19, ground := Go.Ground.data }], guard := none }) (v := .int .u32 Y6) rfl (by kernel_rfl) (by kernel_rfl) (by kernel_rfl) (fun _ _ _ h => h) (Or.inl ⟨by rfl, fun W hW => by have o0 := (show IntKind.u32.wrap Y6 = Y6 by rw [IntKind.wrap_u32]; omega); go_simp⟩) (by assumption) ?_
  try simp only [Act.put, List.setIfInBounds_toArray, List.set_cons_zero, List.set_cons_succ]
  refine wpAnyH_take (i := 21) (oi := { dst := some 73, op := Go.Op.binOp Go.BinOp.add 23 (Go.Operand.tmp 68) (Go.Operand.tmp 72) 23, type := 23, pos := _, after := #[{ on := 16, ground := Go.Ground.data }, { on := 20, ground := Go.Ground.data }], guard := none }) (v := .int .u32 (g : Int)) rfl (by kernel_rfl) (by kernel_rfl) (by kernel_rfl) (fun _ _ _ h => h) (Or.inl ⟨by rfl, fun W hW => by have o0 := rr5.out; go_simp⟩) (by assumption) ?_
  try simp only [Act.put, List.setIfInBounds_toArray, List.set_cons_zero, List.set_cons_succ]
  refine wpAnyH_take (i := 22) (oi := { dst := some 74, op := Go.Op.fieldAddr 27 (Go.Operand.tmp 5) 3, type := 0, pos := _, after := #[{ on := 0, ground := Go.Ground.phase }, { on := 1, ground := Go.Ground.phase }, { on := 2, ground := Go.Ground.phase }, { on := 3, ground := Go.Ground.phase }, { on := 4, ground := Go.Ground.phase }, { on := 5, ground := Go.Ground.phase }, { on := 6, ground := Go.Ground.phase }, { on := 7, ground := Go.Ground.phase }, { on := 8, ground := Go.Ground.phase }, { on := 9, ground := Go.Ground.phase }, { on := 10, ground := Go.Ground.phase }, { on := 11, ground := Go.Ground.phase }, { on := 12, ground := Go.Ground.phase }, { on := 13, ground := Go.Ground.phase }, { on := 14, ground := Go.Ground.phase }, { on := 15, ground := Go.Ground.phase }, { on := 16, ground := Go.Ground.phase }, { on := 17, ground := Go.Ground.phase }, { on := 18, ground := Go.Ground.phase }, { on := 19, ground := Go.Ground.phase }, { on := 20, ground := Go.Ground.phase }, { on := 21, ground := Go.Ground.phase }], guard := none }) (v := .pointer (some ⟨P, 3, none⟩)) rfl (by kernel_rfl) (by kernel_rfl) (by kernel_rfl) (fun _ _ _ h => h) (Or.inl ⟨by rfl, fun W hW => by go_simp⟩) (by assumption) ?_
  try simp only [Act.put, List.setIfInBounds_toArray, List.set_cons_zero, List.set_cons_succ]
  refine wpAnyH_ready (rs := [23]) (by kernel_rfl) (by simp) ?_
  refine AllReadyH.cons (o := { dst := none, op := Go.Op.store 23 (Go.Operand.tmp 74) (Go.Operand.tmp 73), type := 0, pos := _, after := #[{ on := 22, ground := Go.Ground.data }, { on := 21, ground := Go.Ground.data }, { on := 0, ground := Go.Ground.phase }, { on := 1, ground := Go.Ground.phase }, { on := 2, ground := Go.Ground.phase }, { on := 3, ground := Go.Ground.phase }, { on := 4, ground := Go.Ground.phase }, { on := 5, ground := Go.Ground.phase }, { on := 6, ground := Go.Ground.phase }, { on := 7, ground := Go.Ground.phase }, { on := 8, ground := Go.Ground.phase }, { on := 9, ground := Go.Ground.phase }, { on := 10, ground := Go.Ground.phase }, { on := 11, ground := Go.Ground.phase }, { on := 12, ground := Go.Ground.phase }, { on := 13, ground := Go.Ground.phase }, { on := 14, ground := Go.Ground.phase }, { on := 15, ground := Go.Ground.phase }, { on := 16, ground := Go.Ground.phase }, { on := 17, ground := Go.Ground.phase }, { on := 18, ground := Go.Ground.phase }, { on := 19, ground := Go.Ground.phase }, { on := 20, ground := Go.Ground.phase }, { on := 21, ground := Go.Ground.phase }], guard := none }) rfl (fun K hK => ?_) AllReadyH.nil
  go_simp
  refine hK.out _ _ b8 (fun hHeld => ?_)
  clear hK K
  try simp only [Act.put, List.setIfInBounds_toArray, List.set_cons_zero, List.set_cons_succ]
  refine wpAnyH_done (by kernel_rfl) ?_ _
  refine NoPanic.normal ?_
  clear hHeld m0 m1 m2 m3 m4 m5 fP b5 b4 k8
  clear q101 q102 q103 q104 q105 q106 q107 q108 q109 q110 l3 u3 l4 u4 l5 u5 l6 u6 l7 u7 l8 u8 l9 u9 l10 u10 p0 rr0 p1 rr1 p2 rr2 p3 rr3 p4 rr4 p5 rr5 c3 c4 c5 c6 c7 c8 c9 c10 s7 s3
  clear c0 c1 c2
  replace P8 : (w4.setCell ⟨P, 3, none⟩ (.int .u32 (g : Int))).drew.heap[P]? = some (.cells #[.int .u8 (x0.toNat : Int), .int .u8 (x1.toNat : Int), .int .u8 (x2.toNat : Int), .int .u32 (g : Int), .slice none 0 0, .slice none 0 0] 27 (0, 0)) := P8
  generalize (w4.setCell ⟨P, 3, none⟩ (.int .u32 (g : Int))).drew = w5 at *
  obtain ⟨M, hM⟩ : ∃ M, M = 11 + n := ⟨_, rfl⟩
  have hn9 := nn.out
  have k1 : IntKind.i64.wrap (11 + (n : Int)) = (M : Int) := by rw [IntKind.wrap_i64]; omega
  have k2 : (11 : Int) ≤ (M : Int) := by omega
  have k3 : (M : Int) ≤ (cap : Int) := by omega
  have k4 : (M : Int) ≤ (L : Int) := by omega
  have k5 : M - 11 = n := by omega
  obtain ⟨o2, hro⟩ : ∃ o2, (if cap = 11 then some (⟨b, off, none⟩ : Addr) else some ⟨b, off + 11, none⟩) = some ⟨b, o2, none⟩ := by
    by_cases e : cap = 11
    · exact ⟨_, by rw [if_pos e]⟩
    · exact ⟨_, by rw [if_neg e]⟩
  obtain ⟨o3, hro3⟩ : ∃ o3, (if cap = M then some (⟨b, off, none⟩ : Addr) else some ⟨b, off + M, none⟩) = some ⟨b, o3, none⟩ := by
    by_cases e : cap = M
    · exact ⟨_, by rw [if_pos e]⟩
    · exact ⟨_, by rw [if_neg e]⟩
  have sA : InAt w1 w1.heap.size (.slice (some ⟨b, o2, none⟩) n (cap - 11)) ((bs.drop 11).take n) := by
    have h := in_drop (n := 11) (ao' := some ⟨b, o2, none⟩) hb1 (by rw [← HL.out]; omega) (fun hlt _ _ e => by cases e; rw [← hro, if_neg (by omega)])
    rw [← List.length_drop] at h
    exact in_take h (by rw [List.length_drop, ← HL.out]; omega)
  have sB : InAt w1 w1.heap.size (.slice (some ⟨b, o3, none⟩) (L - M) (cap - M)) ((bs.drop 11).drop n) := by
    have h := in_drop (n := M) (ao' := some ⟨b, o3, none⟩) hb1 (by rw [← HL.out]; omega) (fun hlt _ _ e => by cases e; rw [← hro3, if_neg (by omega)])
    rw [List.drop_drop, show 11 + n = M by omega]
    rw [← HL.out] at h
    exact h
  have zP : w1.heap.size ≤ P := by have := HP.out; omega
  have z5 : w1.heap.size ≤ w5.heap.size := b8.size
  have kg := refGetOps_any w5 _ _ ((sA.below b8 (Nat.le_refl _)).mono b8.size)
  rw [hpo] at kg
  clear sA hpo hM hn9 nn ng hb1 HL
  go_wp2_with fail
  refine kg.mono ?_
  rintro e w6 ⟨vo, rfl, oo, b6⟩
  obtain ⟨oa, oc, rfl⟩ := own_len oo
  try simp only at oo
  have P6 := (b6.block _ z8).trans P8
  have z6 := Nat.lt_of_lt_of_le z8 b6.size
  have b9 := b8.trans (b6.mono b8.size)
  have kr := refGetResultsO_any w6 _ _ ((sB.below b9 (Nat.le_refl _)).mono b9.size)
  rw [hpr] at kr
  have zX5 := Nat.lt_of_lt_of_le zX zP
  have z8' : P < w5.heap.size := z8
  clear sB hpr kg P8 b8
  go_wp2_with fail
  refine kr.mono ?_
  rintro e w7 ⟨vr, rfl, ho, b7⟩
  obtain ⟨l, hl1, hl2⟩ := ho.out
  try simp only at hl1
  obtain ⟨ra, rc, rfl⟩ := own_len hl2.own
  have oo7 := own_below oo b7
  have P7 := (b7.block _ z6).trans P6
  have z7 := Nat.lt_of_lt_of_le z6 b7.size
  have b10 := b9.trans (b7.mono b9.size)
  have kA := (Kept.refl P w7.heap.size w7).setCell 4 (.slice oa lo.length oc)
  have kB := kA.setCell 5 (.slice ra l.length rc)
  have PB := six_set5 (.slice ra l.length rc) (six_set4 (.slice oa lo.length oc) P7)
  have b11 := b10.trans (kB.below zP b10.size)
  have zB := Nat.lt_of_lt_of_le z7 kB.size
  have ooB := own_keptR oo7 z8 kB
  have olB := hl2.kept z6 kB
  have xB := (b11.block _ zX).trans PX
  have x7w := (b10.block _ zX).trans PX
  have hne : ¬ w.heap.size = P := by have := HP.out; omega
  clear kr ho oo b6 b7 b9 b10 oo7 hl2 P6 kA
  obtain ⟨m0, m1, m2, m3, m4, m5⟩ := six_cells P7
  have fP := fun i => box_frozen (i := i) P7
  have fB := fun i => box_frozen (i := i) PB
  obtain ⟨y0, y1, y2, y3, y4, y5⟩ := six_cells x7w
  have fX := fun i => box_frozen (i := i) x7w
  obtain ⟨x10, k10⟩ := six_store xB (.int .u8 0) (.int .u8 0) (.int .u8 0) (.int .u32 0) (.slice none 0 0) (.slice none 0 0)
  have b14 := (B1.trans (b11.mono B1.size)).trans (k10.below (Nat.le_refl _) (Nat.le_of_lt (Nat.lt_of_lt_of_le zX b11.size)))
  clear olB ooB hl1 P7 x7w
  go_wp2
  generalize (w7.setCell ⟨P, 4, none⟩ (.slice oa lo.length oc)).setCell ⟨P, 5, none⟩ (.slice ra l.length rc) = w9 at *
  generalize ((((((w9).setCell ⟨w.heap.size, 0, none⟩ (.int .u8 0)).setCell ⟨w.heap.size, 1, none⟩ (.int .u8 0)).setCell ⟨w.heap.size, 2, none⟩ (.int .u8 0)).setCell ⟨w.heap.size, 3, none⟩ (.int .u32 0)).setCell ⟨w.heap.size, 4, none⟩ (.slice none 0 0)).setCell ⟨w.heap.size, 5, none⟩ (.slice none 0 0) = w10 at *
  obtain ⟨t0, t1, t2, t3, t4, t5⟩ := six_cells x10
  refine bodyPost_ret (v := .tuple #[.agg #[.int .u8 0, .int .u8 0, .int .u8 0, .int .u32 0, .slice none 0 0, .slice none 0 0], .int .i64 4]) (by simp [results, Tryz.results18, go_sem, t0, t1, t2, t3, t4, t5]) rfl ⟨rfl, b14⟩
set_option maxHeartbeats 3000000 in
set_option maxRecDepth 1000000 in
theorem rGet_badR (w : World) (vb : Value) (bs : List UInt8) (hb : InAt w w.heap.size vb bs) (hl : ¬ bs.length < 11) (ho : numAt 7 bs ≤ bs.length - 11) (lo : List OpD) (lr : List (List RowD)) (hpo : getOps ((bs.drop 11).take (numAt 7 bs)) = (lo, 0)) (hpr : getRes ((bs.drop 11).drop (numAt 7 bs)) = (lr, 4)) :
    Calls Tryz.prog 18 #[vb] w fun e w' => e = .returned (.tuple #[.agg #[.int .u8 0, .int .u8 0, .int .u8 0, .int .u32 0, .slice none 0 0, .slice none 0 0], .int .i64 4]) ∧ Below w.heap.size w w' := by
  have hb0 := hb
  obtain ⟨ao, cap, rfl, h1, h2, hc⟩ := hb
  unfold maxLen at h2
  obtain ⟨b, off, rfl, hbl, hcell⟩ := hc (by omega)
  have i11 : ¬ (bs.length : Int) < 11 := by omega
  obtain ⟨w1, hw1⟩ : ∃ w1, w1 = w.alloc (.cells #[.int .u8 0, .int .u8 0, .int .u8 0, .int .u32 0, .slice none 0 0, .slice none 0 0] 27) := ⟨_, rfl⟩
  have B1 : Below w.heap.size w w1 := by rw [hw1]; exact below_one w _
  have C0 := hcell 0 (by omega) 0 _ rfl
  have C1 := hcell 1 (by omega) 0 _ rfl
  have C2 := hcell 2 (by omega) 0 _ rfl
  have C3 := hcell 3 (by omega) 0 _ rfl
  have C4 := hcell 4 (by omega) 0 _ rfl
  have C5 := hcell 5 (by omega) 0 _ rfl
  have C6 := hcell 6 (by omega) 0 _ rfl
  have C7 := hcell 7 (by omega) 0 _ rfl
  have C8 := hcell 8 (by omega) 0 _ rfl
  have C9 := hcell 9 (by omega) 0 _ rfl
  have C10 := hcell 10 (by omega) 0 _ rfl
  simp only [Nat.zero_mul, Nat.one_mul, Nat.add_zero, Nat.mul_one, bv] at C0 C1 C2 C3 C4 C5 C6 C7 C8 C9 C10
  obtain ⟨r0, r1, r2, r3⟩ := raw_head hl
  rw [← r0] at C0
  rw [← r1] at C1
  rw [← r2] at C2
  obtain ⟨x0, hx0⟩ : ∃ x, x = (rawM bs).say := ⟨_, rfl⟩
  obtain ⟨x1, hx1⟩ : ∃ x, x = (rawM bs).src := ⟨_, rfl⟩
  obtain ⟨x2, hx2⟩ : ∃ x, x = (rawM bs).dst := ⟨_, rfl⟩
  rw [← hx0] at C0
  rw [← hx1] at C1
  rw [← hx2] at C2
  have b3 := u8_lt (bs[3]'(by omega))
  obtain ⟨Y3, hy3⟩ : ∃ y : Int, y = ((bs[3]'(by omega)).toNat : Int) := ⟨_, rfl⟩
  rw [← hy3] at C3
  have l3 : 0 ≤ Y3 := by omega
  have u3 : Y3 < 256 := by omega
  have b4 := u8_lt (bs[4]'(by omega))
  obtain ⟨Y4, hy4⟩ : ∃ y : Int, y = ((bs[4]'(by omega)).toNat : Int) := ⟨_, rfl⟩
  rw [← hy4] at C4
  have l4 : 0 ≤ Y4 := by omega
  have u4 : Y4 < 256 := by omega
  have b5 := u8_lt (bs[5]'(by omega))
  obtain ⟨Y5, hy5⟩ : ∃ y : Int, y = ((bs[5]'(by omega)).toNat : Int) := ⟨_, rfl⟩
  rw [← hy5] at C5
  have l5 : 0 ≤ Y5 := by omega
  have u5 : Y5 < 256 := by omega
  have b6 := u8_lt (bs[6]'(by omega))
  obtain ⟨Y6, hy6⟩ : ∃ y : Int, y = ((bs[6]'(by omega)).toNat : Int) := ⟨_, rfl⟩
  rw [← hy6] at C6
  have l6 : 0 ≤ Y6 := by omega
  have u6 : Y6 < 256 := by omega
  have b7 := u8_lt (bs[7]'(by omega))
  obtain ⟨Y7, hy7⟩ : ∃ y : Int, y = ((bs[7]'(by omega)).toNat : Int) := ⟨_, rfl⟩
  rw [← hy7] at C7
  have l7 : 0 ≤ Y7 := by omega
  have u7 : Y7 < 256 := by omega
  have b8 := u8_lt (bs[8]'(by omega))
  obtain ⟨Y8, hy8⟩ : ∃ y : Int, y = ((bs[8]'(by omega)).toNat : Int) := ⟨_, rfl⟩
  rw [← hy8] at C8
  have l8 : 0 ≤ Y8 := by omega
  have u8 : Y8 < 256 := by omega
  have b9 := u8_lt (bs[9]'(by omega))
  obtain ⟨Y9, hy9⟩ : ∃ y : Int, y = ((bs[9]'(by omega)).toNat : Int) := ⟨_, rfl⟩
  rw [← hy9] at C9
  have l9 : 0 ≤ Y9 := by omega
  have u9 : Y9 < 256 := by omega
  have b10 := u8_lt (bs[10]'(by omega))
  obtain ⟨Y10, hy10⟩ : ∃ y : Int, y = ((bs[10]'(by omega)).toNat : Int) := ⟨_, rfl⟩
  rw [← hy10] at C10
  have l10 : 0 ≤ Y10 := by omega
  have u10 : Y10 < 256 := by omega
  have c0 : w1.cell? ⟨b, off, none⟩ = some (.int .u8 (x0.toNat : Int)) := (B1.cell hbl).trans C0
  have c1 : w1.cell? ⟨b, off + 1, none⟩ = some (.int .u8 (x1.toNat : Int)) := (B1.cell hbl).trans C1
  have c2 : w1.cell? ⟨b, off + 2, none⟩ = some (.int .u8 (x2.toNat : Int)) := (B1.cell hbl).trans C2
  have c3 : w1.cell? ⟨b, off + 3, none⟩ = some (.int .u8 Y3) := (B1.cell hbl).trans C3
  have c4 : w1.cell? ⟨b, off + 4, none⟩ = some (.int .u8 Y4) := (B1.cell hbl).trans C4
  have c5 : w1.cell? ⟨b, off + 5, none⟩ = some (.int .u8 Y5) := (B1.cell hbl).trans C5
  have c6 : w1.cell? ⟨b, off + 6, none⟩ = some (.int .u8 Y6) := (B1.cell hbl).trans C6
  have c7 : w1.cell? ⟨b, off + 7, none⟩ = some (.int .u8 Y7) := (B1.cell hbl).trans C7
  have c8 : w1.cell? ⟨b, off + 8, none⟩ = some (.int .u8 Y8) := (B1.cell hbl).trans C8
  have c9 : w1.cell? ⟨b, off + 9, none⟩ = some (.int .u8 Y9) := (B1.cell hbl).trans C9
  have c10 : w1.cell? ⟨b, off + 10, none⟩ = some (.int .u8 Y10) := (B1.cell hbl).trans C10
  have hb1 : InAt w1 w1.heap.size (.slice (some ⟨b, off, none⟩) bs.length cap) bs := (hb0.below B1 (Nat.le_refl _)).mono B1.size
  have hbl1 : b < w1.heap.size := Nat.lt_of_lt_of_le hbl B1.size
  have e7 := num_four hl 7 (by omega)
  have e3 := num_four hl 3 (by omega)
  simp only [Nat.reduceAdd] at e3 e7
  rw [← r3] at e3
  obtain ⟨g, hg⟩ : ∃ g, g = (rawM bs).g.toNat := ⟨_, rfl⟩
  obtain ⟨n, hn⟩ : ∃ n, n = numAt 7 bs := ⟨_, rfl⟩
  rw [← hg] at e3
  rw [← hn] at e7
  have s7 : Hid (16777216 * Y7 + 65536 * Y8 + 256 * Y9 + Y10 = (n : Int)) := by show _ = _; omega
  have s3 : Hid (16777216 * Y3 + 65536 * Y4 + 256 * Y5 + Y6 = (g : Int)) := by show _ = _; omega
  obtain ⟨A0, hA0⟩ : ∃ A : Int, A = 16777216 * Y7 := ⟨_, rfl⟩
  have p0 : Hid (IntKind.i64.wrap (16777216 * Y7) = A0) := by show _ = _; rw [IntKind.wrap_i64]; omega
  obtain ⟨A1, hA1⟩ : ∃ A : Int, A = 65536 * Y8 := ⟨_, rfl⟩
  have p1 : Hid (IntKind.i64.wrap (65536 * Y8) = A1) := by show _ = _; rw [IntKind.wrap_i64]; omega
  obtain ⟨A2, hA2⟩ : ∃ A : Int, A = 256 * Y9 := ⟨_, rfl⟩
  have p2 : Hid (IntKind.i64.wrap (256 * Y9) = A2) := by show _ = _; rw [IntKind.wrap_i64]; omega
  obtain ⟨S0, hS0⟩ : ∃ A : Int, A = A0 + A1 := ⟨_, rfl⟩
  have p3 : Hid (IntKind.i64.wrap (A0 + A1) = S0) := by show _ = _; rw [IntKind.wrap_i64]; omega
  obtain ⟨S1, hS1⟩ : ∃ A : Int, A = S0 + A2 := ⟨_, rfl⟩
  have p4 : Hid (IntKind.i64.wrap (S0 + A2) = S1) := by show _ = _; rw [IntKind.wrap_i64]; omega
  have p5 : Hid (IntKind.i64.wrap (S1 + Y10) = (n : Int)) := by show _ = _; have := s7.out; rw [IntKind.wrap_i64]; omega
  clear hA0 hA1 hA2 hS0 hS1
  obtain ⟨E0, hE0⟩ : ∃ A : Int, A = 16777216 * Y3 := ⟨_, rfl⟩
  have rr0 : Hid (IntKind.u32.wrap (16777216 * Y3) = E0) := by show _ = _; rw [IntKind.wrap_u32]; omega
  obtain ⟨E1, hE1⟩ : ∃ A : Int, A = 65536 * Y4 := ⟨_, rfl⟩
  have rr1 : Hid (IntKind.u32.wrap (65536 * Y4) = E1) := by show _ = _; rw [IntKind.wrap_u32]; omega
  obtain ⟨E2, hE2⟩ : ∃ A : Int, A = 256 * Y5 := ⟨_, rfl⟩
  have rr2 : Hid (IntKind.u32.wrap (256 * Y5) = E2) := by show _ = _; rw [IntKind.wrap_u32]; omega
  obtain ⟨G0, hG0⟩ : ∃ A : Int, A = E0 + E1 := ⟨_, rfl⟩
  have rr3 : Hid (IntKind.u32.wrap (E0 + E1) = G0) := by show _ = _; rw [IntKind.wrap_u32]; omega
  obtain ⟨G1, hG1⟩ : ∃ A : Int, A = G0 + E2 := ⟨_, rfl⟩
  have rr4 : Hid (IntKind.u32.wrap (G0 + E2) = G1) := by show _ = _; rw [IntKind.wrap_u32]; omega
  have rr5 : Hid (IntKind.u32.wrap (G1 + Y6) = (g : Int)) := by show _ = _; have := s3.out; rw [IntKind.wrap_u32]; omega
  clear hE0 hE1 hE2 hG0 hG1
  have nn : Hid (n < 4294967296) := by show _ < _; have := s7.out; omega
  have ng : Hid (g < 4294967296) := by show _ < _; have := s3.out; omega
  have q0 : (11 : Int) ≤ (bs.length : Int) := by omega
  have q1 : (11 : Int) ≤ (cap : Int) := by omega
  have q4 : ¬ bs.length = 0 := by omega
  have q101 : ¬ (bs.length : Int) ≤ 1 := by omega
  have q102 : ¬ (bs.length : Int) ≤ 2 := by omega
  have q103 : ¬ (bs.length : Int) ≤ 3 := by omega
  have q104 : ¬ (bs.length : Int) ≤ 4 := by omega
  have q105 : ¬ (bs.length : Int) ≤ 5 := by omega
  have q106 : ¬ (bs.length : Int) ≤ 6 := by omega
  have q107 : ¬ (bs.length : Int) ≤ 7 := by omega
  have q108 : ¬ (bs.length : Int) ≤ 8 := by omega
  have q109 : ¬ (bs.length : Int) ≤ 9 := by omega
  have q110 : ¬ (bs.length : Int) ≤ 10 := by omega
  have PX : w1.heap[w.heap.size]? = some (.cells #[.int .u8 0, .int .u8 0, .int .u8 0, .int .u32 0, .slice none 0 0, .slice none 0 0] 27 (0, 0)) := by rw [hw1]; exact heap_alloc_new w _
  have zX : w.heap.size < w1.heap.size := by rw [hw1]; simp
  rw [← hn] at ho hpo hpr
  clear hx0 hx1 hx2 hg hn
  clear C0 C1 C2 C3 C4 C5 C6 C7 C8 C9 C10 hcell hc hb0 r0 r1 r2 r3 hy3 hy4 hy5 hy6 hy7 hy8 hy9 hy10 e3 e7 b3 b4 b5 b6 b7 b8 b9 b10
  obtain ⟨L, hL⟩ : ∃ L, L = bs.length := ⟨_, rfl⟩
  have HL : Hid (L = bs.length) := hL
  rw [← hL] at ho hl h1 i11 q0 q4 q101 q102 q103 q104 q105 q106 q107 q108 q109 q110 ⊢
  clear hL
  subst hw1
  go_enter Tryz.func18, Tryz.ntmps18
  go_wp2_with fail
  generalize w.alloc (.cells #[.int .u8 0, .int .u8 0, .int .u8 0, .int .u32 0, .slice none 0 0, .slice none 0 0] 27) = w1 at *
  have b0 : Below w1.heap.size w1 w1.drew := ⟨rfl, rfl, rfl, Nat.le_refl _, fun _ _ => rfl⟩
  obtain ⟨R, hR⟩ : ∃ R, R = L - 11 := ⟨_, rfl⟩
  have hw : IntKind.i64.wrap ((L : Int) - 11) = (R : Int) := by rw [IntKind.wrap_i64]; omega
  refine wp_region_noPanic ?_
  refine wp_region_held_drew (S := fun W => Below w1.heap.size w1 W) (by kernel_rfl) b0 (fun hHeld => ?_)
  refine wpAnyH_take (i := 0) (oi := { dst := some 14, op := Go.Op.move (Go.Operand.tmp 0), type := 30, pos := _, after := #[], guard := none }) (v := .slice (some ⟨b, off, none⟩) L cap) rfl (by kernel_rfl) (by kernel_rfl) (by kernel_rfl) (fun _ _ _ h => h) (Or.inl ⟨by rfl, fun W hW => by go_simp⟩) (by assumption) ?_
  try simp only [Act.put, List.setIfInBounds_toArray, List.set_cons_zero, List.set_cons_succ]
  refine wpAnyH_take (i := 1) (oi := { dst := some 15, op := Go.Op.indexAddr 30 (Go.Operand.tmp 14) (Go.Operand.const (Go.Value.int Go.IntKind.i64 7)), type := 0, pos := _, after := #[{ on := 0, ground := Go.Ground.data }], guard := none }) (v := .pointer (some ⟨b, off + 7, none⟩)) rfl (by kernel_rfl) (by kernel_rfl) (by kernel_rfl) (fun _ _ _ h => h) (Or.inl ⟨by rfl, fun W hW => by go_simp⟩) (by assumption) ?_
  try simp only [Act.put, List.setIfInBounds_toArray, List.set_cons_zero, List.set_cons_succ]
  refine wpAnyH_take (i := 2) (oi := { dst := some 16, op := Go.Op.load 5 (Go.Operand.tmp 15), type := 5, pos := _, after := #[{ on := 1, ground := Go.Ground.data }], guard := none }) (v := .int .u8 Y7) rfl (by kernel_rfl) (by kernel_rfl) (by kernel_rfl) (fun _ _ _ h => h) (Or.inl ⟨by rfl, fun W hW => by have h1 := (hW.cell hbl1).trans c7; go_simp⟩) (by assumption) ?_
  try simp only [Act.put, List.setIfInBounds_toArray, List.set_cons_zero, List.set_cons_succ]
  refine wpAnyH_take (i := 3) (oi := { dst := some 17, op := Go.Op.convert 5 2 (Go.Operand.tmp 16), type := 2, pos := _, after := #[{ on := 2, ground := Go.Ground.data }], guard := none }) (v := .int .i64 Y7) rfl (by kernel_rfl) (by kernel_rfl) (by kernel_rfl) (fun _ _ _ h => h) (Or.inl ⟨by rfl, fun W hW => by have o0 := (show IntKind.i64.wrap Y7 = Y7 by rw [IntKind.wrap_i64]; omega); go_simp⟩) (by assumption) ?_
  try simp only [Act.put, List.setIfInBounds_toArray, List.set_cons_zero, List.set_cons_succ]
  refine wpAnyH_take (i := 4) (oi := { dst := some 18, op := Go.Op.binOp Go.BinOp.mul 2 (Go.Operand.const (Go.Value.int Go.IntKind.i64 16777216)) (Go.Operand.tmp 17) 2, type := 2, pos := _, after := #[{ on := 3, ground := Go.Ground.data }], guard := none }) (v := .int .i64 A0) rfl (by kernel_rfl) (by kernel_rfl) (by kernel_rfl) (fun _ _ _ h => h) (Or.inl ⟨by rfl, fun W hW => by have o0 := p0.out; go_simp⟩) (by assumption) ?_
  try simp only [Act.put, List.setIfInBounds_toArray, List.set_cons_zero, List.set_cons_succ]
  refine wpAnyH_take (i := 5) (oi := { dst := some 19, op := Go.Op.move (Go.Operand.tmp 0), type := 30, pos := _, after := #[], guard := none }) (v := .slice (some ⟨b, off, none⟩) L cap) rfl (by kernel_rfl) (by kernel_rfl) (by kernel_rfl) (fun _ _ _ h => h) (Or.inl ⟨by rfl, fun W hW => by go_simp⟩) (by assumption) ?_
  try simp only [Act.put, List.setIfInBounds_toArray, List.set_cons_zero, List.set_cons_succ]
  refine wpAnyH_take (i := 6) (oi := { dst := some 20, op := Go.Op.indexAddr 30 (Go.Operand.tmp 19) (Go.Operand.const (Go.Value.int Go.IntKind.i64 8)), type := 0, pos := _, after := #[{ on := 5, ground := Go.Ground.data }], guard := none }) (v := .pointer (some ⟨b, off + 8, none⟩)) rfl (by kernel_rfl) (by kernel_rfl) (by kernel_rfl) (fun _ _ _ h => h) (Or.inl ⟨by rfl, fun W hW => by go_simp⟩) (by assumption) ?_
  try simp only [Act.put, List.setIfInBounds_toArray, List.set_cons_zero, List.set_cons_succ]
  refine wpAnyH_take (i := 7) (oi := { dst := some 21, op := Go.Op.load 5 (Go.Operand.tmp 20), type := 5, pos := _, after := #[{ on := 6, ground := Go.Ground.data }], guard := none }) (v := .int .u8 Y8) rfl (by kernel_rfl) (by kernel_rfl) (by kernel_rfl) (fun _ _ _ h => h) (Or.inl ⟨by rfl, fun W hW => by have h1 := (hW.cell hbl1).trans c8; go_simp⟩) (by assumption) ?_
  try simp only [Act.put, List.setIfInBounds_toArray, List.set_cons_zero, List.set_cons_succ]
  refine wpAnyH_take (i := 8) (oi := { dst := some 22, op := Go.Op.convert 5 2 (Go.Operand.tmp 21), type := 2, pos := _, after := #[{ on := 7, ground := Go.Ground.data }], guard := none }) (v := .int .i64 Y8) rfl (by kernel_rfl) (by kernel_rfl) (by kernel_rfl) (fun _ _ _ h => h) (Or.inl ⟨by rfl, fun W hW => by have o0 := (show IntKind.i64.wrap Y8 = Y8 by rw [IntKind.wrap_i64]; omega); go_simp⟩) (by assumption) ?_
  try simp only [Act.put, List.setIfInBounds_toArray, List.set_cons_zero, List.set_cons_succ]
  refine wpAnyH_take (i := 9) (oi := { dst := some 23, op := Go.Op.binOp Go.BinOp.mul 2 (Go.Operand.const (Go.Value.int Go.IntKind.i64 65536)) (Go.Operand.tmp 22) 2, type := 2, pos := _, after := #[{ on := 8, ground := Go.Ground.data }], guard := none }) (v := .int .i64 A1) rfl (by kernel_rfl) (by kernel_rfl) (by kernel_rfl) (fun _ _ _ h => h) (Or.inl ⟨by rfl, fun W hW => by have o0 := p1.out; go_simp⟩) (by assumption) ?_
  try simp only [Act.put, List.setIfInBounds_toArray, List.set_cons_zero, List.set_cons_succ]
  refine wpAnyH_take (i := 10) (oi := { dst := some 24, op := Go.Op.binOp Go.BinOp.add 2 (Go.Operand.tmp 18) (Go.Operand.tmp 23) 2, type := 2, pos := _, after := #[{ on := 4, ground := Go.Ground.data }, { on := 9, ground := Go.Ground.data }], guard := none }) (v := .int .i64 S0) rfl (by kernel_rfl) (by kernel_rfl) (by kernel_rfl) (fun _ _ _ h => h) (Or.inl ⟨by rfl, fun W hW => by have o0 := p3.out; go_simp⟩) (by assumption) ?_
  try simp only [Act.put, List.setIfInBounds_toArray, List.set_cons_zero, List.set_cons_succ]
  refine wpAnyH_take (i := 11) (oi := { dst := some 25, op := Go.Op.move (Go.Operand.tmp 0), type := 30, pos := _, after := #[], guard := none }) (v := .slice (some ⟨b, off, none⟩) L cap) rfl (by kernel_rfl) (by kernel_rfl) (by kernel_rfl) (fun _ _ _ h => h) (Or.inl ⟨by rfl, fun W hW => by go_simp⟩) (by assumption) ?_
  try simp only [Act.put, List.setIfInBounds_toArray, List.set_cons_zero, List.set_cons_succ]
  refine wpAnyH_take (i := 12) (oi := { dst := some 26, op := Go.Op.indexAddr 30 (Go.Operand.tmp 25) (Go.Operand.const (Go.Value.int Go.IntKind.i64 9)), type := 0, pos := _, after := #[{ on := 11, ground := Go.Ground.data }], guard := none }) (v := .pointer (some ⟨b, off + 9, none⟩)) rfl (by kernel_rfl) (by kernel_rfl) (by kernel_rfl) (fun _ _ _ h => h) (Or.inl ⟨by rfl, fun W hW => by go_simp⟩) (by assumption) ?_
  try simp only [Act.put, List.setIfInBounds_toArray, List.set_cons_zero, List.set_cons_succ]
  refine wpAnyH_take (i := 13) (oi := { dst := some 27, op := Go.Op.load 5 (Go.Operand.tmp 26), type := 5, pos := _, after := #[{ on := 12, ground := Go.Ground.data }], guard := none }) (v := .int .u8 Y9) rfl (by kernel_rfl) (by kernel_rfl) (by kernel_rfl) (fun _ _ _ h => h) (Or.inl ⟨by rfl, fun W hW => by have h1 := (hW.cell hbl1).trans c9; go_simp⟩) (by assumption) ?_
  try simp only [Act.put, List.setIfInBounds_toArray, List.set_cons_zero, List.set_cons_succ]
  refine wpAnyH_take (i := 14) (oi := { dst := some 28, op := Go.Op.convert 5 2 (Go.Operand.tmp 27), type := 2, pos := _, after := #[{ on := 13, ground := Go.Ground.data }], guard := none }) (v := .int .i64 Y9) rfl (by kernel_rfl) (by kernel_rfl) (by kernel_rfl) (fun _ _ _ h => h) (Or.inl ⟨by rfl, fun W hW => by have o0 := (show IntKind.i64.wrap Y9 = Y9 by rw [IntKind.wrap_i64]; omega); go_simp⟩) (by assumption) ?_
  try simp only [Act.put, List.setIfInBounds_toArray, List.set_cons_zero, List.set_cons_succ]
  refine wpAnyH_take (i := 15) (oi := { dst := some 29, op := Go.Op.binOp Go.BinOp.mul 2 (Go.Operand.const (Go.Value.int Go.IntKind.i64 256)) (Go.Operand.tmp 28) 2, type := 2, pos := _, after := #[{ on := 14, ground := Go.Ground.data }], guard := none }) (v := .int .i64 A2) rfl (by kernel_rfl) (by kernel_rfl) (by kernel_rfl) (fun _ _ _ h => h) (Or.inl ⟨by rfl, fun W hW => by have o0 := p2.out; go_simp⟩) (by assumption) ?_
  try simp only [Act.put, List.setIfInBounds_toArray, List.set_cons_zero, List.set_cons_succ]
  refine wpAnyH_take (i := 16) (oi := { dst := some 30, op := Go.Op.binOp Go.BinOp.add 2 (Go.Operand.tmp 24) (Go.Operand.tmp 29) 2, type := 2, pos := _, after := #[{ on := 10, ground := Go.Ground.data }, { on := 15, ground := Go.Ground.data }], guard := none }) (v := .int .i64 S1) rfl (by kernel_rfl) (by kernel_rfl) (by kernel_rfl) (fun _ _ _ h => h) (Or.inl ⟨by rfl, fun W hW => by have o0 := p4.out; go_simp⟩) (by assumption) ?_
  try simp only [Act.put, List.setIfInBounds_toArray, List.set_cons_zero, List.set_cons_succ]
  refine wpAnyH_take (i := 17) (oi := { dst := some 31, op := Go.Op.move (Go.Operand.tmp 0), type := 30, pos := _, after := #[], guard := none }) (v := .slice (some ⟨b, off, none⟩) L cap) rfl (by kernel_rfl) (by kernel_rfl) (by kernel_rfl) (fun _ _ _ h => h) (Or.inl ⟨by rfl, fun W hW => by go_simp⟩) (by assumption) ?_
  try simp only [Act.put, List.setIfInBounds_toArray, List.set_cons_zero, List.set_cons_succ]
  refine wpAnyH_take (i := 18) (oi := { dst := some 32, op := Go.Op.indexAddr 30 (Go.Operand.tmp 31) (Go.Operand.const (Go.Value.int Go.IntKind.i64 10)), type := 0, pos := _, after := #[{ on := 17, ground := Go.Ground.data }], guard := none }) (v := .pointer (some ⟨b, off + 10, none⟩)) rfl (by kernel_rfl) (by kernel_rfl) (by kernel_rfl) (fun _ _ _ h => h) (Or.inl ⟨by rfl, fun W hW => by go_simp⟩) (by assumption) ?_
  try simp only [Act.put, List.setIfInBounds_toArray, List.set_cons_zero, List.set_cons_succ]
  refine wpAnyH_take (i := 19) (oi := { dst := some 33, op := Go.Op.load 5 (Go.Operand.tmp 32), type := 5, pos := _, after := #[{ on := 18, ground := Go.Ground.data }], guard := none }) (v := .int .u8 Y10) rfl (by kernel_rfl) (by kernel_rfl) (by kernel_rfl) (fun _ _ _ h => h) (Or.inl ⟨by rfl, fun W hW => by have h1 := (hW.cell hbl1).trans c10; go_simp⟩) (by assumption) ?_
  try simp only [Act.put, List.setIfInBounds_toArray, List.set_cons_zero, List.set_cons_succ]
  refine wpAnyH_take (i := 20) (oi := { dst := some 34, op := Go.Op.convert 5 2 (Go.Operand.tmp 33), type := 2, pos := _, after := #[{ on := 19, ground := Go.Ground.data }], guard := none }) (v := .int .i64 Y10) rfl (by kernel_rfl) (by kernel_rfl) (by kernel_rfl) (fun _ _ _ h => h) (Or.inl ⟨by rfl, fun W hW => by have o0 := (show IntKind.i64.wrap Y10 = Y10 by rw [IntKind.wrap_i64]; omega); go_simp⟩) (by assumption) ?_
  try simp only [Act.put, List.setIfInBounds_toArray, List.set_cons_zero, List.set_cons_succ]
  refine wpAnyH_take (i := 21) (oi := { dst := some 35, op := Go.Op.binOp Go.BinOp.add 2 (Go.Operand.tmp 30) (Go.Operand.tmp 34) 2, type := 2, pos := _, after := #[{ on := 16, ground := Go.Ground.data }, { on := 20, ground := Go.Ground.data }], guard := none }) (v := .int .i64 (n : Int)) rfl (by kernel_rfl) (by kernel_rfl) (by kernel_rfl) (fun _ _ _ h => h) (Or.inl ⟨by rfl, fun W hW => by have o0 := p5.out; go_simp⟩) (by assumption) ?_
  try simp only [Act.put, List.setIfInBounds_toArray, List.set_cons_zero, List.set_cons_succ]
  refine wpAnyH_take (i := 22) (oi := { dst := some 4, op := Go.Op.assign (Go.Operand.tmp 35), type := 2, pos := _, after := #[{ on := 21, ground := Go.Ground.data }, { on := 0, ground := Go.Ground.phase }, { on := 1, ground := Go.Ground.phase }, { on := 2, ground := Go.Ground.phase }, { on := 3, ground := Go.Ground.phase }, { on := 4, ground := Go.Ground.phase }, { on := 5, ground := Go.Ground.phase }, { on := 6, ground := Go.Ground.phase }, { on := 7, ground := Go.Ground.phase }, { on := 8, ground := Go.Ground.phase }, { on := 9, ground := Go.Ground.phase }, { on := 10, ground := Go.Ground.phase }, { on := 11, ground := Go.Ground.phase }, { on := 12, ground := Go.Ground.phase }, { on := 13, ground := Go.Ground.phase }, { on := 14, ground := Go.Ground.phase }, { on := 15, ground := Go.Ground.phase }, { on := 16, ground := Go.Ground.phase }, { on := 17, ground := Go.Ground.phase }, { on := 18, ground := Go.Ground.phase }, { on := 19, ground := Go.Ground.phase }, { on := 20, ground := Go.Ground.phase }, { on := 21, ground := Go.Ground.phase }], guard := none }) (v := .int .i64 (n : Int)) rfl (by kernel_rfl) (by kernel_rfl) (by kernel_rfl) (fun _ _ _ h => h) (Or.inl ⟨by rfl, fun W hW => by go_simp⟩) (by assumption) ?_
  try simp only [Act.put, List.setIfInBounds_toArray, List.set_cons_zero, List.set_cons_succ]
  refine wpAnyH_done (by kernel_rfl) ?_ _
  refine NoPanic.normal ?_
  clear hHeld
  have v1 : (n : Int) ≤ (R : Int) := by omega
  have v2 : ¬ (R : Int) < (n : Int) := by omega
  have b3 : Below w1.heap.size w1 w1.drew := b0
  have z3 : w1.heap.size ≤ w1.drew.heap.size := Nat.le_refl _
  have e3 : w1.drew.heap.size = w1.heap.size := rfl
  clear b0
  generalize w1.drew = w3 at *
  go_wp2_with fail
  have b4 : Below w1.heap.size w1 w3.drew := b3.drew
  refine wp_region_noPanic ?_
  refine wp_region_held_drew (S := fun W => Below w1.heap.size w1 W) (by kernel_rfl) b4 (fun hHeld => ?_)
  refine wpAnyH_take (i := 0) (oi := { dst := some 42, op := Go.Op.move (Go.Operand.tmp 0), type := 30, pos := _, after := #[], guard := none }) (v := .slice (some ⟨b, off, none⟩) L cap) rfl (by kernel_rfl) (by kernel_rfl) (by kernel_rfl) (fun _ _ _ h => h) (Or.inl ⟨by rfl, fun W hW => by go_simp⟩) (by assumption) ?_
  try simp only [Act.put, List.setIfInBounds_toArray, List.set_cons_zero, List.set_cons_succ]
  refine wpAnyH_take (i := 1) (oi := { dst := some 43, op := Go.Op.indexAddr 30 (Go.Operand.tmp 42) (Go.Operand.const (Go.Value.int Go.IntKind.i64 0)), type := 0, pos := _, after := #[{ on := 0, ground := Go.Ground.data }], guard := none }) (v := .pointer (some ⟨b, off, none⟩)) rfl (by kernel_rfl) (by kernel_rfl) (by kernel_rfl) (fun _ _ _ h => h) (Or.inl ⟨by rfl, fun W hW => by go_simp⟩) (by assumption) ?_
  try simp only [Act.put, List.setIfInBounds_toArray, List.set_cons_zero, List.set_cons_succ]
  refine wpAnyH_take (i := 2) (oi := { dst := some 44, op := Go.Op.load 5 (Go.Operand.tmp 43), type := 5, pos := _, after := #[{ on := 1, ground := Go.Ground.data }], guard := none }) (v := .int .u8 (x0.toNat : Int)) rfl (by kernel_rfl) (by kernel_rfl) (by kernel_rfl) (fun _ _ _ h => h) (Or.inl ⟨by rfl, fun W hW => by have h1 := (hW.cell hbl1).trans c0; go_simp⟩) (by assumption) ?_
  try simp only [Act.put, List.setIfInBounds_toArray, List.set_cons_zero, List.set_cons_succ]
  refine wpAnyH_take (i := 3) (oi := { dst := some 45, op := Go.Op.move (Go.Operand.tmp 0), type := 30, pos := _, after := #[], guard := none }) (v := .slice (some ⟨b, off, none⟩) L cap) rfl (by kernel_rfl) (by kernel_rfl) (by kernel_rfl) (fun _ _ _ h => h) (Or.inl ⟨by rfl, fun W hW => by go_simp⟩) (by assumption) ?_
  try simp only [Act.put, List.setIfInBounds_toArray, List.set_cons_zero, List.set_cons_succ]
  refine wpAnyH_take (i := 4) (oi := { dst := some 46, op := Go.Op.indexAddr 30 (Go.Operand.tmp 45) (Go.Operand.const (Go.Value.int Go.IntKind.i64 1)), type := 0, pos := _, after := #[{ on := 3, ground := Go.Ground.data }], guard := none }) (v := .pointer (some ⟨b, off + 1, none⟩)) rfl (by kernel_rfl) (by kernel_rfl) (by kernel_rfl) (fun _ _ _ h => h) (Or.inl ⟨by rfl, fun W hW => by go_simp⟩) (by assumption) ?_
  try simp only [Act.put, List.setIfInBounds_toArray, List.set_cons_zero, List.set_cons_succ]
  refine wpAnyH_take (i := 5) (oi := { dst := some 47, op := Go.Op.load 5 (Go.Operand.tmp 46), type := 5, pos := _, after := #[{ on := 4, ground := Go.Ground.data }], guard := none }) (v := .int .u8 (x1.toNat : Int)) rfl (by kernel_rfl) (by kernel_rfl) (by kernel_rfl) (fun _ _ _ h => h) (Or.inl ⟨by rfl, fun W hW => by have h1 := (hW.cell hbl1).trans c1; go_simp⟩) (by assumption) ?_
  try simp only [Act.put, List.setIfInBounds_toArray, List.set_cons_zero, List.set_cons_succ]
  refine wpAnyH_take (i := 6) (oi := { dst := some 48, op := Go.Op.move (Go.Operand.tmp 0), type := 30, pos := _, after := #[], guard := none }) (v := .slice (some ⟨b, off, none⟩) L cap) rfl (by kernel_rfl) (by kernel_rfl) (by kernel_rfl) (fun _ _ _ h => h) (Or.inl ⟨by rfl, fun W hW => by go_simp⟩) (by assumption) ?_
  try simp only [Act.put, List.setIfInBounds_toArray, List.set_cons_zero, List.set_cons_succ]
  refine wpAnyH_take (i := 7) (oi := { dst := some 49, op := Go.Op.indexAddr 30 (Go.Operand.tmp 48) (Go.Operand.const (Go.Value.int Go.IntKind.i64 2)), type := 0, pos := _, after := #[{ on := 6, ground := Go.Ground.data }], guard := none }) (v := .pointer (some ⟨b, off + 2, none⟩)) rfl (by kernel_rfl) (by kernel_rfl) (by kernel_rfl) (fun _ _ _ h => h) (Or.inl ⟨by rfl, fun W hW => by go_simp⟩) (by assumption) ?_
  try simp only [Act.put, List.setIfInBounds_toArray, List.set_cons_zero, List.set_cons_succ]
  refine wpAnyH_take (i := 8) (oi := { dst := some 50, op := Go.Op.load 5 (Go.Operand.tmp 49), type := 5, pos := _, after := #[{ on := 7, ground := Go.Ground.data }], guard := none }) (v := .int .u8 (x2.toNat : Int)) rfl (by kernel_rfl) (by kernel_rfl) (by kernel_rfl) (fun _ _ _ h => h) (Or.inl ⟨by rfl, fun W hW => by have h1 := (hW.cell hbl1).trans c2; go_simp⟩) (by assumption) ?_
  try simp only [Act.put, List.setIfInBounds_toArray, List.set_cons_zero, List.set_cons_succ]
  refine wpAnyH_take (i := 9) (oi := { dst := some 51, op := Go.Op.build 27 #[(0, Go.Operand.tmp 44), (1, Go.Operand.tmp 47), (2, Go.Operand.tmp 50)], type := 27, pos := _, after := #[{ on := 2, ground := Go.Ground.data }, { on := 5, ground := Go.Ground.data }, { on := 8, ground := Go.Ground.data }], guard := none }) (v := .agg #[.int .u8 (x0.toNat : Int), .int .u8 (x1.toNat : Int), .int .u8 (x2.toNat : Int), .int .u32 0, .slice none 0 0, .slice none 0 0]) rfl (by kernel_rfl) (by kernel_rfl) (by kernel_rfl) (fun _ _ _ h => h) (Or.inl ⟨by rfl, fun W hW => by go_simp⟩) (by assumption) ?_
  try simp only [Act.put, List.setIfInBounds_toArray, List.set_cons_zero, List.set_cons_succ]
  refine wpAnyH_ready (rs := [10]) (by kernel_rfl) (by simp) ?_
  refine AllReadyH.cons (o := { dst := some 5, op := Go.Op.alloc 27, type := 0, pos := _, after := #[], guard := none }) rfl (fun K hK => ?_) AllReadyH.nil
  go_simp
  have b5 : Below w1.heap.size w1 (w3.alloc (.cells #[.int .u8 0, .int .u8 0, .int .u8 0, .int .u32 0, .slice none 0 0, .slice none 0 0] 27)).drew := (b3.alloc z3 (.cells #[.int .u8 0, .int .u8 0, .int .u8 0, .int .u32 0, .slice none 0 0, .slice none 0 0] 27)).drew
  have b5' : Below w1.heap.size w1 (w3.drew.alloc (.cells #[.int .u8 0, .int .u8 0, .int .u8 0, .int .u32 0, .slice none 0 0, .slice none 0 0] 27)) := b3.drew.alloc z3 (.cells #[.int .u8 0, .int .u8 0, .int .u8 0, .int .u32 0, .slice none 0 0, .slice none 0 0] 27)
  refine hK.out _ _ (by first | exact b5 | exact b5') (fun hHeld => ?_)
  clear hK K
  try simp only [Act.put, List.setIfInBounds_toArray, List.set_cons_zero, List.set_cons_succ]
  refine wpAnyH_ready (rs := [11]) (by kernel_rfl) (by simp) ?_
  refine AllReadyH.cons (o := { dst := none, op := Go.Op.store 27 (Go.Operand.tmp 5) (Go.Operand.tmp 51), type := 0, pos := _, after := #[{ on := 10, ground := Go.Ground.data }, { on := 9, ground := Go.Ground.data }, { on := 0, ground := Go.Ground.phase }, { on := 1, ground := Go.Ground.phase }, { on := 2, ground := Go.Ground.phase }, { on := 3, ground := Go.Ground.phase }, { on := 4, ground := Go.Ground.phase }, { on := 5, ground := Go.Ground.phase }, { on := 6, ground := Go.Ground.phase }, { on := 7, ground := Go.Ground.phase }, { on := 8, ground := Go.Ground.phase }, { on := 9, ground := Go.Ground.phase }, { on := 10, ground := Go.Ground.phase }], guard := none }) rfl (fun K hK => ?_) AllReadyH.nil
  go_simp
  have b6 : Below w1.heap.size w1 (w3.alloc (.cells #[.int .u8 (x0.toNat : Int), .int .u8 (x1.toNat : Int), .int .u8 (x2.toNat : Int), .int .u32 0, .slice none 0 0, .slice none 0 0] 27)).drew := (b3.alloc z3 (.cells #[.int .u8 (x0.toNat : Int), .int .u8 (x1.toNat : Int), .int .u8 (x2.toNat : Int), .int .u32 0, .slice none 0 0, .slice none 0 0] 27)).drew
  refine hK.out _ _ b6 (fun hHeld => ?_)
  clear hK K
  try simp only [Act.put, List.setIfInBounds_toArray, List.set_cons_zero, List.set_cons_succ]
  refine wpAnyH_done (by kernel_rfl) ?_ _
  refine NoPanic.normal ?_
  clear hHeld b4
  have P4 : (w3.alloc (.cells #[.int .u8 (x0.toNat : Int), .int .u8 (x1.toNat : Int), .int .u8 (x2.toNat : Int), .int .u32 0, .slice none 0 0, .slice none 0 0] 27)).drew.heap[w1.heap.size]? = some (.cells #[.int .u8 (x0.toNat : Int), .int .u8 (x1.toNat : Int), .int .u8 (x2.toNat : Int), .int .u32 0, .slice none 0 0, .slice none 0 0] 27 (0, 0)) := by rw [← e3]; exact heap_alloc_new w3 _
  have b4 : Below w1.heap.size w1 (w3.alloc (.cells #[.int .u8 (x0.toNat : Int), .int .u8 (x1.toNat : Int), .int .u8 (x2.toNat : Int), .int .u32 0, .slice none 0 0, .slice none 0 0] 27)).drew := (b3.alloc z3 (.cells #[.int .u8 (x0.toNat : Int), .int .u8 (x1.toNat : Int), .int .u8 (x2.toNat : Int), .int .u32 0, .slice none 0 0, .slice none 0 0] 27)).drew
  have z4 : w1.heap.size < (w3.alloc (.cells #[.int .u8 (x0.toNat : Int), .int .u8 (x1.toNat : Int), .int .u8 (x2.toNat : Int), .int .u32 0, .slice none 0 0, .slice none 0 0] 27)).drew.heap.size := by show _ < (w3.alloc _).heap.size; simp; omega
  generalize (w3.alloc (.cells #[.int .u8 (x0.toNat : Int), .int .u8 (x1.toNat : Int), .int .u8 (x2.toNat : Int), .int .u32 0, .slice none 0 0, .slice none 0 0] 27)).drew = w4 at *
  try rw [e3]
  obtain ⟨P, hP⟩ : ∃ P, P = w1.heap.size := ⟨_, rfl⟩
  rw [← hP] at P4 z4 ⊢
  have k8 := (Kept.refl P w4.heap.size w4).setCell 3 (.int .u32 (g : Int))
  have b8 : Below w1.heap.size w1 (w4.setCell ⟨P, 3, none⟩ (.int .u32 (g : Int))).drew := (b4.trans (k8.below (by omega) (by omega))).drew
  have P8 := six_set3 (.int .u32 (g : Int)) P4
  have z8 : P < (w4.setCell ⟨P, 3, none⟩ (.int .u32 (g : Int))).drew.heap.size := Nat.lt_of_lt_of_le z4 k8.size
  obtain ⟨m0, m1, m2, m3, m4, m5⟩ := six_cells P4
  have fP := fun i => box_frozen (i := i) P4
  have HP : Hid (P = w1.heap.size) := hP
  clear b3 z3 e3 P4 z4 hP
  go_wp2_with fail
  have b5 : Below w1.heap.size w1 w4.drew := b4.drew
  refine wp_region_noPanic ?_
  refine wp_region_held_drew (S := fun W => Below w1.heap.size w1 W) (by kernel_rfl) b5 (fun hHeld => ?_)
  refine wpAnyH_take (i := 0) (oi := { dst := some 52, op := Go.Op.move (Go.Operand.tmp 0), type := 30, pos := _, after := #[], guard := none }) (v := .slice (some ⟨b, off, none⟩) L cap) rfl (by kernel_rfl) (by kernel_rfl) (by kernel_rfl) (fun _ _ _ h => h) (Or.inl ⟨by rfl, fun W hW => by go_simp⟩) (by assumption) ?_
  try simp only [Act.put, List.setIfInBounds_toArray, List.set_cons_zero, List.set_cons_succ]
  refine wpAnyH_take (i := 1) (oi := { dst := some 53, op := Go.Op.indexAddr 30 (Go.Operand.tmp 52) (Go.Operand.const (Go.Value.int Go.IntKind.i64 3)), type := 0, pos := _, after := #[{ on := 0, ground := Go.Ground.data }], guard := none }) (v := .pointer (some ⟨b, off + 3, none⟩)) rfl (by kernel_rfl) (by kernel_rfl) (by kernel_rfl) (fun _ _ _ h => h) (Or.inl ⟨by rfl, fun W hW => by go_simp⟩) (by assumption) ?_
  try simp only [Act.put, List.setIfInBounds_toArray, List.set_cons_zero, List.set_cons_succ]
  refine wpAnyH_take (i := 2) (oi := { dst := some 54, op := Go.Op.load 5 (Go.Operand.tmp 53), type := 5, pos := _, after := #[{ on := 1, ground := Go.Ground.data }], guard := none }) (v := .int .u8 Y3) rfl (by kernel_rfl) (by kernel_rfl) (by kernel_rfl) (fun _ _ _ h => h) (Or.inl ⟨by rfl, fun W hW => by have h1 := (hW.cell hbl1).trans c3; go_simp⟩) (by assumption) ?_
  try simp only [Act.put, List.setIfInBounds_toArray, List.set_cons_zero, List.set_cons_succ]
  refine wpAnyH_take (i := 3) (oi := { dst := some 55, op := Go.Op.convert 5 23 (Go.Operand.tmp 54), type := 23, pos := _, after := #[{ on := 2, ground := Go.Ground.data }], guard := none }) (v := .int .u32 Y3) rfl (by kernel_rfl) (by kernel_rfl) (by kernel_rfl) (fun _ _ _ h => h) (Or.inl ⟨by rfl, fun W hW => by have o0 := (show IntKind.u32.wrap Y3 = Y3 by rw [IntKind.wrap_u32]; omega); go_simp⟩) (by assumption) ?_
  try simp only [Act.put, List.setIfInBounds_toArray, List.set_cons_zero, List.set_cons_succ]
  refine wpAnyH_take (i := 4) (oi := { dst := some 56, op := Go.Op.binOp Go.BinOp.mul 23 (Go.Operand.const (Go.Value.int Go.IntKind.u32 16777216)) (Go.Operand.tmp 55) 23, type := 23, pos := _, after := #[{ on := 3, ground := Go.Ground.data }], guard := none }) (v := .int .u32 E0) rfl (by kernel_rfl) (by kernel_rfl) (by kernel_rfl) (fun _ _ _ h => h) (Or.inl ⟨by rfl, fun W hW => by have o0 := rr0.out; go_simp⟩) (by assumption) ?_
  try simp only [Act.put, List.setIfInBounds_toArray, List.set_cons_zero, List.set_cons_succ]
  refine wpAnyH_take (i := 5) (oi := { dst := some 57, op := Go.Op.move (Go.Operand.tmp 0), type := 30, pos := _, after := #[], guard := none }) (v := .slice (some ⟨b, off, none⟩) L cap) rfl (by kernel_rfl) (by kernel_rfl) (by kernel_rfl) (fun _ _ _ h => h) (Or.inl ⟨by rfl, fun W hW => by go_simp⟩) (by assumption) ?_
  try simp only [Act.put, List.setIfInBounds_toArray, List.set_cons_zero, List.set_cons_succ]
  refine wpAnyH_take (i := 6) (oi := { dst := some 58, op := Go.Op.indexAddr 30 (Go.Operand.tmp 57) (Go.Operand.const (Go.Value.int Go.IntKind.i64 4)), type := 0, pos := _, after := #[{ on := 5, ground := Go.Ground.data }], guard := none }) (v := .pointer (some ⟨b, off + 4, none⟩)) rfl (by kernel_rfl) (by kernel_rfl) (by kernel_rfl) (fun _ _ _ h => h) (Or.inl ⟨by rfl, fun W hW => by go_simp⟩) (by assumption) ?_
  try simp only [Act.put, List.setIfInBounds_toArray, List.set_cons_zero, List.set_cons_succ]
  refine wpAnyH_take (i := 7) (oi := { dst := some 59, op := Go.Op.load 5 (Go.Operand.tmp 58), type := 5, pos := _, after := #[{ on := 6, ground := Go.Ground.data }], guard := none }) (v := .int .u8 Y4) rfl (by kernel_rfl) (by kernel_rfl) (by kernel_rfl) (fun _ _ _ h => h) (Or.inl ⟨by rfl, fun W hW => by have h1 := (hW.cell hbl1).trans c4; go_simp⟩) (by assumption) ?_
  try simp only [Act.put, List.setIfInBounds_toArray, List.set_cons_zero, List.set_cons_succ]
  refine wpAnyH_take (i := 8) (oi := { dst := some 60, op := Go.Op.convert 5 23 (Go.Operand.tmp 59), type := 23, pos := _, after := #[{ on := 7, ground := Go.Ground.data }], guard := none }) (v := .int .u32 Y4) rfl (by kernel_rfl) (by kernel_rfl) (by kernel_rfl) (fun _ _ _ h => h) (Or.inl ⟨by rfl, fun W hW => by have o0 := (show IntKind.u32.wrap Y4 = Y4 by rw [IntKind.wrap_u32]; omega); go_simp⟩) (by assumption) ?_
  try simp only [Act.put, List.setIfInBounds_toArray, List.set_cons_zero, List.set_cons_succ]
  refine wpAnyH_take (i := 9) (oi := { dst := some 61, op := Go.Op.binOp Go.BinOp.mul 23 (Go.Operand.const (Go.Value.int Go.IntKind.u32 65536)) (Go.Operand.tmp 60) 23, type := 23, pos := _, after := #[{ on := 8, ground := Go.Ground.data }], guard := none }) (v := .int .u32 E1) rfl (by kernel_rfl) (by kernel_rfl) (by kernel_rfl) (fun _ _ _ h => h) (Or.inl ⟨by rfl, fun W hW => by have o0 := rr1.out; go_simp⟩) (by assumption) ?_
  try simp only [Act.put, List.setIfInBounds_toArray, List.set_cons_zero, List.set_cons_succ]
  refine wpAnyH_take (i := 10) (oi := { dst := some 62, op := Go.Op.binOp Go.BinOp.add 23 (Go.Operand.tmp 56) (Go.Operand.tmp 61) 23, type := 23, pos := _, after := #[{ on := 4, ground := Go.Ground.data }, { on := 9, ground := Go.Ground.data }], guard := none }) (v := .int .u32 G0) rfl (by kernel_rfl) (by kernel_rfl) (by kernel_rfl) (fun _ _ _ h => h) (Or.inl ⟨by rfl, fun W hW => by have o0 := rr3.out; go_simp⟩) (by assumption) ?_
  try simp only [Act.put, List.setIfInBounds_toArray, List.set_cons_zero, List.set_cons_succ]
  refine wpAnyH_take (i := 11) (oi := { dst := some 63, op := Go.Op.move (Go.Operand.tmp 0), type := 30, pos := _, after := #[], guard := none }) (v := .slice (some ⟨b, off, none⟩) L cap) rfl (by kernel_rfl) (by kernel_rfl) (by kernel_rfl) (fun _ _ _ h => h) (Or.inl ⟨by rfl, fun W hW => by go_simp⟩) (by assumption) ?_
  try simp only [Act.put, List.setIfInBounds_toArray, List.set_cons_zero, List.set_cons_succ]
  refine wpAnyH_take (i := 12) (oi := { dst := some 64, op := Go.Op.indexAddr 30 (Go.Operand.tmp 63) (Go.Operand.const (Go.Value.int Go.IntKind.i64 5)), type := 0, pos := _, after := #[{ on := 11, ground := Go.Ground.data }], guard := none }) (v := .pointer (some ⟨b, off + 5, none⟩)) rfl (by kernel_rfl) (by kernel_rfl) (by kernel_rfl) (fun _ _ _ h => h) (Or.inl ⟨by rfl, fun W hW => by go_simp⟩) (by assumption) ?_
  try simp only [Act.put, List.setIfInBounds_toArray, List.set_cons_zero, List.set_cons_succ]
  refine wpAnyH_take (i := 13) (oi := { dst := some 65, op := Go.Op.load 5 (Go.Operand.tmp 64), type := 5, pos := _, after := #[{ on := 12, ground := Go.Ground.data }], guard := none }) (v := .int .u8 Y5) rfl (by kernel_rfl) (by kernel_rfl) (by kernel_rfl) (fun _ _ _ h => h) (Or.inl ⟨by rfl, fun W hW => by have h1 := (hW.cell hbl1).trans c5; go_simp⟩) (by assumption) ?_
  try simp only [Act.put, List.setIfInBounds_toArray, List.set_cons_zero, List.set_cons_succ]
  refine wpAnyH_take (i := 14) (oi := { dst := some 66, op := Go.Op.convert 5 23 (Go.Operand.tmp 65), type := 23, pos := _, after := #[{ on := 13, ground := Go.Ground.data }], guard := none }) (v := .int .u32 Y5) rfl (by kernel_rfl) (by kernel_rfl) (by kernel_rfl) (fun _ _ _ h => h) (Or.inl ⟨by rfl, fun W hW => by have o0 := (show IntKind.u32.wrap Y5 = Y5 by rw [IntKind.wrap_u32]; omega); go_simp⟩) (by assumption) ?_
  try simp only [Act.put, List.setIfInBounds_toArray, List.set_cons_zero, List.set_cons_succ]
  refine wpAnyH_take (i := 15) (oi := { dst := some 67, op := Go.Op.binOp Go.BinOp.mul 23 (Go.Operand.const (Go.Value.int Go.IntKind.u32 256)) (Go.Operand.tmp 66) 23, type := 23, pos := _, after := #[{ on := 14, ground := Go.Ground.data }], guard := none }) (v := .int .u32 E2) rfl (by kernel_rfl) (by kernel_rfl) (by kernel_rfl) (fun _ _ _ h => h) (Or.inl ⟨by rfl, fun W hW => by have o0 := rr2.out; go_simp⟩) (by assumption) ?_
  try simp only [Act.put, List.setIfInBounds_toArray, List.set_cons_zero, List.set_cons_succ]
  refine wpAnyH_take (i := 16) (oi := { dst := some 68, op := Go.Op.binOp Go.BinOp.add 23 (Go.Operand.tmp 62) (Go.Operand.tmp 67) 23, type := 23, pos := _, after := #[{ on := 10, ground := Go.Ground.data }, { on := 15, ground := Go.Ground.data }], guard := none }) (v := .int .u32 G1) rfl (by kernel_rfl) (by kernel_rfl) (by kernel_rfl) (fun _ _ _ h => h) (Or.inl ⟨by rfl, fun W hW => by have o0 := rr4.out; go_simp⟩) (by assumption) ?_
  try simp only [Act.put, List.setIfInBounds_toArray, List.set_cons_zero, List.set_cons_succ]
  refine wpAnyH_take (i := 17) (oi := { dst := some 69, op := Go.Op.move (Go.Operand.tmp 0), type := 30, pos := _, after := #[], guard := none }) (v := .slice (some ⟨b, off, none⟩) L cap) rfl (by kernel_rfl) (by kernel_rfl) (by kernel_rfl) (fun _ _ _ h => h) (Or.inl ⟨by rfl, fun W hW => by go_simp⟩) (by assumption) ?_
  try simp only [Act.put, List.setIfInBounds_toArray, List.set_cons_zero, List.set_cons_succ]
  refine wpAnyH_take (i := 18) (oi := { dst := some 70, op := Go.Op.indexAddr 30 (Go.Operand.tmp 69) (Go.Operand.const (Go.Value.int Go.IntKind.i64 6)), type := 0, pos := _, after := #[{ on := 17, ground := Go.Ground.data }], guard := none }) (v := .pointer (some ⟨b, off + 6, none⟩)) rfl (by kernel_rfl) (by kernel_rfl) (by kernel_rfl) (fun _ _ _ h => h) (Or.inl ⟨by rfl, fun W hW => by go_simp⟩) (by assumption) ?_
  try simp only [Act.put, List.setIfInBounds_toArray, List.set_cons_zero, List.set_cons_succ]
  refine wpAnyH_take (i := 19) (oi := { dst := some 71, op := Go.Op.load 5 (Go.Operand.tmp 70), type := 5, pos := _, after := #[{ on := 18, ground := Go.Ground.data }], guard := none }) (v := .int .u8 Y6) rfl (by kernel_rfl) (by kernel_rfl) (by kernel_rfl) (fun _ _ _ h => h) (Or.inl ⟨by rfl, fun W hW => by have h1 := (hW.cell hbl1).trans c6; go_simp⟩) (by assumption) ?_
  try simp only [Act.put, List.setIfInBounds_toArray, List.set_cons_zero, List.set_cons_succ]
  refine wpAnyH_take (i := 20) (oi := { dst := some 72, op := Go.Op.convert 5 23 (Go.Operand.tmp 71), type := 23, pos := _, after := #[{ on := 19, ground := Go.Ground.data }], guard := none }) (v := .int .u32 Y6) rfl (by kernel_rfl) (by kernel_rfl) (by kernel_rfl) (fun _ _ _ h => h) (Or.inl ⟨by rfl, fun W hW => by have o0 := (show IntKind.u32.wrap Y6 = Y6 by rw [IntKind.wrap_u32]; omega); go_simp⟩) (by assumption) ?_
  try simp only [Act.put, List.setIfInBounds_toArray, List.set_cons_zero, List.set_cons_succ]
  refine wpAnyH_take (i := 21) (oi := { dst := some 73, op := Go.Op.binOp Go.BinOp.add 23 (Go.Operand.tmp 68) (Go.Operand.tmp 72) 23, type := 23, pos := _, after := #[{ on := 16, ground := Go.Ground.data }, { on := 20, ground := Go.Ground.data }], guard := none }) (v := .int .u32 (g : Int)) rfl (by kernel_rfl) (by kernel_rfl) (by kernel_rfl) (fun _ _ _ h => h) (Or.inl ⟨by rfl, fun W hW => by have o0 := rr5.out; go_simp⟩) (by assumption) ?_
  try simp only [Act.put, List.setIfInBounds_toArray, List.set_cons_zero, List.set_cons_succ]
  refine wpAnyH_take (i := 22) (oi := { dst := some 74, op := Go.Op.fieldAddr 27 (Go.Operand.tmp 5) 3, type := 0, pos := _, after := #[{ on := 0, ground := Go.Ground.phase }, { on := 1, ground := Go.Ground.phase }, { on := 2, ground := Go.Ground.phase }, { on := 3, ground := Go.Ground.phase }, { on := 4, ground := Go.Ground.phase }, { on := 5, ground := Go.Ground.phase }, { on := 6, ground := Go.Ground.phase }, { on := 7, ground := Go.Ground.phase }, { on := 8, ground := Go.Ground.phase }, { on := 9, ground := Go.Ground.phase }, { on := 10, ground := Go.Ground.phase }, { on := 11, ground := Go.Ground.phase }, { on := 12, ground := Go.Ground.phase }, { on := 13, ground := Go.Ground.phase }, { on := 14, ground := Go.Ground.phase }, { on := 15, ground := Go.Ground.phase }, { on := 16, ground := Go.Ground.phase }, { on := 17, ground := Go.Ground.phase }, { on := 18, ground := Go.Ground.phase }, { on := 19, ground := Go.Ground.phase }, { on := 20, ground := Go.Ground.phase }, { on := 21, ground := Go.Ground.phase }], guard := none }) (v := .pointer (some ⟨P, 3, none⟩)) rfl (by kernel_rfl) (by kernel_rfl) (by kernel_rfl) (fun _ _ _ h => h) (Or.inl ⟨by rfl, fun W hW => by go_simp⟩) (by assumption) ?_
  try simp only [Act.put, List.setIfInBounds_toArray, List.set_cons_zero, List.set_cons_succ]
  refine wpAnyH_ready (rs := [23]) (by kernel_rfl) (by simp) ?_
  refine AllReadyH.cons (o := { dst := none, op := Go.Op.store 23 (Go.Operand.tmp 74) (Go.Operand.tmp 73), type := 0, pos := _, after := #[{ on := 22, ground := Go.Ground.data }, { on := 21, ground := Go.Ground.data }, { on := 0, ground := Go.Ground.phase }, { on := 1, ground := Go.Ground.phase }, { on := 2, ground := Go.Ground.phase }, { on := 3, ground := Go.Ground.phase }, { on := 4, ground := Go.Ground.phase }, { on := 5, ground := Go.Ground.phase }, { on := 6, ground := Go.Ground.phase }, { on := 7, ground := Go.Ground.phase }, { on := 8, ground := Go.Ground.phase }, { on := 9, ground := Go.Ground.phase }, { on := 10, ground := Go.Ground.phase }, { on := 11, ground := Go.Ground.phase }, { on := 12, ground := Go.Ground.phase }, { on := 13, ground := Go.Ground.phase }, { on := 14, ground := Go.Ground.phase }, { on := 15, ground := Go.Ground.phase }, { on := 16, ground := Go.Ground.phase }, { on := 17, ground := Go.Ground.phase }, { on := 18, ground := Go.Ground.phase }, { on := 19, ground := Go.Ground.phase }, { on := 20, ground := Go.Ground.phase }, { on := 21, ground := Go.Ground.phase }], guard := none }) rfl (fun K hK => ?_) AllReadyH.nil
  go_simp
  refine hK.out _ _ b8 (fun hHeld => ?_)
  clear hK K
  try simp only [Act.put, List.setIfInBounds_toArray, List.set_cons_zero, List.set_cons_succ]
  refine wpAnyH_done (by kernel_rfl) ?_ _
  refine NoPanic.normal ?_
  clear hHeld m0 m1 m2 m3 m4 m5 fP b5 b4 k8
  clear q101 q102 q103 q104 q105 q106 q107 q108 q109 q110 l3 u3 l4 u4 l5 u5 l6 u6 l7 u7 l8 u8 l9 u9 l10 u10 p0 rr0 p1 rr1 p2 rr2 p3 rr3 p4 rr4 p5 rr5 c3 c4 c5 c6 c7 c8 c9 c10 s7 s3
  clear c0 c1 c2
  replace P8 : (w4.setCell ⟨P, 3, none⟩ (.int .u32 (g : Int))).drew.heap[P]? = some (.cells #[.int .u8 (x0.toNat : Int), .int .u8 (x1.toNat : Int), .int .u8 (x2.toNat : Int), .int .u32 (g : Int), .slice none 0 0, .slice none 0 0] 27 (0, 0)) := P8
  generalize (w4.setCell ⟨P, 3, none⟩ (.int .u32 (g : Int))).drew = w5 at *
  obtain ⟨M, hM⟩ : ∃ M, M = 11 + n := ⟨_, rfl⟩
  have hn9 := nn.out
  have k1 : IntKind.i64.wrap (11 + (n : Int)) = (M : Int) := by rw [IntKind.wrap_i64]; omega
  have k2 : (11 : Int) ≤ (M : Int) := by omega
  have k3 : (M : Int) ≤ (cap : Int) := by omega
  have k4 : (M : Int) ≤ (L : Int) := by omega
  have k5 : M - 11 = n := by omega
  obtain ⟨o2, hro⟩ : ∃ o2, (if cap = 11 then some (⟨b, off, none⟩ : Addr) else some ⟨b, off + 11, none⟩) = some ⟨b, o2, none⟩ := by
    by_cases e : cap = 11
    · exact ⟨_, by rw [if_pos e]⟩
    · exact ⟨_, by rw [if_neg e]⟩
  obtain ⟨o3, hro3⟩ : ∃ o3, (if cap = M then some (⟨b, off, none⟩ : Addr) else some ⟨b, off + M, none⟩) = some ⟨b, o3, none⟩ := by
    by_cases e : cap = M
    · exact ⟨_, by rw [if_pos e]⟩
    · exact ⟨_, by rw [if_neg e]⟩
  have sA : InAt w1 w1.heap.size (.slice (some ⟨b, o2, none⟩) n (cap - 11)) ((bs.drop 11).take n) := by
    have h := in_drop (n := 11) (ao' := some ⟨b, o2, none⟩) hb1 (by rw [← HL.out]; omega) (fun hlt _ _ e => by cases e; rw [← hro, if_neg (by omega)])
    rw [← List.length_drop] at h
    exact in_take h (by rw [List.length_drop, ← HL.out]; omega)
  have sB : InAt w1 w1.heap.size (.slice (some ⟨b, o3, none⟩) (L - M) (cap - M)) ((bs.drop 11).drop n) := by
    have h := in_drop (n := M) (ao' := some ⟨b, o3, none⟩) hb1 (by rw [← HL.out]; omega) (fun hlt _ _ e => by cases e; rw [← hro3, if_neg (by omega)])
    rw [List.drop_drop, show 11 + n = M by omega]
    rw [← HL.out] at h
    exact h
  have zP : w1.heap.size ≤ P := by have := HP.out; omega
  have z5 : w1.heap.size ≤ w5.heap.size := b8.size
  have kg := refGetOps_any w5 _ _ ((sA.below b8 (Nat.le_refl _)).mono b8.size)
  rw [hpo] at kg
  clear sA hpo hM hn9 nn ng hb1 HL
  go_wp2_with fail
  refine kg.mono ?_
  rintro e w6 ⟨vo, rfl, oo, b6⟩
  obtain ⟨oa, oc, rfl⟩ := own_len oo
  try simp only at oo
  have P6 := (b6.block _ z8).trans P8
  have z6 := Nat.lt_of_lt_of_le z8 b6.size
  have b9 := b8.trans (b6.mono b8.size)
  have kr := refGetResultsO_any w6 _ _ ((sB.below b9 (Nat.le_refl _)).mono b9.size)
  rw [hpr] at kr
  have zX5 := Nat.lt_of_lt_of_le zX zP
  have z8' : P < w5.heap.size := z8
  clear sB hpr kg P8 b8
  go_wp2_with fail
  refine kr.mono ?_
  rintro e w7 ⟨vr, rfl, ho, b7⟩
  obtain ⟨l, hl1, hl2⟩ := ho.out
  try simp only at hl1
  obtain ⟨ra, rc, rfl⟩ := own_len hl2.own
  have oo7 := own_below oo b7
  have P7 := (b7.block _ z6).trans P6
  have z7 := Nat.lt_of_lt_of_le z6 b7.size
  have b10 := b9.trans (b7.mono b9.size)
  have kA := (Kept.refl P w7.heap.size w7).setCell 4 (.slice oa lo.length oc)
  have kB := kA.setCell 5 (.slice ra l.length rc)
  have PB := six_set5 (.slice ra l.length rc) (six_set4 (.slice oa lo.length oc) P7)
  have b11 := b10.trans (kB.below zP b10.size)
  have zB := Nat.lt_of_lt_of_le z7 kB.size
  have ooB := own_keptR oo7 z8 kB
  have olB := hl2.kept z6 kB
  have xB := (b11.block _ zX).trans PX
  have x7w := (b10.block _ zX).trans PX
  have hne : ¬ w.heap.size = P := by have := HP.out; omega
  clear kr ho oo b6 b7 b9 b10 oo7 hl2 P6 kA
  obtain ⟨m0, m1, m2, m3, m4, m5⟩ := six_cells P7
  have fP := fun i => box_frozen (i := i) P7
  have fB := fun i => box_frozen (i := i) PB
  obtain ⟨y0, y1, y2, y3, y4, y5⟩ := six_cells x7w
  have fX := fun i => box_frozen (i := i) x7w
  obtain ⟨x10, k10⟩ := six_store xB (.int .u8 0) (.int .u8 0) (.int .u8 0) (.int .u32 0) (.slice none 0 0) (.slice none 0 0)
  have b14 := (B1.trans (b11.mono B1.size)).trans (k10.below (Nat.le_refl _) (Nat.le_of_lt (Nat.lt_of_lt_of_le zX b11.size)))
  clear olB ooB hl1 P7 x7w
  go_wp2
  generalize (w7.setCell ⟨P, 4, none⟩ (.slice oa lo.length oc)).setCell ⟨P, 5, none⟩ (.slice ra l.length rc) = w9 at *
  generalize ((((((w9).setCell ⟨w.heap.size, 0, none⟩ (.int .u8 0)).setCell ⟨w.heap.size, 1, none⟩ (.int .u8 0)).setCell ⟨w.heap.size, 2, none⟩ (.int .u8 0)).setCell ⟨w.heap.size, 3, none⟩ (.int .u32 0)).setCell ⟨w.heap.size, 4, none⟩ (.slice none 0 0)).setCell ⟨w.heap.size, 5, none⟩ (.slice none 0 0) = w10 at *
  obtain ⟨t0, t1, t2, t3, t4, t5⟩ := six_cells x10
  refine bodyPost_ret (v := .tuple #[.agg #[.int .u8 0, .int .u8 0, .int .u8 0, .int .u32 0, .slice none 0 0, .slice none 0 0], .int .i64 4]) (by simp [results, Tryz.results18, go_sem, t0, t1, t2, t3, t4, t5]) rfl ⟨rfl, b14⟩
set_option maxHeartbeats 3000000 in
set_option maxRecDepth 1000000 in
theorem rGet_head (w : World) (vb : Value) (bs : List UInt8) (hb : InAt w w.heap.size vb bs) (hl : ¬ bs.length < 11) (ho : numAt 7 bs ≤ bs.length - 11) (lo : List OpD) (lr : List (List RowD)) (hpo : getOps ((bs.drop 11).take (numAt 7 bs)) = (lo, 0)) (hpr : getRes ((bs.drop 11).drop (numAt 7 bs)) = (lr, 0)) (la' : lo.all opOk = true) (lb' : lr.all resOk = true) (hok : (rawM bs).ok = false) :
    Calls Tryz.prog 18 #[vb] w fun e w' => e = .returned (.tuple #[.agg #[.int .u8 0, .int .u8 0, .int .u8 0, .int .u32 0, .slice none 0 0, .slice none 0 0], .int .i64 4]) ∧ Below w.heap.size w w' := by
  have hb0 := hb
  obtain ⟨ao, cap, rfl, h1, h2, hc⟩ := hb
  unfold maxLen at h2
  obtain ⟨b, off, rfl, hbl, hcell⟩ := hc (by omega)
  have i11 : ¬ (bs.length : Int) < 11 := by omega
  obtain ⟨w1, hw1⟩ : ∃ w1, w1 = w.alloc (.cells #[.int .u8 0, .int .u8 0, .int .u8 0, .int .u32 0, .slice none 0 0, .slice none 0 0] 27) := ⟨_, rfl⟩
  have B1 : Below w.heap.size w w1 := by rw [hw1]; exact below_one w _
  have C0 := hcell 0 (by omega) 0 _ rfl
  have C1 := hcell 1 (by omega) 0 _ rfl
  have C2 := hcell 2 (by omega) 0 _ rfl
  have C3 := hcell 3 (by omega) 0 _ rfl
  have C4 := hcell 4 (by omega) 0 _ rfl
  have C5 := hcell 5 (by omega) 0 _ rfl
  have C6 := hcell 6 (by omega) 0 _ rfl
  have C7 := hcell 7 (by omega) 0 _ rfl
  have C8 := hcell 8 (by omega) 0 _ rfl
  have C9 := hcell 9 (by omega) 0 _ rfl
  have C10 := hcell 10 (by omega) 0 _ rfl
  simp only [Nat.zero_mul, Nat.one_mul, Nat.add_zero, Nat.mul_one, bv] at C0 C1 C2 C3 C4 C5 C6 C7 C8 C9 C10
  obtain ⟨r0, r1, r2, r3⟩ := raw_head hl
  rw [← r0] at C0
  rw [← r1] at C1
  rw [← r2] at C2
  obtain ⟨x0, hx0⟩ : ∃ x, x = (rawM bs).say := ⟨_, rfl⟩
  obtain ⟨x1, hx1⟩ : ∃ x, x = (rawM bs).src := ⟨_, rfl⟩
  obtain ⟨x2, hx2⟩ : ∃ x, x = (rawM bs).dst := ⟨_, rfl⟩
  rw [← hx0] at C0
  rw [← hx1] at C1
  rw [← hx2] at C2
  have b3 := u8_lt (bs[3]'(by omega))
  obtain ⟨Y3, hy3⟩ : ∃ y : Int, y = ((bs[3]'(by omega)).toNat : Int) := ⟨_, rfl⟩
  rw [← hy3] at C3
  have l3 : 0 ≤ Y3 := by omega
  have u3 : Y3 < 256 := by omega
  have b4 := u8_lt (bs[4]'(by omega))
  obtain ⟨Y4, hy4⟩ : ∃ y : Int, y = ((bs[4]'(by omega)).toNat : Int) := ⟨_, rfl⟩
  rw [← hy4] at C4
  have l4 : 0 ≤ Y4 := by omega
  have u4 : Y4 < 256 := by omega
  have b5 := u8_lt (bs[5]'(by omega))
  obtain ⟨Y5, hy5⟩ : ∃ y : Int, y = ((bs[5]'(by omega)).toNat : Int) := ⟨_, rfl⟩
  rw [← hy5] at C5
  have l5 : 0 ≤ Y5 := by omega
  have u5 : Y5 < 256 := by omega
  have b6 := u8_lt (bs[6]'(by omega))
  obtain ⟨Y6, hy6⟩ : ∃ y : Int, y = ((bs[6]'(by omega)).toNat : Int) := ⟨_, rfl⟩
  rw [← hy6] at C6
  have l6 : 0 ≤ Y6 := by omega
  have u6 : Y6 < 256 := by omega
  have b7 := u8_lt (bs[7]'(by omega))
  obtain ⟨Y7, hy7⟩ : ∃ y : Int, y = ((bs[7]'(by omega)).toNat : Int) := ⟨_, rfl⟩
  rw [← hy7] at C7
  have l7 : 0 ≤ Y7 := by omega
  have u7 : Y7 < 256 := by omega
  have b8 := u8_lt (bs[8]'(by omega))
  obtain ⟨Y8, hy8⟩ : ∃ y : Int, y = ((bs[8]'(by omega)).toNat : Int) := ⟨_, rfl⟩
  rw [← hy8] at C8
  have l8 : 0 ≤ Y8 := by omega
  have u8 : Y8 < 256 := by omega
  have b9 := u8_lt (bs[9]'(by omega))
  obtain ⟨Y9, hy9⟩ : ∃ y : Int, y = ((bs[9]'(by omega)).toNat : Int) := ⟨_, rfl⟩
  rw [← hy9] at C9
  have l9 : 0 ≤ Y9 := by omega
  have u9 : Y9 < 256 := by omega
  have b10 := u8_lt (bs[10]'(by omega))
  obtain ⟨Y10, hy10⟩ : ∃ y : Int, y = ((bs[10]'(by omega)).toNat : Int) := ⟨_, rfl⟩
  rw [← hy10] at C10
  have l10 : 0 ≤ Y10 := by omega
  have u10 : Y10 < 256 := by omega
  have c0 : w1.cell? ⟨b, off, none⟩ = some (.int .u8 (x0.toNat : Int)) := (B1.cell hbl).trans C0
  have c1 : w1.cell? ⟨b, off + 1, none⟩ = some (.int .u8 (x1.toNat : Int)) := (B1.cell hbl).trans C1
  have c2 : w1.cell? ⟨b, off + 2, none⟩ = some (.int .u8 (x2.toNat : Int)) := (B1.cell hbl).trans C2
  have c3 : w1.cell? ⟨b, off + 3, none⟩ = some (.int .u8 Y3) := (B1.cell hbl).trans C3
  have c4 : w1.cell? ⟨b, off + 4, none⟩ = some (.int .u8 Y4) := (B1.cell hbl).trans C4
  have c5 : w1.cell? ⟨b, off + 5, none⟩ = some (.int .u8 Y5) := (B1.cell hbl).trans C5
  have c6 : w1.cell? ⟨b, off + 6, none⟩ = some (.int .u8 Y6) := (B1.cell hbl).trans C6
  have c7 : w1.cell? ⟨b, off + 7, none⟩ = some (.int .u8 Y7) := (B1.cell hbl).trans C7
  have c8 : w1.cell? ⟨b, off + 8, none⟩ = some (.int .u8 Y8) := (B1.cell hbl).trans C8
  have c9 : w1.cell? ⟨b, off + 9, none⟩ = some (.int .u8 Y9) := (B1.cell hbl).trans C9
  have c10 : w1.cell? ⟨b, off + 10, none⟩ = some (.int .u8 Y10) := (B1.cell hbl).trans C10
  have hb1 : InAt w1 w1.heap.size (.slice (some ⟨b, off, none⟩) bs.length cap) bs := (hb0.below B1 (Nat.le_refl _)).mono B1.size
  have hbl1 : b < w1.heap.size := Nat.lt_of_lt_of_le hbl B1.size
  have e7 := num_four hl 7 (by omega)
  have e3 := num_four hl 3 (by omega)
  simp only [Nat.reduceAdd] at e3 e7
  rw [← r3] at e3
  obtain ⟨g, hg⟩ : ∃ g, g = (rawM bs).g.toNat := ⟨_, rfl⟩
  obtain ⟨n, hn⟩ : ∃ n, n = numAt 7 bs := ⟨_, rfl⟩
  rw [← hg] at e3
  rw [← hn] at e7
  have s7 : Hid (16777216 * Y7 + 65536 * Y8 + 256 * Y9 + Y10 = (n : Int)) := by show _ = _; omega
  have s3 : Hid (16777216 * Y3 + 65536 * Y4 + 256 * Y5 + Y6 = (g : Int)) := by show _ = _; omega
  obtain ⟨A0, hA0⟩ : ∃ A : Int, A = 16777216 * Y7 := ⟨_, rfl⟩
  have p0 : Hid (IntKind.i64.wrap (16777216 * Y7) = A0) := by show _ = _; rw [IntKind.wrap_i64]; omega
  obtain ⟨A1, hA1⟩ : ∃ A : Int, A = 65536 * Y8 := ⟨_, rfl⟩
  have p1 : Hid (IntKind.i64.wrap (65536 * Y8) = A1) := by show _ = _; rw [IntKind.wrap_i64]; omega
  obtain ⟨A2, hA2⟩ : ∃ A : Int, A = 256 * Y9 := ⟨_, rfl⟩
  have p2 : Hid (IntKind.i64.wrap (256 * Y9) = A2) := by show _ = _; rw [IntKind.wrap_i64]; omega
  obtain ⟨S0, hS0⟩ : ∃ A : Int, A = A0 + A1 := ⟨_, rfl⟩
  have p3 : Hid (IntKind.i64.wrap (A0 + A1) = S0) := by show _ = _; rw [IntKind.wrap_i64]; omega
  obtain ⟨S1, hS1⟩ : ∃ A : Int, A = S0 + A2 := ⟨_, rfl⟩
  have p4 : Hid (IntKind.i64.wrap (S0 + A2) = S1) := by show _ = _; rw [IntKind.wrap_i64]; omega
  have p5 : Hid (IntKind.i64.wrap (S1 + Y10) = (n : Int)) := by show _ = _; have := s7.out; rw [IntKind.wrap_i64]; omega
  clear hA0 hA1 hA2 hS0 hS1
  obtain ⟨E0, hE0⟩ : ∃ A : Int, A = 16777216 * Y3 := ⟨_, rfl⟩
  have rr0 : Hid (IntKind.u32.wrap (16777216 * Y3) = E0) := by show _ = _; rw [IntKind.wrap_u32]; omega
  obtain ⟨E1, hE1⟩ : ∃ A : Int, A = 65536 * Y4 := ⟨_, rfl⟩
  have rr1 : Hid (IntKind.u32.wrap (65536 * Y4) = E1) := by show _ = _; rw [IntKind.wrap_u32]; omega
  obtain ⟨E2, hE2⟩ : ∃ A : Int, A = 256 * Y5 := ⟨_, rfl⟩
  have rr2 : Hid (IntKind.u32.wrap (256 * Y5) = E2) := by show _ = _; rw [IntKind.wrap_u32]; omega
  obtain ⟨G0, hG0⟩ : ∃ A : Int, A = E0 + E1 := ⟨_, rfl⟩
  have rr3 : Hid (IntKind.u32.wrap (E0 + E1) = G0) := by show _ = _; rw [IntKind.wrap_u32]; omega
  obtain ⟨G1, hG1⟩ : ∃ A : Int, A = G0 + E2 := ⟨_, rfl⟩
  have rr4 : Hid (IntKind.u32.wrap (G0 + E2) = G1) := by show _ = _; rw [IntKind.wrap_u32]; omega
  have rr5 : Hid (IntKind.u32.wrap (G1 + Y6) = (g : Int)) := by show _ = _; have := s3.out; rw [IntKind.wrap_u32]; omega
  clear hE0 hE1 hE2 hG0 hG1
  have nn : Hid (n < 4294967296) := by show _ < _; have := s7.out; omega
  have ng : Hid (g < 4294967296) := by show _ < _; have := s3.out; omega
  have q0 : (11 : Int) ≤ (bs.length : Int) := by omega
  have q1 : (11 : Int) ≤ (cap : Int) := by omega
  have q4 : ¬ bs.length = 0 := by omega
  have q101 : ¬ (bs.length : Int) ≤ 1 := by omega
  have q102 : ¬ (bs.length : Int) ≤ 2 := by omega
  have q103 : ¬ (bs.length : Int) ≤ 3 := by omega
  have q104 : ¬ (bs.length : Int) ≤ 4 := by omega
  have q105 : ¬ (bs.length : Int) ≤ 5 := by omega
  have q106 : ¬ (bs.length : Int) ≤ 6 := by omega
  have q107 : ¬ (bs.length : Int) ≤ 7 := by omega
  have q108 : ¬ (bs.length : Int) ≤ 8 := by omega
  have q109 : ¬ (bs.length : Int) ≤ 9 := by omega
  have q110 : ¬ (bs.length : Int) ≤ 10 := by omega
  have PX : w1.heap[w.heap.size]? = some (.cells #[.int .u8 0, .int .u8 0, .int .u8 0, .int .u32 0, .slice none 0 0, .slice none 0 0] 27 (0, 0)) := by rw [hw1]; exact heap_alloc_new w _
  have zX : w.heap.size < w1.heap.size := by rw [hw1]; simp
  have kC : Hid (∀ (W : World) (vo vr : Value) (l : List ResP), MsgAt W W.heap.size vo vr (rawM bs) l → Calls Tryz.prog 32 #[.agg #[.int .u8 (x0.toNat : Int), .int .u8 (x1.toNat : Int), .int .u8 (x2.toNat : Int), .int .u32 (g : Int), vo, vr]] W fun e w' => e = .returned (.bool false) ∧ Below W.heap.size W w') := fun W vo vr l h => by
    rw [hx0, hx1, hx2, hg]
    have k := refCheck7_any W vo vr _ l h
    rw [hok] at k
    exact k
  have HO : Hid ((rawM bs).ops = lo) := by show _ = _; unfold rawM; rw [hpo]
  have HRR : Hid ((rawM bs).res = lr) := by show _ = _; unfold rawM; rw [hpr]
  have la : Hid (lo.all opOk = true) := la'
  have lb : Hid (lr.all resOk = true) := lb'
  clear hok la' lb'
  rw [← hn] at ho hpo hpr
  clear hx0 hx1 hx2 hg hn
  clear C0 C1 C2 C3 C4 C5 C6 C7 C8 C9 C10 hcell hc hb0 r0 r1 r2 r3 hy3 hy4 hy5 hy6 hy7 hy8 hy9 hy10 e3 e7 b3 b4 b5 b6 b7 b8 b9 b10
  obtain ⟨L, hL⟩ : ∃ L, L = bs.length := ⟨_, rfl⟩
  have HL : Hid (L = bs.length) := hL
  rw [← hL] at ho hl h1 i11 q0 q4 q101 q102 q103 q104 q105 q106 q107 q108 q109 q110 ⊢
  clear hL
  subst hw1
  go_enter Tryz.func18, Tryz.ntmps18
  go_wp2_with fail
  generalize w.alloc (.cells #[.int .u8 0, .int .u8 0, .int .u8 0, .int .u32 0, .slice none 0 0, .slice none 0 0] 27) = w1 at *
  have b0 : Below w1.heap.size w1 w1.drew := ⟨rfl, rfl, rfl, Nat.le_refl _, fun _ _ => rfl⟩
  obtain ⟨R, hR⟩ : ∃ R, R = L - 11 := ⟨_, rfl⟩
  have hw : IntKind.i64.wrap ((L : Int) - 11) = (R : Int) := by rw [IntKind.wrap_i64]; omega
  refine wp_region_noPanic ?_
  refine wp_region_held_drew (S := fun W => Below w1.heap.size w1 W) (by kernel_rfl) b0 (fun hHeld => ?_)
  refine wpAnyH_take (i := 0) (oi := { dst := some 14, op := Go.Op.move (Go.Operand.tmp 0), type := 30, pos := _, after := #[], guard := none }) (v := .slice (some ⟨b, off, none⟩) L cap) rfl (by kernel_rfl) (by kernel_rfl) (by kernel_rfl) (fun _ _ _ h => h) (Or.inl ⟨by rfl, fun W hW => by go_simp⟩) (by assumption) ?_
  try simp only [Act.put, List.setIfInBounds_toArray, List.set_cons_zero, List.set_cons_succ]
  refine wpAnyH_take (i := 1) (oi := { dst := some 15, op := Go.Op.indexAddr 30 (Go.Operand.tmp 14) (Go.Operand.const (Go.Value.int Go.IntKind.i64 7)), type := 0, pos := _, after := #[{ on := 0, ground := Go.Ground.data }], guard := none }) (v := .pointer (some ⟨b, off + 7, none⟩)) rfl (by kernel_rfl) (by kernel_rfl) (by kernel_rfl) (fun _ _ _ h => h) (Or.inl ⟨by rfl, fun W hW => by go_simp⟩) (by assumption) ?_
  try simp only [Act.put, List.setIfInBounds_toArray, List.set_cons_zero, List.set_cons_succ]
  refine wpAnyH_take (i := 2) (oi := { dst := some 16, op := Go.Op.load 5 (Go.Operand.tmp 15), type := 5, pos := _, after := #[{ on := 1, ground := Go.Ground.data }], guard := none }) (v := .int .u8 Y7) rfl (by kernel_rfl) (by kernel_rfl) (by kernel_rfl) (fun _ _ _ h => h) (Or.inl ⟨by rfl, fun W hW => by have h1 := (hW.cell hbl1).trans c7; go_simp⟩) (by assumption) ?_
  try simp only [Act.put, List.setIfInBounds_toArray, List.set_cons_zero, List.set_cons_succ]
  refine wpAnyH_take (i := 3) (oi := { dst := some 17, op := Go.Op.convert 5 2 (Go.Operand.tmp 16), type := 2, pos := _, after := #[{ on := 2, ground := Go.Ground.data }], guard := none }) (v := .int .i64 Y7) rfl (by kernel_rfl) (by kernel_rfl) (by kernel_rfl) (fun _ _ _ h => h) (Or.inl ⟨by rfl, fun W hW => by have o0 := (show IntKind.i64.wrap Y7 = Y7 by rw [IntKind.wrap_i64]; omega); go_simp⟩) (by assumption) ?_
  try simp only [Act.put, List.setIfInBounds_toArray, List.set_cons_zero, List.set_cons_succ]
  refine wpAnyH_take (i := 4) (oi := { dst := some 18, op := Go.Op.binOp Go.BinOp.mul 2 (Go.Operand.const (Go.Value.int Go.IntKind.i64 16777216)) (Go.Operand.tmp 17) 2, type := 2, pos := _, after := #[{ on := 3, ground := Go.Ground.data }], guard := none }) (v := .int .i64 A0) rfl (by kernel_rfl) (by kernel_rfl) (by kernel_rfl) (fun _ _ _ h => h) (Or.inl ⟨by rfl, fun W hW => by have o0 := p0.out; go_simp⟩) (by assumption) ?_
  try simp only [Act.put, List.setIfInBounds_toArray, List.set_cons_zero, List.set_cons_succ]
  refine wpAnyH_take (i := 5) (oi := { dst := some 19, op := Go.Op.move (Go.Operand.tmp 0), type := 30, pos := _, after := #[], guard := none }) (v := .slice (some ⟨b, off, none⟩) L cap) rfl (by kernel_rfl) (by kernel_rfl) (by kernel_rfl) (fun _ _ _ h => h) (Or.inl ⟨by rfl, fun W hW => by go_simp⟩) (by assumption) ?_
  try simp only [Act.put, List.setIfInBounds_toArray, List.set_cons_zero, List.set_cons_succ]
  refine wpAnyH_take (i := 6) (oi := { dst := some 20, op := Go.Op.indexAddr 30 (Go.Operand.tmp 19) (Go.Operand.const (Go.Value.int Go.IntKind.i64 8)), type := 0, pos := _, after := #[{ on := 5, ground := Go.Ground.data }], guard := none }) (v := .pointer (some ⟨b, off + 8, none⟩)) rfl (by kernel_rfl) (by kernel_rfl) (by kernel_rfl) (fun _ _ _ h => h) (Or.inl ⟨by rfl, fun W hW => by go_simp⟩) (by assumption) ?_
  try simp only [Act.put, List.setIfInBounds_toArray, List.set_cons_zero, List.set_cons_succ]
  refine wpAnyH_take (i := 7) (oi := { dst := some 21, op := Go.Op.load 5 (Go.Operand.tmp 20), type := 5, pos := _, after := #[{ on := 6, ground := Go.Ground.data }], guard := none }) (v := .int .u8 Y8) rfl (by kernel_rfl) (by kernel_rfl) (by kernel_rfl) (fun _ _ _ h => h) (Or.inl ⟨by rfl, fun W hW => by have h1 := (hW.cell hbl1).trans c8; go_simp⟩) (by assumption) ?_
  try simp only [Act.put, List.setIfInBounds_toArray, List.set_cons_zero, List.set_cons_succ]
  refine wpAnyH_take (i := 8) (oi := { dst := some 22, op := Go.Op.convert 5 2 (Go.Operand.tmp 21), type := 2, pos := _, after := #[{ on := 7, ground := Go.Ground.data }], guard := none }) (v := .int .i64 Y8) rfl (by kernel_rfl) (by kernel_rfl) (by kernel_rfl) (fun _ _ _ h => h) (Or.inl ⟨by rfl, fun W hW => by have o0 := (show IntKind.i64.wrap Y8 = Y8 by rw [IntKind.wrap_i64]; omega); go_simp⟩) (by assumption) ?_
  try simp only [Act.put, List.setIfInBounds_toArray, List.set_cons_zero, List.set_cons_succ]
  refine wpAnyH_take (i := 9) (oi := { dst := some 23, op := Go.Op.binOp Go.BinOp.mul 2 (Go.Operand.const (Go.Value.int Go.IntKind.i64 65536)) (Go.Operand.tmp 22) 2, type := 2, pos := _, after := #[{ on := 8, ground := Go.Ground.data }], guard := none }) (v := .int .i64 A1) rfl (by kernel_rfl) (by kernel_rfl) (by kernel_rfl) (fun _ _ _ h => h) (Or.inl ⟨by rfl, fun W hW => by have o0 := p1.out; go_simp⟩) (by assumption) ?_
  try simp only [Act.put, List.setIfInBounds_toArray, List.set_cons_zero, List.set_cons_succ]
  refine wpAnyH_take (i := 10) (oi := { dst := some 24, op := Go.Op.binOp Go.BinOp.add 2 (Go.Operand.tmp 18) (Go.Operand.tmp 23) 2, type := 2, pos := _, after := #[{ on := 4, ground := Go.Ground.data }, { on := 9, ground := Go.Ground.data }], guard := none }) (v := .int .i64 S0) rfl (by kernel_rfl) (by kernel_rfl) (by kernel_rfl) (fun _ _ _ h => h) (Or.inl ⟨by rfl, fun W hW => by have o0 := p3.out; go_simp⟩) (by assumption) ?_
  try simp only [Act.put, List.setIfInBounds_toArray, List.set_cons_zero, List.set_cons_succ]
  refine wpAnyH_take (i := 11) (oi := { dst := some 25, op := Go.Op.move (Go.Operand.tmp 0), type := 30, pos := _, after := #[], guard := none }) (v := .slice (some ⟨b, off, none⟩) L cap) rfl (by kernel_rfl) (by kernel_rfl) (by kernel_rfl) (fun _ _ _ h => h) (Or.inl ⟨by rfl, fun W hW => by go_simp⟩) (by assumption) ?_
  try simp only [Act.put, List.setIfInBounds_toArray, List.set_cons_zero, List.set_cons_succ]
  refine wpAnyH_take (i := 12) (oi := { dst := some 26, op := Go.Op.indexAddr 30 (Go.Operand.tmp 25) (Go.Operand.const (Go.Value.int Go.IntKind.i64 9)), type := 0, pos := _, after := #[{ on := 11, ground := Go.Ground.data }], guard := none }) (v := .pointer (some ⟨b, off + 9, none⟩)) rfl (by kernel_rfl) (by kernel_rfl) (by kernel_rfl) (fun _ _ _ h => h) (Or.inl ⟨by rfl, fun W hW => by go_simp⟩) (by assumption) ?_
  try simp only [Act.put, List.setIfInBounds_toArray, List.set_cons_zero, List.set_cons_succ]
  refine wpAnyH_take (i := 13) (oi := { dst := some 27, op := Go.Op.load 5 (Go.Operand.tmp 26), type := 5, pos := _, after := #[{ on := 12, ground := Go.Ground.data }], guard := none }) (v := .int .u8 Y9) rfl (by kernel_rfl) (by kernel_rfl) (by kernel_rfl) (fun _ _ _ h => h) (Or.inl ⟨by rfl, fun W hW => by have h1 := (hW.cell hbl1).trans c9; go_simp⟩) (by assumption) ?_
  try simp only [Act.put, List.setIfInBounds_toArray, List.set_cons_zero, List.set_cons_succ]
  refine wpAnyH_take (i := 14) (oi := { dst := some 28, op := Go.Op.convert 5 2 (Go.Operand.tmp 27), type := 2, pos := _, after := #[{ on := 13, ground := Go.Ground.data }], guard := none }) (v := .int .i64 Y9) rfl (by kernel_rfl) (by kernel_rfl) (by kernel_rfl) (fun _ _ _ h => h) (Or.inl ⟨by rfl, fun W hW => by have o0 := (show IntKind.i64.wrap Y9 = Y9 by rw [IntKind.wrap_i64]; omega); go_simp⟩) (by assumption) ?_
  try simp only [Act.put, List.setIfInBounds_toArray, List.set_cons_zero, List.set_cons_succ]
  refine wpAnyH_take (i := 15) (oi := { dst := some 29, op := Go.Op.binOp Go.BinOp.mul 2 (Go.Operand.const (Go.Value.int Go.IntKind.i64 256)) (Go.Operand.tmp 28) 2, type := 2, pos := _, after := #[{ on := 14, ground := Go.Ground.data }], guard := none }) (v := .int .i64 A2) rfl (by kernel_rfl) (by kernel_rfl) (by kernel_rfl) (fun _ _ _ h => h) (Or.inl ⟨by rfl, fun W hW => by have o0 := p2.out; go_simp⟩) (by assumption) ?_
  try simp only [Act.put, List.setIfInBounds_toArray, List.set_cons_zero, List.set_cons_succ]
  refine wpAnyH_take (i := 16) (oi := { dst := some 30, op := Go.Op.binOp Go.BinOp.add 2 (Go.Operand.tmp 24) (Go.Operand.tmp 29) 2, type := 2, pos := _, after := #[{ on := 10, ground := Go.Ground.data }, { on := 15, ground := Go.Ground.data }], guard := none }) (v := .int .i64 S1) rfl (by kernel_rfl) (by kernel_rfl) (by kernel_rfl) (fun _ _ _ h => h) (Or.inl ⟨by rfl, fun W hW => by have o0 := p4.out; go_simp⟩) (by assumption) ?_
  try simp only [Act.put, List.setIfInBounds_toArray, List.set_cons_zero, List.set_cons_succ]
  refine wpAnyH_take (i := 17) (oi := { dst := some 31, op := Go.Op.move (Go.Operand.tmp 0), type := 30, pos := _, after := #[], guard := none }) (v := .slice (some ⟨b, off, none⟩) L cap) rfl (by kernel_rfl) (by kernel_rfl) (by kernel_rfl) (fun _ _ _ h => h) (Or.inl ⟨by rfl, fun W hW => by go_simp⟩) (by assumption) ?_
  try simp only [Act.put, List.setIfInBounds_toArray, List.set_cons_zero, List.set_cons_succ]
  refine wpAnyH_take (i := 18) (oi := { dst := some 32, op := Go.Op.indexAddr 30 (Go.Operand.tmp 31) (Go.Operand.const (Go.Value.int Go.IntKind.i64 10)), type := 0, pos := _, after := #[{ on := 17, ground := Go.Ground.data }], guard := none }) (v := .pointer (some ⟨b, off + 10, none⟩)) rfl (by kernel_rfl) (by kernel_rfl) (by kernel_rfl) (fun _ _ _ h => h) (Or.inl ⟨by rfl, fun W hW => by go_simp⟩) (by assumption) ?_
  try simp only [Act.put, List.setIfInBounds_toArray, List.set_cons_zero, List.set_cons_succ]
  refine wpAnyH_take (i := 19) (oi := { dst := some 33, op := Go.Op.load 5 (Go.Operand.tmp 32), type := 5, pos := _, after := #[{ on := 18, ground := Go.Ground.data }], guard := none }) (v := .int .u8 Y10) rfl (by kernel_rfl) (by kernel_rfl) (by kernel_rfl) (fun _ _ _ h => h) (Or.inl ⟨by rfl, fun W hW => by have h1 := (hW.cell hbl1).trans c10; go_simp⟩) (by assumption) ?_
  try simp only [Act.put, List.setIfInBounds_toArray, List.set_cons_zero, List.set_cons_succ]
  refine wpAnyH_take (i := 20) (oi := { dst := some 34, op := Go.Op.convert 5 2 (Go.Operand.tmp 33), type := 2, pos := _, after := #[{ on := 19, ground := Go.Ground.data }], guard := none }) (v := .int .i64 Y10) rfl (by kernel_rfl) (by kernel_rfl) (by kernel_rfl) (fun _ _ _ h => h) (Or.inl ⟨by rfl, fun W hW => by have o0 := (show IntKind.i64.wrap Y10 = Y10 by rw [IntKind.wrap_i64]; omega); go_simp⟩) (by assumption) ?_
  try simp only [Act.put, List.setIfInBounds_toArray, List.set_cons_zero, List.set_cons_succ]
  refine wpAnyH_take (i := 21) (oi := { dst := some 35, op := Go.Op.binOp Go.BinOp.add 2 (Go.Operand.tmp 30) (Go.Operand.tmp 34) 2, type := 2, pos := _, after := #[{ on := 16, ground := Go.Ground.data }, { on := 20, ground := Go.Ground.data }], guard := none }) (v := .int .i64 (n : Int)) rfl (by kernel_rfl) (by kernel_rfl) (by kernel_rfl) (fun _ _ _ h => h) (Or.inl ⟨by rfl, fun W hW => by have o0 := p5.out; go_simp⟩) (by assumption) ?_
  try simp only [Act.put, List.setIfInBounds_toArray, List.set_cons_zero, List.set_cons_succ]
  refine wpAnyH_take (i := 22) (oi := { dst := some 4, op := Go.Op.assign (Go.Operand.tmp 35), type := 2, pos := _, after := #[{ on := 21, ground := Go.Ground.data }, { on := 0, ground := Go.Ground.phase }, { on := 1, ground := Go.Ground.phase }, { on := 2, ground := Go.Ground.phase }, { on := 3, ground := Go.Ground.phase }, { on := 4, ground := Go.Ground.phase }, { on := 5, ground := Go.Ground.phase }, { on := 6, ground := Go.Ground.phase }, { on := 7, ground := Go.Ground.phase }, { on := 8, ground := Go.Ground.phase }, { on := 9, ground := Go.Ground.phase }, { on := 10, ground := Go.Ground.phase }, { on := 11, ground := Go.Ground.phase }, { on := 12, ground := Go.Ground.phase }, { on := 13, ground := Go.Ground.phase }, { on := 14, ground := Go.Ground.phase }, { on := 15, ground := Go.Ground.phase }, { on := 16, ground := Go.Ground.phase }, { on := 17, ground := Go.Ground.phase }, { on := 18, ground := Go.Ground.phase }, { on := 19, ground := Go.Ground.phase }, { on := 20, ground := Go.Ground.phase }, { on := 21, ground := Go.Ground.phase }], guard := none }) (v := .int .i64 (n : Int)) rfl (by kernel_rfl) (by kernel_rfl) (by kernel_rfl) (fun _ _ _ h => h) (Or.inl ⟨by rfl, fun W hW => by go_simp⟩) (by assumption) ?_
  try simp only [Act.put, List.setIfInBounds_toArray, List.set_cons_zero, List.set_cons_succ]
  refine wpAnyH_done (by kernel_rfl) ?_ _
  refine NoPanic.normal ?_
  clear hHeld
  have v1 : (n : Int) ≤ (R : Int) := by omega
  have v2 : ¬ (R : Int) < (n : Int) := by omega
  have b3 : Below w1.heap.size w1 w1.drew := b0
  have z3 : w1.heap.size ≤ w1.drew.heap.size := Nat.le_refl _
  have e3 : w1.drew.heap.size = w1.heap.size := rfl
  clear b0
  generalize w1.drew = w3 at *
  go_wp2_with fail
  have b4 : Below w1.heap.size w1 w3.drew := b3.drew
  refine wp_region_noPanic ?_
  refine wp_region_held_drew (S := fun W => Below w1.heap.size w1 W) (by kernel_rfl) b4 (fun hHeld => ?_)
  refine wpAnyH_take (i := 0) (oi := { dst := some 42, op := Go.Op.move (Go.Operand.tmp 0), type := 30, pos := _, after := #[], guard := none }) (v := .slice (some ⟨b, off, none⟩) L cap) rfl (by kernel_rfl) (by kernel_rfl) (by kernel_rfl) (fun _ _ _ h => h) (Or.inl ⟨by rfl, fun W hW => by go_simp⟩) (by assumption) ?_
  try simp only [Act.put, List.setIfInBounds_toArray, List.set_cons_zero, List.set_cons_succ]
  refine wpAnyH_take (i := 1) (oi := { dst := some 43, op := Go.Op.indexAddr 30 (Go.Operand.tmp 42) (Go.Operand.const (Go.Value.int Go.IntKind.i64 0)), type := 0, pos := _, after := #[{ on := 0, ground := Go.Ground.data }], guard := none }) (v := .pointer (some ⟨b, off, none⟩)) rfl (by kernel_rfl) (by kernel_rfl) (by kernel_rfl) (fun _ _ _ h => h) (Or.inl ⟨by rfl, fun W hW => by go_simp⟩) (by assumption) ?_
  try simp only [Act.put, List.setIfInBounds_toArray, List.set_cons_zero, List.set_cons_succ]
  refine wpAnyH_take (i := 2) (oi := { dst := some 44, op := Go.Op.load 5 (Go.Operand.tmp 43), type := 5, pos := _, after := #[{ on := 1, ground := Go.Ground.data }], guard := none }) (v := .int .u8 (x0.toNat : Int)) rfl (by kernel_rfl) (by kernel_rfl) (by kernel_rfl) (fun _ _ _ h => h) (Or.inl ⟨by rfl, fun W hW => by have h1 := (hW.cell hbl1).trans c0; go_simp⟩) (by assumption) ?_
  try simp only [Act.put, List.setIfInBounds_toArray, List.set_cons_zero, List.set_cons_succ]
  refine wpAnyH_take (i := 3) (oi := { dst := some 45, op := Go.Op.move (Go.Operand.tmp 0), type := 30, pos := _, after := #[], guard := none }) (v := .slice (some ⟨b, off, none⟩) L cap) rfl (by kernel_rfl) (by kernel_rfl) (by kernel_rfl) (fun _ _ _ h => h) (Or.inl ⟨by rfl, fun W hW => by go_simp⟩) (by assumption) ?_
  try simp only [Act.put, List.setIfInBounds_toArray, List.set_cons_zero, List.set_cons_succ]
  refine wpAnyH_take (i := 4) (oi := { dst := some 46, op := Go.Op.indexAddr 30 (Go.Operand.tmp 45) (Go.Operand.const (Go.Value.int Go.IntKind.i64 1)), type := 0, pos := _, after := #[{ on := 3, ground := Go.Ground.data }], guard := none }) (v := .pointer (some ⟨b, off + 1, none⟩)) rfl (by kernel_rfl) (by kernel_rfl) (by kernel_rfl) (fun _ _ _ h => h) (Or.inl ⟨by rfl, fun W hW => by go_simp⟩) (by assumption) ?_
  try simp only [Act.put, List.setIfInBounds_toArray, List.set_cons_zero, List.set_cons_succ]
  refine wpAnyH_take (i := 5) (oi := { dst := some 47, op := Go.Op.load 5 (Go.Operand.tmp 46), type := 5, pos := _, after := #[{ on := 4, ground := Go.Ground.data }], guard := none }) (v := .int .u8 (x1.toNat : Int)) rfl (by kernel_rfl) (by kernel_rfl) (by kernel_rfl) (fun _ _ _ h => h) (Or.inl ⟨by rfl, fun W hW => by have h1 := (hW.cell hbl1).trans c1; go_simp⟩) (by assumption) ?_
  try simp only [Act.put, List.setIfInBounds_toArray, List.set_cons_zero, List.set_cons_succ]
  refine wpAnyH_take (i := 6) (oi := { dst := some 48, op := Go.Op.move (Go.Operand.tmp 0), type := 30, pos := _, after := #[], guard := none }) (v := .slice (some ⟨b, off, none⟩) L cap) rfl (by kernel_rfl) (by kernel_rfl) (by kernel_rfl) (fun _ _ _ h => h) (Or.inl ⟨by rfl, fun W hW => by go_simp⟩) (by assumption) ?_
  try simp only [Act.put, List.setIfInBounds_toArray, List.set_cons_zero, List.set_cons_succ]
  refine wpAnyH_take (i := 7) (oi := { dst := some 49, op := Go.Op.indexAddr 30 (Go.Operand.tmp 48) (Go.Operand.const (Go.Value.int Go.IntKind.i64 2)), type := 0, pos := _, after := #[{ on := 6, ground := Go.Ground.data }], guard := none }) (v := .pointer (some ⟨b, off + 2, none⟩)) rfl (by kernel_rfl) (by kernel_rfl) (by kernel_rfl) (fun _ _ _ h => h) (Or.inl ⟨by rfl, fun W hW => by go_simp⟩) (by assumption) ?_
  try simp only [Act.put, List.setIfInBounds_toArray, List.set_cons_zero, List.set_cons_succ]
  refine wpAnyH_take (i := 8) (oi := { dst := some 50, op := Go.Op.load 5 (Go.Operand.tmp 49), type := 5, pos := _, after := #[{ on := 7, ground := Go.Ground.data }], guard := none }) (v := .int .u8 (x2.toNat : Int)) rfl (by kernel_rfl) (by kernel_rfl) (by kernel_rfl) (fun _ _ _ h => h) (Or.inl ⟨by rfl, fun W hW => by have h1 := (hW.cell hbl1).trans c2; go_simp⟩) (by assumption) ?_
  try simp only [Act.put, List.setIfInBounds_toArray, List.set_cons_zero, List.set_cons_succ]
  refine wpAnyH_take (i := 9) (oi := { dst := some 51, op := Go.Op.build 27 #[(0, Go.Operand.tmp 44), (1, Go.Operand.tmp 47), (2, Go.Operand.tmp 50)], type := 27, pos := _, after := #[{ on := 2, ground := Go.Ground.data }, { on := 5, ground := Go.Ground.data }, { on := 8, ground := Go.Ground.data }], guard := none }) (v := .agg #[.int .u8 (x0.toNat : Int), .int .u8 (x1.toNat : Int), .int .u8 (x2.toNat : Int), .int .u32 0, .slice none 0 0, .slice none 0 0]) rfl (by kernel_rfl) (by kernel_rfl) (by kernel_rfl) (fun _ _ _ h => h) (Or.inl ⟨by rfl, fun W hW => by go_simp⟩) (by assumption) ?_
  try simp only [Act.put, List.setIfInBounds_toArray, List.set_cons_zero, List.set_cons_succ]
  refine wpAnyH_ready (rs := [10]) (by kernel_rfl) (by simp) ?_
  refine AllReadyH.cons (o := { dst := some 5, op := Go.Op.alloc 27, type := 0, pos := _, after := #[], guard := none }) rfl (fun K hK => ?_) AllReadyH.nil
  go_simp
  have b5 : Below w1.heap.size w1 (w3.alloc (.cells #[.int .u8 0, .int .u8 0, .int .u8 0, .int .u32 0, .slice none 0 0, .slice none 0 0] 27)).drew := (b3.alloc z3 (.cells #[.int .u8 0, .int .u8 0, .int .u8 0, .int .u32 0, .slice none 0 0, .slice none 0 0] 27)).drew
  have b5' : Below w1.heap.size w1 (w3.drew.alloc (.cells #[.int .u8 0, .int .u8 0, .int .u8 0, .int .u32 0, .slice none 0 0, .slice none 0 0] 27)) := b3.drew.alloc z3 (.cells #[.int .u8 0, .int .u8 0, .int .u8 0, .int .u32 0, .slice none 0 0, .slice none 0 0] 27)
  refine hK.out _ _ (by first | exact b5 | exact b5') (fun hHeld => ?_)
  clear hK K
  try simp only [Act.put, List.setIfInBounds_toArray, List.set_cons_zero, List.set_cons_succ]
  refine wpAnyH_ready (rs := [11]) (by kernel_rfl) (by simp) ?_
  refine AllReadyH.cons (o := { dst := none, op := Go.Op.store 27 (Go.Operand.tmp 5) (Go.Operand.tmp 51), type := 0, pos := _, after := #[{ on := 10, ground := Go.Ground.data }, { on := 9, ground := Go.Ground.data }, { on := 0, ground := Go.Ground.phase }, { on := 1, ground := Go.Ground.phase }, { on := 2, ground := Go.Ground.phase }, { on := 3, ground := Go.Ground.phase }, { on := 4, ground := Go.Ground.phase }, { on := 5, ground := Go.Ground.phase }, { on := 6, ground := Go.Ground.phase }, { on := 7, ground := Go.Ground.phase }, { on := 8, ground := Go.Ground.phase }, { on := 9, ground := Go.Ground.phase }, { on := 10, ground := Go.Ground.phase }], guard := none }) rfl (fun K hK => ?_) AllReadyH.nil
  go_simp
  have b6 : Below w1.heap.size w1 (w3.alloc (.cells #[.int .u8 (x0.toNat : Int), .int .u8 (x1.toNat : Int), .int .u8 (x2.toNat : Int), .int .u32 0, .slice none 0 0, .slice none 0 0] 27)).drew := (b3.alloc z3 (.cells #[.int .u8 (x0.toNat : Int), .int .u8 (x1.toNat : Int), .int .u8 (x2.toNat : Int), .int .u32 0, .slice none 0 0, .slice none 0 0] 27)).drew
  refine hK.out _ _ b6 (fun hHeld => ?_)
  clear hK K
  try simp only [Act.put, List.setIfInBounds_toArray, List.set_cons_zero, List.set_cons_succ]
  refine wpAnyH_done (by kernel_rfl) ?_ _
  refine NoPanic.normal ?_
  clear hHeld b4
  have P4 : (w3.alloc (.cells #[.int .u8 (x0.toNat : Int), .int .u8 (x1.toNat : Int), .int .u8 (x2.toNat : Int), .int .u32 0, .slice none 0 0, .slice none 0 0] 27)).drew.heap[w1.heap.size]? = some (.cells #[.int .u8 (x0.toNat : Int), .int .u8 (x1.toNat : Int), .int .u8 (x2.toNat : Int), .int .u32 0, .slice none 0 0, .slice none 0 0] 27 (0, 0)) := by rw [← e3]; exact heap_alloc_new w3 _
  have b4 : Below w1.heap.size w1 (w3.alloc (.cells #[.int .u8 (x0.toNat : Int), .int .u8 (x1.toNat : Int), .int .u8 (x2.toNat : Int), .int .u32 0, .slice none 0 0, .slice none 0 0] 27)).drew := (b3.alloc z3 (.cells #[.int .u8 (x0.toNat : Int), .int .u8 (x1.toNat : Int), .int .u8 (x2.toNat : Int), .int .u32 0, .slice none 0 0, .slice none 0 0] 27)).drew
  have z4 : w1.heap.size < (w3.alloc (.cells #[.int .u8 (x0.toNat : Int), .int .u8 (x1.toNat : Int), .int .u8 (x2.toNat : Int), .int .u32 0, .slice none 0 0, .slice none 0 0] 27)).drew.heap.size := by show _ < (w3.alloc _).heap.size; simp; omega
  generalize (w3.alloc (.cells #[.int .u8 (x0.toNat : Int), .int .u8 (x1.toNat : Int), .int .u8 (x2.toNat : Int), .int .u32 0, .slice none 0 0, .slice none 0 0] 27)).drew = w4 at *
  try rw [e3]
  obtain ⟨P, hP⟩ : ∃ P, P = w1.heap.size := ⟨_, rfl⟩
  rw [← hP] at P4 z4 ⊢
  have k8 := (Kept.refl P w4.heap.size w4).setCell 3 (.int .u32 (g : Int))
  have b8 : Below w1.heap.size w1 (w4.setCell ⟨P, 3, none⟩ (.int .u32 (g : Int))).drew := (b4.trans (k8.below (by omega) (by omega))).drew
  have P8 := six_set3 (.int .u32 (g : Int)) P4
  have z8 : P < (w4.setCell ⟨P, 3, none⟩ (.int .u32 (g : Int))).drew.heap.size := Nat.lt_of_lt_of_le z4 k8.size
  obtain ⟨m0, m1, m2, m3, m4, m5⟩ := six_cells P4
  have fP := fun i => box_frozen (i := i) P4
  have HP : Hid (P = w1.heap.size) := hP
  clear b3 z3 e3 P4 z4 hP
  go_wp2_with fail
  have b5 : Below w1.heap.size w1 w4.drew := b4.drew
  refine wp_region_noPanic ?_
  refine wp_region_held_drew (S := fun W => Below w1.heap.size w1 W) (by kernel_rfl) b5 (fun hHeld => ?_)
  refine wpAnyH_take (i := 0) (oi := { dst := some 52, op := Go.Op.move (Go.Operand.tmp 0), type := 30, pos := _, after := #[], guard := none }) (v := .slice (some ⟨b, off, none⟩) L cap) rfl (by kernel_rfl) (by kernel_rfl) (by kernel_rfl) (fun _ _ _ h => h) (Or.inl ⟨by rfl, fun W hW => by go_simp⟩) (by assumption) ?_
  try simp only [Act.put, List.setIfInBounds_toArray, List.set_cons_zero, List.set_cons_succ]
  refine wpAnyH_take (i := 1) (oi := { dst := some 53, op := Go.Op.indexAddr 30 (Go.Operand.tmp 52) (Go.Operand.const (Go.Value.int Go.IntKind.i64 3)), type := 0, pos := _, after := #[{ on := 0, ground := Go.Ground.data }], guard := none }) (v := .pointer (some ⟨b, off + 3, none⟩)) rfl (by kernel_rfl) (by kernel_rfl) (by kernel_rfl) (fun _ _ _ h => h) (Or.inl ⟨by rfl, fun W hW => by go_simp⟩) (by assumption) ?_
  try simp only [Act.put, List.setIfInBounds_toArray, List.set_cons_zero, List.set_cons_succ]
  refine wpAnyH_take (i := 2) (oi := { dst := some 54, op := Go.Op.load 5 (Go.Operand.tmp 53), type := 5, pos := _, after := #[{ on := 1, ground := Go.Ground.data }], guard := none }) (v := .int .u8 Y3) rfl (by kernel_rfl) (by kernel_rfl) (by kernel_rfl) (fun _ _ _ h => h) (Or.inl ⟨by rfl, fun W hW => by have h1 := (hW.cell hbl1).trans c3; go_simp⟩) (by assumption) ?_
  try simp only [Act.put, List.setIfInBounds_toArray, List.set_cons_zero, List.set_cons_succ]
  refine wpAnyH_take (i := 3) (oi := { dst := some 55, op := Go.Op.convert 5 23 (Go.Operand.tmp 54), type := 23, pos := _, after := #[{ on := 2, ground := Go.Ground.data }], guard := none }) (v := .int .u32 Y3) rfl (by kernel_rfl) (by kernel_rfl) (by kernel_rfl) (fun _ _ _ h => h) (Or.inl ⟨by rfl, fun W hW => by have o0 := (show IntKind.u32.wrap Y3 = Y3 by rw [IntKind.wrap_u32]; omega); go_simp⟩) (by assumption) ?_
  try simp only [Act.put, List.setIfInBounds_toArray, List.set_cons_zero, List.set_cons_succ]
  refine wpAnyH_take (i := 4) (oi := { dst := some 56, op := Go.Op.binOp Go.BinOp.mul 23 (Go.Operand.const (Go.Value.int Go.IntKind.u32 16777216)) (Go.Operand.tmp 55) 23, type := 23, pos := _, after := #[{ on := 3, ground := Go.Ground.data }], guard := none }) (v := .int .u32 E0) rfl (by kernel_rfl) (by kernel_rfl) (by kernel_rfl) (fun _ _ _ h => h) (Or.inl ⟨by rfl, fun W hW => by have o0 := rr0.out; go_simp⟩) (by assumption) ?_
  try simp only [Act.put, List.setIfInBounds_toArray, List.set_cons_zero, List.set_cons_succ]
  refine wpAnyH_take (i := 5) (oi := { dst := some 57, op := Go.Op.move (Go.Operand.tmp 0), type := 30, pos := _, after := #[], guard := none }) (v := .slice (some ⟨b, off, none⟩) L cap) rfl (by kernel_rfl) (by kernel_rfl) (by kernel_rfl) (fun _ _ _ h => h) (Or.inl ⟨by rfl, fun W hW => by go_simp⟩) (by assumption) ?_
  try simp only [Act.put, List.setIfInBounds_toArray, List.set_cons_zero, List.set_cons_succ]
  refine wpAnyH_take (i := 6) (oi := { dst := some 58, op := Go.Op.indexAddr 30 (Go.Operand.tmp 57) (Go.Operand.const (Go.Value.int Go.IntKind.i64 4)), type := 0, pos := _, after := #[{ on := 5, ground := Go.Ground.data }], guard := none }) (v := .pointer (some ⟨b, off + 4, none⟩)) rfl (by kernel_rfl) (by kernel_rfl) (by kernel_rfl) (fun _ _ _ h => h) (Or.inl ⟨by rfl, fun W hW => by go_simp⟩) (by assumption) ?_
  try simp only [Act.put, List.setIfInBounds_toArray, List.set_cons_zero, List.set_cons_succ]
  refine wpAnyH_take (i := 7) (oi := { dst := some 59, op := Go.Op.load 5 (Go.Operand.tmp 58), type := 5, pos := _, after := #[{ on := 6, ground := Go.Ground.data }], guard := none }) (v := .int .u8 Y4) rfl (by kernel_rfl) (by kernel_rfl) (by kernel_rfl) (fun _ _ _ h => h) (Or.inl ⟨by rfl, fun W hW => by have h1 := (hW.cell hbl1).trans c4; go_simp⟩) (by assumption) ?_
  try simp only [Act.put, List.setIfInBounds_toArray, List.set_cons_zero, List.set_cons_succ]
  refine wpAnyH_take (i := 8) (oi := { dst := some 60, op := Go.Op.convert 5 23 (Go.Operand.tmp 59), type := 23, pos := _, after := #[{ on := 7, ground := Go.Ground.data }], guard := none }) (v := .int .u32 Y4) rfl (by kernel_rfl) (by kernel_rfl) (by kernel_rfl) (fun _ _ _ h => h) (Or.inl ⟨by rfl, fun W hW => by have o0 := (show IntKind.u32.wrap Y4 = Y4 by rw [IntKind.wrap_u32]; omega); go_simp⟩) (by assumption) ?_
  try simp only [Act.put, List.setIfInBounds_toArray, List.set_cons_zero, List.set_cons_succ]
  refine wpAnyH_take (i := 9) (oi := { dst := some 61, op := Go.Op.binOp Go.BinOp.mul 23 (Go.Operand.const (Go.Value.int Go.IntKind.u32 65536)) (Go.Operand.tmp 60) 23, type := 23, pos := _, after := #[{ on := 8, ground := Go.Ground.data }], guard := none }) (v := .int .u32 E1) rfl (by kernel_rfl) (by kernel_rfl) (by kernel_rfl) (fun _ _ _ h => h) (Or.inl ⟨by rfl, fun W hW => by have o0 := rr1.out; go_simp⟩) (by assumption) ?_
  try simp only [Act.put, List.setIfInBounds_toArray, List.set_cons_zero, List.set_cons_succ]
  refine wpAnyH_take (i := 10) (oi := { dst := some 62, op := Go.Op.binOp Go.BinOp.add 23 (Go.Operand.tmp 56) (Go.Operand.tmp 61) 23, type := 23, pos := _, after := #[{ on := 4, ground := Go.Ground.data }, { on := 9, ground := Go.Ground.data }], guard := none }) (v := .int .u32 G0) rfl (by kernel_rfl) (by kernel_rfl) (by kernel_rfl) (fun _ _ _ h => h) (Or.inl ⟨by rfl, fun W hW => by have o0 := rr3.out; go_simp⟩) (by assumption) ?_
  try simp only [Act.put, List.setIfInBounds_toArray, List.set_cons_zero, List.set_cons_succ]
  refine wpAnyH_take (i := 11) (oi := { dst := some 63, op := Go.Op.move (Go.Operand.tmp 0), type := 30, pos := _, after := #[], guard := none }) (v := .slice (some ⟨b, off, none⟩) L cap) rfl (by kernel_rfl) (by kernel_rfl) (by kernel_rfl) (fun _ _ _ h => h) (Or.inl ⟨by rfl, fun W hW => by go_simp⟩) (by assumption) ?_
  try simp only [Act.put, List.setIfInBounds_toArray, List.set_cons_zero, List.set_cons_succ]
  refine wpAnyH_take (i := 12) (oi := { dst := some 64, op := Go.Op.indexAddr 30 (Go.Operand.tmp 63) (Go.Operand.const (Go.Value.int Go.IntKind.i64 5)), type := 0, pos := _, after := #[{ on := 11, ground := Go.Ground.data }], guard := none }) (v := .pointer (some ⟨b, off + 5, none⟩)) rfl (by kernel_rfl) (by kernel_rfl) (by kernel_rfl) (fun _ _ _ h => h) (Or.inl ⟨by rfl, fun W hW => by go_simp⟩) (by assumption) ?_
  try simp only [Act.put, List.setIfInBounds_toArray, List.set_cons_zero, List.set_cons_succ]
  refine wpAnyH_take (i := 13) (oi := { dst := some 65, op := Go.Op.load 5 (Go.Operand.tmp 64), type := 5, pos := _, after := #[{ on := 12, ground := Go.Ground.data }], guard := none }) (v := .int .u8 Y5) rfl (by kernel_rfl) (by kernel_rfl) (by kernel_rfl) (fun _ _ _ h => h) (Or.inl ⟨by rfl, fun W hW => by have h1 := (hW.cell hbl1).trans c5; go_simp⟩) (by assumption) ?_
  try simp only [Act.put, List.setIfInBounds_toArray, List.set_cons_zero, List.set_cons_succ]
  refine wpAnyH_take (i := 14) (oi := { dst := some 66, op := Go.Op.convert 5 23 (Go.Operand.tmp 65), type := 23, pos := _, after := #[{ on := 13, ground := Go.Ground.data }], guard := none }) (v := .int .u32 Y5) rfl (by kernel_rfl) (by kernel_rfl) (by kernel_rfl) (fun _ _ _ h => h) (Or.inl ⟨by rfl, fun W hW => by have o0 := (show IntKind.u32.wrap Y5 = Y5 by rw [IntKind.wrap_u32]; omega); go_simp⟩) (by assumption) ?_
  try simp only [Act.put, List.setIfInBounds_toArray, List.set_cons_zero, List.set_cons_succ]
  refine wpAnyH_take (i := 15) (oi := { dst := some 67, op := Go.Op.binOp Go.BinOp.mul 23 (Go.Operand.const (Go.Value.int Go.IntKind.u32 256)) (Go.Operand.tmp 66) 23, type := 23, pos := _, after := #[{ on := 14, ground := Go.Ground.data }], guard := none }) (v := .int .u32 E2) rfl (by kernel_rfl) (by kernel_rfl) (by kernel_rfl) (fun _ _ _ h => h) (Or.inl ⟨by rfl, fun W hW => by have o0 := rr2.out; go_simp⟩) (by assumption) ?_
  try simp only [Act.put, List.setIfInBounds_toArray, List.set_cons_zero, List.set_cons_succ]
  refine wpAnyH_take (i := 16) (oi := { dst := some 68, op := Go.Op.binOp Go.BinOp.add 23 (Go.Operand.tmp 62) (Go.Operand.tmp 67) 23, type := 23, pos := _, after := #[{ on := 10, ground := Go.Ground.data }, { on := 15, ground := Go.Ground.data }], guard := none }) (v := .int .u32 G1) rfl (by kernel_rfl) (by kernel_rfl) (by kernel_rfl) (fun _ _ _ h => h) (Or.inl ⟨by rfl, fun W hW => by have o0 := rr4.out; go_simp⟩) (by assumption) ?_
  try simp only [Act.put, List.setIfInBounds_toArray, List.set_cons_zero, List.set_cons_succ]
  refine wpAnyH_take (i := 17) (oi := { dst := some 69, op := Go.Op.move (Go.Operand.tmp 0), type := 30, pos := _, after := #[], guard := none }) (v := .slice (some ⟨b, off, none⟩) L cap) rfl (by kernel_rfl) (by kernel_rfl) (by kernel_rfl) (fun _ _ _ h => h) (Or.inl ⟨by rfl, fun W hW => by go_simp⟩) (by assumption) ?_
  try simp only [Act.put, List.setIfInBounds_toArray, List.set_cons_zero, List.set_cons_succ]
  refine wpAnyH_take (i := 18) (oi := { dst := some 70, op := Go.Op.indexAddr 30 (Go.Operand.tmp 69) (Go.Operand.const (Go.Value.int Go.IntKind.i64 6)), type := 0, pos := _, after := #[{ on := 17, ground := Go.Ground.data }], guard := none }) (v := .pointer (some ⟨b, off + 6, none⟩)) rfl (by kernel_rfl) (by kernel_rfl) (by kernel_rfl) (fun _ _ _ h => h) (Or.inl ⟨by rfl, fun W hW => by go_simp⟩) (by assumption) ?_
  try simp only [Act.put, List.setIfInBounds_toArray, List.set_cons_zero, List.set_cons_succ]
  refine wpAnyH_take (i := 19) (oi := { dst := some 71, op := Go.Op.load 5 (Go.Operand.tmp 70), type := 5, pos := _, after := #[{ on := 18, ground := Go.Ground.data }], guard := none }) (v := .int .u8 Y6) rfl (by kernel_rfl) (by kernel_rfl) (by kernel_rfl) (fun _ _ _ h => h) (Or.inl ⟨by rfl, fun W hW => by have h1 := (hW.cell hbl1).trans c6; go_simp⟩) (by assumption) ?_
  try simp only [Act.put, List.setIfInBounds_toArray, List.set_cons_zero, List.set_cons_succ]
  refine wpAnyH_take (i := 20) (oi := { dst := some 72, op := Go.Op.convert 5 23 (Go.Operand.tmp 71), type := 23, pos := _, after := #[{ on := 19, ground := Go.Ground.data }], guard := none }) (v := .int .u32 Y6) rfl (by kernel_rfl) (by kernel_rfl) (by kernel_rfl) (fun _ _ _ h => h) (Or.inl ⟨by rfl, fun W hW => by have o0 := (show IntKind.u32.wrap Y6 = Y6 by rw [IntKind.wrap_u32]; omega); go_simp⟩) (by assumption) ?_
  try simp only [Act.put, List.setIfInBounds_toArray, List.set_cons_zero, List.set_cons_succ]
  refine wpAnyH_take (i := 21) (oi := { dst := some 73, op := Go.Op.binOp Go.BinOp.add 23 (Go.Operand.tmp 68) (Go.Operand.tmp 72) 23, type := 23, pos := _, after := #[{ on := 16, ground := Go.Ground.data }, { on := 20, ground := Go.Ground.data }], guard := none }) (v := .int .u32 (g : Int)) rfl (by kernel_rfl) (by kernel_rfl) (by kernel_rfl) (fun _ _ _ h => h) (Or.inl ⟨by rfl, fun W hW => by have o0 := rr5.out; go_simp⟩) (by assumption) ?_
  try simp only [Act.put, List.setIfInBounds_toArray, List.set_cons_zero, List.set_cons_succ]
  refine wpAnyH_take (i := 22) (oi := { dst := some 74, op := Go.Op.fieldAddr 27 (Go.Operand.tmp 5) 3, type := 0, pos := _, after := #[{ on := 0, ground := Go.Ground.phase }, { on := 1, ground := Go.Ground.phase }, { on := 2, ground := Go.Ground.phase }, { on := 3, ground := Go.Ground.phase }, { on := 4, ground := Go.Ground.phase }, { on := 5, ground := Go.Ground.phase }, { on := 6, ground := Go.Ground.phase }, { on := 7, ground := Go.Ground.phase }, { on := 8, ground := Go.Ground.phase }, { on := 9, ground := Go.Ground.phase }, { on := 10, ground := Go.Ground.phase }, { on := 11, ground := Go.Ground.phase }, { on := 12, ground := Go.Ground.phase }, { on := 13, ground := Go.Ground.phase }, { on := 14, ground := Go.Ground.phase }, { on := 15, ground := Go.Ground.phase }, { on := 16, ground := Go.Ground.phase }, { on := 17, ground := Go.Ground.phase }, { on := 18, ground := Go.Ground.phase }, { on := 19, ground := Go.Ground.phase }, { on := 20, ground := Go.Ground.phase }, { on := 21, ground := Go.Ground.phase }], guard := none }) (v := .pointer (some ⟨P, 3, none⟩)) rfl (by kernel_rfl) (by kernel_rfl) (by kernel_rfl) (fun _ _ _ h => h) (Or.inl ⟨by rfl, fun W hW => by go_simp⟩) (by assumption) ?_
  try simp only [Act.put, List.setIfInBounds_toArray, List.set_cons_zero, List.set_cons_succ]
  refine wpAnyH_ready (rs := [23]) (by kernel_rfl) (by simp) ?_
  refine AllReadyH.cons (o := { dst := none, op := Go.Op.store 23 (Go.Operand.tmp 74) (Go.Operand.tmp 73), type := 0, pos := _, after := #[{ on := 22, ground := Go.Ground.data }, { on := 21, ground := Go.Ground.data }, { on := 0, ground := Go.Ground.phase }, { on := 1, ground := Go.Ground.phase }, { on := 2, ground := Go.Ground.phase }, { on := 3, ground := Go.Ground.phase }, { on := 4, ground := Go.Ground.phase }, { on := 5, ground := Go.Ground.phase }, { on := 6, ground := Go.Ground.phase }, { on := 7, ground := Go.Ground.phase }, { on := 8, ground := Go.Ground.phase }, { on := 9, ground := Go.Ground.phase }, { on := 10, ground := Go.Ground.phase }, { on := 11, ground := Go.Ground.phase }, { on := 12, ground := Go.Ground.phase }, { on := 13, ground := Go.Ground.phase }, { on := 14, ground := Go.Ground.phase }, { on := 15, ground := Go.Ground.phase }, { on := 16, ground := Go.Ground.phase }, { on := 17, ground := Go.Ground.phase }, { on := 18, ground := Go.Ground.phase }, { on := 19, ground := Go.Ground.phase }, { on := 20, ground := Go.Ground.phase }, { on := 21, ground := Go.Ground.phase }], guard := none }) rfl (fun K hK => ?_) AllReadyH.nil
  go_simp
  refine hK.out _ _ b8 (fun hHeld => ?_)
  clear hK K
  try simp only [Act.put, List.setIfInBounds_toArray, List.set_cons_zero, List.set_cons_succ]
  refine wpAnyH_done (by kernel_rfl) ?_ _
  refine NoPanic.normal ?_
  clear hHeld m0 m1 m2 m3 m4 m5 fP b5 b4 k8
  clear q101 q102 q103 q104 q105 q106 q107 q108 q109 q110 l3 u3 l4 u4 l5 u5 l6 u6 l7 u7 l8 u8 l9 u9 l10 u10 p0 rr0 p1 rr1 p2 rr2 p3 rr3 p4 rr4 p5 rr5 c3 c4 c5 c6 c7 c8 c9 c10 s7 s3
  clear c0 c1 c2
  replace P8 : (w4.setCell ⟨P, 3, none⟩ (.int .u32 (g : Int))).drew.heap[P]? = some (.cells #[.int .u8 (x0.toNat : Int), .int .u8 (x1.toNat : Int), .int .u8 (x2.toNat : Int), .int .u32 (g : Int), .slice none 0 0, .slice none 0 0] 27 (0, 0)) := P8
  generalize (w4.setCell ⟨P, 3, none⟩ (.int .u32 (g : Int))).drew = w5 at *
  obtain ⟨M, hM⟩ : ∃ M, M = 11 + n := ⟨_, rfl⟩
  have hn9 := nn.out
  have k1 : IntKind.i64.wrap (11 + (n : Int)) = (M : Int) := by rw [IntKind.wrap_i64]; omega
  have k2 : (11 : Int) ≤ (M : Int) := by omega
  have k3 : (M : Int) ≤ (cap : Int) := by omega
  have k4 : (M : Int) ≤ (L : Int) := by omega
  have k5 : M - 11 = n := by omega
  obtain ⟨o2, hro⟩ : ∃ o2, (if cap = 11 then some (⟨b, off, none⟩ : Addr) else some ⟨b, off + 11, none⟩) = some ⟨b, o2, none⟩ := by
    by_cases e : cap = 11
    · exact ⟨_, by rw [if_pos e]⟩
    · exact ⟨_, by rw [if_neg e]⟩
  obtain ⟨o3, hro3⟩ : ∃ o3, (if cap = M then some (⟨b, off, none⟩ : Addr) else some ⟨b, off + M, none⟩) = some ⟨b, o3, none⟩ := by
    by_cases e : cap = M
    · exact ⟨_, by rw [if_pos e]⟩
    · exact ⟨_, by rw [if_neg e]⟩
  have sA : InAt w1 w1.heap.size (.slice (some ⟨b, o2, none⟩) n (cap - 11)) ((bs.drop 11).take n) := by
    have h := in_drop (n := 11) (ao' := some ⟨b, o2, none⟩) hb1 (by rw [← HL.out]; omega) (fun hlt _ _ e => by cases e; rw [← hro, if_neg (by omega)])
    rw [← List.length_drop] at h
    exact in_take h (by rw [List.length_drop, ← HL.out]; omega)
  have sB : InAt w1 w1.heap.size (.slice (some ⟨b, o3, none⟩) (L - M) (cap - M)) ((bs.drop 11).drop n) := by
    have h := in_drop (n := M) (ao' := some ⟨b, o3, none⟩) hb1 (by rw [← HL.out]; omega) (fun hlt _ _ e => by cases e; rw [← hro3, if_neg (by omega)])
    rw [List.drop_drop, show 11 + n = M by omega]
    rw [← HL.out] at h
    exact h
  have zP : w1.heap.size ≤ P := by have := HP.out; omega
  have z5 : w1.heap.size ≤ w5.heap.size := b8.size
  have kg := refGetOps_any w5 _ _ ((sA.below b8 (Nat.le_refl _)).mono b8.size)
  rw [hpo] at kg
  clear sA hpo hM hn9 nn ng hb1 HL
  go_wp2_with fail
  refine kg.mono ?_
  rintro e w6 ⟨vo, rfl, oo, b6⟩
  obtain ⟨oa, oc, rfl⟩ := own_len oo
  try simp only at oo
  have P6 := (b6.block _ z8).trans P8
  have z6 := Nat.lt_of_lt_of_le z8 b6.size
  have b9 := b8.trans (b6.mono b8.size)
  have kr := refGetResultsO_any w6 _ _ ((sB.below b9 (Nat.le_refl _)).mono b9.size)
  rw [hpr] at kr
  have zX5 := Nat.lt_of_lt_of_le zX zP
  have z8' : P < w5.heap.size := z8
  clear sB hpr kg P8 b8
  go_wp2_with fail
  refine kr.mono ?_
  rintro e w7 ⟨vr, rfl, ho, b7⟩
  obtain ⟨l, hl1, hl2⟩ := ho.out
  try simp only at hl1
  obtain ⟨ra, rc, rfl⟩ := own_len hl2.own
  have oo7 := own_below oo b7
  have P7 := (b7.block _ z6).trans P6
  have z7 := Nat.lt_of_lt_of_le z6 b7.size
  have b10 := b9.trans (b7.mono b9.size)
  have kA := (Kept.refl P w7.heap.size w7).setCell 4 (.slice oa lo.length oc)
  have kB := kA.setCell 5 (.slice ra l.length rc)
  have PB := six_set5 (.slice ra l.length rc) (six_set4 (.slice oa lo.length oc) P7)
  have b11 := b10.trans (kB.below zP b10.size)
  have zB := Nat.lt_of_lt_of_le z7 kB.size
  have ooB := own_keptR oo7 z8 kB
  have olB := hl2.kept z6 kB
  have xB := (b11.block _ zX).trans PX
  have x7w := (b10.block _ zX).trans PX
  have hne : ¬ w.heap.size = P := by have := HP.out; omega
  clear kr ho oo b6 b7 b9 b10 oo7 hl2 P6 kA
  obtain ⟨m0, m1, m2, m3, m4, m5⟩ := six_cells P7
  have fP := fun i => box_frozen (i := i) P7
  have fB := fun i => box_frozen (i := i) PB
  go_wp2_with fail
  generalize (w7.setCell ⟨P, 4, none⟩ (.slice oa lo.length oc)).setCell ⟨P, 5, none⟩ (.slice ra l.length rc) = w9 at *
  clear m0 m1 m2 m3 m4 m5 fP fB P7 x7w kB
  have M9 : MsgAt w9 w9.heap.size (.slice oa lo.length oc) (.slice ra l.length rc) (rawM bs) l := by
    refine ⟨?_, ?_, olB.at (fun p hp x hx => ?_), ?_⟩
    · rw [HO.out]; exact sl_own opCells_len ooB
    · rw [HO.out]; intro x hx
      have h := List.all_eq_true.mp la.out x hx
      have h1 := opOk_key h
      have h2 := opOk_to h
      exact ⟨by unfold maxLen; omega, by unfold maxLen; omega⟩
    · have h : p.2 ∈ lr := by rw [← hl1]; exact List.mem_map.2 ⟨p, hp, rfl⟩
      exact small16 (List.all_eq_true.mp (List.all_eq_true.mp lb.out _ h) x hx)
    · rw [HRR.out]; exact hl1
  refine (kC.out w9 _ _ l M9).mono ?_
  rintro e wc ⟨rfl, bc⟩
  have PC := (bc.block _ zB).trans PB
  have xC := (bc.block _ (Nat.lt_of_lt_of_le zX b11.size)).trans xB
  have b12 := b11.trans (bc.mono b11.size)
  have ooC := own_below ooB bc
  have olC := OwnRes.below olB bc
  obtain ⟨m0, m1, m2, m3, m4, m5⟩ := six_cells PC
  obtain ⟨y0, y1, y2, y3, y4, y5⟩ := six_cells xC
  have fX := fun i => box_frozen (i := i) xC
  obtain ⟨x10, k10⟩ := six_store xC (.int .u8 0) (.int .u8 0) (.int .u8 0) (.int .u32 0) (.slice none 0 0) (.slice none 0 0)
  have b14 := (B1.trans (b12.mono B1.size)).trans (k10.below (Nat.le_refl _) (Nat.le_of_lt (Nat.lt_of_lt_of_le zX b12.size)))
  clear M9 kC olB ooB PB xB bc la lb HO HRR
  go_wp2
  generalize ((((((wc).setCell ⟨w.heap.size, 0, none⟩ (.int .u8 0)).setCell ⟨w.heap.size, 1, none⟩ (.int .u8 0)).setCell ⟨w.heap.size, 2, none⟩ (.int .u8 0)).setCell ⟨w.heap.size, 3, none⟩ (.int .u32 0)).setCell ⟨w.heap.size, 4, none⟩ (.slice none 0 0)).setCell ⟨w.heap.size, 5, none⟩ (.slice none 0 0) = w10 at *
  obtain ⟨t0, t1, t2, t3, t4, t5⟩ := six_cells x10
  refine bodyPost_ret (v := .tuple #[.agg #[.int .u8 0, .int .u8 0, .int .u8 0, .int .u32 0, .slice none 0 0, .slice none 0 0], .int .i64 4]) (by simp [results, Tryz.results18, go_sem, t0, t1, t2, t3, t4, t5]) rfl ⟨rfl, b14⟩
set_option maxHeartbeats 3000000 in
set_option maxRecDepth 1000000 in
theorem rGet_ok (w : World) (vb : Value) (bs : List UInt8) (hb : InAt w w.heap.size vb bs) (hl : ¬ bs.length < 11) (ho : numAt 7 bs ≤ bs.length - 11) (lo : List OpD) (lr : List (List RowD)) (hpo : getOps ((bs.drop 11).take (numAt 7 bs)) = (lo, 0)) (hpr : getRes ((bs.drop 11).drop (numAt 7 bs)) = (lr, 0)) (la' : lo.all opOk = true) (lb' : lr.all resOk = true) (hok : (rawM bs).ok = true) :
    Calls Tryz.prog 18 #[vb] w fun e w' => ∃ oa on oc ra rn rc, e = .returned (.tuple #[.agg #[.int .u8 ((rawM bs).say.toNat : Int), .int .u8 ((rawM bs).src.toNat : Int), .int .u8 ((rawM bs).dst.toNat : Int), .int .u32 ((rawM bs).g.toNat : Int), .slice oa on oc, .slice ra rn rc], .int .i64 0]) ∧ w'.ownsRow w.heap.size 85 4 (.slice oa on oc) lo.length (lo.flatMap opCells) ∧ (∃ l, OwnRes w' w.heap.size (.slice ra rn rc) l ∧ l.map (·.2) = lr) ∧ Below w.heap.size w w' := by
  have hb0 := hb
  obtain ⟨ao, cap, rfl, h1, h2, hc⟩ := hb
  unfold maxLen at h2
  obtain ⟨b, off, rfl, hbl, hcell⟩ := hc (by omega)
  have i11 : ¬ (bs.length : Int) < 11 := by omega
  obtain ⟨w1, hw1⟩ : ∃ w1, w1 = w.alloc (.cells #[.int .u8 0, .int .u8 0, .int .u8 0, .int .u32 0, .slice none 0 0, .slice none 0 0] 27) := ⟨_, rfl⟩
  have B1 : Below w.heap.size w w1 := by rw [hw1]; exact below_one w _
  have C0 := hcell 0 (by omega) 0 _ rfl
  have C1 := hcell 1 (by omega) 0 _ rfl
  have C2 := hcell 2 (by omega) 0 _ rfl
  have C3 := hcell 3 (by omega) 0 _ rfl
  have C4 := hcell 4 (by omega) 0 _ rfl
  have C5 := hcell 5 (by omega) 0 _ rfl
  have C6 := hcell 6 (by omega) 0 _ rfl
  have C7 := hcell 7 (by omega) 0 _ rfl
  have C8 := hcell 8 (by omega) 0 _ rfl
  have C9 := hcell 9 (by omega) 0 _ rfl
  have C10 := hcell 10 (by omega) 0 _ rfl
  simp only [Nat.zero_mul, Nat.one_mul, Nat.add_zero, Nat.mul_one, bv] at C0 C1 C2 C3 C4 C5 C6 C7 C8 C9 C10
  obtain ⟨r0, r1, r2, r3⟩ := raw_head hl
  rw [← r0] at C0
  rw [← r1] at C1
  rw [← r2] at C2
  obtain ⟨x0, hx0⟩ : ∃ x, x = (rawM bs).say := ⟨_, rfl⟩
  obtain ⟨x1, hx1⟩ : ∃ x, x = (rawM bs).src := ⟨_, rfl⟩
  obtain ⟨x2, hx2⟩ : ∃ x, x = (rawM bs).dst := ⟨_, rfl⟩
  rw [← hx0] at C0
  rw [← hx1] at C1
  rw [← hx2] at C2
  have b3 := u8_lt (bs[3]'(by omega))
  obtain ⟨Y3, hy3⟩ : ∃ y : Int, y = ((bs[3]'(by omega)).toNat : Int) := ⟨_, rfl⟩
  rw [← hy3] at C3
  have l3 : 0 ≤ Y3 := by omega
  have u3 : Y3 < 256 := by omega
  have b4 := u8_lt (bs[4]'(by omega))
  obtain ⟨Y4, hy4⟩ : ∃ y : Int, y = ((bs[4]'(by omega)).toNat : Int) := ⟨_, rfl⟩
  rw [← hy4] at C4
  have l4 : 0 ≤ Y4 := by omega
  have u4 : Y4 < 256 := by omega
  have b5 := u8_lt (bs[5]'(by omega))
  obtain ⟨Y5, hy5⟩ : ∃ y : Int, y = ((bs[5]'(by omega)).toNat : Int) := ⟨_, rfl⟩
  rw [← hy5] at C5
  have l5 : 0 ≤ Y5 := by omega
  have u5 : Y5 < 256 := by omega
  have b6 := u8_lt (bs[6]'(by omega))
  obtain ⟨Y6, hy6⟩ : ∃ y : Int, y = ((bs[6]'(by omega)).toNat : Int) := ⟨_, rfl⟩
  rw [← hy6] at C6
  have l6 : 0 ≤ Y6 := by omega
  have u6 : Y6 < 256 := by omega
  have b7 := u8_lt (bs[7]'(by omega))
  obtain ⟨Y7, hy7⟩ : ∃ y : Int, y = ((bs[7]'(by omega)).toNat : Int) := ⟨_, rfl⟩
  rw [← hy7] at C7
  have l7 : 0 ≤ Y7 := by omega
  have u7 : Y7 < 256 := by omega
  have b8 := u8_lt (bs[8]'(by omega))
  obtain ⟨Y8, hy8⟩ : ∃ y : Int, y = ((bs[8]'(by omega)).toNat : Int) := ⟨_, rfl⟩
  rw [← hy8] at C8
  have l8 : 0 ≤ Y8 := by omega
  have u8 : Y8 < 256 := by omega
  have b9 := u8_lt (bs[9]'(by omega))
  obtain ⟨Y9, hy9⟩ : ∃ y : Int, y = ((bs[9]'(by omega)).toNat : Int) := ⟨_, rfl⟩
  rw [← hy9] at C9
  have l9 : 0 ≤ Y9 := by omega
  have u9 : Y9 < 256 := by omega
  have b10 := u8_lt (bs[10]'(by omega))
  obtain ⟨Y10, hy10⟩ : ∃ y : Int, y = ((bs[10]'(by omega)).toNat : Int) := ⟨_, rfl⟩
  rw [← hy10] at C10
  have l10 : 0 ≤ Y10 := by omega
  have u10 : Y10 < 256 := by omega
  have c0 : w1.cell? ⟨b, off, none⟩ = some (.int .u8 (x0.toNat : Int)) := (B1.cell hbl).trans C0
  have c1 : w1.cell? ⟨b, off + 1, none⟩ = some (.int .u8 (x1.toNat : Int)) := (B1.cell hbl).trans C1
  have c2 : w1.cell? ⟨b, off + 2, none⟩ = some (.int .u8 (x2.toNat : Int)) := (B1.cell hbl).trans C2
  have c3 : w1.cell? ⟨b, off + 3, none⟩ = some (.int .u8 Y3) := (B1.cell hbl).trans C3
  have c4 : w1.cell? ⟨b, off + 4, none⟩ = some (.int .u8 Y4) := (B1.cell hbl).trans C4
  have c5 : w1.cell? ⟨b, off + 5, none⟩ = some (.int .u8 Y5) := (B1.cell hbl).trans C5
  have c6 : w1.cell? ⟨b, off + 6, none⟩ = some (.int .u8 Y6) := (B1.cell hbl).trans C6
  have c7 : w1.cell? ⟨b, off + 7, none⟩ = some (.int .u8 Y7) := (B1.cell hbl).trans C7
  have c8 : w1.cell? ⟨b, off + 8, none⟩ = some (.int .u8 Y8) := (B1.cell hbl).trans C8
  have c9 : w1.cell? ⟨b, off + 9, none⟩ = some (.int .u8 Y9) := (B1.cell hbl).trans C9
  have c10 : w1.cell? ⟨b, off + 10, none⟩ = some (.int .u8 Y10) := (B1.cell hbl).trans C10
  have hb1 : InAt w1 w1.heap.size (.slice (some ⟨b, off, none⟩) bs.length cap) bs := (hb0.below B1 (Nat.le_refl _)).mono B1.size
  have hbl1 : b < w1.heap.size := Nat.lt_of_lt_of_le hbl B1.size
  have e7 := num_four hl 7 (by omega)
  have e3 := num_four hl 3 (by omega)
  simp only [Nat.reduceAdd] at e3 e7
  rw [← r3] at e3
  obtain ⟨g, hg⟩ : ∃ g, g = (rawM bs).g.toNat := ⟨_, rfl⟩
  obtain ⟨n, hn⟩ : ∃ n, n = numAt 7 bs := ⟨_, rfl⟩
  rw [← hg] at e3
  rw [← hn] at e7
  have s7 : Hid (16777216 * Y7 + 65536 * Y8 + 256 * Y9 + Y10 = (n : Int)) := by show _ = _; omega
  have s3 : Hid (16777216 * Y3 + 65536 * Y4 + 256 * Y5 + Y6 = (g : Int)) := by show _ = _; omega
  obtain ⟨A0, hA0⟩ : ∃ A : Int, A = 16777216 * Y7 := ⟨_, rfl⟩
  have p0 : Hid (IntKind.i64.wrap (16777216 * Y7) = A0) := by show _ = _; rw [IntKind.wrap_i64]; omega
  obtain ⟨A1, hA1⟩ : ∃ A : Int, A = 65536 * Y8 := ⟨_, rfl⟩
  have p1 : Hid (IntKind.i64.wrap (65536 * Y8) = A1) := by show _ = _; rw [IntKind.wrap_i64]; omega
  obtain ⟨A2, hA2⟩ : ∃ A : Int, A = 256 * Y9 := ⟨_, rfl⟩
  have p2 : Hid (IntKind.i64.wrap (256 * Y9) = A2) := by show _ = _; rw [IntKind.wrap_i64]; omega
  obtain ⟨S0, hS0⟩ : ∃ A : Int, A = A0 + A1 := ⟨_, rfl⟩
  have p3 : Hid (IntKind.i64.wrap (A0 + A1) = S0) := by show _ = _; rw [IntKind.wrap_i64]; omega
  obtain ⟨S1, hS1⟩ : ∃ A : Int, A = S0 + A2 := ⟨_, rfl⟩
  have p4 : Hid (IntKind.i64.wrap (S0 + A2) = S1) := by show _ = _; rw [IntKind.wrap_i64]; omega
  have p5 : Hid (IntKind.i64.wrap (S1 + Y10) = (n : Int)) := by show _ = _; have := s7.out; rw [IntKind.wrap_i64]; omega
  clear hA0 hA1 hA2 hS0 hS1
  obtain ⟨E0, hE0⟩ : ∃ A : Int, A = 16777216 * Y3 := ⟨_, rfl⟩
  have rr0 : Hid (IntKind.u32.wrap (16777216 * Y3) = E0) := by show _ = _; rw [IntKind.wrap_u32]; omega
  obtain ⟨E1, hE1⟩ : ∃ A : Int, A = 65536 * Y4 := ⟨_, rfl⟩
  have rr1 : Hid (IntKind.u32.wrap (65536 * Y4) = E1) := by show _ = _; rw [IntKind.wrap_u32]; omega
  obtain ⟨E2, hE2⟩ : ∃ A : Int, A = 256 * Y5 := ⟨_, rfl⟩
  have rr2 : Hid (IntKind.u32.wrap (256 * Y5) = E2) := by show _ = _; rw [IntKind.wrap_u32]; omega
  obtain ⟨G0, hG0⟩ : ∃ A : Int, A = E0 + E1 := ⟨_, rfl⟩
  have rr3 : Hid (IntKind.u32.wrap (E0 + E1) = G0) := by show _ = _; rw [IntKind.wrap_u32]; omega
  obtain ⟨G1, hG1⟩ : ∃ A : Int, A = G0 + E2 := ⟨_, rfl⟩
  have rr4 : Hid (IntKind.u32.wrap (G0 + E2) = G1) := by show _ = _; rw [IntKind.wrap_u32]; omega
  have rr5 : Hid (IntKind.u32.wrap (G1 + Y6) = (g : Int)) := by show _ = _; have := s3.out; rw [IntKind.wrap_u32]; omega
  clear hE0 hE1 hE2 hG0 hG1
  have nn : Hid (n < 4294967296) := by show _ < _; have := s7.out; omega
  have ng : Hid (g < 4294967296) := by show _ < _; have := s3.out; omega
  have q0 : (11 : Int) ≤ (bs.length : Int) := by omega
  have q1 : (11 : Int) ≤ (cap : Int) := by omega
  have q4 : ¬ bs.length = 0 := by omega
  have q101 : ¬ (bs.length : Int) ≤ 1 := by omega
  have q102 : ¬ (bs.length : Int) ≤ 2 := by omega
  have q103 : ¬ (bs.length : Int) ≤ 3 := by omega
  have q104 : ¬ (bs.length : Int) ≤ 4 := by omega
  have q105 : ¬ (bs.length : Int) ≤ 5 := by omega
  have q106 : ¬ (bs.length : Int) ≤ 6 := by omega
  have q107 : ¬ (bs.length : Int) ≤ 7 := by omega
  have q108 : ¬ (bs.length : Int) ≤ 8 := by omega
  have q109 : ¬ (bs.length : Int) ≤ 9 := by omega
  have q110 : ¬ (bs.length : Int) ≤ 10 := by omega
  have PX : w1.heap[w.heap.size]? = some (.cells #[.int .u8 0, .int .u8 0, .int .u8 0, .int .u32 0, .slice none 0 0, .slice none 0 0] 27 (0, 0)) := by rw [hw1]; exact heap_alloc_new w _
  have zX : w.heap.size < w1.heap.size := by rw [hw1]; simp
  have kC : Hid (∀ (W : World) (vo vr : Value) (l : List ResP), MsgAt W W.heap.size vo vr (rawM bs) l → Calls Tryz.prog 32 #[.agg #[.int .u8 (x0.toNat : Int), .int .u8 (x1.toNat : Int), .int .u8 (x2.toNat : Int), .int .u32 (g : Int), vo, vr]] W fun e w' => e = .returned (.bool true) ∧ Below W.heap.size W w') := fun W vo vr l h => by
    rw [hx0, hx1, hx2, hg]
    have k := refCheck7_any W vo vr _ l h
    rw [hok] at k
    exact k
  have HO : Hid ((rawM bs).ops = lo) := by show _ = _; unfold rawM; rw [hpo]
  have HRR : Hid ((rawM bs).res = lr) := by show _ = _; unfold rawM; rw [hpr]
  have la : Hid (lo.all opOk = true) := la'
  have lb : Hid (lr.all resOk = true) := lb'
  clear hok la' lb'
  rw [← hn] at ho hpo hpr
  rw [← hx0, ← hx1, ← hx2, ← hg]
  clear hx0 hx1 hx2 hg hn
  clear C0 C1 C2 C3 C4 C5 C6 C7 C8 C9 C10 hcell hc hb0 r0 r1 r2 r3 hy3 hy4 hy5 hy6 hy7 hy8 hy9 hy10 e3 e7 b3 b4 b5 b6 b7 b8 b9 b10
  obtain ⟨L, hL⟩ : ∃ L, L = bs.length := ⟨_, rfl⟩
  have HL : Hid (L = bs.length) := hL
  rw [← hL] at ho hl h1 i11 q0 q4 q101 q102 q103 q104 q105 q106 q107 q108 q109 q110 ⊢
  clear hL
  subst hw1
  go_enter Tryz.func18, Tryz.ntmps18
  go_wp2_with fail
  generalize w.alloc (.cells #[.int .u8 0, .int .u8 0, .int .u8 0, .int .u32 0, .slice none 0 0, .slice none 0 0] 27) = w1 at *
  have b0 : Below w1.heap.size w1 w1.drew := ⟨rfl, rfl, rfl, Nat.le_refl _, fun _ _ => rfl⟩
  obtain ⟨R, hR⟩ : ∃ R, R = L - 11 := ⟨_, rfl⟩
  have hw : IntKind.i64.wrap ((L : Int) - 11) = (R : Int) := by rw [IntKind.wrap_i64]; omega
  refine wp_region_noPanic ?_
  refine wp_region_held_drew (S := fun W => Below w1.heap.size w1 W) (by kernel_rfl) b0 (fun hHeld => ?_)
  refine wpAnyH_take (i := 0) (oi := { dst := some 14, op := Go.Op.move (Go.Operand.tmp 0), type := 30, pos := _, after := #[], guard := none }) (v := .slice (some ⟨b, off, none⟩) L cap) rfl (by kernel_rfl) (by kernel_rfl) (by kernel_rfl) (fun _ _ _ h => h) (Or.inl ⟨by rfl, fun W hW => by go_simp⟩) (by assumption) ?_
  try simp only [Act.put, List.setIfInBounds_toArray, List.set_cons_zero, List.set_cons_succ]
  refine wpAnyH_take (i := 1) (oi := { dst := some 15, op := Go.Op.indexAddr 30 (Go.Operand.tmp 14) (Go.Operand.const (Go.Value.int Go.IntKind.i64 7)), type := 0, pos := _, after := #[{ on := 0, ground := Go.Ground.data }], guard := none }) (v := .pointer (some ⟨b, off + 7, none⟩)) rfl (by kernel_rfl) (by kernel_rfl) (by kernel_rfl) (fun _ _ _ h => h) (Or.inl ⟨by rfl, fun W hW => by go_simp⟩) (by assumption) ?_
  try simp only [Act.put, List.setIfInBounds_toArray, List.set_cons_zero, List.set_cons_succ]
  refine wpAnyH_take (i := 2) (oi := { dst := some 16, op := Go.Op.load 5 (Go.Operand.tmp 15), type := 5, pos := _, after := #[{ on := 1, ground := Go.Ground.data }], guard := none }) (v := .int .u8 Y7) rfl (by kernel_rfl) (by kernel_rfl) (by kernel_rfl) (fun _ _ _ h => h) (Or.inl ⟨by rfl, fun W hW => by have h1 := (hW.cell hbl1).trans c7; go_simp⟩) (by assumption) ?_
  try simp only [Act.put, List.setIfInBounds_toArray, List.set_cons_zero, List.set_cons_succ]
  refine wpAnyH_take (i := 3) (oi := { dst := some 17, op := Go.Op.convert 5 2 (Go.Operand.tmp 16), type := 2, pos := _, after := #[{ on := 2, ground := Go.Ground.data }], guard := none }) (v := .int .i64 Y7) rfl (by kernel_rfl) (by kernel_rfl) (by kernel_rfl) (fun _ _ _ h => h) (Or.inl ⟨by rfl, fun W hW => by have o0 := (show IntKind.i64.wrap Y7 = Y7 by rw [IntKind.wrap_i64]; omega); go_simp⟩) (by assumption) ?_
  try simp only [Act.put, List.setIfInBounds_toArray, List.set_cons_zero, List.set_cons_succ]
  refine wpAnyH_take (i := 4) (oi := { dst := some 18, op := Go.Op.binOp Go.BinOp.mul 2 (Go.Operand.const (Go.Value.int Go.IntKind.i64 16777216)) (Go.Operand.tmp 17) 2, type := 2, pos := _, after := #[{ on := 3, ground := Go.Ground.data }], guard := none }) (v := .int .i64 A0) rfl (by kernel_rfl) (by kernel_rfl) (by kernel_rfl) (fun _ _ _ h => h) (Or.inl ⟨by rfl, fun W hW => by have o0 := p0.out; go_simp⟩) (by assumption) ?_
  try simp only [Act.put, List.setIfInBounds_toArray, List.set_cons_zero, List.set_cons_succ]
  refine wpAnyH_take (i := 5) (oi := { dst := some 19, op := Go.Op.move (Go.Operand.tmp 0), type := 30, pos := _, after := #[], guard := none }) (v := .slice (some ⟨b, off, none⟩) L cap) rfl (by kernel_rfl) (by kernel_rfl) (by kernel_rfl) (fun _ _ _ h => h) (Or.inl ⟨by rfl, fun W hW => by go_simp⟩) (by assumption) ?_
  try simp only [Act.put, List.setIfInBounds_toArray, List.set_cons_zero, List.set_cons_succ]
  refine wpAnyH_take (i := 6) (oi := { dst := some 20, op := Go.Op.indexAddr 30 (Go.Operand.tmp 19) (Go.Operand.const (Go.Value.int Go.IntKind.i64 8)), type := 0, pos := _, after := #[{ on := 5, ground := Go.Ground.data }], guard := none }) (v := .pointer (some ⟨b, off + 8, none⟩)) rfl (by kernel_rfl) (by kernel_rfl) (by kernel_rfl) (fun _ _ _ h => h) (Or.inl ⟨by rfl, fun W hW => by go_simp⟩) (by assumption) ?_
  try simp only [Act.put, List.setIfInBounds_toArray, List.set_cons_zero, List.set_cons_succ]
  refine wpAnyH_take (i := 7) (oi := { dst := some 21, op := Go.Op.load 5 (Go.Operand.tmp 20), type := 5, pos := _, after := #[{ on := 6, ground := Go.Ground.data }], guard := none }) (v := .int .u8 Y8) rfl (by kernel_rfl) (by kernel_rfl) (by kernel_rfl) (fun _ _ _ h => h) (Or.inl ⟨by rfl, fun W hW => by have h1 := (hW.cell hbl1).trans c8; go_simp⟩) (by assumption) ?_
  try simp only [Act.put, List.setIfInBounds_toArray, List.set_cons_zero, List.set_cons_succ]
  refine wpAnyH_take (i := 8) (oi := { dst := some 22, op := Go.Op.convert 5 2 (Go.Operand.tmp 21), type := 2, pos := _, after := #[{ on := 7, ground := Go.Ground.data }], guard := none }) (v := .int .i64 Y8) rfl (by kernel_rfl) (by kernel_rfl) (by kernel_rfl) (fun _ _ _ h => h) (Or.inl ⟨by rfl, fun W hW => by have o0 := (show IntKind.i64.wrap Y8 = Y8 by rw [IntKind.wrap_i64]; omega); go_simp⟩) (by assumption) ?_
  try simp only [Act.put, List.setIfInBounds_toArray, List.set_cons_zero, List.set_cons_succ]
  refine wpAnyH_take (i := 9) (oi := { dst := some 23, op := Go.Op.binOp Go.BinOp.mul 2 (Go.Operand.const (Go.Value.int Go.IntKind.i64 65536)) (Go.Operand.tmp 22) 2, type := 2, pos := _, after := #[{ on := 8, ground := Go.Ground.data }], guard := none }) (v := .int .i64 A1) rfl (by kernel_rfl) (by kernel_rfl) (by kernel_rfl) (fun _ _ _ h => h) (Or.inl ⟨by rfl, fun W hW => by have o0 := p1.out; go_simp⟩) (by assumption) ?_
  try simp only [Act.put, List.setIfInBounds_toArray, List.set_cons_zero, List.set_cons_succ]
  refine wpAnyH_take (i := 10) (oi := { dst := some 24, op := Go.Op.binOp Go.BinOp.add 2 (Go.Operand.tmp 18) (Go.Operand.tmp 23) 2, type := 2, pos := _, after := #[{ on := 4, ground := Go.Ground.data }, { on := 9, ground := Go.Ground.data }], guard := none }) (v := .int .i64 S0) rfl (by kernel_rfl) (by kernel_rfl) (by kernel_rfl) (fun _ _ _ h => h) (Or.inl ⟨by rfl, fun W hW => by have o0 := p3.out; go_simp⟩) (by assumption) ?_
  try simp only [Act.put, List.setIfInBounds_toArray, List.set_cons_zero, List.set_cons_succ]
  refine wpAnyH_take (i := 11) (oi := { dst := some 25, op := Go.Op.move (Go.Operand.tmp 0), type := 30, pos := _, after := #[], guard := none }) (v := .slice (some ⟨b, off, none⟩) L cap) rfl (by kernel_rfl) (by kernel_rfl) (by kernel_rfl) (fun _ _ _ h => h) (Or.inl ⟨by rfl, fun W hW => by go_simp⟩) (by assumption) ?_
  try simp only [Act.put, List.setIfInBounds_toArray, List.set_cons_zero, List.set_cons_succ]
  refine wpAnyH_take (i := 12) (oi := { dst := some 26, op := Go.Op.indexAddr 30 (Go.Operand.tmp 25) (Go.Operand.const (Go.Value.int Go.IntKind.i64 9)), type := 0, pos := _, after := #[{ on := 11, ground := Go.Ground.data }], guard := none }) (v := .pointer (some ⟨b, off + 9, none⟩)) rfl (by kernel_rfl) (by kernel_rfl) (by kernel_rfl) (fun _ _ _ h => h) (Or.inl ⟨by rfl, fun W hW => by go_simp⟩) (by assumption) ?_
  try simp only [Act.put, List.setIfInBounds_toArray, List.set_cons_zero, List.set_cons_succ]
  refine wpAnyH_take (i := 13) (oi := { dst := some 27, op := Go.Op.load 5 (Go.Operand.tmp 26), type := 5, pos := _, after := #[{ on := 12, ground := Go.Ground.data }], guard := none }) (v := .int .u8 Y9) rfl (by kernel_rfl) (by kernel_rfl) (by kernel_rfl) (fun _ _ _ h => h) (Or.inl ⟨by rfl, fun W hW => by have h1 := (hW.cell hbl1).trans c9; go_simp⟩) (by assumption) ?_
  try simp only [Act.put, List.setIfInBounds_toArray, List.set_cons_zero, List.set_cons_succ]
  refine wpAnyH_take (i := 14) (oi := { dst := some 28, op := Go.Op.convert 5 2 (Go.Operand.tmp 27), type := 2, pos := _, after := #[{ on := 13, ground := Go.Ground.data }], guard := none }) (v := .int .i64 Y9) rfl (by kernel_rfl) (by kernel_rfl) (by kernel_rfl) (fun _ _ _ h => h) (Or.inl ⟨by rfl, fun W hW => by have o0 := (show IntKind.i64.wrap Y9 = Y9 by rw [IntKind.wrap_i64]; omega); go_simp⟩) (by assumption) ?_
  try simp only [Act.put, List.setIfInBounds_toArray, List.set_cons_zero, List.set_cons_succ]
  refine wpAnyH_take (i := 15) (oi := { dst := some 29, op := Go.Op.binOp Go.BinOp.mul 2 (Go.Operand.const (Go.Value.int Go.IntKind.i64 256)) (Go.Operand.tmp 28) 2, type := 2, pos := _, after := #[{ on := 14, ground := Go.Ground.data }], guard := none }) (v := .int .i64 A2) rfl (by kernel_rfl) (by kernel_rfl) (by kernel_rfl) (fun _ _ _ h => h) (Or.inl ⟨by rfl, fun W hW => by have o0 := p2.out; go_simp⟩) (by assumption) ?_
  try simp only [Act.put, List.setIfInBounds_toArray, List.set_cons_zero, List.set_cons_succ]
  refine wpAnyH_take (i := 16) (oi := { dst := some 30, op := Go.Op.binOp Go.BinOp.add 2 (Go.Operand.tmp 24) (Go.Operand.tmp 29) 2, type := 2, pos := _, after := #[{ on := 10, ground := Go.Ground.data }, { on := 15, ground := Go.Ground.data }], guard := none }) (v := .int .i64 S1) rfl (by kernel_rfl) (by kernel_rfl) (by kernel_rfl) (fun _ _ _ h => h) (Or.inl ⟨by rfl, fun W hW => by have o0 := p4.out; go_simp⟩) (by assumption) ?_
  try simp only [Act.put, List.setIfInBounds_toArray, List.set_cons_zero, List.set_cons_succ]
  refine wpAnyH_take (i := 17) (oi := { dst := some 31, op := Go.Op.move (Go.Operand.tmp 0), type := 30, pos := _, after := #[], guard := none }) (v := .slice (some ⟨b, off, none⟩) L cap) rfl (by kernel_rfl) (by kernel_rfl) (by kernel_rfl) (fun _ _ _ h => h) (Or.inl ⟨by rfl, fun W hW => by go_simp⟩) (by assumption) ?_
  try simp only [Act.put, List.setIfInBounds_toArray, List.set_cons_zero, List.set_cons_succ]
  refine wpAnyH_take (i := 18) (oi := { dst := some 32, op := Go.Op.indexAddr 30 (Go.Operand.tmp 31) (Go.Operand.const (Go.Value.int Go.IntKind.i64 10)), type := 0, pos := _, after := #[{ on := 17, ground := Go.Ground.data }], guard := none }) (v := .pointer (some ⟨b, off + 10, none⟩)) rfl (by kernel_rfl) (by kernel_rfl) (by kernel_rfl) (fun _ _ _ h => h) (Or.inl ⟨by rfl, fun W hW => by go_simp⟩) (by assumption) ?_
  try simp only [Act.put, List.setIfInBounds_toArray, List.set_cons_zero, List.set_cons_succ]
  refine wpAnyH_take (i := 19) (oi := { dst := some 33, op := Go.Op.load 5 (Go.Operand.tmp 32), type := 5, pos := _, after := #[{ on := 18, ground := Go.Ground.data }], guard := none }) (v := .int .u8 Y10) rfl (by kernel_rfl) (by kernel_rfl) (by kernel_rfl) (fun _ _ _ h => h) (Or.inl ⟨by rfl, fun W hW => by have h1 := (hW.cell hbl1).trans c10; go_simp⟩) (by assumption) ?_
  try simp only [Act.put, List.setIfInBounds_toArray, List.set_cons_zero, List.set_cons_succ]
  refine wpAnyH_take (i := 20) (oi := { dst := some 34, op := Go.Op.convert 5 2 (Go.Operand.tmp 33), type := 2, pos := _, after := #[{ on := 19, ground := Go.Ground.data }], guard := none }) (v := .int .i64 Y10) rfl (by kernel_rfl) (by kernel_rfl) (by kernel_rfl) (fun _ _ _ h => h) (Or.inl ⟨by rfl, fun W hW => by have o0 := (show IntKind.i64.wrap Y10 = Y10 by rw [IntKind.wrap_i64]; omega); go_simp⟩) (by assumption) ?_
  try simp only [Act.put, List.setIfInBounds_toArray, List.set_cons_zero, List.set_cons_succ]
  refine wpAnyH_take (i := 21) (oi := { dst := some 35, op := Go.Op.binOp Go.BinOp.add 2 (Go.Operand.tmp 30) (Go.Operand.tmp 34) 2, type := 2, pos := _, after := #[{ on := 16, ground := Go.Ground.data }, { on := 20, ground := Go.Ground.data }], guard := none }) (v := .int .i64 (n : Int)) rfl (by kernel_rfl) (by kernel_rfl) (by kernel_rfl) (fun _ _ _ h => h) (Or.inl ⟨by rfl, fun W hW => by have o0 := p5.out; go_simp⟩) (by assumption) ?_
  try simp only [Act.put, List.setIfInBounds_toArray, List.set_cons_zero, List.set_cons_succ]
  refine wpAnyH_take (i := 22) (oi := { dst := some 4, op := Go.Op.assign (Go.Operand.tmp 35), type := 2, pos := _, after := #[{ on := 21, ground := Go.Ground.data }, { on := 0, ground := Go.Ground.phase }, { on := 1, ground := Go.Ground.phase }, { on := 2, ground := Go.Ground.phase }, { on := 3, ground := Go.Ground.phase }, { on := 4, ground := Go.Ground.phase }, { on := 5, ground := Go.Ground.phase }, { on := 6, ground := Go.Ground.phase }, { on := 7, ground := Go.Ground.phase }, { on := 8, ground := Go.Ground.phase }, { on := 9, ground := Go.Ground.phase }, { on := 10, ground := Go.Ground.phase }, { on := 11, ground := Go.Ground.phase }, { on := 12, ground := Go.Ground.phase }, { on := 13, ground := Go.Ground.phase }, { on := 14, ground := Go.Ground.phase }, { on := 15, ground := Go.Ground.phase }, { on := 16, ground := Go.Ground.phase }, { on := 17, ground := Go.Ground.phase }, { on := 18, ground := Go.Ground.phase }, { on := 19, ground := Go.Ground.phase }, { on := 20, ground := Go.Ground.phase }, { on := 21, ground := Go.Ground.phase }], guard := none }) (v := .int .i64 (n : Int)) rfl (by kernel_rfl) (by kernel_rfl) (by kernel_rfl) (fun _ _ _ h => h) (Or.inl ⟨by rfl, fun W hW => by go_simp⟩) (by assumption) ?_
  try simp only [Act.put, List.setIfInBounds_toArray, List.set_cons_zero, List.set_cons_succ]
  refine wpAnyH_done (by kernel_rfl) ?_ _
  refine NoPanic.normal ?_
  clear hHeld
  have v1 : (n : Int) ≤ (R : Int) := by omega
  have v2 : ¬ (R : Int) < (n : Int) := by omega
  have b3 : Below w1.heap.size w1 w1.drew := b0
  have z3 : w1.heap.size ≤ w1.drew.heap.size := Nat.le_refl _
  have e3 : w1.drew.heap.size = w1.heap.size := rfl
  clear b0
  generalize w1.drew = w3 at *
  go_wp2_with fail
  have b4 : Below w1.heap.size w1 w3.drew := b3.drew
  refine wp_region_noPanic ?_
  refine wp_region_held_drew (S := fun W => Below w1.heap.size w1 W) (by kernel_rfl) b4 (fun hHeld => ?_)
  refine wpAnyH_take (i := 0) (oi := { dst := some 42, op := Go.Op.move (Go.Operand.tmp 0), type := 30, pos := _, after := #[], guard := none }) (v := .slice (some ⟨b, off, none⟩) L cap) rfl (by kernel_rfl) (by kernel_rfl) (by kernel_rfl) (fun _ _ _ h => h) (Or.inl ⟨by rfl, fun W hW => by go_simp⟩) (by assumption) ?_
  try simp only [Act.put, List.setIfInBounds_toArray, List.set_cons_zero, List.set_cons_succ]
  refine wpAnyH_take (i := 1) (oi := { dst := some 43, op := Go.Op.indexAddr 30 (Go.Operand.tmp 42) (Go.Operand.const (Go.Value.int Go.IntKind.i64 0)), type := 0, pos := _, after := #[{ on := 0, ground := Go.Ground.data }], guard := none }) (v := .pointer (some ⟨b, off, none⟩)) rfl (by kernel_rfl) (by kernel_rfl) (by kernel_rfl) (fun _ _ _ h => h) (Or.inl ⟨by rfl, fun W hW => by go_simp⟩) (by assumption) ?_
  try simp only [Act.put, List.setIfInBounds_toArray, List.set_cons_zero, List.set_cons_succ]
  refine wpAnyH_take (i := 2) (oi := { dst := some 44, op := Go.Op.load 5 (Go.Operand.tmp 43), type := 5, pos := _, after := #[{ on := 1, ground := Go.Ground.data }], guard := none }) (v := .int .u8 (x0.toNat : Int)) rfl (by kernel_rfl) (by kernel_rfl) (by kernel_rfl) (fun _ _ _ h => h) (Or.inl ⟨by rfl, fun W hW => by have h1 := (hW.cell hbl1).trans c0; go_simp⟩) (by assumption) ?_
  try simp only [Act.put, List.setIfInBounds_toArray, List.set_cons_zero, List.set_cons_succ]
  refine wpAnyH_take (i := 3) (oi := { dst := some 45, op := Go.Op.move (Go.Operand.tmp 0), type := 30, pos := _, after := #[], guard := none }) (v := .slice (some ⟨b, off, none⟩) L cap) rfl (by kernel_rfl) (by kernel_rfl) (by kernel_rfl) (fun _ _ _ h => h) (Or.inl ⟨by rfl, fun W hW => by go_simp⟩) (by assumption) ?_
  try simp only [Act.put, List.setIfInBounds_toArray, List.set_cons_zero, List.set_cons_succ]
  refine wpAnyH_take (i := 4) (oi := { dst := some 46, op := Go.Op.indexAddr 30 (Go.Operand.tmp 45) (Go.Operand.const (Go.Value.int Go.IntKind.i64 1)), type := 0, pos := _, after := #[{ on := 3, ground := Go.Ground.data }], guard := none }) (v := .pointer (some ⟨b, off + 1, none⟩)) rfl (by kernel_rfl) (by kernel_rfl) (by kernel_rfl) (fun _ _ _ h => h) (Or.inl ⟨by rfl, fun W hW => by go_simp⟩) (by assumption) ?_
  try simp only [Act.put, List.setIfInBounds_toArray, List.set_cons_zero, List.set_cons_succ]
  refine wpAnyH_take (i := 5) (oi := { dst := some 47, op := Go.Op.load 5 (Go.Operand.tmp 46), type := 5, pos := _, after := #[{ on := 4, ground := Go.Ground.data }], guard := none }) (v := .int .u8 (x1.toNat : Int)) rfl (by kernel_rfl) (by kernel_rfl) (by kernel_rfl) (fun _ _ _ h => h) (Or.inl ⟨by rfl, fun W hW => by have h1 := (hW.cell hbl1).trans c1; go_simp⟩) (by assumption) ?_
  try simp only [Act.put, List.setIfInBounds_toArray, List.set_cons_zero, List.set_cons_succ]
  refine wpAnyH_take (i := 6) (oi := { dst := some 48, op := Go.Op.move (Go.Operand.tmp 0), type := 30, pos := _, after := #[], guard := none }) (v := .slice (some ⟨b, off, none⟩) L cap) rfl (by kernel_rfl) (by kernel_rfl) (by kernel_rfl) (fun _ _ _ h => h) (Or.inl ⟨by rfl, fun W hW => by go_simp⟩) (by assumption) ?_
  try simp only [Act.put, List.setIfInBounds_toArray, List.set_cons_zero, List.set_cons_succ]
  refine wpAnyH_take (i := 7) (oi := { dst := some 49, op := Go.Op.indexAddr 30 (Go.Operand.tmp 48) (Go.Operand.const (Go.Value.int Go.IntKind.i64 2)), type := 0, pos := _, after := #[{ on := 6, ground := Go.Ground.data }], guard := none }) (v := .pointer (some ⟨b, off + 2, none⟩)) rfl (by kernel_rfl) (by kernel_rfl) (by kernel_rfl) (fun _ _ _ h => h) (Or.inl ⟨by rfl, fun W hW => by go_simp⟩) (by assumption) ?_
  try simp only [Act.put, List.setIfInBounds_toArray, List.set_cons_zero, List.set_cons_succ]
  refine wpAnyH_take (i := 8) (oi := { dst := some 50, op := Go.Op.load 5 (Go.Operand.tmp 49), type := 5, pos := _, after := #[{ on := 7, ground := Go.Ground.data }], guard := none }) (v := .int .u8 (x2.toNat : Int)) rfl (by kernel_rfl) (by kernel_rfl) (by kernel_rfl) (fun _ _ _ h => h) (Or.inl ⟨by rfl, fun W hW => by have h1 := (hW.cell hbl1).trans c2; go_simp⟩) (by assumption) ?_
  try simp only [Act.put, List.setIfInBounds_toArray, List.set_cons_zero, List.set_cons_succ]
  refine wpAnyH_take (i := 9) (oi := { dst := some 51, op := Go.Op.build 27 #[(0, Go.Operand.tmp 44), (1, Go.Operand.tmp 47), (2, Go.Operand.tmp 50)], type := 27, pos := _, after := #[{ on := 2, ground := Go.Ground.data }, { on := 5, ground := Go.Ground.data }, { on := 8, ground := Go.Ground.data }], guard := none }) (v := .agg #[.int .u8 (x0.toNat : Int), .int .u8 (x1.toNat : Int), .int .u8 (x2.toNat : Int), .int .u32 0, .slice none 0 0, .slice none 0 0]) rfl (by kernel_rfl) (by kernel_rfl) (by kernel_rfl) (fun _ _ _ h => h) (Or.inl ⟨by rfl, fun W hW => by go_simp⟩) (by assumption) ?_
  try simp only [Act.put, List.setIfInBounds_toArray, List.set_cons_zero, List.set_cons_succ]
  refine wpAnyH_ready (rs := [10]) (by kernel_rfl) (by simp) ?_
  refine AllReadyH.cons (o := { dst := some 5, op := Go.Op.alloc 27, type := 0, pos := _, after := #[], guard := none }) rfl (fun K hK => ?_) AllReadyH.nil
  go_simp
  have b5 : Below w1.heap.size w1 (w3.alloc (.cells #[.int .u8 0, .int .u8 0, .int .u8 0, .int .u32 0, .slice none 0 0, .slice none 0 0] 27)).drew := (b3.alloc z3 (.cells #[.int .u8 0, .int .u8 0, .int .u8 0, .int .u32 0, .slice none 0 0, .slice none 0 0] 27)).drew
  have b5' : Below w1.heap.size w1 (w3.drew.alloc (.cells #[.int .u8 0, .int .u8 0, .int .u8 0, .int .u32 0, .slice none 0 0, .slice none 0 0] 27)) := b3.drew.alloc z3 (.cells #[.int .u8 0, .int .u8 0, .int .u8 0, .int .u32 0, .slice none 0 0, .slice none 0 0] 27)
  refine hK.out _ _ (by first | exact b5 | exact b5') (fun hHeld => ?_)
  clear hK K
  try simp only [Act.put, List.setIfInBounds_toArray, List.set_cons_zero, List.set_cons_succ]
  refine wpAnyH_ready (rs := [11]) (by kernel_rfl) (by simp) ?_
  refine AllReadyH.cons (o := { dst := none, op := Go.Op.store 27 (Go.Operand.tmp 5) (Go.Operand.tmp 51), type := 0, pos := _, after := #[{ on := 10, ground := Go.Ground.data }, { on := 9, ground := Go.Ground.data }, { on := 0, ground := Go.Ground.phase }, { on := 1, ground := Go.Ground.phase }, { on := 2, ground := Go.Ground.phase }, { on := 3, ground := Go.Ground.phase }, { on := 4, ground := Go.Ground.phase }, { on := 5, ground := Go.Ground.phase }, { on := 6, ground := Go.Ground.phase }, { on := 7, ground := Go.Ground.phase }, { on := 8, ground := Go.Ground.phase }, { on := 9, ground := Go.Ground.phase }, { on := 10, ground := Go.Ground.phase }], guard := none }) rfl (fun K hK => ?_) AllReadyH.nil
  go_simp
  have b6 : Below w1.heap.size w1 (w3.alloc (.cells #[.int .u8 (x0.toNat : Int), .int .u8 (x1.toNat : Int), .int .u8 (x2.toNat : Int), .int .u32 0, .slice none 0 0, .slice none 0 0] 27)).drew := (b3.alloc z3 (.cells #[.int .u8 (x0.toNat : Int), .int .u8 (x1.toNat : Int), .int .u8 (x2.toNat : Int), .int .u32 0, .slice none 0 0, .slice none 0 0] 27)).drew
  refine hK.out _ _ b6 (fun hHeld => ?_)
  clear hK K
  try simp only [Act.put, List.setIfInBounds_toArray, List.set_cons_zero, List.set_cons_succ]
  refine wpAnyH_done (by kernel_rfl) ?_ _
  refine NoPanic.normal ?_
  clear hHeld b4
  have P4 : (w3.alloc (.cells #[.int .u8 (x0.toNat : Int), .int .u8 (x1.toNat : Int), .int .u8 (x2.toNat : Int), .int .u32 0, .slice none 0 0, .slice none 0 0] 27)).drew.heap[w1.heap.size]? = some (.cells #[.int .u8 (x0.toNat : Int), .int .u8 (x1.toNat : Int), .int .u8 (x2.toNat : Int), .int .u32 0, .slice none 0 0, .slice none 0 0] 27 (0, 0)) := by rw [← e3]; exact heap_alloc_new w3 _
  have b4 : Below w1.heap.size w1 (w3.alloc (.cells #[.int .u8 (x0.toNat : Int), .int .u8 (x1.toNat : Int), .int .u8 (x2.toNat : Int), .int .u32 0, .slice none 0 0, .slice none 0 0] 27)).drew := (b3.alloc z3 (.cells #[.int .u8 (x0.toNat : Int), .int .u8 (x1.toNat : Int), .int .u8 (x2.toNat : Int), .int .u32 0, .slice none 0 0, .slice none 0 0] 27)).drew
  have z4 : w1.heap.size < (w3.alloc (.cells #[.int .u8 (x0.toNat : Int), .int .u8 (x1.toNat : Int), .int .u8 (x2.toNat : Int), .int .u32 0, .slice none 0 0, .slice none 0 0] 27)).drew.heap.size := by show _ < (w3.alloc _).heap.size; simp; omega
  generalize (w3.alloc (.cells #[.int .u8 (x0.toNat : Int), .int .u8 (x1.toNat : Int), .int .u8 (x2.toNat : Int), .int .u32 0, .slice none 0 0, .slice none 0 0] 27)).drew = w4 at *
  try rw [e3]
  obtain ⟨P, hP⟩ : ∃ P, P = w1.heap.size := ⟨_, rfl⟩
  rw [← hP] at P4 z4 ⊢
  have k8 := (Kept.refl P w4.heap.size w4).setCell 3 (.int .u32 (g : Int))
  have b8 : Below w1.heap.size w1 (w4.setCell ⟨P, 3, none⟩ (.int .u32 (g : Int))).drew := (b4.trans (k8.below (by omega) (by omega))).drew
  have P8 := six_set3 (.int .u32 (g : Int)) P4
  have z8 : P < (w4.setCell ⟨P, 3, none⟩ (.int .u32 (g : Int))).drew.heap.size := Nat.lt_of_lt_of_le z4 k8.size
  obtain ⟨m0, m1, m2, m3, m4, m5⟩ := six_cells P4
  have fP := fun i => box_frozen (i := i) P4
  have HP : Hid (P = w1.heap.size) := hP
  clear b3 z3 e3 P4 z4 hP
  go_wp2_with fail
  have b5 : Below w1.heap.size w1 w4.drew := b4.drew
  refine wp_region_noPanic ?_
  refine wp_region_held_drew (S := fun W => Below w1.heap.size w1 W) (by kernel_rfl) b5 (fun hHeld => ?_)
  refine wpAnyH_take (i := 0) (oi := { dst := some 52, op := Go.Op.move (Go.Operand.tmp 0), type := 30, pos := _, after := #[], guard := none }) (v := .slice (some ⟨b, off, none⟩) L cap) rfl (by kernel_rfl) (by kernel_rfl) (by kernel_rfl) (fun _ _ _ h => h) (Or.inl ⟨by rfl, fun W hW => by go_simp⟩) (by assumption) ?_
  try simp only [Act.put, List.setIfInBounds_toArray, List.set_cons_zero, List.set_cons_succ]
  refine wpAnyH_take (i := 1) (oi := { dst := some 53, op := Go.Op.indexAddr 30 (Go.Operand.tmp 52) (Go.Operand.const (Go.Value.int Go.IntKind.i64 3)), type := 0, pos := _, after := #[{ on := 0, ground := Go.Ground.data }], guard := none }) (v := .pointer (some ⟨b, off + 3, none⟩)) rfl (by kernel_rfl) (by kernel_rfl) (by kernel_rfl) (fun _ _ _ h => h) (Or.inl ⟨by rfl, fun W hW => by go_simp⟩) (by assumption) ?_
  try simp only [Act.put, List.setIfInBounds_toArray, List.set_cons_zero, List.set_cons_succ]
  refine wpAnyH_take (i := 2) (oi := { dst := some 54, op := Go.Op.load 5 (Go.Operand.tmp 53), type := 5, pos := _, after := #[{ on := 1, ground := Go.Ground.data }], guard := none }) (v := .int .u8 Y3) rfl (by kernel_rfl) (by kernel_rfl) (by kernel_rfl) (fun _ _ _ h => h) (Or.inl ⟨by rfl, fun W hW => by have h1 := (hW.cell hbl1).trans c3; go_simp⟩) (by assumption) ?_
  try simp only [Act.put, List.setIfInBounds_toArray, List.set_cons_zero, List.set_cons_succ]
  refine wpAnyH_take (i := 3) (oi := { dst := some 55, op := Go.Op.convert 5 23 (Go.Operand.tmp 54), type := 23, pos := _, after := #[{ on := 2, ground := Go.Ground.data }], guard := none }) (v := .int .u32 Y3) rfl (by kernel_rfl) (by kernel_rfl) (by kernel_rfl) (fun _ _ _ h => h) (Or.inl ⟨by rfl, fun W hW => by have o0 := (show IntKind.u32.wrap Y3 = Y3 by rw [IntKind.wrap_u32]; omega); go_simp⟩) (by assumption) ?_
  try simp only [Act.put, List.setIfInBounds_toArray, List.set_cons_zero, List.set_cons_succ]
  refine wpAnyH_take (i := 4) (oi := { dst := some 56, op := Go.Op.binOp Go.BinOp.mul 23 (Go.Operand.const (Go.Value.int Go.IntKind.u32 16777216)) (Go.Operand.tmp 55) 23, type := 23, pos := _, after := #[{ on := 3, ground := Go.Ground.data }], guard := none }) (v := .int .u32 E0) rfl (by kernel_rfl) (by kernel_rfl) (by kernel_rfl) (fun _ _ _ h => h) (Or.inl ⟨by rfl, fun W hW => by have o0 := rr0.out; go_simp⟩) (by assumption) ?_
  try simp only [Act.put, List.setIfInBounds_toArray, List.set_cons_zero, List.set_cons_succ]
  refine wpAnyH_take (i := 5) (oi := { dst := some 57, op := Go.Op.move (Go.Operand.tmp 0), type := 30, pos := _, after := #[], guard := none }) (v := .slice (some ⟨b, off, none⟩) L cap) rfl (by kernel_rfl) (by kernel_rfl) (by kernel_rfl) (fun _ _ _ h => h) (Or.inl ⟨by rfl, fun W hW => by go_simp⟩) (by assumption) ?_
  try simp only [Act.put, List.setIfInBounds_toArray, List.set_cons_zero, List.set_cons_succ]
  refine wpAnyH_take (i := 6) (oi := { dst := some 58, op := Go.Op.indexAddr 30 (Go.Operand.tmp 57) (Go.Operand.const (Go.Value.int Go.IntKind.i64 4)), type := 0, pos := _, after := #[{ on := 5, ground := Go.Ground.data }], guard := none }) (v := .pointer (some ⟨b, off + 4, none⟩)) rfl (by kernel_rfl) (by kernel_rfl) (by kernel_rfl) (fun _ _ _ h => h) (Or.inl ⟨by rfl, fun W hW => by go_simp⟩) (by assumption) ?_
  try simp only [Act.put, List.setIfInBounds_toArray, List.set_cons_zero, List.set_cons_succ]
  refine wpAnyH_take (i := 7) (oi := { dst := some 59, op := Go.Op.load 5 (Go.Operand.tmp 58), type := 5, pos := _, after := #[{ on := 6, ground := Go.Ground.data }], guard := none }) (v := .int .u8 Y4) rfl (by kernel_rfl) (by kernel_rfl) (by kernel_rfl) (fun _ _ _ h => h) (Or.inl ⟨by rfl, fun W hW => by have h1 := (hW.cell hbl1).trans c4; go_simp⟩) (by assumption) ?_
  try simp only [Act.put, List.setIfInBounds_toArray, List.set_cons_zero, List.set_cons_succ]
  refine wpAnyH_take (i := 8) (oi := { dst := some 60, op := Go.Op.convert 5 23 (Go.Operand.tmp 59), type := 23, pos := _, after := #[{ on := 7, ground := Go.Ground.data }], guard := none }) (v := .int .u32 Y4) rfl (by kernel_rfl) (by kernel_rfl) (by kernel_rfl) (fun _ _ _ h => h) (Or.inl ⟨by rfl, fun W hW => by have o0 := (show IntKind.u32.wrap Y4 = Y4 by rw [IntKind.wrap_u32]; omega); go_simp⟩) (by assumption) ?_
  try simp only [Act.put, List.setIfInBounds_toArray, List.set_cons_zero, List.set_cons_succ]
  refine wpAnyH_take (i := 9) (oi := { dst := some 61, op := Go.Op.binOp Go.BinOp.mul 23 (Go.Operand.const (Go.Value.int Go.IntKind.u32 65536)) (Go.Operand.tmp 60) 23, type := 23, pos := _, after := #[{ on := 8, ground := Go.Ground.data }], guard := none }) (v := .int .u32 E1) rfl (by kernel_rfl) (by kernel_rfl) (by kernel_rfl) (fun _ _ _ h => h) (Or.inl ⟨by rfl, fun W hW => by have o0 := rr1.out; go_simp⟩) (by assumption) ?_
  try simp only [Act.put, List.setIfInBounds_toArray, List.set_cons_zero, List.set_cons_succ]
  refine wpAnyH_take (i := 10) (oi := { dst := some 62, op := Go.Op.binOp Go.BinOp.add 23 (Go.Operand.tmp 56) (Go.Operand.tmp 61) 23, type := 23, pos := _, after := #[{ on := 4, ground := Go.Ground.data }, { on := 9, ground := Go.Ground.data }], guard := none }) (v := .int .u32 G0) rfl (by kernel_rfl) (by kernel_rfl) (by kernel_rfl) (fun _ _ _ h => h) (Or.inl ⟨by rfl, fun W hW => by have o0 := rr3.out; go_simp⟩) (by assumption) ?_
  try simp only [Act.put, List.setIfInBounds_toArray, List.set_cons_zero, List.set_cons_succ]
  refine wpAnyH_take (i := 11) (oi := { dst := some 63, op := Go.Op.move (Go.Operand.tmp 0), type := 30, pos := _, after := #[], guard := none }) (v := .slice (some ⟨b, off, none⟩) L cap) rfl (by kernel_rfl) (by kernel_rfl) (by kernel_rfl) (fun _ _ _ h => h) (Or.inl ⟨by rfl, fun W hW => by go_simp⟩) (by assumption) ?_
  try simp only [Act.put, List.setIfInBounds_toArray, List.set_cons_zero, List.set_cons_succ]
  refine wpAnyH_take (i := 12) (oi := { dst := some 64, op := Go.Op.indexAddr 30 (Go.Operand.tmp 63) (Go.Operand.const (Go.Value.int Go.IntKind.i64 5)), type := 0, pos := _, after := #[{ on := 11, ground := Go.Ground.data }], guard := none }) (v := .pointer (some ⟨b, off + 5, none⟩)) rfl (by kernel_rfl) (by kernel_rfl) (by kernel_rfl) (fun _ _ _ h => h) (Or.inl ⟨by rfl, fun W hW => by go_simp⟩) (by assumption) ?_
  try simp only [Act.put, List.setIfInBounds_toArray, List.set_cons_zero, List.set_cons_succ]
  refine wpAnyH_take (i := 13) (oi := { dst := some 65, op := Go.Op.load 5 (Go.Operand.tmp 64), type := 5, pos := _, after := #[{ on := 12, ground := Go.Ground.data }], guard := none }) (v := .int .u8 Y5) rfl (by kernel_rfl) (by kernel_rfl) (by kernel_rfl) (fun _ _ _ h => h) (Or.inl ⟨by rfl, fun W hW => by have h1 := (hW.cell hbl1).trans c5; go_simp⟩) (by assumption) ?_
  try simp only [Act.put, List.setIfInBounds_toArray, List.set_cons_zero, List.set_cons_succ]
  refine wpAnyH_take (i := 14) (oi := { dst := some 66, op := Go.Op.convert 5 23 (Go.Operand.tmp 65), type := 23, pos := _, after := #[{ on := 13, ground := Go.Ground.data }], guard := none }) (v := .int .u32 Y5) rfl (by kernel_rfl) (by kernel_rfl) (by kernel_rfl) (fun _ _ _ h => h) (Or.inl ⟨by rfl, fun W hW => by have o0 := (show IntKind.u32.wrap Y5 = Y5 by rw [IntKind.wrap_u32]; omega); go_simp⟩) (by assumption) ?_
  try simp only [Act.put, List.setIfInBounds_toArray, List.set_cons_zero, List.set_cons_succ]
  refine wpAnyH_take (i := 15) (oi := { dst := some 67, op := Go.Op.binOp Go.BinOp.mul 23 (Go.Operand.const (Go.Value.int Go.IntKind.u32 256)) (Go.Operand.tmp 66) 23, type := 23, pos := _, after := #[{ on := 14, ground := Go.Ground.data }], guard := none }) (v := .int .u32 E2) rfl (by kernel_rfl) (by kernel_rfl) (by kernel_rfl) (fun _ _ _ h => h) (Or.inl ⟨by rfl, fun W hW => by have o0 := rr2.out; go_simp⟩) (by assumption) ?_
  try simp only [Act.put, List.setIfInBounds_toArray, List.set_cons_zero, List.set_cons_succ]
  refine wpAnyH_take (i := 16) (oi := { dst := some 68, op := Go.Op.binOp Go.BinOp.add 23 (Go.Operand.tmp 62) (Go.Operand.tmp 67) 23, type := 23, pos := _, after := #[{ on := 10, ground := Go.Ground.data }, { on := 15, ground := Go.Ground.data }], guard := none }) (v := .int .u32 G1) rfl (by kernel_rfl) (by kernel_rfl) (by kernel_rfl) (fun _ _ _ h => h) (Or.inl ⟨by rfl, fun W hW => by have o0 := rr4.out; go_simp⟩) (by assumption) ?_
  try simp only [Act.put, List.setIfInBounds_toArray, List.set_cons_zero, List.set_cons_succ]
  refine wpAnyH_take (i := 17) (oi := { dst := some 69, op := Go.Op.move (Go.Operand.tmp 0), type := 30, pos := _, after := #[], guard := none }) (v := .slice (some ⟨b, off, none⟩) L cap) rfl (by kernel_rfl) (by kernel_rfl) (by kernel_rfl) (fun _ _ _ h => h) (Or.inl ⟨by rfl, fun W hW => by go_simp⟩) (by assumption) ?_
  try simp only [Act.put, List.setIfInBounds_toArray, List.set_cons_zero, List.set_cons_succ]
  refine wpAnyH_take (i := 18) (oi := { dst := some 70, op := Go.Op.indexAddr 30 (Go.Operand.tmp 69) (Go.Operand.const (Go.Value.int Go.IntKind.i64 6)), type := 0, pos := _, after := #[{ on := 17, ground := Go.Ground.data }], guard := none }) (v := .pointer (some ⟨b, off + 6, none⟩)) rfl (by kernel_rfl) (by kernel_rfl) (by kernel_rfl) (fun _ _ _ h => h) (Or.inl ⟨by rfl, fun W hW => by go_simp⟩) (by assumption) ?_
  try simp only [Act.put, List.setIfInBounds_toArray, List.set_cons_zero, List.set_cons_succ]
  refine wpAnyH_take (i := 19) (oi := { dst := some 71, op := Go.Op.load 5 (Go.Operand.tmp 70), type := 5, pos := _, after := #[{ on := 18, ground := Go.Ground.data }], guard := none }) (v := .int .u8 Y6) rfl (by kernel_rfl) (by kernel_rfl) (by kernel_rfl) (fun _ _ _ h => h) (Or.inl ⟨by rfl, fun W hW => by have h1 := (hW.cell hbl1).trans c6; go_simp⟩) (by assumption) ?_
  try simp only [Act.put, List.setIfInBounds_toArray, List.set_cons_zero, List.set_cons_succ]
  refine wpAnyH_take (i := 20) (oi := { dst := some 72, op := Go.Op.convert 5 23 (Go.Operand.tmp 71), type := 23, pos := _, after := #[{ on := 19, ground := Go.Ground.data }], guard := none }) (v := .int .u32 Y6) rfl (by kernel_rfl) (by kernel_rfl) (by kernel_rfl) (fun _ _ _ h => h) (Or.inl ⟨by rfl, fun W hW => by have o0 := (show IntKind.u32.wrap Y6 = Y6 by rw [IntKind.wrap_u32]; omega); go_simp⟩) (by assumption) ?_
  try simp only [Act.put, List.setIfInBounds_toArray, List.set_cons_zero, List.set_cons_succ]
  refine wpAnyH_take (i := 21) (oi := { dst := some 73, op := Go.Op.binOp Go.BinOp.add 23 (Go.Operand.tmp 68) (Go.Operand.tmp 72) 23, type := 23, pos := _, after := #[{ on := 16, ground := Go.Ground.data }, { on := 20, ground := Go.Ground.data }], guard := none }) (v := .int .u32 (g : Int)) rfl (by kernel_rfl) (by kernel_rfl) (by kernel_rfl) (fun _ _ _ h => h) (Or.inl ⟨by rfl, fun W hW => by have o0 := rr5.out; go_simp⟩) (by assumption) ?_
  try simp only [Act.put, List.setIfInBounds_toArray, List.set_cons_zero, List.set_cons_succ]
  refine wpAnyH_take (i := 22) (oi := { dst := some 74, op := Go.Op.fieldAddr 27 (Go.Operand.tmp 5) 3, type := 0, pos := _, after := #[{ on := 0, ground := Go.Ground.phase }, { on := 1, ground := Go.Ground.phase }, { on := 2, ground := Go.Ground.phase }, { on := 3, ground := Go.Ground.phase }, { on := 4, ground := Go.Ground.phase }, { on := 5, ground := Go.Ground.phase }, { on := 6, ground := Go.Ground.phase }, { on := 7, ground := Go.Ground.phase }, { on := 8, ground := Go.Ground.phase }, { on := 9, ground := Go.Ground.phase }, { on := 10, ground := Go.Ground.phase }, { on := 11, ground := Go.Ground.phase }, { on := 12, ground := Go.Ground.phase }, { on := 13, ground := Go.Ground.phase }, { on := 14, ground := Go.Ground.phase }, { on := 15, ground := Go.Ground.phase }, { on := 16, ground := Go.Ground.phase }, { on := 17, ground := Go.Ground.phase }, { on := 18, ground := Go.Ground.phase }, { on := 19, ground := Go.Ground.phase }, { on := 20, ground := Go.Ground.phase }, { on := 21, ground := Go.Ground.phase }], guard := none }) (v := .pointer (some ⟨P, 3, none⟩)) rfl (by kernel_rfl) (by kernel_rfl) (by kernel_rfl) (fun _ _ _ h => h) (Or.inl ⟨by rfl, fun W hW => by go_simp⟩) (by assumption) ?_
  try simp only [Act.put, List.setIfInBounds_toArray, List.set_cons_zero, List.set_cons_succ]
  refine wpAnyH_ready (rs := [23]) (by kernel_rfl) (by simp) ?_
  refine AllReadyH.cons (o := { dst := none, op := Go.Op.store 23 (Go.Operand.tmp 74) (Go.Operand.tmp 73), type := 0, pos := _, after := #[{ on := 22, ground := Go.Ground.data }, { on := 21, ground := Go.Ground.data }, { on := 0, ground := Go.Ground.phase }, { on := 1, ground := Go.Ground.phase }, { on := 2, ground := Go.Ground.phase }, { on := 3, ground := Go.Ground.phase }, { on := 4, ground := Go.Ground.phase }, { on := 5, ground := Go.Ground.phase }, { on := 6, ground := Go.Ground.phase }, { on := 7, ground := Go.Ground.phase }, { on := 8, ground := Go.Ground.phase }, { on := 9, ground := Go.Ground.phase }, { on := 10, ground := Go.Ground.phase }, { on := 11, ground := Go.Ground.phase }, { on := 12, ground := Go.Ground.phase }, { on := 13, ground := Go.Ground.phase }, { on := 14, ground := Go.Ground.phase }, { on := 15, ground := Go.Ground.phase }, { on := 16, ground := Go.Ground.phase }, { on := 17, ground := Go.Ground.phase }, { on := 18, ground := Go.Ground.phase }, { on := 19, ground := Go.Ground.phase }, { on := 20, ground := Go.Ground.phase }, { on := 21, ground := Go.Ground.phase }], guard := none }) rfl (fun K hK => ?_) AllReadyH.nil
  go_simp
  refine hK.out _ _ b8 (fun hHeld => ?_)
  clear hK K
  try simp only [Act.put, List.setIfInBounds_toArray, List.set_cons_zero, List.set_cons_succ]
  refine wpAnyH_done (by kernel_rfl) ?_ _
  refine NoPanic.normal ?_
  clear hHeld m0 m1 m2 m3 m4 m5 fP b5 b4 k8
  clear q101 q102 q103 q104 q105 q106 q107 q108 q109 q110 l3 u3 l4 u4 l5 u5 l6 u6 l7 u7 l8 u8 l9 u9 l10 u10 p0 rr0 p1 rr1 p2 rr2 p3 rr3 p4 rr4 p5 rr5 c3 c4 c5 c6 c7 c8 c9 c10 s7 s3
  clear c0 c1 c2
  replace P8 : (w4.setCell ⟨P, 3, none⟩ (.int .u32 (g : Int))).drew.heap[P]? = some (.cells #[.int .u8 (x0.toNat : Int), .int .u8 (x1.toNat : Int), .int .u8 (x2.toNat : Int), .int .u32 (g : Int), .slice none 0 0, .slice none 0 0] 27 (0, 0)) := P8
  generalize (w4.setCell ⟨P, 3, none⟩ (.int .u32 (g : Int))).drew = w5 at *
  obtain ⟨M, hM⟩ : ∃ M, M = 11 + n := ⟨_, rfl⟩
  have hn9 := nn.out
  have k1 : IntKind.i64.wrap (11 + (n : Int)) = (M : Int) := by rw [IntKind.wrap_i64]; omega
  have k2 : (11 : Int) ≤ (M : Int) := by omega
  have k3 : (M : Int) ≤ (cap : Int) := by omega
  have k4 : (M : Int) ≤ (L : Int) := by omega
  have k5 : M - 11 = n := by omega
  obtain ⟨o2, hro⟩ : ∃ o2, (if cap = 11 then some (⟨b, off, none⟩ : Addr) else some ⟨b, off + 11, none⟩) = some ⟨b, o2, none⟩ := by
    by_cases e : cap = 11
    · exact ⟨_, by rw [if_pos e]⟩
    · exact ⟨_, by rw [if_neg e]⟩
  obtain ⟨o3, hro3⟩ : ∃ o3, (if cap = M then some (⟨b, off, none⟩ : Addr) else some ⟨b, off + M, none⟩) = some ⟨b, o3, none⟩ := by
    by_cases e : cap = M
    · exact ⟨_, by rw [if_pos e]⟩
    · exact ⟨_, by rw [if_neg e]⟩
  have sA : InAt w1 w1.heap.size (.slice (some ⟨b, o2, none⟩) n (cap - 11)) ((bs.drop 11).take n) := by
    have h := in_drop (n := 11) (ao' := some ⟨b, o2, none⟩) hb1 (by rw [← HL.out]; omega) (fun hlt _ _ e => by cases e; rw [← hro, if_neg (by omega)])
    rw [← List.length_drop] at h
    exact in_take h (by rw [List.length_drop, ← HL.out]; omega)
  have sB : InAt w1 w1.heap.size (.slice (some ⟨b, o3, none⟩) (L - M) (cap - M)) ((bs.drop 11).drop n) := by
    have h := in_drop (n := M) (ao' := some ⟨b, o3, none⟩) hb1 (by rw [← HL.out]; omega) (fun hlt _ _ e => by cases e; rw [← hro3, if_neg (by omega)])
    rw [List.drop_drop, show 11 + n = M by omega]
    rw [← HL.out] at h
    exact h
  have zP : w1.heap.size ≤ P := by have := HP.out; omega
  have z5 : w1.heap.size ≤ w5.heap.size := b8.size
  have kg := refGetOps_any w5 _ _ ((sA.below b8 (Nat.le_refl _)).mono b8.size)
  rw [hpo] at kg
  clear sA hpo hM hn9 nn ng hb1 HL
  go_wp2_with fail
  refine kg.mono ?_
  rintro e w6 ⟨vo, rfl, oo, b6⟩
  obtain ⟨oa, oc, rfl⟩ := own_len oo
  try simp only at oo
  have P6 := (b6.block _ z8).trans P8
  have z6 := Nat.lt_of_lt_of_le z8 b6.size
  have b9 := b8.trans (b6.mono b8.size)
  have kr := refGetResultsO_any w6 _ _ ((sB.below b9 (Nat.le_refl _)).mono b9.size)
  rw [hpr] at kr
  have zX5 := Nat.lt_of_lt_of_le zX zP
  have z8' : P < w5.heap.size := z8
  clear sB hpr kg P8 b8
  go_wp2_with fail
  refine kr.mono ?_
  rintro e w7 ⟨vr, rfl, ho, b7⟩
  obtain ⟨l, hl1, hl2⟩ := ho.out
  try simp only at hl1
  obtain ⟨ra, rc, rfl⟩ := own_len hl2.own
  have oo7 := own_below oo b7
  have P7 := (b7.block _ z6).trans P6
  have z7 := Nat.lt_of_lt_of_le z6 b7.size
  have b10 := b9.trans (b7.mono b9.size)
  have kA := (Kept.refl P w7.heap.size w7).setCell 4 (.slice oa lo.length oc)
  have kB := kA.setCell 5 (.slice ra l.length rc)
  have PB := six_set5 (.slice ra l.length rc) (six_set4 (.slice oa lo.length oc) P7)
  have b11 := b10.trans (kB.below zP b10.size)
  have zB := Nat.lt_of_lt_of_le z7 kB.size
  have ooB := own_keptR oo7 z8 kB
  have olB := hl2.kept z6 kB
  have xB := (b11.block _ zX).trans PX
  have x7w := (b10.block _ zX).trans PX
  have hne : ¬ w.heap.size = P := by have := HP.out; omega
  clear kr ho oo b6 b7 b9 b10 oo7 hl2 P6 kA
  obtain ⟨m0, m1, m2, m3, m4, m5⟩ := six_cells P7
  have fP := fun i => box_frozen (i := i) P7
  have fB := fun i => box_frozen (i := i) PB
  go_wp2_with fail
  generalize (w7.setCell ⟨P, 4, none⟩ (.slice oa lo.length oc)).setCell ⟨P, 5, none⟩ (.slice ra l.length rc) = w9 at *
  clear m0 m1 m2 m3 m4 m5 fP fB P7 x7w kB
  have M9 : MsgAt w9 w9.heap.size (.slice oa lo.length oc) (.slice ra l.length rc) (rawM bs) l := by
    refine ⟨?_, ?_, olB.at (fun p hp x hx => ?_), ?_⟩
    · rw [HO.out]; exact sl_own opCells_len ooB
    · rw [HO.out]; intro x hx
      have h := List.all_eq_true.mp la.out x hx
      have h1 := opOk_key h
      have h2 := opOk_to h
      exact ⟨by unfold maxLen; omega, by unfold maxLen; omega⟩
    · have h : p.2 ∈ lr := by rw [← hl1]; exact List.mem_map.2 ⟨p, hp, rfl⟩
      exact small16 (List.all_eq_true.mp (List.all_eq_true.mp lb.out _ h) x hx)
    · rw [HRR.out]; exact hl1
  refine (kC.out w9 _ _ l M9).mono ?_
  rintro e wc ⟨rfl, bc⟩
  have PC := (bc.block _ zB).trans PB
  have xC := (bc.block _ (Nat.lt_of_lt_of_le zX b11.size)).trans xB
  have b12 := b11.trans (bc.mono b11.size)
  have ooC := own_below ooB bc
  have olC := OwnRes.below olB bc
  obtain ⟨m0, m1, m2, m3, m4, m5⟩ := six_cells PC
  obtain ⟨y0, y1, y2, y3, y4, y5⟩ := six_cells xC
  have fX := fun i => box_frozen (i := i) xC
  obtain ⟨x10, k10⟩ := six_store xC (.int .u8 (x0.toNat : Int)) (.int .u8 (x1.toNat : Int)) (.int .u8 (x2.toNat : Int)) (.int .u32 (g : Int)) (.slice oa lo.length oc) (.slice ra l.length rc)
  have b14 := (B1.trans (b12.mono B1.size)).trans (k10.below (Nat.le_refl _) (Nat.le_of_lt (Nat.lt_of_lt_of_le zX b12.size)))
  have oo10 := own_mono (own_keptR ooC (Nat.lt_trans zX5 z8') k10) (Nat.le_of_lt (Nat.lt_trans zX5 z8'))
  have ol10 := (olC.kept (Nat.lt_trans zX5 z6) k10).monoB (Nat.le_of_lt (Nat.lt_trans zX5 z6))
  clear ooC olC
  clear M9 kC olB ooB PB xB bc la lb HO HRR
  go_wp2
  generalize ((((((wc).setCell ⟨w.heap.size, 0, none⟩ (.int .u8 (x0.toNat : Int))).setCell ⟨w.heap.size, 1, none⟩ (.int .u8 (x1.toNat : Int))).setCell ⟨w.heap.size, 2, none⟩ (.int .u8 (x2.toNat : Int))).setCell ⟨w.heap.size, 3, none⟩ (.int .u32 (g : Int))).setCell ⟨w.heap.size, 4, none⟩ (.slice oa lo.length oc)).setCell ⟨w.heap.size, 5, none⟩ (.slice ra l.length rc) = w10 at *
  obtain ⟨t0, t1, t2, t3, t4, t5⟩ := six_cells x10
  refine bodyPost_ret (v := .tuple #[.agg #[.int .u8 (x0.toNat : Int), .int .u8 (x1.toNat : Int), .int .u8 (x2.toNat : Int), .int .u32 (g : Int), .slice oa lo.length oc, .slice ra l.length rc], .int .i64 0]) (by simp [results, Tryz.results18, go_sem, t0, t1, t2, t3, t4, t5]) rfl ⟨_, _, _, _, _, _, rfl, oo10, ⟨l, ol10, hl1⟩, b14⟩
end Go.Proofs.YtcgecdiaddcfkaaGreatDoor
