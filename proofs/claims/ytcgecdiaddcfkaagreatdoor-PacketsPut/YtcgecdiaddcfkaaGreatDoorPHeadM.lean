import Derived.Test.YtcgecdiaddcfkaaGreatDoorM15
import Derived.Test.YtcgecdiaddcfkaaGreatDoorPStepsM
/- The walks of putHead and counted. -/
set_option linter.unusedSimpArgs false
set_option linter.unusedVariables false
namespace Go.Proofs.YtcgecdiaddcfkaaGreatDoor
open Go.RowKit

theorem src_inP {w : World} {lim : Nat} {v : Value} {l : List UInt8} (h : InAt w lim v l) : Src Tryz.prog 1 30 v l.length (bcells l) w := by
  obtain ⟨ao, cap, rfl, h1, h2, h3⟩ := h
  by_cases hp : 0 < l.length
  · obtain ⟨b, off, rfl, hb, hc⟩ := h3 hp
    refine Src.ofSlice w Tryz.underlying30 _ _ _ _ (by rw [bcells_len, Nat.mul_one]) (fun j u hu => ?_) (bcells_one l)
    rw [Addr.add_lit]
    have hj : j < l.length := by
      rcases Nat.lt_or_ge j l.length with h' | h'
      · exact h'
      · rw [List.getElem?_eq_none (by rw [bcells_len]; exact h')] at hu; cases hu
    have := hc j hj 0 u (by
      rw [← hu]
      simp [bCell, bcells, hj])
    simpa using this
  · obtain rfl : l = [] := List.eq_nil_of_length_eq_zero (by omega)
    cases ao with
    | none => exact Src.ofNil w Tryz.underlying30 cap
    | some a => exact Src.ofSlice w Tryz.underlying30 a 0 cap [] rfl (fun j u hu => by simp at hu) (fun u hu => by cases hu)
theorem three_lit (x y z : UInt8) (W : World) : (Instr.buildSlice 30 3 #[(0, .int .u8 (x.toNat : Int)), (1, .int .u8 (y.toNat : Int)), (2, .int .u8 (z.toNat : Int))]).run Tryz.prog W = .ok (.slice (some ⟨W.heap.size, 0, none⟩) 3 3) (W.alloc (.cells #[.int .u8 (x.toNat : Int), .int .u8 (y.toNat : Int), .int .u8 (z.toNat : Int)] 5)) := by kernel_rfl
theorem head_eq (s f t : UInt8) (g : Nat) : [s, f, t] ++ be4 g = s :: f :: t :: be4 g := rfl

set_option maxHeartbeats 2000000 in
set_option maxRecDepth 1000000 in
theorem putHead_no (w : World) (s f t g : Nat) (ao bo : Option Addr) (na ca nb cb : Nat) (h : headOk s f t = false) :
    Calls Tryz.prog 26 #[.agg #[.int .u8 (s : Int), .int .u8 (f : Int), .int .u8 (t : Int), .int .u32 (g : Int), .slice ao na ca, .slice bo nb cb]] w fun e w' => e = .returned (.tuple #[.slice none 0 0, .int .i64 1]) ∧ Below w.heap.size w w' := by
  have B0 := below_one w (.cells #[.int .u8 (s : Int), .int .u8 (f : Int), .int .u8 (t : Int), .int .u32 (g : Int), .slice ao na ca, .slice bo nb cb] 27)
  have kh := fun W => headMay_any W s f t g ao bo na ca nb cb
  rw [h] at kh
  clear h
  go_enter Tryz.func26, Tryz.ntmps26
  go_wp2_with fail
  refine (kh _).mono ?_
  rintro e w1 ⟨rfl, b1⟩
  have b2 := B0.trans (b1.mono B0.size)
  clear kh b1 B0
  go_wp2
  go_ret2
  exact ⟨rfl, b2⟩

set_option maxHeartbeats 4000000 in
set_option maxRecDepth 1000000 in
theorem putHead_ok (w : World) (s f t : UInt8) (g : Nat) (hg : g < 4294967296) (ao bo : Option Addr) (na ca nb cb : Nat) (h : headOk s.toNat f.toNat t.toNat = true) :
    Calls Tryz.prog 26 #[.agg #[.int .u8 (s.toNat : Int), .int .u8 (f.toNat : Int), .int .u8 (t.toNat : Int), .int .u32 (g : Int), .slice ao na ca, .slice bo nb cb]] w fun e w' => ∃ a c, e = .returned (.tuple #[.slice a 7 c, .int .i64 0]) ∧ BsAt w' w.heap.size (.slice a 7 c) (s :: f :: t :: be4 g) ∧ Below w.heap.size w w' := by
  obtain ⟨i0, hi, hz0, hz1, hz2⟩ := info_parts info_u8
  have kh := fun W => headMay_any W s.toNat f.toNat t.toNat g ao bo na ca nb cb
  rw [h] at kh
  clear h
  have bs3 := three_lit s f t
  have B0 := below_one w (.cells #[.int .u8 (s.toNat : Int), .int .u8 (f.toNat : Int), .int .u8 (t.toNat : Int), .int .u32 (g : Int), .slice ao na ca, .slice bo nb cb] 27)
  obtain ⟨W0, hW0⟩ : ∃ W0, W0 = w.alloc (.cells #[.int .u8 (s.toNat : Int), .int .u8 (f.toNat : Int), .int .u8 (t.toNat : Int), .int .u32 (g : Int), .slice ao na ca, .slice bo nb cb] 27) := ⟨_, rfl⟩
  have a0 : W0.cell? ⟨w.heap.size, 0, none⟩ = some (.int .u8 (s.toNat : Int)) := by rw [hW0]; go_simp
  have a1 : W0.cell? ⟨w.heap.size, 1, none⟩ = some (.int .u8 (f.toNat : Int)) := by rw [hW0]; go_simp
  have a2 : W0.cell? ⟨w.heap.size, 2, none⟩ = some (.int .u8 (t.toNat : Int)) := by rw [hW0]; go_simp
  have a3 : W0.cell? ⟨w.heap.size, 3, none⟩ = some (.int .u32 (g : Int)) := by rw [hW0]; go_simp
  have Z0 : W0.heap.size = w.heap.size + 1 := by rw [hW0]; simp
  have fin0 : ∀ W1, Below W0.heap.size W0 W1 → Below w.heap.size w W1 ∧ W1.cell? ⟨w.heap.size, 0, none⟩ = some (.int .u8 (s.toNat : Int)) ∧ W1.cell? ⟨w.heap.size, 1, none⟩ = some (.int .u8 (f.toNat : Int)) ∧ W1.cell? ⟨w.heap.size, 2, none⟩ = some (.int .u8 (t.toNat : Int)) ∧ W1.cell? ⟨w.heap.size, 3, none⟩ = some (.int .u32 (g : Int)) ∧ w.heap.size < W1.heap.size := by
    intro W1 hb
    rw [← hW0] at B0
    have hz := hb.size
    exact ⟨B0.trans (hb.mono (by omega)), (hb.cell (by simp; omega)).trans a0, (hb.cell (by simp; omega)).trans a1, (hb.cell (by simp; omega)).trans a2, (hb.cell (by simp; omega)).trans a3, by omega⟩
  clear B0 a0 a1 a2 a3 Z0
  subst hW0
  go_enter Tryz.func26, Tryz.ntmps26
  go_wp2_with fail
  refine (kh _).mono ?_
  rintro e w1 ⟨rfl, b1⟩
  obtain ⟨bw, c0, c1, c2, c3, zX⟩ := fin0 w1 b1
  clear kh b1 fin0
  have hcells : ∀ W, Below w1.heap.size w1 W → W.cell? ⟨w.heap.size, 0, none⟩ = some (.int .u8 (s.toNat : Int)) ∧ W.cell? ⟨w.heap.size, 1, none⟩ = some (.int .u8 (f.toNat : Int)) ∧ W.cell? ⟨w.heap.size, 2, none⟩ = some (.int .u8 (t.toNat : Int)) ∧ W.cell? ⟨w.heap.size, 3, none⟩ = some (.int .u32 (g : Int)) := fun W hb =>
    ⟨(hb.cell zX).trans c0, (hb.cell zX).trans c1, (hb.cell zX).trans c2, (hb.cell zX).trans c3⟩
  have fin : ∀ w9 a9 c9, BsAt w9 w1.heap.size (.slice a9 ([s, f, t] ++ be4 g).length c9) ([s, f, t] ++ be4 g) → Below w1.heap.size w1 w9 → BsAt w9 w.heap.size (.slice a9 7 c9) (s :: f :: t :: be4 g) ∧ Below w.heap.size w w9 := fun w9 a9 c9 q b => ⟨(show BsAt w9 w1.heap.size (.slice a9 7 c9) (s :: f :: t :: be4 g) from q).mono bw.size, bw.trans (b.mono bw.size)⟩
  clear c0 c1 c2 c3 bw
  have b0 : Below w1.heap.size w1 w1.drew := ⟨rfl, rfl, rfl, Nat.le_refl _, fun _ _ => rfl⟩
  have z0 : w1.heap.size ≤ w1.drew.heap.size := Nat.le_refl _
  go_wp2_with fail
  refine wp_region_noPanic ?_
  refine wp_region_held_drew (S := fun W => W.cell? ⟨w.heap.size, 0, none⟩ = some (.int .u8 (s.toNat : Int)) ∧ W.cell? ⟨w.heap.size, 1, none⟩ = some (.int .u8 (f.toNat : Int)) ∧ W.cell? ⟨w.heap.size, 2, none⟩ = some (.int .u8 (t.toNat : Int)) ∧ W.cell? ⟨w.heap.size, 3, none⟩ = some (.int .u32 (g : Int))) (by kernel_rfl) (hcells _ b0) (fun hHeld => ?_)
  refine wpAnyH_take (i := 0) (oi := { dst := some 7, op := Go.Op.fieldAddr 27 (Go.Operand.tmp 1) 0, type := 0, pos := _, after := #[], guard := none }) (v := .pointer (some ⟨w.heap.size, 0, none⟩)) rfl (by kernel_rfl) (by kernel_rfl) (by kernel_rfl) (fun _ _ _ h => h) (Or.inl ⟨by rfl, fun W hW => by go_simp⟩) (by assumption) ?_
  try simp only [Act.put, List.setIfInBounds_toArray, List.set_cons_zero, List.set_cons_succ]
  refine wpAnyH_take (i := 1) (oi := { dst := some 8, op := Go.Op.load 22 (Go.Operand.tmp 7), type := 22, pos := _, after := #[{ on := 0, ground := Go.Ground.data }], guard := none }) (v := .int .u8 (s.toNat : Int)) rfl (by kernel_rfl) (by kernel_rfl) (by kernel_rfl) (fun _ _ _ h => h) (Or.inl ⟨by rfl, fun W hW => by obtain ⟨c0, c1, c2, c3⟩ := hW; go_simp⟩) (by assumption) ?_
  try simp only [Act.put, List.setIfInBounds_toArray, List.set_cons_zero, List.set_cons_succ]
  refine wpAnyH_take (i := 2) (oi := { dst := some 9, op := Go.Op.fieldAddr 27 (Go.Operand.tmp 1) 1, type := 0, pos := _, after := #[], guard := none }) (v := .pointer (some ⟨w.heap.size, 1, none⟩)) rfl (by kernel_rfl) (by kernel_rfl) (by kernel_rfl) (fun _ _ _ h => h) (Or.inl ⟨by rfl, fun W hW => by go_simp⟩) (by assumption) ?_
  try simp only [Act.put, List.setIfInBounds_toArray, List.set_cons_zero, List.set_cons_succ]
  refine wpAnyH_take (i := 3) (oi := { dst := some 10, op := Go.Op.load 5 (Go.Operand.tmp 9), type := 5, pos := _, after := #[{ on := 2, ground := Go.Ground.data }], guard := none }) (v := .int .u8 (f.toNat : Int)) rfl (by kernel_rfl) (by kernel_rfl) (by kernel_rfl) (fun _ _ _ h => h) (Or.inl ⟨by rfl, fun W hW => by obtain ⟨c0, c1, c2, c3⟩ := hW; go_simp⟩) (by assumption) ?_
  try simp only [Act.put, List.setIfInBounds_toArray, List.set_cons_zero, List.set_cons_succ]
  refine wpAnyH_take (i := 4) (oi := { dst := some 11, op := Go.Op.fieldAddr 27 (Go.Operand.tmp 1) 2, type := 0, pos := _, after := #[], guard := none }) (v := .pointer (some ⟨w.heap.size, 2, none⟩)) rfl (by kernel_rfl) (by kernel_rfl) (by kernel_rfl) (fun _ _ _ h => h) (Or.inl ⟨by rfl, fun W hW => by go_simp⟩) (by assumption) ?_
  try simp only [Act.put, List.setIfInBounds_toArray, List.set_cons_zero, List.set_cons_succ]
  refine wpAnyH_take (i := 5) (oi := { dst := some 12, op := Go.Op.load 5 (Go.Operand.tmp 11), type := 5, pos := _, after := #[{ on := 4, ground := Go.Ground.data }], guard := none }) (v := .int .u8 (t.toNat : Int)) rfl (by kernel_rfl) (by kernel_rfl) (by kernel_rfl) (fun _ _ _ h => h) (Or.inl ⟨by rfl, fun W hW => by obtain ⟨c0, c1, c2, c3⟩ := hW; go_simp⟩) (by assumption) ?_
  try simp only [Act.put, List.setIfInBounds_toArray, List.set_cons_zero, List.set_cons_succ]
  refine wpAnyH_take (i := 7) (oi := { dst := some 14, op := Go.Op.fieldAddr 27 (Go.Operand.tmp 1) 3, type := 0, pos := _, after := #[], guard := none }) (v := .pointer (some ⟨w.heap.size, 3, none⟩)) rfl (by kernel_rfl) (by kernel_rfl) (by kernel_rfl) (fun _ _ _ h => h) (Or.inl ⟨by rfl, fun W hW => by go_simp⟩) (by assumption) ?_
  try simp only [Act.put, List.setIfInBounds_toArray, List.set_cons_zero, List.set_cons_succ]
  refine wpAnyH_take (i := 8) (oi := { dst := some 15, op := Go.Op.load 23 (Go.Operand.tmp 14), type := 23, pos := _, after := #[{ on := 7, ground := Go.Ground.data }], guard := none }) (v := .int .u32 (g : Int)) rfl (by kernel_rfl) (by kernel_rfl) (by kernel_rfl) (fun _ _ _ h => h) (Or.inl ⟨by rfl, fun W hW => by obtain ⟨c0, c1, c2, c3⟩ := hW; go_simp⟩) (by assumption) ?_
  try simp only [Act.put, List.setIfInBounds_toArray, List.set_cons_zero, List.set_cons_succ]
  refine wpAnyH_ready (rs := [6, 9]) (by kernel_rfl) (by simp) ?_
  refine AllReadyH.cons (o := { dst := some 13, op := Go.Op.buildSlice 30 3 #[(0, Go.Operand.tmp 8), (1, Go.Operand.tmp 10), (2, Go.Operand.tmp 12)], type := 30, pos := _, after := #[{ on := 1, ground := Go.Ground.data }, { on := 3, ground := Go.Ground.data }, { on := 5, ground := Go.Ground.data }], guard := none }) rfl (fun K hK => ?_) (AllReadyH.cons (o := { dst := some 16, op := Go.Op.call { callee := Go.Callee.value (Go.Operand.func 89), args := #[Go.Operand.tmp 15], argTypes := #[23] }, type := 30, pos := _, after := #[{ on := 8, ground := Go.Ground.data }], guard := none }) rfl (fun K hK => ?_) AllReadyH.nil)
  · refine step_buildSlice rfl 30 5 3 #[(0, .tmp 8), (1, .tmp 10), (2, .tmp 12)] rfl #[.int .u8 (s.toNat : Int), .int .u8 (f.toNat : Int), .int .u8 (t.toNat : Int)] #[(0, .int .u8 (s.toNat : Int)), (1, .int .u8 (f.toNat : Int)), (2, .int .u8 (t.toNat : Int))] (by simp only [List.map_toArray, List.map_cons, List.map_nil]; rfl) (fun W => bs3 W) ?_
    have o3 := (bs_lit w1.drew [s, f, t] [.int .u8 (s.toNat : Int), .int .u8 (f.toNat : Int), .int .u8 (t.toNat : Int)] rfl 3 rfl (by decide)).mono z0
    have b3 := b0.alloc z0 (.cells #[.int .u8 (s.toNat : Int), .int .u8 (f.toNat : Int), .int .u8 (t.toNat : Int)] 5)
    have z3 := Nat.le_trans z0 (below_one w1.drew (.cells #[.int .u8 (s.toNat : Int), .int .u8 (f.toNat : Int), .int .u8 (t.toNat : Int)] 5)).size
    generalize w1.drew.alloc (.cells #[.int .u8 (s.toNat : Int), .int .u8 (f.toNat : Int), .int .u8 (t.toNat : Int)] 5) = wb at *
    refine hK.out _ _ (hcells _ b3) (fun hHeld => ?_)
    clear hK K
    try simp only [Act.put, List.setIfInBounds_toArray, List.set_cons_zero, List.set_cons_succ]
    refine wpAnyH_ready (rs := [9]) (by kernel_rfl) (by simp) ?_
    refine AllReadyH.cons (o := { dst := some 16, op := Go.Op.call { callee := Go.Callee.value (Go.Operand.func 89), args := #[Go.Operand.tmp 15], argTypes := #[23] }, type := 30, pos := _, after := #[{ on := 8, ground := Go.Ground.data }], guard := none }) rfl (fun K hK => ?_) AllReadyH.nil
    go_simp
    refine (four_any wb g hg).mono ?_
    rintro e wf ⟨cf, rfl, o4, bf⟩
    have b4 := b3.trans (bf.mono z3)
    have z4 := Nat.le_trans z3 bf.size
    replace o4 := o4.mono z3
    have o3' := o3.below bf
    go_wp2_with fail
    refine hK.out _ _ (hcells _ b4) (fun hHeld => ?_)
    clear hK K
    try simp only [Act.put, List.setIfInBounds_toArray, List.set_cons_zero, List.set_cons_succ]
    refine wpAnyH_ready (rs := [10]) (by kernel_rfl) (by simp) ?_
    refine AllReadyH.cons (o := { dst := some 17, op := Go.Op.call { callee := Go.Callee.builtin Go.Builtin.append, args := #[Go.Operand.tmp 13, Go.Operand.tmp 16], argTypes := #[30, 30] }, type := 30, pos := _, after := #[{ on := 6, ground := Go.Ground.data }, { on := 9, ground := Go.Ground.data }, { on := 9, ground := Go.Ground.chain }], guard := none }) rfl (fun K hK => ?_) AllReadyH.nil
    refine step_append_src rfl (.tmp 13) (.tmp 16) 30 rfl w1.heap.size 5 i0 (.int .u8 0) 1 1 Tryz.underlying30 hi hz0 hz1 hz2 rfl (by decide) _ 3 _ rfl o3' _ 4 _ rfl (src_inP (in_own o4)) (by unfold maxLen; omega) (by omega) z4 ?_
    intro v' w9 ho9 hg9 hl9
    obtain ⟨q9, b9⟩ := bs_next o3' b4 z4 ho9 hg9
    obtain ⟨a9, c9, rfl⟩ := own_len (n := 7) ho9
    have R9 := fin w9 a9 c9 q9 b9
    refine hK.out _ _ (hcells _ b9) (fun hHeld => ?_)
    clear hK K
    try simp only [Act.put, List.setIfInBounds_toArray, List.set_cons_zero, List.set_cons_succ]
    refine wpAnyH_take (i := 11) (oi := { dst := some 2, op := Go.Op.assign (Go.Operand.tmp 17), type := 30, pos := _, after := #[{ on := 10, ground := Go.Ground.data }, { on := 10, ground := Go.Ground.chain }, { on := 0, ground := Go.Ground.phase }, { on := 1, ground := Go.Ground.phase }, { on := 2, ground := Go.Ground.phase }, { on := 3, ground := Go.Ground.phase }, { on := 4, ground := Go.Ground.phase }, { on := 5, ground := Go.Ground.phase }, { on := 6, ground := Go.Ground.phase }, { on := 7, ground := Go.Ground.phase }, { on := 8, ground := Go.Ground.phase }, { on := 9, ground := Go.Ground.phase }, { on := 10, ground := Go.Ground.phase }], guard := none }) (v := .slice a9 7 c9) rfl (by kernel_rfl) (by kernel_rfl) (by kernel_rfl) (fun _ _ _ h => h) (Or.inl ⟨by rfl, fun W hW => by go_simp⟩) (by assumption) ?_
    try simp only [Act.put, List.setIfInBounds_toArray, List.set_cons_zero, List.set_cons_succ]
    refine wpAnyH_take (i := 12) (oi := { dst := some 3, op := Go.Op.assign (Go.Operand.const (Go.Value.int Go.IntKind.i64 0)), type := 31, pos := _, after := #[{ on := 11, ground := Go.Ground.chain }, { on := 0, ground := Go.Ground.phase }, { on := 1, ground := Go.Ground.phase }, { on := 2, ground := Go.Ground.phase }, { on := 3, ground := Go.Ground.phase }, { on := 4, ground := Go.Ground.phase }, { on := 5, ground := Go.Ground.phase }, { on := 6, ground := Go.Ground.phase }, { on := 7, ground := Go.Ground.phase }, { on := 8, ground := Go.Ground.phase }, { on := 9, ground := Go.Ground.phase }, { on := 10, ground := Go.Ground.phase }, { on := 11, ground := Go.Ground.phase }], guard := none }) (v := .int .i64 0) rfl (by kernel_rfl) (by kernel_rfl) (by kernel_rfl) (fun _ _ _ h => h) (Or.inl ⟨by rfl, fun W hW => by go_simp⟩) (by assumption) ?_
    try simp only [Act.put, List.setIfInBounds_toArray, List.set_cons_zero, List.set_cons_succ]
    refine wpAnyH_done (by kernel_rfl) ?_ _
    refine NoPanic.normal ?_
    clear hHeld
    go_wp2
    go_ret2
    exact ⟨_, _, rfl, R9⟩
  · go_simp
    refine (four_any w1.drew g hg).mono ?_
    rintro e wf ⟨cf, rfl, o4, bf⟩
    have b4 := b0.trans (bf.mono z0)
    have z4 := Nat.le_trans z0 bf.size
    replace o4 := o4.mono z0
    go_wp2_with fail
    refine hK.out _ _ (hcells _ b4) (fun hHeld => ?_)
    clear hK K
    try simp only [Act.put, List.setIfInBounds_toArray, List.set_cons_zero, List.set_cons_succ]
    refine wpAnyH_ready (rs := [6]) (by kernel_rfl) (by simp) ?_
    refine AllReadyH.cons (o := { dst := some 13, op := Go.Op.buildSlice 30 3 #[(0, Go.Operand.tmp 8), (1, Go.Operand.tmp 10), (2, Go.Operand.tmp 12)], type := 30, pos := _, after := #[{ on := 1, ground := Go.Ground.data }, { on := 3, ground := Go.Ground.data }, { on := 5, ground := Go.Ground.data }], guard := none }) rfl (fun K hK => ?_) AllReadyH.nil
    refine step_buildSlice rfl 30 5 3 #[(0, .tmp 8), (1, .tmp 10), (2, .tmp 12)] rfl #[.int .u8 (s.toNat : Int), .int .u8 (f.toNat : Int), .int .u8 (t.toNat : Int)] #[(0, .int .u8 (s.toNat : Int)), (1, .int .u8 (f.toNat : Int)), (2, .int .u8 (t.toNat : Int))] (by simp only [List.map_toArray, List.map_cons, List.map_nil]; rfl) (fun W => bs3 W) ?_
    have o3 := (bs_lit wf [s, f, t] [.int .u8 (s.toNat : Int), .int .u8 (f.toNat : Int), .int .u8 (t.toNat : Int)] rfl 3 rfl (by decide)).mono z4
    have b3 := b4.alloc z4 (.cells #[.int .u8 (s.toNat : Int), .int .u8 (f.toNat : Int), .int .u8 (t.toNat : Int)] 5)
    have z3 := Nat.le_trans z4 (below_one wf (.cells #[.int .u8 (s.toNat : Int), .int .u8 (f.toNat : Int), .int .u8 (t.toNat : Int)] 5)).size
    have o4' := o4.below (below_one wf (.cells #[.int .u8 (s.toNat : Int), .int .u8 (f.toNat : Int), .int .u8 (t.toNat : Int)] 5))
    generalize wf.alloc (.cells #[.int .u8 (s.toNat : Int), .int .u8 (f.toNat : Int), .int .u8 (t.toNat : Int)] 5) = wb at *
    refine hK.out _ _ (hcells _ b3) (fun hHeld => ?_)
    clear hK K
    try simp only [Act.put, List.setIfInBounds_toArray, List.set_cons_zero, List.set_cons_succ]
    refine wpAnyH_ready (rs := [10]) (by kernel_rfl) (by simp) ?_
    refine AllReadyH.cons (o := { dst := some 17, op := Go.Op.call { callee := Go.Callee.builtin Go.Builtin.append, args := #[Go.Operand.tmp 13, Go.Operand.tmp 16], argTypes := #[30, 30] }, type := 30, pos := _, after := #[{ on := 6, ground := Go.Ground.data }, { on := 9, ground := Go.Ground.data }, { on := 9, ground := Go.Ground.chain }], guard := none }) rfl (fun K hK => ?_) AllReadyH.nil
    refine step_append_src rfl (.tmp 13) (.tmp 16) 30 rfl w1.heap.size 5 i0 (.int .u8 0) 1 1 Tryz.underlying30 hi hz0 hz1 hz2 rfl (by decide) _ 3 _ rfl o3 _ 4 _ rfl (src_inP (in_own o4')) (by unfold maxLen; omega) (by omega) z3 ?_
    intro v' w9 ho9 hg9 hl9
    obtain ⟨q9, b9⟩ := bs_next o3 b3 z3 ho9 hg9
    obtain ⟨a9, c9, rfl⟩ := own_len (n := 7) ho9
    have R9 := fin w9 a9 c9 q9 b9
    refine hK.out _ _ (hcells _ b9) (fun hHeld => ?_)
    clear hK K
    try simp only [Act.put, List.setIfInBounds_toArray, List.set_cons_zero, List.set_cons_succ]
    refine wpAnyH_take (i := 11) (oi := { dst := some 2, op := Go.Op.assign (Go.Operand.tmp 17), type := 30, pos := _, after := #[{ on := 10, ground := Go.Ground.data }, { on := 10, ground := Go.Ground.chain }, { on := 0, ground := Go.Ground.phase }, { on := 1, ground := Go.Ground.phase }, { on := 2, ground := Go.Ground.phase }, { on := 3, ground := Go.Ground.phase }, { on := 4, ground := Go.Ground.phase }, { on := 5, ground := Go.Ground.phase }, { on := 6, ground := Go.Ground.phase }, { on := 7, ground := Go.Ground.phase }, { on := 8, ground := Go.Ground.phase }, { on := 9, ground := Go.Ground.phase }, { on := 10, ground := Go.Ground.phase }], guard := none }) (v := .slice a9 7 c9) rfl (by kernel_rfl) (by kernel_rfl) (by kernel_rfl) (fun _ _ _ h => h) (Or.inl ⟨by rfl, fun W hW => by go_simp⟩) (by assumption) ?_
    try simp only [Act.put, List.setIfInBounds_toArray, List.set_cons_zero, List.set_cons_succ]
    refine wpAnyH_take (i := 12) (oi := { dst := some 3, op := Go.Op.assign (Go.Operand.const (Go.Value.int Go.IntKind.i64 0)), type := 31, pos := _, after := #[{ on := 11, ground := Go.Ground.chain }, { on := 0, ground := Go.Ground.phase }, { on := 1, ground := Go.Ground.phase }, { on := 2, ground := Go.Ground.phase }, { on := 3, ground := Go.Ground.phase }, { on := 4, ground := Go.Ground.phase }, { on := 5, ground := Go.Ground.phase }, { on := 6, ground := Go.Ground.phase }, { on := 7, ground := Go.Ground.phase }, { on := 8, ground := Go.Ground.phase }, { on := 9, ground := Go.Ground.phase }, { on := 10, ground := Go.Ground.phase }, { on := 11, ground := Go.Ground.phase }], guard := none }) (v := .int .i64 0) rfl (by kernel_rfl) (by kernel_rfl) (by kernel_rfl) (fun _ _ _ h => h) (Or.inl ⟨by rfl, fun W hW => by go_simp⟩) (by assumption) ?_
    try simp only [Act.put, List.setIfInBounds_toArray, List.set_cons_zero, List.set_cons_succ]
    refine wpAnyH_done (by kernel_rfl) ?_ _
    refine NoPanic.normal ?_
    clear hHeld
    go_wp2
    go_ret2
    exact ⟨_, _, rfl, R9⟩

set_option maxHeartbeats 2000000 in
set_option maxRecDepth 1000000 in
theorem counted_no (w : World) (ao : Option Addr) (n c : Nat) (k : Int) (h : k ≠ 0) :
    Calls Tryz.prog 28 #[.slice ao n c, .int .i64 k] w fun e w' => e = .returned (.tuple #[.slice none 0 0, .int .i64 k]) ∧ w = w' := by
  go_enter Tryz.func28, Tryz.ntmps28
  go_wp2
  go_ret2
  exact ⟨rfl, rfl⟩
set_option maxHeartbeats 2000000 in
set_option maxRecDepth 1000000 in
theorem counted_ok (w : World) (v : Value) (bs : List UInt8) (hb : InAt w w.heap.size v bs) (hl : bs.length ≤ 1000000) :
    Calls Tryz.prog 28 #[v, .int .i64 0] w fun e w' => ∃ a n c, e = .returned (.tuple #[.slice a n c, .int .i64 0]) ∧ BsAt w' w.heap.size (.slice a n c) (be4 bs.length ++ bs) ∧ Below w.heap.size w w' := by
  obtain ⟨i0, hi, hz0, hz1, hz2⟩ := info_parts info_u8
  have hb0 := hb
  obtain ⟨ao, cap, rfl, h1, h2, -⟩ := hb
  unfold maxLen at h2
  obtain ⟨n, hn⟩ : ∃ n, n = bs.length := ⟨_, rfl⟩
  have kf := four_any w n (by omega)
  have HN : Hid (n = bs.length) := hn
  have src : ∀ W, Below w.heap.size w W → Src Tryz.prog 1 30 (.slice ao n cap) n (bcells bs) W := fun W hW => by rw [hn]; exact src_inP (hb0.below hW (Nat.le_refl _))
  rw [← hn] at h1 hl ⊢
  clear hn hb0
  go_enter Tryz.func28, Tryz.ntmps28
  go_wp2_with fail
  refine kf.mono ?_
  rintro e w1 ⟨cf, rfl, o1, b1⟩
  have sr := src w1 b1
  have z1 := b1.size
  have fin : ∀ v' w2, w2.ownsRow w.heap.size 5 1 v' (4 + n) (bcells (be4 n) ++ bcells bs) → w1.grownBy w2 (Value.ownBlock (.slice (some ⟨w.heap.size, 0, none⟩) 4 cf)) → BsAt w2 w.heap.size v' (be4 n ++ bs) ∧ Below w.heap.size w w2 := fun v' w2 ho hg =>
    bs_next (bs := be4 n) (news := bs) o1 b1 b1.size (by rw [be4_len, ← HN.out]; exact ho) hg
  clear src kf b1
  go_wp2_with (at_builtin; refine wpList_append_own_src _ rfl (.tmp 12) (.tmp 13) 30 30 rfl w.heap.size 5 i0 (.int .u8 0) 1 1 Tryz.underlying30 hi hz0 hz1 hz2 rfl (by decide) _ 4 _ rfl o1 _ n _ rfl sr (by unfold maxLen; omega) (by omega) z1 ?_; intro v' w2 ho hg _; have R := fin v' w2 ho hg; obtain ⟨a2, n2, c2, rfl⟩ := own_slice ho)
  go_ret2
  exact ⟨_, _, _, rfl, R⟩
end Go.Proofs.YtcgecdiaddcfkaaGreatDoor
