import Derived.Test.YtcgecdiaddcfkaaGreatDoorM15
import Derived.Test.YtcgecdiaddcfkaaGreatDoorPStepsM
/- The walk of Get. -/
set_option linter.unusedSimpArgs false
set_option linter.unusedVariables false
namespace Go.Proofs.YtcgecdiaddcfkaaGreatDoor
open Go.RowKit

theorem six_cells {w : World} {P : Nat} {a0 a1 a2 a3 a4 a5 : Value} {t : TypeId} (h : w.heap[P]? = some (.cells #[a0, a1, a2, a3, a4, a5] t (0, 0))) : w.cell? ⟨P, 0, none⟩ = some a0 ∧ w.cell? ⟨P, 1, none⟩ = some a1 ∧ w.cell? ⟨P, 2, none⟩ = some a2 ∧ w.cell? ⟨P, 3, none⟩ = some a3 ∧ w.cell? ⟨P, 4, none⟩ = some a4 ∧ w.cell? ⟨P, 5, none⟩ = some a5 := by simp [World.cell?, h]
theorem six_set4 {w : World} {P : Nat} {a0 a1 a2 a3 a4 a5 : Value} {t : TypeId} (u : Value) (h : w.heap[P]? = some (.cells #[a0, a1, a2, a3, a4, a5] t (0, 0))) : (w.setCell ⟨P, 4, none⟩ u).heap[P]? = some (.cells #[a0, a1, a2, a3, u, a5] t (0, 0)) := by
  have := heap_setCell_same w P 4 #[a0, a1, a2, a3, a4, a5] t u h
  simpa using this
theorem six_set5 {w : World} {P : Nat} {a0 a1 a2 a3 a4 a5 : Value} {t : TypeId} (u : Value) (h : w.heap[P]? = some (.cells #[a0, a1, a2, a3, a4, a5] t (0, 0))) : (w.setCell ⟨P, 5, none⟩ u).heap[P]? = some (.cells #[a0, a1, a2, a3, a4, u] t (0, 0)) := by
  have := heap_setCell_same w P 5 #[a0, a1, a2, a3, a4, a5] t u h
  simpa using this
theorem six_store {w : World} {X : Nat} {a0 a1 a2 a3 a4 a5 : Value} {t : TypeId} (h : w.heap[X]? = some (.cells #[a0, a1, a2, a3, a4, a5] t (0, 0))) (v0 v1 v2 v3 v4 v5 : Value) :
    ((((((w.setCell ⟨X, 0, none⟩ v0).setCell ⟨X, 1, none⟩ v1).setCell ⟨X, 2, none⟩ v2).setCell ⟨X, 3, none⟩ v3).setCell ⟨X, 4, none⟩ v4).setCell ⟨X, 5, none⟩ v5).heap[X]? = some (.cells #[v0, v1, v2, v3, v4, v5] t (0, 0)) ∧
    Kept X w.heap.size w ((((((w.setCell ⟨X, 0, none⟩ v0).setCell ⟨X, 1, none⟩ v1).setCell ⟨X, 2, none⟩ v2).setCell ⟨X, 3, none⟩ v3).setCell ⟨X, 4, none⟩ v4).setCell ⟨X, 5, none⟩ v5) := by
  refine ⟨?_, ((((((Kept.refl _ _ _).setCell _ _).setCell _ _).setCell _ _).setCell _ _).setCell _ _).setCell _ _⟩
  have h0 := heap_setCell_same w X 0 _ t v0 h
  have h1 := heap_setCell_same _ X 1 _ t v1 h0
  have h2 := heap_setCell_same _ X 2 _ t v2 h1
  have h3 := heap_setCell_same _ X 3 _ t v3 h2
  have h4 := heap_setCell_same _ X 4 _ t v4 h3
  have h5 := heap_setCell_same _ X 5 _ t v5 h4
  simpa using h5

/-- The values vo and vr hold a message's ops and results, in memory of their own, from block 'base' on. -/
def MsgOwn (w : World) (base : Nat) (vo vr : Value) (m : MsgD) : Prop := w.ownsRow base 85 4 vo m.ops.length (m.ops.flatMap opCells) ∧ ∃ l, OwnRes w base vr l ∧ l.map (·.2) = m.res

theorem own_keptR {w w' : World} {base R : Nat} {e : TypeId} {size : Nat} {v : Value} {n : Nat} {xs : List Value} (h : w.ownsRow base e size v n xs) (hR : R < base) (hk : Kept R w.heap.size w w') : w'.ownsRow base e size v n xs := by
  refine ⟨h.1, ?_⟩
  rcases h.2 with h1 | ⟨g, cap, cur, h1, h2, h3, h4⟩
  · exact .inl h1
  · have hg : g < w.heap.size := by
      rcases Nat.lt_or_ge g w.heap.size with h' | h'
      · exact h'
      · rw [Array.getElem?_eq_none h'] at h3; cases h3
    exact .inr ⟨g, cap, cur, h1, h2, by rw [hk.block g hg (by omega)]; exact h3, h4⟩
theorem OwnRes.monoB {w : World} {base base' : Nat} {v : Value} {l : List ResP} (h : OwnRes w base v l) (hb : base' ≤ base) : OwnRes w base' v l := ⟨own_mono h.own hb, fun p hp => own_mono (h.rows p hp) hb, h.apart, h.pair⟩
theorem raw_head {bs : List UInt8} (hl : ¬ bs.length < 11) : (rawM bs).say = bs[0]'(by omega) ∧ (rawM bs).src = bs[1]'(by omega) ∧ (rawM bs).dst = bs[2]'(by omega) ∧ (rawM bs).g.toNat = numAt 3 bs := by
  unfold rawM
  simp only [List.getD_eq_getElem?_getD]
  rw [List.getElem?_eq_getElem (show 0 < bs.length by omega), List.getElem?_eq_getElem (show 1 < bs.length by omega), List.getElem?_eq_getElem (show 2 < bs.length by omega)]
  exact ⟨rfl, rfl, rfl, u32_nat (numAt_lt (by omega))⟩

set_option maxHeartbeats 2000000 in
set_option maxRecDepth 1000000 in
theorem Get_head (w : World) (vb : Value) (bs : List UInt8) (hb : InAt w w.heap.size vb bs) (hl : ¬ bs.length < 11) (hh : (rawM bs).head = false) :
    Calls Tryz.prog 17 #[vb] w fun e w' => e = .returned (.tuple #[.agg #[.int .u8 0, .int .u8 0, .int .u8 0, .int .u32 0, .slice none 0 0, .slice none 0 0], .int .i64 4]) ∧ Below w.heap.size w w' := by
  have hb0 := hb
  obtain ⟨ao, cap, rfl, h1, h2, hc⟩ := hb
  unfold maxLen at h2
  obtain ⟨b, off, rfl, hbl, hcell⟩ := hc (by omega)
  have i11 : ¬ (bs.length : Int) < 11 := by omega
  obtain ⟨w1, hw1⟩ : ∃ w1, w1 = w.alloc (.cells #[.int .u8 0, .int .u8 0, .int .u8 0, .int .u32 0, .slice none 0 0, .slice none 0 0] 27) := ⟨_, rfl⟩
  have B1 : Below w.heap.size w w1 := by rw [hw1]; exact below_one w _
  have C0 := hcell 0 (by omega) 0 _ rfl
  have C1 := hcell 1 (by omega) 0 _ rfl
  have C2 := hcell 2 (by omega) 0 _ rfl
  simp only [Nat.zero_mul, Nat.one_mul, Nat.add_zero, Nat.mul_one, bv] at C0 C1 C2
  obtain ⟨r0, r1, r2, r3⟩ := raw_head hl
  rw [← r0] at C0
  rw [← r1] at C1
  rw [← r2] at C2
  obtain ⟨x0, hx0⟩ : ∃ x, x = (rawM bs).say := ⟨_, rfl⟩
  obtain ⟨x1, hx1⟩ : ∃ x, x = (rawM bs).src := ⟨_, rfl⟩
  obtain ⟨x2, hx2⟩ : ∃ x, x = (rawM bs).dst := ⟨_, rfl⟩
  rw [← hx0] at C0
  rw [← hx1] at C1
  rw [← hx2] at C2
  have c0 : w1.cell? ⟨b, off, none⟩ = some (.int .u8 (x0.toNat : Int)) := (B1.cell hbl).trans C0
  have c1 : w1.cell? ⟨b, off + 1, none⟩ = some (.int .u8 (x1.toNat : Int)) := (B1.cell hbl).trans C1
  have c2 : w1.cell? ⟨b, off + 2, none⟩ = some (.int .u8 (x2.toNat : Int)) := (B1.cell hbl).trans C2
  have hb1 : InAt w1 w1.heap.size (.slice (some ⟨b, off, none⟩) bs.length cap) bs := (hb0.below B1 (Nat.le_refl _)).mono B1.size
  have hbl1 : b < w1.heap.size := Nat.lt_of_lt_of_le hbl B1.size
  have s3 : InAt w1 w1.heap.size (.slice (some ⟨b, off + 3, none⟩) 4 (cap - 3)) ((bs.drop 3).take 4) := by
    have h := in_drop (n := 3) (ao' := some ⟨b, off + 3, none⟩) hb1 (by omega) (fun _ _ _ e => by cases e; rfl)
    rw [← List.length_drop] at h
    exact in_take h (by simp; omega)
  have s7 : InAt w1 w1.heap.size (.slice (some ⟨b, off + 7, none⟩) 4 (cap - 7)) ((bs.drop 7).take 4) := by
    have h := in_drop (n := 7) (ao' := some ⟨b, off + 7, none⟩) hb1 (by omega) (fun _ _ _ e => by cases e; rfl)
    rw [← List.length_drop] at h
    exact in_take h (by simp; omega)
  have kn3 : ∀ W, Below w1.heap.size w1 W → Calls Tryz.prog 79 #[.slice (some ⟨b, off + 3, none⟩) 4 (cap - 3)] W fun e w' => e = .returned (.int .u32 (numAt 3 bs : Int)) ∧ W = w' := fun W hW => pnumber_any W _ _ ((s3.below hW (Nat.le_refl _)).mono hW.size) (by simp; omega)
  have kn7 : ∀ W, Below w1.heap.size w1 W → Calls Tryz.prog 79 #[.slice (some ⟨b, off + 7, none⟩) 4 (cap - 7)] W fun e w' => e = .returned (.int .u32 (numAt 7 bs : Int)) ∧ W = w' := fun W hW => pnumber_any W _ _ ((s7.below hW (Nat.le_refl _)).mono hW.size) (by simp; omega)
  have ng := numAt_lt (k := 3) (bs := bs) (by omega)
  have nn := numAt_lt (k := 7) (bs := bs) (by omega)
  rw [← r3] at kn3 ng
  obtain ⟨g, hg⟩ : ∃ g, g = (rawM bs).g.toNat := ⟨_, rfl⟩
  obtain ⟨n, hn⟩ : ∃ n, n = numAt 7 bs := ⟨_, rfl⟩
  rw [← hg] at kn3 ng
  rw [← hn] at kn7 nn
  obtain ⟨o2, hro⟩ : ∃ o2, (if cap = 11 then some (⟨b, off, none⟩ : Addr) else some ⟨b, off + 11, none⟩) = some ⟨b, o2, none⟩ := by
    by_cases e : cap = 11
    · exact ⟨_, by rw [if_pos e]⟩
    · exact ⟨_, by rw [if_neg e]⟩
  have s11 : InAt w1 w1.heap.size (.slice (some ⟨b, o2, none⟩) (bs.length - 11) (cap - 11)) (bs.drop 11) := in_drop (n := 11) hb1 (by omega) (fun hlt _ _ e => by cases e; rw [← hro, if_neg (by omega)])
  have q0 : (11 : Int) ≤ (bs.length : Int) := by omega
  have q1 : (11 : Int) ≤ (cap : Int) := by omega
  have q2 : ¬ cap = 3 := by omega
  have q4 : ¬ bs.length = 0 := by omega
  have q5 : ¬ (bs.length : Int) ≤ 1 := by omega
  have q6 : ¬ (bs.length : Int) ≤ 2 := by omega
  have q7 : ¬ (cap : Int) < 7 := by omega
  have q8 : ¬ (cap : Int) < 11 := by omega
  have q3 : ¬ cap = 7 := by omega
  have kh := fun W => headMay_any W x0.toNat x1.toNat x2.toNat g none none 0 0 0 0
  have PX : w1.heap[w.heap.size]? = some (.cells #[.int .u8 0, .int .u8 0, .int .u8 0, .int .u32 0, .slice none 0 0, .slice none 0 0] 27 (0, 0)) := by rw [hw1]; exact heap_alloc_new w _
  have zX : w.heap.size < w1.heap.size := by rw [hw1]; simp
  have hh' : headOk x0.toNat x1.toNat x2.toNat = false := by rw [hx0, hx1, hx2]; exact hh
  rw [hh'] at kh
  clear hh hh'
  clear hx0 hx1 hx2 hg hn s11
  clear s3 s7 C0 C1 C2 hcell hc hb0 hb1 r0 r1 r2 r3
  obtain ⟨L, hL⟩ : ∃ L, L = bs.length := ⟨_, rfl⟩
  have HL : Hid (L = bs.length) := hL
  rw [← hL] at hl h1 i11 q0 q4 q5 q6 ⊢
  clear hL
  have z1 : w1.heap.size ≤ w1.drew.heap.size := Nat.le_refl _
  have b0 : Below w1.heap.size w1 w1.drew := ⟨rfl, rfl, rfl, Nat.le_refl _, fun _ _ => rfl⟩
  subst hw1
  go_enter Tryz.func17, Tryz.ntmps17
  go_wp2_with fail
  generalize w.alloc (.cells #[.int .u8 0, .int .u8 0, .int .u8 0, .int .u32 0, .slice none 0 0, .slice none 0 0] 27) = w1 at *
  refine wp_region_noPanic ?_
  refine wp_region_held_drew (S := fun W => Below w1.heap.size w1 W) (by kernel_rfl) b0 (fun hHeld => ?_)
  refine wpAnyH_take (i := 0) (oi := { dst := some 13, op := Go.Op.move (Go.Operand.tmp 0), type := 30, pos := _, after := #[], guard := none }) (v := .slice (some ⟨b, off, none⟩) L cap) rfl (by kernel_rfl) (by kernel_rfl) (by kernel_rfl) (fun _ _ _ h => h) (Or.inl ⟨by rfl, fun W hW => by go_simp⟩) (by assumption) ?_
  try simp only [Act.put, List.setIfInBounds_toArray, List.set_cons_zero, List.set_cons_succ]
  refine wpAnyH_take (i := 1) (oi := { dst := some 14, op := Go.Op.indexAddr 30 (Go.Operand.tmp 13) (Go.Operand.const (Go.Value.int Go.IntKind.i64 0)), type := 0, pos := _, after := #[{ on := 0, ground := Go.Ground.data }], guard := none }) (v := .pointer (some ⟨b, off, none⟩)) rfl (by kernel_rfl) (by kernel_rfl) (by kernel_rfl) (fun _ _ _ h => h) (Or.inl ⟨by rfl, fun W hW => by go_simp⟩) (by assumption) ?_
  try simp only [Act.put, List.setIfInBounds_toArray, List.set_cons_zero, List.set_cons_succ]
  refine wpAnyH_take (i := 2) (oi := { dst := some 15, op := Go.Op.load 5 (Go.Operand.tmp 14), type := 5, pos := _, after := #[{ on := 1, ground := Go.Ground.data }], guard := none }) (v := .int .u8 (x0.toNat : Int)) rfl (by kernel_rfl) (by kernel_rfl) (by kernel_rfl) (fun _ _ _ h => h) (Or.inl ⟨by rfl, fun W hW => by have h1 := (hW.cell hbl1).trans c0; go_simp⟩) (by assumption) ?_
  try simp only [Act.put, List.setIfInBounds_toArray, List.set_cons_zero, List.set_cons_succ]
  refine wpAnyH_take (i := 3) (oi := { dst := some 16, op := Go.Op.move (Go.Operand.tmp 0), type := 30, pos := _, after := #[], guard := none }) (v := .slice (some ⟨b, off, none⟩) L cap) rfl (by kernel_rfl) (by kernel_rfl) (by kernel_rfl) (fun _ _ _ h => h) (Or.inl ⟨by rfl, fun W hW => by go_simp⟩) (by assumption) ?_
  try simp only [Act.put, List.setIfInBounds_toArray, List.set_cons_zero, List.set_cons_succ]
  refine wpAnyH_take (i := 4) (oi := { dst := some 17, op := Go.Op.indexAddr 30 (Go.Operand.tmp 16) (Go.Operand.const (Go.Value.int Go.IntKind.i64 1)), type := 0, pos := _, after := #[{ on := 3, ground := Go.Ground.data }], guard := none }) (v := .pointer (some ⟨b, off + 1, none⟩)) rfl (by kernel_rfl) (by kernel_rfl) (by kernel_rfl) (fun _ _ _ h => h) (Or.inl ⟨by rfl, fun W hW => by go_simp⟩) (by assumption) ?_
  try simp only [Act.put, List.setIfInBounds_toArray, List.set_cons_zero, List.set_cons_succ]
  refine wpAnyH_take (i := 5) (oi := { dst := some 18, op := Go.Op.load 5 (Go.Operand.tmp 17), type := 5, pos := _, after := #[{ on := 4, ground := Go.Ground.data }], guard := none }) (v := .int .u8 (x1.toNat : Int)) rfl (by kernel_rfl) (by kernel_rfl) (by kernel_rfl) (fun _ _ _ h => h) (Or.inl ⟨by rfl, fun W hW => by have h1 := (hW.cell hbl1).trans c1; go_simp⟩) (by assumption) ?_
  try simp only [Act.put, List.setIfInBounds_toArray, List.set_cons_zero, List.set_cons_succ]
  refine wpAnyH_take (i := 6) (oi := { dst := some 19, op := Go.Op.move (Go.Operand.tmp 0), type := 30, pos := _, after := #[], guard := none }) (v := .slice (some ⟨b, off, none⟩) L cap) rfl (by kernel_rfl) (by kernel_rfl) (by kernel_rfl) (fun _ _ _ h => h) (Or.inl ⟨by rfl, fun W hW => by go_simp⟩) (by assumption) ?_
  try simp only [Act.put, List.setIfInBounds_toArray, List.set_cons_zero, List.set_cons_succ]
  refine wpAnyH_take (i := 7) (oi := { dst := some 20, op := Go.Op.indexAddr 30 (Go.Operand.tmp 19) (Go.Operand.const (Go.Value.int Go.IntKind.i64 2)), type := 0, pos := _, after := #[{ on := 6, ground := Go.Ground.data }], guard := none }) (v := .pointer (some ⟨b, off + 2, none⟩)) rfl (by kernel_rfl) (by kernel_rfl) (by kernel_rfl) (fun _ _ _ h => h) (Or.inl ⟨by rfl, fun W hW => by go_simp⟩) (by assumption) ?_
  try simp only [Act.put, List.setIfInBounds_toArray, List.set_cons_zero, List.set_cons_succ]
  refine wpAnyH_take (i := 8) (oi := { dst := some 21, op := Go.Op.load 5 (Go.Operand.tmp 20), type := 5, pos := _, after := #[{ on := 7, ground := Go.Ground.data }], guard := none }) (v := .int .u8 (x2.toNat : Int)) rfl (by kernel_rfl) (by kernel_rfl) (by kernel_rfl) (fun _ _ _ h => h) (Or.inl ⟨by rfl, fun W hW => by have h1 := (hW.cell hbl1).trans c2; go_simp⟩) (by assumption) ?_
  try simp only [Act.put, List.setIfInBounds_toArray, List.set_cons_zero, List.set_cons_succ]
  refine wpAnyH_take (i := 9) (oi := { dst := some 22, op := Go.Op.move (Go.Operand.tmp 0), type := 30, pos := _, after := #[], guard := none }) (v := .slice (some ⟨b, off, none⟩) L cap) rfl (by kernel_rfl) (by kernel_rfl) (by kernel_rfl) (fun _ _ _ h => h) (Or.inl ⟨by rfl, fun W hW => by go_simp⟩) (by assumption) ?_
  try simp only [Act.put, List.setIfInBounds_toArray, List.set_cons_zero, List.set_cons_succ]
  refine wpAnyH_take (i := 10) (oi := { dst := some 23, op := Go.Op.slice 30 (Go.Operand.tmp 22) (some (Go.Operand.const (Go.Value.int Go.IntKind.i64 3))) (some (Go.Operand.const (Go.Value.int Go.IntKind.i64 7))) none, type := 30, pos := _, after := #[{ on := 9, ground := Go.Ground.data }], guard := none }) (v := .slice (some ⟨b, off + 3, none⟩) 4 (cap - 3)) rfl (by kernel_rfl) (by kernel_rfl) (by kernel_rfl) (fun _ _ _ h => h) (Or.inl ⟨by rfl, fun W hW => by go_simp⟩) (by assumption) ?_
  try simp only [Act.put, List.setIfInBounds_toArray, List.set_cons_zero, List.set_cons_succ]
  refine wpAnyH_ready (rs := [11, 13]) (by kernel_rfl) (by simp) ?_
  refine AllReadyH.cons (o := { dst := some 24, op := Go.Op.call { callee := Go.Callee.value (Go.Operand.func 79), args := #[Go.Operand.tmp 23], argTypes := #[30] }, type := 23, pos := _, after := #[{ on := 10, ground := Go.Ground.data }], guard := none }) rfl (fun K hK => ?_) (AllReadyH.cons (o := { dst := some 4, op := Go.Op.alloc 27, type := 0, pos := _, after := #[], guard := none }) rfl (fun K hK => ?_) AllReadyH.nil)
  · go_simp
    refine (kn3 w1.drew b0).mono ?_
    rintro e wn ⟨rfl, rfl⟩
    go_wp2_with fail
    refine hK.out _ _ b0 (fun hHeld => ?_)
    clear hK K
    try simp only [Act.put, List.setIfInBounds_toArray, List.set_cons_zero, List.set_cons_succ]
    refine wpAnyH_take (i := 12) (oi := { dst := some 25, op := Go.Op.build 27 #[(0, Go.Operand.tmp 15), (1, Go.Operand.tmp 18), (2, Go.Operand.tmp 21), (3, Go.Operand.tmp 24)], type := 27, pos := _, after := #[{ on := 2, ground := Go.Ground.data }, { on := 5, ground := Go.Ground.data }, { on := 8, ground := Go.Ground.data }, { on := 11, ground := Go.Ground.data }], guard := none }) (v := .agg #[.int .u8 (x0.toNat : Int), .int .u8 (x1.toNat : Int), .int .u8 (x2.toNat : Int), .int .u32 (g : Int), .slice none 0 0, .slice none 0 0]) rfl (by kernel_rfl) (by kernel_rfl) (by kernel_rfl) (fun _ _ _ h => h) (Or.inl ⟨by rfl, fun W hW => by go_simp⟩) (by assumption) ?_
    try simp only [Act.put, List.setIfInBounds_toArray, List.set_cons_zero, List.set_cons_succ]
    refine wpAnyH_ready (rs := [13]) (by kernel_rfl) (by simp) ?_
    refine AllReadyH.cons (o := { dst := some 4, op := Go.Op.alloc 27, type := 0, pos := _, after := #[], guard := none }) rfl (fun K hK => ?_) AllReadyH.nil
    go_simp
    have b3 := b0.alloc z1 (.cells #[.int .u8 0, .int .u8 0, .int .u8 0, .int .u32 0, .slice none 0 0, .slice none 0 0] 27)
    refine hK.out _ _ b3 (fun hHeld => ?_)
    clear hK K
    try simp only [Act.put, List.setIfInBounds_toArray, List.set_cons_zero, List.set_cons_succ]
    refine wpAnyH_ready (rs := [14]) (by kernel_rfl) (by simp) ?_
    refine AllReadyH.cons (o := { dst := none, op := Go.Op.store 27 (Go.Operand.tmp 4) (Go.Operand.tmp 25), type := 0, pos := _, after := #[{ on := 13, ground := Go.Ground.data }, { on := 12, ground := Go.Ground.data }, { on := 11, ground := Go.Ground.chain }, { on := 0, ground := Go.Ground.phase }, { on := 1, ground := Go.Ground.phase }, { on := 2, ground := Go.Ground.phase }, { on := 3, ground := Go.Ground.phase }, { on := 4, ground := Go.Ground.phase }, { on := 5, ground := Go.Ground.phase }, { on := 6, ground := Go.Ground.phase }, { on := 7, ground := Go.Ground.phase }, { on := 8, ground := Go.Ground.phase }, { on := 9, ground := Go.Ground.phase }, { on := 10, ground := Go.Ground.phase }, { on := 11, ground := Go.Ground.phase }, { on := 12, ground := Go.Ground.phase }, { on := 13, ground := Go.Ground.phase }], guard := none }) rfl (fun K hK => ?_) AllReadyH.nil
    go_simp
    have b4 : Below w1.heap.size w1 (w1.alloc (.cells #[.int .u8 (x0.toNat : Int), .int .u8 (x1.toNat : Int), .int .u8 (x2.toNat : Int), .int .u32 (g : Int), .slice none 0 0, .slice none 0 0] 27)).drew := ((Below.refl _ _).alloc (Nat.le_refl _) (.cells #[.int .u8 (x0.toNat : Int), .int .u8 (x1.toNat : Int), .int .u8 (x2.toNat : Int), .int .u32 (g : Int), .slice none 0 0, .slice none 0 0] 27)).drew
    refine hK.out _ _ b4 (fun hHeld => ?_)
    clear hK K
    try simp only [Act.put, List.setIfInBounds_toArray, List.set_cons_zero, List.set_cons_succ]
    refine wpAnyH_done (by kernel_rfl) ?_ _
    refine NoPanic.normal ?_
    clear hHeld
    have P3 : (w1.alloc (.cells #[.int .u8 (x0.toNat : Int), .int .u8 (x1.toNat : Int), .int .u8 (x2.toNat : Int), .int .u32 (g : Int), .slice none 0 0, .slice none 0 0] 27)).drew.heap[w1.heap.size]? = some (.cells #[.int .u8 (x0.toNat : Int), .int .u8 (x1.toNat : Int), .int .u8 (x2.toNat : Int), .int .u32 (g : Int), .slice none 0 0, .slice none 0 0] 27 (0, 0)) := heap_alloc_new w1 _
    have zP : w1.heap.size < (w1.alloc (.cells #[.int .u8 (x0.toNat : Int), .int .u8 (x1.toNat : Int), .int .u8 (x2.toNat : Int), .int .u32 (g : Int), .slice none 0 0, .slice none 0 0] 27)).drew.heap.size := by show _ < (w1.alloc _).heap.size; simp
    generalize (w1.alloc (.cells #[.int .u8 (x0.toNat : Int), .int .u8 (x1.toNat : Int), .int .u8 (x2.toNat : Int), .int .u32 (g : Int), .slice none 0 0, .slice none 0 0] 27)).drew = w3 at *
    clear b0 z1
    go_wp2_with fail
    refine wp_region_noPanic ?_
    refine wp_region_held_drew (S := fun _ => True) (by kernel_rfl) trivial (fun hHeld => ?_)
    refine wpAnyH_take (i := 0) (oi := { dst := some 26, op := Go.Op.move (Go.Operand.tmp 0), type := 30, pos := _, after := #[], guard := none }) (v := .slice (some ⟨b, off, none⟩) L cap) rfl (by kernel_rfl) (by kernel_rfl) (by kernel_rfl) (fun _ _ _ h => h) (Or.inl ⟨by rfl, fun W hW => by go_simp⟩) (by assumption) ?_
    try simp only [Act.put, List.setIfInBounds_toArray, List.set_cons_zero, List.set_cons_succ]
    refine wpAnyH_take (i := 1) (oi := { dst := some 27, op := Go.Op.slice 30 (Go.Operand.tmp 26) (some (Go.Operand.const (Go.Value.int Go.IntKind.i64 7))) (some (Go.Operand.const (Go.Value.int Go.IntKind.i64 11))) none, type := 30, pos := _, after := #[{ on := 0, ground := Go.Ground.data }], guard := none }) (v := .slice (some ⟨b, off + 7, none⟩) 4 (cap - 7)) rfl (by kernel_rfl) (by kernel_rfl) (by kernel_rfl) (fun _ _ _ h => h) (Or.inl ⟨by rfl, fun W hW => by go_simp⟩) (by assumption) ?_
    try simp only [Act.put, List.setIfInBounds_toArray, List.set_cons_zero, List.set_cons_succ]
    refine wpAnyH_take (i := 3) (oi := { dst := some 29, op := Go.Op.move (Go.Operand.tmp 0), type := 30, pos := _, after := #[], guard := none }) (v := .slice (some ⟨b, off, none⟩) L cap) rfl (by kernel_rfl) (by kernel_rfl) (by kernel_rfl) (fun _ _ _ h => h) (Or.inl ⟨by rfl, fun W hW => by go_simp⟩) (by assumption) ?_
    try simp only [Act.put, List.setIfInBounds_toArray, List.set_cons_zero, List.set_cons_succ]
    refine wpAnyH_take (i := 4) (oi := { dst := some 30, op := Go.Op.slice 30 (Go.Operand.tmp 29) (some (Go.Operand.const (Go.Value.int Go.IntKind.i64 11))) none none, type := 30, pos := _, after := #[{ on := 3, ground := Go.Ground.data }], guard := none }) (v := .slice (some ⟨b, o2, none⟩) (L - 11) (cap - 11)) rfl (by kernel_rfl) (by kernel_rfl) (by kernel_rfl) (fun _ _ _ h => h) (Or.inl ⟨by rfl, fun W hW => by go_simp⟩) (by assumption) ?_
    try simp only [Act.put, List.setIfInBounds_toArray, List.set_cons_zero, List.set_cons_succ]
    refine wpAnyH_ready (rs := [2]) (by kernel_rfl) (by simp) ?_
    refine AllReadyH.cons (o := { dst := some 28, op := Go.Op.call { callee := Go.Callee.value (Go.Operand.func 79), args := #[Go.Operand.tmp 27], argTypes := #[30] }, type := 23, pos := _, after := #[{ on := 1, ground := Go.Ground.data }], guard := none }) rfl (fun K hK => ?_) AllReadyH.nil
    go_simp
    refine (kn7 w3.drew b4.drew).mono ?_
    rintro e wn ⟨rfl, rfl⟩
    go_wp2_with fail
    refine hK.out _ _ trivial (fun hHeld => ?_)
    clear hK K
    try simp only [Act.put, List.setIfInBounds_toArray, List.set_cons_zero, List.set_cons_succ]
    refine wpAnyH_take (i := 5) (oi := { dst := some 5, op := Go.Op.assign (Go.Operand.tmp 28), type := 23, pos := _, after := #[{ on := 2, ground := Go.Ground.data }, { on := 2, ground := Go.Ground.chain }, { on := 0, ground := Go.Ground.phase }, { on := 1, ground := Go.Ground.phase }, { on := 2, ground := Go.Ground.phase }, { on := 3, ground := Go.Ground.textOnly Go.Departure.lateStores }, { on := 4, ground := Go.Ground.textOnly Go.Departure.lateStoresUnsure }], guard := none }) (v := .int .u32 (n : Int)) rfl (by kernel_rfl) (by kernel_rfl) (by kernel_rfl) (fun _ _ _ h => h) (Or.inl ⟨by rfl, fun W hW => by go_simp⟩) (by assumption) ?_
    try simp only [Act.put, List.setIfInBounds_toArray, List.set_cons_zero, List.set_cons_succ]
    refine wpAnyH_take (i := 6) (oi := { dst := some 6, op := Go.Op.assign (Go.Operand.tmp 30), type := 30, pos := _, after := #[{ on := 4, ground := Go.Ground.data }, { on := 5, ground := Go.Ground.chain }, { on := 0, ground := Go.Ground.phase }, { on := 1, ground := Go.Ground.phase }, { on := 2, ground := Go.Ground.phase }, { on := 3, ground := Go.Ground.phase }, { on := 4, ground := Go.Ground.phase }, { on := 5, ground := Go.Ground.phase }], guard := none }) (v := .slice (some ⟨b, o2, none⟩) (L - 11) (cap - 11)) rfl (by kernel_rfl) (by kernel_rfl) (by kernel_rfl) (fun _ _ _ h => h) (Or.inl ⟨by rfl, fun W hW => by go_simp⟩) (by assumption) ?_
    try simp only [Act.put, List.setIfInBounds_toArray, List.set_cons_zero, List.set_cons_succ]
    refine wpAnyH_done (by kernel_rfl) ?_ _
    refine NoPanic.normal ?_
    clear hHeld
    have P4 : w3.drew.heap[w1.heap.size]? = some (.cells #[.int .u8 (x0.toNat : Int), .int .u8 (x1.toNat : Int), .int .u8 (x2.toNat : Int), .int .u32 (g : Int), .slice none 0 0, .slice none 0 0] 27 (0, 0)) := P3
    have b5 : Below w1.heap.size w1 w3.drew := b4.drew
    have z5 : w1.heap.size < w3.drew.heap.size := zP
    clear P3 b4 zP kn3 kn7
    generalize w3.drew = w4 at *
    obtain ⟨m0, m1, m2, m3, m4, m5⟩ := six_cells P4
    go_wp2_with fail
    refine (kh w4).mono ?_
    rintro e w5 ⟨rfl, b6⟩
    have b7 := b5.trans (b6.mono (Nat.le_of_lt z5))
    have P5 := (b6.block _ z5).trans P4
    have z7 := Nat.lt_of_lt_of_le z5 b6.size
    clear kh m0 m1 m2 m3 m4 m5 P4 b5 b6 z5
    have x7 := (b7.block _ zX).trans PX
    have fx := fun i => box_frozen (i := i) x7
    obtain ⟨y0, y1, y2, y3, y4, y5⟩ := six_cells x7
    obtain ⟨x8, k8⟩ := six_store x7 (.int .u8 0) (.int .u8 0) (.int .u8 0) (.int .u32 0) (.slice none 0 0) (.slice none 0 0)
    have b8 := (B1.trans (b7.mono B1.size)).trans (k8.below (Nat.le_refl _) (Nat.le_of_lt (Nat.lt_of_lt_of_le zX b7.size)))
    clear P5 z7
    go_wp2
    generalize (((((w5.setCell ⟨w.heap.size, 0, none⟩ (.int .u8 0)).setCell ⟨w.heap.size, 1, none⟩ (.int .u8 0)).setCell ⟨w.heap.size, 2, none⟩ (.int .u8 0)).setCell ⟨w.heap.size, 3, none⟩ (.int .u32 0)).setCell ⟨w.heap.size, 4, none⟩ (.slice none 0 0)).setCell ⟨w.heap.size, 5, none⟩ (.slice none 0 0) = w8 at *
    obtain ⟨z0, z1, z2, z3, z4, z5⟩ := six_cells x8
    refine bodyPost_ret (v := .tuple #[.agg #[.int .u8 0, .int .u8 0, .int .u8 0, .int .u32 0, .slice none 0 0, .slice none 0 0], .int .i64 4]) (by simp [results, Tryz.results17, go_sem, z0, z1, z2, z3, z4, z5]) rfl ⟨rfl, b8⟩
  · go_simp
    have b3 := b0.alloc z1 (.cells #[.int .u8 0, .int .u8 0, .int .u8 0, .int .u32 0, .slice none 0 0, .slice none 0 0] 27)
    refine hK.out _ _ b3 (fun hHeld => ?_)
    clear hK K
    try simp only [Act.put, List.setIfInBounds_toArray, List.set_cons_zero, List.set_cons_succ]
    refine wpAnyH_ready (rs := [11]) (by kernel_rfl) (by simp) ?_
    refine AllReadyH.cons (o := { dst := some 24, op := Go.Op.call { callee := Go.Callee.value (Go.Operand.func 79), args := #[Go.Operand.tmp 23], argTypes := #[30] }, type := 23, pos := _, after := #[{ on := 10, ground := Go.Ground.data }], guard := none }) rfl (fun K hK => ?_) AllReadyH.nil
    go_simp
    refine (kn3 (w1.drew.alloc (.cells #[.int .u8 0, .int .u8 0, .int .u8 0, .int .u32 0, .slice none 0 0, .slice none 0 0] 27)) b3).mono ?_
    rintro e wn ⟨rfl, rfl⟩
    go_wp2_with fail
    refine hK.out _ _ b3 (fun hHeld => ?_)
    clear hK K
    try simp only [Act.put, List.setIfInBounds_toArray, List.set_cons_zero, List.set_cons_succ]
    refine wpAnyH_take (i := 12) (oi := { dst := some 25, op := Go.Op.build 27 #[(0, Go.Operand.tmp 15), (1, Go.Operand.tmp 18), (2, Go.Operand.tmp 21), (3, Go.Operand.tmp 24)], type := 27, pos := _, after := #[{ on := 2, ground := Go.Ground.data }, { on := 5, ground := Go.Ground.data }, { on := 8, ground := Go.Ground.data }, { on := 11, ground := Go.Ground.data }], guard := none }) (v := .agg #[.int .u8 (x0.toNat : Int), .int .u8 (x1.toNat : Int), .int .u8 (x2.toNat : Int), .int .u32 (g : Int), .slice none 0 0, .slice none 0 0]) rfl (by kernel_rfl) (by kernel_rfl) (by kernel_rfl) (fun _ _ _ h => h) (Or.inl ⟨by rfl, fun W hW => by go_simp⟩) (by assumption) ?_
    try simp only [Act.put, List.setIfInBounds_toArray, List.set_cons_zero, List.set_cons_succ]
    refine wpAnyH_ready (rs := [14]) (by kernel_rfl) (by simp) ?_
    refine AllReadyH.cons (o := { dst := none, op := Go.Op.store 27 (Go.Operand.tmp 4) (Go.Operand.tmp 25), type := 0, pos := _, after := #[{ on := 13, ground := Go.Ground.data }, { on := 12, ground := Go.Ground.data }, { on := 11, ground := Go.Ground.chain }, { on := 0, ground := Go.Ground.phase }, { on := 1, ground := Go.Ground.phase }, { on := 2, ground := Go.Ground.phase }, { on := 3, ground := Go.Ground.phase }, { on := 4, ground := Go.Ground.phase }, { on := 5, ground := Go.Ground.phase }, { on := 6, ground := Go.Ground.phase }, { on := 7, ground := Go.Ground.phase }, { on := 8, ground := Go.Ground.phase }, { on := 9, ground := Go.Ground.phase }, { on := 10, ground := Go.Ground.phase }, { on := 11, ground := Go.Ground.phase }, { on := 12, ground := Go.Ground.phase }, { on := 13, ground := Go.Ground.phase }], guard := none }) rfl (fun K hK => ?_) AllReadyH.nil
    go_simp
    have b4 : Below w1.heap.size w1 (w1.alloc (.cells #[.int .u8 (x0.toNat : Int), .int .u8 (x1.toNat : Int), .int .u8 (x2.toNat : Int), .int .u32 (g : Int), .slice none 0 0, .slice none 0 0] 27)).drew := ((Below.refl _ _).alloc (Nat.le_refl _) (.cells #[.int .u8 (x0.toNat : Int), .int .u8 (x1.toNat : Int), .int .u8 (x2.toNat : Int), .int .u32 (g : Int), .slice none 0 0, .slice none 0 0] 27)).drew
    refine hK.out _ _ b4 (fun hHeld => ?_)
    clear hK K
    try simp only [Act.put, List.setIfInBounds_toArray, List.set_cons_zero, List.set_cons_succ]
    refine wpAnyH_done (by kernel_rfl) ?_ _
    refine NoPanic.normal ?_
    clear hHeld
    have P3 : (w1.alloc (.cells #[.int .u8 (x0.toNat : Int), .int .u8 (x1.toNat : Int), .int .u8 (x2.toNat : Int), .int .u32 (g : Int), .slice none 0 0, .slice none 0 0] 27)).drew.heap[w1.heap.size]? = some (.cells #[.int .u8 (x0.toNat : Int), .int .u8 (x1.toNat : Int), .int .u8 (x2.toNat : Int), .int .u32 (g : Int), .slice none 0 0, .slice none 0 0] 27 (0, 0)) := heap_alloc_new w1 _
    have zP : w1.heap.size < (w1.alloc (.cells #[.int .u8 (x0.toNat : Int), .int .u8 (x1.toNat : Int), .int .u8 (x2.toNat : Int), .int .u32 (g : Int), .slice none 0 0, .slice none 0 0] 27)).drew.heap.size := by show _ < (w1.alloc _).heap.size; simp
    generalize (w1.alloc (.cells #[.int .u8 (x0.toNat : Int), .int .u8 (x1.toNat : Int), .int .u8 (x2.toNat : Int), .int .u32 (g : Int), .slice none 0 0, .slice none 0 0] 27)).drew = w3 at *
    clear b0 z1
    go_wp2_with fail
    refine wp_region_noPanic ?_
    refine wp_region_held_drew (S := fun _ => True) (by kernel_rfl) trivial (fun hHeld => ?_)
    refine wpAnyH_take (i := 0) (oi := { dst := some 26, op := Go.Op.move (Go.Operand.tmp 0), type := 30, pos := _, after := #[], guard := none }) (v := .slice (some ⟨b, off, none⟩) L cap) rfl (by kernel_rfl) (by kernel_rfl) (by kernel_rfl) (fun _ _ _ h => h) (Or.inl ⟨by rfl, fun W hW => by go_simp⟩) (by assumption) ?_
    try simp only [Act.put, List.setIfInBounds_toArray, List.set_cons_zero, List.set_cons_succ]
    refine wpAnyH_take (i := 1) (oi := { dst := some 27, op := Go.Op.slice 30 (Go.Operand.tmp 26) (some (Go.Operand.const (Go.Value.int Go.IntKind.i64 7))) (some (Go.Operand.const (Go.Value.int Go.IntKind.i64 11))) none, type := 30, pos := _, after := #[{ on := 0, ground := Go.Ground.data }], guard := none }) (v := .slice (some ⟨b, off + 7, none⟩) 4 (cap - 7)) rfl (by kernel_rfl) (by kernel_rfl) (by kernel_rfl) (fun _ _ _ h => h) (Or.inl ⟨by rfl, fun W hW => by go_simp⟩) (by assumption) ?_
    try simp only [Act.put, List.setIfInBounds_toArray, List.set_cons_zero, List.set_cons_succ]
    refine wpAnyH_take (i := 3) (oi := { dst := some 29, op := Go.Op.move (Go.Operand.tmp 0), type := 30, pos := _, after := #[], guard := none }) (v := .slice (some ⟨b, off, none⟩) L cap) rfl (by kernel_rfl) (by kernel_rfl) (by kernel_rfl) (fun _ _ _ h => h) (Or.inl ⟨by rfl, fun W hW => by go_simp⟩) (by assumption) ?_
    try simp only [Act.put, List.setIfInBounds_toArray, List.set_cons_zero, List.set_cons_succ]
    refine wpAnyH_take (i := 4) (oi := { dst := some 30, op := Go.Op.slice 30 (Go.Operand.tmp 29) (some (Go.Operand.const (Go.Value.int Go.IntKind.i64 11))) none none, type := 30, pos := _, after := #[{ on := 3, ground := Go.Ground.data }], guard := none }) (v := .slice (some ⟨b, o2, none⟩) (L - 11) (cap - 11)) rfl (by kernel_rfl) (by kernel_rfl) (by kernel_rfl) (fun _ _ _ h => h) (Or.inl ⟨by rfl, fun W hW => by go_simp⟩) (by assumption) ?_
    try simp only [Act.put, List.setIfInBounds_toArray, List.set_cons_zero, List.set_cons_succ]
    refine wpAnyH_ready (rs := [2]) (by kernel_rfl) (by simp) ?_
    refine AllReadyH.cons (o := { dst := some 28, op := Go.Op.call { callee := Go.Callee.value (Go.Operand.func 79), args := #[Go.Operand.tmp 27], argTypes := #[30] }, type := 23, pos := _, after := #[{ on := 1, ground := Go.Ground.data }], guard := none }) rfl (fun K hK => ?_) AllReadyH.nil
    go_simp
    refine (kn7 w3.drew b4.drew).mono ?_
    rintro e wn ⟨rfl, rfl⟩
    go_wp2_with fail
    refine hK.out _ _ trivial (fun hHeld => ?_)
    clear hK K
    try simp only [Act.put, List.setIfInBounds_toArray, List.set_cons_zero, List.set_cons_succ]
    refine wpAnyH_take (i := 5) (oi := { dst := some 5, op := Go.Op.assign (Go.Operand.tmp 28), type := 23, pos := _, after := #[{ on := 2, ground := Go.Ground.data }, { on := 2, ground := Go.Ground.chain }, { on := 0, ground := Go.Ground.phase }, { on := 1, ground := Go.Ground.phase }, { on := 2, ground := Go.Ground.phase }, { on := 3, ground := Go.Ground.textOnly Go.Departure.lateStores }, { on := 4, ground := Go.Ground.textOnly Go.Departure.lateStoresUnsure }], guard := none }) (v := .int .u32 (n : Int)) rfl (by kernel_rfl) (by kernel_rfl) (by kernel_rfl) (fun _ _ _ h => h) (Or.inl ⟨by rfl, fun W hW => by go_simp⟩) (by assumption) ?_
    try simp only [Act.put, List.setIfInBounds_toArray, List.set_cons_zero, List.set_cons_succ]
    refine wpAnyH_take (i := 6) (oi := { dst := some 6, op := Go.Op.assign (Go.Operand.tmp 30), type := 30, pos := _, after := #[{ on := 4, ground := Go.Ground.data }, { on := 5, ground := Go.Ground.chain }, { on := 0, ground := Go.Ground.phase }, { on := 1, ground := Go.Ground.phase }, { on := 2, ground := Go.Ground.phase }, { on := 3, ground := Go.Ground.phase }, { on := 4, ground := Go.Ground.phase }, { on := 5, ground := Go.Ground.phase }], guard := none }) (v := .slice (some ⟨b, o2, none⟩) (L - 11) (cap - 11)) rfl (by kernel_rfl) (by kernel_rfl) (by kernel_rfl) (fun _ _ _ h => h) (Or.inl ⟨by rfl, fun W hW => by go_simp⟩) (by assumption) ?_
    try simp only [Act.put, List.setIfInBounds_toArray, List.set_cons_zero, List.set_cons_succ]
    refine wpAnyH_done (by kernel_rfl) ?_ _
    refine NoPanic.normal ?_
    clear hHeld
    have P4 : w3.drew.heap[w1.heap.size]? = some (.cells #[.int .u8 (x0.toNat : Int), .int .u8 (x1.toNat : Int), .int .u8 (x2.toNat : Int), .int .u32 (g : Int), .slice none 0 0, .slice none 0 0] 27 (0, 0)) := P3
    have b5 : Below w1.heap.size w1 w3.drew := b4.drew
    have z5 : w1.heap.size < w3.drew.heap.size := zP
    clear P3 b4 zP kn3 kn7
    generalize w3.drew = w4 at *
    obtain ⟨m0, m1, m2, m3, m4, m5⟩ := six_cells P4
    go_wp2_with fail
    refine (kh w4).mono ?_
    rintro e w5 ⟨rfl, b6⟩
    have b7 := b5.trans (b6.mono (Nat.le_of_lt z5))
    have P5 := (b6.block _ z5).trans P4
    have z7 := Nat.lt_of_lt_of_le z5 b6.size
    clear kh m0 m1 m2 m3 m4 m5 P4 b5 b6 z5
    have x7 := (b7.block _ zX).trans PX
    have fx := fun i => box_frozen (i := i) x7
    obtain ⟨y0, y1, y2, y3, y4, y5⟩ := six_cells x7
    obtain ⟨x8, k8⟩ := six_store x7 (.int .u8 0) (.int .u8 0) (.int .u8 0) (.int .u32 0) (.slice none 0 0) (.slice none 0 0)
    have b8 := (B1.trans (b7.mono B1.size)).trans (k8.below (Nat.le_refl _) (Nat.le_of_lt (Nat.lt_of_lt_of_le zX b7.size)))
    clear P5 z7
    go_wp2
    generalize (((((w5.setCell ⟨w.heap.size, 0, none⟩ (.int .u8 0)).setCell ⟨w.heap.size, 1, none⟩ (.int .u8 0)).setCell ⟨w.heap.size, 2, none⟩ (.int .u8 0)).setCell ⟨w.heap.size, 3, none⟩ (.int .u32 0)).setCell ⟨w.heap.size, 4, none⟩ (.slice none 0 0)).setCell ⟨w.heap.size, 5, none⟩ (.slice none 0 0) = w8 at *
    obtain ⟨z0, z1, z2, z3, z4, z5⟩ := six_cells x8
    refine bodyPost_ret (v := .tuple #[.agg #[.int .u8 0, .int .u8 0, .int .u8 0, .int .u32 0, .slice none 0 0, .slice none 0 0], .int .i64 4]) (by simp [results, Tryz.results17, go_sem, z0, z1, z2, z3, z4, z5]) rfl ⟨rfl, b8⟩
set_option maxHeartbeats 2000000 in
set_option maxRecDepth 1000000 in
theorem Get_over (w : World) (vb : Value) (bs : List UInt8) (hb : InAt w w.heap.size vb bs) (hl : ¬ bs.length < 11) (hh : (rawM bs).head = true) (ho : ¬ numAt 7 bs ≤ bs.length - 11) :
    Calls Tryz.prog 17 #[vb] w fun e w' => e = .returned (.tuple #[.agg #[.int .u8 0, .int .u8 0, .int .u8 0, .int .u32 0, .slice none 0 0, .slice none 0 0], .int .i64 4]) ∧ Below w.heap.size w w' := by
  have hb0 := hb
  obtain ⟨ao, cap, rfl, h1, h2, hc⟩ := hb
  unfold maxLen at h2
  obtain ⟨b, off, rfl, hbl, hcell⟩ := hc (by omega)
  have i11 : ¬ (bs.length : Int) < 11 := by omega
  obtain ⟨w1, hw1⟩ : ∃ w1, w1 = w.alloc (.cells #[.int .u8 0, .int .u8 0, .int .u8 0, .int .u32 0, .slice none 0 0, .slice none 0 0] 27) := ⟨_, rfl⟩
  have B1 : Below w.heap.size w w1 := by rw [hw1]; exact below_one w _
  have C0 := hcell 0 (by omega) 0 _ rfl
  have C1 := hcell 1 (by omega) 0 _ rfl
  have C2 := hcell 2 (by omega) 0 _ rfl
  simp only [Nat.zero_mul, Nat.one_mul, Nat.add_zero, Nat.mul_one, bv] at C0 C1 C2
  obtain ⟨r0, r1, r2, r3⟩ := raw_head hl
  rw [← r0] at C0
  rw [← r1] at C1
  rw [← r2] at C2
  obtain ⟨x0, hx0⟩ : ∃ x, x = (rawM bs).say := ⟨_, rfl⟩
  obtain ⟨x1, hx1⟩ : ∃ x, x = (rawM bs).src := ⟨_, rfl⟩
  obtain ⟨x2, hx2⟩ : ∃ x, x = (rawM bs).dst := ⟨_, rfl⟩
  rw [← hx0] at C0
  rw [← hx1] at C1
  rw [← hx2] at C2
  have c0 : w1.cell? ⟨b, off, none⟩ = some (.int .u8 (x0.toNat : Int)) := (B1.cell hbl).trans C0
  have c1 : w1.cell? ⟨b, off + 1, none⟩ = some (.int .u8 (x1.toNat : Int)) := (B1.cell hbl).trans C1
  have c2 : w1.cell? ⟨b, off + 2, none⟩ = some (.int .u8 (x2.toNat : Int)) := (B1.cell hbl).trans C2
  have hb1 : InAt w1 w1.heap.size (.slice (some ⟨b, off, none⟩) bs.length cap) bs := (hb0.below B1 (Nat.le_refl _)).mono B1.size
  have hbl1 : b < w1.heap.size := Nat.lt_of_lt_of_le hbl B1.size
  have s3 : InAt w1 w1.heap.size (.slice (some ⟨b, off + 3, none⟩) 4 (cap - 3)) ((bs.drop 3).take 4) := by
    have h := in_drop (n := 3) (ao' := some ⟨b, off + 3, none⟩) hb1 (by omega) (fun _ _ _ e => by cases e; rfl)
    rw [← List.length_drop] at h
    exact in_take h (by simp; omega)
  have s7 : InAt w1 w1.heap.size (.slice (some ⟨b, off + 7, none⟩) 4 (cap - 7)) ((bs.drop 7).take 4) := by
    have h := in_drop (n := 7) (ao' := some ⟨b, off + 7, none⟩) hb1 (by omega) (fun _ _ _ e => by cases e; rfl)
    rw [← List.length_drop] at h
    exact in_take h (by simp; omega)
  have kn3 : ∀ W, Below w1.heap.size w1 W → Calls Tryz.prog 79 #[.slice (some ⟨b, off + 3, none⟩) 4 (cap - 3)] W fun e w' => e = .returned (.int .u32 (numAt 3 bs : Int)) ∧ W = w' := fun W hW => pnumber_any W _ _ ((s3.below hW (Nat.le_refl _)).mono hW.size) (by simp; omega)
  have kn7 : ∀ W, Below w1.heap.size w1 W → Calls Tryz.prog 79 #[.slice (some ⟨b, off + 7, none⟩) 4 (cap - 7)] W fun e w' => e = .returned (.int .u32 (numAt 7 bs : Int)) ∧ W = w' := fun W hW => pnumber_any W _ _ ((s7.below hW (Nat.le_refl _)).mono hW.size) (by simp; omega)
  have ng := numAt_lt (k := 3) (bs := bs) (by omega)
  have nn := numAt_lt (k := 7) (bs := bs) (by omega)
  rw [← r3] at kn3 ng
  obtain ⟨g, hg⟩ : ∃ g, g = (rawM bs).g.toNat := ⟨_, rfl⟩
  obtain ⟨n, hn⟩ : ∃ n, n = numAt 7 bs := ⟨_, rfl⟩
  rw [← hg] at kn3 ng
  rw [← hn] at kn7 nn
  obtain ⟨o2, hro⟩ : ∃ o2, (if cap = 11 then some (⟨b, off, none⟩ : Addr) else some ⟨b, off + 11, none⟩) = some ⟨b, o2, none⟩ := by
    by_cases e : cap = 11
    · exact ⟨_, by rw [if_pos e]⟩
    · exact ⟨_, by rw [if_neg e]⟩
  have s11 : InAt w1 w1.heap.size (.slice (some ⟨b, o2, none⟩) (bs.length - 11) (cap - 11)) (bs.drop 11) := in_drop (n := 11) hb1 (by omega) (fun hlt _ _ e => by cases e; rw [← hro, if_neg (by omega)])
  have q0 : (11 : Int) ≤ (bs.length : Int) := by omega
  have q1 : (11 : Int) ≤ (cap : Int) := by omega
  have q2 : ¬ cap = 3 := by omega
  have q4 : ¬ bs.length = 0 := by omega
  have q5 : ¬ (bs.length : Int) ≤ 1 := by omega
  have q6 : ¬ (bs.length : Int) ≤ 2 := by omega
  have q7 : ¬ (cap : Int) < 7 := by omega
  have q8 : ¬ (cap : Int) < 11 := by omega
  have q3 : ¬ cap = 7 := by omega
  have kh := fun W => headMay_any W x0.toNat x1.toNat x2.toNat g none none 0 0 0 0
  have PX : w1.heap[w.heap.size]? = some (.cells #[.int .u8 0, .int .u8 0, .int .u8 0, .int .u32 0, .slice none 0 0, .slice none 0 0] 27 (0, 0)) := by rw [hw1]; exact heap_alloc_new w _
  have zX : w.heap.size < w1.heap.size := by rw [hw1]; simp
  have hh' : headOk x0.toNat x1.toNat x2.toNat = true := by rw [hx0, hx1, hx2]; exact hh
  rw [hh'] at kh
  clear hh hh'
  rw [← hn] at ho
  clear hx0 hx1 hx2 hg hn s11
  clear s3 s7 C0 C1 C2 hcell hc hb0 hb1 r0 r1 r2 r3
  obtain ⟨L, hL⟩ : ∃ L, L = bs.length := ⟨_, rfl⟩
  have HL : Hid (L = bs.length) := hL
  rw [← hL] at hl h1 i11 q0 q4 q5 q6 ho ⊢
  clear hL
  have z1 : w1.heap.size ≤ w1.drew.heap.size := Nat.le_refl _
  have b0 : Below w1.heap.size w1 w1.drew := ⟨rfl, rfl, rfl, Nat.le_refl _, fun _ _ => rfl⟩
  subst hw1
  go_enter Tryz.func17, Tryz.ntmps17
  go_wp2_with fail
  generalize w.alloc (.cells #[.int .u8 0, .int .u8 0, .int .u8 0, .int .u32 0, .slice none 0 0, .slice none 0 0] 27) = w1 at *
  refine wp_region_noPanic ?_
  refine wp_region_held_drew (S := fun W => Below w1.heap.size w1 W) (by kernel_rfl) b0 (fun hHeld => ?_)
  refine wpAnyH_take (i := 0) (oi := { dst := some 13, op := Go.Op.move (Go.Operand.tmp 0), type := 30, pos := _, after := #[], guard := none }) (v := .slice (some ⟨b, off, none⟩) L cap) rfl (by kernel_rfl) (by kernel_rfl) (by kernel_rfl) (fun _ _ _ h => h) (Or.inl ⟨by rfl, fun W hW => by go_simp⟩) (by assumption) ?_
  try simp only [Act.put, List.setIfInBounds_toArray, List.set_cons_zero, List.set_cons_succ]
  refine wpAnyH_take (i := 1) (oi := { dst := some 14, op := Go.Op.indexAddr 30 (Go.Operand.tmp 13) (Go.Operand.const (Go.Value.int Go.IntKind.i64 0)), type := 0, pos := _, after := #[{ on := 0, ground := Go.Ground.data }], guard := none }) (v := .pointer (some ⟨b, off, none⟩)) rfl (by kernel_rfl) (by kernel_rfl) (by kernel_rfl) (fun _ _ _ h => h) (Or.inl ⟨by rfl, fun W hW => by go_simp⟩) (by assumption) ?_
  try simp only [Act.put, List.setIfInBounds_toArray, List.set_cons_zero, List.set_cons_succ]
  refine wpAnyH_take (i := 2) (oi := { dst := some 15, op := Go.Op.load 5 (Go.Operand.tmp 14), type := 5, pos := _, after := #[{ on := 1, ground := Go.Ground.data }], guard := none }) (v := .int .u8 (x0.toNat : Int)) rfl (by kernel_rfl) (by kernel_rfl) (by kernel_rfl) (fun _ _ _ h => h) (Or.inl ⟨by rfl, fun W hW => by have h1 := (hW.cell hbl1).trans c0; go_simp⟩) (by assumption) ?_
  try simp only [Act.put, List.setIfInBounds_toArray, List.set_cons_zero, List.set_cons_succ]
  refine wpAnyH_take (i := 3) (oi := { dst := some 16, op := Go.Op.move (Go.Operand.tmp 0), type := 30, pos := _, after := #[], guard := none }) (v := .slice (some ⟨b, off, none⟩) L cap) rfl (by kernel_rfl) (by kernel_rfl) (by kernel_rfl) (fun _ _ _ h => h) (Or.inl ⟨by rfl, fun W hW => by go_simp⟩) (by assumption) ?_
  try simp only [Act.put, List.setIfInBounds_toArray, List.set_cons_zero, List.set_cons_succ]
  refine wpAnyH_take (i := 4) (oi := { dst := some 17, op := Go.Op.indexAddr 30 (Go.Operand.tmp 16) (Go.Operand.const (Go.Value.int Go.IntKind.i64 1)), type := 0, pos := _, after := #[{ on := 3, ground := Go.Ground.data }], guard := none }) (v := .pointer (some ⟨b, off + 1, none⟩)) rfl (by kernel_rfl) (by kernel_rfl) (by kernel_rfl) (fun _ _ _ h => h) (Or.inl ⟨by rfl, fun W hW => by go_simp⟩) (by assumption) ?_
  try simp only [Act.put, List.setIfInBounds_toArray, List.set_cons_zero, List.set_cons_succ]
  refine wpAnyH_take (i := 5) (oi := { dst := some 18, op := Go.Op.load 5 (Go.Operand.tmp 17), type := 5, pos := _, after := #[{ on := 4, ground := Go.Ground.data }], guard := none }) (v := .int .u8 (x1.toNat : Int)) rfl (by kernel_rfl) (by kernel_rfl) (by kernel_rfl) (fun _ _ _ h => h) (Or.inl ⟨by rfl, fun W hW => by have h1 := (hW.cell hbl1).trans c1; go_simp⟩) (by assumption) ?_
  try simp only [Act.put, List.setIfInBounds_toArray, List.set_cons_zero, List.set_cons_succ]
  refine wpAnyH_take (i := 6) (oi := { dst := some 19, op := Go.Op.move (Go.Operand.tmp 0), type := 30, pos := _, after := #[], guard := none }) (v := .slice (some ⟨b, off, none⟩) L cap) rfl (by kernel_rfl) (by kernel_rfl) (by kernel_rfl) (fun _ _ _ h => h) (Or.inl ⟨by rfl, fun W hW => by go_simp⟩) (by assumption) ?_
  try simp only [Act.put, List.setIfInBounds_toArray, List.set_cons_zero, List.set_cons_succ]
  refine wpAnyH_take (i := 7) (oi := { dst := some 20, op := Go.Op.indexAddr 30 (Go.Operand.tmp 19) (Go.Operand.const (Go.Value.int Go.IntKind.i64 2)), type := 0, pos := _, after := #[{ on := 6, ground := Go.Ground.data }], guard := none }) (v := .pointer (some ⟨b, off + 2, none⟩)) rfl (by kernel_rfl) (by kernel_rfl) (by kernel_rfl) (fun _ _ _ h => h) (Or.inl ⟨by rfl, fun W hW => by go_simp⟩) (by assumption) ?_
  try simp only [Act.put, List.setIfInBounds_toArray, List.set_cons_zero, List.set_cons_succ]
  refine wpAnyH_take (i := 8) (oi := { dst := some 21, op := Go.Op.load 5 (Go.Operand.tmp 20), type := 5, pos := _, after := #[{ on := 7, ground := Go.Ground.data }], guard := none }) (v := .int .u8 (x2.toNat : Int)) rfl (by kernel_rfl) (by kernel_rfl) (by kernel_rfl) (fun _ _ _ h => h) (Or.inl ⟨by rfl, fun W hW => by have h1 := (hW.cell hbl1).trans c2; go_simp⟩) (by assumption) ?_
  try simp only [Act.put, List.setIfInBounds_toArray, List.set_cons_zero, List.set_cons_succ]
  refine wpAnyH_take (i := 9) (oi := { dst := some 22, op := Go.Op.move (Go.Operand.tmp 0), type := 30, pos := _, after := #[], guard := none }) (v := .slice (some ⟨b, off, none⟩) L cap) rfl (by kernel_rfl) (by kernel_rfl) (by kernel_rfl) (fun _ _ _ h => h) (Or.inl ⟨by rfl, fun W hW => by go_simp⟩) (by assumption) ?_
  try simp only [Act.put, List.setIfInBounds_toArray, List.set_cons_zero, List.set_cons_succ]
  refine wpAnyH_take (i := 10) (oi := { dst := some 23, op := Go.Op.slice 30 (Go.Operand.tmp 22) (some (Go.Operand.const (Go.Value.int Go.IntKind.i64 3))) (some (Go.Operand.const (Go.Value.int Go.IntKind.i64 7))) none, type := 30, pos := _, after := #[{ on := 9, ground := Go.Ground.data }], guard := none }) (v := .slice (some ⟨b, off + 3, none⟩) 4 (cap - 3)) rfl (by kernel_rfl) (by kernel_rfl) (by kernel_rfl) (fun _ _ _ h => h) (Or.inl ⟨by rfl, fun W hW => by go_simp⟩) (by assumption) ?_
  try simp only [Act.put, List.setIfInBounds_toArray, List.set_cons_zero, List.set_cons_succ]
  refine wpAnyH_ready (rs := [11, 13]) (by kernel_rfl) (by simp) ?_
  refine AllReadyH.cons (o := { dst := some 24, op := Go.Op.call { callee := Go.Callee.value (Go.Operand.func 79), args := #[Go.Operand.tmp 23], argTypes := #[30] }, type := 23, pos := _, after := #[{ on := 10, ground := Go.Ground.data }], guard := none }) rfl (fun K hK => ?_) (AllReadyH.cons (o := { dst := some 4, op := Go.Op.alloc 27, type := 0, pos := _, after := #[], guard := none }) rfl (fun K hK => ?_) AllReadyH.nil)
  · go_simp
    refine (kn3 w1.drew b0).mono ?_
    rintro e wn ⟨rfl, rfl⟩
    go_wp2_with fail
    refine hK.out _ _ b0 (fun hHeld => ?_)
    clear hK K
    try simp only [Act.put, List.setIfInBounds_toArray, List.set_cons_zero, List.set_cons_succ]
    refine wpAnyH_take (i := 12) (oi := { dst := some 25, op := Go.Op.build 27 #[(0, Go.Operand.tmp 15), (1, Go.Operand.tmp 18), (2, Go.Operand.tmp 21), (3, Go.Operand.tmp 24)], type := 27, pos := _, after := #[{ on := 2, ground := Go.Ground.data }, { on := 5, ground := Go.Ground.data }, { on := 8, ground := Go.Ground.data }, { on := 11, ground := Go.Ground.data }], guard := none }) (v := .agg #[.int .u8 (x0.toNat : Int), .int .u8 (x1.toNat : Int), .int .u8 (x2.toNat : Int), .int .u32 (g : Int), .slice none 0 0, .slice none 0 0]) rfl (by kernel_rfl) (by kernel_rfl) (by kernel_rfl) (fun _ _ _ h => h) (Or.inl ⟨by rfl, fun W hW => by go_simp⟩) (by assumption) ?_
    try simp only [Act.put, List.setIfInBounds_toArray, List.set_cons_zero, List.set_cons_succ]
    refine wpAnyH_ready (rs := [13]) (by kernel_rfl) (by simp) ?_
    refine AllReadyH.cons (o := { dst := some 4, op := Go.Op.alloc 27, type := 0, pos := _, after := #[], guard := none }) rfl (fun K hK => ?_) AllReadyH.nil
    go_simp
    have b3 := b0.alloc z1 (.cells #[.int .u8 0, .int .u8 0, .int .u8 0, .int .u32 0, .slice none 0 0, .slice none 0 0] 27)
    refine hK.out _ _ b3 (fun hHeld => ?_)
    clear hK K
    try simp only [Act.put, List.setIfInBounds_toArray, List.set_cons_zero, List.set_cons_succ]
    refine wpAnyH_ready (rs := [14]) (by kernel_rfl) (by simp) ?_
    refine AllReadyH.cons (o := { dst := none, op := Go.Op.store 27 (Go.Operand.tmp 4) (Go.Operand.tmp 25), type := 0, pos := _, after := #[{ on := 13, ground := Go.Ground.data }, { on := 12, ground := Go.Ground.data }, { on := 11, ground := Go.Ground.chain }, { on := 0, ground := Go.Ground.phase }, { on := 1, ground := Go.Ground.phase }, { on := 2, ground := Go.Ground.phase }, { on := 3, ground := Go.Ground.phase }, { on := 4, ground := Go.Ground.phase }, { on := 5, ground := Go.Ground.phase }, { on := 6, ground := Go.Ground.phase }, { on := 7, ground := Go.Ground.phase }, { on := 8, ground := Go.Ground.phase }, { on := 9, ground := Go.Ground.phase }, { on := 10, ground := Go.Ground.phase }, { on := 11, ground := Go.Ground.phase }, { on := 12, ground := Go.Ground.phase }, { on := 13, ground := Go.Ground.phase }], guard := none }) rfl (fun K hK => ?_) AllReadyH.nil
    go_simp
    have b4 : Below w1.heap.size w1 (w1.alloc (.cells #[.int .u8 (x0.toNat : Int), .int .u8 (x1.toNat : Int), .int .u8 (x2.toNat : Int), .int .u32 (g : Int), .slice none 0 0, .slice none 0 0] 27)).drew := ((Below.refl _ _).alloc (Nat.le_refl _) (.cells #[.int .u8 (x0.toNat : Int), .int .u8 (x1.toNat : Int), .int .u8 (x2.toNat : Int), .int .u32 (g : Int), .slice none 0 0, .slice none 0 0] 27)).drew
    refine hK.out _ _ b4 (fun hHeld => ?_)
    clear hK K
    try simp only [Act.put, List.setIfInBounds_toArray, List.set_cons_zero, List.set_cons_succ]
    refine wpAnyH_done (by kernel_rfl) ?_ _
    refine NoPanic.normal ?_
    clear hHeld
    have P3 : (w1.alloc (.cells #[.int .u8 (x0.toNat : Int), .int .u8 (x1.toNat : Int), .int .u8 (x2.toNat : Int), .int .u32 (g : Int), .slice none 0 0, .slice none 0 0] 27)).drew.heap[w1.heap.size]? = some (.cells #[.int .u8 (x0.toNat : Int), .int .u8 (x1.toNat : Int), .int .u8 (x2.toNat : Int), .int .u32 (g : Int), .slice none 0 0, .slice none 0 0] 27 (0, 0)) := heap_alloc_new w1 _
    have zP : w1.heap.size < (w1.alloc (.cells #[.int .u8 (x0.toNat : Int), .int .u8 (x1.toNat : Int), .int .u8 (x2.toNat : Int), .int .u32 (g : Int), .slice none 0 0, .slice none 0 0] 27)).drew.heap.size := by show _ < (w1.alloc _).heap.size; simp
    generalize (w1.alloc (.cells #[.int .u8 (x0.toNat : Int), .int .u8 (x1.toNat : Int), .int .u8 (x2.toNat : Int), .int .u32 (g : Int), .slice none 0 0, .slice none 0 0] 27)).drew = w3 at *
    clear b0 z1
    go_wp2_with fail
    refine wp_region_noPanic ?_
    refine wp_region_held_drew (S := fun _ => True) (by kernel_rfl) trivial (fun hHeld => ?_)
    refine wpAnyH_take (i := 0) (oi := { dst := some 26, op := Go.Op.move (Go.Operand.tmp 0), type := 30, pos := _, after := #[], guard := none }) (v := .slice (some ⟨b, off, none⟩) L cap) rfl (by kernel_rfl) (by kernel_rfl) (by kernel_rfl) (fun _ _ _ h => h) (Or.inl ⟨by rfl, fun W hW => by go_simp⟩) (by assumption) ?_
    try simp only [Act.put, List.setIfInBounds_toArray, List.set_cons_zero, List.set_cons_succ]
    refine wpAnyH_take (i := 1) (oi := { dst := some 27, op := Go.Op.slice 30 (Go.Operand.tmp 26) (some (Go.Operand.const (Go.Value.int Go.IntKind.i64 7))) (some (Go.Operand.const (Go.Value.int Go.IntKind.i64 11))) none, type := 30, pos := _, after := #[{ on := 0, ground := Go.Ground.data }], guard := none }) (v := .slice (some ⟨b, off + 7, none⟩) 4 (cap - 7)) rfl (by kernel_rfl) (by kernel_rfl) (by kernel_rfl) (fun _ _ _ h => h) (Or.inl ⟨by rfl, fun W hW => by go_simp⟩) (by assumption) ?_
    try simp only [Act.put, List.setIfInBounds_toArray, List.set_cons_zero, List.set_cons_succ]
    refine wpAnyH_take (i := 3) (oi := { dst := some 29, op := Go.Op.move (Go.Operand.tmp 0), type := 30, pos := _, after := #[], guard := none }) (v := .slice (some ⟨b, off, none⟩) L cap) rfl (by kernel_rfl) (by kernel_rfl) (by kernel_rfl) (fun _ _ _ h => h) (Or.inl ⟨by rfl, fun W hW => by go_simp⟩) (by assumption) ?_
    try simp only [Act.put, List.setIfInBounds_toArray, List.set_cons_zero, List.set_cons_succ]
    refine wpAnyH_take (i := 4) (oi := { dst := some 30, op := Go.Op.slice 30 (Go.Operand.tmp 29) (some (Go.Operand.const (Go.Value.int Go.IntKind.i64 11))) none none, type := 30, pos := _, after := #[{ on := 3, ground := Go.Ground.data }], guard := none }) (v := .slice (some ⟨b, o2, none⟩) (L - 11) (cap - 11)) rfl (by kernel_rfl) (by kernel_rfl) (by kernel_rfl) (fun _ _ _ h => h) (Or.inl ⟨by rfl, fun W hW => by go_simp⟩) (by assumption) ?_
    try simp only [Act.put, List.setIfInBounds_toArray, List.set_cons_zero, List.set_cons_succ]
    refine wpAnyH_ready (rs := [2]) (by kernel_rfl) (by simp) ?_
    refine AllReadyH.cons (o := { dst := some 28, op := Go.Op.call { callee := Go.Callee.value (Go.Operand.func 79), args := #[Go.Operand.tmp 27], argTypes := #[30] }, type := 23, pos := _, after := #[{ on := 1, ground := Go.Ground.data }], guard := none }) rfl (fun K hK => ?_) AllReadyH.nil
    go_simp
    refine (kn7 w3.drew b4.drew).mono ?_
    rintro e wn ⟨rfl, rfl⟩
    go_wp2_with fail
    refine hK.out _ _ trivial (fun hHeld => ?_)
    clear hK K
    try simp only [Act.put, List.setIfInBounds_toArray, List.set_cons_zero, List.set_cons_succ]
    refine wpAnyH_take (i := 5) (oi := { dst := some 5, op := Go.Op.assign (Go.Operand.tmp 28), type := 23, pos := _, after := #[{ on := 2, ground := Go.Ground.data }, { on := 2, ground := Go.Ground.chain }, { on := 0, ground := Go.Ground.phase }, { on := 1, ground := Go.Ground.phase }, { on := 2, ground := Go.Ground.phase }, { on := 3, ground := Go.Ground.textOnly Go.Departure.lateStores }, { on := 4, ground := Go.Ground.textOnly Go.Departure.lateStoresUnsure }], guard := none }) (v := .int .u32 (n : Int)) rfl (by kernel_rfl) (by kernel_rfl) (by kernel_rfl) (fun _ _ _ h => h) (Or.inl ⟨by rfl, fun W hW => by go_simp⟩) (by assumption) ?_
    try simp only [Act.put, List.setIfInBounds_toArray, List.set_cons_zero, List.set_cons_succ]
    refine wpAnyH_take (i := 6) (oi := { dst := some 6, op := Go.Op.assign (Go.Operand.tmp 30), type := 30, pos := _, after := #[{ on := 4, ground := Go.Ground.data }, { on := 5, ground := Go.Ground.chain }, { on := 0, ground := Go.Ground.phase }, { on := 1, ground := Go.Ground.phase }, { on := 2, ground := Go.Ground.phase }, { on := 3, ground := Go.Ground.phase }, { on := 4, ground := Go.Ground.phase }, { on := 5, ground := Go.Ground.phase }], guard := none }) (v := .slice (some ⟨b, o2, none⟩) (L - 11) (cap - 11)) rfl (by kernel_rfl) (by kernel_rfl) (by kernel_rfl) (fun _ _ _ h => h) (Or.inl ⟨by rfl, fun W hW => by go_simp⟩) (by assumption) ?_
    try simp only [Act.put, List.setIfInBounds_toArray, List.set_cons_zero, List.set_cons_succ]
    refine wpAnyH_done (by kernel_rfl) ?_ _
    refine NoPanic.normal ?_
    clear hHeld
    have P4 : w3.drew.heap[w1.heap.size]? = some (.cells #[.int .u8 (x0.toNat : Int), .int .u8 (x1.toNat : Int), .int .u8 (x2.toNat : Int), .int .u32 (g : Int), .slice none 0 0, .slice none 0 0] 27 (0, 0)) := P3
    have b5 : Below w1.heap.size w1 w3.drew := b4.drew
    have z5 : w1.heap.size < w3.drew.heap.size := zP
    clear P3 b4 zP kn3 kn7
    generalize w3.drew = w4 at *
    obtain ⟨m0, m1, m2, m3, m4, m5⟩ := six_cells P4
    go_wp2_with fail
    refine (kh w4).mono ?_
    rintro e w5 ⟨rfl, b6⟩
    have b7 := b5.trans (b6.mono (Nat.le_of_lt z5))
    have P5 := (b6.block _ z5).trans P4
    have z7 := Nat.lt_of_lt_of_le z5 b6.size
    clear kh m0 m1 m2 m3 m4 m5 P4 b5 b6 z5
    have r1 : L - 11 ≤ cap - 11 := by omega
    have r2 : cap - 11 ≤ 9223372036854775807 := by omega
    generalize L - 11 = R at *
    generalize cap - 11 = RC at *
    have v1 : (R : Int) < (n : Int) := by omega
    have x7 := (b7.block _ zX).trans PX
    have fx := fun i => box_frozen (i := i) x7
    obtain ⟨y0, y1, y2, y3, y4, y5⟩ := six_cells x7
    obtain ⟨x8, k8⟩ := six_store x7 (.int .u8 0) (.int .u8 0) (.int .u8 0) (.int .u32 0) (.slice none 0 0) (.slice none 0 0)
    have b8 := (B1.trans (b7.mono B1.size)).trans (k8.below (Nat.le_refl _) (Nat.le_of_lt (Nat.lt_of_lt_of_le zX b7.size)))
    clear P5 z7
    go_wp2
    generalize (((((w5.setCell ⟨w.heap.size, 0, none⟩ (.int .u8 0)).setCell ⟨w.heap.size, 1, none⟩ (.int .u8 0)).setCell ⟨w.heap.size, 2, none⟩ (.int .u8 0)).setCell ⟨w.heap.size, 3, none⟩ (.int .u32 0)).setCell ⟨w.heap.size, 4, none⟩ (.slice none 0 0)).setCell ⟨w.heap.size, 5, none⟩ (.slice none 0 0) = w8 at *
    obtain ⟨z0, z1, z2, z3, z4, z5⟩ := six_cells x8
    refine bodyPost_ret (v := .tuple #[.agg #[.int .u8 0, .int .u8 0, .int .u8 0, .int .u32 0, .slice none 0 0, .slice none 0 0], .int .i64 4]) (by simp [results, Tryz.results17, go_sem, z0, z1, z2, z3, z4, z5]) rfl ⟨rfl, b8⟩
  · go_simp
    have b3 := b0.alloc z1 (.cells #[.int .u8 0, .int .u8 0, .int .u8 0, .int .u32 0, .slice none 0 0, .slice none 0 0] 27)
    refine hK.out _ _ b3 (fun hHeld => ?_)
    clear hK K
    try simp only [Act.put, List.setIfInBounds_toArray, List.set_cons_zero, List.set_cons_succ]
    refine wpAnyH_ready (rs := [11]) (by kernel_rfl) (by simp) ?_
    refine AllReadyH.cons (o := { dst := some 24, op := Go.Op.call { callee := Go.Callee.value (Go.Operand.func 79), args := #[Go.Operand.tmp 23], argTypes := #[30] }, type := 23, pos := _, after := #[{ on := 10, ground := Go.Ground.data }], guard := none }) rfl (fun K hK => ?_) AllReadyH.nil
    go_simp
    refine (kn3 (w1.drew.alloc (.cells #[.int .u8 0, .int .u8 0, .int .u8 0, .int .u32 0, .slice none 0 0, .slice none 0 0] 27)) b3).mono ?_
    rintro e wn ⟨rfl, rfl⟩
    go_wp2_with fail
    refine hK.out _ _ b3 (fun hHeld => ?_)
    clear hK K
    try simp only [Act.put, List.setIfInBounds_toArray, List.set_cons_zero, List.set_cons_succ]
    refine wpAnyH_take (i := 12) (oi := { dst := some 25, op := Go.Op.build 27 #[(0, Go.Operand.tmp 15), (1, Go.Operand.tmp 18), (2, Go.Operand.tmp 21), (3, Go.Operand.tmp 24)], type := 27, pos := _, after := #[{ on := 2, ground := Go.Ground.data }, { on := 5, ground := Go.Ground.data }, { on := 8, ground := Go.Ground.data }, { on := 11, ground := Go.Ground.data }], guard := none }) (v := .agg #[.int .u8 (x0.toNat : Int), .int .u8 (x1.toNat : Int), .int .u8 (x2.toNat : Int), .int .u32 (g : Int), .slice none 0 0, .slice none 0 0]) rfl (by kernel_rfl) (by kernel_rfl) (by kernel_rfl) (fun _ _ _ h => h) (Or.inl ⟨by rfl, fun W hW => by go_simp⟩) (by assumption) ?_
    try simp only [Act.put, List.setIfInBounds_toArray, List.set_cons_zero, List.set_cons_succ]
    refine wpAnyH_ready (rs := [14]) (by kernel_rfl) (by simp) ?_
    refine AllReadyH.cons (o := { dst := none, op := Go.Op.store 27 (Go.Operand.tmp 4) (Go.Operand.tmp 25), type := 0, pos := _, after := #[{ on := 13, ground := Go.Ground.data }, { on := 12, ground := Go.Ground.data }, { on := 11, ground := Go.Ground.chain }, { on := 0, ground := Go.Ground.phase }, { on := 1, ground := Go.Ground.phase }, { on := 2, ground := Go.Ground.phase }, { on := 3, ground := Go.Ground.phase }, { on := 4, ground := Go.Ground.phase }, { on := 5, ground := Go.Ground.phase }, { on := 6, ground := Go.Ground.phase }, { on := 7, ground := Go.Ground.phase }, { on := 8, ground := Go.Ground.phase }, { on := 9, ground := Go.Ground.phase }, { on := 10, ground := Go.Ground.phase }, { on := 11, ground := Go.Ground.phase }, { on := 12, ground := Go.Ground.phase }, { on := 13, ground := Go.Ground.phase }], guard := none }) rfl (fun K hK => ?_) AllReadyH.nil
    go_simp
    have b4 : Below w1.heap.size w1 (w1.alloc (.cells #[.int .u8 (x0.toNat : Int), .int .u8 (x1.toNat : Int), .int .u8 (x2.toNat : Int), .int .u32 (g : Int), .slice none 0 0, .slice none 0 0] 27)).drew := ((Below.refl _ _).alloc (Nat.le_refl _) (.cells #[.int .u8 (x0.toNat : Int), .int .u8 (x1.toNat : Int), .int .u8 (x2.toNat : Int), .int .u32 (g : Int), .slice none 0 0, .slice none 0 0] 27)).drew
    refine hK.out _ _ b4 (fun hHeld => ?_)
    clear hK K
    try simp only [Act.put, List.setIfInBounds_toArray, List.set_cons_zero, List.set_cons_succ]
    refine wpAnyH_done (by kernel_rfl) ?_ _
    refine NoPanic.normal ?_
    clear hHeld
    have P3 : (w1.alloc (.cells #[.int .u8 (x0.toNat : Int), .int .u8 (x1.toNat : Int), .int .u8 (x2.toNat : Int), .int .u32 (g : Int), .slice none 0 0, .slice none 0 0] 27)).drew.heap[w1.heap.size]? = some (.cells #[.int .u8 (x0.toNat : Int), .int .u8 (x1.toNat : Int), .int .u8 (x2.toNat : Int), .int .u32 (g : Int), .slice none 0 0, .slice none 0 0] 27 (0, 0)) := heap_alloc_new w1 _
    have zP : w1.heap.size < (w1.alloc (.cells #[.int .u8 (x0.toNat : Int), .int .u8 (x1.toNat : Int), .int .u8 (x2.toNat : Int), .int .u32 (g : Int), .slice none 0 0, .slice none 0 0] 27)).drew.heap.size := by show _ < (w1.alloc _).heap.size; simp
    generalize (w1.alloc (.cells #[.int .u8 (x0.toNat : Int), .int .u8 (x1.toNat : Int), .int .u8 (x2.toNat : Int), .int .u32 (g : Int), .slice none 0 0, .slice none 0 0] 27)).drew = w3 at *
    clear b0 z1
    go_wp2_with fail
    refine wp_region_noPanic ?_
    refine wp_region_held_drew (S := fun _ => True) (by kernel_rfl) trivial (fun hHeld => ?_)
    refine wpAnyH_take (i := 0) (oi := { dst := some 26, op := Go.Op.move (Go.Operand.tmp 0), type := 30, pos := _, after := #[], guard := none }) (v := .slice (some ⟨b, off, none⟩) L cap) rfl (by kernel_rfl) (by kernel_rfl) (by kernel_rfl) (fun _ _ _ h => h) (Or.inl ⟨by rfl, fun W hW => by go_simp⟩) (by assumption) ?_
    try simp only [Act.put, List.setIfInBounds_toArray, List.set_cons_zero, List.set_cons_succ]
    refine wpAnyH_take (i := 1) (oi := { dst := some 27, op := Go.Op.slice 30 (Go.Operand.tmp 26) (some (Go.Operand.const (Go.Value.int Go.IntKind.i64 7))) (some (Go.Operand.const (Go.Value.int Go.IntKind.i64 11))) none, type := 30, pos := _, after := #[{ on := 0, ground := Go.Ground.data }], guard := none }) (v := .slice (some ⟨b, off + 7, none⟩) 4 (cap - 7)) rfl (by kernel_rfl) (by kernel_rfl) (by kernel_rfl) (fun _ _ _ h => h) (Or.inl ⟨by rfl, fun W hW => by go_simp⟩) (by assumption) ?_
    try simp only [Act.put, List.setIfInBounds_toArray, List.set_cons_zero, List.set_cons_succ]
    refine wpAnyH_take (i := 3) (oi := { dst := some 29, op := Go.Op.move (Go.Operand.tmp 0), type := 30, pos := _, after := #[], guard := none }) (v := .slice (some ⟨b, off, none⟩) L cap) rfl (by kernel_rfl) (by kernel_rfl) (by kernel_rfl) (fun _ _ _ h => h) (Or.inl ⟨by rfl, fun W hW => by go_simp⟩) (by assumption) ?_
    try simp only [Act.put, List.setIfInBounds_toArray, List.set_cons_zero, List.set_cons_succ]
    refine wpAnyH_take (i := 4) (oi := { dst := some 30, op := Go.Op.slice 30 (Go.Operand.tmp 29) (some (Go.Operand.const (Go.Value.int Go.IntKind.i64 11))) none none, type := 30, pos := _, after := #[{ on := 3, ground := Go.Ground.data }], guard := none }) (v := .slice (some ⟨b, o2, none⟩) (L - 11) (cap - 11)) rfl (by kernel_rfl) (by kernel_rfl) (by kernel_rfl) (fun _ _ _ h => h) (Or.inl ⟨by rfl, fun W hW => by go_simp⟩) (by assumption) ?_
    try simp only [Act.put, List.setIfInBounds_toArray, List.set_cons_zero, List.set_cons_succ]
    refine wpAnyH_ready (rs := [2]) (by kernel_rfl) (by simp) ?_
    refine AllReadyH.cons (o := { dst := some 28, op := Go.Op.call { callee := Go.Callee.value (Go.Operand.func 79), args := #[Go.Operand.tmp 27], argTypes := #[30] }, type := 23, pos := _, after := #[{ on := 1, ground := Go.Ground.data }], guard := none }) rfl (fun K hK => ?_) AllReadyH.nil
    go_simp
    refine (kn7 w3.drew b4.drew).mono ?_
    rintro e wn ⟨rfl, rfl⟩
    go_wp2_with fail
    refine hK.out _ _ trivial (fun hHeld => ?_)
    clear hK K
    try simp only [Act.put, List.setIfInBounds_toArray, List.set_cons_zero, List.set_cons_succ]
    refine wpAnyH_take (i := 5) (oi := { dst := some 5, op := Go.Op.assign (Go.Operand.tmp 28), type := 23, pos := _, after := #[{ on := 2, ground := Go.Ground.data }, { on := 2, ground := Go.Ground.chain }, { on := 0, ground := Go.Ground.phase }, { on := 1, ground := Go.Ground.phase }, { on := 2, ground := Go.Ground.phase }, { on := 3, ground := Go.Ground.textOnly Go.Departure.lateStores }, { on := 4, ground := Go.Ground.textOnly Go.Departure.lateStoresUnsure }], guard := none }) (v := .int .u32 (n : Int)) rfl (by kernel_rfl) (by kernel_rfl) (by kernel_rfl) (fun _ _ _ h => h) (Or.inl ⟨by rfl, fun W hW => by go_simp⟩) (by assumption) ?_
    try simp only [Act.put, List.setIfInBounds_toArray, List.set_cons_zero, List.set_cons_succ]
    refine wpAnyH_take (i := 6) (oi := { dst := some 6, op := Go.Op.assign (Go.Operand.tmp 30), type := 30, pos := _, after := #[{ on := 4, ground := Go.Ground.data }, { on := 5, ground := Go.Ground.chain }, { on := 0, ground := Go.Ground.phase }, { on := 1, ground := Go.Ground.phase }, { on := 2, ground := Go.Ground.phase }, { on := 3, ground := Go.Ground.phase }, { on := 4, ground := Go.Ground.phase }, { on := 5, ground := Go.Ground.phase }], guard := none }) (v := .slice (some ⟨b, o2, none⟩) (L - 11) (cap - 11)) rfl (by kernel_rfl) (by kernel_rfl) (by kernel_rfl) (fun _ _ _ h => h) (Or.inl ⟨by rfl, fun W hW => by go_simp⟩) (by assumption) ?_
    try simp only [Act.put, List.setIfInBounds_toArray, List.set_cons_zero, List.set_cons_succ]
    refine wpAnyH_done (by kernel_rfl) ?_ _
    refine NoPanic.normal ?_
    clear hHeld
    have P4 : w3.drew.heap[w1.heap.size]? = some (.cells #[.int .u8 (x0.toNat : Int), .int .u8 (x1.toNat : Int), .int .u8 (x2.toNat : Int), .int .u32 (g : Int), .slice none 0 0, .slice none 0 0] 27 (0, 0)) := P3
    have b5 : Below w1.heap.size w1 w3.drew := b4.drew
    have z5 : w1.heap.size < w3.drew.heap.size := zP
    clear P3 b4 zP kn3 kn7
    generalize w3.drew = w4 at *
    obtain ⟨m0, m1, m2, m3, m4, m5⟩ := six_cells P4
    go_wp2_with fail
    refine (kh w4).mono ?_
    rintro e w5 ⟨rfl, b6⟩
    have b7 := b5.trans (b6.mono (Nat.le_of_lt z5))
    have P5 := (b6.block _ z5).trans P4
    have z7 := Nat.lt_of_lt_of_le z5 b6.size
    clear kh m0 m1 m2 m3 m4 m5 P4 b5 b6 z5
    have r1 : L - 11 ≤ cap - 11 := by omega
    have r2 : cap - 11 ≤ 9223372036854775807 := by omega
    generalize L - 11 = R at *
    generalize cap - 11 = RC at *
    have v1 : (R : Int) < (n : Int) := by omega
    have x7 := (b7.block _ zX).trans PX
    have fx := fun i => box_frozen (i := i) x7
    obtain ⟨y0, y1, y2, y3, y4, y5⟩ := six_cells x7
    obtain ⟨x8, k8⟩ := six_store x7 (.int .u8 0) (.int .u8 0) (.int .u8 0) (.int .u32 0) (.slice none 0 0) (.slice none 0 0)
    have b8 := (B1.trans (b7.mono B1.size)).trans (k8.below (Nat.le_refl _) (Nat.le_of_lt (Nat.lt_of_lt_of_le zX b7.size)))
    clear P5 z7
    go_wp2
    generalize (((((w5.setCell ⟨w.heap.size, 0, none⟩ (.int .u8 0)).setCell ⟨w.heap.size, 1, none⟩ (.int .u8 0)).setCell ⟨w.heap.size, 2, none⟩ (.int .u8 0)).setCell ⟨w.heap.size, 3, none⟩ (.int .u32 0)).setCell ⟨w.heap.size, 4, none⟩ (.slice none 0 0)).setCell ⟨w.heap.size, 5, none⟩ (.slice none 0 0) = w8 at *
    obtain ⟨z0, z1, z2, z3, z4, z5⟩ := six_cells x8
    refine bodyPost_ret (v := .tuple #[.agg #[.int .u8 0, .int .u8 0, .int .u8 0, .int .u32 0, .slice none 0 0, .slice none 0 0], .int .i64 4]) (by simp [results, Tryz.results17, go_sem, z0, z1, z2, z3, z4, z5]) rfl ⟨rfl, b8⟩
set_option maxHeartbeats 2000000 in
set_option maxRecDepth 1000000 in
theorem Get_badO (w : World) (vb : Value) (bs : List UInt8) (hb : InAt w w.heap.size vb bs) (hl : ¬ bs.length < 11) (hh : (rawM bs).head = true) (ho : numAt 7 bs ≤ bs.length - 11) (lo : List OpD) (lr : List (List RowD)) (er : Nat) (hpo : getOps ((bs.drop 11).take (numAt 7 bs)) = (lo, 4)) (hpr : getRes ((bs.drop 11).drop (numAt 7 bs)) = (lr, er)) :
    Calls Tryz.prog 17 #[vb] w fun e w' => e = .returned (.tuple #[.agg #[.int .u8 0, .int .u8 0, .int .u8 0, .int .u32 0, .slice none 0 0, .slice none 0 0], .int .i64 4]) ∧ Below w.heap.size w w' := by
  have hb0 := hb
  obtain ⟨ao, cap, rfl, h1, h2, hc⟩ := hb
  unfold maxLen at h2
  obtain ⟨b, off, rfl, hbl, hcell⟩ := hc (by omega)
  have i11 : ¬ (bs.length : Int) < 11 := by omega
  obtain ⟨w1, hw1⟩ : ∃ w1, w1 = w.alloc (.cells #[.int .u8 0, .int .u8 0, .int .u8 0, .int .u32 0, .slice none 0 0, .slice none 0 0] 27) := ⟨_, rfl⟩
  have B1 : Below w.heap.size w w1 := by rw [hw1]; exact below_one w _
  have C0 := hcell 0 (by omega) 0 _ rfl
  have C1 := hcell 1 (by omega) 0 _ rfl
  have C2 := hcell 2 (by omega) 0 _ rfl
  simp only [Nat.zero_mul, Nat.one_mul, Nat.add_zero, Nat.mul_one, bv] at C0 C1 C2
  obtain ⟨r0, r1, r2, r3⟩ := raw_head hl
  rw [← r0] at C0
  rw [← r1] at C1
  rw [← r2] at C2
  obtain ⟨x0, hx0⟩ : ∃ x, x = (rawM bs).say := ⟨_, rfl⟩
  obtain ⟨x1, hx1⟩ : ∃ x, x = (rawM bs).src := ⟨_, rfl⟩
  obtain ⟨x2, hx2⟩ : ∃ x, x = (rawM bs).dst := ⟨_, rfl⟩
  rw [← hx0] at C0
  rw [← hx1] at C1
  rw [← hx2] at C2
  have c0 : w1.cell? ⟨b, off, none⟩ = some (.int .u8 (x0.toNat : Int)) := (B1.cell hbl).trans C0
  have c1 : w1.cell? ⟨b, off + 1, none⟩ = some (.int .u8 (x1.toNat : Int)) := (B1.cell hbl).trans C1
  have c2 : w1.cell? ⟨b, off + 2, none⟩ = some (.int .u8 (x2.toNat : Int)) := (B1.cell hbl).trans C2
  have hb1 : InAt w1 w1.heap.size (.slice (some ⟨b, off, none⟩) bs.length cap) bs := (hb0.below B1 (Nat.le_refl _)).mono B1.size
  have hbl1 : b < w1.heap.size := Nat.lt_of_lt_of_le hbl B1.size
  have s3 : InAt w1 w1.heap.size (.slice (some ⟨b, off + 3, none⟩) 4 (cap - 3)) ((bs.drop 3).take 4) := by
    have h := in_drop (n := 3) (ao' := some ⟨b, off + 3, none⟩) hb1 (by omega) (fun _ _ _ e => by cases e; rfl)
    rw [← List.length_drop] at h
    exact in_take h (by simp; omega)
  have s7 : InAt w1 w1.heap.size (.slice (some ⟨b, off + 7, none⟩) 4 (cap - 7)) ((bs.drop 7).take 4) := by
    have h := in_drop (n := 7) (ao' := some ⟨b, off + 7, none⟩) hb1 (by omega) (fun _ _ _ e => by cases e; rfl)
    rw [← List.length_drop] at h
    exact in_take h (by simp; omega)
  have kn3 : ∀ W, Below w1.heap.size w1 W → Calls Tryz.prog 79 #[.slice (some ⟨b, off + 3, none⟩) 4 (cap - 3)] W fun e w' => e = .returned (.int .u32 (numAt 3 bs : Int)) ∧ W = w' := fun W hW => pnumber_any W _ _ ((s3.below hW (Nat.le_refl _)).mono hW.size) (by simp; omega)
  have kn7 : ∀ W, Below w1.heap.size w1 W → Calls Tryz.prog 79 #[.slice (some ⟨b, off + 7, none⟩) 4 (cap - 7)] W fun e w' => e = .returned (.int .u32 (numAt 7 bs : Int)) ∧ W = w' := fun W hW => pnumber_any W _ _ ((s7.below hW (Nat.le_refl _)).mono hW.size) (by simp; omega)
  have ng := numAt_lt (k := 3) (bs := bs) (by omega)
  have nn := numAt_lt (k := 7) (bs := bs) (by omega)
  rw [← r3] at kn3 ng
  obtain ⟨g, hg⟩ : ∃ g, g = (rawM bs).g.toNat := ⟨_, rfl⟩
  obtain ⟨n, hn⟩ : ∃ n, n = numAt 7 bs := ⟨_, rfl⟩
  rw [← hg] at kn3 ng
  rw [← hn] at kn7 nn
  obtain ⟨o2, hro⟩ : ∃ o2, (if cap = 11 then some (⟨b, off, none⟩ : Addr) else some ⟨b, off + 11, none⟩) = some ⟨b, o2, none⟩ := by
    by_cases e : cap = 11
    · exact ⟨_, by rw [if_pos e]⟩
    · exact ⟨_, by rw [if_neg e]⟩
  have s11 : InAt w1 w1.heap.size (.slice (some ⟨b, o2, none⟩) (bs.length - 11) (cap - 11)) (bs.drop 11) := in_drop (n := 11) hb1 (by omega) (fun hlt _ _ e => by cases e; rw [← hro, if_neg (by omega)])
  have q0 : (11 : Int) ≤ (bs.length : Int) := by omega
  have q1 : (11 : Int) ≤ (cap : Int) := by omega
  have q2 : ¬ cap = 3 := by omega
  have q4 : ¬ bs.length = 0 := by omega
  have q5 : ¬ (bs.length : Int) ≤ 1 := by omega
  have q6 : ¬ (bs.length : Int) ≤ 2 := by omega
  have q7 : ¬ (cap : Int) < 7 := by omega
  have q8 : ¬ (cap : Int) < 11 := by omega
  have q3 : ¬ cap = 7 := by omega
  have kh := fun W => headMay_any W x0.toNat x1.toNat x2.toNat g none none 0 0 0 0
  have PX : w1.heap[w.heap.size]? = some (.cells #[.int .u8 0, .int .u8 0, .int .u8 0, .int .u32 0, .slice none 0 0, .slice none 0 0] 27 (0, 0)) := by rw [hw1]; exact heap_alloc_new w _
  have zX : w.heap.size < w1.heap.size := by rw [hw1]; simp
  have hh' : headOk x0.toNat x1.toNat x2.toNat = true := by rw [hx0, hx1, hx2]; exact hh
  rw [hh'] at kh
  clear hh hh'
  rw [← hn] at ho hpo hpr
  clear hx0 hx1 hx2 hg hn
  clear s3 s7 C0 C1 C2 hcell hc hb0 hb1 r0 r1 r2 r3
  obtain ⟨L, hL⟩ : ∃ L, L = bs.length := ⟨_, rfl⟩
  have HL : Hid (L = bs.length) := hL
  rw [← hL] at hl h1 i11 q0 q4 q5 q6 ho s11 ⊢
  clear hL
  have z1 : w1.heap.size ≤ w1.drew.heap.size := Nat.le_refl _
  have b0 : Below w1.heap.size w1 w1.drew := ⟨rfl, rfl, rfl, Nat.le_refl _, fun _ _ => rfl⟩
  subst hw1
  go_enter Tryz.func17, Tryz.ntmps17
  go_wp2_with fail
  generalize w.alloc (.cells #[.int .u8 0, .int .u8 0, .int .u8 0, .int .u32 0, .slice none 0 0, .slice none 0 0] 27) = w1 at *
  refine wp_region_noPanic ?_
  refine wp_region_held_drew (S := fun W => Below w1.heap.size w1 W) (by kernel_rfl) b0 (fun hHeld => ?_)
  refine wpAnyH_take (i := 0) (oi := { dst := some 13, op := Go.Op.move (Go.Operand.tmp 0), type := 30, pos := _, after := #[], guard := none }) (v := .slice (some ⟨b, off, none⟩) L cap) rfl (by kernel_rfl) (by kernel_rfl) (by kernel_rfl) (fun _ _ _ h => h) (Or.inl ⟨by rfl, fun W hW => by go_simp⟩) (by assumption) ?_
  try simp only [Act.put, List.setIfInBounds_toArray, List.set_cons_zero, List.set_cons_succ]
  refine wpAnyH_take (i := 1) (oi := { dst := some 14, op := Go.Op.indexAddr 30 (Go.Operand.tmp 13) (Go.Operand.const (Go.Value.int Go.IntKind.i64 0)), type := 0, pos := _, after := #[{ on := 0, ground := Go.Ground.data }], guard := none }) (v := .pointer (some ⟨b, off, none⟩)) rfl (by kernel_rfl) (by kernel_rfl) (by kernel_rfl) (fun _ _ _ h => h) (Or.inl ⟨by rfl, fun W hW => by go_simp⟩) (by assumption) ?_
  try simp only [Act.put, List.setIfInBounds_toArray, List.set_cons_zero, List.set_cons_succ]
  refine wpAnyH_take (i := 2) (oi := { dst := some 15, op := Go.Op.load 5 (Go.Operand.tmp 14), type := 5, pos := _, after := #[{ on := 1, ground := Go.Ground.data }], guard := none }) (v := .int .u8 (x0.toNat : Int)) rfl (by kernel_rfl) (by kernel_rfl) (by kernel_rfl) (fun _ _ _ h => h) (Or.inl ⟨by rfl, fun W hW => by have h1 := (hW.cell hbl1).trans c0; go_simp⟩) (by assumption) ?_
  try simp only [Act.put, List.setIfInBounds_toArray, List.set_cons_zero, List.set_cons_succ]
  refine wpAnyH_take (i := 3) (oi := { dst := some 16, op := Go.Op.move (Go.Operand.tmp 0), type := 30, pos := _, after := #[], guard := none }) (v := .slice (some ⟨b, off, none⟩) L cap) rfl (by kernel_rfl) (by kernel_rfl) (by kernel_rfl) (fun _ _ _ h => h) (Or.inl ⟨by rfl, fun W hW => by go_simp⟩) (by assumption) ?_
  try simp only [Act.put, List.setIfInBounds_toArray, List.set_cons_zero, List.set_cons_succ]
  refine wpAnyH_take (i := 4) (oi := { dst := some 17, op := Go.Op.indexAddr 30 (Go.Operand.tmp 16) (Go.Operand.const (Go.Value.int Go.IntKind.i64 1)), type := 0, pos := _, after := #[{ on := 3, ground := Go.Ground.data }], guard := none }) (v := .pointer (some ⟨b, off + 1, none⟩)) rfl (by kernel_rfl) (by kernel_rfl) (by kernel_rfl) (fun _ _ _ h => h) (Or.inl ⟨by rfl, fun W hW => by go_simp⟩) (by assumption) ?_
  try simp only [Act.put, List.setIfInBounds_toArray, List.set_cons_zero, List.set_cons_succ]
  refine wpAnyH_take (i := 5) (oi := { dst := some 18, op := Go.Op.load 5 (Go.Operand.tmp 17), type := 5, pos := _, after := #[{ on := 4, ground := Go.Ground.data }], guard := none }) (v := .int .u8 (x1.toNat : Int)) rfl (by kernel_rfl) (by kernel_rfl) (by kernel_rfl) (fun _ _ _ h => h) (Or.inl ⟨by rfl, fun W hW => by have h1 := (hW.cell hbl1).trans c1; go_simp⟩) (by assumption) ?_
  try simp only [Act.put, List.setIfInBounds_toArray, List.set_cons_zero, List.set_cons_succ]
  refine wpAnyH_take (i := 6) (oi := { dst := some 19, op := Go.Op.move (Go.Operand.tmp 0), type := 30, pos := _, after := #[], guard := none }) (v := .slice (some ⟨b, off, none⟩) L cap) rfl (by kernel_rfl) (by kernel_rfl) (by kernel_rfl) (fun _ _ _ h => h) (Or.inl ⟨by rfl, fun W hW => by go_simp⟩) (by assumption) ?_
  try simp only [Act.put, List.setIfInBounds_toArray, List.set_cons_zero, List.set_cons_succ]
  refine wpAnyH_take (i := 7) (oi := { dst := some 20, op := Go.Op.indexAddr 30 (Go.Operand.tmp 19) (Go.Operand.const (Go.Value.int Go.IntKind.i64 2)), type := 0, pos := _, after := #[{ on := 6, ground := Go.Ground.data }], guard := none }) (v := .pointer (some ⟨b, off + 2, none⟩)) rfl (by kernel_rfl) (by kernel_rfl) (by kernel_rfl) (fun _ _ _ h => h) (Or.inl ⟨by rfl, fun W hW => by go_simp⟩) (by assumption) ?_
  try simp only [Act.put, List.setIfInBounds_toArray, List.set_cons_zero, List.set_cons_succ]
  refine wpAnyH_take (i := 8) (oi := { dst := some 21, op := Go.Op.load 5 (Go.Operand.tmp 20), type := 5, pos := _, after := #[{ on := 7, ground := Go.Ground.data }], guard := none }) (v := .int .u8 (x2.toNat : Int)) rfl (by kernel_rfl) (by kernel_rfl) (by kernel_rfl) (fun _ _ _ h => h) (Or.inl ⟨by rfl, fun W hW => by have h1 := (hW.cell hbl1).trans c2; go_simp⟩) (by assumption) ?_
  try simp only [Act.put, List.setIfInBounds_toArray, List.set_cons_zero, List.set_cons_succ]
  refine wpAnyH_take (i := 9) (oi := { dst := some 22, op := Go.Op.move (Go.Operand.tmp 0), type := 30, pos := _, after := #[], guard := none }) (v := .slice (some ⟨b, off, none⟩) L cap) rfl (by kernel_rfl) (by kernel_rfl) (by kernel_rfl) (fun _ _ _ h => h) (Or.inl ⟨by rfl, fun W hW => by go_simp⟩) (by assumption) ?_
  try simp only [Act.put, List.setIfInBounds_toArray, List.set_cons_zero, List.set_cons_succ]
  refine wpAnyH_take (i := 10) (oi := { dst := some 23, op := Go.Op.slice 30 (Go.Operand.tmp 22) (some (Go.Operand.const (Go.Value.int Go.IntKind.i64 3))) (some (Go.Operand.const (Go.Value.int Go.IntKind.i64 7))) none, type := 30, pos := _, after := #[{ on := 9, ground := Go.Ground.data }], guard := none }) (v := .slice (some ⟨b, off + 3, none⟩) 4 (cap - 3)) rfl (by kernel_rfl) (by kernel_rfl) (by kernel_rfl) (fun _ _ _ h => h) (Or.inl ⟨by rfl, fun W hW => by go_simp⟩) (by assumption) ?_
  try simp only [Act.put, List.setIfInBounds_toArray, List.set_cons_zero, List.set_cons_succ]
  refine wpAnyH_ready (rs := [11, 13]) (by kernel_rfl) (by simp) ?_
  refine AllReadyH.cons (o := { dst := some 24, op := Go.Op.call { callee := Go.Callee.value (Go.Operand.func 79), args := #[Go.Operand.tmp 23], argTypes := #[30] }, type := 23, pos := _, after := #[{ on := 10, ground := Go.Ground.data }], guard := none }) rfl (fun K hK => ?_) (AllReadyH.cons (o := { dst := some 4, op := Go.Op.alloc 27, type := 0, pos := _, after := #[], guard := none }) rfl (fun K hK => ?_) AllReadyH.nil)
  · go_simp
    refine (kn3 w1.drew b0).mono ?_
    rintro e wn ⟨rfl, rfl⟩
    go_wp2_with fail
    refine hK.out _ _ b0 (fun hHeld => ?_)
    clear hK K
    try simp only [Act.put, List.setIfInBounds_toArray, List.set_cons_zero, List.set_cons_succ]
    refine wpAnyH_take (i := 12) (oi := { dst := some 25, op := Go.Op.build 27 #[(0, Go.Operand.tmp 15), (1, Go.Operand.tmp 18), (2, Go.Operand.tmp 21), (3, Go.Operand.tmp 24)], type := 27, pos := _, after := #[{ on := 2, ground := Go.Ground.data }, { on := 5, ground := Go.Ground.data }, { on := 8, ground := Go.Ground.data }, { on := 11, ground := Go.Ground.data }], guard := none }) (v := .agg #[.int .u8 (x0.toNat : Int), .int .u8 (x1.toNat : Int), .int .u8 (x2.toNat : Int), .int .u32 (g : Int), .slice none 0 0, .slice none 0 0]) rfl (by kernel_rfl) (by kernel_rfl) (by kernel_rfl) (fun _ _ _ h => h) (Or.inl ⟨by rfl, fun W hW => by go_simp⟩) (by assumption) ?_
    try simp only [Act.put, List.setIfInBounds_toArray, List.set_cons_zero, List.set_cons_succ]
    refine wpAnyH_ready (rs := [13]) (by kernel_rfl) (by simp) ?_
    refine AllReadyH.cons (o := { dst := some 4, op := Go.Op.alloc 27, type := 0, pos := _, after := #[], guard := none }) rfl (fun K hK => ?_) AllReadyH.nil
    go_simp
    have b3 := b0.alloc z1 (.cells #[.int .u8 0, .int .u8 0, .int .u8 0, .int .u32 0, .slice none 0 0, .slice none 0 0] 27)
    refine hK.out _ _ b3 (fun hHeld => ?_)
    clear hK K
    try simp only [Act.put, List.setIfInBounds_toArray, List.set_cons_zero, List.set_cons_succ]
    refine wpAnyH_ready (rs := [14]) (by kernel_rfl) (by simp) ?_
    refine AllReadyH.cons (o := { dst := none, op := Go.Op.store 27 (Go.Operand.tmp 4) (Go.Operand.tmp 25), type := 0, pos := _, after := #[{ on := 13, ground := Go.Ground.data }, { on := 12, ground := Go.Ground.data }, { on := 11, ground := Go.Ground.chain }, { on := 0, ground := Go.Ground.phase }, { on := 1, ground := Go.Ground.phase }, { on := 2, ground := Go.Ground.phase }, { on := 3, ground := Go.Ground.phase }, { on := 4, ground := Go.Ground.phase }, { on := 5, ground := Go.Ground.phase }, { on := 6, ground := Go.Ground.phase }, { on := 7, ground := Go.Ground.phase }, { on := 8, ground := Go.Ground.phase }, { on := 9, ground := Go.Ground.phase }, { on := 10, ground := Go.Ground.phase }, { on := 11, ground := Go.Ground.phase }, { on := 12, ground := Go.Ground.phase }, { on := 13, ground := Go.Ground.phase }], guard := none }) rfl (fun K hK => ?_) AllReadyH.nil
    go_simp
    have b4 : Below w1.heap.size w1 (w1.alloc (.cells #[.int .u8 (x0.toNat : Int), .int .u8 (x1.toNat : Int), .int .u8 (x2.toNat : Int), .int .u32 (g : Int), .slice none 0 0, .slice none 0 0] 27)).drew := ((Below.refl _ _).alloc (Nat.le_refl _) (.cells #[.int .u8 (x0.toNat : Int), .int .u8 (x1.toNat : Int), .int .u8 (x2.toNat : Int), .int .u32 (g : Int), .slice none 0 0, .slice none 0 0] 27)).drew
    refine hK.out _ _ b4 (fun hHeld => ?_)
    clear hK K
    try simp only [Act.put, List.setIfInBounds_toArray, List.set_cons_zero, List.set_cons_succ]
    refine wpAnyH_done (by kernel_rfl) ?_ _
    refine NoPanic.normal ?_
    clear hHeld
    have P3 : (w1.alloc (.cells #[.int .u8 (x0.toNat : Int), .int .u8 (x1.toNat : Int), .int .u8 (x2.toNat : Int), .int .u32 (g : Int), .slice none 0 0, .slice none 0 0] 27)).drew.heap[w1.heap.size]? = some (.cells #[.int .u8 (x0.toNat : Int), .int .u8 (x1.toNat : Int), .int .u8 (x2.toNat : Int), .int .u32 (g : Int), .slice none 0 0, .slice none 0 0] 27 (0, 0)) := heap_alloc_new w1 _
    have zP : w1.heap.size < (w1.alloc (.cells #[.int .u8 (x0.toNat : Int), .int .u8 (x1.toNat : Int), .int .u8 (x2.toNat : Int), .int .u32 (g : Int), .slice none 0 0, .slice none 0 0] 27)).drew.heap.size := by show _ < (w1.alloc _).heap.size; simp
    generalize (w1.alloc (.cells #[.int .u8 (x0.toNat : Int), .int .u8 (x1.toNat : Int), .int .u8 (x2.toNat : Int), .int .u32 (g : Int), .slice none 0 0, .slice none 0 0] 27)).drew = w3 at *
    clear b0 z1
    go_wp2_with fail
    refine wp_region_noPanic ?_
    refine wp_region_held_drew (S := fun _ => True) (by kernel_rfl) trivial (fun hHeld => ?_)
    refine wpAnyH_take (i := 0) (oi := { dst := some 26, op := Go.Op.move (Go.Operand.tmp 0), type := 30, pos := _, after := #[], guard := none }) (v := .slice (some ⟨b, off, none⟩) L cap) rfl (by kernel_rfl) (by kernel_rfl) (by kernel_rfl) (fun _ _ _ h => h) (Or.inl ⟨by rfl, fun W hW => by go_simp⟩) (by assumption) ?_
    try simp only [Act.put, List.setIfInBounds_toArray, List.set_cons_zero, List.set_cons_succ]
    refine wpAnyH_take (i := 1) (oi := { dst := some 27, op := Go.Op.slice 30 (Go.Operand.tmp 26) (some (Go.Operand.const (Go.Value.int Go.IntKind.i64 7))) (some (Go.Operand.const (Go.Value.int Go.IntKind.i64 11))) none, type := 30, pos := _, after := #[{ on := 0, ground := Go.Ground.data }], guard := none }) (v := .slice (some ⟨b, off + 7, none⟩) 4 (cap - 7)) rfl (by kernel_rfl) (by kernel_rfl) (by kernel_rfl) (fun _ _ _ h => h) (Or.inl ⟨by rfl, fun W hW => by go_simp⟩) (by assumption) ?_
    try simp only [Act.put, List.setIfInBounds_toArray, List.set_cons_zero, List.set_cons_succ]
    refine wpAnyH_take (i := 3) (oi := { dst := some 29, op := Go.Op.move (Go.Operand.tmp 0), type := 30, pos := _, after := #[], guard := none }) (v := .slice (some ⟨b, off, none⟩) L cap) rfl (by kernel_rfl) (by kernel_rfl) (by kernel_rfl) (fun _ _ _ h => h) (Or.inl ⟨by rfl, fun W hW => by go_simp⟩) (by assumption) ?_
    try simp only [Act.put, List.setIfInBounds_toArray, List.set_cons_zero, List.set_cons_succ]
    refine wpAnyH_take (i := 4) (oi := { dst := some 30, op := Go.Op.slice 30 (Go.Operand.tmp 29) (some (Go.Operand.const (Go.Value.int Go.IntKind.i64 11))) none none, type := 30, pos := _, after := #[{ on := 3, ground := Go.Ground.data }], guard := none }) (v := .slice (some ⟨b, o2, none⟩) (L - 11) (cap - 11)) rfl (by kernel_rfl) (by kernel_rfl) (by kernel_rfl) (fun _ _ _ h => h) (Or.inl ⟨by rfl, fun W hW => by go_simp⟩) (by assumption) ?_
    try simp only [Act.put, List.setIfInBounds_toArray, List.set_cons_zero, List.set_cons_succ]
    refine wpAnyH_ready (rs := [2]) (by kernel_rfl) (by simp) ?_
    refine AllReadyH.cons (o := { dst := some 28, op := Go.Op.call { callee := Go.Callee.value (Go.Operand.func 79), args := #[Go.Operand.tmp 27], argTypes := #[30] }, type := 23, pos := _, after := #[{ on := 1, ground := Go.Ground.data }], guard := none }) rfl (fun K hK => ?_) AllReadyH.nil
    go_simp
    refine (kn7 w3.drew b4.drew).mono ?_
    rintro e wn ⟨rfl, rfl⟩
    go_wp2_with fail
    refine hK.out _ _ trivial (fun hHeld => ?_)
    clear hK K
    try simp only [Act.put, List.setIfInBounds_toArray, List.set_cons_zero, List.set_cons_succ]
    refine wpAnyH_take (i := 5) (oi := { dst := some 5, op := Go.Op.assign (Go.Operand.tmp 28), type := 23, pos := _, after := #[{ on := 2, ground := Go.Ground.data }, { on := 2, ground := Go.Ground.chain }, { on := 0, ground := Go.Ground.phase }, { on := 1, ground := Go.Ground.phase }, { on := 2, ground := Go.Ground.phase }, { on := 3, ground := Go.Ground.textOnly Go.Departure.lateStores }, { on := 4, ground := Go.Ground.textOnly Go.Departure.lateStoresUnsure }], guard := none }) (v := .int .u32 (n : Int)) rfl (by kernel_rfl) (by kernel_rfl) (by kernel_rfl) (fun _ _ _ h => h) (Or.inl ⟨by rfl, fun W hW => by go_simp⟩) (by assumption) ?_
    try simp only [Act.put, List.setIfInBounds_toArray, List.set_cons_zero, List.set_cons_succ]
    refine wpAnyH_take (i := 6) (oi := { dst := some 6, op := Go.Op.assign (Go.Operand.tmp 30), type := 30, pos := _, after := #[{ on := 4, ground := Go.Ground.data }, { on := 5, ground := Go.Ground.chain }, { on := 0, ground := Go.Ground.phase }, { on := 1, ground := Go.Ground.phase }, { on := 2, ground := Go.Ground.phase }, { on := 3, ground := Go.Ground.phase }, { on := 4, ground := Go.Ground.phase }, { on := 5, ground := Go.Ground.phase }], guard := none }) (v := .slice (some ⟨b, o2, none⟩) (L - 11) (cap - 11)) rfl (by kernel_rfl) (by kernel_rfl) (by kernel_rfl) (fun _ _ _ h => h) (Or.inl ⟨by rfl, fun W hW => by go_simp⟩) (by assumption) ?_
    try simp only [Act.put, List.setIfInBounds_toArray, List.set_cons_zero, List.set_cons_succ]
    refine wpAnyH_done (by kernel_rfl) ?_ _
    refine NoPanic.normal ?_
    clear hHeld
    have P4 : w3.drew.heap[w1.heap.size]? = some (.cells #[.int .u8 (x0.toNat : Int), .int .u8 (x1.toNat : Int), .int .u8 (x2.toNat : Int), .int .u32 (g : Int), .slice none 0 0, .slice none 0 0] 27 (0, 0)) := P3
    have b5 : Below w1.heap.size w1 w3.drew := b4.drew
    have z5 : w1.heap.size < w3.drew.heap.size := zP
    clear P3 b4 zP kn3 kn7
    generalize w3.drew = w4 at *
    obtain ⟨m0, m1, m2, m3, m4, m5⟩ := six_cells P4
    go_wp2_with fail
    refine (kh w4).mono ?_
    rintro e w5 ⟨rfl, b6⟩
    have b7 := b5.trans (b6.mono (Nat.le_of_lt z5))
    have P5 := (b6.block _ z5).trans P4
    have z7 := Nat.lt_of_lt_of_le z5 b6.size
    clear kh m0 m1 m2 m3 m4 m5 P4 b5 b6 z5
    have HR : Hid ((bs.drop 11).length = L - 11) := by show _ = _; rw [List.length_drop, HL.out]
    have r1 : L - 11 ≤ cap - 11 := by omega
    have r2 : cap - 11 ≤ 9223372036854775807 := by omega
    generalize L - 11 = R at *
    generalize cap - 11 = RC at *
    have v1 : (n : Int) ≤ (R : Int) := by omega
    have v2 : (n : Int) ≤ (RC : Int) := by omega
    have v3 : ¬ (R : Int) < (n : Int) := by omega
    obtain ⟨o3, ho3⟩ : ∃ o3, (if RC = n then some (⟨b, o2, none⟩ : Addr) else some ⟨b, o2 + n, none⟩) = some ⟨b, o3, none⟩ := by
      by_cases e : RC = n
      · exact ⟨_, by rw [if_pos e]⟩
      · exact ⟨_, by rw [if_neg e]⟩
    generalize bs.drop 11 = T at *
    have s12 : InAt w1 w1.heap.size (.slice (some ⟨b, o2, none⟩) T.length RC) T := by rw [HR.out]; exact s11
    have qA := in_take s12 (n := n) (by rw [HR.out]; omega)
    have qB : InAt w1 w1.heap.size (.slice (some ⟨b, o3, none⟩) (R - n) (RC - n)) (T.drop n) := by
      have h := in_drop s12 (n := n) (ao' := some ⟨b, o3, none⟩) (by rw [HR.out]; omega) (fun hlt _ _ e => by cases e; rw [← ho3, if_neg (by omega)])
      rw [HR.out] at h
      exact h
    clear s11 s12
    have kg := GetOps_any w5 _ _ ((qA.below b7 (Nat.le_refl _)).mono b7.size)
    rw [hpo] at kg
    clear qA hpo
    obtain ⟨m0, m1, m2, m3, m4, m5⟩ := six_cells P5
    go_wp2_with fail
    refine kg.mono ?_
    rintro e w6 ⟨vo, rfl, oo, b8⟩
    obtain ⟨oa, oc, rfl⟩ := own_len oo
    try simp only at oo
    have P6 := (b8.block _ z7).trans P5
    have z8 := Nat.lt_of_lt_of_le z7 b8.size
    have b9 := b7.trans (b8.mono (Nat.le_of_lt z7))
    have k7 := (Kept.refl w1.heap.size w6.heap.size w6).setCell 4 (.slice oa lo.length oc)
    have b10 := b9.trans (k7.below (Nat.le_refl _) (Nat.le_of_lt z8))
    have P7 := six_set4 (.slice oa lo.length oc) P6
    have z9 : w1.heap.size < (w6.setCell ⟨w1.heap.size, 4, none⟩ (.slice oa lo.length oc)).heap.size := Nat.lt_of_lt_of_le z8 k7.size
    have oo7 := ownsRow_setCell_below (a := ⟨w1.heap.size, 4, none⟩) oo z7 (.slice oa lo.length oc)
    have z5 : w1.heap.size < w5.heap.size := z7
    clear kg m0 m1 m2 m3 m4 m5 oo P5 z7 b7 b8 b9 z8 k7
    obtain ⟨m0, m1, m2, m3, m4, m5⟩ := six_cells P6
    have fP := fun i => box_frozen (i := i) P6
    clear P6
    go_wp2_with fail
    generalize w6.setCell ⟨w1.heap.size, 4, none⟩ (.slice oa lo.length oc) = w7 at *
    clear m0 m1 m2 m3 m4 m5 fP
    have kr := GetResults_any w7 _ _ ((qB.below b10 (Nat.le_refl _)).mono b10.size)
    rw [hpr] at kr
    clear qB hpr
    refine kr.mono ?_
    rintro e w8 ⟨vr, rfl, ⟨l, ol, hlr⟩, b11⟩
    try simp only at hlr
    obtain ⟨ra, rc, rfl⟩ := own_len ol.own
    have P8 := (b11.block _ z9).trans P7
    have z10 := Nat.lt_of_lt_of_le z9 b11.size
    have b12 := b10.trans (b11.mono (Nat.le_of_lt z9))
    have oo8 := own_below oo7 b11
    have k9 := (Kept.refl w1.heap.size w8.heap.size w8).setCell 5 (.slice ra l.length rc)
    have b13 := b12.trans (k9.below (Nat.le_refl _) (Nat.le_of_lt z10))
    have oo9 := own_keptR oo8 z5 k9
    have ol9 := ol.kept z9 k9
    have P9 := six_set5 (.slice ra l.length rc) P8
    have x8 := (b12.block _ zX).trans PX
    have x9 := (b13.block _ zX).trans PX
    have hne : ¬ w.heap.size = w1.heap.size := by omega
    clear kr P7 oo7 b10 b11 b12 oo8
    obtain ⟨m0, m1, m2, m3, m4, m5⟩ := six_cells P8
    obtain ⟨y0, y1, y2, y3, y4, y5⟩ := six_cells x8
    have fP := fun i => box_frozen (i := i) P8
    have fX := fun i => box_frozen (i := i) x8
    clear P8 x8
    obtain ⟨x10, k10⟩ := six_store x9 (.int .u8 0) (.int .u8 0) (.int .u8 0) (.int .u32 0) (.slice none 0 0) (.slice none 0 0)
    have b14 := (B1.trans (b13.mono B1.size)).trans (k10.below (Nat.le_refl _) (Nat.le_of_lt (Nat.lt_of_lt_of_le zX b13.size)))
    clear ol ol9 oo9 hlr
    go_wp2
    generalize w8.setCell ⟨w1.heap.size, 5, none⟩ (.slice ra l.length rc) = w9 at *
    generalize (((((w9.setCell ⟨w.heap.size, 0, none⟩ (.int .u8 0)).setCell ⟨w.heap.size, 1, none⟩ (.int .u8 0)).setCell ⟨w.heap.size, 2, none⟩ (.int .u8 0)).setCell ⟨w.heap.size, 3, none⟩ (.int .u32 0)).setCell ⟨w.heap.size, 4, none⟩ (.slice none 0 0)).setCell ⟨w.heap.size, 5, none⟩ (.slice none 0 0) = w10 at *
    obtain ⟨t0, t1, t2, t3, t4, t5⟩ := six_cells x10
    refine bodyPost_ret (v := .tuple #[.agg #[.int .u8 0, .int .u8 0, .int .u8 0, .int .u32 0, .slice none 0 0, .slice none 0 0], .int .i64 4]) (by simp [results, Tryz.results17, go_sem, t0, t1, t2, t3, t4, t5]) rfl ⟨rfl, b14⟩
  · go_simp
    have b3 := b0.alloc z1 (.cells #[.int .u8 0, .int .u8 0, .int .u8 0, .int .u32 0, .slice none 0 0, .slice none 0 0] 27)
    refine hK.out _ _ b3 (fun hHeld => ?_)
    clear hK K
    try simp only [Act.put, List.setIfInBounds_toArray, List.set_cons_zero, List.set_cons_succ]
    refine wpAnyH_ready (rs := [11]) (by kernel_rfl) (by simp) ?_
    refine AllReadyH.cons (o := { dst := some 24, op := Go.Op.call { callee := Go.Callee.value (Go.Operand.func 79), args := #[Go.Operand.tmp 23], argTypes := #[30] }, type := 23, pos := _, after := #[{ on := 10, ground := Go.Ground.data }], guard := none }) rfl (fun K hK => ?_) AllReadyH.nil
    go_simp
    refine (kn3 (w1.drew.alloc (.cells #[.int .u8 0, .int .u8 0, .int .u8 0, .int .u32 0, .slice none 0 0, .slice none 0 0] 27)) b3).mono ?_
    rintro e wn ⟨rfl, rfl⟩
    go_wp2_with fail
    refine hK.out _ _ b3 (fun hHeld => ?_)
    clear hK K
    try simp only [Act.put, List.setIfInBounds_toArray, List.set_cons_zero, List.set_cons_succ]
    refine wpAnyH_take (i := 12) (oi := { dst := some 25, op := Go.Op.build 27 #[(0, Go.Operand.tmp 15), (1, Go.Operand.tmp 18), (2, Go.Operand.tmp 21), (3, Go.Operand.tmp 24)], type := 27, pos := _, after := #[{ on := 2, ground := Go.Ground.data }, { on := 5, ground := Go.Ground.data }, { on := 8, ground := Go.Ground.data }, { on := 11, ground := Go.Ground.data }], guard := none }) (v := .agg #[.int .u8 (x0.toNat : Int), .int .u8 (x1.toNat : Int), .int .u8 (x2.toNat : Int), .int .u32 (g : Int), .slice none 0 0, .slice none 0 0]) rfl (by kernel_rfl) (by kernel_rfl) (by kernel_rfl) (fun _ _ _ h => h) (Or.inl ⟨by rfl, fun W hW => by go_simp⟩) (by assumption) ?_
    try simp only [Act.put, List.setIfInBounds_toArray, List.set_cons_zero, List.set_cons_succ]
    refine wpAnyH_ready (rs := [14]) (by kernel_rfl) (by simp) ?_
    refine AllReadyH.cons (o := { dst := none, op := Go.Op.store 27 (Go.Operand.tmp 4) (Go.Operand.tmp 25), type := 0, pos := _, after := #[{ on := 13, ground := Go.Ground.data }, { on := 12, ground := Go.Ground.data }, { on := 11, ground := Go.Ground.chain }, { on := 0, ground := Go.Ground.phase }, { on := 1, ground := Go.Ground.phase }, { on := 2, ground := Go.Ground.phase }, { on := 3, ground := Go.Ground.phase }, { on := 4, ground := Go.Ground.phase }, { on := 5, ground := Go.Ground.phase }, { on := 6, ground := Go.Ground.phase }, { on := 7, ground := Go.Ground.phase }, { on := 8, ground := Go.Ground.phase }, { on := 9, ground := Go.Ground.phase }, { on := 10, ground := Go.Ground.phase }, { on := 11, ground := Go.Ground.phase }, { on := 12, ground := Go.Ground.phase }, { on := 13, ground := Go.Ground.phase }], guard := none }) rfl (fun K hK => ?_) AllReadyH.nil
    go_simp
    have b4 : Below w1.heap.size w1 (w1.alloc (.cells #[.int .u8 (x0.toNat : Int), .int .u8 (x1.toNat : Int), .int .u8 (x2.toNat : Int), .int .u32 (g : Int), .slice none 0 0, .slice none 0 0] 27)).drew := ((Below.refl _ _).alloc (Nat.le_refl _) (.cells #[.int .u8 (x0.toNat : Int), .int .u8 (x1.toNat : Int), .int .u8 (x2.toNat : Int), .int .u32 (g : Int), .slice none 0 0, .slice none 0 0] 27)).drew
    refine hK.out _ _ b4 (fun hHeld => ?_)
    clear hK K
    try simp only [Act.put, List.setIfInBounds_toArray, List.set_cons_zero, List.set_cons_succ]
    refine wpAnyH_done (by kernel_rfl) ?_ _
    refine NoPanic.normal ?_
    clear hHeld
    have P3 : (w1.alloc (.cells #[.int .u8 (x0.toNat : Int), .int .u8 (x1.toNat : Int), .int .u8 (x2.toNat : Int), .int .u32 (g : Int), .slice none 0 0, .slice none 0 0] 27)).drew.heap[w1.heap.size]? = some (.cells #[.int .u8 (x0.toNat : Int), .int .u8 (x1.toNat : Int), .int .u8 (x2.toNat : Int), .int .u32 (g : Int), .slice none 0 0, .slice none 0 0] 27 (0, 0)) := heap_alloc_new w1 _
    have zP : w1.heap.size < (w1.alloc (.cells #[.int .u8 (x0.toNat : Int), .int .u8 (x1.toNat : Int), .int .u8 (x2.toNat : Int), .int .u32 (g : Int), .slice none 0 0, .slice none 0 0] 27)).drew.heap.size := by show _ < (w1.alloc _).heap.size; simp
    generalize (w1.alloc (.cells #[.int .u8 (x0.toNat : Int), .int .u8 (x1.toNat : Int), .int .u8 (x2.toNat : Int), .int .u32 (g : Int), .slice none 0 0, .slice none 0 0] 27)).drew = w3 at *
    clear b0 z1
    go_wp2_with fail
    refine wp_region_noPanic ?_
    refine wp_region_held_drew (S := fun _ => True) (by kernel_rfl) trivial (fun hHeld => ?_)
    refine wpAnyH_take (i := 0) (oi := { dst := some 26, op := Go.Op.move (Go.Operand.tmp 0), type := 30, pos := _, after := #[], guard := none }) (v := .slice (some ⟨b, off, none⟩) L cap) rfl (by kernel_rfl) (by kernel_rfl) (by kernel_rfl) (fun _ _ _ h => h) (Or.inl ⟨by rfl, fun W hW => by go_simp⟩) (by assumption) ?_
    try simp only [Act.put, List.setIfInBounds_toArray, List.set_cons_zero, List.set_cons_succ]
    refine wpAnyH_take (i := 1) (oi := { dst := some 27, op := Go.Op.slice 30 (Go.Operand.tmp 26) (some (Go.Operand.const (Go.Value.int Go.IntKind.i64 7))) (some (Go.Operand.const (Go.Value.int Go.IntKind.i64 11))) none, type := 30, pos := _, after := #[{ on := 0, ground := Go.Ground.data }], guard := none }) (v := .slice (some ⟨b, off + 7, none⟩) 4 (cap - 7)) rfl (by kernel_rfl) (by kernel_rfl) (by kernel_rfl) (fun _ _ _ h => h) (Or.inl ⟨by rfl, fun W hW => by go_simp⟩) (by assumption) ?_
    try simp only [Act.put, List.setIfInBounds_toArray, List.set_cons_zero, List.set_cons_succ]
    refine wpAnyH_take (i := 3) (oi := { dst := some 29, op := Go.Op.move (Go.Operand.tmp 0), type := 30, pos := _, after := #[], guard := none }) (v := .slice (some ⟨b, off, none⟩) L cap) rfl (by kernel_rfl) (by kernel_rfl) (by kernel_rfl) (fun _ _ _ h => h) (Or.inl ⟨by rfl, fun W hW => by go_simp⟩) (by assumption) ?_
    try simp only [Act.put, List.setIfInBounds_toArray, List.set_cons_zero, List.set_cons_succ]
    refine wpAnyH_take (i := 4) (oi := { dst := some 30, op := Go.Op.slice 30 (Go.Operand.tmp 29) (some (Go.Operand.const (Go.Value.int Go.IntKind.i64 11))) none none, type := 30, pos := _, after := #[{ on := 3, ground := Go.Ground.data }], guard := none }) (v := .slice (some ⟨b, o2, none⟩) (L - 11) (cap - 11)) rfl (by kernel_rfl) (by kernel_rfl) (by kernel_rfl) (fun _ _ _ h => h) (Or.inl ⟨by rfl, fun W hW => by go_simp⟩) (by assumption) ?_
    try simp only [Act.put, List.setIfInBounds_toArray, List.set_cons_zero, List.set_cons_succ]
    refine wpAnyH_ready (rs := [2]) (by kernel_rfl) (by simp) ?_
    refine AllReadyH.cons (o := { dst := some 28, op := Go.Op.call { callee := Go.Callee.value (Go.Operand.func 79), args := #[Go.Operand.tmp 27], argTypes := #[30] }, type := 23, pos := _, after := #[{ on := 1, ground := Go.Ground.data }], guard := none }) rfl (fun K hK => ?_) AllReadyH.nil
    go_simp
    refine (kn7 w3.drew b4.drew).mono ?_
    rintro e wn ⟨rfl, rfl⟩
    go_wp2_with fail
    refine hK.out _ _ trivial (fun hHeld => ?_)
    clear hK K
    try simp only [Act.put, List.setIfInBounds_toArray, List.set_cons_zero, List.set_cons_succ]
    refine wpAnyH_take (i := 5) (oi := { dst := some 5, op := Go.Op.assign (Go.Operand.tmp 28), type := 23, pos := _, after := #[{ on := 2, ground := Go.Ground.data }, { on := 2, ground := Go.Ground.chain }, { on := 0, ground := Go.Ground.phase }, { on := 1, ground := Go.Ground.phase }, { on := 2, ground := Go.Ground.phase }, { on := 3, ground := Go.Ground.textOnly Go.Departure.lateStores }, { on := 4, ground := Go.Ground.textOnly Go.Departure.lateStoresUnsure }], guard := none }) (v := .int .u32 (n : Int)) rfl (by kernel_rfl) (by kernel_rfl) (by kernel_rfl) (fun _ _ _ h => h) (Or.inl ⟨by rfl, fun W hW => by go_simp⟩) (by assumption) ?_
    try simp only [Act.put, List.setIfInBounds_toArray, List.set_cons_zero, List.set_cons_succ]
    refine wpAnyH_take (i := 6) (oi := { dst := some 6, op := Go.Op.assign (Go.Operand.tmp 30), type := 30, pos := _, after := #[{ on := 4, ground := Go.Ground.data }, { on := 5, ground := Go.Ground.chain }, { on := 0, ground := Go.Ground.phase }, { on := 1, ground := Go.Ground.phase }, { on := 2, ground := Go.Ground.phase }, { on := 3, ground := Go.Ground.phase }, { on := 4, ground := Go.Ground.phase }, { on := 5, ground := Go.Ground.phase }], guard := none }) (v := .slice (some ⟨b, o2, none⟩) (L - 11) (cap - 11)) rfl (by kernel_rfl) (by kernel_rfl) (by kernel_rfl) (fun _ _ _ h => h) (Or.inl ⟨by rfl, fun W hW => by go_simp⟩) (by assumption) ?_
    try simp only [Act.put, List.setIfInBounds_toArray, List.set_cons_zero, List.set_cons_succ]
    refine wpAnyH_done (by kernel_rfl) ?_ _
    refine NoPanic.normal ?_
    clear hHeld
    have P4 : w3.drew.heap[w1.heap.size]? = some (.cells #[.int .u8 (x0.toNat : Int), .int .u8 (x1.toNat : Int), .int .u8 (x2.toNat : Int), .int .u32 (g : Int), .slice none 0 0, .slice none 0 0] 27 (0, 0)) := P3
    have b5 : Below w1.heap.size w1 w3.drew := b4.drew
    have z5 : w1.heap.size < w3.drew.heap.size := zP
    clear P3 b4 zP kn3 kn7
    generalize w3.drew = w4 at *
    obtain ⟨m0, m1, m2, m3, m4, m5⟩ := six_cells P4
    go_wp2_with fail
    refine (kh w4).mono ?_
    rintro e w5 ⟨rfl, b6⟩
    have b7 := b5.trans (b6.mono (Nat.le_of_lt z5))
    have P5 := (b6.block _ z5).trans P4
    have z7 := Nat.lt_of_lt_of_le z5 b6.size
    clear kh m0 m1 m2 m3 m4 m5 P4 b5 b6 z5
    have HR : Hid ((bs.drop 11).length = L - 11) := by show _ = _; rw [List.length_drop, HL.out]
    have r1 : L - 11 ≤ cap - 11 := by omega
    have r2 : cap - 11 ≤ 9223372036854775807 := by omega
    generalize L - 11 = R at *
    generalize cap - 11 = RC at *
    have v1 : (n : Int) ≤ (R : Int) := by omega
    have v2 : (n : Int) ≤ (RC : Int) := by omega
    have v3 : ¬ (R : Int) < (n : Int) := by omega
    obtain ⟨o3, ho3⟩ : ∃ o3, (if RC = n then some (⟨b, o2, none⟩ : Addr) else some ⟨b, o2 + n, none⟩) = some ⟨b, o3, none⟩ := by
      by_cases e : RC = n
      · exact ⟨_, by rw [if_pos e]⟩
      · exact ⟨_, by rw [if_neg e]⟩
    generalize bs.drop 11 = T at *
    have s12 : InAt w1 w1.heap.size (.slice (some ⟨b, o2, none⟩) T.length RC) T := by rw [HR.out]; exact s11
    have qA := in_take s12 (n := n) (by rw [HR.out]; omega)
    have qB : InAt w1 w1.heap.size (.slice (some ⟨b, o3, none⟩) (R - n) (RC - n)) (T.drop n) := by
      have h := in_drop s12 (n := n) (ao' := some ⟨b, o3, none⟩) (by rw [HR.out]; omega) (fun hlt _ _ e => by cases e; rw [← ho3, if_neg (by omega)])
      rw [HR.out] at h
      exact h
    clear s11 s12
    have kg := GetOps_any w5 _ _ ((qA.below b7 (Nat.le_refl _)).mono b7.size)
    rw [hpo] at kg
    clear qA hpo
    obtain ⟨m0, m1, m2, m3, m4, m5⟩ := six_cells P5
    go_wp2_with fail
    refine kg.mono ?_
    rintro e w6 ⟨vo, rfl, oo, b8⟩
    obtain ⟨oa, oc, rfl⟩ := own_len oo
    try simp only at oo
    have P6 := (b8.block _ z7).trans P5
    have z8 := Nat.lt_of_lt_of_le z7 b8.size
    have b9 := b7.trans (b8.mono (Nat.le_of_lt z7))
    have k7 := (Kept.refl w1.heap.size w6.heap.size w6).setCell 4 (.slice oa lo.length oc)
    have b10 := b9.trans (k7.below (Nat.le_refl _) (Nat.le_of_lt z8))
    have P7 := six_set4 (.slice oa lo.length oc) P6
    have z9 : w1.heap.size < (w6.setCell ⟨w1.heap.size, 4, none⟩ (.slice oa lo.length oc)).heap.size := Nat.lt_of_lt_of_le z8 k7.size
    have oo7 := ownsRow_setCell_below (a := ⟨w1.heap.size, 4, none⟩) oo z7 (.slice oa lo.length oc)
    have z5 : w1.heap.size < w5.heap.size := z7
    clear kg m0 m1 m2 m3 m4 m5 oo P5 z7 b7 b8 b9 z8 k7
    obtain ⟨m0, m1, m2, m3, m4, m5⟩ := six_cells P6
    have fP := fun i => box_frozen (i := i) P6
    clear P6
    go_wp2_with fail
    generalize w6.setCell ⟨w1.heap.size, 4, none⟩ (.slice oa lo.length oc) = w7 at *
    clear m0 m1 m2 m3 m4 m5 fP
    have kr := GetResults_any w7 _ _ ((qB.below b10 (Nat.le_refl _)).mono b10.size)
    rw [hpr] at kr
    clear qB hpr
    refine kr.mono ?_
    rintro e w8 ⟨vr, rfl, ⟨l, ol, hlr⟩, b11⟩
    try simp only at hlr
    obtain ⟨ra, rc, rfl⟩ := own_len ol.own
    have P8 := (b11.block _ z9).trans P7
    have z10 := Nat.lt_of_lt_of_le z9 b11.size
    have b12 := b10.trans (b11.mono (Nat.le_of_lt z9))
    have oo8 := own_below oo7 b11
    have k9 := (Kept.refl w1.heap.size w8.heap.size w8).setCell 5 (.slice ra l.length rc)
    have b13 := b12.trans (k9.below (Nat.le_refl _) (Nat.le_of_lt z10))
    have oo9 := own_keptR oo8 z5 k9
    have ol9 := ol.kept z9 k9
    have P9 := six_set5 (.slice ra l.length rc) P8
    have x8 := (b12.block _ zX).trans PX
    have x9 := (b13.block _ zX).trans PX
    have hne : ¬ w.heap.size = w1.heap.size := by omega
    clear kr P7 oo7 b10 b11 b12 oo8
    obtain ⟨m0, m1, m2, m3, m4, m5⟩ := six_cells P8
    obtain ⟨y0, y1, y2, y3, y4, y5⟩ := six_cells x8
    have fP := fun i => box_frozen (i := i) P8
    have fX := fun i => box_frozen (i := i) x8
    clear P8 x8
    obtain ⟨x10, k10⟩ := six_store x9 (.int .u8 0) (.int .u8 0) (.int .u8 0) (.int .u32 0) (.slice none 0 0) (.slice none 0 0)
    have b14 := (B1.trans (b13.mono B1.size)).trans (k10.below (Nat.le_refl _) (Nat.le_of_lt (Nat.lt_of_lt_of_le zX b13.size)))
    clear ol ol9 oo9 hlr
    go_wp2
    generalize w8.setCell ⟨w1.heap.size, 5, none⟩ (.slice ra l.length rc) = w9 at *
    generalize (((((w9.setCell ⟨w.heap.size, 0, none⟩ (.int .u8 0)).setCell ⟨w.heap.size, 1, none⟩ (.int .u8 0)).setCell ⟨w.heap.size, 2, none⟩ (.int .u8 0)).setCell ⟨w.heap.size, 3, none⟩ (.int .u32 0)).setCell ⟨w.heap.size, 4, none⟩ (.slice none 0 0)).setCell ⟨w.heap.size, 5, none⟩ (.slice none 0 0) = w10 at *
    obtain ⟨t0, t1, t2, t3, t4, t5⟩ := six_cells x10
    refine bodyPost_ret (v := .tuple #[.agg #[.int .u8 0, .int .u8 0, .int .u8 0, .int .u32 0, .slice none 0 0, .slice none 0 0], .int .i64 4]) (by simp [results, Tryz.results17, go_sem, t0, t1, t2, t3, t4, t5]) rfl ⟨rfl, b14⟩
set_option maxHeartbeats 2000000 in
set_option maxRecDepth 1000000 in
theorem Get_badR (w : World) (vb : Value) (bs : List UInt8) (hb : InAt w w.heap.size vb bs) (hl : ¬ bs.length < 11) (hh : (rawM bs).head = true) (ho : numAt 7 bs ≤ bs.length - 11) (lo : List OpD) (lr : List (List RowD)) (hpo : getOps ((bs.drop 11).take (numAt 7 bs)) = (lo, 0)) (hpr : getRes ((bs.drop 11).drop (numAt 7 bs)) = (lr, 4)) :
    Calls Tryz.prog 17 #[vb] w fun e w' => e = .returned (.tuple #[.agg #[.int .u8 0, .int .u8 0, .int .u8 0, .int .u32 0, .slice none 0 0, .slice none 0 0], .int .i64 4]) ∧ Below w.heap.size w w' := by
  have hb0 := hb
  obtain ⟨ao, cap, rfl, h1, h2, hc⟩ := hb
  unfold maxLen at h2
  obtain ⟨b, off, rfl, hbl, hcell⟩ := hc (by omega)
  have i11 : ¬ (bs.length : Int) < 11 := by omega
  obtain ⟨w1, hw1⟩ : ∃ w1, w1 = w.alloc (.cells #[.int .u8 0, .int .u8 0, .int .u8 0, .int .u32 0, .slice none 0 0, .slice none 0 0] 27) := ⟨_, rfl⟩
  have B1 : Below w.heap.size w w1 := by rw [hw1]; exact below_one w _
  have C0 := hcell 0 (by omega) 0 _ rfl
  have C1 := hcell 1 (by omega) 0 _ rfl
  have C2 := hcell 2 (by omega) 0 _ rfl
  simp only [Nat.zero_mul, Nat.one_mul, Nat.add_zero, Nat.mul_one, bv] at C0 C1 C2
  obtain ⟨r0, r1, r2, r3⟩ := raw_head hl
  rw [← r0] at C0
  rw [← r1] at C1
  rw [← r2] at C2
  obtain ⟨x0, hx0⟩ : ∃ x, x = (rawM bs).say := ⟨_, rfl⟩
  obtain ⟨x1, hx1⟩ : ∃ x, x = (rawM bs).src := ⟨_, rfl⟩
  obtain ⟨x2, hx2⟩ : ∃ x, x = (rawM bs).dst := ⟨_, rfl⟩
  rw [← hx0] at C0
  rw [← hx1] at C1
  rw [← hx2] at C2
  have c0 : w1.cell? ⟨b, off, none⟩ = some (.int .u8 (x0.toNat : Int)) := (B1.cell hbl).trans C0
  have c1 : w1.cell? ⟨b, off + 1, none⟩ = some (.int .u8 (x1.toNat : Int)) := (B1.cell hbl).trans C1
  have c2 : w1.cell? ⟨b, off + 2, none⟩ = some (.int .u8 (x2.toNat : Int)) := (B1.cell hbl).trans C2
  have hb1 : InAt w1 w1.heap.size (.slice (some ⟨b, off, none⟩) bs.length cap) bs := (hb0.below B1 (Nat.le_refl _)).mono B1.size
  have hbl1 : b < w1.heap.size := Nat.lt_of_lt_of_le hbl B1.size
  have s3 : InAt w1 w1.heap.size (.slice (some ⟨b, off + 3, none⟩) 4 (cap - 3)) ((bs.drop 3).take 4) := by
    have h := in_drop (n := 3) (ao' := some ⟨b, off + 3, none⟩) hb1 (by omega) (fun _ _ _ e => by cases e; rfl)
    rw [← List.length_drop] at h
    exact in_take h (by simp; omega)
  have s7 : InAt w1 w1.heap.size (.slice (some ⟨b, off + 7, none⟩) 4 (cap - 7)) ((bs.drop 7).take 4) := by
    have h := in_drop (n := 7) (ao' := some ⟨b, off + 7, none⟩) hb1 (by omega) (fun _ _ _ e => by cases e; rfl)
    rw [← List.length_drop] at h
    exact in_take h (by simp; omega)
  have kn3 : ∀ W, Below w1.heap.size w1 W → Calls Tryz.prog 79 #[.slice (some ⟨b, off + 3, none⟩) 4 (cap - 3)] W fun e w' => e = .returned (.int .u32 (numAt 3 bs : Int)) ∧ W = w' := fun W hW => pnumber_any W _ _ ((s3.below hW (Nat.le_refl _)).mono hW.size) (by simp; omega)
  have kn7 : ∀ W, Below w1.heap.size w1 W → Calls Tryz.prog 79 #[.slice (some ⟨b, off + 7, none⟩) 4 (cap - 7)] W fun e w' => e = .returned (.int .u32 (numAt 7 bs : Int)) ∧ W = w' := fun W hW => pnumber_any W _ _ ((s7.below hW (Nat.le_refl _)).mono hW.size) (by simp; omega)
  have ng := numAt_lt (k := 3) (bs := bs) (by omega)
  have nn := numAt_lt (k := 7) (bs := bs) (by omega)
  rw [← r3] at kn3 ng
  obtain ⟨g, hg⟩ : ∃ g, g = (rawM bs).g.toNat := ⟨_, rfl⟩
  obtain ⟨n, hn⟩ : ∃ n, n = numAt 7 bs := ⟨_, rfl⟩
  rw [← hg] at kn3 ng
  rw [← hn] at kn7 nn
  obtain ⟨o2, hro⟩ : ∃ o2, (if cap = 11 then some (⟨b, off, none⟩ : Addr) else some ⟨b, off + 11, none⟩) = some ⟨b, o2, none⟩ := by
    by_cases e : cap = 11
    · exact ⟨_, by rw [if_pos e]⟩
    · exact ⟨_, by rw [if_neg e]⟩
  have s11 : InAt w1 w1.heap.size (.slice (some ⟨b, o2, none⟩) (bs.length - 11) (cap - 11)) (bs.drop 11) := in_drop (n := 11) hb1 (by omega) (fun hlt _ _ e => by cases e; rw [← hro, if_neg (by omega)])
  have q0 : (11 : Int) ≤ (bs.length : Int) := by omega
  have q1 : (11 : Int) ≤ (cap : Int) := by omega
  have q2 : ¬ cap = 3 := by omega
  have q4 : ¬ bs.length = 0 := by omega
  have q5 : ¬ (bs.length : Int) ≤ 1 := by omega
  have q6 : ¬ (bs.length : Int) ≤ 2 := by omega
  have q7 : ¬ (cap : Int) < 7 := by omega
  have q8 : ¬ (cap : Int) < 11 := by omega
  have q3 : ¬ cap = 7 := by omega
  have kh := fun W => headMay_any W x0.toNat x1.toNat x2.toNat g none none 0 0 0 0
  have PX : w1.heap[w.heap.size]? = some (.cells #[.int .u8 0, .int .u8 0, .int .u8 0, .int .u32 0, .slice none 0 0, .slice none 0 0] 27 (0, 0)) := by rw [hw1]; exact heap_alloc_new w _
  have zX : w.heap.size < w1.heap.size := by rw [hw1]; simp
  have hh' : headOk x0.toNat x1.toNat x2.toNat = true := by rw [hx0, hx1, hx2]; exact hh
  rw [hh'] at kh
  clear hh hh'
  rw [← hn] at ho hpo hpr
  clear hx0 hx1 hx2 hg hn
  clear s3 s7 C0 C1 C2 hcell hc hb0 hb1 r0 r1 r2 r3
  obtain ⟨L, hL⟩ : ∃ L, L = bs.length := ⟨_, rfl⟩
  have HL : Hid (L = bs.length) := hL
  rw [← hL] at hl h1 i11 q0 q4 q5 q6 ho s11 ⊢
  clear hL
  have z1 : w1.heap.size ≤ w1.drew.heap.size := Nat.le_refl _
  have b0 : Below w1.heap.size w1 w1.drew := ⟨rfl, rfl, rfl, Nat.le_refl _, fun _ _ => rfl⟩
  subst hw1
  go_enter Tryz.func17, Tryz.ntmps17
  go_wp2_with fail
  generalize w.alloc (.cells #[.int .u8 0, .int .u8 0, .int .u8 0, .int .u32 0, .slice none 0 0, .slice none 0 0] 27) = w1 at *
  refine wp_region_noPanic ?_
  refine wp_region_held_drew (S := fun W => Below w1.heap.size w1 W) (by kernel_rfl) b0 (fun hHeld => ?_)
  refine wpAnyH_take (i := 0) (oi := { dst := some 13, op := Go.Op.move (Go.Operand.tmp 0), type := 30, pos := _, after := #[], guard := none }) (v := .slice (some ⟨b, off, none⟩) L cap) rfl (by kernel_rfl) (by kernel_rfl) (by kernel_rfl) (fun _ _ _ h => h) (Or.inl ⟨by rfl, fun W hW => by go_simp⟩) (by assumption) ?_
  try simp only [Act.put, List.setIfInBounds_toArray, List.set_cons_zero, List.set_cons_succ]
  refine wpAnyH_take (i := 1) (oi := { dst := some 14, op := Go.Op.indexAddr 30 (Go.Operand.tmp 13) (Go.Operand.const (Go.Value.int Go.IntKind.i64 0)), type := 0, pos := _, after := #[{ on := 0, ground := Go.Ground.data }], guard := none }) (v := .pointer (some ⟨b, off, none⟩)) rfl (by kernel_rfl) (by kernel_rfl) (by kernel_rfl) (fun _ _ _ h => h) (Or.inl ⟨by rfl, fun W hW => by go_simp⟩) (by assumption) ?_
  try simp only [Act.put, List.setIfInBounds_toArray, List.set_cons_zero, List.set_cons_succ]
  refine wpAnyH_take (i := 2) (oi := { dst := some 15, op := Go.Op.load 5 (Go.Operand.tmp 14), type := 5, pos := _, after := #[{ on := 1, ground := Go.Ground.data }], guard := none }) (v := .int .u8 (x0.toNat : Int)) rfl (by kernel_rfl) (by kernel_rfl) (by kernel_rfl) (fun _ _ _ h => h) (Or.inl ⟨by rfl, fun W hW => by have h1 := (hW.cell hbl1).trans c0; go_simp⟩) (by assumption) ?_
  try simp only [Act.put, List.setIfInBounds_toArray, List.set_cons_zero, List.set_cons_succ]
  refine wpAnyH_take (i := 3) (oi := { dst := some 16, op := Go.Op.move (Go.Operand.tmp 0), type := 30, pos := _, after := #[], guard := none }) (v := .slice (some ⟨b, off, none⟩) L cap) rfl (by kernel_rfl) (by kernel_rfl) (by kernel_rfl) (fun _ _ _ h => h) (Or.inl ⟨by rfl, fun W hW => by go_simp⟩) (by assumption) ?_
  try simp only [Act.put, List.setIfInBounds_toArray, List.set_cons_zero, List.set_cons_succ]
  refine wpAnyH_take (i := 4) (oi := { dst := some 17, op := Go.Op.indexAddr 30 (Go.Operand.tmp 16) (Go.Operand.const (Go.Value.int Go.IntKind.i64 1)), type := 0, pos := _, after := #[{ on := 3, ground := Go.Ground.data }], guard := none }) (v := .pointer (some ⟨b, off + 1, none⟩)) rfl (by kernel_rfl) (by kernel_rfl) (by kernel_rfl) (fun _ _ _ h => h) (Or.inl ⟨by rfl, fun W hW => by go_simp⟩) (by assumption) ?_
  try simp only [Act.put, List.setIfInBounds_toArray, List.set_cons_zero, List.set_cons_succ]
  refine wpAnyH_take (i := 5) (oi := { dst := some 18, op := Go.Op.load 5 (Go.Operand.tmp 17), type := 5, pos := _, after := #[{ on := 4, ground := Go.Ground.data }], guard := none }) (v := .int .u8 (x1.toNat : Int)) rfl (by kernel_rfl) (by kernel_rfl) (by kernel_rfl) (fun _ _ _ h => h) (Or.inl ⟨by rfl, fun W hW => by have h1 := (hW.cell hbl1).trans c1; go_simp⟩) (by assumption) ?_
  try simp only [Act.put, List.setIfInBounds_toArray, List.set_cons_zero, List.set_cons_succ]
  refine wpAnyH_take (i := 6) (oi := { dst := some 19, op := Go.Op.move (Go.Operand.tmp 0), type := 30, pos := _, after := #[], guard := none }) (v := .slice (some ⟨b, off, none⟩) L cap) rfl (by kernel_rfl) (by kernel_rfl) (by kernel_rfl) (fun _ _ _ h => h) (Or.inl ⟨by rfl, fun W hW => by go_simp⟩) (by assumption) ?_
  try simp only [Act.put, List.setIfInBounds_toArray, List.set_cons_zero, List.set_cons_succ]
  refine wpAnyH_take (i := 7) (oi := { dst := some 20, op := Go.Op.indexAddr 30 (Go.Operand.tmp 19) (Go.Operand.const (Go.Value.int Go.IntKind.i64 2)), type := 0, pos := _, after := #[{ on := 6, ground := Go.Ground.data }], guard := none }) (v := .pointer (some ⟨b, off + 2, none⟩)) rfl (by kernel_rfl) (by kernel_rfl) (by kernel_rfl) (fun _ _ _ h => h) (Or.inl ⟨by rfl, fun W hW => by go_simp⟩) (by assumption) ?_
  try simp only [Act.put, List.setIfInBounds_toArray, List.set_cons_zero, List.set_cons_succ]
  refine wpAnyH_take (i := 8) (oi := { dst := some 21, op := Go.Op.load 5 (Go.Operand.tmp 20), type := 5, pos := _, after := #[{ on := 7, ground := Go.Ground.data }], guard := none }) (v := .int .u8 (x2.toNat : Int)) rfl (by kernel_rfl) (by kernel_rfl) (by kernel_rfl) (fun _ _ _ h => h) (Or.inl ⟨by rfl, fun W hW => by have h1 := (hW.cell hbl1).trans c2; go_simp⟩) (by assumption) ?_
  try simp only [Act.put, List.setIfInBounds_toArray, List.set_cons_zero, List.set_cons_succ]
  refine wpAnyH_take (i := 9) (oi := { dst := some 22, op := Go.Op.move (Go.Operand.tmp 0), type := 30, pos := _, after := #[], guard := none }) (v := .slice (some ⟨b, off, none⟩) L cap) rfl (by kernel_rfl) (by kernel_rfl) (by kernel_rfl) (fun _ _ _ h => h) (Or.inl ⟨by rfl, fun W hW => by go_simp⟩) (by assumption) ?_
  try simp only [Act.put, List.setIfInBounds_toArray, List.set_cons_zero, List.set_cons_succ]
  refine wpAnyH_take (i := 10) (oi := { dst := some 23, op := Go.Op.slice 30 (Go.Operand.tmp 22) (some (Go.Operand.const (Go.Value.int Go.IntKind.i64 3))) (some (Go.Operand.const (Go.Value.int Go.IntKind.i64 7))) none, type := 30, pos := _, after := #[{ on := 9, ground := Go.Ground.data }], guard := none }) (v := .slice (some ⟨b, off + 3, none⟩) 4 (cap - 3)) rfl (by kernel_rfl) (by kernel_rfl) (by kernel_rfl) (fun _ _ _ h => h) (Or.inl ⟨by rfl, fun W hW => by go_simp⟩) (by assumption) ?_
  try simp only [Act.put, List.setIfInBounds_toArray, List.set_cons_zero, List.set_cons_succ]
  refine wpAnyH_ready (rs := [11, 13]) (by kernel_rfl) (by simp) ?_
  refine AllReadyH.cons (o := { dst := some 24, op := Go.Op.call { callee := Go.Callee.value (Go.Operand.func 79), args := #[Go.Operand.tmp 23], argTypes := #[30] }, type := 23, pos := _, after := #[{ on := 10, ground := Go.Ground.data }], guard := none }) rfl (fun K hK => ?_) (AllReadyH.cons (o := { dst := some 4, op := Go.Op.alloc 27, type := 0, pos := _, after := #[], guard := none }) rfl (fun K hK => ?_) AllReadyH.nil)
  · go_simp
    refine (kn3 w1.drew b0).mono ?_
    rintro e wn ⟨rfl, rfl⟩
    go_wp2_with fail
    refine hK.out _ _ b0 (fun hHeld => ?_)
    clear hK K
    try simp only [Act.put, List.setIfInBounds_toArray, List.set_cons_zero, List.set_cons_succ]
    refine wpAnyH_take (i := 12) (oi := { dst := some 25, op := Go.Op.build 27 #[(0, Go.Operand.tmp 15), (1, Go.Operand.tmp 18), (2, Go.Operand.tmp 21), (3, Go.Operand.tmp 24)], type := 27, pos := _, after := #[{ on := 2, ground := Go.Ground.data }, { on := 5, ground := Go.Ground.data }, { on := 8, ground := Go.Ground.data }, { on := 11, ground := Go.Ground.data }], guard := none }) (v := .agg #[.int .u8 (x0.toNat : Int), .int .u8 (x1.toNat : Int), .int .u8 (x2.toNat : Int), .int .u32 (g : Int), .slice none 0 0, .slice none 0 0]) rfl (by kernel_rfl) (by kernel_rfl) (by kernel_rfl) (fun _ _ _ h => h) (Or.inl ⟨by rfl, fun W hW => by go_simp⟩) (by assumption) ?_
    try simp only [Act.put, List.setIfInBounds_toArray, List.set_cons_zero, List.set_cons_succ]
    refine wpAnyH_ready (rs := [13]) (by kernel_rfl) (by simp) ?_
    refine AllReadyH.cons (o := { dst := some 4, op := Go.Op.alloc 27, type := 0, pos := _, after := #[], guard := none }) rfl (fun K hK => ?_) AllReadyH.nil
    go_simp
    have b3 := b0.alloc z1 (.cells #[.int .u8 0, .int .u8 0, .int .u8 0, .int .u32 0, .slice none 0 0, .slice none 0 0] 27)
    refine hK.out _ _ b3 (fun hHeld => ?_)
    clear hK K
    try simp only [Act.put, List.setIfInBounds_toArray, List.set_cons_zero, List.set_cons_succ]
    refine wpAnyH_ready (rs := [14]) (by kernel_rfl) (by simp) ?_
    refine AllReadyH.cons (o := { dst := none, op := Go.Op.store 27 (Go.Operand.tmp 4) (Go.Operand.tmp 25), type := 0, pos := _, after := #[{ on := 13, ground := Go.Ground.data }, { on := 12, ground := Go.Ground.data }, { on := 11, ground := Go.Ground.chain }, { on := 0, ground := Go.Ground.phase }, { on := 1, ground := Go.Ground.phase }, { on := 2, ground := Go.Ground.phase }, { on := 3, ground := Go.Ground.phase }, { on := 4, ground := Go.Ground.phase }, { on := 5, ground := Go.Ground.phase }, { on := 6, ground := Go.Ground.phase }, { on := 7, ground := Go.Ground.phase }, { on := 8, ground := Go.Ground.phase }, { on := 9, ground := Go.Ground.phase }, { on := 10, ground := Go.Ground.phase }, { on := 11, ground := Go.Ground.phase }, { on := 12, ground := Go.Ground.phase }, { on := 13, ground := Go.Ground.phase }], guard := none }) rfl (fun K hK => ?_) AllReadyH.nil
    go_simp
    have b4 : Below w1.heap.size w1 (w1.alloc (.cells #[.int .u8 (x0.toNat : Int), .int .u8 (x1.toNat : Int), .int .u8 (x2.toNat : Int), .int .u32 (g : Int), .slice none 0 0, .slice none 0 0] 27)).drew := ((Below.refl _ _).alloc (Nat.le_refl _) (.cells #[.int .u8 (x0.toNat : Int), .int .u8 (x1.toNat : Int), .int .u8 (x2.toNat : Int), .int .u32 (g : Int), .slice none 0 0, .slice none 0 0] 27)).drew
    refine hK.out _ _ b4 (fun hHeld => ?_)
    clear hK K
    try simp only [Act.put, List.setIfInBounds_toArray, List.set_cons_zero, List.set_cons_succ]
    refine wpAnyH_done (by kernel_rfl) ?_ _
    refine NoPanic.normal ?_
    clear hHeld
    have P3 : (w1.alloc (.cells #[.int .u8 (x0.toNat : Int), .int .u8 (x1.toNat : Int), .int .u8 (x2.toNat : Int), .int .u32 (g : Int), .slice none 0 0, .slice none 0 0] 27)).drew.heap[w1.heap.size]? = some (.cells #[.int .u8 (x0.toNat : Int), .int .u8 (x1.toNat : Int), .int .u8 (x2.toNat : Int), .int .u32 (g : Int), .slice none 0 0, .slice none 0 0] 27 (0, 0)) := heap_alloc_new w1 _
    have zP : w1.heap.size < (w1.alloc (.cells #[.int .u8 (x0.toNat : Int), .int .u8 (x1.toNat : Int), .int .u8 (x2.toNat : Int), .int .u32 (g : Int), .slice none 0 0, .slice none 0 0] 27)).drew.heap.size := by show _ < (w1.alloc _).heap.size; simp
    generalize (w1.alloc (.cells #[.int .u8 (x0.toNat : Int), .int .u8 (x1.toNat : Int), .int .u8 (x2.toNat : Int), .int .u32 (g : Int), .slice none 0 0, .slice none 0 0] 27)).drew = w3 at *
    clear b0 z1
    go_wp2_with fail
    refine wp_region_noPanic ?_
    refine wp_region_held_drew (S := fun _ => True) (by kernel_rfl) trivial (fun hHeld => ?_)
    refine wpAnyH_take (i := 0) (oi := { dst := some 26, op := Go.Op.move (Go.Operand.tmp 0), type := 30, pos := _, after := #[], guard := none }) (v := .slice (some ⟨b, off, none⟩) L cap) rfl (by kernel_rfl) (by kernel_rfl) (by kernel_rfl) (fun _ _ _ h => h) (Or.inl ⟨by rfl, fun W hW => by go_simp⟩) (by assumption) ?_
    try simp only [Act.put, List.setIfInBounds_toArray, List.set_cons_zero, List.set_cons_succ]
    refine wpAnyH_take (i := 1) (oi := { dst := some 27, op := Go.Op.slice 30 (Go.Operand.tmp 26) (some (Go.Operand.const (Go.Value.int Go.IntKind.i64 7))) (some (Go.Operand.const (Go.Value.int Go.IntKind.i64 11))) none, type := 30, pos := _, after := #[{ on := 0, ground := Go.Ground.data }], guard := none }) (v := .slice (some ⟨b, off + 7, none⟩) 4 (cap - 7)) rfl (by kernel_rfl) (by kernel_rfl) (by kernel_rfl) (fun _ _ _ h => h) (Or.inl ⟨by rfl, fun W hW => by go_simp⟩) (by assumption) ?_
    try simp only [Act.put, List.setIfInBounds_toArray, List.set_cons_zero, List.set_cons_succ]
    refine wpAnyH_take (i := 3) (oi := { dst := some 29, op := Go.Op.move (Go.Operand.tmp 0), type := 30, pos := _, after := #[], guard := none }) (v := .slice (some ⟨b, off, none⟩) L cap) rfl (by kernel_rfl) (by kernel_rfl) (by kernel_rfl) (fun _ _ _ h => h) (Or.inl ⟨by rfl, fun W hW => by go_simp⟩) (by assumption) ?_
    try simp only [Act.put, List.setIfInBounds_toArray, List.set_cons_zero, List.set_cons_succ]
    refine wpAnyH_take (i := 4) (oi := { dst := some 30, op := Go.Op.slice 30 (Go.Operand.tmp 29) (some (Go.Operand.const (Go.Value.int Go.IntKind.i64 11))) none none, type := 30, pos := _, after := #[{ on := 3, ground := Go.Ground.data }], guard := none }) (v := .slice (some ⟨b, o2, none⟩) (L - 11) (cap - 11)) rfl (by kernel_rfl) (by kernel_rfl) (by kernel_rfl) (fun _ _ _ h => h) (Or.inl ⟨by rfl, fun W hW => by go_simp⟩) (by assumption) ?_
    try simp only [Act.put, List.setIfInBounds_toArray, List.set_cons_zero, List.set_cons_succ]
    refine wpAnyH_ready (rs := [2]) (by kernel_rfl) (by simp) ?_
    refine AllReadyH.cons (o := { dst := some 28, op := Go.Op.call { callee := Go.Callee.value (Go.Operand.func 79), args := #[Go.Operand.tmp 27], argTypes := #[30] }, type := 23, pos := _, after := #[{ on := 1, ground := Go.Ground.data }], guard := none }) rfl (fun K hK => ?_) AllReadyH.nil
    go_simp
    refine (kn7 w3.drew b4.drew).mono ?_
    rintro e wn ⟨rfl, rfl⟩
    go_wp2_with fail
    refine hK.out _ _ trivial (fun hHeld => ?_)
    clear hK K
    try simp only [Act.put, List.setIfInBounds_toArray, List.set_cons_zero, List.set_cons_succ]
    refine wpAnyH_take (i := 5) (oi := { dst := some 5, op := Go.Op.assign (Go.Operand.tmp 28), type := 23, pos := _, after := #[{ on := 2, ground := Go.Ground.data }, { on := 2, ground := Go.Ground.chain }, { on := 0, ground := Go.Ground.phase }, { on := 1, ground := Go.Ground.phase }, { on := 2, ground := Go.Ground.phase }, { on := 3, ground := Go.Ground.textOnly Go.Departure.lateStores }, { on := 4, ground := Go.Ground.textOnly Go.Departure.lateStoresUnsure }], guard := none }) (v := .int .u32 (n : Int)) rfl (by kernel_rfl) (by kernel_rfl) (by kernel_rfl) (fun _ _ _ h => h) (Or.inl ⟨by rfl, fun W hW => by go_simp⟩) (by assumption) ?_
    try simp only [Act.put, List.setIfInBounds_toArray, List.set_cons_zero, List.set_cons_succ]
    refine wpAnyH_take (i := 6) (oi := { dst := some 6, op := Go.Op.assign (Go.Operand.tmp 30), type := 30, pos := _, after := #[{ on := 4, ground := Go.Ground.data }, { on := 5, ground := Go.Ground.chain }, { on := 0, ground := Go.Ground.phase }, { on := 1, ground := Go.Ground.phase }, { on := 2, ground := Go.Ground.phase }, { on := 3, ground := Go.Ground.phase }, { on := 4, ground := Go.Ground.phase }, { on := 5, ground := Go.Ground.phase }], guard := none }) (v := .slice (some ⟨b, o2, none⟩) (L - 11) (cap - 11)) rfl (by kernel_rfl) (by kernel_rfl) (by kernel_rfl) (fun _ _ _ h => h) (Or.inl ⟨by rfl, fun W hW => by go_simp⟩) (by assumption) ?_
    try simp only [Act.put, List.setIfInBounds_toArray, List.set_cons_zero, List.set_cons_succ]
    refine wpAnyH_done (by kernel_rfl) ?_ _
    refine NoPanic.normal ?_
    clear hHeld
    have P4 : w3.drew.heap[w1.heap.size]? = some (.cells #[.int .u8 (x0.toNat : Int), .int .u8 (x1.toNat : Int), .int .u8 (x2.toNat : Int), .int .u32 (g : Int), .slice none 0 0, .slice none 0 0] 27 (0, 0)) := P3
    have b5 : Below w1.heap.size w1 w3.drew := b4.drew
    have z5 : w1.heap.size < w3.drew.heap.size := zP
    clear P3 b4 zP kn3 kn7
    generalize w3.drew = w4 at *
    obtain ⟨m0, m1, m2, m3, m4, m5⟩ := six_cells P4
    go_wp2_with fail
    refine (kh w4).mono ?_
    rintro e w5 ⟨rfl, b6⟩
    have b7 := b5.trans (b6.mono (Nat.le_of_lt z5))
    have P5 := (b6.block _ z5).trans P4
    have z7 := Nat.lt_of_lt_of_le z5 b6.size
    clear kh m0 m1 m2 m3 m4 m5 P4 b5 b6 z5
    have HR : Hid ((bs.drop 11).length = L - 11) := by show _ = _; rw [List.length_drop, HL.out]
    have r1 : L - 11 ≤ cap - 11 := by omega
    have r2 : cap - 11 ≤ 9223372036854775807 := by omega
    generalize L - 11 = R at *
    generalize cap - 11 = RC at *
    have v1 : (n : Int) ≤ (R : Int) := by omega
    have v2 : (n : Int) ≤ (RC : Int) := by omega
    have v3 : ¬ (R : Int) < (n : Int) := by omega
    obtain ⟨o3, ho3⟩ : ∃ o3, (if RC = n then some (⟨b, o2, none⟩ : Addr) else some ⟨b, o2 + n, none⟩) = some ⟨b, o3, none⟩ := by
      by_cases e : RC = n
      · exact ⟨_, by rw [if_pos e]⟩
      · exact ⟨_, by rw [if_neg e]⟩
    generalize bs.drop 11 = T at *
    have s12 : InAt w1 w1.heap.size (.slice (some ⟨b, o2, none⟩) T.length RC) T := by rw [HR.out]; exact s11
    have qA := in_take s12 (n := n) (by rw [HR.out]; omega)
    have qB : InAt w1 w1.heap.size (.slice (some ⟨b, o3, none⟩) (R - n) (RC - n)) (T.drop n) := by
      have h := in_drop s12 (n := n) (ao' := some ⟨b, o3, none⟩) (by rw [HR.out]; omega) (fun hlt _ _ e => by cases e; rw [← ho3, if_neg (by omega)])
      rw [HR.out] at h
      exact h
    clear s11 s12
    have kg := GetOps_any w5 _ _ ((qA.below b7 (Nat.le_refl _)).mono b7.size)
    rw [hpo] at kg
    clear qA hpo
    obtain ⟨m0, m1, m2, m3, m4, m5⟩ := six_cells P5
    go_wp2_with fail
    refine kg.mono ?_
    rintro e w6 ⟨vo, rfl, oo, b8⟩
    obtain ⟨oa, oc, rfl⟩ := own_len oo
    try simp only at oo
    have P6 := (b8.block _ z7).trans P5
    have z8 := Nat.lt_of_lt_of_le z7 b8.size
    have b9 := b7.trans (b8.mono (Nat.le_of_lt z7))
    have k7 := (Kept.refl w1.heap.size w6.heap.size w6).setCell 4 (.slice oa lo.length oc)
    have b10 := b9.trans (k7.below (Nat.le_refl _) (Nat.le_of_lt z8))
    have P7 := six_set4 (.slice oa lo.length oc) P6
    have z9 : w1.heap.size < (w6.setCell ⟨w1.heap.size, 4, none⟩ (.slice oa lo.length oc)).heap.size := Nat.lt_of_lt_of_le z8 k7.size
    have oo7 := ownsRow_setCell_below (a := ⟨w1.heap.size, 4, none⟩) oo z7 (.slice oa lo.length oc)
    have z5 : w1.heap.size < w5.heap.size := z7
    clear kg m0 m1 m2 m3 m4 m5 oo P5 z7 b7 b8 b9 z8 k7
    obtain ⟨m0, m1, m2, m3, m4, m5⟩ := six_cells P6
    have fP := fun i => box_frozen (i := i) P6
    clear P6
    go_wp2_with fail
    generalize w6.setCell ⟨w1.heap.size, 4, none⟩ (.slice oa lo.length oc) = w7 at *
    clear m0 m1 m2 m3 m4 m5 fP
    have kr := GetResults_any w7 _ _ ((qB.below b10 (Nat.le_refl _)).mono b10.size)
    rw [hpr] at kr
    clear qB hpr
    refine kr.mono ?_
    rintro e w8 ⟨vr, rfl, ⟨l, ol, hlr⟩, b11⟩
    try simp only at hlr
    obtain ⟨ra, rc, rfl⟩ := own_len ol.own
    have P8 := (b11.block _ z9).trans P7
    have z10 := Nat.lt_of_lt_of_le z9 b11.size
    have b12 := b10.trans (b11.mono (Nat.le_of_lt z9))
    have oo8 := own_below oo7 b11
    have k9 := (Kept.refl w1.heap.size w8.heap.size w8).setCell 5 (.slice ra l.length rc)
    have b13 := b12.trans (k9.below (Nat.le_refl _) (Nat.le_of_lt z10))
    have oo9 := own_keptR oo8 z5 k9
    have ol9 := ol.kept z9 k9
    have P9 := six_set5 (.slice ra l.length rc) P8
    have x8 := (b12.block _ zX).trans PX
    have x9 := (b13.block _ zX).trans PX
    have hne : ¬ w.heap.size = w1.heap.size := by omega
    clear kr P7 oo7 b10 b11 b12 oo8
    obtain ⟨m0, m1, m2, m3, m4, m5⟩ := six_cells P8
    obtain ⟨y0, y1, y2, y3, y4, y5⟩ := six_cells x8
    have fP := fun i => box_frozen (i := i) P8
    have fX := fun i => box_frozen (i := i) x8
    clear P8 x8
    obtain ⟨x10, k10⟩ := six_store x9 (.int .u8 0) (.int .u8 0) (.int .u8 0) (.int .u32 0) (.slice none 0 0) (.slice none 0 0)
    have b14 := (B1.trans (b13.mono B1.size)).trans (k10.below (Nat.le_refl _) (Nat.le_of_lt (Nat.lt_of_lt_of_le zX b13.size)))
    clear ol ol9 oo9 hlr
    go_wp2
    generalize w8.setCell ⟨w1.heap.size, 5, none⟩ (.slice ra l.length rc) = w9 at *
    generalize (((((w9.setCell ⟨w.heap.size, 0, none⟩ (.int .u8 0)).setCell ⟨w.heap.size, 1, none⟩ (.int .u8 0)).setCell ⟨w.heap.size, 2, none⟩ (.int .u8 0)).setCell ⟨w.heap.size, 3, none⟩ (.int .u32 0)).setCell ⟨w.heap.size, 4, none⟩ (.slice none 0 0)).setCell ⟨w.heap.size, 5, none⟩ (.slice none 0 0) = w10 at *
    obtain ⟨t0, t1, t2, t3, t4, t5⟩ := six_cells x10
    refine bodyPost_ret (v := .tuple #[.agg #[.int .u8 0, .int .u8 0, .int .u8 0, .int .u32 0, .slice none 0 0, .slice none 0 0], .int .i64 4]) (by simp [results, Tryz.results17, go_sem, t0, t1, t2, t3, t4, t5]) rfl ⟨rfl, b14⟩
  · go_simp
    have b3 := b0.alloc z1 (.cells #[.int .u8 0, .int .u8 0, .int .u8 0, .int .u32 0, .slice none 0 0, .slice none 0 0] 27)
    refine hK.out _ _ b3 (fun hHeld => ?_)
    clear hK K
    try simp only [Act.put, List.setIfInBounds_toArray, List.set_cons_zero, List.set_cons_succ]
    refine wpAnyH_ready (rs := [11]) (by kernel_rfl) (by simp) ?_
    refine AllReadyH.cons (o := { dst := some 24, op := Go.Op.call { callee := Go.Callee.value (Go.Operand.func 79), args := #[Go.Operand.tmp 23], argTypes := #[30] }, type := 23, pos := _, after := #[{ on := 10, ground := Go.Ground.data }], guard := none }) rfl (fun K hK => ?_) AllReadyH.nil
    go_simp
    refine (kn3 (w1.drew.alloc (.cells #[.int .u8 0, .int .u8 0, .int .u8 0, .int .u32 0, .slice none 0 0, .slice none 0 0] 27)) b3).mono ?_
    rintro e wn ⟨rfl, rfl⟩
    go_wp2_with fail
    refine hK.out _ _ b3 (fun hHeld => ?_)
    clear hK K
    try simp only [Act.put, List.setIfInBounds_toArray, List.set_cons_zero, List.set_cons_succ]
    refine wpAnyH_take (i := 12) (oi := { dst := some 25, op := Go.Op.build 27 #[(0, Go.Operand.tmp 15), (1, Go.Operand.tmp 18), (2, Go.Operand.tmp 21), (3, Go.Operand.tmp 24)], type := 27, pos := _, after := #[{ on := 2, ground := Go.Ground.data }, { on := 5, ground := Go.Ground.data }, { on := 8, ground := Go.Ground.data }, { on := 11, ground := Go.Ground.data }], guard := none }) (v := .agg #[.int .u8 (x0.toNat : Int), .int .u8 (x1.toNat : Int), .int .u8 (x2.toNat : Int), .int .u32 (g : Int), .slice none 0 0, .slice none 0 0]) rfl (by kernel_rfl) (by kernel_rfl) (by kernel_rfl) (fun _ _ _ h => h) (Or.inl ⟨by rfl, fun W hW => by go_simp⟩) (by assumption) ?_
    try simp only [Act.put, List.setIfInBounds_toArray, List.set_cons_zero, List.set_cons_succ]
    refine wpAnyH_ready (rs := [14]) (by kernel_rfl) (by simp) ?_
    refine AllReadyH.cons (o := { dst := none, op := Go.Op.store 27 (Go.Operand.tmp 4) (Go.Operand.tmp 25), type := 0, pos := _, after := #[{ on := 13, ground := Go.Ground.data }, { on := 12, ground := Go.Ground.data }, { on := 11, ground := Go.Ground.chain }, { on := 0, ground := Go.Ground.phase }, { on := 1, ground := Go.Ground.phase }, { on := 2, ground := Go.Ground.phase }, { on := 3, ground := Go.Ground.phase }, { on := 4, ground := Go.Ground.phase }, { on := 5, ground := Go.Ground.phase }, { on := 6, ground := Go.Ground.phase }, { on := 7, ground := Go.Ground.phase }, { on := 8, ground := Go.Ground.phase }, { on := 9, ground := Go.Ground.phase }, { on := 10, ground := Go.Ground.phase }, { on := 11, ground := Go.Ground.phase }, { on := 12, ground := Go.Ground.phase }, { on := 13, ground := Go.Ground.phase }], guard := none }) rfl (fun K hK => ?_) AllReadyH.nil
    go_simp
    have b4 : Below w1.heap.size w1 (w1.alloc (.cells #[.int .u8 (x0.toNat : Int), .int .u8 (x1.toNat : Int), .int .u8 (x2.toNat : Int), .int .u32 (g : Int), .slice none 0 0, .slice none 0 0] 27)).drew := ((Below.refl _ _).alloc (Nat.le_refl _) (.cells #[.int .u8 (x0.toNat : Int), .int .u8 (x1.toNat : Int), .int .u8 (x2.toNat : Int), .int .u32 (g : Int), .slice none 0 0, .slice none 0 0] 27)).drew
    refine hK.out _ _ b4 (fun hHeld => ?_)
    clear hK K
    try simp only [Act.put, List.setIfInBounds_toArray, List.set_cons_zero, List.set_cons_succ]
    refine wpAnyH_done (by kernel_rfl) ?_ _
    refine NoPanic.normal ?_
    clear hHeld
    have P3 : (w1.alloc (.cells #[.int .u8 (x0.toNat : Int), .int .u8 (x1.toNat : Int), .int .u8 (x2.toNat : Int), .int .u32 (g : Int), .slice none 0 0, .slice none 0 0] 27)).drew.heap[w1.heap.size]? = some (.cells #[.int .u8 (x0.toNat : Int), .int .u8 (x1.toNat : Int), .int .u8 (x2.toNat : Int), .int .u32 (g : Int), .slice none 0 0, .slice none 0 0] 27 (0, 0)) := heap_alloc_new w1 _
    have zP : w1.heap.size < (w1.alloc (.cells #[.int .u8 (x0.toNat : Int), .int .u8 (x1.toNat : Int), .int .u8 (x2.toNat : Int), .int .u32 (g : Int), .slice none 0 0, .slice none 0 0] 27)).drew.heap.size := by show _ < (w1.alloc _).heap.size; simp
    generalize (w1.alloc (.cells #[.int .u8 (x0.toNat : Int), .int .u8 (x1.toNat : Int), .int .u8 (x2.toNat : Int), .int .u32 (g : Int), .slice none 0 0, .slice none 0 0] 27)).drew = w3 at *
    clear b0 z1
    go_wp2_with fail
    refine wp_region_noPanic ?_
    refine wp_region_held_drew (S := fun _ => True) (by kernel_rfl) trivial (fun hHeld => ?_)
    refine wpAnyH_take (i := 0) (oi := { dst := some 26, op := Go.Op.move (Go.Operand.tmp 0), type := 30, pos := _, after := #[], guard := none }) (v := .slice (some ⟨b, off, none⟩) L cap) rfl (by kernel_rfl) (by kernel_rfl) (by kernel_rfl) (fun _ _ _ h => h) (Or.inl ⟨by rfl, fun W hW => by go_simp⟩) (by assumption) ?_
    try simp only [Act.put, List.setIfInBounds_toArray, List.set_cons_zero, List.set_cons_succ]
    refine wpAnyH_take (i := 1) (oi := { dst := some 27, op := Go.Op.slice 30 (Go.Operand.tmp 26) (some (Go.Operand.const (Go.Value.int Go.IntKind.i64 7))) (some (Go.Operand.const (Go.Value.int Go.IntKind.i64 11))) none, type := 30, pos := _, after := #[{ on := 0, ground := Go.Ground.data }], guard := none }) (v := .slice (some ⟨b, off + 7, none⟩) 4 (cap - 7)) rfl (by kernel_rfl) (by kernel_rfl) (by kernel_rfl) (fun _ _ _ h => h) (Or.inl ⟨by rfl, fun W hW => by go_simp⟩) (by assumption) ?_
    try simp only [Act.put, List.setIfInBounds_toArray, List.set_cons_zero, List.set_cons_succ]
    refine wpAnyH_take (i := 3) (oi := { dst := some 29, op := Go.Op.move (Go.Operand.tmp 0), type := 30, pos := _, after := #[], guard := none }) (v := .slice (some ⟨b, off, none⟩) L cap) rfl (by kernel_rfl) (by kernel_rfl) (by kernel_rfl) (fun _ _ _ h => h) (Or.inl ⟨by rfl, fun W hW => by go_simp⟩) (by assumption) ?_
    try simp only [Act.put, List.setIfInBounds_toArray, List.set_cons_zero, List.set_cons_succ]
    refine wpAnyH_take (i := 4) (oi := { dst := some 30, op := Go.Op.slice 30 (Go.Operand.tmp 29) (some (Go.Operand.const (Go.Value.int Go.IntKind.i64 11))) none none, type := 30, pos := _, after := #[{ on := 3, ground := Go.Ground.data }], guard := none }) (v := .slice (some ⟨b, o2, none⟩) (L - 11) (cap - 11)) rfl (by kernel_rfl) (by kernel_rfl) (by kernel_rfl) (fun _ _ _ h => h) (Or.inl ⟨by rfl, fun W hW => by go_simp⟩) (by assumption) ?_
    try simp only [Act.put, List.setIfInBounds_toArray, List.set_cons_zero, List.set_cons_succ]
    refine wpAnyH_ready (rs := [2]) (by kernel_rfl) (by simp) ?_
    refine AllReadyH.cons (o := { dst := some 28, op := Go.Op.call { callee := Go.Callee.value (Go.Operand.func 79), args := #[Go.Operand.tmp 27], argTypes := #[30] }, type := 23, pos := _, after := #[{ on := 1, ground := Go.Ground.data }], guard := none }) rfl (fun K hK => ?_) AllReadyH.nil
    go_simp
    refine (kn7 w3.drew b4.drew).mono ?_
    rintro e wn ⟨rfl, rfl⟩
    go_wp2_with fail
    refine hK.out _ _ trivial (fun hHeld => ?_)
    clear hK K
    try simp only [Act.put, List.setIfInBounds_toArray, List.set_cons_zero, List.set_cons_succ]
    refine wpAnyH_take (i := 5) (oi := { dst := some 5, op := Go.Op.assign (Go.Operand.tmp 28), type := 23, pos := _, after := #[{ on := 2, ground := Go.Ground.data }, { on := 2, ground := Go.Ground.chain }, { on := 0, ground := Go.Ground.phase }, { on := 1, ground := Go.Ground.phase }, { on := 2, ground := Go.Ground.phase }, { on := 3, ground := Go.Ground.textOnly Go.Departure.lateStores }, { on := 4, ground := Go.Ground.textOnly Go.Departure.lateStoresUnsure }], guard := none }) (v := .int .u32 (n : Int)) rfl (by kernel_rfl) (by kernel_rfl) (by kernel_rfl) (fun _ _ _ h => h) (Or.inl ⟨by rfl, fun W hW => by go_simp⟩) (by assumption) ?_
    try simp only [Act.put, List.setIfInBounds_toArray, List.set_cons_zero, List.set_cons_succ]
    refine wpAnyH_take (i := 6) (oi := { dst := some 6, op := Go.Op.assign (Go.Operand.tmp 30), type := 30, pos := _, after := #[{ on := 4, ground := Go.Ground.data }, { on := 5, ground := Go.Ground.chain }, { on := 0, ground := Go.Ground.phase }, { on := 1, ground := Go.Ground.phase }, { on := 2, ground := Go.Ground.phase }, { on := 3, ground := Go.Ground.phase }, { on := 4, ground := Go.Ground.phase }, { on := 5, ground := Go.Ground.phase }], guard := none }) (v := .slice (some ⟨b, o2, none⟩) (L - 11) (cap - 11)) rfl (by kernel_rfl) (by kernel_rfl) (by kernel_rfl) (fun _ _ _ h => h) (Or.inl ⟨by rfl, fun W hW => by go_simp⟩) (by assumption) ?_
    try simp only [Act.put, List.setIfInBounds_toArray, List.set_cons_zero, List.set_cons_succ]
    refine wpAnyH_done (by kernel_rfl) ?_ _
    refine NoPanic.normal ?_
    clear hHeld
    have P4 : w3.drew.heap[w1.heap.size]? = some (.cells #[.int .u8 (x0.toNat : Int), .int .u8 (x1.toNat : Int), .int .u8 (x2.toNat : Int), .int .u32 (g : Int), .slice none 0 0, .slice none 0 0] 27 (0, 0)) := P3
    have b5 : Below w1.heap.size w1 w3.drew := b4.drew
    have z5 : w1.heap.size < w3.drew.heap.size := zP
    clear P3 b4 zP kn3 kn7
    generalize w3.drew = w4 at *
    obtain ⟨m0, m1, m2, m3, m4, m5⟩ := six_cells P4
    go_wp2_with fail
    refine (kh w4).mono ?_
    rintro e w5 ⟨rfl, b6⟩
    have b7 := b5.trans (b6.mono (Nat.le_of_lt z5))
    have P5 := (b6.block _ z5).trans P4
    have z7 := Nat.lt_of_lt_of_le z5 b6.size
    clear kh m0 m1 m2 m3 m4 m5 P4 b5 b6 z5
    have HR : Hid ((bs.drop 11).length = L - 11) := by show _ = _; rw [List.length_drop, HL.out]
    have r1 : L - 11 ≤ cap - 11 := by omega
    have r2 : cap - 11 ≤ 9223372036854775807 := by omega
    generalize L - 11 = R at *
    generalize cap - 11 = RC at *
    have v1 : (n : Int) ≤ (R : Int) := by omega
    have v2 : (n : Int) ≤ (RC : Int) := by omega
    have v3 : ¬ (R : Int) < (n : Int) := by omega
    obtain ⟨o3, ho3⟩ : ∃ o3, (if RC = n then some (⟨b, o2, none⟩ : Addr) else some ⟨b, o2 + n, none⟩) = some ⟨b, o3, none⟩ := by
      by_cases e : RC = n
      · exact ⟨_, by rw [if_pos e]⟩
      · exact ⟨_, by rw [if_neg e]⟩
    generalize bs.drop 11 = T at *
    have s12 : InAt w1 w1.heap.size (.slice (some ⟨b, o2, none⟩) T.length RC) T := by rw [HR.out]; exact s11
    have qA := in_take s12 (n := n) (by rw [HR.out]; omega)
    have qB : InAt w1 w1.heap.size (.slice (some ⟨b, o3, none⟩) (R - n) (RC - n)) (T.drop n) := by
      have h := in_drop s12 (n := n) (ao' := some ⟨b, o3, none⟩) (by rw [HR.out]; omega) (fun hlt _ _ e => by cases e; rw [← ho3, if_neg (by omega)])
      rw [HR.out] at h
      exact h
    clear s11 s12
    have kg := GetOps_any w5 _ _ ((qA.below b7 (Nat.le_refl _)).mono b7.size)
    rw [hpo] at kg
    clear qA hpo
    obtain ⟨m0, m1, m2, m3, m4, m5⟩ := six_cells P5
    go_wp2_with fail
    refine kg.mono ?_
    rintro e w6 ⟨vo, rfl, oo, b8⟩
    obtain ⟨oa, oc, rfl⟩ := own_len oo
    try simp only at oo
    have P6 := (b8.block _ z7).trans P5
    have z8 := Nat.lt_of_lt_of_le z7 b8.size
    have b9 := b7.trans (b8.mono (Nat.le_of_lt z7))
    have k7 := (Kept.refl w1.heap.size w6.heap.size w6).setCell 4 (.slice oa lo.length oc)
    have b10 := b9.trans (k7.below (Nat.le_refl _) (Nat.le_of_lt z8))
    have P7 := six_set4 (.slice oa lo.length oc) P6
    have z9 : w1.heap.size < (w6.setCell ⟨w1.heap.size, 4, none⟩ (.slice oa lo.length oc)).heap.size := Nat.lt_of_lt_of_le z8 k7.size
    have oo7 := ownsRow_setCell_below (a := ⟨w1.heap.size, 4, none⟩) oo z7 (.slice oa lo.length oc)
    have z5 : w1.heap.size < w5.heap.size := z7
    clear kg m0 m1 m2 m3 m4 m5 oo P5 z7 b7 b8 b9 z8 k7
    obtain ⟨m0, m1, m2, m3, m4, m5⟩ := six_cells P6
    have fP := fun i => box_frozen (i := i) P6
    clear P6
    go_wp2_with fail
    generalize w6.setCell ⟨w1.heap.size, 4, none⟩ (.slice oa lo.length oc) = w7 at *
    clear m0 m1 m2 m3 m4 m5 fP
    have kr := GetResults_any w7 _ _ ((qB.below b10 (Nat.le_refl _)).mono b10.size)
    rw [hpr] at kr
    clear qB hpr
    refine kr.mono ?_
    rintro e w8 ⟨vr, rfl, ⟨l, ol, hlr⟩, b11⟩
    try simp only at hlr
    obtain ⟨ra, rc, rfl⟩ := own_len ol.own
    have P8 := (b11.block _ z9).trans P7
    have z10 := Nat.lt_of_lt_of_le z9 b11.size
    have b12 := b10.trans (b11.mono (Nat.le_of_lt z9))
    have oo8 := own_below oo7 b11
    have k9 := (Kept.refl w1.heap.size w8.heap.size w8).setCell 5 (.slice ra l.length rc)
    have b13 := b12.trans (k9.below (Nat.le_refl _) (Nat.le_of_lt z10))
    have oo9 := own_keptR oo8 z5 k9
    have ol9 := ol.kept z9 k9
    have P9 := six_set5 (.slice ra l.length rc) P8
    have x8 := (b12.block _ zX).trans PX
    have x9 := (b13.block _ zX).trans PX
    have hne : ¬ w.heap.size = w1.heap.size := by omega
    clear kr P7 oo7 b10 b11 b12 oo8
    obtain ⟨m0, m1, m2, m3, m4, m5⟩ := six_cells P8
    obtain ⟨y0, y1, y2, y3, y4, y5⟩ := six_cells x8
    have fP := fun i => box_frozen (i := i) P8
    have fX := fun i => box_frozen (i := i) x8
    clear P8 x8
    obtain ⟨x10, k10⟩ := six_store x9 (.int .u8 0) (.int .u8 0) (.int .u8 0) (.int .u32 0) (.slice none 0 0) (.slice none 0 0)
    have b14 := (B1.trans (b13.mono B1.size)).trans (k10.below (Nat.le_refl _) (Nat.le_of_lt (Nat.lt_of_lt_of_le zX b13.size)))
    clear ol ol9 oo9 hlr
    go_wp2
    generalize w8.setCell ⟨w1.heap.size, 5, none⟩ (.slice ra l.length rc) = w9 at *
    generalize (((((w9.setCell ⟨w.heap.size, 0, none⟩ (.int .u8 0)).setCell ⟨w.heap.size, 1, none⟩ (.int .u8 0)).setCell ⟨w.heap.size, 2, none⟩ (.int .u8 0)).setCell ⟨w.heap.size, 3, none⟩ (.int .u32 0)).setCell ⟨w.heap.size, 4, none⟩ (.slice none 0 0)).setCell ⟨w.heap.size, 5, none⟩ (.slice none 0 0) = w10 at *
    obtain ⟨t0, t1, t2, t3, t4, t5⟩ := six_cells x10
    refine bodyPost_ret (v := .tuple #[.agg #[.int .u8 0, .int .u8 0, .int .u8 0, .int .u32 0, .slice none 0 0, .slice none 0 0], .int .i64 4]) (by simp [results, Tryz.results17, go_sem, t0, t1, t2, t3, t4, t5]) rfl ⟨rfl, b14⟩
set_option maxHeartbeats 2000000 in
set_option maxRecDepth 1000000 in
theorem Get_ok (w : World) (vb : Value) (bs : List UInt8) (hb : InAt w w.heap.size vb bs) (hl : ¬ bs.length < 11) (hh : (rawM bs).head = true) (ho : numAt 7 bs ≤ bs.length - 11) (lo : List OpD) (lr : List (List RowD)) (hpo : getOps ((bs.drop 11).take (numAt 7 bs)) = (lo, 0)) (hpr : getRes ((bs.drop 11).drop (numAt 7 bs)) = (lr, 0)) :
    Calls Tryz.prog 17 #[vb] w fun e w' => ∃ oa on oc ra rn rc, e = .returned (.tuple #[.agg #[.int .u8 ((rawM bs).say.toNat : Int), .int .u8 ((rawM bs).src.toNat : Int), .int .u8 ((rawM bs).dst.toNat : Int), .int .u32 ((rawM bs).g.toNat : Int), .slice oa on oc, .slice ra rn rc], .int .i64 0]) ∧ w'.ownsRow w.heap.size 85 4 (.slice oa on oc) lo.length (lo.flatMap opCells) ∧ (∃ l, OwnRes w' w.heap.size (.slice ra rn rc) l ∧ l.map (·.2) = lr) ∧ Below w.heap.size w w' := by
  have hb0 := hb
  obtain ⟨ao, cap, rfl, h1, h2, hc⟩ := hb
  unfold maxLen at h2
  obtain ⟨b, off, rfl, hbl, hcell⟩ := hc (by omega)
  have i11 : ¬ (bs.length : Int) < 11 := by omega
  obtain ⟨w1, hw1⟩ : ∃ w1, w1 = w.alloc (.cells #[.int .u8 0, .int .u8 0, .int .u8 0, .int .u32 0, .slice none 0 0, .slice none 0 0] 27) := ⟨_, rfl⟩
  have B1 : Below w.heap.size w w1 := by rw [hw1]; exact below_one w _
  have C0 := hcell 0 (by omega) 0 _ rfl
  have C1 := hcell 1 (by omega) 0 _ rfl
  have C2 := hcell 2 (by omega) 0 _ rfl
  simp only [Nat.zero_mul, Nat.one_mul, Nat.add_zero, Nat.mul_one, bv] at C0 C1 C2
  obtain ⟨r0, r1, r2, r3⟩ := raw_head hl
  rw [← r0] at C0
  rw [← r1] at C1
  rw [← r2] at C2
  obtain ⟨x0, hx0⟩ : ∃ x, x = (rawM bs).say := ⟨_, rfl⟩
  obtain ⟨x1, hx1⟩ : ∃ x, x = (rawM bs).src := ⟨_, rfl⟩
  obtain ⟨x2, hx2⟩ : ∃ x, x = (rawM bs).dst := ⟨_, rfl⟩
  rw [← hx0] at C0
  rw [← hx1] at C1
  rw [← hx2] at C2
  have c0 : w1.cell? ⟨b, off, none⟩ = some (.int .u8 (x0.toNat : Int)) := (B1.cell hbl).trans C0
  have c1 : w1.cell? ⟨b, off + 1, none⟩ = some (.int .u8 (x1.toNat : Int)) := (B1.cell hbl).trans C1
  have c2 : w1.cell? ⟨b, off + 2, none⟩ = some (.int .u8 (x2.toNat : Int)) := (B1.cell hbl).trans C2
  have hb1 : InAt w1 w1.heap.size (.slice (some ⟨b, off, none⟩) bs.length cap) bs := (hb0.below B1 (Nat.le_refl _)).mono B1.size
  have hbl1 : b < w1.heap.size := Nat.lt_of_lt_of_le hbl B1.size
  have s3 : InAt w1 w1.heap.size (.slice (some ⟨b, off + 3, none⟩) 4 (cap - 3)) ((bs.drop 3).take 4) := by
    have h := in_drop (n := 3) (ao' := some ⟨b, off + 3, none⟩) hb1 (by omega) (fun _ _ _ e => by cases e; rfl)
    rw [← List.length_drop] at h
    exact in_take h (by simp; omega)
  have s7 : InAt w1 w1.heap.size (.slice (some ⟨b, off + 7, none⟩) 4 (cap - 7)) ((bs.drop 7).take 4) := by
    have h := in_drop (n := 7) (ao' := some ⟨b, off + 7, none⟩) hb1 (by omega) (fun _ _ _ e => by cases e; rfl)
    rw [← List.length_drop] at h
    exact in_take h (by simp; omega)
  have kn3 : ∀ W, Below w1.heap.size w1 W → Calls Tryz.prog 79 #[.slice (some ⟨b, off + 3, none⟩) 4 (cap - 3)] W fun e w' => e = .returned (.int .u32 (numAt 3 bs : Int)) ∧ W = w' := fun W hW => pnumber_any W _ _ ((s3.below hW (Nat.le_refl _)).mono hW.size) (by simp; omega)
  have kn7 : ∀ W, Below w1.heap.size w1 W → Calls Tryz.prog 79 #[.slice (some ⟨b, off + 7, none⟩) 4 (cap - 7)] W fun e w' => e = .returned (.int .u32 (numAt 7 bs : Int)) ∧ W = w' := fun W hW => pnumber_any W _ _ ((s7.below hW (Nat.le_refl _)).mono hW.size) (by simp; omega)
  have ng := numAt_lt (k := 3) (bs := bs) (by omega)
  have nn := numAt_lt (k := 7) (bs := bs) (by omega)
  rw [← r3] at kn3 ng
  obtain ⟨g, hg⟩ : ∃ g, g = (rawM bs).g.toNat := ⟨_, rfl⟩
  obtain ⟨n, hn⟩ : ∃ n, n = numAt 7 bs := ⟨_, rfl⟩
  rw [← hg] at kn3 ng
  rw [← hn] at kn7 nn
  obtain ⟨o2, hro⟩ : ∃ o2, (if cap = 11 then some (⟨b, off, none⟩ : Addr) else some ⟨b, off + 11, none⟩) = some ⟨b, o2, none⟩ := by
    by_cases e : cap = 11
    · exact ⟨_, by rw [if_pos e]⟩
    · exact ⟨_, by rw [if_neg e]⟩
  have s11 : InAt w1 w1.heap.size (.slice (some ⟨b, o2, none⟩) (bs.length - 11) (cap - 11)) (bs.drop 11) := in_drop (n := 11) hb1 (by omega) (fun hlt _ _ e => by cases e; rw [← hro, if_neg (by omega)])
  have q0 : (11 : Int) ≤ (bs.length : Int) := by omega
  have q1 : (11 : Int) ≤ (cap : Int) := by omega
  have q2 : ¬ cap = 3 := by omega
  have q4 : ¬ bs.length = 0 := by omega
  have q5 : ¬ (bs.length : Int) ≤ 1 := by omega
  have q6 : ¬ (bs.length : Int) ≤ 2 := by omega
  have q7 : ¬ (cap : Int) < 7 := by omega
  have q8 : ¬ (cap : Int) < 11 := by omega
  have q3 : ¬ cap = 7 := by omega
  have kh := fun W => headMay_any W x0.toNat x1.toNat x2.toNat g none none 0 0 0 0
  have PX : w1.heap[w.heap.size]? = some (.cells #[.int .u8 0, .int .u8 0, .int .u8 0, .int .u32 0, .slice none 0 0, .slice none 0 0] 27 (0, 0)) := by rw [hw1]; exact heap_alloc_new w _
  have zX : w.heap.size < w1.heap.size := by rw [hw1]; simp
  have hh' : headOk x0.toNat x1.toNat x2.toNat = true := by rw [hx0, hx1, hx2]; exact hh
  rw [hh'] at kh
  clear hh hh'
  rw [← hn] at ho hpo hpr
  rw [← hx0, ← hx1, ← hx2, ← hg]
  clear hx0 hx1 hx2 hg hn
  clear s3 s7 C0 C1 C2 hcell hc hb0 hb1 r0 r1 r2 r3
  obtain ⟨L, hL⟩ : ∃ L, L = bs.length := ⟨_, rfl⟩
  have HL : Hid (L = bs.length) := hL
  rw [← hL] at hl h1 i11 q0 q4 q5 q6 ho s11 ⊢
  clear hL
  have z1 : w1.heap.size ≤ w1.drew.heap.size := Nat.le_refl _
  have b0 : Below w1.heap.size w1 w1.drew := ⟨rfl, rfl, rfl, Nat.le_refl _, fun _ _ => rfl⟩
  subst hw1
  go_enter Tryz.func17, Tryz.ntmps17
  go_wp2_with fail
  generalize w.alloc (.cells #[.int .u8 0, .int .u8 0, .int .u8 0, .int .u32 0, .slice none 0 0, .slice none 0 0] 27) = w1 at *
  refine wp_region_noPanic ?_
  refine wp_region_held_drew (S := fun W => Below w1.heap.size w1 W) (by kernel_rfl) b0 (fun hHeld => ?_)
  refine wpAnyH_take (i := 0) (oi := { dst := some 13, op := Go.Op.move (Go.Operand.tmp 0), type := 30, pos := _, after := #[], guard := none }) (v := .slice (some ⟨b, off, none⟩) L cap) rfl (by kernel_rfl) (by kernel_rfl) (by kernel_rfl) (fun _ _ _ h => h) (Or.inl ⟨by rfl, fun W hW => by go_simp⟩) (by assumption) ?_
  try simp only [Act.put, List.setIfInBounds_toArray, List.set_cons_zero, List.set_cons_succ]
  refine wpAnyH_take (i := 1) (oi := { dst := some 14, op := Go.Op.indexAddr 30 (Go.Operand.tmp 13) (Go.Operand.const (Go.Value.int Go.IntKind.i64 0)), type := 0, pos := _, after := #[{ on := 0, ground := Go.Ground.data }], guard := none }) (v := .pointer (some ⟨b, off, none⟩)) rfl (by kernel_rfl) (by kernel_rfl) (by kernel_rfl) (fun _ _ _ h => h) (Or.inl ⟨by rfl, fun W hW => by go_simp⟩) (by assumption) ?_
  try simp only [Act.put, List.setIfInBounds_toArray, List.set_cons_zero, List.set_cons_succ]
  refine wpAnyH_take (i := 2) (oi := { dst := some 15, op := Go.Op.load 5 (Go.Operand.tmp 14), type := 5, pos := _, after := #[{ on := 1, ground := Go.Ground.data }], guard := none }) (v := .int .u8 (x0.toNat : Int)) rfl (by kernel_rfl) (by kernel_rfl) (by kernel_rfl) (fun _ _ _ h => h) (Or.inl ⟨by rfl, fun W hW => by have h1 := (hW.cell hbl1).trans c0; go_simp⟩) (by assumption) ?_
  try simp only [Act.put, List.setIfInBounds_toArray, List.set_cons_zero, List.set_cons_succ]
  refine wpAnyH_take (i := 3) (oi := { dst := some 16, op := Go.Op.move (Go.Operand.tmp 0), type := 30, pos := _, after := #[], guard := none }) (v := .slice (some ⟨b, off, none⟩) L cap) rfl (by kernel_rfl) (by kernel_rfl) (by kernel_rfl) (fun _ _ _ h => h) (Or.inl ⟨by rfl, fun W hW => by go_simp⟩) (by assumption) ?_
  try simp only [Act.put, List.setIfInBounds_toArray, List.set_cons_zero, List.set_cons_succ]
  refine wpAnyH_take (i := 4) (oi := { dst := some 17, op := Go.Op.indexAddr 30 (Go.Operand.tmp 16) (Go.Operand.const (Go.Value.int Go.IntKind.i64 1)), type := 0, pos := _, after := #[{ on := 3, ground := Go.Ground.data }], guard := none }) (v := .pointer (some ⟨b, off + 1, none⟩)) rfl (by kernel_rfl) (by kernel_rfl) (by kernel_rfl) (fun _ _ _ h => h) (Or.inl ⟨by rfl, fun W hW => by go_simp⟩) (by assumption) ?_
  try simp only [Act.put, List.setIfInBounds_toArray, List.set_cons_zero, List.set_cons_succ]
  refine wpAnyH_take (i := 5) (oi := { dst := some 18, op := Go.Op.load 5 (Go.Operand.tmp 17), type := 5, pos := _, after := #[{ on := 4, ground := Go.Ground.data }], guard := none }) (v := .int .u8 (x1.toNat : Int)) rfl (by kernel_rfl) (by kernel_rfl) (by kernel_rfl) (fun _ _ _ h => h) (Or.inl ⟨by rfl, fun W hW => by have h1 := (hW.cell hbl1).trans c1; go_simp⟩) (by assumption) ?_
  try simp only [Act.put, List.setIfInBounds_toArray, List.set_cons_zero, List.set_cons_succ]
  refine wpAnyH_take (i := 6) (oi := { dst := some 19, op := Go.Op.move (Go.Operand.tmp 0), type := 30, pos := _, after := #[], guard := none }) (v := .slice (some ⟨b, off, none⟩) L cap) rfl (by kernel_rfl) (by kernel_rfl) (by kernel_rfl) (fun _ _ _ h => h) (Or.inl ⟨by rfl, fun W hW => by go_simp⟩) (by assumption) ?_
  try simp only [Act.put, List.setIfInBounds_toArray, List.set_cons_zero, List.set_cons_succ]
  refine wpAnyH_take (i := 7) (oi := { dst := some 20, op := Go.Op.indexAddr 30 (Go.Operand.tmp 19) (Go.Operand.const (Go.Value.int Go.IntKind.i64 2)), type := 0, pos := _, after := #[{ on := 6, ground := Go.Ground.data }], guard := none }) (v := .pointer (some ⟨b, off + 2, none⟩)) rfl (by kernel_rfl) (by kernel_rfl) (by kernel_rfl) (fun _ _ _ h => h) (Or.inl ⟨by rfl, fun W hW => by go_simp⟩) (by assumption) ?_
  try simp only [Act.put, List.setIfInBounds_toArray, List.set_cons_zero, List.set_cons_succ]
  refine wpAnyH_take (i := 8) (oi := { dst := some 21, op := Go.Op.load 5 (Go.Operand.tmp 20), type := 5, pos := _, after := #[{ on := 7, ground := Go.Ground.data }], guard := none }) (v := .int .u8 (x2.toNat : Int)) rfl (by kernel_rfl) (by kernel_rfl) (by kernel_rfl) (fun _ _ _ h => h) (Or.inl ⟨by rfl, fun W hW => by have h1 := (hW.cell hbl1).trans c2; go_simp⟩) (by assumption) ?_
  try simp only [Act.put, List.setIfInBounds_toArray, List.set_cons_zero, List.set_cons_succ]
  refine wpAnyH_take (i := 9) (oi := { dst := some 22, op := Go.Op.move (Go.Operand.tmp 0), type := 30, pos := _, after := #[], guard := none }) (v := .slice (some ⟨b, off, none⟩) L cap) rfl (by kernel_rfl) (by kernel_rfl) (by kernel_rfl) (fun _ _ _ h => h) (Or.inl ⟨by rfl, fun W hW => by go_simp⟩) (by assumption) ?_
  try simp only [Act.put, List.setIfInBounds_toArray, List.set_cons_zero, List.set_cons_succ]
  refine wpAnyH_take (i := 10) (oi := { dst := some 23, op := Go.Op.slice 30 (Go.Operand.tmp 22) (some (Go.Operand.const (Go.Value.int Go.IntKind.i64 3))) (some (Go.Operand.const (Go.Value.int Go.IntKind.i64 7))) none, type := 30, pos := _, after := #[{ on := 9, ground := Go.Ground.data }], guard := none }) (v := .slice (some ⟨b, off + 3, none⟩) 4 (cap - 3)) rfl (by kernel_rfl) (by kernel_rfl) (by kernel_rfl) (fun _ _ _ h => h) (Or.inl ⟨by rfl, fun W hW => by go_simp⟩) (by assumption) ?_
  try simp only [Act.put, List.setIfInBounds_toArray, List.set_cons_zero, List.set_cons_succ]
  refine wpAnyH_ready (rs := [11, 13]) (by kernel_rfl) (by simp) ?_
  refine AllReadyH.cons (o := { dst := some 24, op := Go.Op.call { callee := Go.Callee.value (Go.Operand.func 79), args := #[Go.Operand.tmp 23], argTypes := #[30] }, type := 23, pos := _, after := #[{ on := 10, ground := Go.Ground.data }], guard := none }) rfl (fun K hK => ?_) (AllReadyH.cons (o := { dst := some 4, op := Go.Op.alloc 27, type := 0, pos := _, after := #[], guard := none }) rfl (fun K hK => ?_) AllReadyH.nil)
  · go_simp
    refine (kn3 w1.drew b0).mono ?_
    rintro e wn ⟨rfl, rfl⟩
    go_wp2_with fail
    refine hK.out _ _ b0 (fun hHeld => ?_)
    clear hK K
    try simp only [Act.put, List.setIfInBounds_toArray, List.set_cons_zero, List.set_cons_succ]
    refine wpAnyH_take (i := 12) (oi := { dst := some 25, op := Go.Op.build 27 #[(0, Go.Operand.tmp 15), (1, Go.Operand.tmp 18), (2, Go.Operand.tmp 21), (3, Go.Operand.tmp 24)], type := 27, pos := _, after := #[{ on := 2, ground := Go.Ground.data }, { on := 5, ground := Go.Ground.data }, { on := 8, ground := Go.Ground.data }, { on := 11, ground := Go.Ground.data }], guard := none }) (v := .agg #[.int .u8 (x0.toNat : Int), .int .u8 (x1.toNat : Int), .int .u8 (x2.toNat : Int), .int .u32 (g : Int), .slice none 0 0, .slice none 0 0]) rfl (by kernel_rfl) (by kernel_rfl) (by kernel_rfl) (fun _ _ _ h => h) (Or.inl ⟨by rfl, fun W hW => by go_simp⟩) (by assumption) ?_
    try simp only [Act.put, List.setIfInBounds_toArray, List.set_cons_zero, List.set_cons_succ]
    refine wpAnyH_ready (rs := [13]) (by kernel_rfl) (by simp) ?_
    refine AllReadyH.cons (o := { dst := some 4, op := Go.Op.alloc 27, type := 0, pos := _, after := #[], guard := none }) rfl (fun K hK => ?_) AllReadyH.nil
    go_simp
    have b3 := b0.alloc z1 (.cells #[.int .u8 0, .int .u8 0, .int .u8 0, .int .u32 0, .slice none 0 0, .slice none 0 0] 27)
    refine hK.out _ _ b3 (fun hHeld => ?_)
    clear hK K
    try simp only [Act.put, List.setIfInBounds_toArray, List.set_cons_zero, List.set_cons_succ]
    refine wpAnyH_ready (rs := [14]) (by kernel_rfl) (by simp) ?_
    refine AllReadyH.cons (o := { dst := none, op := Go.Op.store 27 (Go.Operand.tmp 4) (Go.Operand.tmp 25), type := 0, pos := _, after := #[{ on := 13, ground := Go.Ground.data }, { on := 12, ground := Go.Ground.data }, { on := 11, ground := Go.Ground.chain }, { on := 0, ground := Go.Ground.phase }, { on := 1, ground := Go.Ground.phase }, { on := 2, ground := Go.Ground.phase }, { on := 3, ground := Go.Ground.phase }, { on := 4, ground := Go.Ground.phase }, { on := 5, ground := Go.Ground.phase }, { on := 6, ground := Go.Ground.phase }, { on := 7, ground := Go.Ground.phase }, { on := 8, ground := Go.Ground.phase }, { on := 9, ground := Go.Ground.phase }, { on := 10, ground := Go.Ground.phase }, { on := 11, ground := Go.Ground.phase }, { on := 12, ground := Go.Ground.phase }, { on := 13, ground := Go.Ground.phase }], guard := none }) rfl (fun K hK => ?_) AllReadyH.nil
    go_simp
    have b4 : Below w1.heap.size w1 (w1.alloc (.cells #[.int .u8 (x0.toNat : Int), .int .u8 (x1.toNat : Int), .int .u8 (x2.toNat : Int), .int .u32 (g : Int), .slice none 0 0, .slice none 0 0] 27)).drew := ((Below.refl _ _).alloc (Nat.le_refl _) (.cells #[.int .u8 (x0.toNat : Int), .int .u8 (x1.toNat : Int), .int .u8 (x2.toNat : Int), .int .u32 (g : Int), .slice none 0 0, .slice none 0 0] 27)).drew
    refine hK.out _ _ b4 (fun hHeld => ?_)
    clear hK K
    try simp only [Act.put, List.setIfInBounds_toArray, List.set_cons_zero, List.set_cons_succ]
    refine wpAnyH_done (by kernel_rfl) ?_ _
    refine NoPanic.normal ?_
    clear hHeld
    have P3 : (w1.alloc (.cells #[.int .u8 (x0.toNat : Int), .int .u8 (x1.toNat : Int), .int .u8 (x2.toNat : Int), .int .u32 (g : Int), .slice none 0 0, .slice none 0 0] 27)).drew.heap[w1.heap.size]? = some (.cells #[.int .u8 (x0.toNat : Int), .int .u8 (x1.toNat : Int), .int .u8 (x2.toNat : Int), .int .u32 (g : Int), .slice none 0 0, .slice none 0 0] 27 (0, 0)) := heap_alloc_new w1 _
    have zP : w1.heap.size < (w1.alloc (.cells #[.int .u8 (x0.toNat : Int), .int .u8 (x1.toNat : Int), .int .u8 (x2.toNat : Int), .int .u32 (g : Int), .slice none 0 0, .slice none 0 0] 27)).drew.heap.size := by show _ < (w1.alloc _).heap.size; simp
    generalize (w1.alloc (.cells #[.int .u8 (x0.toNat : Int), .int .u8 (x1.toNat : Int), .int .u8 (x2.toNat : Int), .int .u32 (g : Int), .slice none 0 0, .slice none 0 0] 27)).drew = w3 at *
    clear b0 z1
    go_wp2_with fail
    refine wp_region_noPanic ?_
    refine wp_region_held_drew (S := fun _ => True) (by kernel_rfl) trivial (fun hHeld => ?_)
    refine wpAnyH_take (i := 0) (oi := { dst := some 26, op := Go.Op.move (Go.Operand.tmp 0), type := 30, pos := _, after := #[], guard := none }) (v := .slice (some ⟨b, off, none⟩) L cap) rfl (by kernel_rfl) (by kernel_rfl) (by kernel_rfl) (fun _ _ _ h => h) (Or.inl ⟨by rfl, fun W hW => by go_simp⟩) (by assumption) ?_
    try simp only [Act.put, List.setIfInBounds_toArray, List.set_cons_zero, List.set_cons_succ]
    refine wpAnyH_take (i := 1) (oi := { dst := some 27, op := Go.Op.slice 30 (Go.Operand.tmp 26) (some (Go.Operand.const (Go.Value.int Go.IntKind.i64 7))) (some (Go.Operand.const (Go.Value.int Go.IntKind.i64 11))) none, type := 30, pos := _, after := #[{ on := 0, ground := Go.Ground.data }], guard := none }) (v := .slice (some ⟨b, off + 7, none⟩) 4 (cap - 7)) rfl (by kernel_rfl) (by kernel_rfl) (by kernel_rfl) (fun _ _ _ h => h) (Or.inl ⟨by rfl, fun W hW => by go_simp⟩) (by assumption) ?_
    try simp only [Act.put, List.setIfInBounds_toArray, List.set_cons_zero, List.set_cons_succ]
    refine wpAnyH_take (i := 3) (oi := { dst := some 29, op := Go.Op.move (Go.Operand.tmp 0), type := 30, pos := _, after := #[], guard := none }) (v := .slice (some ⟨b, off, none⟩) L cap) rfl (by kernel_rfl) (by kernel_rfl) (by kernel_rfl) (fun _ _ _ h => h) (Or.inl ⟨by rfl, fun W hW => by go_simp⟩) (by assumption) ?_
    try simp only [Act.put, List.setIfInBounds_toArray, List.set_cons_zero, List.set_cons_succ]
    refine wpAnyH_take (i := 4) (oi := { dst := some 30, op := Go.Op.slice 30 (Go.Operand.tmp 29) (some (Go.Operand.const (Go.Value.int Go.IntKind.i64 11))) none none, type := 30, pos := _, after := #[{ on := 3, ground := Go.Ground.data }], guard := none }) (v := .slice (some ⟨b, o2, none⟩) (L - 11) (cap - 11)) rfl (by kernel_rfl) (by kernel_rfl) (by kernel_rfl) (fun _ _ _ h => h) (Or.inl ⟨by rfl, fun W hW => by go_simp⟩) (by assumption) ?_
    try simp only [Act.put, List.setIfInBounds_toArray, List.set_cons_zero, List.set_cons_succ]
    refine wpAnyH_ready (rs := [2]) (by kernel_rfl) (by simp) ?_
    refine AllReadyH.cons (o := { dst := some 28, op := Go.Op.call { callee := Go.Callee.value (Go.Operand.func 79), args := #[Go.Operand.tmp 27], argTypes := #[30] }, type := 23, pos := _, after := #[{ on := 1, ground := Go.Ground.data }], guard := none }) rfl (fun K hK => ?_) AllReadyH.nil
    go_simp
    refine (kn7 w3.drew b4.drew).mono ?_
    rintro e wn ⟨rfl, rfl⟩
    go_wp2_with fail
    refine hK.out _ _ trivial (fun hHeld => ?_)
    clear hK K
    try simp only [Act.put, List.setIfInBounds_toArray, List.set_cons_zero, List.set_cons_succ]
    refine wpAnyH_take (i := 5) (oi := { dst := some 5, op := Go.Op.assign (Go.Operand.tmp 28), type := 23, pos := _, after := #[{ on := 2, ground := Go.Ground.data }, { on := 2, ground := Go.Ground.chain }, { on := 0, ground := Go.Ground.phase }, { on := 1, ground := Go.Ground.phase }, { on := 2, ground := Go.Ground.phase }, { on := 3, ground := Go.Ground.textOnly Go.Departure.lateStores }, { on := 4, ground := Go.Ground.textOnly Go.Departure.lateStoresUnsure }], guard := none }) (v := .int .u32 (n : Int)) rfl (by kernel_rfl) (by kernel_rfl) (by kernel_rfl) (fun _ _ _ h => h) (Or.inl ⟨by rfl, fun W hW => by go_simp⟩) (by assumption) ?_
    try simp only [Act.put, List.setIfInBounds_toArray, List.set_cons_zero, List.set_cons_succ]
    refine wpAnyH_take (i := 6) (oi := { dst := some 6, op := Go.Op.assign (Go.Operand.tmp 30), type := 30, pos := _, after := #[{ on := 4, ground := Go.Ground.data }, { on := 5, ground := Go.Ground.chain }, { on := 0, ground := Go.Ground.phase }, { on := 1, ground := Go.Ground.phase }, { on := 2, ground := Go.Ground.phase }, { on := 3, ground := Go.Ground.phase }, { on := 4, ground := Go.Ground.phase }, { on := 5, ground := Go.Ground.phase }], guard := none }) (v := .slice (some ⟨b, o2, none⟩) (L - 11) (cap - 11)) rfl (by kernel_rfl) (by kernel_rfl) (by kernel_rfl) (fun _ _ _ h => h) (Or.inl ⟨by rfl, fun W hW => by go_simp⟩) (by assumption) ?_
    try simp only [Act.put, List.setIfInBounds_toArray, List.set_cons_zero, List.set_cons_succ]
    refine wpAnyH_done (by kernel_rfl) ?_ _
    refine NoPanic.normal ?_
    clear hHeld
    have P4 : w3.drew.heap[w1.heap.size]? = some (.cells #[.int .u8 (x0.toNat : Int), .int .u8 (x1.toNat : Int), .int .u8 (x2.toNat : Int), .int .u32 (g : Int), .slice none 0 0, .slice none 0 0] 27 (0, 0)) := P3
    have b5 : Below w1.heap.size w1 w3.drew := b4.drew
    have z5 : w1.heap.size < w3.drew.heap.size := zP
    clear P3 b4 zP kn3 kn7
    generalize w3.drew = w4 at *
    obtain ⟨m0, m1, m2, m3, m4, m5⟩ := six_cells P4
    go_wp2_with fail
    refine (kh w4).mono ?_
    rintro e w5 ⟨rfl, b6⟩
    have b7 := b5.trans (b6.mono (Nat.le_of_lt z5))
    have P5 := (b6.block _ z5).trans P4
    have z7 := Nat.lt_of_lt_of_le z5 b6.size
    clear kh m0 m1 m2 m3 m4 m5 P4 b5 b6 z5
    have HR : Hid ((bs.drop 11).length = L - 11) := by show _ = _; rw [List.length_drop, HL.out]
    have r1 : L - 11 ≤ cap - 11 := by omega
    have r2 : cap - 11 ≤ 9223372036854775807 := by omega
    generalize L - 11 = R at *
    generalize cap - 11 = RC at *
    have v1 : (n : Int) ≤ (R : Int) := by omega
    have v2 : (n : Int) ≤ (RC : Int) := by omega
    have v3 : ¬ (R : Int) < (n : Int) := by omega
    obtain ⟨o3, ho3⟩ : ∃ o3, (if RC = n then some (⟨b, o2, none⟩ : Addr) else some ⟨b, o2 + n, none⟩) = some ⟨b, o3, none⟩ := by
      by_cases e : RC = n
      · exact ⟨_, by rw [if_pos e]⟩
      · exact ⟨_, by rw [if_neg e]⟩
    generalize bs.drop 11 = T at *
    have s12 : InAt w1 w1.heap.size (.slice (some ⟨b, o2, none⟩) T.length RC) T := by rw [HR.out]; exact s11
    have qA := in_take s12 (n := n) (by rw [HR.out]; omega)
    have qB : InAt w1 w1.heap.size (.slice (some ⟨b, o3, none⟩) (R - n) (RC - n)) (T.drop n) := by
      have h := in_drop s12 (n := n) (ao' := some ⟨b, o3, none⟩) (by rw [HR.out]; omega) (fun hlt _ _ e => by cases e; rw [← ho3, if_neg (by omega)])
      rw [HR.out] at h
      exact h
    clear s11 s12
    have kg := GetOps_any w5 _ _ ((qA.below b7 (Nat.le_refl _)).mono b7.size)
    rw [hpo] at kg
    clear qA hpo
    obtain ⟨m0, m1, m2, m3, m4, m5⟩ := six_cells P5
    go_wp2_with fail
    refine kg.mono ?_
    rintro e w6 ⟨vo, rfl, oo, b8⟩
    obtain ⟨oa, oc, rfl⟩ := own_len oo
    try simp only at oo
    have P6 := (b8.block _ z7).trans P5
    have z8 := Nat.lt_of_lt_of_le z7 b8.size
    have b9 := b7.trans (b8.mono (Nat.le_of_lt z7))
    have k7 := (Kept.refl w1.heap.size w6.heap.size w6).setCell 4 (.slice oa lo.length oc)
    have b10 := b9.trans (k7.below (Nat.le_refl _) (Nat.le_of_lt z8))
    have P7 := six_set4 (.slice oa lo.length oc) P6
    have z9 : w1.heap.size < (w6.setCell ⟨w1.heap.size, 4, none⟩ (.slice oa lo.length oc)).heap.size := Nat.lt_of_lt_of_le z8 k7.size
    have oo7 := ownsRow_setCell_below (a := ⟨w1.heap.size, 4, none⟩) oo z7 (.slice oa lo.length oc)
    have z5 : w1.heap.size < w5.heap.size := z7
    clear kg m0 m1 m2 m3 m4 m5 oo P5 z7 b7 b8 b9 z8 k7
    obtain ⟨m0, m1, m2, m3, m4, m5⟩ := six_cells P6
    have fP := fun i => box_frozen (i := i) P6
    clear P6
    go_wp2_with fail
    generalize w6.setCell ⟨w1.heap.size, 4, none⟩ (.slice oa lo.length oc) = w7 at *
    clear m0 m1 m2 m3 m4 m5 fP
    have kr := GetResults_any w7 _ _ ((qB.below b10 (Nat.le_refl _)).mono b10.size)
    rw [hpr] at kr
    clear qB hpr
    refine kr.mono ?_
    rintro e w8 ⟨vr, rfl, ⟨l, ol, hlr⟩, b11⟩
    try simp only at hlr
    obtain ⟨ra, rc, rfl⟩ := own_len ol.own
    have P8 := (b11.block _ z9).trans P7
    have z10 := Nat.lt_of_lt_of_le z9 b11.size
    have b12 := b10.trans (b11.mono (Nat.le_of_lt z9))
    have oo8 := own_below oo7 b11
    have k9 := (Kept.refl w1.heap.size w8.heap.size w8).setCell 5 (.slice ra l.length rc)
    have b13 := b12.trans (k9.below (Nat.le_refl _) (Nat.le_of_lt z10))
    have oo9 := own_keptR oo8 z5 k9
    have ol9 := ol.kept z9 k9
    have P9 := six_set5 (.slice ra l.length rc) P8
    have x8 := (b12.block _ zX).trans PX
    have x9 := (b13.block _ zX).trans PX
    have hne : ¬ w.heap.size = w1.heap.size := by omega
    clear kr P7 oo7 b10 b11 b12 oo8
    obtain ⟨m0, m1, m2, m3, m4, m5⟩ := six_cells P8
    obtain ⟨y0, y1, y2, y3, y4, y5⟩ := six_cells x8
    have fP := fun i => box_frozen (i := i) P8
    have fX := fun i => box_frozen (i := i) x8
    clear P8 x8
    obtain ⟨x10, k10⟩ := six_store x9 (.int .u8 (x0.toNat : Int)) (.int .u8 (x1.toNat : Int)) (.int .u8 (x2.toNat : Int)) (.int .u32 (g : Int)) (.slice oa lo.length oc) (.slice ra l.length rc)
    have b14 := (B1.trans (b13.mono B1.size)).trans (k10.below (Nat.le_refl _) (Nat.le_of_lt (Nat.lt_of_lt_of_le zX b13.size)))
    have oo10 := own_mono (own_keptR oo9 (Nat.lt_trans zX z5) k10) (Nat.le_of_lt (Nat.lt_trans zX z5))
    have ol10 := (ol9.kept (Nat.lt_trans zX z9) k10).monoB (Nat.le_of_lt (Nat.lt_trans zX z9))
    clear ol ol9 oo9
    go_wp2
    generalize w8.setCell ⟨w1.heap.size, 5, none⟩ (.slice ra l.length rc) = w9 at *
    generalize (((((w9.setCell ⟨w.heap.size, 0, none⟩ (.int .u8 (x0.toNat : Int))).setCell ⟨w.heap.size, 1, none⟩ (.int .u8 (x1.toNat : Int))).setCell ⟨w.heap.size, 2, none⟩ (.int .u8 (x2.toNat : Int))).setCell ⟨w.heap.size, 3, none⟩ (.int .u32 (g : Int))).setCell ⟨w.heap.size, 4, none⟩ (.slice oa lo.length oc)).setCell ⟨w.heap.size, 5, none⟩ (.slice ra l.length rc) = w10 at *
    obtain ⟨t0, t1, t2, t3, t4, t5⟩ := six_cells x10
    refine bodyPost_ret (v := .tuple #[.agg #[.int .u8 (x0.toNat : Int), .int .u8 (x1.toNat : Int), .int .u8 (x2.toNat : Int), .int .u32 (g : Int), .slice oa lo.length oc, .slice ra l.length rc], .int .i64 0]) (by simp [results, Tryz.results17, go_sem, t0, t1, t2, t3, t4, t5]) rfl ⟨_, _, _, _, _, _, rfl, oo10, ⟨l, ol10, hlr⟩, b14⟩
  · go_simp
    have b3 := b0.alloc z1 (.cells #[.int .u8 0, .int .u8 0, .int .u8 0, .int .u32 0, .slice none 0 0, .slice none 0 0] 27)
    refine hK.out _ _ b3 (fun hHeld => ?_)
    clear hK K
    try simp only [Act.put, List.setIfInBounds_toArray, List.set_cons_zero, List.set_cons_succ]
    refine wpAnyH_ready (rs := [11]) (by kernel_rfl) (by simp) ?_
    refine AllReadyH.cons (o := { dst := some 24, op := Go.Op.call { callee := Go.Callee.value (Go.Operand.func 79), args := #[Go.Operand.tmp 23], argTypes := #[30] }, type := 23, pos := _, after := #[{ on := 10, ground := Go.Ground.data }], guard := none }) rfl (fun K hK => ?_) AllReadyH.nil
    go_simp
    refine (kn3 (w1.drew.alloc (.cells #[.int .u8 0, .int .u8 0, .int .u8 0, .int .u32 0, .slice none 0 0, .slice none 0 0] 27)) b3).mono ?_
    rintro e wn ⟨rfl, rfl⟩
    go_wp2_with fail
    refine hK.out _ _ b3 (fun hHeld => ?_)
    clear hK K
    try simp only [Act.put, List.setIfInBounds_toArray, List.set_cons_zero, List.set_cons_succ]
    refine wpAnyH_take (i := 12) (oi := { dst := some 25, op := Go.Op.build 27 #[(0, Go.Operand.tmp 15), (1, Go.Operand.tmp 18), (2, Go.Operand.tmp 21), (3, Go.Operand.tmp 24)], type := 27, pos := _, after := #[{ on := 2, ground := Go.Ground.data }, { on := 5, ground := Go.Ground.data }, { on := 8, ground := Go.Ground.data }, { on := 11, ground := Go.Ground.data }], guard := none }) (v := .agg #[.int .u8 (x0.toNat : Int), .int .u8 (x1.toNat : Int), .int .u8 (x2.toNat : Int), .int .u32 (g : Int), .slice none 0 0, .slice none 0 0]) rfl (by kernel_rfl) (by kernel_rfl) (by kernel_rfl) (fun _ _ _ h => h) (Or.inl ⟨by rfl, fun W hW => by go_simp⟩) (by assumption) ?_
    try simp only [Act.put, List.setIfInBounds_toArray, List.set_cons_zero, List.set_cons_succ]
    refine wpAnyH_ready (rs := [14]) (by kernel_rfl) (by simp) ?_
    refine AllReadyH.cons (o := { dst := none, op := Go.Op.store 27 (Go.Operand.tmp 4) (Go.Operand.tmp 25), type := 0, pos := _, after := #[{ on := 13, ground := Go.Ground.data }, { on := 12, ground := Go.Ground.data }, { on := 11, ground := Go.Ground.chain }, { on := 0, ground := Go.Ground.phase }, { on := 1, ground := Go.Ground.phase }, { on := 2, ground := Go.Ground.phase }, { on := 3, ground := Go.Ground.phase }, { on := 4, ground := Go.Ground.phase }, { on := 5, ground := Go.Ground.phase }, { on := 6, ground := Go.Ground.phase }, { on := 7, ground := Go.Ground.phase }, { on := 8, ground := Go.Ground.phase }, { on := 9, ground := Go.Ground.phase }, { on := 10, ground := Go.Ground.phase }, { on := 11, ground := Go.Ground.phase }, { on := 12, ground := Go.Ground.phase }, { on := 13, ground := Go.Ground.phase }], guard := none }) rfl (fun K hK => ?_) AllReadyH.nil
    go_simp
    have b4 : Below w1.heap.size w1 (w1.alloc (.cells #[.int .u8 (x0.toNat : Int), .int .u8 (x1.toNat : Int), .int .u8 (x2.toNat : Int), .int .u32 (g : Int), .slice none 0 0, .slice none 0 0] 27)).drew := ((Below.refl _ _).alloc (Nat.le_refl _) (.cells #[.int .u8 (x0.toNat : Int), .int .u8 (x1.toNat : Int), .int .u8 (x2.toNat : Int), .int .u32 (g : Int), .slice none 0 0, .slice none 0 0] 27)).drew
    refine hK.out _ _ b4 (fun hHeld => ?_)
    clear hK K
    try simp only [Act.put, List.setIfInBounds_toArray, List.set_cons_zero, List.set_cons_succ]
    refine wpAnyH_done (by kernel_rfl) ?_ _
    refine NoPanic.normal ?_
    clear hHeld
    have P3 : (w1.alloc (.cells #[.int .u8 (x0.toNat : Int), .int .u8 (x1.toNat : Int), .int .u8 (x2.toNat : Int), .int .u32 (g : Int), .slice none 0 0, .slice none 0 0] 27)).drew.heap[w1.heap.size]? = some (.cells #[.int .u8 (x0.toNat : Int), .int .u8 (x1.toNat : Int), .int .u8 (x2.toNat : Int), .int .u32 (g : Int), .slice none 0 0, .slice none 0 0] 27 (0, 0)) := heap_alloc_new w1 _
    have zP : w1.heap.size < (w1.alloc (.cells #[.int .u8 (x0.toNat : Int), .int .u8 (x1.toNat : Int), .int .u8 (x2.toNat : Int), .int .u32 (g : Int), .slice none 0 0, .slice none 0 0] 27)).drew.heap.size := by show _ < (w1.alloc _).heap.size; simp
    generalize (w1.alloc (.cells #[.int .u8 (x0.toNat : Int), .int .u8 (x1.toNat : Int), .int .u8 (x2.toNat : Int), .int .u32 (g : Int), .slice none 0 0, .slice none 0 0] 27)).drew = w3 at *
    clear b0 z1
    go_wp2_with fail
    refine wp_region_noPanic ?_
    refine wp_region_held_drew (S := fun _ => True) (by kernel_rfl) trivial (fun hHeld => ?_)
    refine wpAnyH_take (i := 0) (oi := { dst := some 26, op := Go.Op.move (Go.Operand.tmp 0), type := 30, pos := _, after := #[], guard := none }) (v := .slice (some ⟨b, off, none⟩) L cap) rfl (by kernel_rfl) (by kernel_rfl) (by kernel_rfl) (fun _ _ _ h => h) (Or.inl ⟨by rfl, fun W hW => by go_simp⟩) (by assumption) ?_
    try simp only [Act.put, List.setIfInBounds_toArray, List.set_cons_zero, List.set_cons_succ]
    refine wpAnyH_take (i := 1) (oi := { dst := some 27, op := Go.Op.slice 30 (Go.Operand.tmp 26) (some (Go.Operand.const (Go.Value.int Go.IntKind.i64 7))) (some (Go.Operand.const (Go.Value.int Go.IntKind.i64 11))) none, type := 30, pos := _, after := #[{ on := 0, ground := Go.Ground.data }], guard := none }) (v := .slice (some ⟨b, off + 7, none⟩) 4 (cap - 7)) rfl (by kernel_rfl) (by kernel_rfl) (by kernel_rfl) (fun _ _ _ h => h) (Or.inl ⟨by rfl, fun W hW => by go_simp⟩) (by assumption) ?_
    try simp only [Act.put, List.setIfInBounds_toArray, List.set_cons_zero, List.set_cons_succ]
    refine wpAnyH_take (i := 3) (oi := { dst := some 29, op := Go.Op.move (Go.Operand.tmp 0), type := 30, pos := _, after := #[], guard := none }) (v := .slice (some ⟨b, off, none⟩) L cap) rfl (by kernel_rfl) (by kernel_rfl) (by kernel_rfl) (fun _ _ _ h => h) (Or.inl ⟨by rfl, fun W hW => by go_simp⟩) (by assumption) ?_
    try simp only [Act.put, List.setIfInBounds_toArray, List.set_cons_zero, List.set_cons_succ]
    refine wpAnyH_take (i := 4) (oi := { dst := some 30, op := Go.Op.slice 30 (Go.Operand.tmp 29) (some (Go.Operand.const (Go.Value.int Go.IntKind.i64 11))) none none, type := 30, pos := _, after := #[{ on := 3, ground := Go.Ground.data }], guard := none }) (v := .slice (some ⟨b, o2, none⟩) (L - 11) (cap - 11)) rfl (by kernel_rfl) (by kernel_rfl) (by kernel_rfl) (fun _ _ _ h => h) (Or.inl ⟨by rfl, fun W hW => by go_simp⟩) (by assumption) ?_
    try simp only [Act.put, List.setIfInBounds_toArray, List.set_cons_zero, List.set_cons_succ]
    refine wpAnyH_ready (rs := [2]) (by kernel_rfl) (by simp) ?_
    refine AllReadyH.cons (o := { dst := some 28, op := Go.Op.call { callee := Go.Callee.value (Go.Operand.func 79), args := #[Go.Operand.tmp 27], argTypes := #[30] }, type := 23, pos := _, after := #[{ on := 1, ground := Go.Ground.data }], guard := none }) rfl (fun K hK => ?_) AllReadyH.nil
    go_simp
    refine (kn7 w3.drew b4.drew).mono ?_
    rintro e wn ⟨rfl, rfl⟩
    go_wp2_with fail
    refine hK.out _ _ trivial (fun hHeld => ?_)
    clear hK K
    try simp only [Act.put, List.setIfInBounds_toArray, List.set_cons_zero, List.set_cons_succ]
    refine wpAnyH_take (i := 5) (oi := { dst := some 5, op := Go.Op.assign (Go.Operand.tmp 28), type := 23, pos := _, after := #[{ on := 2, ground := Go.Ground.data }, { on := 2, ground := Go.Ground.chain }, { on := 0, ground := Go.Ground.phase }, { on := 1, ground := Go.Ground.phase }, { on := 2, ground := Go.Ground.phase }, { on := 3, ground := Go.Ground.textOnly Go.Departure.lateStores }, { on := 4, ground := Go.Ground.textOnly Go.Departure.lateStoresUnsure }], guard := none }) (v := .int .u32 (n : Int)) rfl (by kernel_rfl) (by kernel_rfl) (by kernel_rfl) (fun _ _ _ h => h) (Or.inl ⟨by rfl, fun W hW => by go_simp⟩) (by assumption) ?_
    try simp only [Act.put, List.setIfInBounds_toArray, List.set_cons_zero, List.set_cons_succ]
    refine wpAnyH_take (i := 6) (oi := { dst := some 6, op := Go.Op.assign (Go.Operand.tmp 30), type := 30, pos := _, after := #[{ on := 4, ground := Go.Ground.data }, { on := 5, ground := Go.Ground.chain }, { on := 0, ground := Go.Ground.phase }, { on := 1, ground := Go.Ground.phase }, { on := 2, ground := Go.Ground.phase }, { on := 3, ground := Go.Ground.phase }, { on := 4, ground := Go.Ground.phase }, { on := 5, ground := Go.Ground.phase }], guard := none }) (v := .slice (some ⟨b, o2, none⟩) (L - 11) (cap - 11)) rfl (by kernel_rfl) (by kernel_rfl) (by kernel_rfl) (fun _ _ _ h => h) (Or.inl ⟨by rfl, fun W hW => by go_simp⟩) (by assumption) ?_
    try simp only [Act.put, List.setIfInBounds_toArray, List.set_cons_zero, List.set_cons_succ]
    refine wpAnyH_done (by kernel_rfl) ?_ _
    refine NoPanic.normal ?_
    clear hHeld
    have P4 : w3.drew.heap[w1.heap.size]? = some (.cells #[.int .u8 (x0.toNat : Int), .int .u8 (x1.toNat : Int), .int .u8 (x2.toNat : Int), .int .u32 (g : Int), .slice none 0 0, .slice none 0 0] 27 (0, 0)) := P3
    have b5 : Below w1.heap.size w1 w3.drew := b4.drew
    have z5 : w1.heap.size < w3.drew.heap.size := zP
    clear P3 b4 zP kn3 kn7
    generalize w3.drew = w4 at *
    obtain ⟨m0, m1, m2, m3, m4, m5⟩ := six_cells P4
    go_wp2_with fail
    refine (kh w4).mono ?_
    rintro e w5 ⟨rfl, b6⟩
    have b7 := b5.trans (b6.mono (Nat.le_of_lt z5))
    have P5 := (b6.block _ z5).trans P4
    have z7 := Nat.lt_of_lt_of_le z5 b6.size
    clear kh m0 m1 m2 m3 m4 m5 P4 b5 b6 z5
    have HR : Hid ((bs.drop 11).length = L - 11) := by show _ = _; rw [List.length_drop, HL.out]
    have r1 : L - 11 ≤ cap - 11 := by omega
    have r2 : cap - 11 ≤ 9223372036854775807 := by omega
    generalize L - 11 = R at *
    generalize cap - 11 = RC at *
    have v1 : (n : Int) ≤ (R : Int) := by omega
    have v2 : (n : Int) ≤ (RC : Int) := by omega
    have v3 : ¬ (R : Int) < (n : Int) := by omega
    obtain ⟨o3, ho3⟩ : ∃ o3, (if RC = n then some (⟨b, o2, none⟩ : Addr) else some ⟨b, o2 + n, none⟩) = some ⟨b, o3, none⟩ := by
      by_cases e : RC = n
      · exact ⟨_, by rw [if_pos e]⟩
      · exact ⟨_, by rw [if_neg e]⟩
    generalize bs.drop 11 = T at *
    have s12 : InAt w1 w1.heap.size (.slice (some ⟨b, o2, none⟩) T.length RC) T := by rw [HR.out]; exact s11
    have qA := in_take s12 (n := n) (by rw [HR.out]; omega)
    have qB : InAt w1 w1.heap.size (.slice (some ⟨b, o3, none⟩) (R - n) (RC - n)) (T.drop n) := by
      have h := in_drop s12 (n := n) (ao' := some ⟨b, o3, none⟩) (by rw [HR.out]; omega) (fun hlt _ _ e => by cases e; rw [← ho3, if_neg (by omega)])
      rw [HR.out] at h
      exact h
    clear s11 s12
    have kg := GetOps_any w5 _ _ ((qA.below b7 (Nat.le_refl _)).mono b7.size)
    rw [hpo] at kg
    clear qA hpo
    obtain ⟨m0, m1, m2, m3, m4, m5⟩ := six_cells P5
    go_wp2_with fail
    refine kg.mono ?_
    rintro e w6 ⟨vo, rfl, oo, b8⟩
    obtain ⟨oa, oc, rfl⟩ := own_len oo
    try simp only at oo
    have P6 := (b8.block _ z7).trans P5
    have z8 := Nat.lt_of_lt_of_le z7 b8.size
    have b9 := b7.trans (b8.mono (Nat.le_of_lt z7))
    have k7 := (Kept.refl w1.heap.size w6.heap.size w6).setCell 4 (.slice oa lo.length oc)
    have b10 := b9.trans (k7.below (Nat.le_refl _) (Nat.le_of_lt z8))
    have P7 := six_set4 (.slice oa lo.length oc) P6
    have z9 : w1.heap.size < (w6.setCell ⟨w1.heap.size, 4, none⟩ (.slice oa lo.length oc)).heap.size := Nat.lt_of_lt_of_le z8 k7.size
    have oo7 := ownsRow_setCell_below (a := ⟨w1.heap.size, 4, none⟩) oo z7 (.slice oa lo.length oc)
    have z5 : w1.heap.size < w5.heap.size := z7
    clear kg m0 m1 m2 m3 m4 m5 oo P5 z7 b7 b8 b9 z8 k7
    obtain ⟨m0, m1, m2, m3, m4, m5⟩ := six_cells P6
    have fP := fun i => box_frozen (i := i) P6
    clear P6
    go_wp2_with fail
    generalize w6.setCell ⟨w1.heap.size, 4, none⟩ (.slice oa lo.length oc) = w7 at *
    clear m0 m1 m2 m3 m4 m5 fP
    have kr := GetResults_any w7 _ _ ((qB.below b10 (Nat.le_refl _)).mono b10.size)
    rw [hpr] at kr
    clear qB hpr
    refine kr.mono ?_
    rintro e w8 ⟨vr, rfl, ⟨l, ol, hlr⟩, b11⟩
    try simp only at hlr
    obtain ⟨ra, rc, rfl⟩ := own_len ol.own
    have P8 := (b11.block _ z9).trans P7
    have z10 := Nat.lt_of_lt_of_le z9 b11.size
    have b12 := b10.trans (b11.mono (Nat.le_of_lt z9))
    have oo8 := own_below oo7 b11
    have k9 := (Kept.refl w1.heap.size w8.heap.size w8).setCell 5 (.slice ra l.length rc)
    have b13 := b12.trans (k9.below (Nat.le_refl _) (Nat.le_of_lt z10))
    have oo9 := own_keptR oo8 z5 k9
    have ol9 := ol.kept z9 k9
    have P9 := six_set5 (.slice ra l.length rc) P8
    have x8 := (b12.block _ zX).trans PX
    have x9 := (b13.block _ zX).trans PX
    have hne : ¬ w.heap.size = w1.heap.size := by omega
    clear kr P7 oo7 b10 b11 b12 oo8
    obtain ⟨m0, m1, m2, m3, m4, m5⟩ := six_cells P8
    obtain ⟨y0, y1, y2, y3, y4, y5⟩ := six_cells x8
    have fP := fun i => box_frozen (i := i) P8
    have fX := fun i => box_frozen (i := i) x8
    clear P8 x8
    obtain ⟨x10, k10⟩ := six_store x9 (.int .u8 (x0.toNat : Int)) (.int .u8 (x1.toNat : Int)) (.int .u8 (x2.toNat : Int)) (.int .u32 (g : Int)) (.slice oa lo.length oc) (.slice ra l.length rc)
    have b14 := (B1.trans (b13.mono B1.size)).trans (k10.below (Nat.le_refl _) (Nat.le_of_lt (Nat.lt_of_lt_of_le zX b13.size)))
    have oo10 := own_mono (own_keptR oo9 (Nat.lt_trans zX z5) k10) (Nat.le_of_lt (Nat.lt_trans zX z5))
    have ol10 := (ol9.kept (Nat.lt_trans zX z9) k10).monoB (Nat.le_of_lt (Nat.lt_trans zX z9))
    clear ol ol9 oo9
    go_wp2
    generalize w8.setCell ⟨w1.heap.size, 5, none⟩ (.slice ra l.length rc) = w9 at *
    generalize (((((w9.setCell ⟨w.heap.size, 0, none⟩ (.int .u8 (x0.toNat : Int))).setCell ⟨w.heap.size, 1, none⟩ (.int .u8 (x1.toNat : Int))).setCell ⟨w.heap.size, 2, none⟩ (.int .u8 (x2.toNat : Int))).setCell ⟨w.heap.size, 3, none⟩ (.int .u32 (g : Int))).setCell ⟨w.heap.size, 4, none⟩ (.slice oa lo.length oc)).setCell ⟨w.heap.size, 5, none⟩ (.slice ra l.length rc) = w10 at *
    obtain ⟨t0, t1, t2, t3, t4, t5⟩ := six_cells x10
    refine bodyPost_ret (v := .tuple #[.agg #[.int .u8 (x0.toNat : Int), .int .u8 (x1.toNat : Int), .int .u8 (x2.toNat : Int), .int .u32 (g : Int), .slice oa lo.length oc, .slice ra l.length rc], .int .i64 0]) (by simp [results, Tryz.results17, go_sem, t0, t1, t2, t3, t4, t5]) rfl ⟨_, _, _, _, _, _, rfl, oo10, ⟨l, ol10, hlr⟩, b14⟩
end Go.Proofs.YtcgecdiaddcfkaaGreatDoor
