/- Texts of this proof, laid into one. -/
import Derived.Test.YtcgecdiaddcfkaaGreatDoorM19
import Derived.Deep.RegionHeld3
import Derived.Deep.QuietTactic
import Derived.BigQuiet
import Derived.Test.YtcgecdiaddcfkaaGreatDoorPStepsM
import Derived.Test.YtcgecdiaddcfkaaGreatDoorM17
/- The walks of the document's own Digits. -/
set_option linter.unusedSimpArgs false
set_option linter.unusedVariables false
namespace Go.Proofs.YtcgecdiaddcfkaaGreatDoor
open Go.RowKit

/-- One digit, as a text. -/
def digitB (d : Nat) : ByteArray := ⟨#[UInt8.ofNat (48 + d)]⟩
/-- The ten digits. -/
def tenB : ByteArray := ⟨#[48, 49, 50, 51, 52, 53, 54, 55, 56, 57]⟩
theorem ten_at : ∀ d : Nat, d < 10 → tenB.extract d (d + 1) = digitB d := by
  intro d hd
  have : ∀ x : Fin 10, (tenB.extract x.val (x.val + 1)).data = (digitB x.val).data := by decide
  exact ByteArray.ext (this ⟨d, hd⟩)
/-- A number's numeral. -/
def decB (n : Nat) : ByteArray := ⟨(Lib.decDigits n).toArray⟩
theorem decB_one {n : Nat} (h : n < 10) : decB n = digitB n := by unfold decB digitB; rw [Lib.decDigits_one h]
theorem decB_step {n : Nat} (h : ¬ n < 10) : decB n = decB (n / 10) ++ digitB (n % 10) := by
  unfold decB digitB
  rw [dec_step h]
  apply ByteArray.ext
  rw [ByteArray.data_append]
  simp
theorem decB_size {n : Nat} (h : n < 4294967296) : (decB n).size ≤ 20 := numB_size h

set_option maxHeartbeats 4000000 in
set_option maxRecDepth 1000000 in
theorem digits_one (n : Nat) (w : World) (h : n < 10) :
    Calls Tryz.prog 37 #[.int .u32 n] w fun e w' => e = .returned (.string (decB n)) ∧ ∃ m, w' = w.drewN m := by
  have H : Hid _ := (ten_at n h).trans (decB_one h).symm
  have hsl : ∀ W : World, (Instr.slice 9 (.string tenB) (some (.int .u32 n)) (some (.int .u32 ((n : Int) + 1))) none).run Tryz.prog W = .ok (.string (tenB.extract n (n + 1))) W := fun W => by
    have e : tenB.size = 10 := rfl
    rw [run_slice_string W 9 tenB .u32 .u32 n ((n : Int) + 1) Tryz.underlying9 (by omega) (by omega) (by rw [e]; omega)]
    simp
  unfold tenB at hsl
  go_enter Tryz.func37, Tryz.ntmps37
  go_wp2
  go_ret
  refine ⟨?_, 0, rfl⟩
  rw [← H.out]
  rfl

theorem ten_run (d : Nat) (hd : d < 10) (W : World) : (Instr.slice 9 (.string ⟨#[48, 49, 50, 51, 52, 53, 54, 55, 56, 57]⟩) (some (.int .u32 d)) (some (.int .u32 ((d : Int) + 1))) none).run Tryz.prog W = .ok (.string (digitB d)) W := by
  rw [← ten_at d hd]
  have e : tenB.size = 10 := rfl
  show (Instr.slice 9 (.string tenB) (some (.int .u32 d)) (some (.int .u32 ((d : Int) + 1))) none).run Tryz.prog W = _
  rw [run_slice_string W 9 tenB .u32 .u32 d ((d : Int) + 1) Tryz.underlying9 (by omega) (by omega) (by rw [e]; omega)]
  simp

set_option maxHeartbeats 4000000 in
set_option maxRecDepth 1000000 in
theorem digits_more (n q r : Nat) (w : World) (h : ¬ n < 10) (h32 : n < 4294967296) (hq0 : q = n / 10) (hr0 : r = n % 10)
    (ih : ∀ W : World, Calls Tryz.prog 37 #[.int .u32 q] W fun e w' => e = .returned (.string (decB q)) ∧ ∃ m, w' = W.drewN m) :
    Calls Tryz.prog 37 #[.int .u32 n] w fun e w' => e = .returned (.string (decB n)) ∧ ∃ m, w' = w.drewN m := by
  have H := decB_step h
  rw [← hq0, ← hr0] at H
  rw [H]
  have hs1 := decB_size (n := q) (by omega)
  have hten := ten_run r (by omega)
  have hadd : ∀ W : World, (Op.stringOp .add (decB q) (digitB r)).run Tryz.prog W = .ok (.string (decB q ++ digitB r)) W := fun W => run_string_add_sum W _ _ (by show (decB q).size + 1 ≤ _; omega)
  generalize decB q ++ digitB r = D at *
  have hq : IntKind.u32.wrap ((n : Int) / 10) = (q : Int) := by rw [IntKind.wrap_u32]; omega
  have hr : (n : Int).tmod 10 = (r : Int) := by rw [Int.tmod_eq_emod_of_nonneg (by omega)]; omega
  have hr1 : IntKind.u32.wrap ((r : Int) + 1) = (r : Int) + 1 := by rw [IntKind.wrap_u32]; omega
  have hge : ¬ ((n : Int) < 10) := by omega
  clear hs1 hq0 hr0 H h h32
  go_enter Tryz.func37, Tryz.ntmps37
  go_wp2_with fail
  go_region_held3 (fun w' => ∃ m, w' = w.drewN m) (first | assumption | exact ⟨1, rfl⟩ | exact ⟨_, World.drewN_drew _ _⟩ | exact ⟨_, rfl⟩)
      (first
      | (go_at_call 37; refine (ih _).mono ?_; rintro e w' ⟨rfl, m, rfl⟩))
  all_goals
    go_wp2
    go_ret
    exact ⟨rfl, by first | assumption | exact ⟨_, World.drewN_drew _ _⟩ | exact ⟨_, rfl⟩⟩

theorem digits_any : ∀ (b n : Nat) (w : World), n < b → n < 4294967296 →
    Calls Tryz.prog 37 #[.int .u32 n] w fun e w' => e = .returned (.string (decB n)) ∧ ∃ m, w' = w.drewN m
  | 0, n, w, h, _ => absurd h (Nat.not_lt_zero _)
  | b + 1, n, w, h, h32 => by
    by_cases h10 : n < 10
    · exact digits_one n w h10
    · exact digits_more n (n / 10) (n % 10) w h10 h32 rfl rfl (fun W => digits_any b (n / 10) W (by omega) (by omega))

end Go.Proofs.YtcgecdiaddcfkaaGreatDoor
/- The walk of the document's Text. -/
set_option linter.unusedSimpArgs false
set_option linter.unusedVariables false
namespace Go.Proofs.YtcgecdiaddcfkaaGreatDoor
open Go.RowKit

theorem add_run (a b : ByteArray) (h : a.size + b.size ≤ 1000) (W : World) : (Op.stringOp .add a b).run Tryz.prog W = .ok (.string (a ++ b)) W := run_string_add_sum W _ _ (by omega)
set_option maxHeartbeats 2000000 in
set_option maxRecDepth 1000000 in
theorem refText_any7 (w : World) (s f t g : Nat) (h1 : s < 256) (h2 : f < 256) (h3 : t < 256) (h4 : g < 4294967296) (ao bo : Option Addr) (na ca nb cb : Nat) :
    Calls Tryz.prog 11 #[.agg #[.int .u8 (s : Int), .int .u8 (f : Int), .int .u8 (t : Int), .int .u32 (g : Int), .slice ao na ca, .slice bo nb cb]] w fun e w' => e = .returned (.string (lineN s f t g 3)) ∧ Below w.heap.size w w' := by
  have kd : ∀ n : Nat, n < 4294967296 → ∀ W, Calls Tryz.prog 37 #[.int .u32 (n : Int)] W fun e w' => e = .returned (.string (numB n)) ∧ Below W.heap.size W w' := fun n hn W => (digits_any (n + 1) n W (by omega) hn).mono (fun e w' ⟨a, m, b⟩ => ⟨a, b ▸ below_drewN W m⟩)
  have n1 := numB_size (n := s) (by omega)
  have n2 := numB_size (n := f) (by omega)
  have n3 := numB_size (n := t) (by omega)
  have n4 := numB_size (n := g) h4
  have hb1 : (s : Int) < 256 := by omega
  have hb2 : (f : Int) < 256 := by omega
  have hb3 : (t : Int) < 256 := by omega
  have hb4 : (g : Int) < 4294967296 := by omega
  have z1 : spB.size = 1 := rfl
  have q0 := add_run (numB s) spB (by omega)
  have q1 := add_run (numB s ++ spB) (numB f) (by simp only [ByteArray.size_append]; omega)
  have q2 := add_run (numB s ++ spB ++ numB f) spB (by simp only [ByteArray.size_append]; omega)
  have q3 := add_run (numB s ++ spB ++ numB f ++ spB) (numB t) (by simp only [ByteArray.size_append]; omega)
  have q4 := add_run (numB s ++ spB ++ numB f ++ spB ++ numB t) spB (by simp only [ByteArray.size_append]; omega)
  have q5 := add_run (numB s ++ spB ++ numB f ++ spB ++ numB t ++ spB) (numB g) (by simp only [ByteArray.size_append]; omega)
  obtain ⟨X0, e0⟩ : ∃ X, numB s ++ spB = X := ⟨_, rfl⟩
  rw [e0] at q0 q1 q2 q3 q4 q5
  obtain ⟨X1, e1⟩ : ∃ X, X0 ++ numB f = X := ⟨_, rfl⟩
  rw [e1] at q1 q2 q3 q4 q5
  obtain ⟨X2, e2⟩ : ∃ X, X1 ++ spB = X := ⟨_, rfl⟩
  rw [e2] at q2 q3 q4 q5
  obtain ⟨X3, e3⟩ : ∃ X, X2 ++ numB t = X := ⟨_, rfl⟩
  rw [e3] at q3 q4 q5
  obtain ⟨X4, e4⟩ : ∃ X, X3 ++ spB = X := ⟨_, rfl⟩
  rw [e4] at q4 q5
  obtain ⟨X5, e5⟩ : ∃ X, X4 ++ numB g = X := ⟨_, rfl⟩
  rw [e5] at q5
  have hX : Hid (X5 = lineN s f t g 3) := by
    show X5 = numB s ++ (spB ++ numB f) ++ (spB ++ numB t) ++ (spB ++ numB g)
    rw [← e5, ← e4, ← e3, ← e2, ← e1, ← e0]
    apply ByteArray.ext
    simp only [ByteArray.data_append, Array.append_assoc]
  have a0 : ∀ W : World, (Op.stringOp .add (numB s) ⟨#[32]⟩).run Tryz.prog W = .ok (.string X0) W := q0
  have a1 := q1
  have a2 : ∀ W : World, (Op.stringOp .add X1 ⟨#[32]⟩).run Tryz.prog W = .ok (.string X2) W := q2
  have a3 := q3
  have a4 : ∀ W : World, (Op.stringOp .add X3 ⟨#[32]⟩).run Tryz.prog W = .ok (.string X4) W := q4
  have a5 := q5
  clear q0 q1 q2 q3 q4 q5 e0 e1 e2 e3 e4 e5 n1 n2 n3 n4 z1
  obtain ⟨w1, hw1⟩ : ∃ w1, w1 = w.alloc (.cells #[.int .u8 (s : Int), .int .u8 (f : Int), .int .u8 (t : Int), .int .u32 (g : Int), .slice ao na ca, .slice bo nb cb] 27) := ⟨_, rfl⟩
  have B1 : Below w.heap.size w w1 := by rw [hw1]; exact below_one w _
  have PX : w1.heap[w.heap.size]? = some (.cells #[.int .u8 (s : Int), .int .u8 (f : Int), .int .u8 (t : Int), .int .u32 (g : Int), .slice ao na ca, .slice bo nb cb] 27 (0, 0)) := by rw [hw1]; exact heap_alloc_new w _
  have zX : w.heap.size < w1.heap.size := by rw [hw1]; simp
  have b0 : Below w1.heap.size w1 w1.drew := ⟨rfl, rfl, rfl, Nat.le_refl _, fun _ _ => rfl⟩
  go_enter Tryz.func11, Tryz.ntmps11
  go_wp2_with fail
  rw [← hw1]
  clear hw1
  refine wp_region_noPanic ?_
  refine wp_region_held_drew (S := fun W => Below w1.heap.size w1 W) (by kernel_rfl) b0 (fun hHeld => ?_)
  refine wpAnyH_take (i := 0) (oi := { dst := some 3, op := Go.Op.fieldAddr 27 (Go.Operand.tmp 1) 0, type := 0, pos := _, after := #[], guard := none }) (v := .pointer (some ⟨w.heap.size, 0, none⟩)) rfl (by kernel_rfl) (by kernel_rfl) (by kernel_rfl) (fun _ _ _ h => h) (Or.inl ⟨by rfl, fun W hW => by go_simp⟩) (by assumption) ?_
  try simp only [Act.put, List.setIfInBounds_toArray, List.set_cons_zero, List.set_cons_succ]
  refine wpAnyH_take (i := 1) (oi := { dst := some 4, op := Go.Op.load 22 (Go.Operand.tmp 3), type := 22, pos := _, after := #[{ on := 0, ground := Go.Ground.data }], guard := none }) (v := .int .u8 (s : Int)) rfl (by kernel_rfl) (by kernel_rfl) (by kernel_rfl) (fun _ _ _ h => h) (Or.inl ⟨by rfl, fun W hW => by obtain ⟨t0, t1, t2, t3, t4, t5⟩ := six_cells ((hW.block _ zX).trans PX); go_simp⟩) (by assumption) ?_
  try simp only [Act.put, List.setIfInBounds_toArray, List.set_cons_zero, List.set_cons_succ]
  refine wpAnyH_take (i := 2) (oi := { dst := some 5, op := Go.Op.convert 22 23 (Go.Operand.tmp 4), type := 23, pos := _, after := #[{ on := 1, ground := Go.Ground.data }], guard := none }) (v := .int .u32 (s : Int)) rfl (by kernel_rfl) (by kernel_rfl) (by kernel_rfl) (fun _ _ _ h => h) (Or.inl ⟨by rfl, fun W hW => by have h1 := (show IntKind.u32.wrap (s : Int) = (s : Int) by rw [IntKind.wrap_u32]; omega); go_simp⟩) (by assumption) ?_
  try simp only [Act.put, List.setIfInBounds_toArray, List.set_cons_zero, List.set_cons_succ]
  refine wpAnyH_take (i := 5) (oi := { dst := some 8, op := Go.Op.fieldAddr 27 (Go.Operand.tmp 1) 1, type := 0, pos := _, after := #[], guard := none }) (v := .pointer (some ⟨w.heap.size, 1, none⟩)) rfl (by kernel_rfl) (by kernel_rfl) (by kernel_rfl) (fun _ _ _ h => h) (Or.inl ⟨by rfl, fun W hW => by go_simp⟩) (by assumption) ?_
  try simp only [Act.put, List.setIfInBounds_toArray, List.set_cons_zero, List.set_cons_succ]
  refine wpAnyH_take (i := 6) (oi := { dst := some 9, op := Go.Op.load 5 (Go.Operand.tmp 8), type := 5, pos := _, after := #[{ on := 5, ground := Go.Ground.data }], guard := none }) (v := .int .u8 (f : Int)) rfl (by kernel_rfl) (by kernel_rfl) (by kernel_rfl) (fun _ _ _ h => h) (Or.inl ⟨by rfl, fun W hW => by obtain ⟨t0, t1, t2, t3, t4, t5⟩ := six_cells ((hW.block _ zX).trans PX); go_simp⟩) (by assumption) ?_
  try simp only [Act.put, List.setIfInBounds_toArray, List.set_cons_zero, List.set_cons_succ]
  refine wpAnyH_take (i := 7) (oi := { dst := some 10, op := Go.Op.convert 5 23 (Go.Operand.tmp 9), type := 23, pos := _, after := #[{ on := 6, ground := Go.Ground.data }], guard := none }) (v := .int .u32 (f : Int)) rfl (by kernel_rfl) (by kernel_rfl) (by kernel_rfl) (fun _ _ _ h => h) (Or.inl ⟨by rfl, fun W hW => by have h1 := (show IntKind.u32.wrap (f : Int) = (f : Int) by rw [IntKind.wrap_u32]; omega); go_simp⟩) (by assumption) ?_
  try simp only [Act.put, List.setIfInBounds_toArray, List.set_cons_zero, List.set_cons_succ]
  refine wpAnyH_take (i := 11) (oi := { dst := some 14, op := Go.Op.fieldAddr 27 (Go.Operand.tmp 1) 2, type := 0, pos := _, after := #[], guard := none }) (v := .pointer (some ⟨w.heap.size, 2, none⟩)) rfl (by kernel_rfl) (by kernel_rfl) (by kernel_rfl) (fun _ _ _ h => h) (Or.inl ⟨by rfl, fun W hW => by go_simp⟩) (by assumption) ?_
  try simp only [Act.put, List.setIfInBounds_toArray, List.set_cons_zero, List.set_cons_succ]
  refine wpAnyH_take (i := 12) (oi := { dst := some 15, op := Go.Op.load 5 (Go.Operand.tmp 14), type := 5, pos := _, after := #[{ on := 11, ground := Go.Ground.data }], guard := none }) (v := .int .u8 (t : Int)) rfl (by kernel_rfl) (by kernel_rfl) (by kernel_rfl) (fun _ _ _ h => h) (Or.inl ⟨by rfl, fun W hW => by obtain ⟨t0, t1, t2, t3, t4, t5⟩ := six_cells ((hW.block _ zX).trans PX); go_simp⟩) (by assumption) ?_
  try simp only [Act.put, List.setIfInBounds_toArray, List.set_cons_zero, List.set_cons_succ]
  refine wpAnyH_take (i := 13) (oi := { dst := some 16, op := Go.Op.convert 5 23 (Go.Operand.tmp 15), type := 23, pos := _, after := #[{ on := 12, ground := Go.Ground.data }], guard := none }) (v := .int .u32 (t : Int)) rfl (by kernel_rfl) (by kernel_rfl) (by kernel_rfl) (fun _ _ _ h => h) (Or.inl ⟨by rfl, fun W hW => by have h1 := (show IntKind.u32.wrap (t : Int) = (t : Int) by rw [IntKind.wrap_u32]; omega); go_simp⟩) (by assumption) ?_
  try simp only [Act.put, List.setIfInBounds_toArray, List.set_cons_zero, List.set_cons_succ]
  refine wpAnyH_take (i := 17) (oi := { dst := some 20, op := Go.Op.fieldAddr 27 (Go.Operand.tmp 1) 3, type := 0, pos := _, after := #[], guard := none }) (v := .pointer (some ⟨w.heap.size, 3, none⟩)) rfl (by kernel_rfl) (by kernel_rfl) (by kernel_rfl) (fun _ _ _ h => h) (Or.inl ⟨by rfl, fun W hW => by go_simp⟩) (by assumption) ?_
  try simp only [Act.put, List.setIfInBounds_toArray, List.set_cons_zero, List.set_cons_succ]
  refine wpAnyH_take (i := 18) (oi := { dst := some 21, op := Go.Op.load 23 (Go.Operand.tmp 20), type := 23, pos := _, after := #[{ on := 17, ground := Go.Ground.data }], guard := none }) (v := .int .u32 (g : Int)) rfl (by kernel_rfl) (by kernel_rfl) (by kernel_rfl) (fun _ _ _ h => h) (Or.inl ⟨by rfl, fun W hW => by obtain ⟨t0, t1, t2, t3, t4, t5⟩ := six_cells ((hW.block _ zX).trans PX); go_simp⟩) (by assumption) ?_
  try simp only [Act.put, List.setIfInBounds_toArray, List.set_cons_zero, List.set_cons_succ]
  refine wpAnyH_ready (rs := [3]) (by kernel_rfl) (by simp) ?_
  refine AllReadyH.cons (o := { dst := some 6, op := Go.Op.call { callee := Go.Callee.value (Go.Operand.func 37), args := #[Go.Operand.tmp 5], argTypes := #[23] }, type := 9, pos := _, after := #[{ on := 2, ground := Go.Ground.data }], guard := none }) rfl (fun K hK => ?_) AllReadyH.nil
  go_simp
  refine (kd s (by omega) w1.drew).mono ?_
  rintro e wt1 ⟨rfl, bt1⟩
  have Bt1 := b0.trans (bt1.mono b0.size)
  go_wp2_with fail
  refine hK.out _ _ Bt1 (fun hHeld => ?_)
  clear hK K bt1
  try simp only [Act.put, List.setIfInBounds_toArray, List.set_cons_zero, List.set_cons_succ]
  refine wpAnyH_take (i := 4) (oi := { dst := some 7, op := Go.Op.binOp Go.BinOp.add 9 (Go.Operand.tmp 6) (Go.Operand.const (Go.Value.string { data := #[32] })) 9, type := 9, pos := _, after := #[{ on := 3, ground := Go.Ground.data }], guard := none }) (v := .string X0) rfl (by kernel_rfl) (by kernel_rfl) (by kernel_rfl) (fun _ _ _ h => h) (Or.inl ⟨by rfl, fun W hW => by have h1 := a0 W; go_simp⟩) (by assumption) ?_
  try simp only [Act.put, List.setIfInBounds_toArray, List.set_cons_zero, List.set_cons_succ]
  refine wpAnyH_ready (rs := [8]) (by kernel_rfl) (by simp) ?_
  refine AllReadyH.cons (o := { dst := some 11, op := Go.Op.call { callee := Go.Callee.value (Go.Operand.func 37), args := #[Go.Operand.tmp 10], argTypes := #[23] }, type := 9, pos := _, after := #[{ on := 7, ground := Go.Ground.data }, { on := 3, ground := Go.Ground.chain }], guard := none }) rfl (fun K hK => ?_) AllReadyH.nil
  go_simp
  refine (kd f (by omega) wt1).mono ?_
  rintro e wt2 ⟨rfl, bt2⟩
  have Bt2 := Bt1.trans (bt2.mono Bt1.size)
  go_wp2_with fail
  refine hK.out _ _ Bt2 (fun hHeld => ?_)
  clear hK K bt2
  try simp only [Act.put, List.setIfInBounds_toArray, List.set_cons_zero, List.set_cons_succ]
  refine wpAnyH_take (i := 9) (oi := { dst := some 12, op := Go.Op.binOp Go.BinOp.add 9 (Go.Operand.tmp 7) (Go.Operand.tmp 11) 9, type := 9, pos := _, after := #[{ on := 4, ground := Go.Ground.data }, { on := 8, ground := Go.Ground.data }], guard := none }) (v := .string X1) rfl (by kernel_rfl) (by kernel_rfl) (by kernel_rfl) (fun _ _ _ h => h) (Or.inl ⟨by rfl, fun W hW => by have h1 := a1 W; go_simp⟩) (by assumption) ?_
  try simp only [Act.put, List.setIfInBounds_toArray, List.set_cons_zero, List.set_cons_succ]
  refine wpAnyH_take (i := 10) (oi := { dst := some 13, op := Go.Op.binOp Go.BinOp.add 9 (Go.Operand.tmp 12) (Go.Operand.const (Go.Value.string { data := #[32] })) 9, type := 9, pos := _, after := #[{ on := 9, ground := Go.Ground.data }], guard := none }) (v := .string X2) rfl (by kernel_rfl) (by kernel_rfl) (by kernel_rfl) (fun _ _ _ h => h) (Or.inl ⟨by rfl, fun W hW => by have h1 := a2 W; go_simp⟩) (by assumption) ?_
  try simp only [Act.put, List.setIfInBounds_toArray, List.set_cons_zero, List.set_cons_succ]
  refine wpAnyH_ready (rs := [14]) (by kernel_rfl) (by simp) ?_
  refine AllReadyH.cons (o := { dst := some 17, op := Go.Op.call { callee := Go.Callee.value (Go.Operand.func 37), args := #[Go.Operand.tmp 16], argTypes := #[23] }, type := 9, pos := _, after := #[{ on := 13, ground := Go.Ground.data }, { on := 8, ground := Go.Ground.chain }], guard := none }) rfl (fun K hK => ?_) AllReadyH.nil
  go_simp
  refine (kd t (by omega) wt2).mono ?_
  rintro e wt3 ⟨rfl, bt3⟩
  have Bt3 := Bt2.trans (bt3.mono Bt2.size)
  go_wp2_with fail
  refine hK.out _ _ Bt3 (fun hHeld => ?_)
  clear hK K bt3
  try simp only [Act.put, List.setIfInBounds_toArray, List.set_cons_zero, List.set_cons_succ]
  refine wpAnyH_take (i := 15) (oi := { dst := some 18, op := Go.Op.binOp Go.BinOp.add 9 (Go.Operand.tmp 13) (Go.Operand.tmp 17) 9, type := 9, pos := _, after := #[{ on := 10, ground := Go.Ground.data }, { on := 14, ground := Go.Ground.data }], guard := none }) (v := .string X3) rfl (by kernel_rfl) (by kernel_rfl) (by kernel_rfl) (fun _ _ _ h => h) (Or.inl ⟨by rfl, fun W hW => by have h1 := a3 W; go_simp⟩) (by assumption) ?_
  try simp only [Act.put, List.setIfInBounds_toArray, List.set_cons_zero, List.set_cons_succ]
  refine wpAnyH_take (i := 16) (oi := { dst := some 19, op := Go.Op.binOp Go.BinOp.add 9 (Go.Operand.tmp 18) (Go.Operand.const (Go.Value.string { data := #[32] })) 9, type := 9, pos := _, after := #[{ on := 15, ground := Go.Ground.data }], guard := none }) (v := .string X4) rfl (by kernel_rfl) (by kernel_rfl) (by kernel_rfl) (fun _ _ _ h => h) (Or.inl ⟨by rfl, fun W hW => by have h1 := a4 W; go_simp⟩) (by assumption) ?_
  try simp only [Act.put, List.setIfInBounds_toArray, List.set_cons_zero, List.set_cons_succ]
  refine wpAnyH_ready (rs := [19]) (by kernel_rfl) (by simp) ?_
  refine AllReadyH.cons (o := { dst := some 22, op := Go.Op.call { callee := Go.Callee.value (Go.Operand.func 37), args := #[Go.Operand.tmp 21], argTypes := #[23] }, type := 9, pos := _, after := #[{ on := 18, ground := Go.Ground.data }, { on := 14, ground := Go.Ground.chain }], guard := none }) rfl (fun K hK => ?_) AllReadyH.nil
  go_simp
  refine (kd g (by omega) wt3).mono ?_
  rintro e wt4 ⟨rfl, bt4⟩
  have Bt4 := Bt3.trans (bt4.mono Bt3.size)
  go_wp2_with fail
  refine hK.out _ _ Bt4 (fun hHeld => ?_)
  clear hK K bt4
  try simp only [Act.put, List.setIfInBounds_toArray, List.set_cons_zero, List.set_cons_succ]
  refine wpAnyH_take (i := 20) (oi := { dst := some 23, op := Go.Op.binOp Go.BinOp.add 9 (Go.Operand.tmp 19) (Go.Operand.tmp 22) 9, type := 9, pos := _, after := #[{ on := 16, ground := Go.Ground.data }, { on := 19, ground := Go.Ground.data }], guard := none }) (v := .string X5) rfl (by kernel_rfl) (by kernel_rfl) (by kernel_rfl) (fun _ _ _ h => h) (Or.inl ⟨by rfl, fun W hW => by have h1 := a5 W; go_simp⟩) (by assumption) ?_
  try simp only [Act.put, List.setIfInBounds_toArray, List.set_cons_zero, List.set_cons_succ]
  refine wpAnyH_take (i := 21) (oi := { dst := some 2, op := Go.Op.assign (Go.Operand.tmp 23), type := 9, pos := _, after := #[{ on := 20, ground := Go.Ground.data }, { on := 19, ground := Go.Ground.chain }, { on := 0, ground := Go.Ground.phase }, { on := 1, ground := Go.Ground.phase }, { on := 2, ground := Go.Ground.phase }, { on := 3, ground := Go.Ground.phase }, { on := 4, ground := Go.Ground.phase }, { on := 5, ground := Go.Ground.phase }, { on := 6, ground := Go.Ground.phase }, { on := 7, ground := Go.Ground.phase }, { on := 8, ground := Go.Ground.phase }, { on := 9, ground := Go.Ground.phase }, { on := 10, ground := Go.Ground.phase }, { on := 11, ground := Go.Ground.phase }, { on := 12, ground := Go.Ground.phase }, { on := 13, ground := Go.Ground.phase }, { on := 14, ground := Go.Ground.phase }, { on := 15, ground := Go.Ground.phase }, { on := 16, ground := Go.Ground.phase }, { on := 17, ground := Go.Ground.phase }, { on := 18, ground := Go.Ground.phase }, { on := 19, ground := Go.Ground.phase }, { on := 20, ground := Go.Ground.phase }], guard := none }) (v := .string X5) rfl (by kernel_rfl) (by kernel_rfl) (by kernel_rfl) (fun _ _ _ h => h) (Or.inl ⟨by rfl, fun W hW => by go_simp⟩) (by assumption) ?_
  try simp only [Act.put, List.setIfInBounds_toArray, List.set_cons_zero, List.set_cons_succ]
  refine wpAnyH_done (by kernel_rfl) ?_ _
  refine NoPanic.normal ?_
  clear hHeld
  have Bz := B1.trans (Bt4.mono B1.size)
  go_wp2
  go_ret
  exact ⟨by rw [hX.out]; rfl, Bz⟩
end Go.Proofs.YtcgecdiaddcfkaaGreatDoor
