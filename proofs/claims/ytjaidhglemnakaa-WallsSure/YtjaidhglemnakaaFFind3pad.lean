/- The walk of find, the whole of it (pad). -/
import Derived.Test.YtjaidhglemnakaaFFind2
set_option linter.unusedSimpArgs false
set_option linter.unusedVariables false
namespace Go.Proofs.Ytjaidhglemnakaa
open Go.RowKit

set_option maxHeartbeats 8000000 in
set_option maxRecDepth 1000000 in
theorem find_pad (w : World) (v : Value) (bs : List UInt8) (hb : InAt w w.heap.size v bs) (h64 : 64 ≤ bs.length) (h : ¬ 16384 < num (bs.take 4)) (hW : ¬ bs.length < secs (num (bs.take 4)) * 64) (hs : num ((bs.drop 4).take 4) = (sumOf (bs.take 4 ++ (bs.drop 8).take (num (bs.take 4)))).toNat) (hz : ((bs.drop (8 + num (bs.take 4))).take (secs (num (bs.take 4)) * 64 - (8 + num (bs.take 4)))).all (· == 0) = false) :
    Calls Try.prog 48 #[v] w fun e w' => e = .returned (.tuple #[.slice none 0 0, .bool false]) ∧ Below w.heap.size w w' := by
  have hb0 := hb
  obtain ⟨ao, cap, rfl, hb1, hb2, hb3⟩ := hb
  obtain ⟨b, off, rfl, hbl, -⟩ := hb3 (by omega)
  clear hb3
  unfold maxLen at hb2
  have hmf : ∀ (fn : Fn) (first cap : Array Value) (w : World), (Instr.makeFunc fn first cap).run Try.prog w = .ok (.func fn first cap) w := fun _ _ _ _ => rfl
  have hsf : ∀ (W : World) (a : Addr) (fn : Fn) (first cp : Array Value), (store a (.func fn first cp)).run Try.prog W = stored Try.prog W a (.func fn first cp) .plain := fun W a fn first cp => run_store Try.prog W a _ .plain rfl
  have i64 : ¬ (bs.length : Int) < 64 := by omega
  obtain ⟨w2, ew2⟩ : ∃ w2, w2 = (w.alloc (.cells #[.slice (some ⟨b, off, none⟩) bs.length cap] 22)).alloc (.cells #[.func (.func 52) #[] #[.pointer (some ⟨w.heap.size, 0, none⟩)]] 100) := ⟨_, rfl⟩
  have b2 : Below w.heap.size w w2 := by rw [ew2]; exact ((Below.refl _ _).alloc (Nat.le_refl _) _).alloc (by simp) _
  have X2 : w2.cell? ⟨w.heap.size, 0, none⟩ = some (.slice (some ⟨b, off, none⟩) bs.length cap) := by rw [ew2]; go_simp
  have Y2 : w2.cell? ⟨w.heap.size + 1, 0, none⟩ = some (.func (.func 52) #[] #[.pointer (some ⟨w.heap.size, 0, none⟩)]) := by rw [ew2]; go_simp
  have zX : w.heap.size < w2.heap.size := by rw [ew2]; simp; omega
  have zY : w.heap.size + 1 < w2.heap.size := by rw [ew2]; simp
  have kt0 : Calls Try.prog 53 #[.int .i64 0, .pointer (some ⟨w.heap.size + 1, 0, none⟩)] w2 fun e w' => e = .returned (.int .u32 ((num (bs.take 4) : Nat) : Int)) ∧ w2 = w' := told_any w2 w.heap.size (w.heap.size + 1) b off bs.length cap _ 0 bs Y2 X2 (hb0.below b2 (Nat.le_refl _)) (by omega) (by omega)
  have nb := num_bd (bs.take 4)
  rw [List.length_take, Nat.min_eq_left (by omega)] at nb
  replace nb : num (bs.take 4) < 4294967296 := nb
  have ks := fun W => sectorsOf_any W (num (bs.take 4)) (by omega)
  have hge := secs_ge (num (bs.take 4))
  have hlt := secs_lt (num (bs.take 4))
  obtain ⟨N, eN⟩ : ∃ N, N = secs (num (bs.take 4)) * 64 := ⟨_, rfl⟩
  have mN : ((secs (num (bs.take 4)) : Nat) : Int) * 64 = (N : Int) := by rw [eN]; omega
  rw [← eN] at hge hlt hW hz
  clear eN
  generalize ((secs (num (bs.take 4)) : Nat) : Int) = S at *
  have sb : 0 ≤ S ∧ S ≤ 1000 := by omega
  obtain ⟨sb1, sb2⟩ := sb
  obtain ⟨w3, ew3⟩ : ∃ w3, w3 = w2.drew := ⟨_, rfl⟩
  have b23 : Below w2.heap.size w2 w3 := by rw [ew3]; exact ⟨rfl, rfl, rfl, Nat.le_refl _, fun _ _ => rfl⟩
  have b3 := b2.trans (b23.mono b2.size)
  have X3 := (b23.cell (p := ⟨w.heap.size, 0, none⟩) zX).trans X2
  have Y3 := (b23.cell (p := ⟨w.heap.size + 1, 0, none⟩) zY).trans Y2
  have zX3 := Nat.lt_of_lt_of_le zX b23.size
  have zY3 := Nat.lt_of_lt_of_le zY b23.size
  have i3 := hb0.below b3 (Nat.le_refl _)
  have kt4 : Calls Try.prog 53 #[.int .i64 4, .pointer (some ⟨w.heap.size + 1, 0, none⟩)] w3 fun e w' => e = .returned (.int .u32 ((num ((bs.drop 4).take 4) : Nat) : Int)) ∧ w3 = w' := told_any w3 w.heap.size (w.heap.size + 1) b off bs.length cap _ 4 bs Y3 X3 i3 (by omega) (by omega)
  have kp4 : Calls Try.prog 52 #[.int .i64 0, .int .i64 4, .pointer (some ⟨w.heap.size, 0, none⟩)] w3 fun e w' => e = .returned (.slice (some ⟨b, pcOff off 0 4, none⟩) 4 4) ∧ w3 = w' := piece_any w3 w.heap.size b off bs.length cap 0 4 X3 (by omega) (by omega) hb1 (by omega)
  have q1 : InAt w3 w.heap.size (.slice (some ⟨b, pcOff off 0 4, none⟩) 4 4) (bs.take 4) := piece_in (i := 0) (j := 4) i3 (by omega) (by omega)
  have kp8 : Calls Try.prog 52 #[.int .i64 8, .int .i64 (8 + ((num (bs.take 4) : Nat) : Int)), .pointer (some ⟨w.heap.size, 0, none⟩)] w2 fun e w' => e = .returned (.slice (some ⟨b, pcOff off 8 (8 + num (bs.take 4)), none⟩) (num (bs.take 4)) (num (bs.take 4))) ∧ w2 = w' := by
    have := piece_any w2 w.heap.size b off bs.length cap 8 (8 + num (bs.take 4)) X2 (by omega) (by omega) hb1 (by omega)
    rw [Nat.add_sub_cancel_left] at this
    exact this
  have hrec : ∀ W, Below w.heap.size w W → InAt W w.heap.size (.slice (some ⟨b, pcOff off 8 (8 + num (bs.take 4)), none⟩) (num (bs.take 4)) (num (bs.take 4))) ((bs.drop 8).take (num (bs.take 4))) := fun W hW => by
    have := piece_in (i := 8) (j := 8 + num (bs.take 4)) (hb0.below hW (Nat.le_refl _)) (by omega) (by omega)
    rw [Nat.add_sub_cancel_left] at this
    exact this
  have kf := fsumOf_any w3 _ _ _ _ _ _ q1 (hrec w3 b3) b3.size b3.size
  have kpe0 : ∀ W, W.cell? ⟨w.heap.size, 0, none⟩ = some (.slice (some ⟨b, off, none⟩) bs.length cap) → Calls Try.prog 52 #[.int .i64 (8 + ((num (bs.take 4) : Nat) : Int)), .int .i64 (N : Int), .pointer (some ⟨w.heap.size, 0, none⟩)] W fun e w' => e = .returned (.slice (some ⟨b, pcOff off (8 + num (bs.take 4)) N, none⟩) (N - (8 + num (bs.take 4))) (N - (8 + num (bs.take 4)))) ∧ W = w' := fun W hX => piece_any W w.heap.size b off bs.length cap (8 + num (bs.take 4)) N hX (by omega) (by omega) hb1 (by omega)
  have kn0 : ∀ W, Below w.heap.size w W → Calls Try.prog 54 #[.slice (some ⟨b, pcOff off (8 + num (bs.take 4)) N, none⟩) (N - (8 + num (bs.take 4))) (N - (8 + num (bs.take 4)))] W fun e w' => e = .returned (.bool false) ∧ W = w' := fun W hW => by
    have := noughts_any W _ _ _ (piece_in (i := 8 + num (bs.take 4)) (j := N) (hb0.below hW (Nat.le_refl _)) (by omega) (by omega))
    rw [hz] at this
    exact this
  have us : uv (sumOf (bs.take 4 ++ (bs.drop 8).take (num (bs.take 4)))) = ((num ((bs.drop 4).take 4) : Nat) : Int) := by unfold uv; rw [hs]
  rw [us] at kf
  clear us hz hs hrec
  generalize num ((bs.drop 4).take 4) = m4 at *
  clear q1 i3 hb0 b23
  generalize num (bs.take 4) = n at *
  go_enter Try.func48, Try.ntmps48
  go_wp2_with fail
  rw [← ew2]
  clear ew2
  refine kt0.mono ?_
  rintro e w' ⟨rfl, rfl⟩
  have i2 : ¬ (16384 : Int) < (n : Int) := by omega
  have i5 : ¬ (bs.length : Int) < (N : Int) := by omega
  go_wp2_with (first
    | (go_at_call 34; refine (ks _).mono ?_; rintro e w' ⟨rfl, rfl⟩)
    | (go_at_call 52; refine kp8.mono ?_; rintro e w' ⟨rfl, rfl⟩))
  refine wp_region_noPanic ?_
  refine wp_region_held_drew (S := fun W => W.cell? ⟨w.heap.size + 1, 0, none⟩ = some (.func (.func 52) #[] #[.pointer (some ⟨w.heap.size, 0, none⟩)])) (by kernel_rfl) (by rw [← ew3]; exact Y3) (fun hHeld => ?_)
  rw [← ew3] at hHeld ⊢
  clear ew3 ks kp8 kt0 X2 Y2
  refine wpAnyH_take (i := 0) (oi := { dst := some 33, op := Go.Op.move (Go.Operand.tmp 5), type := 102, pos := _, after := #[], guard := none }) (v := .func (.func 53) #[] #[.pointer (some ⟨w.heap.size + 1, 0, none⟩)]) rfl (by kernel_rfl) (by kernel_rfl) (by kernel_rfl) (fun _ _ _ h => h) (Or.inl ⟨by rfl, fun W hW => by go_simp⟩) (by assumption) ?_
  try simp only [Act.put, List.setIfInBounds_toArray, List.set_cons_zero, List.set_cons_succ]
  refine wpAnyH_take (i := 2) (oi := { dst := some 35, op := Go.Op.load 100 (Go.Operand.tmp 4), type := 100, pos := _, after := #[], guard := none }) (v := .func (.func 52) #[] #[.pointer (some ⟨w.heap.size, 0, none⟩)]) rfl (by kernel_rfl) (by kernel_rfl) (by kernel_rfl) (fun _ _ _ h => h) (yieldsIf_load (by rfl) 100 (.tmp 4) rfl _ _ rfl (fun W hW => ldf _ _ _ _ _ W hW)) (by assumption) ?_
  try simp only [Act.put, List.setIfInBounds_toArray, List.set_cons_zero, List.set_cons_succ]
  refine wpAnyH_take (i := 4) (oi := { dst := some 37, op := Go.Op.move (Go.Operand.tmp 9), type := 22, pos := _, after := #[], guard := none }) (v := .slice (some ⟨b, pcOff off 8 (8 + n), none⟩) n n) rfl (by kernel_rfl) (by kernel_rfl) (by kernel_rfl) (fun _ _ _ h => h) (Or.inl ⟨by rfl, fun W hW => by go_simp⟩) (by assumption) ?_
  try simp only [Act.put, List.setIfInBounds_toArray, List.set_cons_zero, List.set_cons_succ]
  refine wpAnyH_ready (rs := [1]) (by kernel_rfl) (by simp) ?_
  refine AllReadyH.cons (o := { dst := some 34, op := Go.Op.call { callee := Go.Callee.value (Go.Operand.tmp 33), args := #[Go.Operand.const (Go.Value.int Go.IntKind.i64 4)], argTypes := #[3] }, type := 79, pos := _, after := #[{ on := 0, ground := Go.Ground.data }], guard := none }) rfl (fun K hK => ?_) AllReadyH.nil
  go_simp
  refine kt4.mono ?_
  rintro e w' ⟨rfl, rfl⟩
  go_wp2_with fail
  refine hK.out _ _ Y3 (fun hHeld => ?_)
  clear hK K
  try simp only [Act.put, List.setIfInBounds_toArray, List.set_cons_zero, List.set_cons_succ]
  refine wpAnyH_ready (rs := [3]) (by kernel_rfl) (by simp) ?_
  refine AllReadyH.cons (o := { dst := some 36, op := Go.Op.call { callee := Go.Callee.value (Go.Operand.tmp 35), args := #[Go.Operand.const (Go.Value.int Go.IntKind.i64 0), Go.Operand.const (Go.Value.int Go.IntKind.i64 4)], argTypes := #[3, 3] }, type := 22, pos := _, after := #[{ on := 2, ground := Go.Ground.data }, { on := 1, ground := Go.Ground.chain }], guard := none }) rfl (fun K hK => ?_) AllReadyH.nil
  go_simp
  refine kp4.mono ?_
  rintro e w' ⟨rfl, rfl⟩
  go_wp2_with fail
  refine hK.out _ _ Y3 (fun hHeld => ?_)
  clear hK K
  try simp only [Act.put, List.setIfInBounds_toArray, List.set_cons_zero, List.set_cons_succ]
  refine wpAnyH_ready (rs := [5]) (by kernel_rfl) (by simp) ?_
  refine AllReadyH.cons (o := { dst := some 38, op := Go.Op.call { callee := Go.Callee.value (Go.Operand.func 36), args := #[Go.Operand.tmp 36, Go.Operand.tmp 37], argTypes := #[22, 22] }, type := 79, pos := _, after := #[{ on := 3, ground := Go.Ground.data }, { on := 4, ground := Go.Ground.data }, { on := 3, ground := Go.Ground.chain }], guard := none }) rfl (fun K hK => ?_) AllReadyH.nil
  go_simp
  refine kf.mono ?_
  rintro e w4 ⟨rfl, b4⟩
  have Y4 := (b4.cell (p := ⟨w.heap.size + 1, 0, none⟩) zY3).trans Y3
  have X4 := (b4.cell (p := ⟨w.heap.size, 0, none⟩) zX3).trans X3
  have b5 := b3.trans (b4.mono b3.size)
  have kpe := kpe0 w4 X4
  have kn := kn0 w4 b5
  go_wp2_with fail
  refine hK.out _ _ Y4 (fun hHeld => ?_)
  clear hK K
  try simp only [Act.put, List.setIfInBounds_toArray, List.set_cons_zero, List.set_cons_succ]
  refine wpAnyH_take (i := 6) (oi := { dst := some 39, op := Go.Op.binOp Go.BinOp.neq 79 (Go.Operand.tmp 34) (Go.Operand.tmp 38) 79, type := 4, pos := _, after := #[{ on := 1, ground := Go.Ground.data }, { on := 5, ground := Go.Ground.data }], guard := none }) (v := .bool false) rfl (by kernel_rfl) (by kernel_rfl) (by kernel_rfl) (fun _ _ _ h => h) (Or.inl ⟨by rfl, fun W hW => by go_simp⟩) (by assumption) ?_
  try simp only [Act.put, List.setIfInBounds_toArray, List.set_cons_zero, List.set_cons_succ]
  refine wpAnyH_take (i := 7) (oi := { dst := some 40, op := Go.Op.move (Go.Operand.tmp 39), type := 4, pos := _, after := #[{ on := 6, ground := Go.Ground.data }, { on := 5, ground := Go.Ground.chain }], guard := none }) (v := .bool false) rfl (by kernel_rfl) (by kernel_rfl) (by kernel_rfl) (fun _ _ _ h => h) (Or.inl ⟨by rfl, fun W hW => by go_simp⟩) (by assumption) ?_
  try simp only [Act.put, List.setIfInBounds_toArray, List.set_cons_zero, List.set_cons_succ]
  refine wpAnyH_take (i := 8) (oi := { dst := some 41, op := Go.Op.load 100 (Go.Operand.tmp 4), type := 100, pos := _, after := #[{ on := 7, ground := Go.Ground.guard }], guard := some (7, false) }) (v := .func (.func 52) #[] #[.pointer (some ⟨w.heap.size, 0, none⟩)]) rfl (by kernel_rfl) (by kernel_rfl) (by kernel_rfl) (fun _ _ _ h => h) (yieldsIf_load (by rfl) 100 (.tmp 4) rfl _ _ rfl (fun W hW => ldf _ _ _ _ _ W hW)) (by assumption) ?_
  try simp only [Act.put, List.setIfInBounds_toArray, List.set_cons_zero, List.set_cons_succ]
  refine wpAnyH_take (i := 9) (oi := { dst := some 42, op := Go.Op.move (Go.Operand.tmp 7), type := 3, pos := _, after := #[{ on := 7, ground := Go.Ground.guard }], guard := some (7, false) }) (v := .int .i64 (8 + (n : Int))) rfl (by kernel_rfl) (by kernel_rfl) (by kernel_rfl) (fun _ _ _ h => h) (Or.inl ⟨by rfl, fun W hW => by go_simp⟩) (by assumption) ?_
  try simp only [Act.put, List.setIfInBounds_toArray, List.set_cons_zero, List.set_cons_succ]
  refine wpAnyH_take (i := 10) (oi := { dst := some 43, op := Go.Op.move (Go.Operand.tmp 8), type := 3, pos := _, after := #[{ on := 7, ground := Go.Ground.guard }], guard := some (7, false) }) (v := .int .i64 (N : Int)) rfl (by kernel_rfl) (by kernel_rfl) (by kernel_rfl) (fun _ _ _ h => h) (Or.inl ⟨by rfl, fun W hW => by go_simp⟩) (by assumption) ?_
  try simp only [Act.put, List.setIfInBounds_toArray, List.set_cons_zero, List.set_cons_succ]
  refine wpAnyH_ready (rs := [11]) (by kernel_rfl) (by simp) ?_
  refine AllReadyH.cons (o := { dst := some 44, op := Go.Op.call { callee := Go.Callee.value (Go.Operand.tmp 41), args := #[Go.Operand.tmp 42, Go.Operand.tmp 43], argTypes := #[3, 3] }, type := 22, pos := _, after := #[{ on := 8, ground := Go.Ground.data }, { on := 9, ground := Go.Ground.data }, { on := 10, ground := Go.Ground.data }, { on := 7, ground := Go.Ground.chain }, { on := 7, ground := Go.Ground.guard }], guard := some (7, false) }) rfl (fun K hK => ?_) AllReadyH.nil
  go_simp
  refine kpe.mono ?_
  rintro e w' ⟨rfl, rfl⟩
  go_wp2_with fail
  refine hK.out _ _ Y4 (fun hHeld => ?_)
  clear hK K
  try simp only [Act.put, List.setIfInBounds_toArray, List.set_cons_zero, List.set_cons_succ]
  refine wpAnyH_ready (rs := [12]) (by kernel_rfl) (by simp) ?_
  refine AllReadyH.cons (o := { dst := some 45, op := Go.Op.call { callee := Go.Callee.value (Go.Operand.func 54), args := #[Go.Operand.tmp 44], argTypes := #[22] }, type := 4, pos := _, after := #[{ on := 11, ground := Go.Ground.data }, { on := 11, ground := Go.Ground.chain }, { on := 7, ground := Go.Ground.guard }], guard := some (7, false) }) rfl (fun K hK => ?_) AllReadyH.nil
  go_simp
  refine kn.mono ?_
  rintro e w' ⟨rfl, rfl⟩
  go_wp2_with fail
  refine hK.out _ _ Y4 (fun hHeld => ?_)
  clear hK K
  try simp only [Act.put, List.setIfInBounds_toArray, List.set_cons_zero, List.set_cons_succ]
  refine wpAnyH_take (i := 13) (oi := { dst := some 46, op := Go.Op.unOp Go.UnOp.not 4 (Go.Operand.tmp 45), type := 4, pos := _, after := #[{ on := 12, ground := Go.Ground.data }, { on := 7, ground := Go.Ground.guard }], guard := some (7, false) }) (v := .bool true) rfl (by kernel_rfl) (by kernel_rfl) (by kernel_rfl) (fun _ _ _ h => h) (Or.inl ⟨by rfl, fun W hW => by go_simp⟩) (by assumption) ?_
  try simp only [Act.put, List.setIfInBounds_toArray, List.set_cons_zero, List.set_cons_succ]
  refine wpAnyH_take (i := 14) (oi := { dst := some 47, op := Go.Op.pick (Go.Operand.tmp 40) (Go.Operand.const (Go.Value.bool true)) (Go.Operand.tmp 46), type := 4, pos := _, after := #[{ on := 7, ground := Go.Ground.data }, { on := 13, ground := Go.Ground.data }], guard := none }) (v := .bool true) rfl (by kernel_rfl) (by kernel_rfl) (by kernel_rfl) (fun _ _ _ h => h) (Or.inl ⟨by rfl, fun W hW => by go_simp⟩) (by assumption) ?_
  try simp only [Act.put, List.setIfInBounds_toArray, List.set_cons_zero, List.set_cons_succ]
  refine wpAnyH_done (by kernel_rfl) ?_ _
  refine NoPanic.normal ?_
  clear hHeld
  go_wp2
  go_ret2
  exact ⟨rfl, b5⟩
end Go.Proofs.Ytjaidhglemnakaa
