/- The walk of the document's New. -/
import Derived.Test.YthnkakjelhnjdaaGreatDoorERGrow
import Derived.Test.YthnkakjelhnjdaaGreatDoorERSync
set_option linter.unusedSimpArgs false
set_option linter.unusedVariables false
namespace Go.Proofs.YthnkakjelhnjdaaGreatDoor
open Go.RowKit Go.Maps

set_option maxRecDepth 1000000 in
theorem rnew_bad (w : World) (n : Int) (hn : n < 1 ∨ 4096 < n) :
    Calls Tryz.prog 6 #[.int .i64 n] w fun e w' => e = .returned (.tuple #[.pointer none, .int .i64 1]) ∧ w = w' := by
  by_cases h1 : n < 1
  · clear hn
    go_enter Tryz.func6, Tryz.ntmps6
    go_wp2
    go_ret2
    exact ⟨rfl, rfl⟩
  · have h2 : 4096 < n := by omega
    clear hn
    go_enter Tryz.func6, Tryz.ntmps6
    go_wp2
    go_ret2
    exact ⟨rfl, rfl⟩
theorem bs_sl (a : Option Addr) (n c : Nat) (W : World) : (Instr.buildSlice 64 1 #[(0, .slice a n c)]).run Tryz.prog W = .ok (.slice (some ⟨W.heap.size, 0, none⟩) 1 1) (W.alloc (.cells #[.slice a n c] 45)) := by
  obtain ⟨i0, hii, hz0, hz1, hz2⟩ := info_parts info_sl
  exact run_buildSlice_one 64 45 Tryz.underlying64 hii hz0 hz1 (by omega) (by omega) (.slice a n c) rfl W
set_option maxHeartbeats 4000000 in
set_option maxRecDepth 1000000 in
theorem rnew_ok (w : World) (n : Nat) (hn1 : 1 ≤ n) (hn2 : n ≤ 4096) :
    Calls Tryz.prog 6 #[.int .i64 (n : Int)] w fun e w' => e = .returned (.tuple #[.pointer (some ⟨w.heap.size, 0, none⟩), .int .i64 0]) ∧ RfAt w' w.heap.size (fun x => w.heap.size ≤ x ∧ x < w'.heap.size) (Dk.new n) ∧ Below w.heap.size w w' := by
  obtain ⟨i0, hii, hz0, hz1, hz2⟩ := info_parts info_sl
  have i1 : ¬ (n : Int) < 1 := by omega
  have i2 : ¬ (4096 : Int) < (n : Int) := by omega
  have hmk : ∀ W : World, (Instr.makeSlice 45 (.int .i64 64) (.int .i64 64)).run Tryz.prog W = .ok (.slice (some ⟨W.heap.size, 0, none⟩) 64 64) (W.alloc (.cells (bcells z64).toArray 5)) := fun W => by
    rw [← made_z64]
    exact run_make_row' 45 5 (.int .u8 0) 1 Tryz.underlying45 info_u8 rfl .i64 .i64 64 (by omega) (by omega) W
  go_enter Tryz.func6, Tryz.ntmps6
  go_wp2
  have b1 := below_one w (.cells #[.slice none 0 0, .slice none 0 0] 67)
  have r1 := heap_alloc_last w (.cells #[.slice none 0 0, .slice none 0 0] 67)
  go_loopw [5] (fun x wr => ∃ k : Nat, k ≤ n ∧ x = .int .i64 (k : Int) ∧ Below w.heap.size w wr ∧ ∃ vs P, NwX wr w.heap.size w.heap.size vs P (List.replicate k z64)) (fun x _ => n - (intOf x).toNat)
  case atStart => exact ⟨0, Nat.zero_le _, rfl, b1, _, _, NwX.zero r1 (Nat.le_refl _)⟩
  case round =>
    obtain ⟨k, hk, rfl, hw, vs, P, hr⟩ := hrel
    by_cases hkn : k < n
    · have k1 : (k : Int) < (n : Int) := by omega
      obtain ⟨av, cv, ev, ev1, ev2⟩ := own_len' hr.rs
      rw [List.length_replicate] at ev ev1
      subst ev
      unfold maxLen at ev2
      have q1 := hr.head
      have c0 : wr.drew.cell? ⟨w.heap.size, 0, none⟩ = some (.slice av k cv) := (pair_cell q1).1
      have c1 := cell_alloc c0 (.cells (bcells z64).toArray 5)
      have c2 := cell_alloc c1 (.cells #[.slice (some ⟨wr.heap.size, 0, none⟩) 64 64] 45)
      have bs1 := bs_sl (some ⟨wr.heap.size, 0, none⟩) 64 64
      have bn : Below wr.heap.size wr ((wr.drew.alloc (.cells (bcells z64).toArray 5)).alloc (.cells #[.slice (some ⟨wr.heap.size, 0, none⟩) 64 64] 45)) := (((Below.refl wr.heap.size wr).drew).alloc (Nat.le_refl _) _).alloc (by simp) _
      have ow : ((wr.drew.alloc (.cells (bcells z64).toArray 5)).alloc (.cells #[.slice (some ⟨wr.heap.size, 0, none⟩) 64 64] 45)).ownsRow 0 45 1 (.slice av k cv) k (rowsOf P k) := by
        have := hr.rs
        rw [List.length_replicate] at this
        exact own_below (own_nought this) bn
      have src : Src Tryz.prog 1 64 (.slice (some ⟨(wr.drew.alloc (.cells (bcells z64).toArray 5)).heap.size, 0, none⟩) 1 1) 1 [.slice (some ⟨wr.heap.size, 0, none⟩) 64 64] ((wr.drew.alloc (.cells (bcells z64).toArray 5)).alloc (.cells #[.slice (some ⟨wr.heap.size, 0, none⟩) 64 64] 45)) := Src.ofSlice _ Tryz.underlying64 _ _ _ _ rfl (news_ofv _ _) (by intro u hu; simp at hu; rw [hu]; rfl)
      have hp : ((wr.drew.alloc (.cells (bcells z64).toArray 5)).alloc (.cells #[.slice (some ⟨wr.heap.size, 0, none⟩) 64 64] 45)).ownsRow wr.heap.size 5 1 (.slice (some ⟨wr.heap.size, 0, none⟩) 64 64) 64 (bcells z64) := own_base (own_row64 (by simp [z64]) (alloc_block (heap_alloc_last wr.drew _) _)) (fun b e => by cases e; exact Nat.le_refl _)
      have finH : Hid (∀ (v' : Value) (w2 : World), w2.ownsRow 0 45 1 v' (k + 1) (rowsOf P k ++ [.slice (some ⟨wr.heap.size, 0, none⟩) 64 64]) → ((wr.drew.alloc (.cells (bcells z64).toArray 5)).alloc (.cells #[.slice (some ⟨wr.heap.size, 0, none⟩) 64 64] 45)).grownBy w2 (Value.ownBlock (.slice av k cv)) → (v'.ownBlock = Value.ownBlock (.slice av k cv) ∨ v'.ownBlock = some ((wr.drew.alloc (.cells (bcells z64).toArray 5)).alloc (.cells #[.slice (some ⟨wr.heap.size, 0, none⟩) 64 64] 45)).heap.size) →
          (∃ a' c', v' = .slice a' (k + 1) c') ∧ w2.cell? ⟨w.heap.size, 0, none⟩ = some (.slice av k cv) ∧ w2.frozen? ⟨w.heap.size, 0, none⟩ = false ∧ ∃ k1 : Nat, k1 ≤ n ∧ Value.int .i64 ((k : Int) + 1) = .int .i64 (k1 : Int) ∧ Below w.heap.size w (w2.setCell ⟨w.heap.size, 0, none⟩ v') ∧ ∃ vs P, NwX (w2.setCell ⟨w.heap.size, 0, none⟩ v') w.heap.size w.heap.size vs P (List.replicate k1 z64)) := by
        intro v' w2 h1 h2 h3
        obtain ⟨a', c', hv', -, -⟩ := own_len' h1
        have g := nw_snoc (s := z64) hr (by simp [z64]) bn hp hw.size (by rw [List.length_replicate]; exact h1) h2 h3
        rw [← List.replicate_succ'] at g
        exact ⟨⟨a', c', hv'⟩, (pair_cell g.1).1, box_frozen g.1, k + 1, by omega, by simp, hw.trans (g.2.2.below hw.size (fun x hx => by omega)), _, _, g.2.1⟩
      clear hr hw bn hp r1 b1
      go_wp2_with fail
      refine wp_region_noPanic ?_
      refine wp_region_held_drew (S := fun W => True) (by kernel_rfl) trivial (fun hHeld => ?_)
      refine wpAnyH_take (i := 0) (oi := { dst := some 19, op := Go.Op.move (Go.Operand.tmp 4), type := 28, pos := _, after := #[], guard := none }) (v := .pointer (some ⟨w.heap.size, 0, none⟩)) rfl (by kernel_rfl) (by kernel_rfl) (by kernel_rfl) (fun _ _ _ h => h) (Or.inl ⟨by rfl, fun W hW => by go_simp⟩) (by assumption) ?_
      try simp only [Act.put, List.setIfInBounds_toArray, List.set_cons_zero, List.set_cons_succ]
      refine wpAnyH_take (i := 1) (oi := { dst := some 20, op := Go.Op.move (Go.Operand.tmp 4), type := 28, pos := _, after := #[], guard := none }) (v := .pointer (some ⟨w.heap.size, 0, none⟩)) rfl (by kernel_rfl) (by kernel_rfl) (by kernel_rfl) (fun _ _ _ h => h) (Or.inl ⟨by rfl, fun W hW => by go_simp⟩) (by assumption) ?_
      try simp only [Act.put, List.setIfInBounds_toArray, List.set_cons_zero, List.set_cons_succ]
      refine wpAnyH_take (i := 2) (oi := { dst := some 21, op := Go.Op.nilCheck (Go.Operand.tmp 20), type := 0, pos := _, after := #[{ on := 1, ground := Go.Ground.data }], guard := none }) (v := .pointer (some ⟨w.heap.size, 0, none⟩)) rfl (by kernel_rfl) (by kernel_rfl) (by kernel_rfl) (fun _ _ _ h => h) (Or.inl ⟨by rfl, fun W hW => by go_simp⟩) (by assumption) ?_
      try simp only [Act.put, List.setIfInBounds_toArray, List.set_cons_zero, List.set_cons_succ]
      refine wpAnyH_take (i := 3) (oi := { dst := some 22, op := Go.Op.fieldAddr 67 (Go.Operand.tmp 21) 0, type := 0, pos := _, after := #[{ on := 2, ground := Go.Ground.data }], guard := none }) (v := .pointer (some ⟨w.heap.size, 0, none⟩)) rfl (by kernel_rfl) (by kernel_rfl) (by kernel_rfl) (fun _ _ _ h => h) (Or.inl ⟨by rfl, fun W hW => by go_simp⟩) (by assumption) ?_
      try simp only [Act.put, List.setIfInBounds_toArray, List.set_cons_zero, List.set_cons_succ]
      refine wpAnyH_ready (rs := [4, 5]) (by kernel_rfl) (by simp) ?_
      refine AllReadyH.cons (o := { dst := some 23, op := Go.Op.load 64 (Go.Operand.tmp 22), type := 64, pos := _, after := #[{ on := 3, ground := Go.Ground.data }], guard := none }) rfl (fun K hK => ?_) (AllReadyH.cons (o := { dst := some 24, op := Go.Op.makeSlice 45 (Go.Operand.const (Go.Value.int Go.IntKind.i64 64)) (Go.Operand.const (Go.Value.int Go.IntKind.i64 64)), type := 45, pos := _, after := #[], guard := none }) rfl (fun K hK => ?_) AllReadyH.nil)
      · refine step_load rfl 64 (.tmp 22) rfl _ _ rfl (rld64 _ _ av k cv _ (by first | exact c0 | exact c1 | exact c2)) ?_
        refine hK.out _ _ trivial (fun hHeld => ?_)
        clear hK K
        try simp only [Act.put, List.setIfInBounds_toArray, List.set_cons_zero, List.set_cons_succ]
        refine wpAnyH_ready (rs := [5]) (by kernel_rfl) (by simp) ?_
        refine AllReadyH.cons (o := { dst := some 24, op := Go.Op.makeSlice 45 (Go.Operand.const (Go.Value.int Go.IntKind.i64 64)) (Go.Operand.const (Go.Value.int Go.IntKind.i64 64)), type := 45, pos := _, after := #[], guard := none }) rfl (fun K hK => ?_) AllReadyH.nil
        refine step_makeSlice rfl 45 (.const (.int .i64 64)) (.const (.int .i64 64)) rfl _ _ _ rfl rfl _ (hmk wr.drew) ?_
        refine hK.out _ _ trivial (fun hHeld => ?_)
        clear hK K
        try simp only [Act.put, List.setIfInBounds_toArray, List.set_cons_zero, List.set_cons_succ]
        refine wpAnyH_ready (rs := [6]) (by kernel_rfl) (by simp) ?_
        refine AllReadyH.cons (o := { dst := some 25, op := Go.Op.buildSlice 64 1 #[(0, Go.Operand.tmp 24)], type := 64, pos := _, after := #[{ on := 5, ground := Go.Ground.data }], guard := none }) rfl (fun K hK => ?_) AllReadyH.nil
        refine step_buildSlice rfl 64 45 1 #[(0, .tmp 24)] rfl #[.slice (some ⟨wr.heap.size, 0, none⟩) 64 64] #[(0, .slice (some ⟨wr.heap.size, 0, none⟩) 64 64)] (by simp only [List.map_toArray, List.map_cons, List.map_nil]; rfl) (fun W => bs1 W) ?_
        refine hK.out _ _ trivial (fun hHeld => ?_)
        clear hK K
        try simp only [Act.put, List.setIfInBounds_toArray, List.set_cons_zero, List.set_cons_succ]
        refine wpAnyH_ready (rs := [7]) (by kernel_rfl) (by simp) ?_
        refine AllReadyH.cons (o := { dst := some 26, op := Go.Op.call { callee := Go.Callee.builtin Go.Builtin.append, args := #[Go.Operand.tmp 23, Go.Operand.tmp 25], argTypes := #[64, 64] }, type := 64, pos := _, after := #[{ on := 4, ground := Go.Ground.data }, { on := 6, ground := Go.Ground.data }], guard := none }) rfl (fun K hK => ?_) AllReadyH.nil
        refine step_append_src rfl (.tmp 23) (.tmp 25) 64 rfl 0 45 i0 (.slice none 0 0) 1 24 Tryz.underlying64 hii hz0 hz1 hz2 rfl (by decide) (.slice av k cv) k _ rfl ow _ 1 _ rfl src (by unfold maxLen; omega) (by omega) (Nat.zero_le _) ?_
        intro v' w3 ho3 hg3 hl3
        obtain ⟨⟨a', c', rfl⟩, f1, f2, f3⟩ := finH.out v' w3 ho3 hg3 hl3
        refine hK.out _ _ trivial (fun hHeld => ?_)
        clear hK K
        try simp only [Act.put, List.setIfInBounds_toArray, List.set_cons_zero, List.set_cons_succ]
        refine wpAnyH_take (i := 8) (oi := { dst := some 27, op := Go.Op.nilCheck (Go.Operand.tmp 19), type := 0, pos := _, after := #[{ on := 0, ground := Go.Ground.data }, { on := 0, ground := Go.Ground.phase }, { on := 1, ground := Go.Ground.phase }, { on := 2, ground := Go.Ground.phase }, { on := 3, ground := Go.Ground.phase }, { on := 4, ground := Go.Ground.phase }, { on := 5, ground := Go.Ground.phase }, { on := 6, ground := Go.Ground.phase }, { on := 7, ground := Go.Ground.phase }], guard := none }) (v := .pointer (some ⟨w.heap.size, 0, none⟩)) rfl (by kernel_rfl) (by kernel_rfl) (by kernel_rfl) (fun _ _ _ h => h) (Or.inl ⟨by rfl, fun W hW => by go_simp⟩) (by assumption) ?_
        try simp only [Act.put, List.setIfInBounds_toArray, List.set_cons_zero, List.set_cons_succ]
        refine wpAnyH_take (i := 9) (oi := { dst := some 28, op := Go.Op.fieldAddr 67 (Go.Operand.tmp 27) 0, type := 0, pos := _, after := #[{ on := 8, ground := Go.Ground.data }, { on := 0, ground := Go.Ground.phase }, { on := 1, ground := Go.Ground.phase }, { on := 2, ground := Go.Ground.phase }, { on := 3, ground := Go.Ground.phase }, { on := 4, ground := Go.Ground.phase }, { on := 5, ground := Go.Ground.phase }, { on := 6, ground := Go.Ground.phase }, { on := 7, ground := Go.Ground.phase }], guard := none }) (v := .pointer (some ⟨w.heap.size, 0, none⟩)) rfl (by kernel_rfl) (by kernel_rfl) (by kernel_rfl) (fun _ _ _ h => h) (Or.inl ⟨by rfl, fun W hW => by go_simp⟩) (by assumption) ?_
        try simp only [Act.put, List.setIfInBounds_toArray, List.set_cons_zero, List.set_cons_succ]
        refine wpAnyH_ready (rs := [10]) (by kernel_rfl) (by simp) ?_
        refine AllReadyH.cons (o := { dst := none, op := Go.Op.store 64 (Go.Operand.tmp 28) (Go.Operand.tmp 26), type := 0, pos := _, after := #[{ on := 9, ground := Go.Ground.data }, { on := 7, ground := Go.Ground.data }, { on := 7, ground := Go.Ground.chain }, { on := 0, ground := Go.Ground.phase }, { on := 1, ground := Go.Ground.phase }, { on := 2, ground := Go.Ground.phase }, { on := 3, ground := Go.Ground.phase }, { on := 4, ground := Go.Ground.phase }, { on := 5, ground := Go.Ground.phase }, { on := 6, ground := Go.Ground.phase }, { on := 7, ground := Go.Ground.phase }], guard := none }) rfl (fun K hK => ?_) AllReadyH.nil
        refine step_store rfl 64 (.tmp 28) (.tmp 26) rfl _ _ rfl rfl _ (rst64 _ _ _ _ _ _ _ _ w3 f1 f2) ?_
        refine hK.out _ _ trivial (fun hHeld => ?_)
        clear hK K hHeld
        try simp only [Act.put, List.setIfInBounds_toArray, List.set_cons_zero, List.set_cons_succ]
        refine wpAnyH_done (by kernel_rfl) ?_ _
        refine NoPanic.normal ?_
        clear hHeld
        go_wp2
        go_roundw
        case rel => first | exact f3 | ((repeat apply Exists.intro); exact ⟨f3, rfl⟩)
        case measure => simp [intOf]; omega
      · refine step_makeSlice rfl 45 (.const (.int .i64 64)) (.const (.int .i64 64)) rfl _ _ _ rfl rfl _ (hmk wr.drew) ?_
        refine hK.out _ _ trivial (fun hHeld => ?_)
        clear hK K
        try simp only [Act.put, List.setIfInBounds_toArray, List.set_cons_zero, List.set_cons_succ]
        refine wpAnyH_ready (rs := [4, 6]) (by kernel_rfl) (by simp) ?_
        refine AllReadyH.cons (o := { dst := some 23, op := Go.Op.load 64 (Go.Operand.tmp 22), type := 64, pos := _, after := #[{ on := 3, ground := Go.Ground.data }], guard := none }) rfl (fun K hK => ?_) (AllReadyH.cons (o := { dst := some 25, op := Go.Op.buildSlice 64 1 #[(0, Go.Operand.tmp 24)], type := 64, pos := _, after := #[{ on := 5, ground := Go.Ground.data }], guard := none }) rfl (fun K hK => ?_) AllReadyH.nil)
        · refine step_load rfl 64 (.tmp 22) rfl _ _ rfl (rld64 _ _ av k cv _ (by first | exact c0 | exact c1 | exact c2)) ?_
          refine hK.out _ _ trivial (fun hHeld => ?_)
          clear hK K
          try simp only [Act.put, List.setIfInBounds_toArray, List.set_cons_zero, List.set_cons_succ]
          refine wpAnyH_ready (rs := [6]) (by kernel_rfl) (by simp) ?_
          refine AllReadyH.cons (o := { dst := some 25, op := Go.Op.buildSlice 64 1 #[(0, Go.Operand.tmp 24)], type := 64, pos := _, after := #[{ on := 5, ground := Go.Ground.data }], guard := none }) rfl (fun K hK => ?_) AllReadyH.nil
          refine step_buildSlice rfl 64 45 1 #[(0, .tmp 24)] rfl #[.slice (some ⟨wr.heap.size, 0, none⟩) 64 64] #[(0, .slice (some ⟨wr.heap.size, 0, none⟩) 64 64)] (by simp only [List.map_toArray, List.map_cons, List.map_nil]; rfl) (fun W => bs1 W) ?_
          refine hK.out _ _ trivial (fun hHeld => ?_)
          clear hK K
          try simp only [Act.put, List.setIfInBounds_toArray, List.set_cons_zero, List.set_cons_succ]
          refine wpAnyH_ready (rs := [7]) (by kernel_rfl) (by simp) ?_
          refine AllReadyH.cons (o := { dst := some 26, op := Go.Op.call { callee := Go.Callee.builtin Go.Builtin.append, args := #[Go.Operand.tmp 23, Go.Operand.tmp 25], argTypes := #[64, 64] }, type := 64, pos := _, after := #[{ on := 4, ground := Go.Ground.data }, { on := 6, ground := Go.Ground.data }], guard := none }) rfl (fun K hK => ?_) AllReadyH.nil
          refine step_append_src rfl (.tmp 23) (.tmp 25) 64 rfl 0 45 i0 (.slice none 0 0) 1 24 Tryz.underlying64 hii hz0 hz1 hz2 rfl (by decide) (.slice av k cv) k _ rfl ow _ 1 _ rfl src (by unfold maxLen; omega) (by omega) (Nat.zero_le _) ?_
          intro v' w3 ho3 hg3 hl3
          obtain ⟨⟨a', c', rfl⟩, f1, f2, f3⟩ := finH.out v' w3 ho3 hg3 hl3
          refine hK.out _ _ trivial (fun hHeld => ?_)
          clear hK K
          try simp only [Act.put, List.setIfInBounds_toArray, List.set_cons_zero, List.set_cons_succ]
          refine wpAnyH_take (i := 8) (oi := { dst := some 27, op := Go.Op.nilCheck (Go.Operand.tmp 19), type := 0, pos := _, after := #[{ on := 0, ground := Go.Ground.data }, { on := 0, ground := Go.Ground.phase }, { on := 1, ground := Go.Ground.phase }, { on := 2, ground := Go.Ground.phase }, { on := 3, ground := Go.Ground.phase }, { on := 4, ground := Go.Ground.phase }, { on := 5, ground := Go.Ground.phase }, { on := 6, ground := Go.Ground.phase }, { on := 7, ground := Go.Ground.phase }], guard := none }) (v := .pointer (some ⟨w.heap.size, 0, none⟩)) rfl (by kernel_rfl) (by kernel_rfl) (by kernel_rfl) (fun _ _ _ h => h) (Or.inl ⟨by rfl, fun W hW => by go_simp⟩) (by assumption) ?_
          try simp only [Act.put, List.setIfInBounds_toArray, List.set_cons_zero, List.set_cons_succ]
          refine wpAnyH_take (i := 9) (oi := { dst := some 28, op := Go.Op.fieldAddr 67 (Go.Operand.tmp 27) 0, type := 0, pos := _, after := #[{ on := 8, ground := Go.Ground.data }, { on := 0, ground := Go.Ground.phase }, { on := 1, ground := Go.Ground.phase }, { on := 2, ground := Go.Ground.phase }, { on := 3, ground := Go.Ground.phase }, { on := 4, ground := Go.Ground.phase }, { on := 5, ground := Go.Ground.phase }, { on := 6, ground := Go.Ground.phase }, { on := 7, ground := Go.Ground.phase }], guard := none }) (v := .pointer (some ⟨w.heap.size, 0, none⟩)) rfl (by kernel_rfl) (by kernel_rfl) (by kernel_rfl) (fun _ _ _ h => h) (Or.inl ⟨by rfl, fun W hW => by go_simp⟩) (by assumption) ?_
          try simp only [Act.put, List.setIfInBounds_toArray, List.set_cons_zero, List.set_cons_succ]
          refine wpAnyH_ready (rs := [10]) (by kernel_rfl) (by simp) ?_
          refine AllReadyH.cons (o := { dst := none, op := Go.Op.store 64 (Go.Operand.tmp 28) (Go.Operand.tmp 26), type := 0, pos := _, after := #[{ on := 9, ground := Go.Ground.data }, { on := 7, ground := Go.Ground.data }, { on := 7, ground := Go.Ground.chain }, { on := 0, ground := Go.Ground.phase }, { on := 1, ground := Go.Ground.phase }, { on := 2, ground := Go.Ground.phase }, { on := 3, ground := Go.Ground.phase }, { on := 4, ground := Go.Ground.phase }, { on := 5, ground := Go.Ground.phase }, { on := 6, ground := Go.Ground.phase }, { on := 7, ground := Go.Ground.phase }], guard := none }) rfl (fun K hK => ?_) AllReadyH.nil
          refine step_store rfl 64 (.tmp 28) (.tmp 26) rfl _ _ rfl rfl _ (rst64 _ _ _ _ _ _ _ _ w3 f1 f2) ?_
          refine hK.out _ _ trivial (fun hHeld => ?_)
          clear hK K hHeld
          try simp only [Act.put, List.setIfInBounds_toArray, List.set_cons_zero, List.set_cons_succ]
          refine wpAnyH_done (by kernel_rfl) ?_ _
          refine NoPanic.normal ?_
          clear hHeld
          go_wp2
          go_roundw
          case rel => first | exact f3 | ((repeat apply Exists.intro); exact ⟨f3, rfl⟩)
          case measure => simp [intOf]; omega
        · refine step_buildSlice rfl 64 45 1 #[(0, .tmp 24)] rfl #[.slice (some ⟨wr.heap.size, 0, none⟩) 64 64] #[(0, .slice (some ⟨wr.heap.size, 0, none⟩) 64 64)] (by simp only [List.map_toArray, List.map_cons, List.map_nil]; rfl) (fun W => bs1 W) ?_
          refine hK.out _ _ trivial (fun hHeld => ?_)
          clear hK K
          try simp only [Act.put, List.setIfInBounds_toArray, List.set_cons_zero, List.set_cons_succ]
          refine wpAnyH_ready (rs := [4]) (by kernel_rfl) (by simp) ?_
          refine AllReadyH.cons (o := { dst := some 23, op := Go.Op.load 64 (Go.Operand.tmp 22), type := 64, pos := _, after := #[{ on := 3, ground := Go.Ground.data }], guard := none }) rfl (fun K hK => ?_) AllReadyH.nil
          refine step_load rfl 64 (.tmp 22) rfl _ _ rfl (rld64 _ _ av k cv _ (by first | exact c0 | exact c1 | exact c2)) ?_
          refine hK.out _ _ trivial (fun hHeld => ?_)
          clear hK K
          try simp only [Act.put, List.setIfInBounds_toArray, List.set_cons_zero, List.set_cons_succ]
          refine wpAnyH_ready (rs := [7]) (by kernel_rfl) (by simp) ?_
          refine AllReadyH.cons (o := { dst := some 26, op := Go.Op.call { callee := Go.Callee.builtin Go.Builtin.append, args := #[Go.Operand.tmp 23, Go.Operand.tmp 25], argTypes := #[64, 64] }, type := 64, pos := _, after := #[{ on := 4, ground := Go.Ground.data }, { on := 6, ground := Go.Ground.data }], guard := none }) rfl (fun K hK => ?_) AllReadyH.nil
          refine step_append_src rfl (.tmp 23) (.tmp 25) 64 rfl 0 45 i0 (.slice none 0 0) 1 24 Tryz.underlying64 hii hz0 hz1 hz2 rfl (by decide) (.slice av k cv) k _ rfl ow _ 1 _ rfl src (by unfold maxLen; omega) (by omega) (Nat.zero_le _) ?_
          intro v' w3 ho3 hg3 hl3
          obtain ⟨⟨a', c', rfl⟩, f1, f2, f3⟩ := finH.out v' w3 ho3 hg3 hl3
          refine hK.out _ _ trivial (fun hHeld => ?_)
          clear hK K
          try simp only [Act.put, List.setIfInBounds_toArray, List.set_cons_zero, List.set_cons_succ]
          refine wpAnyH_take (i := 8) (oi := { dst := some 27, op := Go.Op.nilCheck (Go.Operand.tmp 19), type := 0, pos := _, after := #[{ on := 0, ground := Go.Ground.data }, { on := 0, ground := Go.Ground.phase }, { on := 1, ground := Go.Ground.phase }, { on := 2, ground := Go.Ground.phase }, { on := 3, ground := Go.Ground.phase }, { on := 4, ground := Go.Ground.phase }, { on := 5, ground := Go.Ground.phase }, { on := 6, ground := Go.Ground.phase }, { on := 7, ground := Go.Ground.phase }], guard := none }) (v := .pointer (some ⟨w.heap.size, 0, none⟩)) rfl (by kernel_rfl) (by kernel_rfl) (by kernel_rfl) (fun _ _ _ h => h) (Or.inl ⟨by rfl, fun W hW => by go_simp⟩) (by assumption) ?_
          try simp only [Act.put, List.setIfInBounds_toArray, List.set_cons_zero, List.set_cons_succ]
          refine wpAnyH_take (i := 9) (oi := { dst := some 28, op := Go.Op.fieldAddr 67 (Go.Operand.tmp 27) 0, type := 0, pos := _, after := #[{ on := 8, ground := Go.Ground.data }, { on := 0, ground := Go.Ground.phase }, { on := 1, ground := Go.Ground.phase }, { on := 2, ground := Go.Ground.phase }, { on := 3, ground := Go.Ground.phase }, { on := 4, ground := Go.Ground.phase }, { on := 5, ground := Go.Ground.phase }, { on := 6, ground := Go.Ground.phase }, { on := 7, ground := Go.Ground.phase }], guard := none }) (v := .pointer (some ⟨w.heap.size, 0, none⟩)) rfl (by kernel_rfl) (by kernel_rfl) (by kernel_rfl) (fun _ _ _ h => h) (Or.inl ⟨by rfl, fun W hW => by go_simp⟩) (by assumption) ?_
          try simp only [Act.put, List.setIfInBounds_toArray, List.set_cons_zero, List.set_cons_succ]
          refine wpAnyH_ready (rs := [10]) (by kernel_rfl) (by simp) ?_
          refine AllReadyH.cons (o := { dst := none, op := Go.Op.store 64 (Go.Operand.tmp 28) (Go.Operand.tmp 26), type := 0, pos := _, after := #[{ on := 9, ground := Go.Ground.data }, { on := 7, ground := Go.Ground.data }, { on := 7, ground := Go.Ground.chain }, { on := 0, ground := Go.Ground.phase }, { on := 1, ground := Go.Ground.phase }, { on := 2, ground := Go.Ground.phase }, { on := 3, ground := Go.Ground.phase }, { on := 4, ground := Go.Ground.phase }, { on := 5, ground := Go.Ground.phase }, { on := 6, ground := Go.Ground.phase }, { on := 7, ground := Go.Ground.phase }], guard := none }) rfl (fun K hK => ?_) AllReadyH.nil
          refine step_store rfl 64 (.tmp 28) (.tmp 26) rfl _ _ rfl rfl _ (rst64 _ _ _ _ _ _ _ _ w3 f1 f2) ?_
          refine hK.out _ _ trivial (fun hHeld => ?_)
          clear hK K hHeld
          try simp only [Act.put, List.setIfInBounds_toArray, List.set_cons_zero, List.set_cons_succ]
          refine wpAnyH_done (by kernel_rfl) ?_ _
          refine NoPanic.normal ?_
          clear hHeld
          go_wp2
          go_roundw
          case rel => first | exact f3 | ((repeat apply Exists.intro); exact ⟨f3, rfl⟩)
          case measure => simp [intOf]; omega
    · have k1 : ¬ (k : Int) < (n : Int) := by omega
      have ek : k = n := by omega
      subst ek
      have f1 := hr.disk (by simp; omega) (by simp; omega)
      clear hr
      go_wp2
      go_ret2
      exact ⟨rfl, f1, hw⟩
end Go.Proofs.YthnkakjelhnjdaaGreatDoor
