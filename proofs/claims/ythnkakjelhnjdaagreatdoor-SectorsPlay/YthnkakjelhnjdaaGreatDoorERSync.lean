/- The walk of the document's Sync. -/
import Derived.Test.YthnkakjelhnjdaaGreatDoorERMem
import Derived.Test.YthnkakjelhnjdaaGreatDoorDSync
set_option linter.unusedSimpArgs false
set_option linter.unusedVariables false
namespace Go.Proofs.YthnkakjelhnjdaaGreatDoor
open Go.RowKit Go.Maps

theorem rld64 (b o : Nat) (ao : Option Addr) (n c : Nat) (W : World) (h : W.cell? ⟨b, o, none⟩ = some (.slice ao n c)) : (Instr.loadAt 64 (.pointer (some ⟨b, o, none⟩))).run Tryz.prog W = .ok (.slice ao n c) W := by go_simp
theorem rld65 (b o : Nat) (ao : Option Addr) (n c : Nat) (W : World) (h : W.cell? ⟨b, o, none⟩ = some (.slice ao n c)) : (Instr.loadAt 65 (.pointer (some ⟨b, o, none⟩))).run Tryz.prog W = .ok (.slice ao n c) W := by go_simp
theorem rld45 (b o : Nat) (ao : Option Addr) (n c : Nat) (W : World) (h : W.cell? ⟨b, o, none⟩ = some (.slice ao n c)) : (Instr.loadAt 45 (.pointer (some ⟨b, o, none⟩))).run Tryz.prog W = .ok (.slice ao n c) W := by go_simp
theorem rldi (b o : Nat) (x : Int) (W : World) (h : W.cell? ⟨b, o, none⟩ = some (.int .i64 x)) : (Instr.loadAt 3 (.pointer (some ⟨b, o, none⟩))).run Tryz.prog W = .ok (.int .i64 x) W := by go_simp
theorem rst45 (b o : Nat) (ao ap : Option Addr) (n c m e : Nat) (W : World) (h : W.cell? ⟨b, o, none⟩ = some (.slice ao n c)) (hf : W.frozen? ⟨b, o, none⟩ = false) : (Instr.storeAt 45 (.pointer (some ⟨b, o, none⟩)) (.slice ap m e)).run Tryz.prog W = .ok () (W.setCell ⟨b, o, none⟩ (.slice ap m e)) := by go_simp

set_option maxHeartbeats 4000000 in
set_option maxRecDepth 1000000 in
theorem rsync_ok {w : World} {B : Nat} {S : Nat → Prop} {d : Dk} (h : RfAt w B S d) (hn : d.ws.length ≤ 1000000) :
    Calls Tryz.prog 10 #[.pointer (some ⟨B, 0, none⟩)] w fun e w' =>
      e = .returned (.int .i64 0) ∧ RfAt w' B S d.sync ∧ Wrote S w w' := by
  have h0 := h.ok
  have hmax := h0.max
  obtain ⟨vs, vw, P, Q, h⟩ := h
  obtain ⟨g, cs, rfl, hs1, hs2, -, -, -⟩ := own_pos h.rs h0.pos
  obtain ⟨aw, cw, hvw, hw1, hw2⟩ := own_len' h.rw_
  subst hvw
  unfold maxLen at hw2
  obtain ⟨nS, hnS⟩ : ∃ nS, nS = d.sure.length := ⟨_, rfl⟩
  obtain ⟨nW, hnW⟩ : ∃ nW, nW = d.ws.length := ⟨_, rfl⟩
  rw [← hnS, ← hnW] at h
  rw [← hnS] at hmax hs1
  rw [← hnW] at hn hw1
  have hHS : Hid (nS = d.sure.length) := hnS
  have hHW : Hid (nW = d.ws.length) := hnW
  clear hnS hnW
  go_enter Tryz.func10, Tryz.ntmps10
  go_wp2
  go_loopw [3] (fun x wr => ∃ k : Nat, k ≤ nW ∧ x = .int .i64 (k : Int) ∧ Wrote S w wr ∧ ∃ P, RfX wr B S (.slice (some ⟨g, 0, none⟩) nS cs) (.slice aw nW cw) P Q { d with sure := syTo d k }) (fun x _ => nW - (intOf x).toNat)
  case atStart => exact ⟨0, Nat.zero_le _, rfl, Wrote.refl _ _, P, h⟩
  case round =>
    obtain ⟨k, hk, rfl, hw, P1, hr⟩ := hrel
    have q1 := hr.head
    have c0 := pair_cell q1
    by_cases hkn : k < nW
    · have k1 : (k : Int) < (nW : Int) := by omega
      have hkd : k < d.ws.length := by rw [← hHW.out]; exact hkn
      obtain ⟨gw, cw', ew, -, -, -, -, cws⟩ := own_pos hr.rw_ (by show 0 < d.ws.length; omega)
      obtain ⟨rfl, rfl⟩ : aw = some ⟨gw, 0, none⟩ ∧ cw = cw' := by cases ew; exact ⟨rfl, rfl⟩
      clear ew
      obtain ⟨w1, w2⟩ := wsOf_get d.ws Q hkd
      obtain ⟨aq, cq, eq, -, -⟩ := own_len' (hr.qs k hkd).1
      have x1 := cws _ _ w1
      have x2 := cws _ _ w2
      obtain ⟨at_, hat⟩ : ∃ at_, at_ = (d.ws.getD k (0, [])).1 := ⟨_, rfl⟩
      have eg : (d.ws[k]'hkd).1 = at_ := by rw [hat]; simp [hkd]
      rw [eg] at x1
      rw [eq] at x2
      have hatn : at_ < nS := by rw [hHS.out, ← eg]; exact (h0.ats _ (List.getElem_mem hkd)).1
      obtain ⟨hp1, hp2⟩ := rf_put hr hkd h0
      rw [← hat, eq] at hp1 hp2
      have hsl : (syTo d k).length = nS := by rw [hHS.out]; exact syTo_len d k
      obtain ⟨gs', cs', es, -, -, -, fz, css⟩ := own_pos hr.rs (by show 0 < (syTo d k).length; omega)
      obtain ⟨rfl, rfl⟩ : g = gs' ∧ cs = cs' := by cases es; exact ⟨rfl, rfl⟩
      clear es
      have y1 := css _ _ (rowsOf_get P1 (show at_ < (syTo d k).length by omega))
      obtain ⟨ap, cp, ep, -, -⟩ := own_len' (hr.ps at_ (show at_ < (syTo d k).length by omega)).1
      rw [ep] at y1
      have st3 := rst45 g at_ ap aq 64 cp 64 cq wr.drew y1 (fz at_)
      have fin : ∃ k1 : Nat, k1 ≤ nW ∧ Value.int .i64 ((k : Int) + 1) = .int .i64 (k1 : Int) ∧ Wrote S w (wr.drew.setCell ⟨g, at_, none⟩ (.slice aq 64 cq)) ∧ ∃ P, RfX (wr.drew.setCell ⟨g, at_, none⟩ (.slice aq 64 cq)) B S (.slice (some ⟨g, 0, none⟩) nS cs) (.slice (some ⟨gw, 0, none⟩) nW cw) P Q { d with sure := syTo d k1 } :=
        ⟨k + 1, by omega, by simp, hw.trans (by exact ⟨rfl, rfl, rfl, hp2.size, hp2.block⟩), _, hp1.kept (fun _ _ => rfl) (Nat.le_refl _)⟩
      have held3 : (wr.drew.setCell ⟨g, at_, none⟩ (.slice aq 64 cq)).heap[B]? = some (.cells #[.slice (some ⟨g, 0, none⟩) nS cs, .slice (some ⟨gw, 0, none⟩) nW cw] 67 (0, 0)) ∧ (wr.drew.setCell ⟨g, at_, none⟩ (.slice aq 64 cq)).cell? ⟨gw, k * 2, none⟩ = some (.int .i64 (at_ : Int)) ∧ (wr.drew.setCell ⟨g, at_, none⟩ (.slice aq 64 cq)).cell? ⟨gw, k * 2 + 1, none⟩ = some (.slice aq 64 cq) := by
        obtain ⟨gw', cw', ew, -, -, -, -, cws'⟩ := own_pos hp1.rw_ (by show 0 < d.ws.length; omega)
        obtain ⟨rfl, rfl⟩ : gw = gw' ∧ cw = cw' := by cases ew; exact ⟨rfl, rfl⟩
        have z1 := cws' _ _ w1
        have z2 := cws' _ _ w2
        rw [eg] at z1
        rw [eq] at z2
        exact ⟨hp1.head, z1, z2⟩
      have k2 : ¬ nW ≤ k := by omega
      have a1 : ¬ nS ≤ at_ := by omega
      have a2 : (at_ : Int) < (nS : Int) := by omega
      clear hp1 hp2 hr w1 w2 eq eg hat cws css fz y1 h hw
      go_wp2_with fail
      refine wp_region_noPanic ?_
      refine wp_region_held_drew (S := fun W => W.heap[B]? = some (.cells #[.slice (some ⟨g, 0, none⟩) nS cs, .slice (some ⟨gw, 0, none⟩) nW cw] 67 (0, 0)) ∧ W.cell? ⟨gw, k * 2, none⟩ = some (.int .i64 (at_ : Int)) ∧ W.cell? ⟨gw, k * 2 + 1, none⟩ = some (.slice aq 64 cq)) (by kernel_rfl) ⟨q1, x1, x2⟩ (fun hHeld => ?_)
      refine wpAnyH_take (i := 0) (oi := { dst := some 13, op := Go.Op.move (Go.Operand.tmp 0), type := 28, pos := _, after := #[], guard := none }) (v := .pointer (some ⟨B, 0, none⟩)) rfl (by kernel_rfl) (by kernel_rfl) (by kernel_rfl) (fun _ _ _ h => h) (Or.inl ⟨by rfl, fun W hW => by go_simp⟩) (by assumption) ?_
      try simp only [Act.put, List.setIfInBounds_toArray, List.set_cons_zero, List.set_cons_succ]
      refine wpAnyH_take (i := 1) (oi := { dst := some 14, op := Go.Op.nilCheck (Go.Operand.tmp 13), type := 0, pos := _, after := #[{ on := 0, ground := Go.Ground.data }], guard := none }) (v := .pointer (some ⟨B, 0, none⟩)) rfl (by kernel_rfl) (by kernel_rfl) (by kernel_rfl) (fun _ _ _ h => h) (Or.inl ⟨by rfl, fun W hW => by go_simp⟩) (by assumption) ?_
      try simp only [Act.put, List.setIfInBounds_toArray, List.set_cons_zero, List.set_cons_succ]
      refine wpAnyH_take (i := 2) (oi := { dst := some 15, op := Go.Op.fieldAddr 67 (Go.Operand.tmp 14) 0, type := 0, pos := _, after := #[{ on := 1, ground := Go.Ground.data }], guard := none }) (v := .pointer (some ⟨B, 0, none⟩)) rfl (by kernel_rfl) (by kernel_rfl) (by kernel_rfl) (fun _ _ _ h => h) (Or.inl ⟨by rfl, fun W hW => by go_simp⟩) (by assumption) ?_
      try simp only [Act.put, List.setIfInBounds_toArray, List.set_cons_zero, List.set_cons_succ]
      refine wpAnyH_take (i := 3) (oi := { dst := some 16, op := Go.Op.load 64 (Go.Operand.tmp 15), type := 64, pos := _, after := #[{ on := 2, ground := Go.Ground.data }], guard := none }) (v := .slice (some ⟨g, 0, none⟩) nS cs) rfl (by kernel_rfl) (by kernel_rfl) (by kernel_rfl) (fun _ _ _ h => h) (yieldsIf_load (by rfl) 64 (.tmp 15) rfl _ _ rfl (fun W hW => rld64 _ _ _ _ _ W (pair_cell hW.1).1)) (by assumption) ?_
      try simp only [Act.put, List.setIfInBounds_toArray, List.set_cons_zero, List.set_cons_succ]
      refine wpAnyH_take (i := 4) (oi := { dst := some 17, op := Go.Op.move (Go.Operand.tmp 0), type := 28, pos := _, after := #[], guard := none }) (v := .pointer (some ⟨B, 0, none⟩)) rfl (by kernel_rfl) (by kernel_rfl) (by kernel_rfl) (fun _ _ _ h => h) (Or.inl ⟨by rfl, fun W hW => by go_simp⟩) (by assumption) ?_
      try simp only [Act.put, List.setIfInBounds_toArray, List.set_cons_zero, List.set_cons_succ]
      refine wpAnyH_take (i := 5) (oi := { dst := some 18, op := Go.Op.nilCheck (Go.Operand.tmp 17), type := 0, pos := _, after := #[{ on := 4, ground := Go.Ground.data }], guard := none }) (v := .pointer (some ⟨B, 0, none⟩)) rfl (by kernel_rfl) (by kernel_rfl) (by kernel_rfl) (fun _ _ _ h => h) (Or.inl ⟨by rfl, fun W hW => by go_simp⟩) (by assumption) ?_
      try simp only [Act.put, List.setIfInBounds_toArray, List.set_cons_zero, List.set_cons_succ]
      refine wpAnyH_take (i := 6) (oi := { dst := some 19, op := Go.Op.fieldAddr 67 (Go.Operand.tmp 18) 1, type := 0, pos := _, after := #[{ on := 5, ground := Go.Ground.data }], guard := none }) (v := .pointer (some ⟨B, 1, none⟩)) rfl (by kernel_rfl) (by kernel_rfl) (by kernel_rfl) (fun _ _ _ h => h) (Or.inl ⟨by rfl, fun W hW => by go_simp⟩) (by assumption) ?_
      try simp only [Act.put, List.setIfInBounds_toArray, List.set_cons_zero, List.set_cons_succ]
      refine wpAnyH_take (i := 7) (oi := { dst := some 20, op := Go.Op.load 65 (Go.Operand.tmp 19), type := 65, pos := _, after := #[{ on := 6, ground := Go.Ground.data }], guard := none }) (v := .slice (some ⟨gw, 0, none⟩) nW cw) rfl (by kernel_rfl) (by kernel_rfl) (by kernel_rfl) (fun _ _ _ h => h) (yieldsIf_load (by rfl) 65 (.tmp 19) rfl _ _ rfl (fun W hW => rld65 _ _ _ _ _ W (pair_cell hW.1).2)) (by assumption) ?_
      try simp only [Act.put, List.setIfInBounds_toArray, List.set_cons_zero, List.set_cons_succ]
      refine wpAnyH_take (i := 8) (oi := { dst := some 21, op := Go.Op.move (Go.Operand.tmp 3), type := 3, pos := _, after := #[], guard := none }) (v := .int .i64 (k : Int)) rfl (by kernel_rfl) (by kernel_rfl) (by kernel_rfl) (fun _ _ _ h => h) (Or.inl ⟨by rfl, fun W hW => by go_simp⟩) (by assumption) ?_
      try simp only [Act.put, List.setIfInBounds_toArray, List.set_cons_zero, List.set_cons_succ]
      refine wpAnyH_take (i := 9) (oi := { dst := some 22, op := Go.Op.indexAddr 65 (Go.Operand.tmp 20) (Go.Operand.tmp 21), type := 0, pos := _, after := #[{ on := 7, ground := Go.Ground.data }, { on := 8, ground := Go.Ground.data }], guard := none }) (v := .pointer (some ⟨gw, k * 2, none⟩)) rfl (by kernel_rfl) (by kernel_rfl) (by kernel_rfl) (fun _ _ _ h => h) (Or.inl ⟨by rfl, fun W hW => by go_simp⟩) (by assumption) ?_
      try simp only [Act.put, List.setIfInBounds_toArray, List.set_cons_zero, List.set_cons_succ]
      refine wpAnyH_take (i := 10) (oi := { dst := some 23, op := Go.Op.fieldAddr 78 (Go.Operand.tmp 22) 0, type := 0, pos := _, after := #[{ on := 9, ground := Go.Ground.data }], guard := none }) (v := .pointer (some ⟨gw, k * 2, none⟩)) rfl (by kernel_rfl) (by kernel_rfl) (by kernel_rfl) (fun _ _ _ h => h) (Or.inl ⟨by rfl, fun W hW => by go_simp⟩) (by assumption) ?_
      try simp only [Act.put, List.setIfInBounds_toArray, List.set_cons_zero, List.set_cons_succ]
      refine wpAnyH_take (i := 11) (oi := { dst := some 24, op := Go.Op.load 3 (Go.Operand.tmp 23), type := 3, pos := _, after := #[{ on := 10, ground := Go.Ground.data }], guard := none }) (v := .int .i64 (at_ : Int)) rfl (by kernel_rfl) (by kernel_rfl) (by kernel_rfl) (fun _ _ _ h => h) (yieldsIf_load (by rfl) 3 (.tmp 23) rfl _ _ rfl (fun W hW => rldi _ _ _ W hW.2.1)) (by assumption) ?_
      try simp only [Act.put, List.setIfInBounds_toArray, List.set_cons_zero, List.set_cons_succ]
      refine wpAnyH_take (i := 12) (oi := { dst := some 25, op := Go.Op.move (Go.Operand.tmp 0), type := 28, pos := _, after := #[], guard := none }) (v := .pointer (some ⟨B, 0, none⟩)) rfl (by kernel_rfl) (by kernel_rfl) (by kernel_rfl) (fun _ _ _ h => h) (Or.inl ⟨by rfl, fun W hW => by go_simp⟩) (by assumption) ?_
      try simp only [Act.put, List.setIfInBounds_toArray, List.set_cons_zero, List.set_cons_succ]
      refine wpAnyH_take (i := 13) (oi := { dst := some 26, op := Go.Op.nilCheck (Go.Operand.tmp 25), type := 0, pos := _, after := #[{ on := 12, ground := Go.Ground.data }], guard := none }) (v := .pointer (some ⟨B, 0, none⟩)) rfl (by kernel_rfl) (by kernel_rfl) (by kernel_rfl) (fun _ _ _ h => h) (Or.inl ⟨by rfl, fun W hW => by go_simp⟩) (by assumption) ?_
      try simp only [Act.put, List.setIfInBounds_toArray, List.set_cons_zero, List.set_cons_succ]
      refine wpAnyH_take (i := 14) (oi := { dst := some 27, op := Go.Op.fieldAddr 67 (Go.Operand.tmp 26) 1, type := 0, pos := _, after := #[{ on := 13, ground := Go.Ground.data }], guard := none }) (v := .pointer (some ⟨B, 1, none⟩)) rfl (by kernel_rfl) (by kernel_rfl) (by kernel_rfl) (fun _ _ _ h => h) (Or.inl ⟨by rfl, fun W hW => by go_simp⟩) (by assumption) ?_
      try simp only [Act.put, List.setIfInBounds_toArray, List.set_cons_zero, List.set_cons_succ]
      refine wpAnyH_take (i := 15) (oi := { dst := some 28, op := Go.Op.load 65 (Go.Operand.tmp 27), type := 65, pos := _, after := #[{ on := 14, ground := Go.Ground.data }], guard := none }) (v := .slice (some ⟨gw, 0, none⟩) nW cw) rfl (by kernel_rfl) (by kernel_rfl) (by kernel_rfl) (fun _ _ _ h => h) (yieldsIf_load (by rfl) 65 (.tmp 27) rfl _ _ rfl (fun W hW => rld65 _ _ _ _ _ W (pair_cell hW.1).2)) (by assumption) ?_
      try simp only [Act.put, List.setIfInBounds_toArray, List.set_cons_zero, List.set_cons_succ]
      refine wpAnyH_take (i := 16) (oi := { dst := some 29, op := Go.Op.move (Go.Operand.tmp 3), type := 3, pos := _, after := #[], guard := none }) (v := .int .i64 (k : Int)) rfl (by kernel_rfl) (by kernel_rfl) (by kernel_rfl) (fun _ _ _ h => h) (Or.inl ⟨by rfl, fun W hW => by go_simp⟩) (by assumption) ?_
      try simp only [Act.put, List.setIfInBounds_toArray, List.set_cons_zero, List.set_cons_succ]
      refine wpAnyH_take (i := 17) (oi := { dst := some 30, op := Go.Op.indexAddr 65 (Go.Operand.tmp 28) (Go.Operand.tmp 29), type := 0, pos := _, after := #[{ on := 15, ground := Go.Ground.data }, { on := 16, ground := Go.Ground.data }], guard := none }) (v := .pointer (some ⟨gw, k * 2, none⟩)) rfl (by kernel_rfl) (by kernel_rfl) (by kernel_rfl) (fun _ _ _ h => h) (Or.inl ⟨by rfl, fun W hW => by go_simp⟩) (by assumption) ?_
      try simp only [Act.put, List.setIfInBounds_toArray, List.set_cons_zero, List.set_cons_succ]
      refine wpAnyH_take (i := 18) (oi := { dst := some 31, op := Go.Op.fieldAddr 78 (Go.Operand.tmp 30) 1, type := 0, pos := _, after := #[{ on := 17, ground := Go.Ground.data }], guard := none }) (v := .pointer (some ⟨gw, k * 2 + 1, none⟩)) rfl (by kernel_rfl) (by kernel_rfl) (by kernel_rfl) (fun _ _ _ h => h) (Or.inl ⟨by rfl, fun W hW => by go_simp⟩) (by assumption) ?_
      try simp only [Act.put, List.setIfInBounds_toArray, List.set_cons_zero, List.set_cons_succ]
      refine wpAnyH_take (i := 19) (oi := { dst := some 32, op := Go.Op.load 45 (Go.Operand.tmp 31), type := 45, pos := _, after := #[{ on := 18, ground := Go.Ground.data }], guard := none }) (v := .slice aq 64 cq) rfl (by kernel_rfl) (by kernel_rfl) (by kernel_rfl) (fun _ _ _ h => h) (yieldsIf_load (by rfl) 45 (.tmp 31) rfl _ _ rfl (fun W hW => rld45 _ _ _ _ _ W hW.2.2)) (by assumption) ?_
      try simp only [Act.put, List.setIfInBounds_toArray, List.set_cons_zero, List.set_cons_succ]
      refine wpAnyH_take (i := 20) (oi := { dst := some 33, op := Go.Op.indexAddr 64 (Go.Operand.tmp 16) (Go.Operand.tmp 24), type := 0, pos := _, after := #[{ on := 3, ground := Go.Ground.data }, { on := 11, ground := Go.Ground.data }, { on := 0, ground := Go.Ground.phase }, { on := 1, ground := Go.Ground.phase }, { on := 2, ground := Go.Ground.phase }, { on := 3, ground := Go.Ground.phase }, { on := 4, ground := Go.Ground.phase }, { on := 5, ground := Go.Ground.phase }, { on := 6, ground := Go.Ground.phase }, { on := 7, ground := Go.Ground.phase }, { on := 8, ground := Go.Ground.phase }, { on := 9, ground := Go.Ground.phase }, { on := 10, ground := Go.Ground.phase }, { on := 11, ground := Go.Ground.phase }, { on := 12, ground := Go.Ground.phase }, { on := 13, ground := Go.Ground.phase }, { on := 14, ground := Go.Ground.phase }, { on := 15, ground := Go.Ground.phase }, { on := 16, ground := Go.Ground.phase }, { on := 17, ground := Go.Ground.phase }, { on := 18, ground := Go.Ground.phase }, { on := 19, ground := Go.Ground.phase }], guard := none }) (v := .pointer (some ⟨g, at_, none⟩)) rfl (by kernel_rfl) (by kernel_rfl) (by kernel_rfl) (fun _ _ _ h => h) (Or.inl ⟨by rfl, fun W hW => by go_simp⟩) (by assumption) ?_
      try simp only [Act.put, List.setIfInBounds_toArray, List.set_cons_zero, List.set_cons_succ]
      refine wpAnyH_ready (rs := [21]) (by kernel_rfl) (by simp) ?_
      refine AllReadyH.cons (o := { dst := none, op := Go.Op.store 45 (Go.Operand.tmp 33) (Go.Operand.tmp 32), type := 0, pos := _, after := #[{ on := 20, ground := Go.Ground.data }, { on := 19, ground := Go.Ground.data }, { on := 0, ground := Go.Ground.phase }, { on := 1, ground := Go.Ground.phase }, { on := 2, ground := Go.Ground.phase }, { on := 3, ground := Go.Ground.phase }, { on := 4, ground := Go.Ground.phase }, { on := 5, ground := Go.Ground.phase }, { on := 6, ground := Go.Ground.phase }, { on := 7, ground := Go.Ground.phase }, { on := 8, ground := Go.Ground.phase }, { on := 9, ground := Go.Ground.phase }, { on := 10, ground := Go.Ground.phase }, { on := 11, ground := Go.Ground.phase }, { on := 12, ground := Go.Ground.phase }, { on := 13, ground := Go.Ground.phase }, { on := 14, ground := Go.Ground.phase }, { on := 15, ground := Go.Ground.phase }, { on := 16, ground := Go.Ground.phase }, { on := 17, ground := Go.Ground.phase }, { on := 18, ground := Go.Ground.phase }, { on := 19, ground := Go.Ground.phase }], guard := none }) rfl (fun K hK => ?_) AllReadyH.nil
      refine step_store rfl 45 (.tmp 33) (.tmp 32) rfl (.pointer (some ⟨g, at_, none⟩)) (.slice aq 64 cq) rfl rfl _ st3 ?_
      refine hK.out _ _ held3 (fun _ => ?_)
      clear hK K hHeld
      try simp only [Act.put, List.setIfInBounds_toArray, List.set_cons_zero, List.set_cons_succ]
      refine wpAnyH_done (by kernel_rfl) ?_ _
      refine NoPanic.normal ?_
      go_wp2
      go_roundw
      case rel => first | exact fin | ((repeat apply Exists.intro); exact ⟨fin, rfl⟩)
      case measure => simp [intOf]; omega
    · have k1 : ¬ (k : Int) < (nW : Int) := by omega
      have ek : k = d.ws.length := by rw [← hHW.out]; omega
      rw [ek] at hr
      obtain ⟨f1, f2⟩ := rf_none hr
      have z := box_frozen (i := 1) q1
      have f3 := hw.trans f2
      clear hr f2 q1
      go_wp2
      go_ret
      exact ⟨rfl, f1, f3⟩
end Go.Proofs.YthnkakjelhnjdaaGreatDoor
