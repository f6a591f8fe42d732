/- The walk of SectorsPlay. -/
import Derived.Test.YthnkakjelhnjdaaGreatDoorEPlay0
import Derived.Test.YthnkakjelhnjdaaGreatDoorGSteps
set_option linter.unusedSimpArgs false
set_option linter.unusedVariables false
namespace Go.Proofs.YthnkakjelhnjdaaGreatDoor
open Go.RowKit Go.Maps

theorem cells_same {KK : Nat → Prop} {W W' : World} {X : Nat} {u v : Value} (h : Same KK W W') (k : KK X) (hc : W.cell? ⟨X, 1, none⟩ = some u ∧ W.cell? ⟨X, 2, none⟩ = some v) : W'.cell? ⟨X, 1, none⟩ = some u ∧ W'.cell? ⟨X, 2, none⟩ = some v :=
  ⟨(World.cell?_of_block (w := W) (a := ⟨X, 1, none⟩) (h X k)).trans hc.1, (World.cell?_of_block (w := W) (a := ⟨X, 2, none⟩) (h X k)).trans hc.2⟩
theorem ldI (b o : Nat) (v : Int) (W : World) (h : W.cell? ⟨b, o, none⟩ = some (.int .i64 v)) : (Instr.loadAt 3 (.pointer (some ⟨b, o, none⟩))).run Tryz.prog W = .ok (.int .i64 v) W := by go_simp
theorem ldS (b o : Nat) (ao : Option Addr) (n c : Nat) (W : World) (h : W.cell? ⟨b, o, none⟩ = some (.slice ao n c)) : (Instr.loadAt 45 (.pointer (some ⟨b, o, none⟩))).run Tryz.prog W = .ok (.slice ao n c) W := by go_simp
theorem p_lt {w0 W : World} {K : Nat → Prop} {bk B C n : Nat} {d d' : Dk} (h : PI w0 W K bk B C n d d') : ∀ x, K x → x < W.heap.size := by
  obtain ⟨SD, S, v', E, h⟩ := h
  exact fun x hx => (h.k x hx).1
set_option maxHeartbeats 16000000 in
set_option maxRecDepth 1000000 in
theorem play_any (w : World) (n : Int) (v : Value) (l : List ActV) (h : ActsAt w v l) :
    Calls Tryz.prog 3 #[.int .i64 n, v] w fun e w' => e = .returned (.bool true) ∧ Below w.heap.size w w' := by
  have kg := great_bool w v l h
  go_enter Tryz.func3, Tryz.ntmps3
  go_wp2_with (go_at_call 4; refine kg.mono ?_; rintro e w' ⟨rfl, gr, rfl, hg⟩)
  · go_ret
    exact ⟨rfl, Below.refl _ _⟩
  · have hgf : gr = false := by assumption
    obtain ⟨h200, hbl⟩ := hg hgf
    clear hg
    subst hgf
    by_cases hnr : n < 1 ∨ 4096 < n
    · have k1 := new_bad w n hnr
      have k2 := rnew_bad w n hnr
      clear hnr
      go_wp2_with (first
        | (go_at_call 5; refine k1.mono ?_; rintro e w' ⟨rfl, rfl⟩)
        | (go_at_call 6; refine k2.mono ?_; rintro e w' ⟨rfl, rfl⟩))
      go_ret
      exact ⟨rfl, Below.refl _ _⟩
    · obtain ⟨m, rfl⟩ : ∃ m : Nat, n = (m : Int) := ⟨n.toNat, by omega⟩
      have k1 := new_ok w m (by omega) (by omega)
      have k2 := fun W => rnew_ok W m (by omega) (by omega)
      go_wp2_with fail
      refine k1.mono ?_
      rintro e w1 ⟨B0, SD, rfl, b1, r1, s1⟩
      have k3 := k2 w1
      go_wp2_with fail
      refine k3.mono ?_
      rintro e w2 ⟨rfl, r2, b2⟩
      go_wp2_with fail
      have hP0 := pi_new b1 r1 s1 r2 b2
      have hbk0 : w.heap.size ≤ w2.heap.size := Nat.le_trans b1.size b2.size
      clear b1 r1 s1 r2 b2 k1 k2 k3 hnr kg
      obtain ⟨bk, ebk⟩ : ∃ bk, bk = w2.heap.size := ⟨_, rfl⟩
      obtain ⟨C0, eC0⟩ : ∃ C0, C0 = w1.heap.size := ⟨_, rfl⟩
      obtain ⟨ao, cap, ev, hv1, hv2, -⟩ := h.sl
      subst ev
      unfold maxLen at hv2
      rw [← eC0, ← ebk] at hP0
      rw [← eC0, ← ebk]
      rw [← ebk] at hbk0
      clear eC0 ebk
      go_loopw [5, 7, 10] (fun vd vm x wr => ∃ (i B C n : Nat) (d : Dk), x = .int .i64 (i : Int) ∧ i ≤ l.length ∧ vd = .pointer (some ⟨B, 0, none⟩) ∧ vm = .pointer (some ⟨C, 0, none⟩) ∧ n ≤ 2 * i ∧ d.ws.length ≤ i ∧ PI w wr (fun _ => False) bk B C n d d) (fun _ _ x _ => l.length - (intOf x).toNat)
      case atStart => exact ⟨0, B0, C0, 0, Dk.new m, rfl, Nat.zero_le _, rfl, rfl, Nat.zero_le _, Nat.zero_le _, hP0⟩
      case round =>
        clear hP0
        obtain ⟨i, B, C, n, d, rfl, hi, rfl, rfl, hn, hws, hP⟩ := hrel
        by_cases hil : i < l.length
        · obtain ⟨g0, off, cap', e, hg0, c0, c1, c2, c3, c4⟩ := acts_cell h hil
          obtain ⟨rfl, rfl⟩ : ao = some ⟨g0, off, none⟩ ∧ cap = cap' := by cases e; exact ⟨rfl, rfl⟩
          clear e
          have hok := h.ok _ (List.getElem_mem hil)
          have hbl0 := hbl _ (List.getElem_mem hil)
          generalize l[i]'hil = a at *
          obtain ⟨ab, cb, eb, hb1, hb2, hb3⟩ := hok.b
          rw [eb] at c2
          have hbe := (p_ok hP).2.2.1
          have hbz := (p_ok hP).2.2.2
          have ca : ∀ j u, w.cell? ⟨g0, off + i * 5 + j, none⟩ = some u → wr.cell? ⟨g0, off + i * 5 + j, none⟩ = some u := fun j u hu => (World.cell?_of_block (w := w) (a := ⟨g0, off + i * 5 + j, none⟩) (hbe.block g0 hg0)).trans hu
          have c0 : wr.cell? ⟨g0, off + i * 5, none⟩ = some (.int .u8 (a.kind : Int)) := ca 0 _ c0
          have c1 := ca 1 _ c1
          have c2 := ca 2 _ c2
          have c3 := ca 3 _ c3
          have c4 := ca 4 _ c4
          have hB : Hid (∀ W, Below w.heap.size w W → SlAt 1 bCell W w.heap.size (.slice ab a.b.length cb) a.b) := fun W hW => by rw [← eb]; exact hok.b.kept (fun k hk => hW.block k hk)
          have i1 : (i : Int) < (l.length : Int) := by omega
          have i2 : ¬ l.length ≤ i := by omega
          have i3 : (l.length : Int) ≤ 200 := by omega
          have ktw := twinByte_any (wr.alloc (.cells #[.int .u8 (a.kind : Int), .int .i64 a.at_, .slice ab a.b.length cb, .int .u64 (a.keep : Int), .int .i64 a.torn] 48)) (.slice ab a.b.length cb) a.b ((hB.out _ (hbe.alloc hbz _)).mono (by simp; omega)) (by omega)
          have xa := five_cells (heap_alloc_last wr (.cells #[.int .u8 (a.kind : Int), .int .i64 a.at_, .slice ab a.b.length cb, .int .u64 (a.keep : Int), .int .i64 a.torn] 48))
          have hk256 := hok.kind
          have ha1 := hok.at1
          have ha2 := hok.at2
          have hkeep := hok.keep
          have ht1 := hok.t1
          have ht2 := hok.t2
          go_wp2_with fail
          refine ktw.mono ?_
          rintro e wt ⟨rfl, row, bt⟩
          have bx := below_one wr (.cells #[.int .u8 (a.kind : Int), .int .i64 a.at_, .slice ab a.b.length cb, .int .u64 (a.keep : Int), .int .i64 a.torn] 48)
          have qX := (bt.block wr.heap.size (by simp)).trans (heap_alloc_last wr (.cells #[.int .u8 (a.kind : Int), .int .i64 a.at_, .slice ab a.b.length cb, .int .u64 (a.keep : Int), .int .i64 a.torn] 48))
          obtain ⟨KK, eKK⟩ : ∃ KK : Nat → Prop, KK = fun x => x = wr.heap.size ∨ x = wr.heap.size + 1 := ⟨_, rfl⟩
          have hsz : (wr.alloc (.cells #[.int .u8 (a.kind : Int), .int .i64 a.at_, .slice ab a.b.length cb, .int .u64 (a.keep : Int), .int .i64 a.torn] 48)).heap.size = wr.heap.size + 1 := by simp
          rw [hsz] at row
          have hgl := (row.lt (wr.heap.size + 1) rfl).2
          have hP0 : PI w wt KK bk B C n d d := hP.more (bx.trans (bt.mono (by simp))) (fun x hx => by rw [eKK] at hx; rcases hx with h' | h' <;> exact .inr (by omega))
          have kX : KK wr.heap.size := by rw [eKK]; exact .inl rfl
          have kg : KK (wr.heap.size + 1) := by rw [eKK]; exact .inr rfl
          have hgw : w.heap.size ≤ wr.heap.size + 1 := by omega
          obtain ⟨x0, x1, x2, x3, x4⟩ := five_cells qX
          rw [hsz]
          clear bx bt hP xa ktw eKK ca c0 c1 c2 c3 c4 hsz hbe hbz
          generalize wr.heap.size + 1 = g at *
          generalize wr.heap.size = X at *
          clear hok hb3
          generalize a.at_ = at_ at *
          generalize a.keep = keep at *
          generalize a.torn = torn at *
          obtain ⟨q, eq6⟩ : ∃ q : Nat, q = a.kind % 6 := ⟨_, rfl⟩
          have q6 : (a.kind : Int) % 6 = (q : Int) := by omega
          have q6t : (a.kind : Int).tmod 6 = (q : Int) := by rw [Int.tmod_eq_emod_of_nonneg (by omega)]; exact q6
          have hq : q < 6 := by omega
          clear eq6
          rcases (show q = 0 ∨ q = 1 ∨ q = 2 ∨ q = 3 ∨ q = 4 ∨ q = 5 by omega) with rfl | rfl | rfl | rfl | rfl | rfl
          · by_cases hok : (0 ≤ at_ ∧ at_ < (d.sure.length : Int)) ∧ a.b.length ≤ 64
            · obtain ⟨⟨h0, h1⟩, h64⟩ := hok
              obtain ⟨j, rfl⟩ : ∃ j : Nat, at_ = (j : Int) := ⟨at_.toNat, by omega⟩
              obtain ⟨w3, ew3⟩ : ∃ w3, w3 = wt.drew := ⟨_, rfl⟩
              have b03 : Below wt.heap.size wt w3 := by rw [ew3]; exact ⟨rfl, rfl, rfl, Nat.le_refl _, fun _ _ => rfl⟩
              obtain ⟨hP3, z3⟩ := hP0.kept b03
              have S3 : w3.cell? ⟨X, 1, none⟩ = some (.int .i64 (j : Int)) ∧ w3.cell? ⟨X, 2, none⟩ = some (.slice ab a.b.length cb) := cells_same z3 kX ⟨x1, x2⟩
              have kw := p_write hP3 j (by omega) (.slice (some ⟨g, 0, none⟩) a.b.length (a.b.length + 1)) a.b (twin_inE (own_kept row (w' := w3) (fun b e => by cases e; exact z3 g kg))) (by omega) (by omega)
              have kr : ∀ W, PI w W KK bk B C n (d.write j a.b) d → Calls Tryz.prog 9 #[.pointer (some ⟨C, 0, none⟩), .int .i64 (j : Int), .slice ab a.b.length cb] W fun e W' => e = .returned (.int .i64 0) ∧ PI w W' KK bk B C n (d.write j a.b) (d.write j a.b) ∧ Same KK W W' := fun W h => p_rwrite h j (by omega) _ a.b ((hB.out W (p_ok h).2.2.1).mono (p_ok h).2.2.2) (by omega) (by omega)
              clear hP0 b03
              go_wp2_with fail
              refine wp_region_noPanic ?_
              refine wp_region_held_drew (S := fun W => W.cell? ⟨X, 1, none⟩ = some (.int .i64 (j : Int)) ∧ W.cell? ⟨X, 2, none⟩ = some (.slice ab a.b.length cb)) (by kernel_rfl) (by rw [← ew3]; exact S3) (fun hHeld => ?_)
              rw [← ew3] at hHeld ⊢
              clear ew3
              refine wpAnyH_take (i := 0) (oi := { dst := some 109, op := Go.Op.move (Go.Operand.tmp 5), type := 24, pos := _, after := #[], guard := none }) (v := .pointer (some ⟨B, 0, none⟩)) rfl (by kernel_rfl) (by kernel_rfl) (by kernel_rfl) (fun _ _ _ h => h) (Or.inl ⟨by rfl, fun W hW => by go_simp⟩) (by assumption) ?_
              try simp only [Act.put, List.setIfInBounds_toArray, List.set_cons_zero, List.set_cons_succ]
              refine wpAnyH_take (i := 1) (oi := { dst := some 110, op := Go.Op.fieldAddr 48 (Go.Operand.tmp 11) 1, type := 0, pos := _, after := #[], guard := none }) (v := .pointer (some ⟨X, 1, none⟩)) rfl (by kernel_rfl) (by kernel_rfl) (by kernel_rfl) (fun _ _ _ h => h) (Or.inl ⟨by rfl, fun W hW => by go_simp⟩) (by assumption) ?_
              try simp only [Act.put, List.setIfInBounds_toArray, List.set_cons_zero, List.set_cons_succ]
              refine wpAnyH_take (i := 2) (oi := { dst := some 111, op := Go.Op.load 3 (Go.Operand.tmp 110), type := 3, pos := _, after := #[{ on := 1, ground := Go.Ground.data }], guard := none }) (v := .int .i64 (j : Int)) rfl (by kernel_rfl) (by kernel_rfl) (by kernel_rfl) (fun _ _ _ h => h) (yieldsIf_load (by rfl) 3 (.tmp 110) rfl _ _ rfl (fun W hW => ldI _ _ _ W hW.1)) (by assumption) ?_
              try simp only [Act.put, List.setIfInBounds_toArray, List.set_cons_zero, List.set_cons_succ]
              refine wpAnyH_take (i := 3) (oi := { dst := some 112, op := Go.Op.move (Go.Operand.tmp 12), type := 45, pos := _, after := #[], guard := none }) (v := .slice (some ⟨g, 0, none⟩) a.b.length (a.b.length + 1)) rfl (by kernel_rfl) (by kernel_rfl) (by kernel_rfl) (fun _ _ _ h => h) (Or.inl ⟨by rfl, fun W hW => by go_simp⟩) (by assumption) ?_
              try simp only [Act.put, List.setIfInBounds_toArray, List.set_cons_zero, List.set_cons_succ]
              refine wpAnyH_take (i := 5) (oi := { dst := some 114, op := Go.Op.move (Go.Operand.tmp 7), type := 28, pos := _, after := #[], guard := none }) (v := .pointer (some ⟨C, 0, none⟩)) rfl (by kernel_rfl) (by kernel_rfl) (by kernel_rfl) (fun _ _ _ h => h) (Or.inl ⟨by rfl, fun W hW => by go_simp⟩) (by assumption) ?_
              try simp only [Act.put, List.setIfInBounds_toArray, List.set_cons_zero, List.set_cons_succ]
              refine wpAnyH_take (i := 6) (oi := { dst := some 115, op := Go.Op.fieldAddr 48 (Go.Operand.tmp 11) 1, type := 0, pos := _, after := #[], guard := none }) (v := .pointer (some ⟨X, 1, none⟩)) rfl (by kernel_rfl) (by kernel_rfl) (by kernel_rfl) (fun _ _ _ h => h) (Or.inl ⟨by rfl, fun W hW => by go_simp⟩) (by assumption) ?_
              try simp only [Act.put, List.setIfInBounds_toArray, List.set_cons_zero, List.set_cons_succ]
              refine wpAnyH_take (i := 7) (oi := { dst := some 116, op := Go.Op.load 3 (Go.Operand.tmp 115), type := 3, pos := _, after := #[{ on := 6, ground := Go.Ground.data }], guard := none }) (v := .int .i64 (j : Int)) rfl (by kernel_rfl) (by kernel_rfl) (by kernel_rfl) (fun _ _ _ h => h) (yieldsIf_load (by rfl) 3 (.tmp 115) rfl _ _ rfl (fun W hW => ldI _ _ _ W hW.1)) (by assumption) ?_
              try simp only [Act.put, List.setIfInBounds_toArray, List.set_cons_zero, List.set_cons_succ]
              refine wpAnyH_take (i := 8) (oi := { dst := some 117, op := Go.Op.fieldAddr 48 (Go.Operand.tmp 11) 2, type := 0, pos := _, after := #[], guard := none }) (v := .pointer (some ⟨X, 2, none⟩)) rfl (by kernel_rfl) (by kernel_rfl) (by kernel_rfl) (fun _ _ _ h => h) (Or.inl ⟨by rfl, fun W hW => by go_simp⟩) (by assumption) ?_
              try simp only [Act.put, List.setIfInBounds_toArray, List.set_cons_zero, List.set_cons_succ]
              refine wpAnyH_take (i := 9) (oi := { dst := some 118, op := Go.Op.load 45 (Go.Operand.tmp 117), type := 45, pos := _, after := #[{ on := 8, ground := Go.Ground.data }], guard := none }) (v := .slice ab a.b.length cb) rfl (by kernel_rfl) (by kernel_rfl) (by kernel_rfl) (fun _ _ _ h => h) (yieldsIf_load (by rfl) 45 (.tmp 117) rfl _ _ rfl (fun W hW => ldS _ _ _ _ _ W hW.2)) (by assumption) ?_
              try simp only [Act.put, List.setIfInBounds_toArray, List.set_cons_zero, List.set_cons_succ]
              refine wpAnyH_ready (rs := [4]) (by kernel_rfl) (by simp) ?_
              refine AllReadyH.cons (o := { dst := some 113, op := Go.Op.call { callee := Go.Callee.value (Go.Operand.func 8), args := #[Go.Operand.tmp 109, Go.Operand.tmp 111, Go.Operand.tmp 112], argTypes := #[24, 3, 45] }, type := 25, pos := _, after := #[{ on := 0, ground := Go.Ground.data }, { on := 2, ground := Go.Ground.data }, { on := 3, ground := Go.Ground.data }], guard := none }) rfl (fun K hK => ?_) AllReadyH.nil
              go_simp
              refine kw.mono ?_
              rintro e w4 ⟨rfl, hP4, hz4⟩
              have S4 := cells_same hz4 kX S3
              have kr4 := kr w4 hP4
              go_wp2_with fail
              refine hK.out _ _ S4 (fun hHeld => ?_)
              clear hK K
              try simp only [Act.put, List.setIfInBounds_toArray, List.set_cons_zero, List.set_cons_succ]
              refine wpAnyH_ready (rs := [10]) (by kernel_rfl) (by simp) ?_
              refine AllReadyH.cons (o := { dst := some 119, op := Go.Op.call { callee := Go.Callee.value (Go.Operand.func 9), args := #[Go.Operand.tmp 114, Go.Operand.tmp 116, Go.Operand.tmp 118], argTypes := #[28, 3, 45] }, type := 25, pos := _, after := #[{ on := 5, ground := Go.Ground.data }, { on := 7, ground := Go.Ground.data }, { on := 9, ground := Go.Ground.data }, { on := 4, ground := Go.Ground.chain }], guard := none }) rfl (fun K hK => ?_) AllReadyH.nil
              go_simp
              refine kr4.mono ?_
              rintro e wz ⟨rfl, hP, hz5⟩
              have S5 := cells_same hz5 kX S4
              have hz : Same KK wt wz := fun x hx => ((hz5 x hx).trans (hz4 x hx)).trans (z3 x hx)
              go_wp2_with fail
              refine hK.out _ _ S5 (fun hHeld => ?_)
              clear hK K
              try simp only [Act.put, List.setIfInBounds_toArray, List.set_cons_zero, List.set_cons_succ]
              refine wpAnyH_take (i := 11) (oi := { dst := some 120, op := Go.Op.binOp Go.BinOp.neq 25 (Go.Operand.tmp 113) (Go.Operand.tmp 119) 25, type := 4, pos := _, after := #[{ on := 4, ground := Go.Ground.data }, { on := 10, ground := Go.Ground.data }], guard := none }) (v := .bool false) rfl (by kernel_rfl) (by kernel_rfl) (by kernel_rfl) (fun _ _ _ h => h) (Or.inl ⟨by rfl, fun W hW => by go_simp⟩) (by assumption) ?_
              try simp only [Act.put, List.setIfInBounds_toArray, List.set_cons_zero, List.set_cons_succ]
              refine wpAnyH_done (by kernel_rfl) ?_ _
              refine NoPanic.normal ?_
              clear hHeld
              have row3 := own_kept row (w' := wz) (fun b e => by cases e; exact hz g kg)
              have klf := leftByte_any wz _ g _ _ _ _ row3 (hB.out wz (p_ok hP).2.2.1)
              have kwd := p_waits hP
              have kwr := p_rwaits hP
              have kk : ∀ W, Below wz.heap.size wz W → Calls Tryz.prog 15 #[ptr bk, .slice (some ⟨g, 0, none⟩) a.b.length (a.b.length + 1)] W fun e W' => e = .returned (.tuple #[]) ∧ PI w W' (fun _ => False) bk B C (n + 1) (d.write j a.b) (d.write j a.b) := fun W hW =>
                (p_keep (hP.kept hW).1 (by omega) (twin_own (fun _ => rfl) (own_kept (own_nought row3) (fun b e => hW.block b (row3.lt b e).2))) (by omega) (fun b e => by cases e; exact ⟨kg, hgw⟩)).mono fun e W' ⟨e1, e2, _⟩ => ⟨e1, e2.sub (fun _ h => h.elim)⟩
              obtain ⟨y0, y1, y2, y3, y4⟩ := five_cells ((hz X kX).trans qX)
              have hws2 : (d.write j a.b).ws.length ≤ i + 1 := by rw [ws_len]; omega
              have fin : ∀ W', PI w W' (fun _ => False) bk B C (n + 1) (d.write j a.b) (d.write j a.b) → ∃ (i1 B1 C1 n1 : Nat) (d1 : Dk), Value.int .i64 ((i : Int) + 1) = .int .i64 (i1 : Int) ∧ i1 ≤ l.length ∧ Value.pointer (some ⟨B, 0, none⟩) = .pointer (some ⟨B1, 0, none⟩) ∧ Value.pointer (some ⟨C, 0, none⟩) = .pointer (some ⟨C1, 0, none⟩) ∧ n1 ≤ 2 * i1 ∧ d1.ws.length ≤ i1 ∧ PI w W' (fun _ => False) bk B1 C1 n1 d1 d1 := fun W' h => ⟨i + 1, B, C, n + 1, d.write j a.b, by simp, by omega, rfl, rfl, by omega, hws2, h⟩
              have FIN : Hid _ := fin
              have KK2 : Hid _ := kk
              generalize ((d.write j a.b).ws.length : Int) = nWz at *
              clear hP hz row row3 qX hws2 fin kk
              go_wp2_with fail
              refine kwd.mono ?_
              rintro e w' ⟨rfl, ew⟩
              rw [← ew]
              clear ew w'
              go_wp2_with fail
              refine kwr.mono ?_
              rintro e w' ⟨rfl, ew⟩
              rw [← ew]
              clear ew w'
              clear kwd kwr
              go_wp2_with fail
              refine klf.mono ?_
              rintro e w4 ⟨rfl, bl⟩
              clear klf y0 y1 y2 y3 y4
              have k4 := KK2.out w4 bl
              go_wp2_with fail
              refine k4.mono ?_
              rintro e w5 ⟨rfl, hPe⟩
              have fe := FIN.out w5 hPe
              clear k4 KK2 FIN bl hPe
              go_wp2
              go_roundw
              case rel => exact fe
              case measure => simp [intOf]; omega
            · have hbad : (at_ < 0 ∨ (d.sure.length : Int) ≤ at_) ∨ 64 < a.b.length := by omega
              obtain ⟨w3, ew3⟩ : ∃ w3, w3 = wt.drew := ⟨_, rfl⟩
              have b03 : Below wt.heap.size wt w3 := by rw [ew3]; exact ⟨rfl, rfl, rfl, Nat.le_refl _, fun _ _ => rfl⟩
              obtain ⟨hP3, z3⟩ := hP0.kept b03
              have S3 : w3.cell? ⟨X, 1, none⟩ = some (.int .i64 at_) ∧ w3.cell? ⟨X, 2, none⟩ = some (.slice ab a.b.length cb) := cells_same z3 kX ⟨x1, x2⟩
              have kw := p_writebad hP3 at_ (some ⟨g, 0, none⟩) a.b.length (a.b.length + 1) (by omega) (by omega)
              have kr := p_rwritebad hP3 at_ ab a.b.length cb (by omega) (by omega)
              clear hP0 b03
              go_wp2_with fail
              refine wp_region_noPanic ?_
              refine wp_region_held_drew (S := fun W => W.cell? ⟨X, 1, none⟩ = some (.int .i64 at_) ∧ W.cell? ⟨X, 2, none⟩ = some (.slice ab a.b.length cb)) (by kernel_rfl) (by rw [← ew3]; exact S3) (fun hHeld => ?_)
              rw [← ew3] at hHeld ⊢
              clear ew3
              refine wpAnyH_take (i := 0) (oi := { dst := some 109, op := Go.Op.move (Go.Operand.tmp 5), type := 24, pos := _, after := #[], guard := none }) (v := .pointer (some ⟨B, 0, none⟩)) rfl (by kernel_rfl) (by kernel_rfl) (by kernel_rfl) (fun _ _ _ h => h) (Or.inl ⟨by rfl, fun W hW => by go_simp⟩) (by assumption) ?_
              try simp only [Act.put, List.setIfInBounds_toArray, List.set_cons_zero, List.set_cons_succ]
              refine wpAnyH_take (i := 1) (oi := { dst := some 110, op := Go.Op.fieldAddr 48 (Go.Operand.tmp 11) 1, type := 0, pos := _, after := #[], guard := none }) (v := .pointer (some ⟨X, 1, none⟩)) rfl (by kernel_rfl) (by kernel_rfl) (by kernel_rfl) (fun _ _ _ h => h) (Or.inl ⟨by rfl, fun W hW => by go_simp⟩) (by assumption) ?_
              try simp only [Act.put, List.setIfInBounds_toArray, List.set_cons_zero, List.set_cons_succ]
              refine wpAnyH_take (i := 2) (oi := { dst := some 111, op := Go.Op.load 3 (Go.Operand.tmp 110), type := 3, pos := _, after := #[{ on := 1, ground := Go.Ground.data }], guard := none }) (v := .int .i64 at_) rfl (by kernel_rfl) (by kernel_rfl) (by kernel_rfl) (fun _ _ _ h => h) (yieldsIf_load (by rfl) 3 (.tmp 110) rfl _ _ rfl (fun W hW => ldI _ _ _ W hW.1)) (by assumption) ?_
              try simp only [Act.put, List.setIfInBounds_toArray, List.set_cons_zero, List.set_cons_succ]
              refine wpAnyH_take (i := 3) (oi := { dst := some 112, op := Go.Op.move (Go.Operand.tmp 12), type := 45, pos := _, after := #[], guard := none }) (v := .slice (some ⟨g, 0, none⟩) a.b.length (a.b.length + 1)) rfl (by kernel_rfl) (by kernel_rfl) (by kernel_rfl) (fun _ _ _ h => h) (Or.inl ⟨by rfl, fun W hW => by go_simp⟩) (by assumption) ?_
              try simp only [Act.put, List.setIfInBounds_toArray, List.set_cons_zero, List.set_cons_succ]
              refine wpAnyH_take (i := 5) (oi := { dst := some 114, op := Go.Op.move (Go.Operand.tmp 7), type := 28, pos := _, after := #[], guard := none }) (v := .pointer (some ⟨C, 0, none⟩)) rfl (by kernel_rfl) (by kernel_rfl) (by kernel_rfl) (fun _ _ _ h => h) (Or.inl ⟨by rfl, fun W hW => by go_simp⟩) (by assumption) ?_
              try simp only [Act.put, List.setIfInBounds_toArray, List.set_cons_zero, List.set_cons_succ]
              refine wpAnyH_take (i := 6) (oi := { dst := some 115, op := Go.Op.fieldAddr 48 (Go.Operand.tmp 11) 1, type := 0, pos := _, after := #[], guard := none }) (v := .pointer (some ⟨X, 1, none⟩)) rfl (by kernel_rfl) (by kernel_rfl) (by kernel_rfl) (fun _ _ _ h => h) (Or.inl ⟨by rfl, fun W hW => by go_simp⟩) (by assumption) ?_
              try simp only [Act.put, List.setIfInBounds_toArray, List.set_cons_zero, List.set_cons_succ]
              refine wpAnyH_take (i := 7) (oi := { dst := some 116, op := Go.Op.load 3 (Go.Operand.tmp 115), type := 3, pos := _, after := #[{ on := 6, ground := Go.Ground.data }], guard := none }) (v := .int .i64 at_) rfl (by kernel_rfl) (by kernel_rfl) (by kernel_rfl) (fun _ _ _ h => h) (yieldsIf_load (by rfl) 3 (.tmp 115) rfl _ _ rfl (fun W hW => ldI _ _ _ W hW.1)) (by assumption) ?_
              try simp only [Act.put, List.setIfInBounds_toArray, List.set_cons_zero, List.set_cons_succ]
              refine wpAnyH_take (i := 8) (oi := { dst := some 117, op := Go.Op.fieldAddr 48 (Go.Operand.tmp 11) 2, type := 0, pos := _, after := #[], guard := none }) (v := .pointer (some ⟨X, 2, none⟩)) rfl (by kernel_rfl) (by kernel_rfl) (by kernel_rfl) (fun _ _ _ h => h) (Or.inl ⟨by rfl, fun W hW => by go_simp⟩) (by assumption) ?_
              try simp only [Act.put, List.setIfInBounds_toArray, List.set_cons_zero, List.set_cons_succ]
              refine wpAnyH_take (i := 9) (oi := { dst := some 118, op := Go.Op.load 45 (Go.Operand.tmp 117), type := 45, pos := _, after := #[{ on := 8, ground := Go.Ground.data }], guard := none }) (v := .slice ab a.b.length cb) rfl (by kernel_rfl) (by kernel_rfl) (by kernel_rfl) (fun _ _ _ h => h) (yieldsIf_load (by rfl) 45 (.tmp 117) rfl _ _ rfl (fun W hW => ldS _ _ _ _ _ W hW.2)) (by assumption) ?_
              try simp only [Act.put, List.setIfInBounds_toArray, List.set_cons_zero, List.set_cons_succ]
              refine wpAnyH_ready (rs := [4]) (by kernel_rfl) (by simp) ?_
              refine AllReadyH.cons (o := { dst := some 113, op := Go.Op.call { callee := Go.Callee.value (Go.Operand.func 8), args := #[Go.Operand.tmp 109, Go.Operand.tmp 111, Go.Operand.tmp 112], argTypes := #[24, 3, 45] }, type := 25, pos := _, after := #[{ on := 0, ground := Go.Ground.data }, { on := 2, ground := Go.Ground.data }, { on := 3, ground := Go.Ground.data }], guard := none }) rfl (fun K hK => ?_) AllReadyH.nil
              go_simp
              refine kw.mono ?_
              rintro e w' ⟨rfl, ew⟩
              rw [← ew]
              clear ew w'
              go_wp2_with fail
              refine hK.out _ _ S3 (fun hHeld => ?_)
              clear hK K
              try simp only [Act.put, List.setIfInBounds_toArray, List.set_cons_zero, List.set_cons_succ]
              refine wpAnyH_ready (rs := [10]) (by kernel_rfl) (by simp) ?_
              refine AllReadyH.cons (o := { dst := some 119, op := Go.Op.call { callee := Go.Callee.value (Go.Operand.func 9), args := #[Go.Operand.tmp 114, Go.Operand.tmp 116, Go.Operand.tmp 118], argTypes := #[28, 3, 45] }, type := 25, pos := _, after := #[{ on := 5, ground := Go.Ground.data }, { on := 7, ground := Go.Ground.data }, { on := 9, ground := Go.Ground.data }, { on := 4, ground := Go.Ground.chain }], guard := none }) rfl (fun K hK => ?_) AllReadyH.nil
              go_simp
              refine kr.mono ?_
              rintro e w' ⟨rfl, ew⟩
              rw [← ew]
              clear ew w'
              go_wp2_with fail
              refine hK.out _ _ S3 (fun hHeld => ?_)
              clear hK K
              try simp only [Act.put, List.setIfInBounds_toArray, List.set_cons_zero, List.set_cons_succ]
              refine wpAnyH_take (i := 11) (oi := { dst := some 120, op := Go.Op.binOp Go.BinOp.neq 25 (Go.Operand.tmp 113) (Go.Operand.tmp 119) 25, type := 4, pos := _, after := #[{ on := 4, ground := Go.Ground.data }, { on := 10, ground := Go.Ground.data }], guard := none }) (v := .bool false) rfl (by kernel_rfl) (by kernel_rfl) (by kernel_rfl) (fun _ _ _ h => h) (Or.inl ⟨by rfl, fun W hW => by go_simp⟩) (by assumption) ?_
              try simp only [Act.put, List.setIfInBounds_toArray, List.set_cons_zero, List.set_cons_succ]
              refine wpAnyH_done (by kernel_rfl) ?_ _
              refine NoPanic.normal ?_
              clear hHeld
              have hP := hP3
              have hz := z3
              obtain ⟨wz, ewz⟩ : ∃ wz, wz = w3 := ⟨_, rfl⟩
              rw [← ewz] at hP hz ⊢
              clear ewz S3 z3 hP3
              have row3 := own_kept row (w' := wz) (fun b e => by cases e; exact hz g kg)
              have klf := leftByte_any wz _ g _ _ _ _ row3 (hB.out wz (p_ok hP).2.2.1)
              have kwd := p_waits hP
              have kwr := p_rwaits hP
              have kk : ∀ W, Below wz.heap.size wz W → Calls Tryz.prog 15 #[ptr bk, .slice (some ⟨g, 0, none⟩) a.b.length (a.b.length + 1)] W fun e W' => e = .returned (.tuple #[]) ∧ PI w W' (fun _ => False) bk B C (n + 1) (d) (d) := fun W hW =>
                (p_keep (hP.kept hW).1 (by omega) (twin_own (fun _ => rfl) (own_kept (own_nought row3) (fun b e => hW.block b (row3.lt b e).2))) (by omega) (fun b e => by cases e; exact ⟨kg, hgw⟩)).mono fun e W' ⟨e1, e2, _⟩ => ⟨e1, e2.sub (fun _ h => h.elim)⟩
              obtain ⟨y0, y1, y2, y3, y4⟩ := five_cells ((hz X kX).trans qX)
              have hws2 : (d).ws.length ≤ i + 1 := by omega
              have fin : ∀ W', PI w W' (fun _ => False) bk B C (n + 1) (d) (d) → ∃ (i1 B1 C1 n1 : Nat) (d1 : Dk), Value.int .i64 ((i : Int) + 1) = .int .i64 (i1 : Int) ∧ i1 ≤ l.length ∧ Value.pointer (some ⟨B, 0, none⟩) = .pointer (some ⟨B1, 0, none⟩) ∧ Value.pointer (some ⟨C, 0, none⟩) = .pointer (some ⟨C1, 0, none⟩) ∧ n1 ≤ 2 * i1 ∧ d1.ws.length ≤ i1 ∧ PI w W' (fun _ => False) bk B1 C1 n1 d1 d1 := fun W' h => ⟨i + 1, B, C, n + 1, d, by simp, by omega, rfl, rfl, by omega, hws2, h⟩
              have FIN : Hid _ := fin
              have KK2 : Hid _ := kk
              generalize ((d).ws.length : Int) = nWz at *
              clear hP hz row row3 qX hws2 fin kk
              go_wp2_with fail
              refine kwd.mono ?_
              rintro e w' ⟨rfl, ew⟩
              rw [← ew]
              clear ew w'
              go_wp2_with fail
              refine kwr.mono ?_
              rintro e w' ⟨rfl, ew⟩
              rw [← ew]
              clear ew w'
              clear kwd kwr
              go_wp2_with fail
              refine klf.mono ?_
              rintro e w4 ⟨rfl, bl⟩
              clear klf y0 y1 y2 y3 y4
              have k4 := KK2.out w4 bl
              go_wp2_with fail
              refine k4.mono ?_
              rintro e w5 ⟨rfl, hPe⟩
              have fe := FIN.out w5 hPe
              clear k4 KK2 FIN bl hPe
              go_wp2
              go_roundw
              case rel => exact fe
              case measure => simp [intOf]; omega
          · by_cases hok : (0 ≤ at_ ∧ at_ < (d.sure.length : Int)) ∧ a.b.length ≤ 64
            · obtain ⟨⟨h0, h1⟩, h64⟩ := hok
              obtain ⟨j, rfl⟩ : ∃ j : Nat, at_ = (j : Int) := ⟨at_.toNat, by omega⟩
              obtain ⟨w3, ew3⟩ : ∃ w3, w3 = wt.drew := ⟨_, rfl⟩
              have b03 : Below wt.heap.size wt w3 := by rw [ew3]; exact ⟨rfl, rfl, rfl, Nat.le_refl _, fun _ _ => rfl⟩
              obtain ⟨hP3, z3⟩ := hP0.kept b03
              have S3 : w3.cell? ⟨X, 1, none⟩ = some (.int .i64 (j : Int)) ∧ w3.cell? ⟨X, 2, none⟩ = some (.slice ab a.b.length cb) := cells_same z3 kX ⟨x1, x2⟩
              have kw := p_write hP3 j (by omega) (.slice (some ⟨g, 0, none⟩) a.b.length (a.b.length + 1)) a.b (twin_inE (own_kept row (w' := w3) (fun b e => by cases e; exact z3 g kg))) (by omega) (by omega)
              have kr : ∀ W, PI w W KK bk B C n (d.write j a.b) d → Calls Tryz.prog 9 #[.pointer (some ⟨C, 0, none⟩), .int .i64 (j : Int), .slice ab a.b.length cb] W fun e W' => e = .returned (.int .i64 0) ∧ PI w W' KK bk B C n (d.write j a.b) (d.write j a.b) ∧ Same KK W W' := fun W h => p_rwrite h j (by omega) _ a.b ((hB.out W (p_ok h).2.2.1).mono (p_ok h).2.2.2) (by omega) (by omega)
              clear hP0 b03
              go_wp2_with fail
              refine wp_region_noPanic ?_
              refine wp_region_held_drew (S := fun W => W.cell? ⟨X, 1, none⟩ = some (.int .i64 (j : Int)) ∧ W.cell? ⟨X, 2, none⟩ = some (.slice ab a.b.length cb)) (by kernel_rfl) (by rw [← ew3]; exact S3) (fun hHeld => ?_)
              rw [← ew3] at hHeld ⊢
              clear ew3
              refine wpAnyH_take (i := 0) (oi := { dst := some 109, op := Go.Op.move (Go.Operand.tmp 5), type := 24, pos := _, after := #[], guard := none }) (v := .pointer (some ⟨B, 0, none⟩)) rfl (by kernel_rfl) (by kernel_rfl) (by kernel_rfl) (fun _ _ _ h => h) (Or.inl ⟨by rfl, fun W hW => by go_simp⟩) (by assumption) ?_
              try simp only [Act.put, List.setIfInBounds_toArray, List.set_cons_zero, List.set_cons_succ]
              refine wpAnyH_take (i := 1) (oi := { dst := some 110, op := Go.Op.fieldAddr 48 (Go.Operand.tmp 11) 1, type := 0, pos := _, after := #[], guard := none }) (v := .pointer (some ⟨X, 1, none⟩)) rfl (by kernel_rfl) (by kernel_rfl) (by kernel_rfl) (fun _ _ _ h => h) (Or.inl ⟨by rfl, fun W hW => by go_simp⟩) (by assumption) ?_
              try simp only [Act.put, List.setIfInBounds_toArray, List.set_cons_zero, List.set_cons_succ]
              refine wpAnyH_take (i := 2) (oi := { dst := some 111, op := Go.Op.load 3 (Go.Operand.tmp 110), type := 3, pos := _, after := #[{ on := 1, ground := Go.Ground.data }], guard := none }) (v := .int .i64 (j : Int)) rfl (by kernel_rfl) (by kernel_rfl) (by kernel_rfl) (fun _ _ _ h => h) (yieldsIf_load (by rfl) 3 (.tmp 110) rfl _ _ rfl (fun W hW => ldI _ _ _ W hW.1)) (by assumption) ?_
              try simp only [Act.put, List.setIfInBounds_toArray, List.set_cons_zero, List.set_cons_succ]
              refine wpAnyH_take (i := 3) (oi := { dst := some 112, op := Go.Op.move (Go.Operand.tmp 12), type := 45, pos := _, after := #[], guard := none }) (v := .slice (some ⟨g, 0, none⟩) a.b.length (a.b.length + 1)) rfl (by kernel_rfl) (by kernel_rfl) (by kernel_rfl) (fun _ _ _ h => h) (Or.inl ⟨by rfl, fun W hW => by go_simp⟩) (by assumption) ?_
              try simp only [Act.put, List.setIfInBounds_toArray, List.set_cons_zero, List.set_cons_succ]
              refine wpAnyH_take (i := 5) (oi := { dst := some 114, op := Go.Op.move (Go.Operand.tmp 7), type := 28, pos := _, after := #[], guard := none }) (v := .pointer (some ⟨C, 0, none⟩)) rfl (by kernel_rfl) (by kernel_rfl) (by kernel_rfl) (fun _ _ _ h => h) (Or.inl ⟨by rfl, fun W hW => by go_simp⟩) (by assumption) ?_
              try simp only [Act.put, List.setIfInBounds_toArray, List.set_cons_zero, List.set_cons_succ]
              refine wpAnyH_take (i := 6) (oi := { dst := some 115, op := Go.Op.fieldAddr 48 (Go.Operand.tmp 11) 1, type := 0, pos := _, after := #[], guard := none }) (v := .pointer (some ⟨X, 1, none⟩)) rfl (by kernel_rfl) (by kernel_rfl) (by kernel_rfl) (fun _ _ _ h => h) (Or.inl ⟨by rfl, fun W hW => by go_simp⟩) (by assumption) ?_
              try simp only [Act.put, List.setIfInBounds_toArray, List.set_cons_zero, List.set_cons_succ]
              refine wpAnyH_take (i := 7) (oi := { dst := some 116, op := Go.Op.load 3 (Go.Operand.tmp 115), type := 3, pos := _, after := #[{ on := 6, ground := Go.Ground.data }], guard := none }) (v := .int .i64 (j : Int)) rfl (by kernel_rfl) (by kernel_rfl) (by kernel_rfl) (fun _ _ _ h => h) (yieldsIf_load (by rfl) 3 (.tmp 115) rfl _ _ rfl (fun W hW => ldI _ _ _ W hW.1)) (by assumption) ?_
              try simp only [Act.put, List.setIfInBounds_toArray, List.set_cons_zero, List.set_cons_succ]
              refine wpAnyH_take (i := 8) (oi := { dst := some 117, op := Go.Op.fieldAddr 48 (Go.Operand.tmp 11) 2, type := 0, pos := _, after := #[], guard := none }) (v := .pointer (some ⟨X, 2, none⟩)) rfl (by kernel_rfl) (by kernel_rfl) (by kernel_rfl) (fun _ _ _ h => h) (Or.inl ⟨by rfl, fun W hW => by go_simp⟩) (by assumption) ?_
              try simp only [Act.put, List.setIfInBounds_toArray, List.set_cons_zero, List.set_cons_succ]
              refine wpAnyH_take (i := 9) (oi := { dst := some 118, op := Go.Op.load 45 (Go.Operand.tmp 117), type := 45, pos := _, after := #[{ on := 8, ground := Go.Ground.data }], guard := none }) (v := .slice ab a.b.length cb) rfl (by kernel_rfl) (by kernel_rfl) (by kernel_rfl) (fun _ _ _ h => h) (yieldsIf_load (by rfl) 45 (.tmp 117) rfl _ _ rfl (fun W hW => ldS _ _ _ _ _ W hW.2)) (by assumption) ?_
              try simp only [Act.put, List.setIfInBounds_toArray, List.set_cons_zero, List.set_cons_succ]
              refine wpAnyH_ready (rs := [4]) (by kernel_rfl) (by simp) ?_
              refine AllReadyH.cons (o := { dst := some 113, op := Go.Op.call { callee := Go.Callee.value (Go.Operand.func 8), args := #[Go.Operand.tmp 109, Go.Operand.tmp 111, Go.Operand.tmp 112], argTypes := #[24, 3, 45] }, type := 25, pos := _, after := #[{ on := 0, ground := Go.Ground.data }, { on := 2, ground := Go.Ground.data }, { on := 3, ground := Go.Ground.data }], guard := none }) rfl (fun K hK => ?_) AllReadyH.nil
              go_simp
              refine kw.mono ?_
              rintro e w4 ⟨rfl, hP4, hz4⟩
              have S4 := cells_same hz4 kX S3
              have kr4 := kr w4 hP4
              go_wp2_with fail
              refine hK.out _ _ S4 (fun hHeld => ?_)
              clear hK K
              try simp only [Act.put, List.setIfInBounds_toArray, List.set_cons_zero, List.set_cons_succ]
              refine wpAnyH_ready (rs := [10]) (by kernel_rfl) (by simp) ?_
              refine AllReadyH.cons (o := { dst := some 119, op := Go.Op.call { callee := Go.Callee.value (Go.Operand.func 9), args := #[Go.Operand.tmp 114, Go.Operand.tmp 116, Go.Operand.tmp 118], argTypes := #[28, 3, 45] }, type := 25, pos := _, after := #[{ on := 5, ground := Go.Ground.data }, { on := 7, ground := Go.Ground.data }, { on := 9, ground := Go.Ground.data }, { on := 4, ground := Go.Ground.chain }], guard := none }) rfl (fun K hK => ?_) AllReadyH.nil
              go_simp
              refine kr4.mono ?_
              rintro e wz ⟨rfl, hP, hz5⟩
              have S5 := cells_same hz5 kX S4
              have hz : Same KK wt wz := fun x hx => ((hz5 x hx).trans (hz4 x hx)).trans (z3 x hx)
              go_wp2_with fail
              refine hK.out _ _ S5 (fun hHeld => ?_)
              clear hK K
              try simp only [Act.put, List.setIfInBounds_toArray, List.set_cons_zero, List.set_cons_succ]
              refine wpAnyH_take (i := 11) (oi := { dst := some 120, op := Go.Op.binOp Go.BinOp.neq 25 (Go.Operand.tmp 113) (Go.Operand.tmp 119) 25, type := 4, pos := _, after := #[{ on := 4, ground := Go.Ground.data }, { on := 10, ground := Go.Ground.data }], guard := none }) (v := .bool false) rfl (by kernel_rfl) (by kernel_rfl) (by kernel_rfl) (fun _ _ _ h => h) (Or.inl ⟨by rfl, fun W hW => by go_simp⟩) (by assumption) ?_
              try simp only [Act.put, List.setIfInBounds_toArray, List.set_cons_zero, List.set_cons_succ]
              refine wpAnyH_done (by kernel_rfl) ?_ _
              refine NoPanic.normal ?_
              clear hHeld
              have row3 := own_kept row (w' := wz) (fun b e => by cases e; exact hz g kg)
              have klf := leftByte_any wz _ g _ _ _ _ row3 (hB.out wz (p_ok hP).2.2.1)
              have kwd := p_waits hP
              have kwr := p_rwaits hP
              have kk : ∀ W, Below wz.heap.size wz W → Calls Tryz.prog 15 #[ptr bk, .slice (some ⟨g, 0, none⟩) a.b.length (a.b.length + 1)] W fun e W' => e = .returned (.tuple #[]) ∧ PI w W' (fun _ => False) bk B C (n + 1) (d.write j a.b) (d.write j a.b) := fun W hW =>
                (p_keep (hP.kept hW).1 (by omega) (twin_own (fun _ => rfl) (own_kept (own_nought row3) (fun b e => hW.block b (row3.lt b e).2))) (by omega) (fun b e => by cases e; exact ⟨kg, hgw⟩)).mono fun e W' ⟨e1, e2, _⟩ => ⟨e1, e2.sub (fun _ h => h.elim)⟩
              obtain ⟨y0, y1, y2, y3, y4⟩ := five_cells ((hz X kX).trans qX)
              have hws2 : (d.write j a.b).ws.length ≤ i + 1 := by rw [ws_len]; omega
              have fin : ∀ W', PI w W' (fun _ => False) bk B C (n + 1) (d.write j a.b) (d.write j a.b) → ∃ (i1 B1 C1 n1 : Nat) (d1 : Dk), Value.int .i64 ((i : Int) + 1) = .int .i64 (i1 : Int) ∧ i1 ≤ l.length ∧ Value.pointer (some ⟨B, 0, none⟩) = .pointer (some ⟨B1, 0, none⟩) ∧ Value.pointer (some ⟨C, 0, none⟩) = .pointer (some ⟨C1, 0, none⟩) ∧ n1 ≤ 2 * i1 ∧ d1.ws.length ≤ i1 ∧ PI w W' (fun _ => False) bk B1 C1 n1 d1 d1 := fun W' h => ⟨i + 1, B, C, n + 1, d.write j a.b, by simp, by omega, rfl, rfl, by omega, hws2, h⟩
              have FIN : Hid _ := fin
              have KK2 : Hid _ := kk
              generalize ((d.write j a.b).ws.length : Int) = nWz at *
              clear hP hz row row3 qX hws2 fin kk
              go_wp2_with fail
              refine kwd.mono ?_
              rintro e w' ⟨rfl, ew⟩
              rw [← ew]
              clear ew w'
              go_wp2_with fail
              refine kwr.mono ?_
              rintro e w' ⟨rfl, ew⟩
              rw [← ew]
              clear ew w'
              clear kwd kwr
              go_wp2_with fail
              refine klf.mono ?_
              rintro e w4 ⟨rfl, bl⟩
              clear klf y0 y1 y2 y3 y4
              have k4 := KK2.out w4 bl
              go_wp2_with fail
              refine k4.mono ?_
              rintro e w5 ⟨rfl, hPe⟩
              have fe := FIN.out w5 hPe
              clear k4 KK2 FIN bl hPe
              go_wp2
              go_roundw
              case rel => exact fe
              case measure => simp [intOf]; omega
            · have hbad : (at_ < 0 ∨ (d.sure.length : Int) ≤ at_) ∨ 64 < a.b.length := by omega
              obtain ⟨w3, ew3⟩ : ∃ w3, w3 = wt.drew := ⟨_, rfl⟩
              have b03 : Below wt.heap.size wt w3 := by rw [ew3]; exact ⟨rfl, rfl, rfl, Nat.le_refl _, fun _ _ => rfl⟩
              obtain ⟨hP3, z3⟩ := hP0.kept b03
              have S3 : w3.cell? ⟨X, 1, none⟩ = some (.int .i64 at_) ∧ w3.cell? ⟨X, 2, none⟩ = some (.slice ab a.b.length cb) := cells_same z3 kX ⟨x1, x2⟩
              have kw := p_writebad hP3 at_ (some ⟨g, 0, none⟩) a.b.length (a.b.length + 1) (by omega) (by omega)
              have kr := p_rwritebad hP3 at_ ab a.b.length cb (by omega) (by omega)
              clear hP0 b03
              go_wp2_with fail
              refine wp_region_noPanic ?_
              refine wp_region_held_drew (S := fun W => W.cell? ⟨X, 1, none⟩ = some (.int .i64 at_) ∧ W.cell? ⟨X, 2, none⟩ = some (.slice ab a.b.length cb)) (by kernel_rfl) (by rw [← ew3]; exact S3) (fun hHeld => ?_)
              rw [← ew3] at hHeld ⊢
              clear ew3
              refine wpAnyH_take (i := 0) (oi := { dst := some 109, op := Go.Op.move (Go.Operand.tmp 5), type := 24, pos := _, after := #[], guard := none }) (v := .pointer (some ⟨B, 0, none⟩)) rfl (by kernel_rfl) (by kernel_rfl) (by kernel_rfl) (fun _ _ _ h => h) (Or.inl ⟨by rfl, fun W hW => by go_simp⟩) (by assumption) ?_
              try simp only [Act.put, List.setIfInBounds_toArray, List.set_cons_zero, List.set_cons_succ]
              refine wpAnyH_take (i := 1) (oi := { dst := some 110, op := Go.Op.fieldAddr 48 (Go.Operand.tmp 11) 1, type := 0, pos := _, after := #[], guard := none }) (v := .pointer (some ⟨X, 1, none⟩)) rfl (by kernel_rfl) (by kernel_rfl) (by kernel_rfl) (fun _ _ _ h => h) (Or.inl ⟨by rfl, fun W hW => by go_simp⟩) (by assumption) ?_
              try simp only [Act.put, List.setIfInBounds_toArray, List.set_cons_zero, List.set_cons_succ]
              refine wpAnyH_take (i := 2) (oi := { dst := some 111, op := Go.Op.load 3 (Go.Operand.tmp 110), type := 3, pos := _, after := #[{ on := 1, ground := Go.Ground.data }], guard := none }) (v := .int .i64 at_) rfl (by kernel_rfl) (by kernel_rfl) (by kernel_rfl) (fun _ _ _ h => h) (yieldsIf_load (by rfl) 3 (.tmp 110) rfl _ _ rfl (fun W hW => ldI _ _ _ W hW.1)) (by assumption) ?_
              try simp only [Act.put, List.setIfInBounds_toArray, List.set_cons_zero, List.set_cons_succ]
              refine wpAnyH_take (i := 3) (oi := { dst := some 112, op := Go.Op.move (Go.Operand.tmp 12), type := 45, pos := _, after := #[], guard := none }) (v := .slice (some ⟨g, 0, none⟩) a.b.length (a.b.length + 1)) rfl (by kernel_rfl) (by kernel_rfl) (by kernel_rfl) (fun _ _ _ h => h) (Or.inl ⟨by rfl, fun W hW => by go_simp⟩) (by assumption) ?_
              try simp only [Act.put, List.setIfInBounds_toArray, List.set_cons_zero, List.set_cons_succ]
              refine wpAnyH_take (i := 5) (oi := { dst := some 114, op := Go.Op.move (Go.Operand.tmp 7), type := 28, pos := _, after := #[], guard := none }) (v := .pointer (some ⟨C, 0, none⟩)) rfl (by kernel_rfl) (by kernel_rfl) (by kernel_rfl) (fun _ _ _ h => h) (Or.inl ⟨by rfl, fun W hW => by go_simp⟩) (by assumption) ?_
              try simp only [Act.put, List.setIfInBounds_toArray, List.set_cons_zero, List.set_cons_succ]
              refine wpAnyH_take (i := 6) (oi := { dst := some 115, op := Go.Op.fieldAddr 48 (Go.Operand.tmp 11) 1, type := 0, pos := _, after := #[], guard := none }) (v := .pointer (some ⟨X, 1, none⟩)) rfl (by kernel_rfl) (by kernel_rfl) (by kernel_rfl) (fun _ _ _ h => h) (Or.inl ⟨by rfl, fun W hW => by go_simp⟩) (by assumption) ?_
              try simp only [Act.put, List.setIfInBounds_toArray, List.set_cons_zero, List.set_cons_succ]
              refine wpAnyH_take (i := 7) (oi := { dst := some 116, op := Go.Op.load 3 (Go.Operand.tmp 115), type := 3, pos := _, after := #[{ on := 6, ground := Go.Ground.data }], guard := none }) (v := .int .i64 at_) rfl (by kernel_rfl) (by kernel_rfl) (by kernel_rfl) (fun _ _ _ h => h) (yieldsIf_load (by rfl) 3 (.tmp 115) rfl _ _ rfl (fun W hW => ldI _ _ _ W hW.1)) (by assumption) ?_
              try simp only [Act.put, List.setIfInBounds_toArray, List.set_cons_zero, List.set_cons_succ]
              refine wpAnyH_take (i := 8) (oi := { dst := some 117, op := Go.Op.fieldAddr 48 (Go.Operand.tmp 11) 2, type := 0, pos := _, after := #[], guard := none }) (v := .pointer (some ⟨X, 2, none⟩)) rfl (by kernel_rfl) (by kernel_rfl) (by kernel_rfl) (fun _ _ _ h => h) (Or.inl ⟨by rfl, fun W hW => by go_simp⟩) (by assumption) ?_
              try simp only [Act.put, List.setIfInBounds_toArray, List.set_cons_zero, List.set_cons_succ]
              refine wpAnyH_take (i := 9) (oi := { dst := some 118, op := Go.Op.load 45 (Go.Operand.tmp 117), type := 45, pos := _, after := #[{ on := 8, ground := Go.Ground.data }], guard := none }) (v := .slice ab a.b.length cb) rfl (by kernel_rfl) (by kernel_rfl) (by kernel_rfl) (fun _ _ _ h => h) (yieldsIf_load (by rfl) 45 (.tmp 117) rfl _ _ rfl (fun W hW => ldS _ _ _ _ _ W hW.2)) (by assumption) ?_
              try simp only [Act.put, List.setIfInBounds_toArray, List.set_cons_zero, List.set_cons_succ]
              refine wpAnyH_ready (rs := [4]) (by kernel_rfl) (by simp) ?_
              refine AllReadyH.cons (o := { dst := some 113, op := Go.Op.call { callee := Go.Callee.value (Go.Operand.func 8), args := #[Go.Operand.tmp 109, Go.Operand.tmp 111, Go.Operand.tmp 112], argTypes := #[24, 3, 45] }, type := 25, pos := _, after := #[{ on := 0, ground := Go.Ground.data }, { on := 2, ground := Go.Ground.data }, { on := 3, ground := Go.Ground.data }], guard := none }) rfl (fun K hK => ?_) AllReadyH.nil
              go_simp
              refine kw.mono ?_
              rintro e w' ⟨rfl, ew⟩
              rw [← ew]
              clear ew w'
              go_wp2_with fail
              refine hK.out _ _ S3 (fun hHeld => ?_)
              clear hK K
              try simp only [Act.put, List.setIfInBounds_toArray, List.set_cons_zero, List.set_cons_succ]
              refine wpAnyH_ready (rs := [10]) (by kernel_rfl) (by simp) ?_
              refine AllReadyH.cons (o := { dst := some 119, op := Go.Op.call { callee := Go.Callee.value (Go.Operand.func 9), args := #[Go.Operand.tmp 114, Go.Operand.tmp 116, Go.Operand.tmp 118], argTypes := #[28, 3, 45] }, type := 25, pos := _, after := #[{ on := 5, ground := Go.Ground.data }, { on := 7, ground := Go.Ground.data }, { on := 9, ground := Go.Ground.data }, { on := 4, ground := Go.Ground.chain }], guard := none }) rfl (fun K hK => ?_) AllReadyH.nil
              go_simp
              refine kr.mono ?_
              rintro e w' ⟨rfl, ew⟩
              rw [← ew]
              clear ew w'
              go_wp2_with fail
              refine hK.out _ _ S3 (fun hHeld => ?_)
              clear hK K
              try simp only [Act.put, List.setIfInBounds_toArray, List.set_cons_zero, List.set_cons_succ]
              refine wpAnyH_take (i := 11) (oi := { dst := some 120, op := Go.Op.binOp Go.BinOp.neq 25 (Go.Operand.tmp 113) (Go.Operand.tmp 119) 25, type := 4, pos := _, after := #[{ on := 4, ground := Go.Ground.data }, { on := 10, ground := Go.Ground.data }], guard := none }) (v := .bool false) rfl (by kernel_rfl) (by kernel_rfl) (by kernel_rfl) (fun _ _ _ h => h) (Or.inl ⟨by rfl, fun W hW => by go_simp⟩) (by assumption) ?_
              try simp only [Act.put, List.setIfInBounds_toArray, List.set_cons_zero, List.set_cons_succ]
              refine wpAnyH_done (by kernel_rfl) ?_ _
              refine NoPanic.normal ?_
              clear hHeld
              have hP := hP3
              have hz := z3
              obtain ⟨wz, ewz⟩ : ∃ wz, wz = w3 := ⟨_, rfl⟩
              rw [← ewz] at hP hz ⊢
              clear ewz S3 z3 hP3
              have row3 := own_kept row (w' := wz) (fun b e => by cases e; exact hz g kg)
              have klf := leftByte_any wz _ g _ _ _ _ row3 (hB.out wz (p_ok hP).2.2.1)
              have kwd := p_waits hP
              have kwr := p_rwaits hP
              have kk : ∀ W, Below wz.heap.size wz W → Calls Tryz.prog 15 #[ptr bk, .slice (some ⟨g, 0, none⟩) a.b.length (a.b.length + 1)] W fun e W' => e = .returned (.tuple #[]) ∧ PI w W' (fun _ => False) bk B C (n + 1) (d) (d) := fun W hW =>
                (p_keep (hP.kept hW).1 (by omega) (twin_own (fun _ => rfl) (own_kept (own_nought row3) (fun b e => hW.block b (row3.lt b e).2))) (by omega) (fun b e => by cases e; exact ⟨kg, hgw⟩)).mono fun e W' ⟨e1, e2, _⟩ => ⟨e1, e2.sub (fun _ h => h.elim)⟩
              obtain ⟨y0, y1, y2, y3, y4⟩ := five_cells ((hz X kX).trans qX)
              have hws2 : (d).ws.length ≤ i + 1 := by omega
              have fin : ∀ W', PI w W' (fun _ => False) bk B C (n + 1) (d) (d) → ∃ (i1 B1 C1 n1 : Nat) (d1 : Dk), Value.int .i64 ((i : Int) + 1) = .int .i64 (i1 : Int) ∧ i1 ≤ l.length ∧ Value.pointer (some ⟨B, 0, none⟩) = .pointer (some ⟨B1, 0, none⟩) ∧ Value.pointer (some ⟨C, 0, none⟩) = .pointer (some ⟨C1, 0, none⟩) ∧ n1 ≤ 2 * i1 ∧ d1.ws.length ≤ i1 ∧ PI w W' (fun _ => False) bk B1 C1 n1 d1 d1 := fun W' h => ⟨i + 1, B, C, n + 1, d, by simp, by omega, rfl, rfl, by omega, hws2, h⟩
              have FIN : Hid _ := fin
              have KK2 : Hid _ := kk
              generalize ((d).ws.length : Int) = nWz at *
              clear hP hz row row3 qX hws2 fin kk
              go_wp2_with fail
              refine kwd.mono ?_
              rintro e w' ⟨rfl, ew⟩
              rw [← ew]
              clear ew w'
              go_wp2_with fail
              refine kwr.mono ?_
              rintro e w' ⟨rfl, ew⟩
              rw [← ew]
              clear ew w'
              clear kwd kwr
              go_wp2_with fail
              refine klf.mono ?_
              rintro e w4 ⟨rfl, bl⟩
              clear klf y0 y1 y2 y3 y4
              have k4 := KK2.out w4 bl
              go_wp2_with fail
              refine k4.mono ?_
              rintro e w5 ⟨rfl, hPe⟩
              have fe := FIN.out w5 hPe
              clear k4 KK2 FIN bl hPe
              go_wp2
              go_roundw
              case rel => exact fe
              case measure => simp [intOf]; omega
          · have kms := p_rsync hP0 (by omega)
            go_wp2_with fail
            refine kms.mono ?_
            rintro e w3 ⟨rfl, hP1, hz1⟩
            clear kms hP0
            have kds := p_sync hP1
            go_wp2_with fail
            refine kds.mono ?_
            rintro e wz ⟨rfl, hP, hz2⟩
            have hz : Same KK wt wz := fun x hx => (hz2 x hx).trans (hz1 x hx)
            clear kds hP1 hz1 hz2
            have row3 := own_kept row (w' := wz) (fun b e => by cases e; exact hz g kg)
            have klf := leftByte_any wz _ g _ _ _ _ row3 (hB.out wz (p_ok hP).2.2.1)
            have kwd := p_waits hP
            have kwr := p_rwaits hP
            have kk : ∀ W, Below wz.heap.size wz W → Calls Tryz.prog 15 #[ptr bk, .slice (some ⟨g, 0, none⟩) a.b.length (a.b.length + 1)] W fun e W' => e = .returned (.tuple #[]) ∧ PI w W' (fun _ => False) bk B C (n + 1) (d.sync) (d.sync) := fun W hW =>
              (p_keep (hP.kept hW).1 (by omega) (twin_own (fun _ => rfl) (own_kept (own_nought row3) (fun b e => hW.block b (row3.lt b e).2))) (by omega) (fun b e => by cases e; exact ⟨kg, hgw⟩)).mono fun e W' ⟨e1, e2, _⟩ => ⟨e1, e2.sub (fun _ h => h.elim)⟩
            obtain ⟨y0, y1, y2, y3, y4⟩ := five_cells ((hz X kX).trans qX)
            have hws2 : (d.sync).ws.length ≤ i + 1 := by simp [Dk.sync]
            have fin : ∀ W', PI w W' (fun _ => False) bk B C (n + 1) (d.sync) (d.sync) → ∃ (i1 B1 C1 n1 : Nat) (d1 : Dk), Value.int .i64 ((i : Int) + 1) = .int .i64 (i1 : Int) ∧ i1 ≤ l.length ∧ Value.pointer (some ⟨B, 0, none⟩) = .pointer (some ⟨B1, 0, none⟩) ∧ Value.pointer (some ⟨C, 0, none⟩) = .pointer (some ⟨C1, 0, none⟩) ∧ n1 ≤ 2 * i1 ∧ d1.ws.length ≤ i1 ∧ PI w W' (fun _ => False) bk B1 C1 n1 d1 d1 := fun W' h => ⟨i + 1, B, C, n + 1, d.sync, by simp, by omega, rfl, rfl, by omega, hws2, h⟩
            have FIN : Hid _ := fin
            have KK2 : Hid _ := kk
            generalize ((d.sync).ws.length : Int) = nWz at *
            clear hP hz row row3 qX hws2 fin kk
            go_wp2_with fail
            refine kwd.mono ?_
            rintro e w' ⟨rfl, ew⟩
            rw [← ew]
            clear ew w'
            go_wp2_with fail
            refine kwr.mono ?_
            rintro e w' ⟨rfl, ew⟩
            rw [← ew]
            clear ew w'
            clear kwd kwr
            go_wp2_with fail
            refine klf.mono ?_
            rintro e w4 ⟨rfl, bl⟩
            clear klf y0 y1 y2 y3 y4
            have k4 := KK2.out w4 bl
            go_wp2_with fail
            refine k4.mono ?_
            rintro e w5 ⟨rfl, hPe⟩
            have fe := FIN.out w5 hPe
            clear k4 KK2 FIN bl hPe
            go_wp2
            go_roundw
            case rel => exact fe
            case measure => simp [intOf]; omega
          · by_cases hok : 0 ≤ at_ ∧ at_ < (d.sure.length : Int)
            · obtain ⟨h0, h1⟩ := hok
              obtain ⟨j, rfl⟩ : ∃ j : Nat, at_ = (j : Int) := ⟨at_.toNat, by omega⟩
              have hvl : (d.view j).length = 64 := Dk.view_len (p_ok hP0).1 (by omega)
              have k1 := p_read hP0 j (by omega)
              have HL : Hid (∀ x, KK x → x < wt.heap.size) := p_lt hP0
              have HZ : Hid (w.heap.size ≤ wt.heap.size) := (p_ok hP0).2.2.2
              clear hP0
              go_wp2_with fail
              refine k1.mono ?_
              rintro e w3 ⟨rfl, r3, hP1, hz1⟩
              obtain ⟨y0, y1, y2, y3, y4⟩ := five_cells ((hz1 X kX).trans qX)
              have k2 := p_rread hP1 j (by omega) (by omega)
              clear k1 hP1
              go_wp2_with fail
              refine k2.mono ?_
              rintro e w4 ⟨vr, rfl, r4, hP2, hz2⟩
              have r34 := (hz2 (wt.heap.size + 1) (.inr rfl)).trans r3
              have k3 := sameBytes_any w4 _ _ _ _ _ (sl_block r34 hvl) (sl_row (own_nought r4) hvl)
              have kk3 : ∀ m, Calls Tryz.prog 15 #[ptr bk, .slice (some ⟨wt.heap.size + 1, 0, none⟩) 64 64] (w4.drewN m) fun e W' => e = .returned (.tuple #[]) ∧ PI w W' KK bk B C (n + 1) d d ∧ Same KK wt W' := fun m =>
                (p_keep (hP2.kept (below_drewN w4 m)).1 (by omega) (own_row64 hvl (by exact r34)) (by omega) (fun b e => by have e' : wt.heap.size + 1 = b := Option.some.inj e; rw [← e']; exact ⟨.inr rfl, Nat.le_trans HZ.out (Nat.le_succ _)⟩)).mono fun e W' ⟨e1, e2, e3⟩ => ⟨e1, e2.sub (fun x hx => ⟨.inl hx, fun e => by have e' : wt.heap.size + 1 = x := Option.some.inj e; have := HL.out x hx; rw [← e'] at this; exact Nat.not_succ_le_self _ (Nat.le_of_succ_le this)⟩), fun x hx => (e3 x (.inl hx)).trans ((hz2 x (.inl hx)).trans (hz1 x hx))⟩
              clear k2 r3 r34 r4 hP2 hz2 y0 y1 y2 y3 y4 hz1
              obtain ⟨gr, egr⟩ : ∃ gr, gr = wt.heap.size + 1 := ⟨_, rfl⟩
              rw [← egr] at k3 kk3 ⊢
              clear egr
              go_wp2_with fail
              refine k3.mono ?_
              rintro e w5 ⟨rfl, m5, e5⟩
              rw [e5]
              clear e5 w5 k3
              have kk5 := kk3 m5
              clear kk3
              go_wp2_with fail
              refine kk5.mono ?_
              rintro e wz ⟨rfl, hP, hz⟩
              clear kk5
              have row3 := own_kept row (w' := wz) (fun b e => by cases e; exact hz g kg)
              have klf := leftByte_any wz _ g _ _ _ _ row3 (hB.out wz (p_ok hP).2.2.1)
              have kwd := p_waits hP
              have kwr := p_rwaits hP
              have kk : ∀ W, Below wz.heap.size wz W → Calls Tryz.prog 15 #[ptr bk, .slice (some ⟨g, 0, none⟩) a.b.length (a.b.length + 1)] W fun e W' => e = .returned (.tuple #[]) ∧ PI w W' (fun _ => False) bk B C (n + 1 + 1) (d) (d) := fun W hW =>
                (p_keep (hP.kept hW).1 (by omega) (twin_own (fun _ => rfl) (own_kept (own_nought row3) (fun b e => hW.block b (row3.lt b e).2))) (by omega) (fun b e => by cases e; exact ⟨kg, hgw⟩)).mono fun e W' ⟨e1, e2, _⟩ => ⟨e1, e2.sub (fun _ h => h.elim)⟩
              obtain ⟨y0, y1, y2, y3, y4⟩ := five_cells ((hz X kX).trans qX)
              have hws2 : (d).ws.length ≤ i + 1 := by omega
              have fin : ∀ W', PI w W' (fun _ => False) bk B C (n + 1 + 1) (d) (d) → ∃ (i1 B1 C1 n1 : Nat) (d1 : Dk), Value.int .i64 ((i : Int) + 1) = .int .i64 (i1 : Int) ∧ i1 ≤ l.length ∧ Value.pointer (some ⟨B, 0, none⟩) = .pointer (some ⟨B1, 0, none⟩) ∧ Value.pointer (some ⟨C, 0, none⟩) = .pointer (some ⟨C1, 0, none⟩) ∧ n1 ≤ 2 * i1 ∧ d1.ws.length ≤ i1 ∧ PI w W' (fun _ => False) bk B1 C1 n1 d1 d1 := fun W' h => ⟨i + 1, B, C, n + 1 + 1, d, by simp, by omega, rfl, rfl, by omega, hws2, h⟩
              have FIN : Hid _ := fin
              have KK2 : Hid _ := kk
              generalize ((d).ws.length : Int) = nWz at *
              clear hP hz row row3 qX hws2 fin kk
              go_wp2_with fail
              refine kwd.mono ?_
              rintro e w' ⟨rfl, ew⟩
              rw [← ew]
              clear ew w'
              go_wp2_with fail
              refine kwr.mono ?_
              rintro e w' ⟨rfl, ew⟩
              rw [← ew]
              clear ew w'
              clear kwd kwr
              go_wp2_with fail
              refine klf.mono ?_
              rintro e w4 ⟨rfl, bl⟩
              clear klf y0 y1 y2 y3 y4
              have k4 := KK2.out w4 bl
              go_wp2_with fail
              refine k4.mono ?_
              rintro e w5 ⟨rfl, hPe⟩
              have fe := FIN.out w5 hPe
              clear k4 KK2 FIN bl hPe
              go_wp2
              go_roundw
              case rel => exact fe
              case measure => simp [intOf]; omega
            · have hbad : at_ < 0 ∨ (d.sure.length : Int) ≤ at_ := by omega
              have k1 := p_readbad hP0 at_ hbad
              have k2 := p_rreadbad hP0 at_ hbad
              have k3 := sameBytes_any wt _ _ _ _ [] (InAt_nil wt 0) (InAt_nil wt 0)
              have kk3 : ∀ m, Calls Tryz.prog 15 #[ptr bk, .slice none 0 0] (wt.drewN m) fun e W' => e = .returned (.tuple #[]) ∧ PI w W' KK bk B C (n + 1) d d ∧ Same KK wt W' := fun m =>
                (p_keep (hP0.kept (below_drewN wt m)).1 (by omega) (World.ownsRow_nil _ _ _ _) (by omega) (fun b e => by cases e)).mono fun e W' ⟨e1, e2, e3⟩ => ⟨e1, e2.sub (fun x hx => ⟨hx, fun e => by cases e⟩), fun x hx => e3 x hx⟩
              clear hP0
              go_wp2_with fail
              refine k1.mono ?_
              rintro e w' ⟨rfl, ew⟩
              rw [← ew]
              clear ew w'
              go_wp2_with fail
              refine k2.mono ?_
              rintro e w' ⟨rfl, ew⟩
              rw [← ew]
              clear ew w'
              clear k1 k2
              go_wp2_with fail
              refine k3.mono ?_
              rintro e w5 ⟨rfl, m5, e5⟩
              rw [e5]
              clear e5 w5 k3
              have kk5 := kk3 m5
              clear kk3
              go_wp2_with fail
              refine kk5.mono ?_
              rintro e wz ⟨rfl, hP, hz⟩
              clear kk5
              have row3 := own_kept row (w' := wz) (fun b e => by cases e; exact hz g kg)
              have klf := leftByte_any wz _ g _ _ _ _ row3 (hB.out wz (p_ok hP).2.2.1)
              have kwd := p_waits hP
              have kwr := p_rwaits hP
              have kk : ∀ W, Below wz.heap.size wz W → Calls Tryz.prog 15 #[ptr bk, .slice (some ⟨g, 0, none⟩) a.b.length (a.b.length + 1)] W fun e W' => e = .returned (.tuple #[]) ∧ PI w W' (fun _ => False) bk B C (n + 1 + 1) (d) (d) := fun W hW =>
                (p_keep (hP.kept hW).1 (by omega) (twin_own (fun _ => rfl) (own_kept (own_nought row3) (fun b e => hW.block b (row3.lt b e).2))) (by omega) (fun b e => by cases e; exact ⟨kg, hgw⟩)).mono fun e W' ⟨e1, e2, _⟩ => ⟨e1, e2.sub (fun _ h => h.elim)⟩
              obtain ⟨y0, y1, y2, y3, y4⟩ := five_cells ((hz X kX).trans qX)
              have hws2 : (d).ws.length ≤ i + 1 := by omega
              have fin : ∀ W', PI w W' (fun _ => False) bk B C (n + 1 + 1) (d) (d) → ∃ (i1 B1 C1 n1 : Nat) (d1 : Dk), Value.int .i64 ((i : Int) + 1) = .int .i64 (i1 : Int) ∧ i1 ≤ l.length ∧ Value.pointer (some ⟨B, 0, none⟩) = .pointer (some ⟨B1, 0, none⟩) ∧ Value.pointer (some ⟨C, 0, none⟩) = .pointer (some ⟨C1, 0, none⟩) ∧ n1 ≤ 2 * i1 ∧ d1.ws.length ≤ i1 ∧ PI w W' (fun _ => False) bk B1 C1 n1 d1 d1 := fun W' h => ⟨i + 1, B, C, n + 1 + 1, d, by simp, by omega, rfl, rfl, by omega, hws2, h⟩
              have FIN : Hid _ := fin
              have KK2 : Hid _ := kk
              generalize ((d).ws.length : Int) = nWz at *
              clear hP hz row row3 qX hws2 fin kk
              go_wp2_with fail
              refine kwd.mono ?_
              rintro e w' ⟨rfl, ew⟩
              rw [← ew]
              clear ew w'
              go_wp2_with fail
              refine kwr.mono ?_
              rintro e w' ⟨rfl, ew⟩
              rw [← ew]
              clear ew w'
              clear kwd kwr
              go_wp2_with fail
              refine klf.mono ?_
              rintro e w4 ⟨rfl, bl⟩
              clear klf y0 y1 y2 y3 y4
              have k4 := KK2.out w4 bl
              go_wp2_with fail
              refine k4.mono ?_
              rintro e w5 ⟨rfl, hPe⟩
              have fe := FIN.out w5 hPe
              clear k4 KK2 FIN bl hPe
              go_wp2
              go_roundw
              case rel => exact fe
              case measure => simp [intOf]; omega
          · by_cases htb : torn < -1
            · have k1 := p_failbad hP0 (keep : Int) torn htb
              have k2 := rfail_bad wt C (keep : Int) torn htb
              go_wp2_with fail
              refine k1.mono ?_
              rintro e w' ⟨rfl, ew⟩
              rw [← ew]
              clear ew w'
              go_wp2_with fail
              refine k2.mono ?_
              rintro e w' ⟨rfl, ew⟩
              first | rw [← ew] | rw [ew]
              clear ew w'
              clear k1 k2
              obtain ⟨wz, ewz⟩ : ∃ wz, wz = wt := ⟨_, rfl⟩
              have hz : Same KK wt wz := by rw [ewz]; exact fun _ _ => rfl
              have hP : PI w wz KK bk B C n d d := by rw [ewz]; exact hP0
              rw [← ewz]
              clear hP0
              rw [← ewz] at x0 x1 x2 x3 x4
              clear ewz
              have row3 := own_kept row (w' := wz) (fun b e => by cases e; exact hz g kg)
              have klf := leftByte_any wz _ g _ _ _ _ row3 (hB.out wz (p_ok hP).2.2.1)
              have kwd := p_waits hP
              have kwr := p_rwaits hP
              have kk : ∀ W, Below wz.heap.size wz W → Calls Tryz.prog 15 #[ptr bk, .slice (some ⟨g, 0, none⟩) a.b.length (a.b.length + 1)] W fun e W' => e = .returned (.tuple #[]) ∧ PI w W' (fun _ => False) bk B C (n + 1) (d) (d) := fun W hW =>
                (p_keep (hP.kept hW).1 (by omega) (twin_own (fun _ => rfl) (own_kept (own_nought row3) (fun b e => hW.block b (row3.lt b e).2))) (by omega) (fun b e => by cases e; exact ⟨kg, hgw⟩)).mono fun e W' ⟨e1, e2, _⟩ => ⟨e1, e2.sub (fun _ h => h.elim)⟩
              obtain ⟨y0, y1, y2, y3, y4⟩ := five_cells ((hz X kX).trans qX)
              have hws2 : (d).ws.length ≤ i + 1 := by omega
              have fin : ∀ W', PI w W' (fun _ => False) bk B C (n + 1) (d) (d) → ∃ (i1 B1 C1 n1 : Nat) (d1 : Dk), Value.int .i64 ((i : Int) + 1) = .int .i64 (i1 : Int) ∧ i1 ≤ l.length ∧ Value.pointer (some ⟨B, 0, none⟩) = .pointer (some ⟨B1, 0, none⟩) ∧ Value.pointer (some ⟨C, 0, none⟩) = .pointer (some ⟨C1, 0, none⟩) ∧ n1 ≤ 2 * i1 ∧ d1.ws.length ≤ i1 ∧ PI w W' (fun _ => False) bk B1 C1 n1 d1 d1 := fun W' h => ⟨i + 1, B, C, n + 1, d, by simp, by omega, rfl, rfl, by omega, hws2, h⟩
              have FIN : Hid _ := fin
              have KK2 : Hid _ := kk
              generalize ((d).ws.length : Int) = nWz at *
              clear hP hz row row3 qX hws2 fin kk
              go_wp2_with fail
              refine kwd.mono ?_
              rintro e w' ⟨rfl, ew⟩
              rw [← ew]
              clear ew w'
              go_wp2_with fail
              refine kwr.mono ?_
              rintro e w' ⟨rfl, ew⟩
              rw [← ew]
              clear ew w'
              clear kwd kwr
              go_wp2_with fail
              refine klf.mono ?_
              rintro e w4 ⟨rfl, bl⟩
              clear klf y0 y1 y2 y3 y4
              have k4 := KK2.out w4 bl
              go_wp2_with fail
              refine k4.mono ?_
              rintro e w5 ⟨rfl, hPe⟩
              have fe := FIN.out w5 hPe
              clear k4 KK2 FIN bl hPe
              go_wp2
              go_roundw
              case rel => exact fe
              case measure => simp [intOf]; omega
            · have htk : -1 ≤ torn := by omega
              have k1 := p_fail hP0 keep hkeep torn htk
              go_wp2_with fail
              refine k1.mono ?_
              rintro e w3 ⟨B', S', rfl, hd, hS, b13, hP1, hz1⟩
              obtain ⟨y0, y1, y2, y3, y4⟩ := five_cells ((hz1 X kX).trans qX)
              have k2 := p_rfail hP1 hd hS b13 hP0 (by omega) keep hkeep torn htk
              clear k1
              go_wp2_with fail
              refine k2.mono ?_
              rintro e w4 ⟨rfl, hP2, hP3, hz2⟩
              obtain ⟨C', eC'⟩ : ∃ C', C' = w3.heap.size := ⟨_, rfl⟩
              rw [← eC'] at hP2 ⊢
              clear k2 hP1 hd hS b13 hP0 eC' y0 y1 y2 y3 y4
              have k3 := p_like hP2 (by simp [Dk.fail])
              go_wp2_with fail
              refine k3.mono ?_
              rintro e wz ⟨rfl, hP4, hz3, b45⟩
              have hP5 := (hP3.kept b45).1
              have hz : Same KK wt wz := fun x hx => ((hz3 x hx).trans (hz2 x hx)).trans (hz1 x hx)
              have hP := hP4
              obtain ⟨y0, y1, y2, y3, y4⟩ := five_cells ((hz X kX).trans qX)
              clear k3 hP2 hP3 hz2 hz3 hz1 b45 hP4 hP5
              have row3 := own_kept row (w' := wz) (fun b e => by cases e; exact hz g kg)
              have klf := leftByte_any wz _ g _ _ _ _ row3 (hB.out wz (p_ok hP).2.2.1)
              have kwd := p_waits hP
              have kwr := p_rwaits hP
              have kk : ∀ W, Below wz.heap.size wz W → Calls Tryz.prog 15 #[ptr bk, .slice (some ⟨g, 0, none⟩) a.b.length (a.b.length + 1)] W fun e W' => e = .returned (.tuple #[]) ∧ PI w W' (fun _ => False) bk B' C' (n + 1) (d.fail keep torn) (d.fail keep torn) := fun W hW =>
                (p_keep (hP.kept hW).1 (by omega) (twin_own (fun _ => rfl) (own_kept (own_nought row3) (fun b e => hW.block b (row3.lt b e).2))) (by omega) (fun b e => by cases e; exact ⟨kg, hgw⟩)).mono fun e W' ⟨e1, e2, _⟩ => ⟨e1, e2.sub (fun _ h => h.elim)⟩
              have hws2 : (d.fail keep torn).ws.length ≤ i + 1 := by simp [Dk.fail]
              have fin : ∀ W', PI w W' (fun _ => False) bk B' C' (n + 1) (d.fail keep torn) (d.fail keep torn) → ∃ (i1 B1 C1 n1 : Nat) (d1 : Dk), Value.int .i64 ((i : Int) + 1) = .int .i64 (i1 : Int) ∧ i1 ≤ l.length ∧ Value.pointer (some ⟨B', 0, none⟩) = .pointer (some ⟨B1, 0, none⟩) ∧ Value.pointer (some ⟨C', 0, none⟩) = .pointer (some ⟨C1, 0, none⟩) ∧ n1 ≤ 2 * i1 ∧ d1.ws.length ≤ i1 ∧ PI w W' (fun _ => False) bk B1 C1 n1 d1 d1 := fun W' h => ⟨i + 1, B', C', n + 1, d.fail keep torn, by simp, by omega, rfl, rfl, by omega, hws2, h⟩
              have FIN : Hid _ := fin
              have KK2 : Hid _ := kk
              generalize ((d.fail keep torn).ws.length : Int) = nWz at *
              clear hP hz row row3 qX hws2 fin kk
              go_wp2_with fail
              refine kwd.mono ?_
              rintro e w' ⟨rfl, ew⟩
              rw [← ew]
              clear ew w'
              go_wp2_with fail
              refine kwr.mono ?_
              rintro e w' ⟨rfl, ew⟩
              rw [← ew]
              clear ew w'
              clear kwd kwr
              go_wp2_with fail
              refine klf.mono ?_
              rintro e w4 ⟨rfl, bl⟩
              clear klf y0 y1 y2 y3 y4
              have k4 := KK2.out w4 bl
              go_wp2_with fail
              refine k4.mono ?_
              rintro e w5 ⟨rfl, hPe⟩
              have fe := FIN.out w5 hPe
              clear k4 KK2 FIN bl hPe
              go_wp2
              go_roundw
              case rel => exact fe
              case measure => simp [intOf]; omega
          · by_cases htb : torn < -1
            · have k1 := p_failbad hP0 (keep : Int) torn htb
              have k2 := rfail_bad wt C (keep : Int) torn htb
              go_wp2_with fail
              refine k1.mono ?_
              rintro e w' ⟨rfl, ew⟩
              rw [← ew]
              clear ew w'
              go_wp2_with fail
              refine k2.mono ?_
              rintro e w' ⟨rfl, ew⟩
              first | rw [← ew] | rw [ew]
              clear ew w'
              clear k1 k2
              obtain ⟨wz, ewz⟩ : ∃ wz, wz = wt := ⟨_, rfl⟩
              have hz : Same KK wt wz := by rw [ewz]; exact fun _ _ => rfl
              have hP : PI w wz KK bk B C n d d := by rw [ewz]; exact hP0
              rw [← ewz]
              clear hP0
              rw [← ewz] at x0 x1 x2 x3 x4
              clear ewz
              have row3 := own_kept row (w' := wz) (fun b e => by cases e; exact hz g kg)
              have klf := leftByte_any wz _ g _ _ _ _ row3 (hB.out wz (p_ok hP).2.2.1)
              have kwd := p_waits hP
              have kwr := p_rwaits hP
              have kk : ∀ W, Below wz.heap.size wz W → Calls Tryz.prog 15 #[ptr bk, .slice (some ⟨g, 0, none⟩) a.b.length (a.b.length + 1)] W fun e W' => e = .returned (.tuple #[]) ∧ PI w W' (fun _ => False) bk B C (n + 1) (d) (d) := fun W hW =>
                (p_keep (hP.kept hW).1 (by omega) (twin_own (fun _ => rfl) (own_kept (own_nought row3) (fun b e => hW.block b (row3.lt b e).2))) (by omega) (fun b e => by cases e; exact ⟨kg, hgw⟩)).mono fun e W' ⟨e1, e2, _⟩ => ⟨e1, e2.sub (fun _ h => h.elim)⟩
              obtain ⟨y0, y1, y2, y3, y4⟩ := five_cells ((hz X kX).trans qX)
              have hws2 : (d).ws.length ≤ i + 1 := by omega
              have fin : ∀ W', PI w W' (fun _ => False) bk B C (n + 1) (d) (d) → ∃ (i1 B1 C1 n1 : Nat) (d1 : Dk), Value.int .i64 ((i : Int) + 1) = .int .i64 (i1 : Int) ∧ i1 ≤ l.length ∧ Value.pointer (some ⟨B, 0, none⟩) = .pointer (some ⟨B1, 0, none⟩) ∧ Value.pointer (some ⟨C, 0, none⟩) = .pointer (some ⟨C1, 0, none⟩) ∧ n1 ≤ 2 * i1 ∧ d1.ws.length ≤ i1 ∧ PI w W' (fun _ => False) bk B1 C1 n1 d1 d1 := fun W' h => ⟨i + 1, B, C, n + 1, d, by simp, by omega, rfl, rfl, by omega, hws2, h⟩
              have FIN : Hid _ := fin
              have KK2 : Hid _ := kk
              generalize ((d).ws.length : Int) = nWz at *
              clear hP hz row row3 qX hws2 fin kk
              go_wp2_with fail
              refine kwd.mono ?_
              rintro e w' ⟨rfl, ew⟩
              rw [← ew]
              clear ew w'
              go_wp2_with fail
              refine kwr.mono ?_
              rintro e w' ⟨rfl, ew⟩
              rw [← ew]
              clear ew w'
              clear kwd kwr
              go_wp2_with fail
              refine klf.mono ?_
              rintro e w4 ⟨rfl, bl⟩
              clear klf y0 y1 y2 y3 y4
              have k4 := KK2.out w4 bl
              go_wp2_with fail
              refine k4.mono ?_
              rintro e w5 ⟨rfl, hPe⟩
              have fe := FIN.out w5 hPe
              clear k4 KK2 FIN bl hPe
              go_wp2
              go_roundw
              case rel => exact fe
              case measure => simp [intOf]; omega
            · have htk : -1 ≤ torn := by omega
              have k1 := p_fail hP0 keep hkeep torn htk
              go_wp2_with fail
              refine k1.mono ?_
              rintro e w3 ⟨B', S', rfl, hd, hS, b13, hP1, hz1⟩
              obtain ⟨y0, y1, y2, y3, y4⟩ := five_cells ((hz1 X kX).trans qX)
              have k2 := p_rfail hP1 hd hS b13 hP0 (by omega) keep hkeep torn htk
              clear k1
              go_wp2_with fail
              refine k2.mono ?_
              rintro e w4 ⟨rfl, hP2, hP3, hz2⟩
              obtain ⟨C', eC'⟩ : ∃ C', C' = w3.heap.size := ⟨_, rfl⟩
              rw [← eC'] at hP2 ⊢
              clear k2 hP1 hd hS b13 hP0 eC' y0 y1 y2 y3 y4
              have k3 := p_like hP2 (by simp [Dk.fail])
              go_wp2_with fail
              refine k3.mono ?_
              rintro e wz ⟨rfl, hP4, hz3, b45⟩
              have hP5 := (hP3.kept b45).1
              have hz : Same KK wt wz := fun x hx => ((hz3 x hx).trans (hz2 x hx)).trans (hz1 x hx)
              have hP := hP5
              obtain ⟨y0, y1, y2, y3, y4⟩ := five_cells ((hz X kX).trans qX)
              clear k3 hP2 hP3 hz2 hz3 hz1 b45 hP4 hP5
              have row3 := own_kept row (w' := wz) (fun b e => by cases e; exact hz g kg)
              have klf := leftByte_any wz _ g _ _ _ _ row3 (hB.out wz (p_ok hP).2.2.1)
              have kwd := p_waits hP
              have kwr := p_rwaits hP
              have kk : ∀ W, Below wz.heap.size wz W → Calls Tryz.prog 15 #[ptr bk, .slice (some ⟨g, 0, none⟩) a.b.length (a.b.length + 1)] W fun e W' => e = .returned (.tuple #[]) ∧ PI w W' (fun _ => False) bk B C (n + 1) (d) (d) := fun W hW =>
                (p_keep (hP.kept hW).1 (by omega) (twin_own (fun _ => rfl) (own_kept (own_nought row3) (fun b e => hW.block b (row3.lt b e).2))) (by omega) (fun b e => by cases e; exact ⟨kg, hgw⟩)).mono fun e W' ⟨e1, e2, _⟩ => ⟨e1, e2.sub (fun _ h => h.elim)⟩
              have hws2 : (d).ws.length ≤ i + 1 := by omega
              have fin : ∀ W', PI w W' (fun _ => False) bk B C (n + 1) (d) (d) → ∃ (i1 B1 C1 n1 : Nat) (d1 : Dk), Value.int .i64 ((i : Int) + 1) = .int .i64 (i1 : Int) ∧ i1 ≤ l.length ∧ Value.pointer (some ⟨B, 0, none⟩) = .pointer (some ⟨B1, 0, none⟩) ∧ Value.pointer (some ⟨C, 0, none⟩) = .pointer (some ⟨C1, 0, none⟩) ∧ n1 ≤ 2 * i1 ∧ d1.ws.length ≤ i1 ∧ PI w W' (fun _ => False) bk B1 C1 n1 d1 d1 := fun W' h => ⟨i + 1, B, C, n + 1, d, by simp, by omega, rfl, rfl, by omega, hws2, h⟩
              have FIN : Hid _ := fin
              have KK2 : Hid _ := kk
              generalize ((d).ws.length : Int) = nWz at *
              clear hP hz row row3 qX hws2 fin kk
              go_wp2_with fail
              refine kwd.mono ?_
              rintro e w' ⟨rfl, ew⟩
              rw [← ew]
              clear ew w'
              go_wp2_with fail
              refine kwr.mono ?_
              rintro e w' ⟨rfl, ew⟩
              rw [← ew]
              clear ew w'
              clear kwd kwr
              go_wp2_with fail
              refine klf.mono ?_
              rintro e w4 ⟨rfl, bl⟩
              clear klf y0 y1 y2 y3 y4
              have k4 := KK2.out w4 bl
              go_wp2_with fail
              refine k4.mono ?_
              rintro e w5 ⟨rfl, hPe⟩
              have fe := FIN.out w5 hPe
              clear k4 KK2 FIN bl hPe
              go_wp2
              go_roundw
              case rel => exact fe
              case measure => simp [intOf]; omega
        · have i1 : ¬ (i : Int) < (l.length : Int) := by omega
          have kl := p_like hP (by omega)
          go_wp2_with fail
          refine kl.mono ?_
          rintro e w' ⟨rfl, hP2, -, -⟩
          have ka := p_apart hP2
          clear kl hP
          go_wp2_with fail
          refine ka.mono ?_
          rintro e w' ⟨rfl, hb⟩
          go_wp2
          go_ret
          exact ⟨rfl, hb⟩
theorem play_walk (w : World) (v : Value) (n : Int) (l : List ActV) (hn : (Lit.int .i64 n).wf = true) (h : ActsAt w v l) :
    Calls Tryz.prog 3 #[.int .i64 n, v] w fun e w' => e = .returned (.bool true) ∧ Below w.heap.size w w' := play_any w n v l h
end Go.Proofs.YthnkakjelhnjdaaGreatDoor
