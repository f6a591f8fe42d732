/- The walk of Fail. -/
import Derived.Test.YtjaidhglemnakaaDClone
import Derived.WalkSmall
set_option linter.unusedSimpArgs false
set_option linter.unusedVariables false
namespace Go.Proofs.Ytjaidhglemnakaa
open Go.RowKit Go.Maps

theorem step_copy {P : Program} {ops : Array Oper} {o : Oper} {a : Act} {w : World} {K : Act → World → Prop} {Q : Exit → Act → World → Prop} {E : Prop} (hgd : o.guard = none) (d s : Operand) (dT sT : TypeId)
    (ho : o.op = .call { callee := .builtin .copy, args := #[d, s], argTypes := #[dT, sT] }) (vd vs : Value) (hd : a.eval d = vd) (hs : a.eval s = vs) (v : Value) (w' : World) (hrun : (Builtin.copy_ #[dT, sT] o.type #[vd, vs]).run P w = .ok v w')
    (h : K (a.put o.dst v) w') : if Region.wanted o (yielded ops a.tmps) = true then Oper.wp P o a w K Q else E := by
  have hw : Region.wanted o (yielded ops a.tmps) = true := by simp [Region.wanted, hgd]
  rw [if_pos hw]
  unfold Oper.wp
  simp [execOp, ho, resolve, invoke, builtin, hd, hs, hrun, Result.andThen]
  exact h
/-- A write of noughts, its cells. -/
def zwr : Array Value := #[.int .i64 0] ++ Array.replicate 64 (.int .u8 0)
theorem zwr_size : zwr.size = 65 := by simp [zwr]
set_option maxRecDepth 1000000 in
theorem info_zwr : (Try.prog.info? 76).map (fun i => (i.zero, i.size)) = some (some (.agg zwr), 65) := by kernel_rfl
theorem zero_wr : (∀ w, (zeroValue 76).run Try.prog w = .ok (.agg zwr) w) ∧ (Try.prog.info? 76).map (·.size) = some 65 := zero_of_info info_zwr
theorem cell_of_wcells {w : World} {g : Nat} {p : Nat × Sec} {t : TypeId} (h : w.heap[g]? = some (.cells (wcells p).toArray t (0, 0))) : w.cell? ⟨g, 0, none⟩ = some (.int .i64 (p.1 : Int)) := by
  rw [cell_of_row _ _ _ _ _ _ h]
  rfl
theorem ld_at (g i : Nat) (W : World) (h : W.cell? ⟨g, 0, none⟩ = some (.int .i64 (i : Int))) : (Instr.loadAt 3 (.pointer (some ⟨g, 0, none⟩))).run Try.prog W = .ok (.int .i64 (i : Int)) W := by go_simp
theorem wflat_get {ws : List (Nat × Sec)} (h : ∀ p ∈ ws, p.2.length = 64) {k : Nat} (hk : k < ws.length) {j : Nat} (hj : j < 65) : (ws.flatMap wcells)[k * 65 + j]? = (wcells (ws[k]'hk))[j]? := by
  induction ws generalizing k with
  | nil => cases hk
  | cons x l ih =>
    have hx := wcells_len x (h x (by simp))
    rw [List.flatMap_cons]
    cases k with
    | zero => rw [Nat.zero_mul, Nat.zero_add, List.getElem?_append_left (by omega)]; rfl
    | succ k =>
      rw [List.getElem?_append_right (by omega), hx, show (k + 1) * 65 + j - 65 = k * 65 + j by omega, ih (fun p hp => h p (by simp [hp])) (by simpa using hk)]
      rfl
theorem wr_range {w : World} {g c n : Nat} {ws : List (Nat × Sec)} (h : w.ownsRow 0 76 65 (.slice (some ⟨g, 0, none⟩) n c) n (ws.flatMap wcells)) (hw : ∀ p ∈ ws, p.2.length = 64) {k : Nat} (hk : k < ws.length) (hn : n = ws.length) : w.rangeAt g (k * 65) (wcells (ws[k]'hk)) := by
  intro j v hv
  have hl := wcells_len (ws[k]'hk) (hw _ (List.getElem_mem hk))
  have hj : j < 65 := by
    rcases Nat.lt_or_ge j 65 with h' | h'
    · exact h'
    · rw [List.getElem?_eq_none (by omega)] at hv; cases hv
  rw [World.ownsRow.cellAt h _ (by rw [hn]; have : (k + 1) * 65 ≤ ws.length * 65 := Nat.mul_le_mul_right _ hk; omega), wflat_get hw hk hj]
  exact hv
theorem bit_at (keep k : Nat) (hk : keep < 18446744073709551616) : bits BinOp.and IntKind.u64 ((keep : Int) / 2 ^ k) 1 = if keep.testBit k = true then 1 else 0 := by
  have h1 : ((keep : Int) / 2 ^ k) = ((keep / 2 ^ k : Nat) : Int) := by simp
  have h2 : keep / 2 ^ k ≤ keep := Nat.div_le_self _ _
  rw [h1, Nat.testBit_eq_decide_div_mod_eq]
  generalize keep / 2 ^ k = q at *
  rw [and_one_u64 _ (by omega) (by omega)]
  by_cases h : q % 2 = 1 <;> simp [h] <;> omega
theorem failTo_succ {sure : List Sec} {ws : List (Nat × Sec)} {keep : Nat} {torn : Int} {k : Nat} (hk : k < ws.length) : failTo sure ws keep torn (k + 1) = failStep keep torn (failTo sure ws keep torn k) k (ws[k]'hk) := by
  rw [failTo]
  simp [hk]

theorem own_base0 {w : World} {base : Nat} {e : TypeId} {size : Nat} {v : Value} {n : Nat} {xs : List Value} (h : w.ownsRow base e size v n xs) : w.ownsRow 0 e size v n xs := by
  refine ⟨h.1, ?_⟩
  rcases h.2 with h1 | ⟨g, cap, cur, h1, _, h2⟩
  · exact .inl h1
  · exact .inr ⟨g, cap, cur, h1, Nat.zero_le _, h2⟩
theorem fail_nil (w : World) (keep torn : Int) : Calls Try.prog 15 #[.pointer none, .int .u64 keep, .int .i64 torn] w fun e w' => e = .returned (.tuple #[.pointer none, .int .i64 2]) ∧ w = w' := by
  have kt := there_nil w
  go_enter Try.func15, Try.ntmps15
  go_wp2_with (go_at_call 31; refine kt.mono ?_; rintro e w' ⟨rfl, rfl⟩)
  go_ret2
  exact ⟨rfl, rfl⟩
theorem fail_bad {w : World} {B : Nat} {S : List Nat} {d : Dk} (h : DkAt w B S d) (keep torn : Int) (ht : torn < -1) : Calls Try.prog 15 #[.pointer (some ⟨B, 0, none⟩), .int .u64 keep, .int .i64 torn] w fun e w' => e = .returned (.tuple #[.pointer none, .int .i64 1]) ∧ w = w' := by
  obtain ⟨G, M, cap, F, D, rfl, h⟩ := h
  have kt := there_ok h
  clear h
  go_enter Try.func15, Try.ntmps15
  go_wp2_with (go_at_call 31; refine kt.mono ?_; rintro e w' ⟨rfl, rfl⟩)
  go_ret2
  exact ⟨rfl, rfl⟩

set_option maxHeartbeats 4000000 in
set_option maxRecDepth 1000000 in
theorem fail_ok {w : World} {B : Nat} {S : List Nat} {d : Dk} (h : DkAt w B S d) (keep : Nat) (hkeep : keep < 18446744073709551616) (torn : Int) (ht : -1 ≤ torn) :
    Calls Try.prog 15 #[.pointer (some ⟨B, 0, none⟩), .int .u64 (keep : Int), .int .i64 torn] w fun e w' =>
      ∃ B' S', e = .returned (.tuple #[.pointer (some ⟨B', 0, none⟩), .int .i64 0]) ∧ Below w.heap.size w w' ∧ DkAt w' B' S' (d.fail keep torn) ∧ ∀ x ∈ S', w.heap.size ≤ x := by
  obtain ⟨G, M, cap, F, D, rfl, h⟩ := h
  have kt := there_ok h
  have hmax := h.ok.max
  have hpos := h.ok.pos
  have hlt := h.lt
  obtain ⟨nF, hnF⟩ : ∃ nF, nF = min 64 d.ws.length := ⟨_, rfl⟩
  obtain ⟨nS, hnS⟩ : ∃ nS, nS = d.sure.length := ⟨_, rfl⟩
  have hfo := h.first
  rw [← hnF] at hfo
  obtain ⟨aF, cF, hF, hFc, hFm⟩ := own_len' hfo
  unfold maxLen at hFm
  have q0 := h.head
  rw [hF, ← hnS] at q0
  have x0 := quad_cells q0
  have kc := clone_ok h.sure (by omega) (by omega) (secs_one d.sure)
  rw [← hnS] at kc
  have i1 : ¬ torn < -1 := by omega
  have hB : B < w.heap.size := lt_of_block q0
  have hz := zero_wr.1
  have hcz : (Value.agg zwr).cells = zwr := rfl
  have hdok := h.ok
  have x00 := x0.1
  have hws : ∀ p ∈ d.ws.take 64, p.1 < d.sure.length ∧ p.2.length = 64 := fun p hp => hdok.ats p (List.mem_of_mem_take hp)
  have htl : (d.ws.take 64).length = nF := by rw [hnF]; simp
  have hHF : Hid (F = .slice aF nF cF) := hF
  have hHn : Hid (nF = min 64 d.ws.length) := hnF
  have hHs : Hid (nS = d.sure.length) := hnS
  clear hF hnF hnS
  go_enter Try.func15, Try.ntmps15
  go_wp2_with (first
    | (go_at_call 31; refine kt.mono ?_; rintro e w' ⟨rfl, rfl⟩)
    | (go_at_call 32; refine kc.mono ?_; rintro e w1 ⟨G2, c2, rfl, ho1, b1⟩; have x12 := (quad_cells ((b1.block B hB).trans q0)).2.2.1))
  clear kt kc
  have hG2 : w.heap.size ≤ G2 := (ho1.lt G2 rfl).1
  have hc2 := own_len' ho1
  clear x0 x00
  go_loopw [27] (fun i wr => ∃ k : Nat, k ≤ nF ∧ i = .int .i64 (k : Int) ∧ wr.ownsRow 0 74 64 (.slice (some ⟨G2, 0, none⟩) nS c2) nS ((failTo d.sure d.ws keep torn k).flatMap bcells) ∧ Below w.heap.size w wr)
    (fun i _ => nF - (intOf i).toNat)
  case atStart => exact ⟨0, Nat.zero_le _, rfl, own_base0 ho1, b1⟩
  case round =>
    obtain ⟨k, hk, rfl, ho, hbr⟩ := hrel
    have hfl := failTo_len d.sure d.ws keep torn k
    have hff := failTo_full keep torn hdok.full hdok.ats k
    by_cases hkn : k < nF
    · have hkt : k < (d.ws.take 64).length := by omega
      have hkw : k < d.ws.length := by have := hHn.out; omega
      obtain ⟨⟨at_, s⟩, hp⟩ : ∃ p, p = (d.ws.take 64)[k]'hkt := ⟨_, rfl⟩
      have hpw : (at_, s) = d.ws[k]'hkw := by rw [hp, List.getElem_take]
      obtain ⟨hat, hs⟩ : at_ < d.sure.length ∧ s.length = 64 := hws (at_, s) (by rw [hp]; exact List.getElem_mem hkt)
      have ff1 := own_kept hfo (fun b e => hbr.block b (hfo.lt b e).2)
      rw [hHF.out] at ff1
      obtain ⟨gF, eF⟩ : ∃ gF, aF = some ⟨gF, 0, none⟩ := by
        rcases ff1.2 with ⟨e, e2⟩ | ⟨g, c', cur, e, _⟩
        · omega
        · cases e; exact ⟨g, rfl⟩
      subst eF
      have rg := wr_range ff1 (fun p hp => (hws p hp).2) hkt htl.symm
      rw [← hp] at rg
      have hi65 : (Try.prog.info? 76).map (·.size) = some (wcells (at_, s)).length := by rw [zero_wr.2, wcells_len (at_, s) hs]
      have hi65a : (Try.prog.info? 76).map (·.size) = some (wcells (at_, s)).toArray.size := by rw [hi65]; simp
      have hzl : zwr.size = (wcells (at_, s)).toArray.size := by rw [zwr_size]; simp [wcells_len (at_, s) hs]
      have hone : (wcells (at_, s)).toArray.all (·.oneCell') = true := all_oneCell_toArray (wcells_one _)
      have hnew : (wr.alloc (.cells zwr 76)).heap[wr.heap.size]? = some (.cells zwr 76 (0, 0)) := heap_alloc_last _ _
      have j1 : (k : Int) < (nF : Int) := by omega
      have j2 : k ≤ 63 := by have := hHn.out; omega
      have hgF : gF < wr.heap.size := (ff1.lt gF rfl).2
      have hgG : G2 < wr.heap.size := (ho.lt G2 rfl).2
      have b2 : Below w.heap.size w (wr.alloc (.cells (wcells (at_, s)).toArray 76)) := hbr.alloc hbr.size _
      have ho2 := own_kept (w' := wr.alloc (.cells (wcells (at_, s)).toArray 76)) ho (fun b e => Below.heap_alloc _ _ _ (ho.lt b e).2)
      have r2 := heap_alloc_last wr (.cells (wcells (at_, s)).toArray 76)
      have hsu := failTo_succ (sure := d.sure) (ws := d.ws) (keep := keep) (torn := torn) hkw
      rw [← hpw] at hsu
      have hbit := bit_at keep k hkeep
      have hHk : Hid (nS = d.sure.length) := hHs
      by_cases hbt : keep.testBit k = true
      · rw [if_pos hbt] at hbit
        unfold failStep at hsu
        rw [if_pos hbt] at hsu
        have htn : tornN torn k = if (k : Int) = torn then 32 else 64 := rfl
        have hatS : at_ < nS := by rw [hHs.out]; exact hat
        have main : ∀ m : Nat, m ≤ 64 → 0 < m → tornN torn k = m → ∃ w3, (Builtin.copy_ #[22, 22] 3 #[.slice (some ⟨G2, at_ * 64, none⟩) m 64, .slice (some ⟨wr.heap.size, 1, none⟩) 64 64]).run Try.prog (wr.alloc (.cells (wcells (at_, s)).toArray 76)).drew = .ok (goInt (m : Int)) w3 ∧
            w3.heap[wr.heap.size]? = some (.cells (wcells (at_, s)).toArray 76 (0, 0)) ∧
            w3.ownsRow 0 74 64 (.slice (some ⟨G2, 0, none⟩) nS c2) nS ((failTo d.sure d.ws keep torn (k + 1)).flatMap bcells) ∧ Below w.heap.size w w3 := by
          intro m hm hm0 hmt
          have hlS : (failTo d.sure d.ws keep torn k).length = nS := by rw [hfl, hHs.out]
          obtain ⟨cur, hg, hsz, hn⟩ := own_mid (w := (wr.alloc (.cells (wcells (at_, s)).toArray 76)).drew) (l := failTo d.sure d.ws keep torn k) (cap := c2) (by rw [hlS]; exact ho2) hff (k := at_) (by rw [hlS]; exact hatS) hs hm
          have hl1 : (bcells (s.take m)).length = m := by rw [bcells_len]; simp; omega
          have hrun := run_copy_row (P := Try.prog) (wr.alloc (.cells (wcells (at_, s)).toArray 76)).drew 22 22 3 5 G2 (at_ * 64) m 64 ⟨wr.heap.size, 1, none⟩ 64 64 cur 74 (bcells (s.take m)) Try.underlying22 info_u8b hg (by rw [hl1]; show m = min 64 m; omega) (fun j u hu => by
            have hj : j < m := by
              rcases Nat.lt_or_ge j m with h' | h'
              · exact h'
              · rw [List.getElem?_eq_none (by omega)] at hu; cases hu
            rw [Addr.add_lit]
            show (wr.alloc (.cells (wcells (at_, s)).toArray 76)).cell? ⟨wr.heap.size, 1 + j, none⟩ = some u
            rw [cell_of_row _ _ _ _ _ _ r2, Nat.add_comm, ← hu, bcells_take, List.getElem?_take, if_pos hj]
            simp [wcells]) (by rw [hl1]; exact hsz) (bcells_one _)
          rw [hl1] at hrun
          refine ⟨_, hrun, ?_, ?_, ?_⟩
          · exact (setRow_other _ _ _ _ (by omega)).trans r2
          · rw [hsu, ← hlS, hmt]
            exact hn _ rfl
          · exact below_setRow b2.drew hG2 _
        have hnk : ¬ nS ≤ at_ := by omega
        have hci : (at_ : Int) < (nS : Int) := by omega
        by_cases htk : (k : Int) = torn
        · obtain ⟨w3, cp3, r3, ho3, b3⟩ := main 32 (by omega) (by omega) (by rw [htn, if_pos htk])
          have fin : ∃ k1 : Nat, k1 ≤ nF ∧ Value.int .i64 ((k : Int) + 1) = .int .i64 (k1 : Int) ∧ w3.ownsRow 0 74 64 (.slice (some ⟨G2, 0, none⟩) nS c2) nS ((failTo d.sure d.ws keep torn k1).flatMap bcells) ∧ Below w.heap.size w w3 := ⟨k + 1, by omega, by simp, ho3, b3⟩
          have htk' : ((k : Int) == torn) = true := by simpa using htk
          clear main hsu hbr ho ho2 b2 hws htl hp hpw ff1 hfo x12 ho1 b1 htk htn hlt hmax hpos hdok h q0 hbt hfl hff hc2
          go_wp2_with (first
            | (refine wpList_load_mid rfl 76 (.tmp 30) rfl gF (k * 65) rfl (wcells (at_, s)) _ rg Try.underlying76 rfl hi65 ?_)
            | (refine wpList_store_row rfl 76 (.tmp 10) (.tmp 31) rfl wr.heap.size (wcells (at_, s)).toArray rfl rfl 76 zwr hnew hi65a hzl hone ?_; rw [World.setRow_alloc_new]))
          refine wp_region_noPanic ?_
          refine wp_region_held_drew (S := fun W => W.heap[wr.heap.size]? = some (.cells (wcells (at_, s)).toArray 76 (0, 0))) (by kernel_rfl) r2 (fun hHeld => ?_)
          refine wpAnyH_take (i := 0) (oi := { dst := some 40, op := Go.Op.move (Go.Operand.tmp 8), type := 37, pos := _, after := #[], guard := none }) (v := .slice (some ⟨G2, 0, none⟩) nS c2) rfl (by kernel_rfl) (by kernel_rfl) (by kernel_rfl) (fun _ _ _ h => h) (Or.inl ⟨by rfl, fun W hW => by go_simp⟩) (by assumption) ?_
          try simp only [Act.put, List.setIfInBounds_toArray, List.set_cons_zero, List.set_cons_succ]
          refine wpAnyH_take (i := 1) (oi := { dst := some 41, op := Go.Op.fieldAddr 76 (Go.Operand.tmp 10) 0, type := 0, pos := _, after := #[], guard := none }) (v := .pointer (some ⟨wr.heap.size, 0, none⟩)) rfl (by kernel_rfl) (by kernel_rfl) (by kernel_rfl) (fun _ _ _ h => h) (Or.inl ⟨by rfl, fun W hW => by go_simp⟩) (by assumption) ?_
          try simp only [Act.put, List.setIfInBounds_toArray, List.set_cons_zero, List.set_cons_succ]
          refine wpAnyH_take (i := 2) (oi := { dst := some 42, op := Go.Op.load 3 (Go.Operand.tmp 41), type := 3, pos := _, after := #[{ on := 1, ground := Go.Ground.data }], guard := none }) (v := .int .i64 (at_ : Int)) rfl (by kernel_rfl) (by kernel_rfl) (by kernel_rfl) (fun _ _ _ h => h) (yieldsIf_load (by rfl) 3 (.tmp 41) rfl _ _ rfl (fun W hW => ld_at _ _ W (cell_of_wcells hW))) (by assumption) ?_
          try simp only [Act.put, List.setIfInBounds_toArray, List.set_cons_zero, List.set_cons_succ]
          refine wpAnyH_take (i := 3) (oi := { dst := some 43, op := Go.Op.indexAddr 37 (Go.Operand.tmp 40) (Go.Operand.tmp 42), type := 0, pos := _, after := #[{ on := 0, ground := Go.Ground.data }, { on := 2, ground := Go.Ground.data }], guard := none }) (v := .pointer (some ⟨G2, at_ * 64, none⟩)) rfl (by kernel_rfl) (by kernel_rfl) (by kernel_rfl) (fun _ _ _ h => h) (Or.inl ⟨by rfl, fun W hW => by go_simp⟩) (by assumption) ?_
          try simp only [Act.put, List.setIfInBounds_toArray, List.set_cons_zero, List.set_cons_succ]
          refine wpAnyH_take (i := 4) (oi := { dst := some 44, op := Go.Op.move (Go.Operand.tmp 11), type := 3, pos := _, after := #[], guard := none }) (v := .int .i64 32) rfl (by kernel_rfl) (by kernel_rfl) (by kernel_rfl) (fun _ _ _ h => h) (Or.inl ⟨by rfl, fun W hW => by go_simp⟩) (by assumption) ?_
          try simp only [Act.put, List.setIfInBounds_toArray, List.set_cons_zero, List.set_cons_succ]
          refine wpAnyH_take (i := 5) (oi := { dst := some 45, op := Go.Op.slice 74 (Go.Operand.tmp 43) none (some (Go.Operand.tmp 44)) none, type := 22, pos := _, after := #[{ on := 3, ground := Go.Ground.data }, { on := 4, ground := Go.Ground.data }], guard := none }) (v := .slice (some ⟨G2, at_ * 64, none⟩) 32 64) rfl (by kernel_rfl) (by kernel_rfl) (by kernel_rfl) (fun _ _ _ h => h) (Or.inl ⟨by rfl, fun W hW => by go_simp⟩) (by assumption) ?_
          try simp only [Act.put, List.setIfInBounds_toArray, List.set_cons_zero, List.set_cons_succ]
          refine wpAnyH_take (i := 6) (oi := { dst := some 46, op := Go.Op.fieldAddr 76 (Go.Operand.tmp 10) 1, type := 0, pos := _, after := #[], guard := none }) (v := .pointer (some ⟨wr.heap.size, 1, none⟩)) rfl (by kernel_rfl) (by kernel_rfl) (by kernel_rfl) (fun _ _ _ h => h) (Or.inl ⟨by rfl, fun W hW => by go_simp⟩) (by assumption) ?_
          try simp only [Act.put, List.setIfInBounds_toArray, List.set_cons_zero, List.set_cons_succ]
          refine wpAnyH_take (i := 7) (oi := { dst := some 47, op := Go.Op.slice 74 (Go.Operand.tmp 46) none none none, type := 22, pos := _, after := #[{ on := 6, ground := Go.Ground.data }], guard := none }) (v := .slice (some ⟨wr.heap.size, 1, none⟩) 64 64) rfl (by kernel_rfl) (by kernel_rfl) (by kernel_rfl) (fun _ _ _ h => h) (Or.inl ⟨by rfl, fun W hW => by go_simp⟩) (by assumption) ?_
          try simp only [Act.put, List.setIfInBounds_toArray, List.set_cons_zero, List.set_cons_succ]
          refine wpAnyH_ready (rs := [8]) (by kernel_rfl) (by simp) ?_
          refine AllReadyH.cons (o := { dst := some 48, op := Go.Op.call { callee := Go.Callee.builtin Go.Builtin.copy, args := #[Go.Operand.tmp 45, Go.Operand.tmp 47], argTypes := #[22, 22] }, type := 3, pos := _, after := #[{ on := 5, ground := Go.Ground.data }, { on := 7, ground := Go.Ground.data }], guard := none }) rfl (fun K hK => ?_) AllReadyH.nil
          refine step_copy rfl (.tmp 45) (.tmp 47) 22 22 rfl (.slice (some ⟨G2, at_ * 64, none⟩) 32 64) (.slice (some ⟨wr.heap.size, 1, none⟩) 64 64) rfl rfl _ w3 cp3 ?_
          refine hK.out _ _ r3 (fun _ => ?_)
          clear hK K hHeld
          try simp only [Act.put, List.setIfInBounds_toArray, List.set_cons_zero, List.set_cons_succ]
          refine wpAnyH_done (by kernel_rfl) ?_ _
          refine NoPanic.normal ?_
          go_wp2
          go_roundw
          case rel => first | exact fin | ((repeat apply Exists.intro); exact ⟨fin, rfl⟩)
          case measure => simp [intOf]; omega
        · obtain ⟨w3, cp3, r3, ho3, b3⟩ := main 64 (by omega) (by omega) (by rw [htn, if_neg htk])
          have fin : ∃ k1 : Nat, k1 ≤ nF ∧ Value.int .i64 ((k : Int) + 1) = .int .i64 (k1 : Int) ∧ w3.ownsRow 0 74 64 (.slice (some ⟨G2, 0, none⟩) nS c2) nS ((failTo d.sure d.ws keep torn k1).flatMap bcells) ∧ Below w.heap.size w w3 := ⟨k + 1, by omega, by simp, ho3, b3⟩
          have htk' : ((k : Int) == torn) = false := by simpa using htk
          clear main hsu hbr ho ho2 b2 hws htl hp hpw ff1 hfo x12 ho1 b1 htk htn hlt hmax hpos hdok h q0 hbt hfl hff hc2
          go_wp2_with (first
            | (refine wpList_load_mid rfl 76 (.tmp 30) rfl gF (k * 65) rfl (wcells (at_, s)) _ rg Try.underlying76 rfl hi65 ?_)
            | (refine wpList_store_row rfl 76 (.tmp 10) (.tmp 31) rfl wr.heap.size (wcells (at_, s)).toArray rfl rfl 76 zwr hnew hi65a hzl hone ?_; rw [World.setRow_alloc_new]))
          refine wp_region_noPanic ?_
          refine wp_region_held_drew (S := fun W => W.heap[wr.heap.size]? = some (.cells (wcells (at_, s)).toArray 76 (0, 0))) (by kernel_rfl) r2 (fun hHeld => ?_)
          refine wpAnyH_take (i := 0) (oi := { dst := some 40, op := Go.Op.move (Go.Operand.tmp 8), type := 37, pos := _, after := #[], guard := none }) (v := .slice (some ⟨G2, 0, none⟩) nS c2) rfl (by kernel_rfl) (by kernel_rfl) (by kernel_rfl) (fun _ _ _ h => h) (Or.inl ⟨by rfl, fun W hW => by go_simp⟩) (by assumption) ?_
          try simp only [Act.put, List.setIfInBounds_toArray, List.set_cons_zero, List.set_cons_succ]
          refine wpAnyH_take (i := 1) (oi := { dst := some 41, op := Go.Op.fieldAddr 76 (Go.Operand.tmp 10) 0, type := 0, pos := _, after := #[], guard := none }) (v := .pointer (some ⟨wr.heap.size, 0, none⟩)) rfl (by kernel_rfl) (by kernel_rfl) (by kernel_rfl) (fun _ _ _ h => h) (Or.inl ⟨by rfl, fun W hW => by go_simp⟩) (by assumption) ?_
          try simp only [Act.put, List.setIfInBounds_toArray, List.set_cons_zero, List.set_cons_succ]
          refine wpAnyH_take (i := 2) (oi := { dst := some 42, op := Go.Op.load 3 (Go.Operand.tmp 41), type := 3, pos := _, after := #[{ on := 1, ground := Go.Ground.data }], guard := none }) (v := .int .i64 (at_ : Int)) rfl (by kernel_rfl) (by kernel_rfl) (by kernel_rfl) (fun _ _ _ h => h) (yieldsIf_load (by rfl) 3 (.tmp 41) rfl _ _ rfl (fun W hW => ld_at _ _ W (cell_of_wcells hW))) (by assumption) ?_
          try simp only [Act.put, List.setIfInBounds_toArray, List.set_cons_zero, List.set_cons_succ]
          refine wpAnyH_take (i := 3) (oi := { dst := some 43, op := Go.Op.indexAddr 37 (Go.Operand.tmp 40) (Go.Operand.tmp 42), type := 0, pos := _, after := #[{ on := 0, ground := Go.Ground.data }, { on := 2, ground := Go.Ground.data }], guard := none }) (v := .pointer (some ⟨G2, at_ * 64, none⟩)) rfl (by kernel_rfl) (by kernel_rfl) (by kernel_rfl) (fun _ _ _ h => h) (Or.inl ⟨by rfl, fun W hW => by go_simp⟩) (by assumption) ?_
          try simp only [Act.put, List.setIfInBounds_toArray, List.set_cons_zero, List.set_cons_succ]
          refine wpAnyH_take (i := 4) (oi := { dst := some 44, op := Go.Op.move (Go.Operand.tmp 11), type := 3, pos := _, after := #[], guard := none }) (v := .int .i64 64) rfl (by kernel_rfl) (by kernel_rfl) (by kernel_rfl) (fun _ _ _ h => h) (Or.inl ⟨by rfl, fun W hW => by go_simp⟩) (by assumption) ?_
          try simp only [Act.put, List.setIfInBounds_toArray, List.set_cons_zero, List.set_cons_succ]
          refine wpAnyH_take (i := 5) (oi := { dst := some 45, op := Go.Op.slice 74 (Go.Operand.tmp 43) none (some (Go.Operand.tmp 44)) none, type := 22, pos := _, after := #[{ on := 3, ground := Go.Ground.data }, { on := 4, ground := Go.Ground.data }], guard := none }) (v := .slice (some ⟨G2, at_ * 64, none⟩) 64 64) rfl (by kernel_rfl) (by kernel_rfl) (by kernel_rfl) (fun _ _ _ h => h) (Or.inl ⟨by rfl, fun W hW => by go_simp⟩) (by assumption) ?_
          try simp only [Act.put, List.setIfInBounds_toArray, List.set_cons_zero, List.set_cons_succ]
          refine wpAnyH_take (i := 6) (oi := { dst := some 46, op := Go.Op.fieldAddr 76 (Go.Operand.tmp 10) 1, type := 0, pos := _, after := #[], guard := none }) (v := .pointer (some ⟨wr.heap.size, 1, none⟩)) rfl (by kernel_rfl) (by kernel_rfl) (by kernel_rfl) (fun _ _ _ h => h) (Or.inl ⟨by rfl, fun W hW => by go_simp⟩) (by assumption) ?_
          try simp only [Act.put, List.setIfInBounds_toArray, List.set_cons_zero, List.set_cons_succ]
          refine wpAnyH_take (i := 7) (oi := { dst := some 47, op := Go.Op.slice 74 (Go.Operand.tmp 46) none none none, type := 22, pos := _, after := #[{ on := 6, ground := Go.Ground.data }], guard := none }) (v := .slice (some ⟨wr.heap.size, 1, none⟩) 64 64) rfl (by kernel_rfl) (by kernel_rfl) (by kernel_rfl) (fun _ _ _ h => h) (Or.inl ⟨by rfl, fun W hW => by go_simp⟩) (by assumption) ?_
          try simp only [Act.put, List.setIfInBounds_toArray, List.set_cons_zero, List.set_cons_succ]
          refine wpAnyH_ready (rs := [8]) (by kernel_rfl) (by simp) ?_
          refine AllReadyH.cons (o := { dst := some 48, op := Go.Op.call { callee := Go.Callee.builtin Go.Builtin.copy, args := #[Go.Operand.tmp 45, Go.Operand.tmp 47], argTypes := #[22, 22] }, type := 3, pos := _, after := #[{ on := 5, ground := Go.Ground.data }, { on := 7, ground := Go.Ground.data }], guard := none }) rfl (fun K hK => ?_) AllReadyH.nil
          refine step_copy rfl (.tmp 45) (.tmp 47) 22 22 rfl (.slice (some ⟨G2, at_ * 64, none⟩) 64 64) (.slice (some ⟨wr.heap.size, 1, none⟩) 64 64) rfl rfl _ w3 cp3 ?_
          refine hK.out _ _ r3 (fun _ => ?_)
          clear hK K hHeld
          try simp only [Act.put, List.setIfInBounds_toArray, List.set_cons_zero, List.set_cons_succ]
          refine wpAnyH_done (by kernel_rfl) ?_ _
          refine NoPanic.normal ?_
          go_wp2
          go_roundw
          case rel => first | exact fin | ((repeat apply Exists.intro); exact ⟨fin, rfl⟩)
          case measure => simp [intOf]; omega
      · rw [if_neg hbt] at hbit
        unfold failStep at hsu
        rw [if_neg hbt] at hsu
        have fin : ∃ k1 : Nat, k1 ≤ nF ∧ Value.int .i64 ((k : Int) + 1) = .int .i64 (k1 : Int) ∧ (wr.alloc (.cells (wcells (at_, s)).toArray 76)).ownsRow 0 74 64 (.slice (some ⟨G2, 0, none⟩) nS c2) nS ((failTo d.sure d.ws keep torn k1).flatMap bcells) ∧ Below w.heap.size w (wr.alloc (.cells (wcells (at_, s)).toArray 76)) := ⟨k + 1, by omega, by simp, by rw [hsu]; exact ho2, b2⟩
        clear hsu hbr ho ho2 b2 hws htl hp hpw ff1 hfo x12 ho1 b1 hlt hmax hpos hdok h q0 hbt hfl hff hc2
        go_wp2_with (first
            | (refine wpList_load_mid rfl 76 (.tmp 30) rfl gF (k * 65) rfl (wcells (at_, s)) _ rg Try.underlying76 rfl hi65 ?_)
            | (refine wpList_store_row rfl 76 (.tmp 10) (.tmp 31) rfl wr.heap.size (wcells (at_, s)).toArray rfl rfl 76 zwr hnew hi65a hzl hone ?_; rw [World.setRow_alloc_new]))
        go_roundw
        case rel => first | exact fin | ((repeat apply Exists.intro); exact ⟨fin, rfl⟩)
        case measure => simp [intOf]; omega
    · have ekn : k = nF := by omega
      have hlS : (failTo d.sure d.ws keep torn k).length = nS := by rw [hfl, hHs.out]
      have hfd : (Dk.mk (failTo d.sure d.ws keep torn k) []) = d.fail keep torn := by unfold Dk.fail; rw [ekn, hHn.out]
      have ko := of_ok (w := wr) (G := G2) (cap := c2) (l := failTo d.sure d.ws keep torn k) (by rw [hlS]; exact ho) (by rw [hfd]; exact hdok.fail keep torn)
      rw [hlS, hfd] at ko
      have j1 : ¬ (k : Int) < (nF : Int) := by omega
      clear hws htl hfo x12 ho1 b1 hlt hmax hpos hdok h q0 hff ho hfl hc2 hlS hfd
      go_wp2_with (go_at_call 30; refine ko.mono ?_; rintro e w2 ⟨rfl, b2, hd⟩)
      go_ret2
      have := hbr.size
      refine ⟨_, _, rfl, hbr.trans (b2.mono hbr.size), hd, fun x hx => ?_⟩
      simp at hx
      omega
end Go.Proofs.Ytjaidhglemnakaa
