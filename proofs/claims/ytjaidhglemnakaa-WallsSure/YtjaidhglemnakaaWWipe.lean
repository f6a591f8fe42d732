/- The walk of wipe: what is left behind the records is written over. -/
import Derived.Test.YtjaidhglemnakaaWDrawn
import Derived.Test.YtjaidhglemnakaaWOther
set_option linter.unusedSimpArgs false
set_option linter.unusedVariables false
namespace Go.Proofs.Ytjaidhglemnakaa
open Go.RowKit Go.Maps
attribute [local go_sem] Oper.semAt_some wfn wdp rfn rdp

theorem Chg.putObj {S : List Nat} {w W : World} (h : Chg S w W) {k : Nat} (o : Obj) (hk : w.heap.size ≤ k) : Chg S w (W.putObj k o) :=
  ⟨h.os, h.tape, h.output, by rw [World.putObj_size]; exact h.size, fun i hi hn => by rw [World.putObj_heap_other (by omega)]; exact h.block i hi hn⟩
set_option maxHeartbeats 800000 in
set_option maxRecDepth 1000000 in
theorem wipe_ok {w : World} {L B : Nat} {S : List Nat} {d : Dk} {n : Nat} (h : LgAt w L B S d n) (hn : n ≤ d.sure.length) (hw : d.ws.length ≤ 900000) : Calls Try.prog 28 #[.pointer (some ⟨L, 0, none⟩)] w fun e w' =>
    e = .returned (.tuple #[]) ∧ ∃ S', LgAt w' L B S' (d.wipe n (d.sure.length - n)) n ∧ Chg S w w' ∧ ∀ x ∈ S', x ∈ S ∨ w.heap.size ≤ x := by
  obtain ⟨c0, c1⟩ := h.cells
  have hok := h.dk.ok
  have hmx := hok.max
  have hLt := h.lt
  have d0 := h.dk
  have hlog := h.log
  have hnS := h.notS
  clear h
  refine callsIn_wide.1 (callsIn_of_wp_marks (n := 0) Try.func28 rfl trivial ?_ rfl)
  simp only [Try.ntmps28, List.size_toArray, List.length_cons, List.length_nil, Nat.reduceAdd, Nat.reduceSub, Array.replicate_succ, Array.replicate_zero, List.push_toArray, List.append_toArray, List.nil_append, List.cons_append]
  gi_wp2
  have h1 : (w.alloc (.cells #[.pointer (some ⟨L, 0, none⟩)] 82)).heap[w.heap.size]? = some (.cells #[.pointer (some ⟨L, 0, none⟩)] 82 (0, 0)) := World.alloc_heap_new w _
  have b1 := below_one w (.cells #[.pointer (some ⟨L, 0, none⟩)] 82)
  have z1 : (w.alloc (.cells #[.pointer (some ⟨L, 0, none⟩)] 82)).heap.size = w.heap.size + 1 := by simp
  obtain ⟨W1, hW1⟩ : ∃ W1, w.alloc (.cells #[.pointer (some ⟨L, 0, none⟩)] 82) = W1 := ⟨_, rfl⟩
  rw [hW1] at h1 b1 z1 ⊢
  have h1H : Hid (W1.heap[w.heap.size]? = some (.cells #[.pointer (some ⟨L, 0, none⟩)] 82 (0, 0))) := h1
  have z1H : Hid (W1.heap.size = w.heap.size + 1) := z1
  have d1 := d0.below b1
  have l1 : W1.heap[L]? = some _ := (b1.block L hLt).trans hlog
  clear hW1 z1 d0
  have cc := box_cell h1
  obtain ⟨e0, e1⟩ := pair_cell l1
  have LW0 : w.heap.size < W1.heap.size := lt_of_block h1
  clear h1
  have LW1 : L < W1.heap.size := lt_of_block l1
  refine wide_region (fun W => Below W1.heap.size W1 W) (by kernel_rfl) (by kernel_rfl) (below_drew _) (fun hHeld => ?_)
  -- REGION 1
  refine wpAnyH_take (i := 0) (oi := { dst := some 4, op := Go.Op.load 82 (Go.Operand.tmp 1), type := 82, pos := _, after := #[], guard := none }) (v := .pointer (some ⟨L, 0, none⟩)) rfl (by kernel_rfl) (by kernel_rfl) (by kernel_rfl) (fun _ _ _ h => h) (yieldsIf_load (by rfl) 82 (.tmp 1) rfl _ _ rfl (fun W hW => ld_place _ _ _ W ((hW.cell (by simp; omega)).trans cc))) (by assumption) ?_
  try simp only [Act.put, List.setIfInBounds_toArray, List.set_cons_zero, List.set_cons_succ]
  refine wpAnyH_take (i := 1) (oi := { dst := some 5, op := Go.Op.nilCheck (Go.Operand.tmp 4), type := 0, pos := _, after := #[{ on := 0, ground := Go.Ground.data }], guard := none }) (v := .pointer (some ⟨L, 0, none⟩)) rfl (by kernel_rfl) (by kernel_rfl) (by kernel_rfl) (fun _ _ _ h => h) (Or.inl ⟨by rfl, fun W hW => by go_simp⟩) (by assumption) ?_
  try simp only [Act.put, List.setIfInBounds_toArray, List.set_cons_zero, List.set_cons_succ]
  refine wpAnyH_take (i := 2) (oi := { dst := some 6, op := Go.Op.fieldAddr 26 (Go.Operand.tmp 5) 0, type := 0, pos := _, after := #[{ on := 1, ground := Go.Ground.data }], guard := none }) (v := .pointer (some ⟨L, 0, none⟩)) rfl (by kernel_rfl) (by kernel_rfl) (by kernel_rfl) (fun _ _ _ h => h) (Or.inl ⟨by rfl, fun W hW => by go_simp⟩) (by assumption) ?_
  try simp only [Act.put, List.setIfInBounds_toArray, List.set_cons_zero, List.set_cons_succ]
  refine wpAnyH_take (i := 3) (oi := { dst := some 7, op := Go.Op.load 24 (Go.Operand.tmp 6), type := 24, pos := _, after := #[{ on := 2, ground := Go.Ground.data }], guard := none }) (v := .pointer (some ⟨B, 0, none⟩)) rfl (by kernel_rfl) (by kernel_rfl) (by kernel_rfl) (fun _ _ _ h => h) (yieldsIf_load (by rfl) 24 (.tmp 6) rfl _ _ rfl (fun W hW => ld_disk _ _ _ W ((hW.cell (by simp; omega)).trans e0))) (by assumption) ?_
  try simp only [Act.put, List.setIfInBounds_toArray, List.set_cons_zero, List.set_cons_succ]
  refine wpAnyH_take (i := 4) (oi := { dst := some 8, op := Go.Op.load 82 (Go.Operand.tmp 1), type := 82, pos := _, after := #[], guard := none }) (v := .pointer (some ⟨L, 0, none⟩)) rfl (by kernel_rfl) (by kernel_rfl) (by kernel_rfl) (fun _ _ _ h => h) (yieldsIf_load (by rfl) 82 (.tmp 1) rfl _ _ rfl (fun W hW => ld_place _ _ _ W ((hW.cell (by simp; omega)).trans cc))) (by assumption) ?_
  try simp only [Act.put, List.setIfInBounds_toArray, List.set_cons_zero, List.set_cons_succ]
  refine wpAnyH_take (i := 5) (oi := { dst := some 9, op := Go.Op.nilCheck (Go.Operand.tmp 8), type := 0, pos := _, after := #[{ on := 4, ground := Go.Ground.data }], guard := none }) (v := .pointer (some ⟨L, 0, none⟩)) rfl (by kernel_rfl) (by kernel_rfl) (by kernel_rfl) (fun _ _ _ h => h) (Or.inl ⟨by rfl, fun W hW => by go_simp⟩) (by assumption) ?_
  try simp only [Act.put, List.setIfInBounds_toArray, List.set_cons_zero, List.set_cons_succ]
  refine wpAnyH_take (i := 6) (oi := { dst := some 10, op := Go.Op.fieldAddr 26 (Go.Operand.tmp 9) 1, type := 0, pos := _, after := #[{ on := 5, ground := Go.Ground.data }], guard := none }) (v := .pointer (some ⟨L, 1, none⟩)) rfl (by kernel_rfl) (by kernel_rfl) (by kernel_rfl) (fun _ _ _ h => h) (Or.inl ⟨by rfl, fun W hW => by go_simp⟩) (by assumption) ?_
  try simp only [Act.put, List.setIfInBounds_toArray, List.set_cons_zero, List.set_cons_succ]
  refine wpAnyH_take (i := 7) (oi := { dst := some 11, op := Go.Op.load 3 (Go.Operand.tmp 10), type := 3, pos := _, after := #[{ on := 6, ground := Go.Ground.data }], guard := none }) (v := .int .i64 (n : Int)) rfl (by kernel_rfl) (by kernel_rfl) (by kernel_rfl) (fun _ _ _ h => h) (yieldsIf_load (by rfl) 3 (.tmp 10) rfl _ _ rfl (fun W hW => ld_int _ _ _ W ((hW.cell (by simp; omega)).trans e1))) (by assumption) ?_
  try simp only [Act.put, List.setIfInBounds_toArray, List.set_cons_zero, List.set_cons_succ]
  refine wpAnyH_ready (rs := [8]) (by kernel_rfl) (by simp) ?_
  refine AllReadyH.cons (o := { dst := some 12, op := Go.Op.call { callee := Go.Callee.value (Go.Operand.func 42), args := #[Go.Operand.tmp 7, Go.Operand.tmp 11], argTypes := #[24, 3] }, type := 90, pos := _, after := #[{ on := 3, ground := Go.Ground.data }, { on := 7, ground := Go.Ground.data }], guard := none }) rfl (fun K hK => ?_) AllReadyH.nil
  go_simp
  refine (sectorsFrom_ok _ _ (n : Int) (.inr ⟨B, rfl⟩)).mono ?_
  rintro e w' ⟨rfl, hw2⟩
  go_wp2_with fail
  rw [← hw2]
  refine hK.out _ _ ((hHeld.trans ((below_one _ _).mono hHeld.size)).trans ((below_one _ _).mono (Nat.le_trans hHeld.size (by simp)))) (fun _ => ?_)
  clear hK K hHeld hw2
  try simp only [Act.put, List.setIfInBounds_toArray, List.set_cons_zero, List.set_cons_succ]
  refine wpAnyH_done (by kernel_rfl) ?_ _
  refine Straight.normal ?_
  gi_wp2
  -- END 1
  have d2 := d1.below (below_drew W1)
  have l2 : W1.drew.heap[L]? = some _ := l1
  have p2 : W1.drew.heap[w.heap.size]? = some (.cells #[.pointer (some ⟨L, 0, none⟩)] 82 (0, 0)) := h1H.out
  have b2 : Below w.heap.size w W1.drew := b1.trans ((below_drew W1).mono b1.size)
  have z2 : Hid (W1.drew.heap.size = w.heap.size + 1) := z1H
  obtain ⟨W2, hW2⟩ : ∃ W2, W1.drew = W2 := ⟨_, rfl⟩
  rw [hW2] at d2 l2 p2 b2 z2 ⊢
  have hs12 : W1.heap.size = W2.heap.size := by rw [← hW2]; rfl
  rw [hs12]
  clear hs12 hW2 cc e0 e1 l1 d1 b1 h1H z1H LW0 LW1
  refine over_all (gf := 49) (lb := #[.pointer (some ⟨W2.heap.size + 1, 0, none⟩), .pointer (some ⟨W2.heap.size, 0, none⟩)]) (by rfl) (enters_of Try.func49 (by kernel_rfl) rfl) (from_seq (W2.heap.size + 1) W2.heap.size B n d.sure.length hmx (fun pre => d.wipe n pre.length)) (fun _ => by rfl)
    (fun pre W => FromInv (W2.heap.size + 1) W2.heap.size B n d.sure.length (fun pre => d.wipe n pre.length) pre W ∧ (∃ S', LgAt W L B S' (d.wipe n pre.length) n ∧ Chg S w W ∧ ∀ x ∈ S', x ∈ S ∨ w.heap.size ≤ x) ∧ W.heap[w.heap.size]? = some (.cells #[.pointer (some ⟨L, 0, none⟩)] 82 (0, 0)))
    (fun _ _ hI => hI.1) ?put (fun _ _ _ _ _ _ hk hx => hx.put hk) (fun _ _ _ _ _ _ _ _ _ _ _ _ => trivial) ?start ?a1 ?assign ?body ?done
  case assign =>
    intro l x W K hK
    simp only [secEnc]
    gi_wp2
    exact hK
  case put =>
    rintro pre W k o o' hk ⟨hf, ⟨S', hl, hc, hS'⟩, hp⟩ hko hcl hw
    refine ⟨hf.put _ hko hcl hw, ⟨S', ⟨hl.dk.put _ hko hcl hw, heap_put _ hl.log hko hcl⟩, hc.putObj (k := k) o' ?_, hS'⟩, heap_put _ hp hko hcl⟩
    have := z2.out
    rcases hk with rfl | rfl <;> simp <;> omega
  case start =>
    intro o
    have e1 := below_one W2 (.cells #[.pointer (some ⟨B, 0, none⟩)] 24)
    obtain ⟨W3, hW3⟩ : ∃ W3, W2.alloc (.cells #[.pointer (some ⟨B, 0, none⟩)] 24) = W3 := ⟨_, rfl⟩
    have c3 : W3.heap[W2.heap.size]? = some (.cells #[.pointer (some ⟨B, 0, none⟩)] 24 (0, 0)) := by rw [← hW3]; exact World.alloc_heap_new W2 _
    have s3 : W3.heap.size = W2.heap.size + 1 := by rw [← hW3]; simp
    rw [hW3] at e1 ⊢
    have e2 := below_one W3 (.cells #[.int .i64 (n : Int)] 3)
    have c4 : (W3.alloc (.cells #[.int .i64 (n : Int)] 3)).heap[W3.heap.size]? = some (.cells #[.int .i64 (n : Int)] 3 (0, 0)) := World.alloc_heap_new W3 _
    have s4 : (W3.alloc (.cells #[.int .i64 (n : Int)] 3)).heap.size = W3.heap.size + 1 := by simp
    obtain ⟨W4, hW4⟩ : ∃ W4, W3.alloc (.cells #[.int .i64 (n : Int)] 3) = W4 := ⟨_, rfl⟩
    rw [hW4] at e2 c4 s4 ⊢
    have e3 : Below W4.heap.size W4 ((W4.alloc (.deferred (some []))).alloc o) := (below_one W4 _).trans ((below_one _ _).mono (by simp))
    obtain ⟨W5, hW5⟩ : ∃ W5, (W4.alloc (.deferred (some []))).alloc o = W5 := ⟨_, rfl⟩
    rw [hW5] at e3 ⊢
    rw [s3] at c4
    have E : Below W2.heap.size W2 W5 := (e1.trans (e2.mono (by omega))).trans (e3.mono (by omega))
    have d5 := d2.below E
    refine ⟨⟨?_, ?_, ⟨S, d5⟩, rfl⟩, ⟨S, ⟨d5, (E.block _ (lt_of_block l2)).trans l2⟩, (Chg.of_below (b2.trans (E.mono b2.size)) S), fun x hx => .inl hx⟩, (E.block _ (lt_of_block p2)).trans p2⟩
    · rw [e3.block _ (by omega)]; exact c4
    · rw [e3.block _ (by omega), e2.block _ (by omega)]; exact c3
  case body =>
    rintro l pre x W W' ⟨hf, ⟨S', hl, hc, hS'⟩, hp⟩ bW hx hD hN
    have hl' := hl.below bW
    have hf' := hf.below bW
    have hp' : W'.heap[w.heap.size]? = _ := (bW.block _ (lt_of_block hp)).trans hp
    have hc' : Chg S w W' := hc.trans (Chg.of_below bW []) (fun x hx => by cases hx)
    have hpl : pre.length = x.1 - n := by have := hx.at_; omega
    have hxn : n ≤ x.1 := by have := hx.at_; omega
    have hlt := hx.lt
    have hvl : ((d.wipe n pre.length).view x.1).length = 64 := Dk.view_len hl.dk.ok (by rw [Dk.wipe_size]; exact hlt)
    have kc := contains_ok W' _ _ _ (row_src hx.mem hvl)
    have hkeep : ∀ k, (k = _ ∨ k = _) → k ∉ S' := fun k hk => by
      obtain ⟨o, ho1, ho2, ho3⟩ := hN k hk
      exact hl'.dk.not ho1 (fun e c he => by subst he; cases ho3) (fun _ _ he => by subst he; cases ho2) (fun _ _ he => by subst he; cases ho2) (fun _ _ he => by subst he; cases ho2)
    have hws := Dk.wipe_wlen d n pre.length
    have kw := write_ok hl'.dk x.1 (by rw [Dk.wipe_size]; exact hlt) (.slice none 0 0) [] (InAt_nil W' 0) (by simp) (by omega)
    have hstep : d.wipe n (pre ++ [x]).length = if ((d.wipe n pre.length).view x.1).all (· == 0) = true then d.wipe n pre.length else (d.wipe n pre.length).write x.1 [] := by
      have e : n + pre.length = x.1 := by omega
      rw [List.length_append, List.length_singleton, Dk.wipe, e]
    cases hz : ((d.wipe n pre.length).view x.1).all (· == 0) with
    | true =>
      rw [if_pos hz] at hstep
      rw [hz] at kc
      have fin : (FromInv (W2.heap.size + 1) W2.heap.size B n d.sure.length (fun pre => d.wipe n pre.length) (pre ++ [x]) W' ∧ (∃ S', LgAt W' L B S' (d.wipe n (pre ++ [x]).length) n ∧ Chg S w W' ∧ ∀ x ∈ S', x ∈ S ∨ w.heap.size ≤ x) ∧ W'.heap[w.heap.size]? = some (.cells #[.pointer (some ⟨L, 0, none⟩)] 82 (0, 0))) := by
        obtain ⟨S0, hd0⟩ := hf'.disk
        exact ⟨⟨hf'.cf, hf'.cd, ⟨S0, by show DkAt W' B S0 (d.wipe n (pre ++ [x]).length); rw [hstep]; exact hd0⟩, by show (d.wipe n (pre ++ [x]).length).sure.length = _; rw [Dk.wipe_size]⟩, ⟨S', by rw [hstep]; exact hl', hc', hS'⟩, hp'⟩
      have finH : Hid _ := fin
      clear fin hstep hz kw
      gi_wp2_with (gi_at_call 43; refine (callsIn_wide.2 kc).mono ?_; rintro e w' ⟨rfl, rfl⟩)
      exact ⟨⟨finH.out, trivial⟩, fun k hk => rfl⟩
    | false =>
      rw [if_neg (by rw [hz]; decide)] at hstep
      rw [hz] at kc
      have fin : ∀ W'', (∃ S'', DkAt W'' B S'' ((d.wipe n pre.length).write x.1 []) ∧ Chg S' W' W'' ∧ ∀ x ∈ S'', x ∈ S' ∨ W'.heap.size ≤ x) → ((FromInv (W2.heap.size + 1) W2.heap.size B n d.sure.length (fun pre => d.wipe n pre.length) (pre ++ [x]) W'' ∧ (∃ S', LgAt W'' L B S' (d.wipe n (pre ++ [x]).length) n ∧ Chg S w W'' ∧ ∀ x ∈ S', x ∈ S ∨ w.heap.size ≤ x) ∧ W''.heap[w.heap.size]? = some (.cells #[.pointer (some ⟨L, 0, none⟩)] 82 (0, 0))) ∧ ∀ k, k ∉ S' → k < W'.heap.size → W''.heap[k]? = W'.heap[k]?) := by
        rintro W'' ⟨S'', k1, k2, k3⟩
        have hOC := hl'.dk.och k2
        have hz' := hc'.size
        refine ⟨⟨⟨hOC.block _ _ hf'.cf (KT.no (by decide) _ _), hOC.block _ _ hf'.cd (KT.no (by decide) _ _), ⟨S'', by show DkAt W'' B S'' (d.wipe n (pre ++ [x]).length); rw [hstep]; exact k1⟩, by show (d.wipe n (pre ++ [x]).length).sure.length = _; rw [Dk.wipe_size]⟩,
          ⟨S'', ⟨by rw [hstep]; exact k1, hOC.block _ _ hl'.log (KT.no (by decide) _ _)⟩, hc'.trans k2 hS', fun y hy => ?_⟩, hOC.block _ _ hp' (KT.no (by decide) _ _)⟩, fun k hk hlt => k2.block k hlt hk⟩
        rcases k3 y hy with h' | h'
        · exact hS' y h'
        · exact .inr (by omega)
      have finH : Hid (∀ W'', (∃ S'', DkAt W'' B S'' ((d.wipe n pre.length).write x.1 []) ∧ Chg S' W' W'' ∧ ∀ x ∈ S'', x ∈ S' ∨ W'.heap.size ≤ x) → _) := fin
      have cb := box_cell hp'
      obtain ⟨cb0, cb1⟩ := hl'.cells
      clear fin hstep hz
      gi_wp2_with (first
        | (gi_at_call 43; refine (callsIn_wide.2 kc).mono ?_; rintro e w' ⟨rfl, rfl⟩)
        | (gi_at_call 19; refine (callsIn_wide.2 kw).mono ?_; rintro e w' ⟨rfl, hw'⟩))
      obtain ⟨f1, f2⟩ := finH.out _ hw'
      exact ⟨⟨f1, trivial⟩, fun k hk => f2 k (hkeep k hk) (by obtain ⟨o, ho, -⟩ := hN k hk; exact lt_of_block ho)⟩
  case done =>
    rintro xs W1 W hS ⟨hf, ⟨S', hl, hc, hS'⟩, hp⟩ bW hD hK
    have hl' := hl.below bW
    have hc' : Chg S w W := hc.trans (Chg.of_below bW []) (fun x hx => by cases hx)
    rw [hS] at hl'
    have e5 := z2.out
    have hq : w.heap.size ≤ ((W2.alloc (.cells #[.pointer (some ⟨B, 0, none⟩)] 24)).alloc (.cells #[.int .i64 (n : Int)] 3)).heap.size := by simp; omega
    gi_wp2
    exact leaves_end rfl hK (by simp [results, Try.results28, go_sem]) ⟨rfl, S', ⟨hl'.dk.put _ hK rfl rfl, heap_put _ hl'.log hK rfl⟩, hc'.putObj _ hq, hS'⟩
end Go.Proofs.Ytjaidhglemnakaa
