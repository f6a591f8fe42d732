/- The walk of Sync. -/
import Derived.Test.YtjaidhglemnakaaDRow
set_option linter.unusedSimpArgs false
set_option linter.unusedVariables false
namespace Go.Proofs.Ytjaidhglemnakaa
open Go.RowKit Go.Maps

/-- The sectors, when those keys are still to come. -/
def mixL (d : Dk) (left : Lit → Bool) : List Sec := (List.range d.sure.length).map fun (k : Nat) => if left (.int .i64 (k : Int)) = true then d.sure.getD k [] else d.view k
theorem mixL_len (d : Dk) (left : Lit → Bool) : (mixL d left).length = d.sure.length := by simp [mixL]
theorem mixL_full {d : Dk} (h : d.ok) (left : Lit → Bool) : Full (mixL d left) := by
  intro i hi
  have hi' : i < d.sure.length := by simpa [mixL] using hi
  simp only [mixL, List.getElem_map, List.getElem_range]
  split
  · exact h.full.getD hi'
  · exact Dk.view_len h hi'
theorem mixL_start {d : Dk} {D : DataW Unit} (h : FreshOf D d.ws) : mixL d (Maps.has D) = d.sure := by
  apply List.ext_getElem
  · simp [mixL]
  · intro i h1 h2
    simp only [mixL, List.getElem_map, List.getElem_range, h.has]
    cases hl : lastAt d.ws i with
    | none => simp [Dk.view, hl, h2]
    | some s => simp [h2]
theorem mixL_end {d : Dk} {left : Lit → Bool} (h : ∀ kl, left kl = false) : mixL d left = d.sync.sure := by
  unfold mixL Dk.sync
  apply List.map_congr_left
  intro k _
  rw [h]
  simp
theorem mixL_step {d : Dk} {left : Lit → Bool} {k : Nat} {s : Sec} (hl : lastAt d.ws k = some s) : mixL d (fun z => left z && !z.sameKey (.int .i64 (k : Int))) = (mixL d left).set k s := by
  apply List.ext_getElem
  · simp [mixL]
  · intro i h1 h2
    have hi : i < d.sure.length := by simpa [mixL] using h1
    simp only [List.getElem_set, mixL, List.getElem_map, List.getElem_range]
    by_cases e : k = i
    · subst e
      have : (Lit.int .i64 (k : Int)).sameKey (.int .i64 (k : Int)) = true := WideAt.sameKey_self (by trivial)
      simp [this, Dk.view, hl]
    · have : (Lit.int .i64 (i : Int)).sameKey (.int .i64 (k : Int)) = false := Maps.sameKey_ne (fun h' => e (by cases h'; rfl))
      simp [this, e]
theorem ld_sure (B G n c : Nat) (W : World) (h : W.cell? ⟨B, 0, none⟩ = some (.slice (some ⟨G, 0, none⟩) n c)) : (Instr.loadAt 37 (.pointer (some ⟨B, 0, none⟩))).run Try.prog W = .ok (.slice (some ⟨G, 0, none⟩) n c) W := by go_simp
theorem inv_key (key : Value) (kl : Lit) (h : keyOf Try.prog 3 key = some kl) : ∃ x : Int, key = .int .i64 x := by
  obtain ⟨x, rfl, _⟩ := Maps.keyOf_int_inv Try.underlying3 h
  exact ⟨x, rfl⟩
theorem inv_val (v : Value) (y : DataW Unit × List MemPlace) (h : secR v = some y) : ∃ c : Sec, v = secV c := by
  obtain ⟨s, _, rfl, _⟩ := secR_inv h
  exact ⟨s, rfl⟩

set_option maxHeartbeats 4000000 in
set_option maxRecDepth 1000000 in
theorem sync_ok {w : World} {B : Nat} {S : List Nat} {d : Dk} (h : DkAt w B S d) :
    Calls Try.prog 25 #[.pointer (some ⟨B, 0, none⟩)] w fun e w' =>
      e = .returned (.int .i64 0) ∧ ∃ S', DkAt w' B S' d.sync ∧ Chg S w w' ∧ ∀ x ∈ S', x ∈ S ∨ w.heap.size ≤ x := by
  obtain ⟨G, M, cap, F, D, rfl, h⟩ := h
  have kt := there_ok h
  have hmm := @run_makeMap Try.prog
  have hmax := h.ok.max
  have ap := h.apart
  have hlt := h.lt
  have hcap := h.cap
  unfold maxLen at hcap
  obtain ⟨nS, hnS⟩ : ∃ nS, nS = d.sure.length := ⟨_, rfl⟩
  have hG := hlt G (by simp [blocksOf])
  have hM := hlt M (by simp [blocksOf])
  have hB := hlt B (by simp [blocksOf])
  have hz := zero_sec.1
  have hcz : (Value.agg zsec).cells = zsec := rfl
  have q0 := h.head
  rw [← hnS] at q0
  have x0 := quad_cells q0
  have x01 := x0.2.1
  have ld0 := ld_sure B G nS cap
  obtain ⟨aF, cF, hF, -, -⟩ := own_len' h.first
  go_enter Try.func25, Try.ntmps25
  go_wp2_with (first
    | (go_at_call 31; refine kt.mono ?_; rintro e w' ⟨rfl, rfl⟩)
    | (at_range; refine wpList_range_own _ rfl _ 38 rfl 3 74 law_int Try.underlying38 _ M _ _ rfl h.map ?_; intro w0 hrg0 hg0 hs0)
    | go_in)
  go_frame
  clear kt
  go_loopw [3] (fun _ wr => ∃ (left : Lit → Bool) (cnt : Nat), wr.ranges Try.prog 3 secR M w.heap.size d.ws.length D left cnt ∧
      wr.heap[B]? = some (.cells #[.slice (some ⟨G, 0, none⟩) nS cap, .map (some M), F, .int .i64 (d.ws.length : Int)] 41 (0, 0)) ∧
      wr.ownsRow 0 74 64 (.slice (some ⟨G, 0, none⟩) nS cap) nS ((mixL d left).flatMap bcells) ∧ Chg [G] w wr)
    (fun _ wr => wr.rangeLeft M w.heap.size)
  case atStart =>
    refine ⟨_, _, hrg0, (hg0.block B hB (by simp)).trans q0, ?_, (Chg.refl _ _).grown hg0 (fun k e => by cases e)⟩
    rw [mixL_start h.fresh, hnS]
    exact own_kept h.sure (fun k e => by cases e; exact hg0.block G hG (by simp))
  case round =>
    obtain ⟨left, cnt, hrg, qr, sr, cr⟩ := hrel
    go_wp2_with (first
      | (at_next; refine wpList_next_ranges _ rfl _ rfl 3 law_int secR (Value.int .i64) secV inv_key inv_val M w.heap.size d.ws.length _ _ _ rfl hrg ?_ ?_)
      | go_in)
    · intro hc0 hl0
      have xr := quad_cells qr
      have z1 := box_frozen (i := 1) qr
      have z2 := box_frozen (i := 2) qr
      have z3 := box_frozen (i := 3) qr
      have xa := quad_cells (alloc_block qr (.map #[] 0))
      have hrB : B < wr.heap.size := lt_of_block qr
      have fin : ∀ w', w' = (((wr.setCell ⟨B, 1, none⟩ (.map (some wr.heap.size))).setCell ⟨B, 2, none⟩ (.slice none 0 0)).setCell ⟨B, 3, none⟩ (.int .i64 0)).alloc (.map #[] 0) → ∃ S', DkAt w' B S' d.sync ∧ Chg (blocksOf B G M F) w w' ∧ ∀ x ∈ S', x ∈ blocksOf B G M F ∨ w.heap.size ≤ x := by
        intro w' hw'
        have q1 := quad_set1 (.map (some wr.heap.size)) qr
        have q2 := quad_set2 (.slice none 0 0) q1
        have q3 := quad_set3 (.int .i64 0) q2
        have q3 := alloc_block q3 (.map #[] 0)
        rw [← hw'] at q3
        have c1 : Chg [B] wr w' := by
          rw [hw']
          exact ((((Chg.refl _ _).setCell (.inl (by simp)) _).setCell (.inl (by simp)) _).setCell (.inl (by simp)) _).alloc _
        have c2 : Chg [B, G] w w' := (cr.mono (fun x hx => .inl (by simp at hx ⊢; exact .inr hx))).trans c1 (fun x hx => .inl (by simp at hx ⊢; exact .inl hx))
        have hm1 : w'.ownsMap (H := Unit) Try.prog 3 secR wr.heap.size 0 (.map []) := by
          have hz0 : (((wr.setCell ⟨B, 1, none⟩ (.map (some wr.heap.size))).setCell ⟨B, 2, none⟩ (.slice none 0 0)).setCell ⟨B, 3, none⟩ (.int .i64 0)).heap.size = wr.heap.size := by simp [World.setCell]
          have hmd := World.ownsMap_made (H := Unit) (((wr.setCell ⟨B, 1, none⟩ (.map (some wr.heap.size))).setCell ⟨B, 2, none⟩ (.slice none 0 0)).setCell ⟨B, 3, none⟩ (.int .i64 0)) Try.prog 3 secR
          rw [hz0] at hmd
          rw [hw']
          exact hmd
        have hsy := h.ok.sync
        have hsl : d.sync.sure.length = nS := by rw [hnS]; simp [Dk.sync]
        refine ⟨blocksOf B G wr.heap.size (.slice none 0 0), ⟨G, wr.heap.size, cap, .slice none 0 0, .map [], rfl, hsy, by rw [q3, hsl]; rfl, ?_, hm1, FreshOf.nil, World.ownsRow_nil _ _ _ _, h.bg, by simp [Value.ownBlock], by simp [Value.ownBlock]⟩, c2.mono (fun x hx => .inl (by simp [blocksOf] at hx ⊢; rcases hx with h' | h' <;> simp [h'])), fun x hx => ?_⟩
        · rw [hsl, ← mixL_end hl0]
          exact own_kept sr (fun k e => by cases e; exact c1.block G (sr.lt G rfl).2 (by simp; exact Ne.symm h.bg))
        · have := cr.size
          simp [blocksOf, Value.ownBlock] at hx ⊢
          omega
      clear hrg hl0 sr cr hrg0 hg0 hs0 q0 x0 x01
      go_wp2
      go_ret
      exact ⟨rfl, fin _ rfl⟩
    · intro x c kl yd yp w1 cnt1 hkey hlx hv hat hrg1 hlt hg1 hs1 hen
      obtain ⟨c', hc64, ec, hy0⟩ := secR_inv hv
      have hy : yd = .lit (.string c') := congrArg Prod.fst hy0
      clear hy0
      obtain ⟨x', ex, hkl, hwx⟩ := Maps.keyOf_int_inv Try.underlying3 hkey
      cases ex
      have hcc : c = c' := by
        have h1 : (bcells c).mapM decB = (bcells c').mapM decB := by
          have : (bcells c).toArray = (bcells c').toArray := by simpa [secV] using ec
          rw [show bcells c = bcells c' by simpa using congrArg Array.toList this]
        rw [mapM_decB, mapM_decB] at h1
        exact Option.some.inj h1
      subst hcc
      subst hkl
      have hhas : Maps.has D (.int .i64 x) = true := Maps.has_true_of_atKey hat
      obtain ⟨k, hk⟩ := h.fresh.keys _ hhas
      obtain rfl : x = (k : Int) := by cases hk; rfl
      have hla : lastAt d.ws k = some c := by
        have h1 := h.fresh.has k
        rw [hhas] at h1
        obtain ⟨s, hs⟩ := Option.isSome_iff_exists.1 h1.symm
        have h2 := hat (.lit (.string []))
        rw [h.fresh.at_, hs, hy] at h2
        simp at h2
        rw [hs, h2]
      have hkn : k < d.sure.length := (h.ok.ats _ (lastAt_mem hla)).1
      have hi64 : (Try.prog.info? 74).map (·.size) = some (bcells c).length := by rw [zero_sec.2, bcells_len, hc64]
      have hi65 : (Try.prog.info? 74).map (·.size) = some (bcells c).toArray.size := by rw [hi64]; simp
      have q1 := (hg1.block B (lt_of_block qr) (by simp; omega)).trans qr
      have s1 : w1.ownsRow 0 74 64 (.slice (some ⟨G, 0, none⟩) nS cap) nS ((mixL d left).flatMap bcells) := own_kept sr (fun k e => by cases e; exact hg1.block G (sr.lt G rfl).2 (by simp; omega))
      have c1 : Chg [G] w w1 := cr.grown hg1 (fun k e => .inr (by cases e; exact Nat.le_refl _))
      have hsz1 := c1.size
      have ml := mixL_len d left
      rw [← hnS] at ml hkn
      obtain ⟨w3, st3, own3, g3⟩ := store_sec (w := (w1.alloc (.cells (bcells c).toArray 74)).drew) (l := mixL d left) (by rw [ml]; exact own_kept s1 (fun k e => by cases e; exact Below.heap_alloc _ _ _ (s1.lt G rfl).2)) (mixL_full h.ok left) (k := k) (by rw [ml]; exact hkn) hc64
      rw [ml] at own3
      have r3 : w3.heap[w1.heap.size]? = some (.cells (bcells c).toArray 74 (0, 0)) := (g3.block w1.heap.size (by simp) (by simp; omega)).trans (heap_alloc_last w1 _)
      have q2 := alloc_block q1 (.cells (bcells c).toArray 74)
      have q3 := (g3.block B (lt_of_block q2) (by simp; exact h.bg)).trans q2
      have x3 := (quad_cells q3).1
      have x2 := (quad_cells q2).1
      have hrg3 : w3.ranges Try.prog 3 secR M w.heap.size d.ws.length D (fun z => left z && !z.sameKey (.int .i64 (k : Int))) cnt1 := World.ranges.kept (w := (w1.alloc (.cells (bcells c).toArray 74)).drew) (hrg1.alloc _) g3 (by simp; exact ap.2.1) (by simp; omega)
      have fin : ∃ (left : Lit → Bool) (cnt : Nat), w3.ranges Try.prog 3 secR M w.heap.size d.ws.length D left cnt ∧
          w3.heap[B]? = some (.cells #[.slice (some ⟨G, 0, none⟩) nS cap, .map (some M), F, .int .i64 (d.ws.length : Int)] 41 (0, 0)) ∧
          w3.ownsRow 0 74 64 (.slice (some ⟨G, 0, none⟩) nS cap) nS ((mixL d left).flatMap bcells) ∧ Chg [G] w w3 :=
        ⟨_, cnt1, hrg3, q3, by rw [mixL_step hla]; exact own3, ((c1.alloc _).drew).grown g3 (fun k e => .inl (by cases e; simp))⟩
      have i1 : (k : Int) < (nS : Int) := by omega
      have i2 : (nS : Int) ≤ 4096 := by omega
      have hnew : (w1.alloc (.cells zsec 74)).heap[w1.heap.size]? = some (.cells zsec 74 (0, 0)) := heap_alloc_last _ _
      have hen' : (Instr.entry (.pointer (some ⟨w.heap.size, 0, none⟩))).run Try.prog w1 = .ok (.tuple #[.int .i64 (k : Int), .agg (bcells c).toArray]) w1 := hen
      have hnk : ¬ nS ≤ k := by omega
      clear hnS hmax hcap
      clear hs1 hen hrg0 hg0 hs0 q0 x0 x01 qr sr cr hla hhas hat hv hy hkey hlx hwx hk q1 s1 c1 own3 g3
      unfold secV
      have hzl : zsec.size = (bcells c).toArray.size := by simp [zsec_size, bcells_len, hc64]
      go_wp2_with (refine wpList_store_row rfl 74 (.tmp 4) (.tmp 17) rfl w1.heap.size (bcells c).toArray rfl rfl 74 zsec hnew hi65 hzl (bcells_all c) ?_; rw [World.setRow_alloc_new])
      refine wp_region_noPanic ?_
      refine wp_region_held_drew (S := fun W => W.cell? ⟨B, 0, none⟩ = some (.slice (some ⟨G, 0, none⟩) nS cap) ∧ W.heap[w1.heap.size]? = some (.cells (bcells c).toArray 74 (0, 0))) (by kernel_rfl) ⟨x2, heap_alloc_last w1 _⟩ (fun hHeld => ?_)
      refine wpAnyH_take (i := 0) (oi := { dst := some 18, op := Go.Op.move (Go.Operand.tmp 0), type := 24, pos := _, after := #[], guard := none }) (v := .pointer (some ⟨B, 0, none⟩)) rfl (by kernel_rfl) (by kernel_rfl) (by kernel_rfl) (fun _ _ _ h => h) (Or.inl ⟨by rfl, fun W hW => by go_simp⟩) (by assumption) ?_
      try simp only [Act.put, List.setIfInBounds_toArray, List.set_cons_zero, List.set_cons_succ]
      refine wpAnyH_take (i := 1) (oi := { dst := some 19, op := Go.Op.nilCheck (Go.Operand.tmp 18), type := 0, pos := _, after := #[{ on := 0, ground := Go.Ground.data }], guard := none }) (v := .pointer (some ⟨B, 0, none⟩)) rfl (by kernel_rfl) (by kernel_rfl) (by kernel_rfl) (fun _ _ _ h => h) (Or.inl ⟨by rfl, fun W hW => by go_simp⟩) (by assumption) ?_
      try simp only [Act.put, List.setIfInBounds_toArray, List.set_cons_zero, List.set_cons_succ]
      refine wpAnyH_take (i := 2) (oi := { dst := some 20, op := Go.Op.fieldAddr 41 (Go.Operand.tmp 19) 0, type := 0, pos := _, after := #[{ on := 1, ground := Go.Ground.data }], guard := none }) (v := .pointer (some ⟨B, 0, none⟩)) rfl (by kernel_rfl) (by kernel_rfl) (by kernel_rfl) (fun _ _ _ h => h) (Or.inl ⟨by rfl, fun W hW => by go_simp⟩) (by assumption) ?_
      try simp only [Act.put, List.setIfInBounds_toArray, List.set_cons_zero, List.set_cons_succ]
      refine wpAnyH_take (i := 3) (oi := { dst := some 21, op := Go.Op.load 37 (Go.Operand.tmp 20), type := 37, pos := _, after := #[{ on := 2, ground := Go.Ground.data }], guard := none }) (v := .slice (some ⟨G, 0, none⟩) nS cap) rfl (by kernel_rfl) (by kernel_rfl) (by kernel_rfl) (fun _ _ _ h => h) (yieldsIf_load (by rfl) 37 (.tmp 20) rfl _ _ rfl (fun W hW => ld0 W hW.1)) (by assumption) ?_
      try simp only [Act.put, List.setIfInBounds_toArray, List.set_cons_zero, List.set_cons_succ]
      refine wpAnyH_take (i := 4) (oi := { dst := some 22, op := Go.Op.move (Go.Operand.tmp 3), type := 3, pos := _, after := #[], guard := none }) (v := .int .i64 (k : Int)) rfl (by kernel_rfl) (by kernel_rfl) (by kernel_rfl) (fun _ _ _ h => h) (Or.inl ⟨by rfl, fun W hW => by go_simp⟩) (by assumption) ?_
      try simp only [Act.put, List.setIfInBounds_toArray, List.set_cons_zero, List.set_cons_succ]
      refine wpAnyH_take (i := 5) (oi := { dst := some 23, op := Go.Op.load 74 (Go.Operand.tmp 4), type := 74, pos := _, after := #[], guard := none }) (v := .agg (bcells c).toArray) rfl (by kernel_rfl) (by kernel_rfl) (by kernel_rfl) (fun _ _ _ h => h) (yieldsIf_load_mid (by rfl) 74 (.tmp 4) rfl w1.heap.size 0 rfl (bcells c) _ (fun W hW => row_range hW.2) Try.underlying74 rfl hi64) (by assumption) ?_
      try simp only [Act.put, List.setIfInBounds_toArray, List.set_cons_zero, List.set_cons_succ]
      refine wpAnyH_take (i := 6) (oi := { dst := some 24, op := Go.Op.indexAddr 37 (Go.Operand.tmp 21) (Go.Operand.tmp 22), type := 0, pos := _, after := #[{ on := 3, ground := Go.Ground.data }, { on := 4, ground := Go.Ground.data }, { on := 0, ground := Go.Ground.phase }, { on := 1, ground := Go.Ground.phase }, { on := 2, ground := Go.Ground.phase }, { on := 3, ground := Go.Ground.phase }, { on := 4, ground := Go.Ground.phase }, { on := 5, ground := Go.Ground.phase }], guard := none }) (v := .pointer (some ⟨G, k * 64, none⟩)) rfl (by kernel_rfl) (by kernel_rfl) (by kernel_rfl) (fun _ _ _ h => h) (Or.inl ⟨by rfl, fun W hW => by go_simp⟩) (by assumption) ?_
      try simp only [Act.put, List.setIfInBounds_toArray, List.set_cons_zero, List.set_cons_succ]
      refine wpAnyH_ready (rs := [7]) (by kernel_rfl) (by simp) ?_
      refine AllReadyH.cons (o := { dst := none, op := Go.Op.store 74 (Go.Operand.tmp 24) (Go.Operand.tmp 23), type := 0, pos := _, after := #[{ on := 6, ground := Go.Ground.data }, { on := 5, ground := Go.Ground.data }, { on := 0, ground := Go.Ground.phase }, { on := 1, ground := Go.Ground.phase }, { on := 2, ground := Go.Ground.phase }, { on := 3, ground := Go.Ground.phase }, { on := 4, ground := Go.Ground.phase }, { on := 5, ground := Go.Ground.phase }], guard := none }) rfl (fun K hK => ?_) AllReadyH.nil
      refine step_store rfl 74 (.tmp 24) (.tmp 23) rfl (.pointer (some ⟨G, k * 64, none⟩)) (.agg (bcells c).toArray) rfl rfl w3 st3 ?_
      refine hK.out _ _ ⟨x3, r3⟩ (fun _ => ?_)
      clear hK K hHeld
      try simp only [Act.put, List.setIfInBounds_toArray, List.set_cons_zero, List.set_cons_succ]
      refine wpAnyH_done (by kernel_rfl) ?_ _
      refine NoPanic.normal ?_
      go_roundw
      case rel => first | exact fin | ((repeat apply Exists.intro); exact ⟨fin, rfl⟩) | exact ⟨_, _, _, _, _, _, _, _, _, _, _, _, _, _, fin, rfl⟩
      case measure => rw [hrg3.left_eq, hrg.left_eq]; exact hlt
end Go.Proofs.Ytjaidhglemnakaa
