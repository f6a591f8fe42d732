/- The walk of SectorsOrder. -/
import Derived.Test.YtapfkoojplbfmaaDOrderM
import Derived.Test.YtapfkoojplbfmaaDWritten
set_option linter.unusedSimpArgs false
set_option linter.unusedVariables false
namespace Go.Proofs.Ytapfkoojplbfmaa
open Go.RowKit Go.Maps Go.ChangeShapes Go.WideShapes

theorem ldi (b o : Nat) (v : Int) (W : World) (h : W.cell? ⟨b, o, none⟩ = some (.int .i64 v)) : (Instr.loadAt 3 (.pointer (some ⟨b, o, none⟩))).run Try.prog W = .ok (.int .i64 v) W := by go_simp
set_option maxRecDepth 1000000 in
theorem one_lit (y : UInt8) (W : World) : (Instr.buildSlice 22 1 #[(0, .int .u8 (y.toNat : Int))]).run Try.prog W = .ok (.slice (some ⟨W.heap.size, 0, none⟩) 1 1) (W.alloc (.cells #[.int .u8 (y.toNat : Int)] 5)) := by kernel_rfl
set_option maxRecDepth 1000000 in
theorem one_int (y : Nat) (W : World) : (Instr.buildSlice 52 1 #[(0, .int .i64 (y : Int))]).run Try.prog W = .ok (.slice (some ⟨W.heap.size, 0, none⟩) 1 1) (W.alloc (.cells #[.int .i64 (y : Int)] 3)) := by kernel_rfl
theorem conv_1 (p : Nat) (W : World) : (convert 3 5 (.int .i64 (1 + (p : Int)))).run Try.prog W = .ok (.int .u8 ((UInt8.ofNat (1 + p)).toNat : Int)) W := by
  have := conv_i (1 + p) W
  rwa [show ((1 + p : Nat) : Int) = 1 + (p : Int) by omega] at this
/-- Which sectors were written, as cells. -/
def seenRow (O : List Nat) : List Value := (List.range 16).map fun r => .bool (decide (r ∈ O))
theorem seenRow_len (O : List Nat) : (seenRow O).length = 16 := by simp [seenRow]
theorem seenRow_nil : Array.replicate 16 (Value.bool false) = (seenRow []).toArray := by
  apply Array.ext'
  rfl
theorem seenRow_get (O : List Nat) {r : Nat} (hr : r < 16) : (seenRow O)[r]? = some (.bool (decide (r ∈ O))) := by simp [seenRow, hr]
theorem seenRow_set (O O' : List Nat) {r : Nat} (hr : r < 16) (h : ∀ a, a < 16 → (a ∈ O' ↔ a ∈ O ∨ a = r)) : (seenRow O).toArray.setIfInBounds r (.bool true) = (seenRow O').toArray := by
  apply Array.ext'
  simp only [List.setIfInBounds_toArray]
  apply List.ext_getElem
  · simp [seenRow]
  · intro i h1 h2
    have hi : i < 16 := by simpa [seenRow] using h2
    simp only [List.getElem_set, seenRow, List.getElem_map, List.getElem_range]
    by_cases e : r = i
    · subst e
      simp [(h r hi).2 (.inr rfl)]
    · have e' : ¬ i = r := fun h => e h.symm
      rw [if_neg e]
      congr 1
      rw [decide_eq_decide, h i hi]
      simp [e']
def ints (O : List Nat) : List Value := O.map fun (r : Nat) => .int .i64 (r : Int)
theorem once_succ (l : List UInt8) (j : Nat) (r : Nat) (hr : (l.getD j 0).toNat % 16 = r) : onceTo l (j + 1) = if r ∈ onceTo l j then onceTo l j else onceTo l j ++ [r] := by rw [onceTo, hr]
set_option maxRecDepth 1000000 in
theorem info_seen : (Try.prog.info? 53).map (fun i => (i.zero, i.size)) = some (some (.agg (Array.replicate 16 (.bool false))), 16) := by kernel_rfl
theorem info_int : (Try.prog.info? 3).map (fun i => (i.zero, i.size, i.bytes)) = some (some (.int .i64 0), 1, 8) := by kernel_rfl
theorem bits16 : ∀ i, i < 16 → Nat.testBit 65535 i = true := by decide

set_option maxHeartbeats 16000000 in
set_option maxRecDepth 1000000 in
theorem order_main (w : World) (al : Option Addr) (cl : Nat) (l : List UInt8) (fn : Nat) (hl : InAt w w.heap.size (.slice al l.length cl) l) (hcl : l.length ≤ cl ∧ cl ≤ 9223372036854775807) (hfn : fn ≤ 255) (h100 : l.length ≤ 100) :
    Calls Try.prog 7 #[.slice al l.length cl, .int .u8 (fn : Int)] w fun e w' => e = .returned (.bool true) ∧ Below w.heap.size w w' := by
  have i1 : ¬ (100 : Int) < (l.length : Int) := by omega
  have kA := alive_any w
  have hz := (zero_of_info info_seen).1
  have hcz : (Value.agg (Array.replicate 16 (.bool false))).cells = Array.replicate 16 (.bool false) := rfl
  rw [seenRow_nil] at hz hcz
  obtain ⟨i0, hi, hz0, hz1, hz2⟩ := info_parts info_int
  have wf := wrap_i64 fn (by omega)
  go_enter Try.func7, Try.ntmps7
  go_wp2_with fail
  refine kA.mono ?_
  rintro e w0 ⟨rfl, b0⟩
  clear kA
  go_wp2_with fail
  have q0 := heap_alloc_last w0 (.cells (seenRow []).toArray 53)
  have b1 : Below w.heap.size w (w0.alloc (.cells (seenRow []).toArray 53)) := b0.alloc b0.size _
  have hz1' : w0.heap.size + 1 ≤ (w0.alloc (.cells (seenRow []).toArray 53)).heap.size := by simp
  have hws := b0.size
  go_loopw [5, 7] (fun v5 i wr => ∃ (v : Value) (j : Nat), v = v5 ∧ j ≤ l.length ∧ i = .int .i64 (j : Int) ∧ wr.ownsRow (w0.heap.size + 1) 3 1 v (onceTo l j).length (ints (onceTo l j)) ∧ wr.heap[w0.heap.size]? = some (.cells (seenRow (onceTo l j)).toArray 53 (0, 0)) ∧ Below w.heap.size w wr ∧ w0.heap.size + 1 ≤ wr.heap.size) (fun _ i _ => l.length - (intOf i).toNat)
  case atStart => exact ⟨_, 0, rfl, Nat.zero_le _, rfl, World.ownsRow_nil _ _ _ _, q0, b1, hz1'⟩
  case round =>
    obtain ⟨v, j, rfl, hj, rfl, ho, qs, hbr, hsz⟩ := hrel
    by_cases hjl : j < l.length
    · obtain ⟨bl, ol, rfl, hbl, hcell⟩ := in_cell hl hjl
      obtain ⟨x, hx⟩ : ∃ x, x = l[j]'hjl := ⟨_, rfl⟩
      have hgd : l.getD j 0 = x := by rw [hx]; simp [hjl]
      have hc : ∀ W, Below w.heap.size w W → W.cell? ⟨bl, ol + j, none⟩ = some (.int .u8 (x.toNat : Int)) := fun W hW => by
        rw [World.cell?_of_block (w := w) (hW.block bl hbl), hx]
        exact hcell j hjl
      obtain ⟨r, hr⟩ : ∃ r, r = x.toNat % 16 := ⟨_, rfl⟩
      have t16 : ((x.toNat : Int)).tmod 16 = (r : Int) := by rw [hr]; exact tmod_nat _ 16
      have hr16 : r < 16 := by omega
      have hsu := once_succ l j r (by rw [hgd, hr])
      have hle := once_len l j
      have c0 := hc wr hbr
      have cs : wr.cell? ⟨w0.heap.size, r, none⟩ = some (.bool (decide (r ∈ onceTo l j))) := by
        rw [cell_of_row _ _ _ _ _ _ qs]
        simpa using seenRow_get (onceTo l j) hr16
      have j1 : (j : Int) < (l.length : Int) := by omega
      have r1 : (r : Int) < 16 := by omega
      have r2 : ¬ 16 ≤ r := by omega
      have wx := wrap_i64 r (by omega)
      have fz := box_frozen (i := r) qs
      clear hx hgd hcell hr
      by_cases hm : r ∈ onceTo l j
      · rw [if_pos hm] at hsu
        rw [decide_eq_true hm] at cs
        have hst : (wr.setCell ⟨w0.heap.size, r, none⟩ (.bool true)).heap[w0.heap.size]? = some (.cells (seenRow (onceTo l (j + 1))).toArray 53 (0, 0)) := by
          rw [heap_setCell_same wr w0.heap.size r _ _ _ qs, seenRow_set (onceTo l j) (onceTo l (j + 1)) hr16 (fun a ha => by rw [hsu]; constructor; exact .inl; rintro (h | h); exact h; rw [h]; exact hm)]
        have ck : Chg [w0.heap.size] wr (wr.setCell ⟨w0.heap.size, r, none⟩ (.bool true)) := (Chg.refl _ _).setCell (.inl (by simp)) _
        have fin : (wr.setCell ⟨w0.heap.size, r, none⟩ (.bool true)).ownsRow (w0.heap.size + 1) 3 1 v (onceTo l (j + 1)).length (ints (onceTo l (j + 1))) ∧ (wr.setCell ⟨w0.heap.size, r, none⟩ (.bool true)).heap[w0.heap.size]? = some (.cells (seenRow (onceTo l (j + 1))).toArray 53 (0, 0)) ∧ Below w.heap.size w (wr.setCell ⟨w0.heap.size, r, none⟩ (.bool true)) ∧ w0.heap.size + 1 ≤ (wr.setCell ⟨w0.heap.size, r, none⟩ (.bool true)).heap.size := by
          refine ⟨?_, hst, ck.to_below hbr hbr.size (fun x hx => by simp at hx; omega), Nat.le_trans hsz ck.size⟩
          rw [hsu]
          exact own_kept ho (fun b e => ck.block b (ho.lt b e).2 (by simp; have := (ho.lt b e).1; omega))
        clear hst ck hsu ho qs hc hle
        go_wp2
        go_roundw
        case rel => exact ⟨_, j + 1, rfl, by omega, by go_num, fin⟩
        case measure => simp [intOf]; omega
      · rw [if_neg hm] at hsu
        rw [decide_eq_false hm] at cs
        have hbs := one_int r
        obtain ⟨av, cv, hv, hv1, hv2⟩ := own_len' ho
        obtain ⟨nO, hnO⟩ : ∃ nO, nO = (onceTo l j).length := ⟨_, rfl⟩
        have hb2 := below_one wr (.cells #[.int .i64 (r : Int)] 3)
        have ho2 : (wr.alloc (.cells #[.int .i64 (r : Int)] 3)).ownsRow (w0.heap.size + 1) 3 1 v nO (ints (onceTo l j)) := by rw [hnO]; exact own_below ho hb2
        have hsrc : Src Try.prog 1 52 (.slice (some ⟨wr.heap.size, 0, none⟩) 1 1) 1 [.int .i64 (r : Int)] (wr.alloc (.cells #[.int .i64 (r : Int)] 3)) := Src.ofSlice _ Try.underlying52 _ _ _ _ rfl (news_ofv _ _) (by intro u hu; rw [List.mem_singleton.mp hu]; rfl)
        have qs2 := alloc_block qs (.cells #[.int .i64 (r : Int)] 3)
        have hnO16 : nO ≤ 16 := by omega
        have fin : ∀ (v' : Value) (w2 : World), w2.ownsRow (w0.heap.size + 1) 3 1 v' (nO + 1) (ints (onceTo l j) ++ [.int .i64 (r : Int)]) → (wr.alloc (.cells #[.int .i64 (r : Int)] 3)).grownBy w2 v.ownBlock →
            w2.cell? ⟨bl, ol + j, none⟩ = some (.int .u8 (x.toNat : Int)) ∧ w2.cell? ⟨w0.heap.size, r, none⟩ = some (.bool false) ∧ w2.frozen? ⟨w0.heap.size, r, none⟩ = false ∧
            ((w2.setCell ⟨w0.heap.size, r, none⟩ (.bool true)).ownsRow (w0.heap.size + 1) 3 1 v' (onceTo l (j + 1)).length (ints (onceTo l (j + 1))) ∧ (w2.setCell ⟨w0.heap.size, r, none⟩ (.bool true)).heap[w0.heap.size]? = some (.cells (seenRow (onceTo l (j + 1))).toArray 53 (0, 0)) ∧ Below w.heap.size w (w2.setCell ⟨w0.heap.size, r, none⟩ (.bool true)) ∧ w0.heap.size + 1 ≤ (w2.setCell ⟨w0.heap.size, r, none⟩ (.bool true)).heap.size) := by
          intro v' w2 h1 h2
          have bb : Below w.heap.size w w2 := (hbr.alloc hbr.size _).grown h2 (Nat.le_trans hbr.size hb2.size) (fun b e => by have := (ho2.lt b e).1; omega)
          have qs3 : w2.heap[w0.heap.size]? = _ := (h2.block w0.heap.size (lt_of_block qs2) (fun e => by have := (ho2.lt _ e.symm).1; omega)).trans qs2
          have ck : Chg [w0.heap.size] w2 (w2.setCell ⟨w0.heap.size, r, none⟩ (.bool true)) := (Chg.refl _ _).setCell (.inl (by simp)) _
          refine ⟨hc w2 bb, ?_, box_frozen qs3, ?_, ?_, ck.to_below bb bb.size (fun x hx => by simp at hx; omega), Nat.le_trans (Nat.le_trans (Nat.le_trans hsz hb2.size) h2.size) ck.size⟩
          · rw [cell_of_row _ _ _ _ _ _ qs3]
            have := seenRow_get (onceTo l j) hr16
            rw [decide_eq_false hm] at this
            simpa using this
          · rw [hsu, List.length_append, ← hnO]
            have : ints (onceTo l j ++ [r]) = ints (onceTo l j) ++ [.int .i64 (r : Int)] := by simp [ints]
            rw [this]
            exact own_kept h1 (fun b e => ck.block b (h1.lt b e).2 (by simp; have := (h1.lt b e).1; omega))
          · rw [heap_setCell_same w2 w0.heap.size r _ _ _ qs3, seenRow_set (onceTo l j) (onceTo l (j + 1)) hr16 (fun a ha => by rw [hsu]; simp)]
        have finH : Hid (∀ (v' : Value) (w2 : World), w2.ownsRow (w0.heap.size + 1) 3 1 v' (nO + 1) (ints (onceTo l j) ++ [.int .i64 (r : Int)]) → (wr.alloc (.cells #[.int .i64 (r : Int)] 3)).grownBy w2 v.ownBlock → _) := fin
        have hb3 : w0.heap.size + 1 ≤ (wr.alloc (.cells #[.int .i64 (r : Int)] 3)).heap.size := Nat.le_trans hsz hb2.size
        have c0a := hc (wr.alloc (.cells #[.int .i64 (r : Int)] 3)) (hbr.alloc hbr.size _)
        clear fin hsu ho qs qs2 hle hnO hv hv1 hv2 hb2
        go_wp2_with (at_builtin; refine wpList_append_own_src _ rfl (.tmp 39) (.tmp 46) 52 52 rfl (w0.heap.size + 1) 3 i0 (.int .i64 0) 1 8 Try.underlying52 hi hz0 hz1 hz2 rfl (by decide) _ nO _ rfl ho2 (.slice (some ⟨wr.heap.size, 0, none⟩) 1 1) 1 _ rfl hsrc (by unfold maxLen; omega) (by omega) hb3 ?_; intro v' w2 h1 h2 h3; obtain ⟨f1, f2, f3, f4⟩ := finH.out v' w2 h1 h2)
        go_roundw
        case rel => exact ⟨_, j + 1, rfl, by omega, by go_num, f4⟩
        case measure => simp [intOf]; omega
    · have ejl : j = l.length := by omega
      have j1 : ¬ (j : Int) < (l.length : Int) := by omega
      subst ejl
      obtain ⟨O, hO⟩ : ∃ O, O = onceTo l l.length := ⟨_, rfl⟩
      have hOl : O.length ≤ 16 := by rw [hO]; exact once_len l _
      have hO16 : ∀ x ∈ O, x < 16 := fun x hx => by rw [hO] at hx; exact once_lt hx
      rw [← hO] at ho qs
      obtain ⟨av, cv, hv, hv1, hv2⟩ := own_len' ho
      unfold maxLen at hv2
      obtain ⟨n, hn⟩ : ∃ n, n = O.length := ⟨_, rfl⟩
      rw [← hn] at hv hv1 ho hOl
      rw [hv] at ho ⊢
      have hHn : Hid (n = O.length) := hn
      clear hn
      obtain ⟨wo, rfl⟩ : ∃ wo, wo = wr := ⟨_, rfl⟩
      clear hO hl hv hz1' q0 b1 j1
      have j1 : ¬ (l.length : Int) < (l.length : Int) := by omega
      go_wp2_with fail
      refine (new_own wo 16 (by omega) (by omega)).mono ?_
      rintro e w1 ⟨B, rfl, b1, o1⟩
      go_wp2_with fail
      refine (new_own w1 16 (by omega) (by omega)).mono ?_
      rintro e w2 ⟨B2, rfl, b2, o2⟩
      have tw : Two wo.heap.size w2 B (wrote []) B2 (wrote []) := two_of o1 o2 b2 b1.size
      have b12 := b1.trans (b2.mono b1.size)
      clear o1 o2 b1 b2
      have hcO : ∀ W, Below wo.heap.size wo W → ∀ i, i < n → ∃ gv, av = some ⟨gv, 0, none⟩ ∧ W.cell? ⟨gv, i, none⟩ = some (.int .i64 ((O.getD i 0 : Nat) : Int)) := fun W hW i hi => by
        rcases ho.2 with ⟨e, e2⟩ | ⟨g, c', cur, e, _⟩
        · omega
        · cases e
          refine ⟨g, rfl, ?_⟩
          have hlt := (ho.lt g rfl).2
          rw [World.cell?_of_block (w := wo) (hW.block g hlt), World.ownsRow.cellAt ho i (by omega)]
          have hi' : i < O.length := by have := hHn.out; omega
          simp [ints, hi']
      clear ho
      go_wp2_with fail
      go_loopw [12] (fun i wr => ∃ j : Nat, j ≤ n ∧ i = .int .i64 (j : Int) ∧ Two wo.heap.size wr B (wrote (firstJ O j)) B2 (wrote (roundJ O fn j)) ∧ Below wo.heap.size wo wr ∧ wo.heap.size ≤ wr.heap.size) (fun i _ => n - (intOf i).toNat)
      case atStart => exact ⟨0, Nat.zero_le _, rfl, tw, b12, b12.size⟩
      case round =>
        obtain ⟨j, hj, rfl, ht, hbr2, hs⟩ := hrel
        by_cases hjn : j < n
        · obtain ⟨gv, eav, -⟩ := hcO wr hbr2 j hjn
          subst eav
          have hcj : ∀ W, Below wo.heap.size wo W → ∀ i, i < n → W.cell? ⟨gv, i, none⟩ = some (.int .i64 ((O.getD i 0 : Nat) : Int)) := fun W hW i hi => by
            obtain ⟨g2, e, h⟩ := hcO W hW i hi
            cases e
            exact h
          obtain ⟨m, hm⟩ : ∃ m, m = (j + fn) % n := ⟨_, rfl⟩
          have hmn : m < n := by rw [hm]; exact Nat.mod_lt _ (by omega)
          have tm : ((j : Int) + (fn : Int)).tmod (n : Int) = (m : Int) := by rw [hm, ← tmod_nat]; rfl
          obtain ⟨p, hp⟩ : ∃ p, p = O.getD j 0 := ⟨_, rfl⟩
          obtain ⟨q, hq⟩ : ∃ q, q = O.getD m 0 := ⟨_, rfl⟩
          have hc : ∀ W, Below wo.heap.size wo W → W.cell? ⟨gv, j, none⟩ = some (.int .i64 (p : Int)) := fun W hW => by rw [hp]; exact hcj W hW j hjn
          have cm := hcj wr hbr2 m hmn
          rw [← hq] at cm
          have hp16 : p < 16 := by rw [hp]; simp [show j < O.length by have := hHn.out; omega]; exact hO16 _ (List.getElem_mem _)
          have hq16 : q < 16 := by rw [hq]; simp [show m < O.length by have := hHn.out; omega]; exact hO16 _ (List.getElem_mem _)
          obtain ⟨y, hy⟩ : ∃ y, y = UInt8.ofNat (1 + p) := ⟨_, rfl⟩
          obtain ⟨z, hz⟩ : ∃ z, z = UInt8.ofNat (1 + q) := ⟨_, rfl⟩
          have cvp : ∀ W, (convert 3 5 (.int .i64 (1 + (p : Int)))).run Try.prog W = .ok (.int .u8 (y.toNat : Int)) W := fun W => by rw [hy]; exact conv_1 p W
          have cvq : ∀ W, (convert 3 5 (.int .i64 (1 + (q : Int)))).run Try.prog W = .ok (.int .u8 (z.toNat : Int)) W := fun W => by rw [hz]; exact conv_1 q W
          have hf1 : Hid (wrote (firstJ O (j + 1)) = (wrote (firstJ O j)).write p [y]) := by
            show _ = _
            rw [firstJ, wrote, ← hp, oneB, hy]
          have hr1 : Hid (wrote (roundJ O fn (j + 1)) = (wrote (roundJ O fn j)).write q [z]) := by
            show _ = _
            rw [roundJ, wrote, ← hHn.out, ← hm, ← hq, oneB, hz]
          have hp1 : p < (wrote (firstJ O j)).sure.length := by rw [wrote_len]; exact hp16
          have hq1 : q < (wrote (roundJ O fn j)).sure.length := by rw [wrote_len]; exact hq16
          have hw1 : (wrote (firstJ O j)).ws.length ≤ 1000000 := by rw [wrote_ws, firstJ_len]; omega
          have hw2 : (wrote (roundJ O fn j)).ws.length ≤ 1000000 := by rw [wrote_ws, roundJ_len]; omega
          have ht0 := ht.drew
          have hbr0 := hbr2.drew
          have hs0 : wo.heap.size ≤ wr.drew.heap.size := hs
          have c0 := hc _ hbr0
          have c00 := hc _ hbr2
          have wp1 : IntKind.i64.wrap (1 + (p : Int)) = 1 + (p : Int) := by have := wrap_i64 (1 + p) (by omega); rwa [show ((1 + p : Nat) : Int) = 1 + (p : Int) by omega] at this
          have wq1 : IntKind.i64.wrap (1 + (q : Int)) = 1 + (q : Int) := by have := wrap_i64 (1 + q) (by omega); rwa [show ((1 + q : Nat) : Int) = 1 + (q : Int) by omega] at this
          have j2 : (j : Int) < (n : Int) := by omega
          have j3 : ¬ n ≤ j := by omega
          have j4 : (m : Int) < (n : Int) := by omega
          have j5 : ¬ n ≤ m := by omega
          have j6 : ((n : Int) == 0) = false := by simp; omega
          have j7 : (n : Int) ≤ 16 := by omega
          clear hp hq hy hz hm hcO hcj ht
          generalize wrote (firstJ O j) = d1 at *
          generalize wrote (roundJ O fn j) = d2 at *
          go_wp2_with fail
          refine wp_region_noPanic ?_
          refine wp_region_held_drew (S := fun W => W.cell? ⟨gv, j, none⟩ = some (.int .i64 (p : Int))) (by kernel_rfl) c0 (fun hHeld => ?_)
          refine wpAnyH_take (i := 0) (oi := { dst := some 84, op := Go.Op.move (Go.Operand.tmp 8), type := 24, pos := _, after := #[], guard := none }) (v := .pointer (some ⟨B, 0, none⟩)) rfl (by kernel_rfl) (by kernel_rfl) (by kernel_rfl) (fun _ _ _ h => h) (Or.inl ⟨by rfl, fun W hW => by go_simp⟩) (by assumption) ?_
          try simp only [Act.put, List.setIfInBounds_toArray, List.set_cons_zero, List.set_cons_succ]
          refine wpAnyH_take (i := 1) (oi := { dst := some 85, op := Go.Op.move (Go.Operand.tmp 5), type := 52, pos := _, after := #[], guard := none }) (v := .slice (some ⟨gv, 0, none⟩) n cv) rfl (by kernel_rfl) (by kernel_rfl) (by kernel_rfl) (fun _ _ _ h => h) (Or.inl ⟨by rfl, fun W hW => by go_simp⟩) (by assumption) ?_
          try simp only [Act.put, List.setIfInBounds_toArray, List.set_cons_zero, List.set_cons_succ]
          refine wpAnyH_take (i := 2) (oi := { dst := some 86, op := Go.Op.move (Go.Operand.tmp 12), type := 3, pos := _, after := #[], guard := none }) (v := .int .i64 (j : Int)) rfl (by kernel_rfl) (by kernel_rfl) (by kernel_rfl) (fun _ _ _ h => h) (Or.inl ⟨by rfl, fun W hW => by go_simp⟩) (by assumption) ?_
          try simp only [Act.put, List.setIfInBounds_toArray, List.set_cons_zero, List.set_cons_succ]
          refine wpAnyH_take (i := 3) (oi := { dst := some 87, op := Go.Op.indexAddr 52 (Go.Operand.tmp 85) (Go.Operand.tmp 86), type := 0, pos := _, after := #[{ on := 1, ground := Go.Ground.data }, { on := 2, ground := Go.Ground.data }], guard := none }) (v := .pointer (some ⟨gv, j, none⟩)) rfl (by kernel_rfl) (by kernel_rfl) (by kernel_rfl) (fun _ _ _ h => h) (Or.inl ⟨by rfl, fun W hW => by go_simp⟩) (by assumption) ?_
          try simp only [Act.put, List.setIfInBounds_toArray, List.set_cons_zero, List.set_cons_succ]
          refine wpAnyH_take (i := 4) (oi := { dst := some 88, op := Go.Op.load 3 (Go.Operand.tmp 87), type := 3, pos := _, after := #[{ on := 3, ground := Go.Ground.data }], guard := none }) (v := .int .i64 (p : Int)) rfl (by kernel_rfl) (by kernel_rfl) (by kernel_rfl) (fun _ _ _ h => h) (yieldsIf_load (by rfl) 3 (.tmp 87) rfl _ _ rfl (fun W hW => ldi _ _ _ W hW)) (by assumption) ?_
          try simp only [Act.put, List.setIfInBounds_toArray, List.set_cons_zero, List.set_cons_succ]
          refine wpAnyH_take (i := 5) (oi := { dst := some 89, op := Go.Op.move (Go.Operand.tmp 5), type := 52, pos := _, after := #[], guard := none }) (v := .slice (some ⟨gv, 0, none⟩) n cv) rfl (by kernel_rfl) (by kernel_rfl) (by kernel_rfl) (fun _ _ _ h => h) (Or.inl ⟨by rfl, fun W hW => by go_simp⟩) (by assumption) ?_
          try simp only [Act.put, List.setIfInBounds_toArray, List.set_cons_zero, List.set_cons_succ]
          refine wpAnyH_take (i := 6) (oi := { dst := some 90, op := Go.Op.move (Go.Operand.tmp 12), type := 3, pos := _, after := #[], guard := none }) (v := .int .i64 (j : Int)) rfl (by kernel_rfl) (by kernel_rfl) (by kernel_rfl) (fun _ _ _ h => h) (Or.inl ⟨by rfl, fun W hW => by go_simp⟩) (by assumption) ?_
          try simp only [Act.put, List.setIfInBounds_toArray, List.set_cons_zero, List.set_cons_succ]
          refine wpAnyH_take (i := 7) (oi := { dst := some 91, op := Go.Op.indexAddr 52 (Go.Operand.tmp 89) (Go.Operand.tmp 90), type := 0, pos := _, after := #[{ on := 5, ground := Go.Ground.data }, { on := 6, ground := Go.Ground.data }], guard := none }) (v := .pointer (some ⟨gv, j, none⟩)) rfl (by kernel_rfl) (by kernel_rfl) (by kernel_rfl) (fun _ _ _ h => h) (Or.inl ⟨by rfl, fun W hW => by go_simp⟩) (by assumption) ?_
          try simp only [Act.put, List.setIfInBounds_toArray, List.set_cons_zero, List.set_cons_succ]
          refine wpAnyH_take (i := 8) (oi := { dst := some 92, op := Go.Op.load 3 (Go.Operand.tmp 91), type := 3, pos := _, after := #[{ on := 7, ground := Go.Ground.data }], guard := none }) (v := .int .i64 (p : Int)) rfl (by kernel_rfl) (by kernel_rfl) (by kernel_rfl) (fun _ _ _ h => h) (yieldsIf_load (by rfl) 3 (.tmp 91) rfl _ _ rfl (fun W hW => ldi _ _ _ W hW)) (by assumption) ?_
          try simp only [Act.put, List.setIfInBounds_toArray, List.set_cons_zero, List.set_cons_succ]
          refine wpAnyH_take (i := 9) (oi := { dst := some 93, op := Go.Op.binOp Go.BinOp.add 3 (Go.Operand.const (Go.Value.int Go.IntKind.i64 1)) (Go.Operand.tmp 92) 3, type := 3, pos := _, after := #[{ on := 8, ground := Go.Ground.data }], guard := none }) (v := .int .i64 (1 + (p : Int))) rfl (by kernel_rfl) (by kernel_rfl) (by kernel_rfl) (fun _ _ _ h => h) (Or.inl ⟨by rfl, fun W hW => by go_simp⟩) (by assumption) ?_
          try simp only [Act.put, List.setIfInBounds_toArray, List.set_cons_zero, List.set_cons_succ]
          refine wpAnyH_take (i := 10) (oi := { dst := some 94, op := Go.Op.convert 3 5 (Go.Operand.tmp 93), type := 5, pos := _, after := #[{ on := 9, ground := Go.Ground.data }], guard := none }) (v := .int .u8 (y.toNat : Int)) rfl (by kernel_rfl) (by kernel_rfl) (by kernel_rfl) (fun _ _ _ h => h) (Or.inl ⟨by rfl, fun W hW => by have h1 := cvp W; go_simp⟩) (by assumption) ?_
          try simp only [Act.put, List.setIfInBounds_toArray, List.set_cons_zero, List.set_cons_succ]
          refine wpAnyH_ready (rs := [11]) (by kernel_rfl) (by simp) ?_
          refine AllReadyH.cons (o := { dst := some 95, op := Go.Op.buildSlice 22 1 #[(0, Go.Operand.tmp 94)], type := 22, pos := _, after := #[{ on := 10, ground := Go.Ground.data }], guard := none }) rfl (fun K hK => ?_) AllReadyH.nil
          refine step_buildSliceW (by rfl) 22 5 1 #[(0, .tmp 94)] rfl #[.int .u8 (y.toNat : Int)] #[(0, .int .u8 (y.toNat : Int))] (by simp only [List.map_toArray, List.map_cons, List.map_nil]; rfl) (fun W => one_lit y W) ?_
          have ba := below_one wr.drew (.cells #[.int .u8 (y.toNat : Int)] 5)
          refine hK.out _ _ (hc _ (hbr0.trans (ba.mono hs0))) (fun hHeld => ?_)
          clear hK K
          try simp only [Act.put, List.setIfInBounds_toArray, List.set_cons_zero, List.set_cons_succ]
          refine wpAnyH_ready (rs := [12]) (by kernel_rfl) (by simp) ?_
          refine AllReadyH.cons (o := { dst := some 96, op := Go.Op.call { callee := Go.Callee.value (Go.Operand.func 10), args := #[Go.Operand.tmp 84, Go.Operand.tmp 88, Go.Operand.tmp 95], argTypes := #[24, 3, 22] }, type := 31, pos := _, after := #[{ on := 0, ground := Go.Ground.data }, { on := 4, ground := Go.Ground.data }, { on := 11, ground := Go.Ground.data }], guard := none }) rfl (fun K hK => ?_) AllReadyH.nil
          go_simp
          refine (two_write (ht0.below ba) (Nat.le_trans hs0 ba.size) p hp1 _ [y] (lit_in wr.drew [y] (0, 0) 5 (by simp)) (by simp) hw1).mono ?_
          rintro e w2 ⟨rfl, t2, bw2⟩
          go_wp2_with fail
          have cw2 := (hbr0.trans (ba.mono hs0)).trans bw2
          have sw2 := Nat.le_trans (Nat.le_trans hs0 ba.size) bw2.size
          refine hK.out _ _ (hc w2 cw2) (fun hHeld => ?_)
          clear hK K
          try simp only [Act.put, List.setIfInBounds_toArray, List.set_cons_zero, List.set_cons_succ]
          refine wpAnyH_take (i := 13) (oi := { dst := some 97, op := Go.Op.binOp Go.BinOp.neq 31 (Go.Operand.tmp 96) (Go.Operand.const (Go.Value.int Go.IntKind.i64 0)) 31, type := 4, pos := _, after := #[{ on := 12, ground := Go.Ground.data }], guard := none }) (v := .bool false) rfl (by kernel_rfl) (by kernel_rfl) (by kernel_rfl) (fun _ _ _ h => h) (Or.inl ⟨by rfl, fun W hW => by go_simp⟩) (by assumption) ?_
          try simp only [Act.put, List.setIfInBounds_toArray, List.set_cons_zero, List.set_cons_succ]
          refine wpAnyH_take (i := 14) (oi := { dst := some 98, op := Go.Op.move (Go.Operand.tmp 97), type := 4, pos := _, after := #[{ on := 13, ground := Go.Ground.data }, { on := 12, ground := Go.Ground.chain }], guard := none }) (v := .bool false) rfl (by kernel_rfl) (by kernel_rfl) (by kernel_rfl) (fun _ _ _ h => h) (Or.inl ⟨by rfl, fun W hW => by go_simp⟩) (by assumption) ?_
          try simp only [Act.put, List.setIfInBounds_toArray, List.set_cons_zero, List.set_cons_succ]
          refine wpAnyH_take (i := 15) (oi := { dst := some 99, op := Go.Op.move (Go.Operand.tmp 10), type := 24, pos := _, after := #[{ on := 14, ground := Go.Ground.guard }], guard := some (14, false) }) (v := .pointer (some ⟨B2, 0, none⟩)) rfl (by kernel_rfl) (by kernel_rfl) (by kernel_rfl) (fun _ _ _ h => h) (Or.inl ⟨by rfl, fun W hW => by go_simp⟩) (by assumption) ?_
          try simp only [Act.put, List.setIfInBounds_toArray, List.set_cons_zero, List.set_cons_succ]
          refine wpAnyH_take (i := 16) (oi := { dst := some 100, op := Go.Op.move (Go.Operand.tmp 13), type := 3, pos := _, after := #[{ on := 14, ground := Go.Ground.guard }], guard := some (14, false) }) (v := .int .i64 (q : Int)) rfl (by kernel_rfl) (by kernel_rfl) (by kernel_rfl) (fun _ _ _ h => h) (Or.inl ⟨by rfl, fun W hW => by go_simp⟩) (by assumption) ?_
          try simp only [Act.put, List.setIfInBounds_toArray, List.set_cons_zero, List.set_cons_succ]
          refine wpAnyH_take (i := 17) (oi := { dst := some 101, op := Go.Op.move (Go.Operand.tmp 13), type := 3, pos := _, after := #[{ on := 14, ground := Go.Ground.guard }], guard := some (14, false) }) (v := .int .i64 (q : Int)) rfl (by kernel_rfl) (by kernel_rfl) (by kernel_rfl) (fun _ _ _ h => h) (Or.inl ⟨by rfl, fun W hW => by go_simp⟩) (by assumption) ?_
          try simp only [Act.put, List.setIfInBounds_toArray, List.set_cons_zero, List.set_cons_succ]
          refine wpAnyH_take (i := 18) (oi := { dst := some 102, op := Go.Op.binOp Go.BinOp.add 3 (Go.Operand.const (Go.Value.int Go.IntKind.i64 1)) (Go.Operand.tmp 101) 3, type := 3, pos := _, after := #[{ on := 17, ground := Go.Ground.data }, { on := 14, ground := Go.Ground.guard }], guard := some (14, false) }) (v := .int .i64 (1 + (q : Int))) rfl (by kernel_rfl) (by kernel_rfl) (by kernel_rfl) (fun _ _ _ h => h) (Or.inl ⟨by rfl, fun W hW => by go_simp⟩) (by assumption) ?_
          try simp only [Act.put, List.setIfInBounds_toArray, List.set_cons_zero, List.set_cons_succ]
          refine wpAnyH_take (i := 19) (oi := { dst := some 103, op := Go.Op.convert 3 5 (Go.Operand.tmp 102), type := 5, pos := _, after := #[{ on := 18, ground := Go.Ground.data }, { on := 14, ground := Go.Ground.guard }], guard := some (14, false) }) (v := .int .u8 (z.toNat : Int)) rfl (by kernel_rfl) (by kernel_rfl) (by kernel_rfl) (fun _ _ _ h => h) (Or.inl ⟨by rfl, fun W hW => by have h1 := cvq W; go_simp⟩) (by assumption) ?_
          try simp only [Act.put, List.setIfInBounds_toArray, List.set_cons_zero, List.set_cons_succ]
          refine wpAnyH_ready (rs := [20]) (by kernel_rfl) (by simp) ?_
          refine AllReadyH.cons (o := { dst := some 104, op := Go.Op.buildSlice 22 1 #[(0, Go.Operand.tmp 103)], type := 22, pos := _, after := #[{ on := 19, ground := Go.Ground.data }, { on := 14, ground := Go.Ground.guard }], guard := some (14, false) }) rfl (fun K hK => ?_) AllReadyH.nil
          refine step_buildSliceW (by rfl) 22 5 1 #[(0, .tmp 103)] rfl #[.int .u8 (z.toNat : Int)] #[(0, .int .u8 (z.toNat : Int))] (by simp only [List.map_toArray, List.map_cons, List.map_nil]; rfl) (fun W => one_lit z W) ?_
          have bb := below_one w2 (.cells #[.int .u8 (z.toNat : Int)] 5)
          refine hK.out _ _ (hc _ (cw2.trans (bb.mono sw2))) (fun hHeld => ?_)
          clear hK K
          try simp only [Act.put, List.setIfInBounds_toArray, List.set_cons_zero, List.set_cons_succ]
          refine wpAnyH_ready (rs := [21]) (by kernel_rfl) (by simp) ?_
          refine AllReadyH.cons (o := { dst := some 105, op := Go.Op.call { callee := Go.Callee.value (Go.Operand.func 10), args := #[Go.Operand.tmp 99, Go.Operand.tmp 100, Go.Operand.tmp 104], argTypes := #[24, 3, 22] }, type := 31, pos := _, after := #[{ on := 15, ground := Go.Ground.data }, { on := 16, ground := Go.Ground.data }, { on := 20, ground := Go.Ground.data }, { on := 14, ground := Go.Ground.chain }, { on := 14, ground := Go.Ground.guard }], guard := some (14, false) }) rfl (fun K hK => ?_) AllReadyH.nil
          go_simp
          refine (two_write (t2.swap.below bb) (Nat.le_trans sw2 bb.size) q hq1 _ [z] (lit_in w2 [z] (0, 0) 5 (by simp)) (by simp) hw2).mono ?_
          rintro e w3 ⟨rfl, t3, bw3⟩
          go_wp2_with fail
          have cw3 := (cw2.trans (bb.mono sw2)).trans bw3
          have sw3 := Nat.le_trans (Nat.le_trans sw2 bb.size) bw3.size
          refine hK.out _ _ (hc w3 cw3) (fun hHeld => ?_)
          clear hK K
          try simp only [Act.put, List.setIfInBounds_toArray, List.set_cons_zero, List.set_cons_succ]
          refine wpAnyH_take (i := 22) (oi := { dst := some 106, op := Go.Op.binOp Go.BinOp.neq 31 (Go.Operand.tmp 105) (Go.Operand.const (Go.Value.int Go.IntKind.i64 0)) 31, type := 4, pos := _, after := #[{ on := 21, ground := Go.Ground.data }, { on := 14, ground := Go.Ground.guard }], guard := some (14, false) }) (v := .bool false) rfl (by kernel_rfl) (by kernel_rfl) (by kernel_rfl) (fun _ _ _ h => h) (Or.inl ⟨by rfl, fun W hW => by go_simp⟩) (by assumption) ?_
          try simp only [Act.put, List.setIfInBounds_toArray, List.set_cons_zero, List.set_cons_succ]
          refine wpAnyH_take (i := 23) (oi := { dst := some 107, op := Go.Op.pick (Go.Operand.tmp 98) (Go.Operand.const (Go.Value.bool true)) (Go.Operand.tmp 106), type := 4, pos := _, after := #[{ on := 14, ground := Go.Ground.data }, { on := 22, ground := Go.Ground.data }], guard := none }) (v := .bool false) rfl (by kernel_rfl) (by kernel_rfl) (by kernel_rfl) (fun _ _ _ h => h) (Or.inl ⟨by rfl, fun W hW => by go_simp⟩) (by assumption) ?_
          try simp only [Act.put, List.setIfInBounds_toArray, List.set_cons_zero, List.set_cons_succ]
          refine wpAnyH_done (by kernel_rfl) ?_ _
          refine NoPanic.normal ?_
          go_wp2
          go_roundw
          case rel => exact ⟨j + 1, by omega, by go_num, (by rw [hf1.out, hr1.out]; exact t3.swap), cw3, sw3⟩
          case measure => simp [intOf]; omega
        · have ejn : j = n := by omega
          subst ejn
          have j2 : ¬ (j : Int) < (j : Int) := by omega
          have hw1 : (wrote (firstJ O j)).ws.length = j := by rw [wrote_ws, firstJ_len]
          have hl1 := wrote_len (firstJ O j)
          have hl2 := wrote_len (roundJ O fn j)
          have hv1 : ∀ a, a < 16 → (wrote (firstJ O j)).view a = if a ∈ O then pad (oneB a) else z64 := fun a ha => by
            rw [wrote_view _ a ha]
            congr 1
            rw [hHn.out, eq_iff_iff]
            exact firstJ_all O a
          have hv2 : ∀ a, a < 16 → (wrote (roundJ O fn j)).view a = if a ∈ O then pad (oneB a) else z64 := fun a ha => by
            rw [wrote_view _ a ha]
            congr 1
            rw [hHn.out, eq_iff_iff]
            exact roundJ_all O fn a
          have hok := wrote_ok (firstJ_lt hO16 (j := j) (by have := hHn.out; omega))
          have hv3 : ∀ a, a < 16 → ((wrote (firstJ O j)).fail 65535 (-1)).view a = if a ∈ O then pad (oneB a) else z64 := fun a ha => by
            rw [fail_all hok 65535 (-1) (fun i hi => bits16 i (by omega)) (by omega) (by omega) a (by rw [hl1]; exact ha)]
            exact hv1 a ha
          have hl3 : ((wrote (firstJ O j)).fail 65535 (-1)).sure.length = 16 := by unfold Dk.fail; rw [failTo_len]; exact hl1
          have hbw := hbr.trans (hbr2.mono hbr.size)
          have qs2 := (hbr2.block w0.heap.size (lt_of_block qs)).trans qs
          have hsw := hbw.size
          clear hok hO16 hcO hbr hbr2 qs
          generalize wrote (firstJ O j) = d1 at *
          generalize wrote (roundJ O fn j) = d2 at *
          go_wp2_with fail
          refine (al_fail ht.own1 hbw hsw 65535 (by decide) 65535 rfl (-1) (by decide)).mono ?_
          rintro e w4 ⟨B3, rfl, b4, c4, f4⟩
          have t4 := ht.below c4
          have qs4 := (c4.block w0.heap.size (lt_of_block qs2)).trans qs2
          clear ht hbw qs2
          go_wp2_with fail
          refine (waits_own t4.own1).mono ?_
          rintro e w4' ⟨rfl, rfl⟩
          rw [hw1]
          generalize d1.fail 65535 (-1) = d3 at *
          obtain ⟨bs, f5⟩ : ∃ bs, Own bs w4 B3 d3 := ⟨_, f4⟩
          have b4s := b4.size
          clear f4 c4
          go_wp2_with fail
          go_loopw [15] (fun i wr => ∃ a : Nat, a ≤ 16 ∧ i = .int .i64 (a : Int) ∧ Two wo.heap.size wr B d1 B2 d2 ∧ Own bs wr B3 d3 ∧ wr.heap[w0.heap.size]? = some (.cells (seenRow O).toArray 53 (0, 0)) ∧ Below w.heap.size w wr ∧ w.heap.size ≤ wr.heap.size) (fun i _ => 16 - (intOf i).toNat)
          case atStart => exact ⟨0, by omega, rfl, t4, f5, qs4, b4, b4s⟩
          case round =>
            obtain ⟨a, ha, rfl, ht, hf, hq, hb, hs2⟩ := hrel
            by_cases ha16 : a < 16
            · have a1 : (a : Int) < 16 := by omega
              have a2 : ¬ 16 ≤ a := by omega
              have cs : wr.cell? ⟨w0.heap.size, a, none⟩ = some (.bool (decide (a ∈ O))) := by
                rw [cell_of_row _ _ _ _ _ _ hq]
                simpa using seenRow_get O ha16
              have fin : ∀ W, Below wr.heap.size wr W → ∃ a1 : Nat, a1 ≤ 16 ∧ Value.int .i64 ((a : Int) + 1) = .int .i64 (a1 : Int) ∧ Two wo.heap.size W B d1 B2 d2 ∧ Own bs W B3 d3 ∧ W.heap[w0.heap.size]? = some (.cells (seenRow O).toArray 53 (0, 0)) ∧ Below w.heap.size w W ∧ w.heap.size ≤ W.heap.size := fun W hW => ⟨a + 1, by omega, by simp, ht.below hW, hf.below hW, (hW.block _ (lt_of_block hq)).trans hq, hb.trans (hW.mono hs2), Nat.le_trans hs2 hW.size⟩
              have finH : Hid (∀ W, Below wr.heap.size wr W → _) := fin
              by_cases hm : a ∈ O
              · rw [decide_eq_true hm] at cs
                obtain ⟨y, hy⟩ : ∃ y, y = UInt8.ofNat (1 + a) := ⟨_, rfl⟩
                have cvp : ∀ W, (convert 3 5 (.int .i64 (1 + (a : Int)))).run Try.prog W = .ok (.int .u8 (y.toNat : Int)) W := fun W => by rw [hy]; exact conv_1 a W
                have hh : hd (pad (oneB a)) = y := by rw [hy]; rfl
                have k1 := first_own hf a (by rw [hl3]; exact ha16) (y.toNat : Int) (by rw [hv3 a ha16, if_pos hm, hh])
                have k2 : ∀ W, Below wr.heap.size wr W → _ := fun W hW => first_own (ht.below hW).own1 a (by rw [hl1]; exact ha16) (y.toNat : Int) (by rw [hv1 a ha16, if_pos hm, hh])
                have k3 : ∀ W, Below wr.heap.size wr W → _ := fun W hW => first_own (ht.below hW).own2 a (by rw [hl2]; exact ha16) (y.toNat : Int) (by rw [hv2 a ha16, if_pos hm, hh])
                clear fin hv1 hv2 hv3 ht hf hq hb hm hy hh
                go_wp2_with fail
                refine k1.mono ?_
                rintro e w5 ⟨rfl, b5⟩
                go_wp2_with fail
                refine (k2 w5 b5).mono ?_
                rintro e w6 ⟨rfl, b6'⟩
                have b6 := b5.trans (b6'.mono b5.size)
                go_wp2_with fail
                refine (k3 w6 b6).mono ?_
                rintro e w7 ⟨rfl, b7'⟩
                have f7 := finH.out w7 (b6.trans (b7'.mono b6.size))
                clear k1 k2 k3 finH
                go_wp2
                go_roundw
                case rel => exact f7
                case measure => simp [intOf]; omega
              · rw [decide_eq_false hm] at cs
                have k1 := first_own hf a (by rw [hl3]; exact ha16) 0 (by rw [hv3 a ha16, if_neg hm]; rfl)
                have k2 : ∀ W, Below wr.heap.size wr W → _ := fun W hW => first_own (ht.below hW).own1 a (by rw [hl1]; exact ha16) 0 (by rw [hv1 a ha16, if_neg hm]; rfl)
                have k3 : ∀ W, Below wr.heap.size wr W → _ := fun W hW => first_own (ht.below hW).own2 a (by rw [hl2]; exact ha16) 0 (by rw [hv2 a ha16, if_neg hm]; rfl)
                clear fin hv1 hv2 hv3 ht hf hq hb hm
                go_wp2_with fail
                refine k1.mono ?_
                rintro e w5 ⟨rfl, b5⟩
                go_wp2_with fail
                refine (k2 w5 b5).mono ?_
                rintro e w6 ⟨rfl, b6'⟩
                have b6 := b5.trans (b6'.mono b5.size)
                go_wp2_with fail
                refine (k3 w6 b6).mono ?_
                rintro e w7 ⟨rfl, b7'⟩
                have f7 := finH.out w7 (b6.trans (b7'.mono b6.size))
                clear k1 k2 k3 finH
                go_wp2
                go_roundw
                case rel => exact f7
                case measure => simp [intOf]; omega
            · have a1 : ¬ (a : Int) < 16 := by omega
              go_wp2
              go_ret
              exact ⟨rfl, hb⟩

theorem order_any (w : World) (vl : Value) (l : List UInt8) (z : Int) (hl : InAt w w.heap.size vl l) (hz : (Lit.int .u8 z).wf = true) :
    Calls Try.prog 7 #[vl, .int .u8 z] w fun e w' => e = .returned (.bool true) ∧ Below w.heap.size w w' := by
  have zb := bounds_u8 hz
  obtain ⟨zn, rfl⟩ : ∃ zn : Nat, z = (zn : Int) := ⟨z.toNat, by omega⟩
  clear hz
  obtain ⟨al, cl, el, hl1, hl2, -⟩ := id hl
  subst el
  unfold maxLen at hl2
  by_cases h100 : l.length ≤ 100
  · exact order_main w al cl l zn hl ⟨hl1, by omega⟩ (by omega) h100
  · have i1 : (100 : Int) < (l.length : Int) := by omega
    go_enter Try.func7, Try.ntmps7
    go_wp2_with fail
    refine (alive_any w).mono ?_
    rintro e w1 ⟨rfl, b1⟩
    go_wp2_with fail
    refine (alive_any _).mono ?_
    rintro e w2 ⟨rfl, b2⟩
    go_wp2
    go_ret
    exact ⟨rfl, b1.trans (b2.mono b1.size)⟩
end Go.Proofs.Ytapfkoojplbfmaa
