/- The walk of the document's Read. -/
import Derived.Test.YthnkakjelhnjdaaGreatDoorERNew
set_option linter.unusedSimpArgs false
set_option linter.unusedVariables false
namespace Go.Proofs.YthnkakjelhnjdaaGreatDoor
open Go.RowKit Go.Maps

theorem src_row {w : World} {v : Value} {s : Sec} (h : w.ownsRow 0 5 1 v 64 (bcells s)) : Src Tryz.prog 1 45 v 64 (bcells s) w := by
  obtain ⟨g, cap, rfl, -⟩ := own_pos h (by omega)
  exact Src.ofSlice _ Tryz.underlying45 _ _ _ _ h.1 (fun j u hu => h.cells rfl j u hu) (bcells_one s)
/-- What append makes of nothing and a list. -/
theorem rcopy_new {w w2 : World} {v' : Value} {s : Sec} (h : w2.ownsRow w.heap.size 5 1 v' (0 + 64) ([] ++ bcells s)) (hg : w.grownBy w2 (Value.ownBlock (.slice none 0 0))) : w2.ownsRow w.heap.size 5 1 v' 64 (bcells s) ∧ Below w.heap.size w w2 :=
  ⟨by simpa using h, hg.os, hg.tape, hg.output, hg.size, fun k hk => hg.block k hk (by simp [Value.ownBlock])⟩
set_option maxRecDepth 1000000 in
theorem rread_bad {w : World} {B : Nat} {S : Nat → Prop} {d : Dk} (h : RfAt w B S d) (i : Int) (hi : i < 0 ∨ (d.sure.length : Int) ≤ i) :
    Calls Tryz.prog 13 #[.pointer (some ⟨B, 0, none⟩), .int .i64 i] w fun e w' => e = .returned (.tuple #[.slice none 0 0, .int .i64 1]) ∧ w = w' := by
  have hmax := h.ok.max
  obtain ⟨vs, vw, P, Q, h⟩ := h
  obtain ⟨as0, cs, hv, -, -⟩ := own_len' h.rs
  have hc := (pair_cell h.head).1
  rw [hv] at hc
  clear h
  generalize d.sure.length = nS at *
  by_cases h1 : i < 0
  · clear hi
    go_enter Tryz.func13, Tryz.ntmps13
    go_wp2
    go_ret2
    exact ⟨rfl, rfl⟩
  · have h2 : (nS : Int) ≤ i := by omega
    clear hi
    go_enter Tryz.func13, Tryz.ntmps13
    go_wp2
    go_ret2
    exact ⟨rfl, rfl⟩
set_option maxHeartbeats 4000000 in
set_option maxRecDepth 1000000 in
theorem rread_ok {w : World} {B : Nat} {S : Nat → Prop} {d : Dk} (h : RfAt w B S d) (i : Nat) (hi : i < d.sure.length) (hn : d.ws.length ≤ 1000000) :
    Calls Tryz.prog 13 #[.pointer (some ⟨B, 0, none⟩), .int .i64 (i : Int)] w fun e w' =>
      ∃ v, e = .returned (.tuple #[v, .int .i64 0]) ∧ w'.ownsRow w.heap.size 5 1 v 64 (bcells (d.view i)) ∧ Below w.heap.size w w' := by
  obtain ⟨i0, hii, hz0, hz1, hz2⟩ := info_parts info_u8
  have h0 := h.ok
  have hmax := h0.max
  obtain ⟨vs, vw, P, Q, h⟩ := h
  obtain ⟨g, cs, rfl, hs1, hs2, -, -, css⟩ := own_pos h.rs h0.pos
  obtain ⟨aw, cw, hvw, hw1, hw2⟩ := own_len' h.rw_
  subst hvw
  unfold maxLen at hw2
  have y1 := css _ _ (rowsOf_get P hi)
  obtain ⟨ap, cp, ep, ep1, ep2⟩ := own_len' (h.ps i hi).1
  rw [ep] at y1
  have srcP := src_row (h.ps i hi).1
  rw [ep] at srcP
  have hview : d.view i = (lastAt d.ws i).getD (d.sure[i]'hi) := by unfold Dk.view; congr 1; simp [List.getD_eq_getElem?_getD, hi]
  obtain ⟨s0, hs0⟩ : ∃ s0, s0 = d.sure[i]'hi := ⟨_, rfl⟩
  rw [← hs0] at srcP hview
  obtain ⟨nS, hnS⟩ : ∃ nS, nS = d.sure.length := ⟨_, rfl⟩
  obtain ⟨nW, hnW⟩ : ∃ nW, nW = d.ws.length := ⟨_, rfl⟩
  rw [← hnS, ← hnW] at h
  rw [← hnS] at hmax hs1 hi
  rw [← hnW] at hn hw1
  have hHW : Hid (nW = d.ws.length) := hnW
  have c0 := pair_cell h.head
  have i1 : ¬ (i : Int) < 0 := by omega
  have i2 : ¬ (nS : Int) ≤ (i : Int) := by omega
  have i3 : (i : Int) < (nS : Int) := by omega
  have i4 : ¬ nS ≤ i := by omega
  have hst : lastAt d.ws i = lastAt (d.ws.take nW) i := by rw [hnW, List.take_length]
  clear hnS hnW hs0 css
  go_enter Tryz.func13, Tryz.ntmps13
  go_wp2
  go_loopw [6] (fun x wr => ∃ j : Nat, j ≤ nW ∧ x = .int .i64 ((j : Int) - 1) ∧ lastAt d.ws i = lastAt (d.ws.take j) i ∧ w = wr) (fun x _ => (intOf x + 1).toNat)
  case atStart => exact ⟨nW, Nat.le_refl _, rfl, hst, rfl⟩
  case round =>
    obtain ⟨j, hj, rfl, hl, rfl⟩ := hrel
    rcases j with _ | k
    · have k1 : ¬ (0 : Int) ≤ ((0 : Nat) : Int) - 1 := by omega
      have hv : Hid (d.view i = s0) := by show d.view i = s0; rw [hview, hl]; simp [lastAt]
      have fin : Hid (∀ (v' : Value) (w2 : World), w2.ownsRow w.heap.size 5 1 v' (0 + 64) ([] ++ bcells s0) → w.grownBy w2 (Value.ownBlock (.slice none 0 0)) → w2.ownsRow w.heap.size 5 1 v' 64 (bcells s0) ∧ Below w.heap.size w w2) := fun v' w2 h1 h2 => rcopy_new h1 h2
      clear h hl hst hview
      go_wp2_with (at_builtin; refine wpList_append_own_src _ rfl (.const (.slice none 0 0)) (.tmp 53) 45 45 rfl w.heap.size 5 i0 (.int .u8 0) 1 1 Tryz.underlying45 hii hz0 hz1 hz2 rfl (by decide) (.slice none 0 0) 0 [] rfl (World.ownsRow_nil _ _ _ _) (.slice ap 64 cp) 64 _ rfl srcP (by unfold maxLen; omega) (by omega) (Nat.le_refl _) ?_; intro v' w2 h1 h2 h3; obtain ⟨f1, f2⟩ := fin.out v' w2 h1 h2)
      go_ret2
      exact ⟨v', rfl, by rw [hv.out]; exact f1, f2⟩
    · have k1 : (0 : Int) ≤ ((k + 1 : Nat) : Int) - 1 := by omega
      have ek : ((k + 1 : Nat) : Int) - 1 = (k : Int) := by omega
      rw [ek] at k1 ⊢
      have hkd : k < d.ws.length := by rw [← hHW.out]; omega
      obtain ⟨gw, cw', ew, -, -, -, -, cws⟩ := own_pos h.rw_ (by omega)
      obtain ⟨rfl, rfl⟩ : aw = some ⟨gw, 0, none⟩ ∧ cw = cw' := by cases ew; exact ⟨rfl, rfl⟩
      clear ew
      obtain ⟨w1, w2⟩ := wsOf_get d.ws Q hkd
      obtain ⟨aq, cq, eq, eq1, eq2⟩ := own_len' (h.qs k hkd).1
      have srcQ := src_row (h.qs k hkd).1
      have x1 := cws _ _ w1
      have x2 := cws _ _ w2
      rw [eq] at x2 srcQ
      have k2 : (k : Int) < (nW : Int) := by omega
      have k3 : ¬ nW ≤ k := by omega
      rw [List.take_succ_eq_append_getElem hkd] at hl
      obtain ⟨a, s, es⟩ : ∃ a s, d.ws[k]'hkd = (a, s) := ⟨_, _, rfl⟩
      rw [es] at x1 srcQ hl
      rw [lastAt_snoc] at hl
      simp only at x1 srcQ
      by_cases ha : a = i
      · have e5 : ((a : Int) == (i : Int)) = true := by simp; omega
        have hv : Hid (d.view i = s) := by show d.view i = s; rw [hview, hl, if_pos ha]; rfl
        have fin : Hid (∀ (v' : Value) (w2 : World), w2.ownsRow w.heap.size 5 1 v' (0 + 64) ([] ++ bcells s) → w.grownBy w2 (Value.ownBlock (.slice none 0 0)) → w2.ownsRow w.heap.size 5 1 v' 64 (bcells s) ∧ Below w.heap.size w w2) := fun v' w2 h1 h2 => rcopy_new h1 h2
        clear h hl hst hview cws w1 w2 es
        go_wp2_with (at_builtin; refine wpList_append_own_src _ rfl (.const (.slice none 0 0)) (.tmp 45) 45 45 rfl w.heap.size 5 i0 (.int .u8 0) 1 1 Tryz.underlying45 hii hz0 hz1 hz2 rfl (by decide) (.slice none 0 0) 0 [] rfl (World.ownsRow_nil _ _ _ _) (.slice aq 64 cq) 64 _ rfl srcQ (by unfold maxLen; omega) (by omega) (Nat.le_refl _) ?_; intro v' w2 h1 h2 h3; obtain ⟨f1, f2⟩ := fin.out v' w2 h1 h2)
        go_ret2
        exact ⟨v', rfl, by rw [hv.out]; exact f1, f2⟩
      · have e5 : ((a : Int) == (i : Int)) = false := by simp; omega
        rw [if_neg ha] at hl
        have fin : ∃ j1 : Nat, j1 ≤ nW ∧ Value.int .i64 ((k : Int) - 1) = .int .i64 ((j1 : Int) - 1) ∧ lastAt d.ws i = lastAt (d.ws.take j1) i ∧ w = w := ⟨k, by omega, rfl, hl, rfl⟩
        clear h hl hst hview cws w1 w2 es
        go_wp2
        go_roundw
        case rel => first | exact fin | (obtain ⟨j1, z1, z2, z3, _⟩ := fin; exact ⟨j1, z1, z2, z3, trivial⟩)
        case measure => first | (simp [intOf]; done) | (simp [intOf]; omega)
end Go.Proofs.YthnkakjelhnjdaaGreatDoor
