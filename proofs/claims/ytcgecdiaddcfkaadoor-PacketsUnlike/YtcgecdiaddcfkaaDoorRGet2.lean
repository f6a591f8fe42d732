/- The walks of rows.GetOps and rows.GetChanges: what the bytes were made of, or the error. -/
import Derived.Test.YtcgecdiaddcfkaaDoorRGetL
set_option linter.unusedSimpArgs false
set_option linter.unusedVariables false
namespace Go.Proofs.YtcgecdiaddcfkaaDoor
open Go.RowKit

/-- A reader that was just made, and the variable that holds it. -/
theorem rat_new (w : World) (v : Value) (bs : List UInt8) (h : InAt w w.heap.size v bs) : RAt ((w.alloc (.cells #[v, .bool false] 87)).alloc (.cells #[ptr w.heap.size] 85)) w.heap.size w.heap.size ⟨bs, false⟩ ∧
    ((w.alloc (.cells #[v, .bool false] 87)).alloc (.cells #[ptr w.heap.size] 85)).heap[w.heap.size + 1]? = some (.cells #[ptr w.heap.size] 85 (0, 0)) := by
  refine ⟨⟨v, alloc_block (heap_alloc_new w _) _, h.kept (fun k hk => ?_), Nat.le_refl _, by simp; omega⟩, ?_⟩
  · rw [Below.heap_alloc _ _ _ (by simp; omega), Below.heap_alloc _ _ _ hk]
  · have := heap_alloc_new (w.alloc (.cells #[v, .bool false] 87)) (.cells #[ptr w.heap.size] 85)
    simpa using this
theorem below_two' {w : World} (a b : Obj) : Below w.heap.size w ((w.alloc a).alloc b) := ((Below.refl _ _).alloc (Nat.le_refl _) _).alloc (by simp) _
theorem own_mono' {w : World} {base base' : Nat} {e : TypeId} {size : Nat} {v : Value} {n : Nat} {xs : List Value} (h : w.ownsRow base e size v n xs) (hb : base' ≤ base) : w.ownsRow base' e size v n xs := by
  refine ⟨h.1, ?_⟩
  rcases h.2 with h1 | ⟨g, cap, cur, h1, h2, h3⟩
  · exact .inl h1
  · exact .inr ⟨g, cap, cur, h1, Nat.le_trans hb h2, h3⟩
theorem whole_no {α : Type} {p : List α × St} (h : p.2.bad = true ∨ p.2.rest ≠ []) : whole p = ([], 4) := by unfold whole; rw [if_pos h]
theorem whole_yes {α : Type} {p : List α × St} (h : ¬ (p.2.bad = true ∨ p.2.rest ≠ [])) : whole p = (p.1, 0) := by unfold whole; rw [if_neg h]

set_option maxHeartbeats 2000000 in
set_option maxRecDepth 1000000 in
theorem wholeOp_no (w : World) (R lim : Nat) (s : St) (ao : Option Addr) (n c : Nat) (h : RAt w R lim s) (hb : s.bad = true ∨ s.rest ≠ []) :
    Calls Tryd.prog 52 #[ptr R, .slice ao n c] w fun e w' => e = .returned (.tuple #[.slice none 0 0, .int .i64 4]) ∧ w' = w := by
  obtain ⟨v, h1, h2, h3, h4⟩ := h
  obtain ⟨c0, c1⟩ := pair_cell h1
  obtain ⟨ao2, cap, rfl, -, -, -⟩ := h2
  clear h1
  cases hbad : s.bad with
  | true =>
    rw [hbad] at c1
    go_enter Tryd.func52, Tryd.ntmps52
    go_wp2
    go_ret2
    exact ⟨rfl, rfl⟩
  | false =>
    rw [hbad] at c1
    have hl : 0 < s.rest.length := by
      rcases hb with hb | hb
      · rw [hbad] at hb; cases hb
      · exact List.length_pos_iff.mpr hb
    clear hb hbad
    go_enter Tryd.func52, Tryd.ntmps52
    go_wp2
    go_ret2
    exact ⟨rfl, rfl⟩
set_option maxHeartbeats 2000000 in
set_option maxRecDepth 1000000 in
theorem wholeOp_yes (w : World) (R lim : Nat) (s : St) (ao : Option Addr) (n c : Nat) (h : RAt w R lim s) (hb : ¬ (s.bad = true ∨ s.rest ≠ [])) :
    Calls Tryd.prog 52 #[ptr R, .slice ao n c] w fun e w' => e = .returned (.tuple #[.slice ao n c, .int .i64 0]) ∧ w' = w := by
  obtain ⟨v, h1, h2, h3, h4⟩ := h
  obtain ⟨c0, c1⟩ := pair_cell h1
  obtain ⟨ao2, cap, rfl, -, -, -⟩ := h2
  rw [not_or] at hb
  have hr : s.rest = [] := Classical.byContradiction hb.2
  have hbad : s.bad = false := Bool.eq_false_iff.mpr hb.1
  rw [hbad] at c1
  rw [hr] at c0
  simp only [List.length_nil] at c0
  clear h1 hb hr hbad
  go_enter Tryd.func52, Tryd.ntmps52
  go_wp2
  go_ret2
  exact ⟨rfl, rfl⟩

set_option maxHeartbeats 2000000 in
set_option maxRecDepth 1000000 in
theorem GetOps_any (w : World) (vb : Value) (bs : List UInt8) (hb : InAt w w.heap.size vb bs) :
    Calls Tryd.prog 25 #[vb] w fun e w' => ∃ v, e = .returned (.tuple #[v, .int .i64 ((getOps bs).2 : Int)]) ∧
      w'.ownsRow w.heap.size 49 4 v (getOps bs).1.length ((getOps bs).1.flatMap opCells) ∧ Below w.heap.size w w' := by
  have hmf : ∀ (fn : Fn) (first cap : Array Value) (w : World), (Instr.makeFunc fn first cap).run Tryd.prog w = .ok (.func fn first cap) w := fun _ _ _ _ => rfl
  obtain ⟨hR, hV⟩ := rat_new w vb bs hb
  obtain ⟨W, hW⟩ : ∃ W, W = (w.alloc (.cells #[vb, .bool false] 87)).alloc (.cells #[ptr w.heap.size] 85) := ⟨_, rfl⟩
  have bW : Below w.heap.size w W := by rw [hW]; exact below_two' _ _
  have zW : W.heap.size = w.heap.size + 2 := by rw [hW]; simp
  rw [← hW] at hR hV
  have kg := getListOp_any W w.heap.size w.heap.size (w.heap.size + 1) 16 85 ⟨bs, false⟩ hR hV (by omega) (by omega)
  have fin : ∀ w1 v, w1.ownsRow W.heap.size 49 4 v (listS stepOp 16 ⟨bs, false⟩).1.length ((listS stepOp 16 ⟨bs, false⟩).1.flatMap opCells) → Kept w.heap.size W.heap.size W w1 →
      w1.ownsRow w.heap.size 49 4 v (listS stepOp 16 ⟨bs, false⟩).1.length ((listS stepOp 16 ⟨bs, false⟩).1.flatMap opCells) ∧ Below w.heap.size w w1 ∧ w1.cell? ⟨w.heap.size + 1, 0, none⟩ = some (ptr w.heap.size) := by
    intro w1 v ho q
    refine ⟨own_mono' ho (by omega), bW.trans (q.below (Nat.le_refl _) (by omega)), ?_⟩
    have : w1.heap[w.heap.size + 1]? = some (.cells #[ptr w.heap.size] 85 (0, 0)) := by rw [q.block _ (by omega) (by omega)]; exact hV
    exact box_cell this
  obtain ⟨aob, capb, hvb, -, -, -⟩ := hb
  subst hvb
  clear bW zW hR hV
  subst hW
  unfold getOps
  generalize hL : listS stepOp 16 ⟨bs, false⟩ = L at *
  clear hL
  by_cases hw : L.2.bad = true ∨ L.2.rest ≠ []
  · rw [whole_no hw]
    go_enter Tryd.func25, Tryd.ntmps25
    go_wp2_with fail
    refine kg.mono ?_
    rintro e w1 ⟨v, rfl, ho, hr, q⟩
    obtain ⟨f1, f2, f3⟩ := fin w1 v ho q
    clear fin kg ho q
    obtain ⟨ao, n, c, rfl⟩ := own_slice f1
    have kw := wholeOp_no w1 w.heap.size w.heap.size L.2 ao n c hr hw
    go_wp2_with fail
    refine kw.mono ?_
    rintro e w2 ⟨rfl, rfl⟩
    clear kw
    go_wp2
    go_ret2
    exact ⟨_, rfl, World.ownsRow_nil _ _ _ _, f2⟩
  · rw [whole_yes hw]
    go_enter Tryd.func25, Tryd.ntmps25
    go_wp2_with fail
    refine kg.mono ?_
    rintro e w1 ⟨v, rfl, ho, hr, q⟩
    obtain ⟨f1, f2, f3⟩ := fin w1 v ho q
    clear fin kg ho q
    obtain ⟨ao, n, c, rfl⟩ := own_slice f1
    have kw := wholeOp_yes w1 w.heap.size w.heap.size L.2 ao n c hr hw
    go_wp2_with fail
    refine kw.mono ?_
    rintro e w2 ⟨rfl, rfl⟩
    clear kw
    go_wp2
    go_ret2
    exact ⟨_, rfl, f1, f2⟩

end Go.Proofs.YtcgecdiaddcfkaaDoor
