import Derived.Test.YtcgecdiaddcfkaaGreatDoorROpenM
import Derived.Test.YtcgecdiaddcfkaaGreatDoorM21
import Derived.Test.YtcgecdiaddcfkaaGreatDoorRKatM
/- How argument lists are opened, with what the form's reach says of their texts. -/
set_option linter.unusedSimpArgs false
set_option linter.unusedVariables false
namespace Go.Proofs.YtcgecdiaddcfkaaGreatDoor
open Go.ChangeShapes Go.WideShapes Go.ChangeAt Go.RowKit Go.Deep

section
variable {H : Type} {enc : TypeId × Value → H} {W : World} {base : Nat} {sp : Nat → Bool} {held : Bool}

/-- No part of it weighs more than the reach. -/
abbrev Light (P : Program) (t : TypeId) (d : DataW H) : Prop := ∀ k ∈ d.weights P t, k ≤ 140737488351232

theorem open_listS {α : Type} [Inhabited α] {P : Program} {f : α → List Value} {sm : α → Prop} {size : Nat} {t e : TypeId} {fuel : Nat} {v : Value} {x : DataW H × List MemPlace} (ht : P.underlying t = some (.slice e)) (hc : P.cellsOf e = size) (h0 : 0 < size) (hf : ∀ a, (f a).length = size)
    (hel : ∀ n cs x, DataW.trod enc P W base sp held n e cs = some x → Light P e x.1 → cs.length = size → ∃ a : α, cs = f a ∧ sm a) (h : DataW.trod enc P W base sp held fuel t [v] = some x) (hw : Light P t x.1) : ∃ l : List α, SlAt size f W W.heap.size v l ∧ ∀ a ∈ l, sm a := by
  rcases open_slice ht h with ⟨h1, _⟩ | ⟨a, len, cap, m, n, D, Pl, h1, hb, hl, hm, hmm, hD, hx⟩
  · have hv : v = .slice none 0 0 := by simpa using h1
    subst hv
    exact ⟨[], ⟨none, 0, rfl, Nat.le_refl _, Nat.zero_le _, fun hp => by simp at hp⟩, fun a ha => by cases ha⟩
  · have hv : v = .slice (some a) len cap := by simpa using h1
    subst hv
    have hlm : len ≤ m := by rw [hmm]; split <;> omega
    have each : ∀ i, i < len → ∃ q : α, W.cells? base (a.add (i * size)) size = some (f q) ∧ sm q := fun i hi => by
      obtain ⟨cs', g1, g2⟩ := hx i (by omega)
      rw [hc] at g1
      obtain ⟨q, rfl, hq⟩ := hel n cs' _ g2 (fun k hk => hw k (by
        rw [hD]
        simp only [DataW.weights, ht, List.mem_cons, List.mem_append]
        exact .inr (.inl (weights_all (List.mem_map.mpr ⟨i, by simpa using hi, rfl⟩) k hk)))) (World.cells?_some g1).2.1
      exact ⟨q, g1, hq⟩
    obtain ⟨q, hq⟩ := choose_lt each
    refine ⟨(List.range len).map q, ⟨some a, cap, by simp, by simpa using hl, hm, fun hp => ?_⟩, fun y hy => ?_⟩
    · have hp' : 0 < len := by simpa using hp
      have c0 := (World.cells?_some (hq 0 hp').1).2.2 0 h0
      rw [add_add] at c0
      simp only [Nat.zero_mul, Nat.add_zero, Addr.add, if_true] at c0
      have hsome : ∃ u, W.cell? a = some u := ⟨(f (q 0))[0]'(by rw [hf]; exact h0), by rw [c0]; simp⟩
      obtain ⟨u, hu⟩ := hsome
      obtain ⟨b, off, spot⟩ := a
      have hspot : spot = none := by
        cases spot with
        | none => rfl
        | some s => simp [World.cell?] at hu; split at hu <;> simp_all
      subst hspot
      refine ⟨b, off, rfl, World.block_lt_of_cell? W _ hu, fun i hi j u hu => ?_⟩
      have hi' : i < len := by simpa using hi
      have hj : j < size := by
        rcases Nat.lt_or_ge j size with h' | h'
        · exact h'
        · rw [List.getElem?_eq_none (by rw [hf]; exact h')] at hu; cases hu
      have cj := (World.cells?_some (hq i hi').1).2.2 j hj
      rw [add_add, Addr.add_lit] at cj
      rw [Nat.add_assoc, cj]
      simpa using hu
    · obtain ⟨i, hi, rfl⟩ := List.mem_map.mp hy
      exact (hq i (by simpa using hi)).2

theorem light_part {P : Program} {t : TypeId} {fs : Array Field} {ds : List (DataW H)} (ht : P.underlying t = some (.struct fs)) (hw : Light P t (.agg ds)) {j : Nat} {u : TypeId} {d : DataW H} (h1 : (fs.toList.map (·.type))[j]? = some u) (h2 : ds[j]? = some d) : Light P u d := fun k hk =>
  hw k (by simp only [DataW.weights, ht]; exact DataW.weights_mem_each h1 h2 k hk)
theorem light_text {P : Program} {t : TypeId} {s : ByteArray} (hw : Light P t (.lit (.string s.data.toList) : DataW H)) : s.size ≤ 140737488351232 := hw s.size (by simp only [DataW.weights]; exact List.mem_singleton.mpr rfl)

set_option maxRecDepth 1000000 in
theorem el_opS (n : Nat) (cs : List Value) (x : DataW H × List MemPlace) (h : DataW.trod enc Tryz.prog W base sp held n 85 cs = some x) (hw : Light Tryz.prog 85 x.1) (hl : cs.length = 4) : ∃ a : OpD, cs = opCells a ∧ opSz a := by
  obtain ⟨xs, k, _, rfl, _, hxl, hf⟩ := DataW.trod_struct Tryz.underlying85 h
  match xs, hxl, cs, hl with
  | [y0, y1, y2, y3], _, [v0, v1, v2, v3], _ =>
    have g0 := hf 0 _ rfl
    have g1 := hf 1 _ rfl
    have g2 := hf 2 _ rfl
    have g3 := hf 3 _ rfl
    simp only [show Tryz.prog.cellsOf 83 = 1 by kernel_rfl, show Tryz.prog.cellsOf 9 = 1 by kernel_rfl, show Tryz.prog.cellsOf 23 = 1 by kernel_rfl, List.drop_succ_cons, List.drop_zero, List.take_succ_cons, List.take_zero, List.getElem?_cons_succ, List.getElem?_cons_zero] at g0 g1 g2 g3
    obtain ⟨z0, e0, _, hw0⟩ := DataW.trod_int Tryz.underlying83 g0
    obtain ⟨s1, e1, x1, hw1⟩ := DataW.trod_string Tryz.underlying9 g1
    obtain ⟨s2, e2, x2, hw2⟩ := DataW.trod_string Tryz.underlying9 g2
    obtain ⟨z3, e3, _, hw3⟩ := DataW.trod_int Tryz.underlying23 g3
    obtain ⟨c0, rfl⟩ := u8_of_wf hw0
    obtain ⟨c3, rfl⟩ := u32_of_wf hw3
    cases e0
    cases e1
    cases e2
    cases e3
    subst x1
    subst x2
    exact ⟨⟨c0, s1, s2, c3⟩, rfl, light_text (light_part Tryz.underlying85 hw (j := 1) (u := 9) rfl rfl), light_text (light_part Tryz.underlying85 hw (j := 2) (u := 9) rfl rfl)⟩
set_option maxRecDepth 1000000 in
theorem el_chS (n : Nat) (cs : List Value) (x : DataW H × List MemPlace) (h : DataW.trod enc Tryz.prog W base sp held n 144 cs = some x) (hw : Light Tryz.prog 144 x.1) (hl : cs.length = 3) : ∃ a : ChD, cs = chCells a ∧ chSz a := by
  obtain ⟨xs, k, _, rfl, _, hxl, hf⟩ := DataW.trod_struct Tryz.underlying144 h
  match xs, hxl, cs, hl with
  | [y0, y1, y2], _, [v0, v1, v2], _ =>
    have g0 := hf 0 _ rfl
    have g1 := hf 1 _ rfl
    have g2 := hf 2 _ rfl
    simp only [show Tryz.prog.cellsOf 4 = 1 by kernel_rfl, show Tryz.prog.cellsOf 9 = 1 by kernel_rfl, show Tryz.prog.cellsOf 23 = 1 by kernel_rfl, List.drop_succ_cons, List.drop_zero, List.take_succ_cons, List.take_zero, List.getElem?_cons_succ, List.getElem?_cons_zero] at g0 g1 g2
    obtain ⟨s0, e0, x0, hw0⟩ := DataW.trod_string Tryz.underlying9 g0
    obtain ⟨z1, e1, _, hw1⟩ := DataW.trod_int Tryz.underlying23 g1
    obtain ⟨b2, e2, _⟩ := DataW.trod_bool Tryz.underlying4 g2
    obtain ⟨c1, rfl⟩ := u32_of_wf hw1
    cases e0
    cases e1
    cases e2
    subst x0
    exact ⟨⟨s0, c1, b2⟩, rfl, light_text (light_part Tryz.underlying144 hw (j := 0) (u := 9) rfl rfl)⟩
set_option maxRecDepth 1000000 in
theorem arg_opsS {r : Reach} {b0 : Nat} {v : Value} {d : DataW H} {p : List MemPlace} (hv : Value.okWide Tryz.prog W r b0 24 v) (h : DataW.Trod enc Tryz.prog W base sp held 24 v d p) (hw : Light Tryz.prog 24 d) : ∃ l : List OpD, SlAt 4 opCells W W.heap.size v l ∧ ∀ x ∈ l, opSz x := by
  obtain ⟨fuel, hf⟩ := arg_slice Tryz.underlying24 hv h
  exact @open_listS _ enc W base sp held OpD ⟨⟨0, ByteArray.empty, ByteArray.empty, 0⟩⟩ _ opCells opSz 4 _ _ _ _ _ Tryz.underlying24 (by kernel_rfl) (by omega) (fun _ => rfl) el_opS hf hw
set_option maxRecDepth 1000000 in
theorem arg_chsS {r : Reach} {b0 : Nat} {v : Value} {d : DataW H} {p : List MemPlace} (hv : Value.okWide Tryz.prog W r b0 140 v) (h : DataW.Trod enc Tryz.prog W base sp held 140 v d p) (hw : Light Tryz.prog 140 d) : ∃ l : List ChD, SlAt 3 chCells W W.heap.size v l ∧ ∀ x ∈ l, chSz x := by
  obtain ⟨fuel, hf⟩ := arg_slice Tryz.underlying140 hv h
  exact @open_listS _ enc W base sp held ChD ⟨⟨ByteArray.empty, 0, false⟩⟩ _ chCells chSz 3 _ _ _ _ _ Tryz.underlying140 (by kernel_rfl) (by omega) (fun _ => rfl) el_chS hf hw
theorem light_arg {P : Program} {ts : List TypeId} {ds : List (DataW H)} (h : (DataW.weightsEach P ts ds).all (· ≤ reachBytes) = true) {j : Nat} {t : TypeId} {d : DataW H} (h1 : ts[j]? = some t) (h2 : ds[j]? = some d) : Light P t d := fun k hk => by
  have := List.all_eq_true.1 h _ (DataW.weights_mem_each h1 h2 k hk)
  exact of_decide_eq_true this
end
end Go.Proofs.YtcgecdiaddcfkaaGreatDoor
