/- How argument lists are opened, with what the form's reach says of their parts; nothing of one package. -/
import Derived.Test.YtboinccdnaddmaaGreatDoorGOpen
set_option linter.unusedSimpArgs false
set_option linter.unusedVariables false
namespace Go.Proofs.YtboinccdnaddmaaGreatDoor
open Go.ChangeShapes Go.WideShapes Go.ChangeAt Go.RowKit Go.Deep

section
variable {H : Type} {enc : TypeId × Value → H} {W : World} {base : Nat} {sp : Nat → Bool} {held : Bool}
theorem weights_allG {P : Program} {e : TypeId} : ∀ {l : List (DataW H)} {d : DataW H}, d ∈ l → ∀ n ∈ d.weights P e, n ∈ DataW.weightsAll P e l
  | x :: r, d, h, n, hn => by
    simp only [DataW.weightsAll, List.mem_append]
    rcases List.mem_cons.mp h with rfl | h
    · exact .inl hn
    · exact .inr (weights_allG h n hn)
theorem open_listS {α : Type} [Inhabited α] {P : Program} {f : α → List Value} {sm : α → Prop} {size : Nat} {t e : TypeId} {fuel : Nat} {v : Value} {x : DataW H × List MemPlace} (ht : P.underlying t = some (.slice e)) (hc : P.cellsOf e = size) (h0 : 0 < size) (hf : ∀ a, (f a).length = size)
    (hel : ∀ n cs x, DataW.trod enc P W base sp held n e cs = some x → Light P e x.1 → cs.length = size → ∃ a : α, cs = f a ∧ sm a) (h : DataW.trod enc P W base sp held fuel t [v] = some x) (hw : Light P t x.1) : ∃ l : List α, SlAt size f W W.heap.size v l ∧ ∀ a ∈ l, sm a := by
  rcases open_slice ht h with ⟨h1, _⟩ | ⟨a, len, cap, m, n, D, Pl, h1, hb, hl, hm, hmm, hD, hx⟩
  · have hv : v = .slice none 0 0 := by simpa using h1
    subst hv
    exact ⟨[], ⟨none, 0, rfl, Nat.le_refl _, Nat.zero_le _, fun hp => by simp at hp⟩, fun a ha => by cases ha⟩
  · have hv : v = .slice (some a) len cap := by simpa using h1
    subst hv
    have hlm : len ≤ m := by rw [hmm]; split <;> omega
    have each : ∀ i, i < len → ∃ q : α, W.cells? base (a.add (i * size)) size = some (f q) ∧ sm q := fun i hi => by
      obtain ⟨cs', g1, g2⟩ := hx i (by omega)
      rw [hc] at g1
      obtain ⟨q, rfl, hq⟩ := hel n cs' _ g2 (fun k hk => hw k (by
        rw [hD]
        simp only [DataW.weights, ht, List.mem_cons, List.mem_append]
        exact .inr (.inl (weights_allG (List.mem_map.mpr ⟨i, by simpa using hi, rfl⟩) k hk)))) (World.cells?_some g1).2.1
      exact ⟨q, g1, hq⟩
    obtain ⟨q, hq⟩ := choose_lt each
    refine ⟨(List.range len).map q, ⟨some a, cap, by simp, by simpa using hl, hm, fun hp => ?_⟩, fun y hy => ?_⟩
    · have hp' : 0 < len := by simpa using hp
      have c0 := (World.cells?_some (hq 0 hp').1).2.2 0 h0
      rw [add_add] at c0
      simp only [Nat.zero_mul, Nat.add_zero, Addr.add, if_true] at c0
      have hsome : ∃ u, W.cell? a = some u := ⟨(f (q 0))[0]'(by rw [hf]; exact h0), by rw [c0]; simp⟩
      obtain ⟨u, hu⟩ := hsome
      obtain ⟨b, off, spot⟩ := a
      have hspot : spot = none := by
        cases spot with
        | none => rfl
        | some s => simp [World.cell?] at hu; split at hu <;> simp_all
      subst hspot
      refine ⟨b, off, rfl, World.block_lt_of_cell? W _ hu, fun i hi j u hu => ?_⟩
      have hi' : i < len := by simpa using hi
      have hj : j < size := by
        rcases Nat.lt_or_ge j size with h' | h'
        · exact h'
        · rw [List.getElem?_eq_none (by rw [hf]; exact h')] at hu; cases hu
      have cj := (World.cells?_some (hq i hi').1).2.2 j hj
      rw [add_add, Addr.add_lit] at cj
      rw [Nat.add_assoc, cj]
      simpa using hu
    · obtain ⟨i, hi, rfl⟩ := List.mem_map.mp hy
      exact (hq i (by simpa using hi)).2
theorem light_part {P : Program} {t : TypeId} {fs : Array Field} {ds : List (DataW H)} (ht : P.underlying t = some (.struct fs)) (hw : Light P t (.agg ds)) {j : Nat} {u : TypeId} {d : DataW H} (h1 : (fs.toList.map (·.type))[j]? = some u) (h2 : ds[j]? = some d) : Light P u d := fun k hk =>
  hw k (by simp only [DataW.weights, ht]; exact DataW.weights_mem_each h1 h2 k hk)
end
end Go.Proofs.YtboinccdnaddmaaGreatDoor
