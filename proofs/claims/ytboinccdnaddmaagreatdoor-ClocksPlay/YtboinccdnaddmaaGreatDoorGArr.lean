/- How arrays by value are opened: bytes, yes or no. -/
import Derived.Test.YtboinccdnaddmaaGreatDoorGOpen
set_option linter.unusedSimpArgs false
set_option linter.unusedVariables false
namespace Go.Proofs.YtboinccdnaddmaaGreatDoor
open Go.ChangeShapes Go.WideShapes Go.ChangeAt Go.RowKit Go.Deep

section
variable {H : Type} {enc : TypeId × Value → H} {W : World} {base : Nat} {sp : Nat → Bool} {held : Bool}
theorem open_arr {α : Type} [Inhabited α] {P : Program} {f : α → Value} {t e : TypeId} {n : Nat} (ht : P.underlying t = some (.array n e)) (hce : P.cellsOf e = 1) (hC : P.cellsOf t = n)
    (hel : ∀ m c x, DataW.trod enc P W base sp held m e [c] = some x → ∃ a : α, c = f a) {r : Reach} {b0 : Nat} {v : Value} {d : DataW H} {p : List MemPlace}
    (hv : Value.okWide P W r b0 t v) (h : DataW.Trod enc P W base sp held t v d p) : ∃ l : List α, l.length = n ∧ v = .agg (l.map f).toArray := by
  simp only [Value.okWide, ht] at hv
  obtain ⟨cs, rfl, hsz, -⟩ := hv
  rw [hC] at hsz
  obtain ⟨fuel, hf⟩ := h
  obtain ⟨xs, m, _, _, _, hn, hall⟩ := DataW.trod_array ht hf
  have each : ∀ i, i < n → ∃ q : α, cs[i]? = some (f q) := fun i hi => by
    have a0 := hall i hi
    rw [hce, Nat.mul_one] at a0
    have hx : xs[i]? = some (xs[i]'(by omega)) := List.getElem?_eq_getElem (by omega)
    rw [hx] at a0
    have hd : (Value.agg cs).cells.toList.drop i = cs[i] :: (Value.agg cs).cells.toList.drop (i + 1) := by
      have : (Value.agg cs).cells = cs := rfl
      rw [this, List.drop_eq_getElem_cons (by simp; omega)]
      simp
    rw [hd] at a0
    simp only [List.take_succ_cons, List.take_zero] at a0
    obtain ⟨q, hq⟩ := hel _ _ _ a0
    exact ⟨q, by rw [← hq]; exact Array.getElem?_eq_getElem (by omega)⟩
  obtain ⟨q, hq⟩ := choose_lt each
  refine ⟨(List.range n).map q, by simp, ?_⟩
  congr 1
  apply Array.ext_getElem?
  intro i
  by_cases hi : i < n
  · rw [hq i hi]
    simp [hi]
  · rw [Array.getElem?_eq_none (by omega), List.getElem?_toArray, List.getElem?_eq_none (by simp; omega)]
theorem el_b1 (m : Nat) (c : Value) (x : DataW H × List MemPlace) (h : DataW.trod enc Tryz.prog W base sp held m 5 [c] = some x) : ∃ a : UInt8, c = bv a := by
  obtain ⟨z, e, _, hw⟩ := DataW.trod_int Tryz.underlying5 h
  obtain ⟨u, rfl⟩ := u8_of_wf hw
  cases e
  exact ⟨u, rfl⟩
end
end Go.Proofs.YtboinccdnaddmaaGreatDoor
