/- A list that can be read, as what is appended. -/
import Derived.Test.YtboinccdnaddmaaGreatDoorGSep
import Derived.Test.YtboinccdnaddmaaGreatDoorGSteps
set_option linter.unusedSimpArgs false
set_option linter.unusedVariables false
namespace Go.Proofs.YtboinccdnaddmaaGreatDoor
open Go.RowKit

/-- A list that can be read, as what is appended. -/
theorem src_sl {α : Type} {f : α → List Value} {size : Nat} (hs : 0 < size) (hf : ∀ x, (f x).length = size) {l : List α} (h1 : ∀ x ∈ l, ∀ u ∈ f x, u.oneCell' = true) {t e : TypeId} (ht : Tryz.prog.underlying t = some (.slice e)) {w : World} {lim : Nat} {v : Value} (h : SlAt size f w lim v l) : Src Tryz.prog size t v l.length (l.flatMap f) w := by
  obtain ⟨ao, cap, rfl, h2, h3, h4⟩ := h
  have hlen : (l.flatMap f).length = l.length * size := by
    clear h2 h4 h1
    induction l with
    | nil => simp
    | cons x l ih => rw [List.flatMap_cons, List.length_append, ih, hf, List.length_cons, Nat.succ_mul]; omega
  have hone : ∀ u ∈ l.flatMap f, u.oneCell' = true := fun u hu => by
    obtain ⟨x, hm, hx⟩ := List.mem_flatMap.1 hu
    exact h1 x hm u hx
  by_cases hp : 0 < l.length
  · obtain ⟨b, off, rfl, hb, hc⟩ := h4 hp
    refine Src.ofSlice w ht _ _ _ _ hlen (fun j u hu => ?_) hone
    rw [Addr.add_lit]
    have hj : j < l.length * size := by
      rw [← hlen]
      rcases Nat.lt_or_ge j (l.flatMap f).length with h' | h'
      · exact h'
      · rw [List.getElem?_eq_none h'] at hu; cases hu
    have hi : j / size < l.length := Nat.div_lt_of_lt_mul (by rw [Nat.mul_comm]; exact hj)
    have hm : j % size < size := Nat.mod_lt _ hs
    have ej : j / size * size + j % size = j := by rw [Nat.mul_comm]; exact Nat.div_add_mod j size
    have := hc (j / size) hi (j % size) u (by rw [← hu, ← flat_get hf l (j / size) hi (j % size) hm, ej])
    rw [Nat.add_assoc, ej] at this
    exact this
  · obtain rfl : l = [] := List.eq_nil_of_length_eq_zero (by omega)
    cases ao with
    | none => exact Src.ofNil w ht cap
    | some a => exact Src.ofSlice w ht a 0 cap [] (by simp) (fun j u hu => by simp at hu) (fun u hu => by cases hu)

end Go.Proofs.YtboinccdnaddmaaGreatDoor
