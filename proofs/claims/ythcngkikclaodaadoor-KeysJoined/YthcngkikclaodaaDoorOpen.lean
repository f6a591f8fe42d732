/- How arguments are opened: arrays of texts; what the form's reach says of them; the listed table. -/
import Derived.Test.YthcngkikclaodaaDoorRows
import Derived.WalkKit
import Derived.ProofKit
import Derived.OpenShut
import Derived.ShutString
import Derived.ChangeOld
import Derived.Below
import Derived.SizedLaws
import Derived.LaidMore
import Derived.Stop.Joined
import Derived.Stop.LaidErr
import Derived.MakeChecks
import Derived.Lib.LaidTab
import Derived.Lib.ItoaNum
set_option linter.unusedSimpArgs false
set_option linter.unusedVariables false
namespace Go.Proofs.YthcngkikclaodaaDoor
open Go.ChangeShapes Go.WideShapes Go.ChangeAt Go.RowKit

section
variable {H : Type} {enc : TypeId × Value → H} {P : Program} {w : World} {base : Nat} {sp : Nat → Bool} {held : Bool} {t e : TypeId}

theorem okWide_array {n : Nat} {r : Reach} {b0 : Nat} {v : Value} (ht : P.underlying t = some (.array n e)) (h : Value.okWide P w r b0 t v) : ∃ cs, v = .agg cs ∧ cs.size = P.cellsOf t := by
  simp only [Value.okWide, ht] at h
  obtain ⟨cs, h1, h2, _⟩ := h
  exact ⟨cs, h1, h2⟩

theorem array_2 {xs : Array Value} (h : xs.size = 2) : ∃ a b, xs = #[a, b] := by
  rcases xs with ⟨l⟩
  match l, h with
  | [a, b], _ => exact ⟨a, b, rfl⟩
theorem array_3 {xs : Array Value} (h : xs.size = 3) : ∃ a b c, xs = #[a, b, c] := by
  rcases xs with ⟨l⟩
  match l, h with
  | [a, b, c], _ => exact ⟨a, b, c, rfl⟩

theorem open_texts2 {r : Reach} {b0 : Nat} {v : Value} {d : DataW H} {p : List MemPlace} (ht : P.underlying t = some (.array 2 e)) (he : P.underlying e = some .string) (hce : P.cellsOf e = 1) (hC : P.cellsOf t = 2)
    (hv : Value.okWide P w r b0 t v) (h : DataW.Trod enc P w base sp held t v d p) :
    ∃ s0 s1 : ByteArray, v = .agg #[.string s0, .string s1] ∧ d = .agg [.lit (.string s0.data.toList), .lit (.string s1.data.toList)] ∧ p = [] := by
  obtain ⟨cs, rfl, hsz⟩ := okWide_array ht hv
  obtain ⟨c0, c1, rfl⟩ := array_2 (hsz.trans hC)
  obtain ⟨fuel, hf⟩ := h
  obtain ⟨xs, m, _, hx, _, hn, hall⟩ := DataW.trod_array ht hf
  match xs, hn, hx, hall with
  | [x0, x1], _, hx, hall =>
    have a0 := hall 0 (by omega)
    have a1 := hall 1 (by omega)
    simp [Value.cells, hce] at a0 a1
    obtain ⟨s0, e0, y0, _⟩ := DataW.trod_string he a0
    obtain ⟨s1, e1, y1, _⟩ := DataW.trod_string he a1
    simp at e0 e1
    subst e0 e1 y0 y1
    simp at hx
    exact ⟨s0, s1, rfl, hx.1, hx.2⟩

theorem open_texts3 {r : Reach} {b0 : Nat} {v : Value} {d : DataW H} {p : List MemPlace} (ht : P.underlying t = some (.array 3 e)) (he : P.underlying e = some .string) (hce : P.cellsOf e = 1) (hC : P.cellsOf t = 3)
    (hv : Value.okWide P w r b0 t v) (h : DataW.Trod enc P w base sp held t v d p) :
    ∃ s0 s1 s2 : ByteArray, v = .agg #[.string s0, .string s1, .string s2] ∧ d = .agg [.lit (.string s0.data.toList), .lit (.string s1.data.toList), .lit (.string s2.data.toList)] ∧ p = [] := by
  obtain ⟨cs, rfl, hsz⟩ := okWide_array ht hv
  obtain ⟨c0, c1, c2, rfl⟩ := array_3 (hsz.trans hC)
  obtain ⟨fuel, hf⟩ := h
  obtain ⟨xs, m, _, hx, _, hn, hall⟩ := DataW.trod_array ht hf
  match xs, hn, hx, hall with
  | [x0, x1, x2], _, hx, hall =>
    have a0 := hall 0 (by omega)
    have a1 := hall 1 (by omega)
    have a2 := hall 2 (by omega)
    simp [Value.cells, hce] at a0 a1 a2
    obtain ⟨s0, e0, y0, _⟩ := DataW.trod_string he a0
    obtain ⟨s1, e1, y1, _⟩ := DataW.trod_string he a1
    obtain ⟨s2, e2, y2, _⟩ := DataW.trod_string he a2
    simp at e0 e1 e2
    subst e0 e1 e2 y0 y1 y2
    simp at hx
    exact ⟨s0, s1, s2, rfl, hx.1, hx.2⟩

theorem sized_text {ts : List TypeId} {ds : List (DataW H)} (h : (DataW.weightsEach P ts ds).all (· ≤ reachBytes) = true) {j : Nat} {s : ByteArray} (ht : ts[j]? = some t) (hd : ds[j]? = some (.lit (.string s.data.toList))) : s.size ≤ 140737488351232 := by
  have := sized_string h ht hd
  simpa [reachBytes] using this
theorem sized_part {ts : List TypeId} {ds : List (DataW H)} (h : (DataW.weightsEach P ts ds).all (· ≤ reachBytes) = true) {j n : Nat} {parts : List (DataW H)} {s : ByteArray} (ht : ts[j]? = some t) (hd : ds[j]? = some (.agg parts))
    (hu : P.underlying t = some (.array n e)) (hm : DataW.lit (.string s.data.toList) ∈ parts) : s.size ≤ 140737488351232 := by
  have key : ∀ l : List (DataW H), DataW.lit (.string s.data.toList) ∈ l → s.data.toList.length ∈ DataW.weightsAll P e l := by
    intro l
    induction l with
    | nil => intro h; cases h
    | cons x r ih =>
      intro h
      simp only [DataW.weightsAll, List.mem_append]
      rcases List.mem_cons.mp h with h | h
      · subst h; exact Or.inl (by simp [DataW.weights])
      · exact Or.inr (ih h)
  have := List.all_eq_true.1 h _ (DataW.weights_mem_each ht hd s.data.toList.length (by simp only [DataW.weights, hu]; exact key parts hm))
  have := of_decide_eq_true this
  simpa [reachBytes] using this
end

theorem own : ownKnob Tryd.prog.godebug = none := by kernel_rfl
theorem laidOut : laidOutB Tryd.prog = true := by kernel_rfl
end Go.Proofs.YthcngkikclaodaaDoor
