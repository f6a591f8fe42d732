/- How arguments are opened: lists, lists of bytes. -/
import Derived.Test.YtboinccdnaddmaaGreatDoorGBase
import Derived.Deep.Slices
import Derived.ProofKit
import Derived.OpenShut
import Derived.ChangeOld
import Derived.Below
import Derived.SizedLaws
set_option linter.unusedSimpArgs false
set_option linter.unusedVariables false
namespace Go.Proofs.YtboinccdnaddmaaGreatDoor
open Go.ChangeShapes Go.WideShapes Go.ChangeAt Go.RowKit Go.Deep

theorem own : ownKnob Tryz.prog.godebug = none := by kernel_rfl
theorem laidOut : laidOutB Tryz.prog = true := by kernel_rfl

section
variable {H : Type} {enc : TypeId × Value → H} {W : World} {base : Nat} {sp : Nat → Bool} {held : Bool}

theorem u8_of_wf {n : Int} (h : (Lit.int .u8 n).wf = true) : ∃ c : UInt8, n = (c.toNat : Int) := by
  have hb := bounds_u8 h
  exact ⟨UInt8.ofNat n.toNat, by rw [u8_nat (by omega)]; omega⟩
theorem u32_of_wf {n : Int} (h : (Lit.int .u32 n).wf = true) : ∃ c : UInt32, n = (c.toNat : Int) := by
  have hb := bounds_u32 h
  exact ⟨UInt32.ofNat n.toNat, by rw [u32_nat (by omega)]; omega⟩

theorem open_list {α : Type} [Inhabited α] {P : Program} {f : α → List Value} {sm : α → Prop} {size : Nat} {t e : TypeId} {fuel : Nat} {v : Value} {x : DataW H × List MemPlace} (ht : P.underlying t = some (.slice e)) (hc : P.cellsOf e = size) (h0 : 0 < size) (hf : ∀ a, (f a).length = size)
    (hel : ∀ n cs x, DataW.trod enc P W base sp held n e cs = some x → cs.length = size → ∃ a : α, cs = f a ∧ sm a) (h : DataW.trod enc P W base sp held fuel t [v] = some x) : ∃ l : List α, SlAt size f W W.heap.size v l ∧ ∀ a ∈ l, sm a := by
  rcases open_slice ht h with ⟨h1, _⟩ | ⟨a, len, cap, m, n, D, Pl, h1, hb, hl, hm, hmm, _, hx⟩
  · have hv : v = .slice none 0 0 := by simpa using h1
    subst hv
    exact ⟨[], ⟨none, 0, rfl, Nat.le_refl _, Nat.zero_le _, fun hp => by simp at hp⟩, fun a ha => by cases ha⟩
  · have hv : v = .slice (some a) len cap := by simpa using h1
    subst hv
    have hlm : len ≤ m := by rw [hmm]; split <;> omega
    have each : ∀ i, i < len → ∃ q : α, W.cells? base (a.add (i * size)) size = some (f q) ∧ sm q := fun i hi => by
      obtain ⟨cs', g1, g2⟩ := hx i (by omega)
      rw [hc] at g1
      obtain ⟨q, rfl, hq⟩ := hel n cs' _ g2 (World.cells?_some g1).2.1
      exact ⟨q, g1, hq⟩
    obtain ⟨q, hq⟩ := choose_lt each
    refine ⟨(List.range len).map q, ⟨some a, cap, by simp, by simpa using hl, hm, fun hp => ?_⟩, fun y hy => ?_⟩
    · have hp' : 0 < len := by simpa using hp
      have c0 := (World.cells?_some (hq 0 hp').1).2.2 0 h0
      rw [add_add] at c0
      simp only [Nat.zero_mul, Nat.add_zero, Addr.add, if_true] at c0
      have hsome : ∃ u, W.cell? a = some u := ⟨(f (q 0))[0]'(by rw [hf]; exact h0), by rw [c0]; simp⟩
      obtain ⟨u, hu⟩ := hsome
      obtain ⟨b, off, spot⟩ := a
      have hspot : spot = none := by
        cases spot with
        | none => rfl
        | some s => simp [World.cell?] at hu; split at hu <;> simp_all
      subst hspot
      refine ⟨b, off, rfl, World.block_lt_of_cell? W _ hu, fun i hi j u hu => ?_⟩
      have hi' : i < len := by simpa using hi
      have hj : j < size := by
        rcases Nat.lt_or_ge j size with h' | h'
        · exact h'
        · rw [List.getElem?_eq_none (by rw [hf]; exact h')] at hu; cases hu
      have cj := (World.cells?_some (hq i hi').1).2.2 j hj
      rw [add_add, Addr.add_lit] at cj
      rw [Nat.add_assoc, cj]
      simpa using hu
    · obtain ⟨i, hi, rfl⟩ := List.mem_map.mp hy
      exact (hq i (by simpa using hi)).2

set_option maxRecDepth 1000000 in
theorem el_u8 (n : Nat) (cs : List Value) (x : DataW H × List MemPlace) (h : DataW.trod enc Tryz.prog W base sp held n 5 cs = some x) (hl : cs.length = 1) : ∃ a : UInt8, cs = bCell a ∧ True := by
  obtain ⟨z, rfl, _, hw⟩ := DataW.trod_int Tryz.underlying5 h
  obtain ⟨c, rfl⟩ := u8_of_wf hw
  exact ⟨c, rfl, trivial⟩
set_option maxRecDepth 1000000 in
theorem arg_slice {P : Program} {r : Reach} {b0 : Nat} {t e : TypeId} {v : Value} {d : DataW H} {p : List MemPlace} (ht : P.underlying t = some (.slice e)) (hv : Value.okWide P W r b0 t v) (h : DataW.Trod enc P W base sp held t v d p) : ∃ fuel, DataW.trod enc P W base sp held fuel t [v] = some (d, p) := by
  obtain ⟨a, n, c, rfl⟩ := okWide_slice ht hv
  exact h
set_option maxRecDepth 1000000 in
theorem arg_bytes {r : Reach} {b0 : Nat} {v : Value} {d : DataW H} {p : List MemPlace} (hv : Value.okWide Tryz.prog W r b0 82 v) (h : DataW.Trod enc Tryz.prog W base sp held 82 v d p) : ∃ l : List UInt8, InAt W W.heap.size v l := by
  obtain ⟨fuel, hf⟩ := arg_slice Tryz.underlying82 hv h
  obtain ⟨l, h1, -⟩ := @open_list _ enc W base sp held UInt8 ⟨0⟩ _ bCell (fun _ => True) 1 _ _ _ _ _ Tryz.underlying82 (by kernel_rfl) (by omega) (fun _ => rfl) el_u8 hf
  exact ⟨l, h1⟩

/-- No part of it weighs more than the reach. -/
abbrev Light (P : Program) (t : TypeId) (d : DataW H) : Prop := ∀ k ∈ d.weights P t, k ≤ 140737488351232
theorem light_arg {P : Program} {ts : List TypeId} {ds : List (DataW H)} (h : (DataW.weightsEach P ts ds).all (· ≤ reachBytes) = true) {j : Nat} {t : TypeId} {d : DataW H} (h1 : ts[j]? = some t) (h2 : ds[j]? = some d) : Light P t d := fun k hk => by
  have := List.all_eq_true.1 h _ (DataW.weights_mem_each h1 h2 k hk)
  exact of_decide_eq_true this
theorem len_light {α : Type} {P : Program} {f : α → List Value} {size by_ lim : Nat} {t e : TypeId} {fuel : Nat} {v : Value} {l : List α} {x : DataW H × List MemPlace} (ht : P.underlying t = some (.slice e)) (hby : P.bytesOf e = by_) (h : DataW.trod enc P W base sp held fuel t [v] = some x) (hw : Light P t x.1) (hl : SlAt size f W lim v l) : l.length * by_ ≤ 140737488351232 := by
  obtain ⟨ao, c, hv, -⟩ := hl
  rcases open_slice ht h with ⟨h1, _⟩ | ⟨a, len, cap, m, n, D, Pl, h1, hb, hll, hm, hmm, hD, hx⟩
  · have hv' : v = .slice none 0 0 := by simpa using h1
    rw [hv'] at hv
    simp only [Value.slice.injEq] at hv
    rw [← hv.2.1]
    omega
  · have hv' : v = .slice (some a) len cap := by simpa using h1
    rw [hv'] at hv
    simp only [Value.slice.injEq] at hv
    have := hw ((len + (m - len)) * by_) (by
      rw [hD]
      simp only [DataW.weights, ht, List.mem_cons, List.length_map, List.length_range, hby]
      first | exact .inl trivial | exact .inl rfl)
    rw [← hv.2.1]
    exact Nat.le_trans (Nat.mul_le_mul_right _ (by omega)) this
set_option maxRecDepth 1000000 in
theorem arg_bytesS {r : Reach} {b0 : Nat} {v : Value} {d : DataW H} {p : List MemPlace} (hv : Value.okWide Tryz.prog W r b0 82 v) (h : DataW.Trod enc Tryz.prog W base sp held 82 v d p) (hw : Light Tryz.prog 82 d) : ∃ l : List UInt8, InAt W W.heap.size v l ∧ l.length ≤ 140737488351232 := by
  obtain ⟨l, hl⟩ := arg_bytes hv h
  obtain ⟨fuel, hf⟩ := arg_slice Tryz.underlying82 hv h
  have := len_light (by_ := 1) Tryz.underlying82 (by kernel_rfl) hf hw hl
  exact ⟨l, hl, by omega⟩
end
end Go.Proofs.YtboinccdnaddmaaGreatDoor
