/- Lists of numbers of 16 bits. -/
import Derived.Test.YtjaidhglemnakaaGOpen
set_option linter.unusedSimpArgs false
set_option linter.unusedVariables false
namespace Go.Proofs.Ytjaidhglemnakaa
open Go.ChangeShapes Go.WideShapes Go.ChangeAt Go.RowKit Go.Deep

def wCell (c : UInt16) : List Value := [.int .u16 (c.toNat : Int)]
abbrev In16 (w : World) (lim : Nat) (v : Value) (l : List UInt16) : Prop := SlAt 1 wCell w lim v l
theorem in16_cell {w : World} {lim : Nat} {ao : Option Addr} {n c : Nat} {l : List UInt16} (h : In16 w lim (.slice ao n c) l) {j : Nat} (hj : j < l.length) : ∃ b o, ao = some ⟨b, o, none⟩ ∧ b < lim ∧ ∀ i (hi : i < l.length), w.cell? ⟨b, o + i, none⟩ = some (.int .u16 ((l[i]'hi).toNat : Int)) := by
  obtain ⟨ao', c', e, h1, h2, h3⟩ := h
  cases e
  obtain ⟨b, o, rfl, hb, hc⟩ := h3 (by omega)
  refine ⟨b, o, rfl, hb, fun i hi => ?_⟩
  have := hc i hi 0 _ rfl
  rw [Nat.mul_one, Nat.add_zero] at this
  exact this
theorem in16_take {w : World} {lim cap n : Nat} {ao : Option Addr} {l : List UInt16} (h : In16 w lim (.slice ao l.length cap) l) (hn : n ≤ l.length) : In16 w lim (.slice ao n cap) (l.take n) := by
  obtain ⟨ao', cap', hv, h1, h2, h3⟩ := h
  simp only [Value.slice.injEq, true_and] at hv
  obtain ⟨rfl, rfl⟩ := hv
  have hl : (l.take n).length = n := by simp; omega
  refine ⟨ao, cap, by rw [hl], by omega, h2, fun hp => ?_⟩
  obtain ⟨b, off, e, hb, hc⟩ := h3 (by omega)
  refine ⟨b, off, e, hb, fun i hi j u hu => hc i (by omega) j u ?_⟩
  rw [List.getElem_take] at hu; exact hu
section
variable {H : Type} {enc : TypeId × Value → H} {W : World} {base : Nat} {sp : Nat → Bool} {held : Bool}
theorem u16_of_wf {n : Int} (h : (Lit.int .u16 n).wf = true) : ∃ c : UInt16, n = (c.toNat : Int) := by
  have hb : 0 ≤ n ∧ n ≤ 65535 := by
    simp [Lit.wf, IntKind.min, IntKind.max, IntKind.signed, IntKind.bits] at h
    omega
  exact ⟨UInt16.ofNat n.toNat, by simp; omega⟩
set_option maxRecDepth 1000000 in
theorem el_u16 (n : Nat) (cs : List Value) (x : DataW H × List MemPlace) (h : DataW.trod enc Try.prog W base sp held n 57 cs = some x) (hl : cs.length = 1) : ∃ a : UInt16, cs = wCell a ∧ True := by
  obtain ⟨z, rfl, _, hw⟩ := DataW.trod_int Try.underlying57 h
  obtain ⟨c, rfl⟩ := u16_of_wf hw
  exact ⟨c, rfl, trivial⟩
set_option maxRecDepth 1000000 in
theorem arg_u16s {r : Reach} {b0 : Nat} {v : Value} {d : DataW H} {p : List MemPlace} (hv : Value.okWide Try.prog W r b0 56 v) (h : DataW.Trod enc Try.prog W base sp held 56 v d p) : ∃ l : List UInt16, In16 W W.heap.size v l := by
  obtain ⟨fuel, hf⟩ := arg_slice Try.underlying56 hv h
  obtain ⟨l, h1, -⟩ := @open_list _ enc W base sp held UInt16 ⟨0⟩ _ wCell (fun _ => True) 1 _ _ _ _ _ Try.underlying56 (by kernel_rfl) (by omega) (fun _ => rfl) el_u16 hf
  exact ⟨l, h1⟩
end
end Go.Proofs.Ytjaidhglemnakaa
