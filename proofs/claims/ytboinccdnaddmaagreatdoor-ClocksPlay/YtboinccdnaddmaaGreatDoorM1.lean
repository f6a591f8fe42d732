/- Texts of this proof, laid into one. -/
import Derived.Test.YtboinccdnaddmaaGreatDoorCkHelp
/- The walk of alive. -/
set_option linter.unusedSimpArgs false
set_option linter.unusedVariables false
set_option maxRecDepth 1000000
namespace Go.Proofs.YtboinccdnaddmaaGreatDoor
open Go.RowKit Go.Maps

def aF1 : Nat → Option Nat := updF (updF (updF noneD 7 (some (0 + 2))) 5 (some (0 + 2))) 6 (some (0 + 1))
def aF2 : Nat → Option Nat := tickF aF1 (0 + 1)
def aF3 : Nat → Option Nat := tickF aF2 (0 + 1 + 1)
def aF4 : Nat → Option Nat := updF (updF aF3 1 (some (0 + 1 + 1 + 3))) 1 (some (0 + 1 + 1 + 1))
def aF5 : Nat → Option Nat := tickF aF4 (0 + 1 + 1 + 1)
theorem aF1_eq (x : Nat) : aF1 x = if x = 6 then some 1 else if x = 5 then some 2 else if x = 7 then some 2 else none := by
  unfold aF1 updF noneD; rfl
theorem aF2_eq (x : Nat) : aF2 x = if x = 5 then some 2 else if x = 7 then some 2 else none := by
  unfold aF2 tickF
  rw [aF1_eq]
  by_cases h6 : x = 6
  · subst h6; rfl
  · by_cases h5 : x = 5
    · subst h5; rfl
    · by_cases h7 : x = 7
      · subst h7; rfl
      · simp [h6, h5, h7]
theorem aF3_eq (x : Nat) : aF3 x = none := by
  unfold aF3 tickF
  rw [aF2_eq]
  by_cases h5 : x = 5
  · subst h5; rfl
  · by_cases h7 : x = 7
    · subst h7; rfl
    · simp [h5, h7]
theorem aF4_eq (x : Nat) : aF4 x = if x = 1 then some 3 else none := by
  unfold aF4 updF
  rw [aF3_eq]
  by_cases h : x = 1
  · subst h; rfl
  · simp [h]
theorem aF5_eq (x : Nat) : aF5 x = none := by
  unfold aF5 tickF
  rw [aF4_eq]
  by_cases h : x = 1
  · subst h; rfl
  · simp [h]
theorem told_is {ys zs : List Nat} {f : Nat → Option Nat} {t : Nat} (h1 : ys.Pairwise (· < ·)) (h2 : ∀ x, x ∈ ys ↔ f x = some t) (h3 : zs.Pairwise (· < ·)) (h4 : ∀ x, f x = some t ↔ x ∈ zs) : ys = zs :=
  asc_ext h1 h3 (fun x => (h2 x).trans (h4 x))
theorem lit_ids (w : World) (zs : List Nat) (h : zs.length ≤ 100) : IdsAt (w.alloc (.cells (zs.map u32V).toArray 43)) (.slice (some ⟨w.heap.size, 0, none⟩) zs.length zs.length) zs := by
  have := lit_own w 43 1 u32c_len zs (by unfold maxLen; omega) (by rw [flat_u32]; simp)
  have h2 := sl_own u32c_len this
  rw [flat_u32] at h2
  exact h2
end Go.Proofs.YtboinccdnaddmaaGreatDoor
/- What the laws' walks use. (mk_util.py) -/
set_option linter.unusedSimpArgs false
set_option linter.unusedVariables false
set_option maxRecDepth 1000000
namespace Go.Proofs.YtboinccdnaddmaaGreatDoor
open Go.RowKit Go.Maps

/-- A tick at which nobody is told. -/
theorem tickF_idle {f : Nat → Option Nat} {t : Nat} (h : ∀ x, f x ≠ some t) : tickF f t = f := funext fun j => if_neg (h j)
theorem nil_of {ys : List Nat} {f : Nat → Option Nat} {t : Nat} (h2 : ∀ x, x ∈ ys ↔ f x = some t) (h : ∀ x, f x ≠ some t) : ys = [] := by
  cases ys with
  | nil => rfl
  | cons y ys => exact absurd ((h2 y).1 (List.mem_cons_self ..)) (h y)
theorem nat_u32 {a : Int} (h : (Lit.int .u32 a).wf = true) : ∃ n : Nat, a = (n : Int) ∧ n < 4294967296 := by
  simp [Lit.wf, IntKind.min, IntKind.max, IntKind.signed, IntKind.bits] at h
  exact ⟨a.toNat, by omega, by omega⟩
theorem nat_u8 {a : Int} (h : (Lit.int .u8 a).wf = true) : ∃ c : UInt8, a = (c.toNat : Int) := by
  simp [Lit.wf, IntKind.min, IntKind.max, IntKind.signed, IntKind.bits] at h
  refine ⟨UInt8.ofNat a.toNat, ?_⟩
  have : (UInt8.ofNat a.toNat).toNat = a.toNat := by rw [UInt8.toNat_ofNat']; omega
  omega
/-- A row that was appended to, wherever it lies then. -/
theorem St.append2 {S0 : Nat → Prop} {w0 w w' : World} {L : List Part} {e : TypeId} {s n m : Nat} {v v' : Value} {xs ys : List Value} (h : St S0 w0 w (Part.row e s v n xs :: L)) (ho : w'.ownsRow 0 e s v' m ys) (hg : w.grownBy w' v.ownBlock) (hb : v'.ownBlock = v.ownBlock ∨ v'.ownBlock = some w.heap.size) :
    St S0 w0 w' (Part.row e s v' m ys :: L) := by
  refine h.step (P := [_]) (Q := [_]) (fun S hS => ?_)
  obtain ⟨h1, h2⟩ := parts_one.1 hS
  refine ⟨fun b => v'.ownBlock = some b, parts_one.2 ⟨ho, fun _ => Iff.rfl⟩, fun b hb' => ?_, .grown hg (fun k e _ => (h2 k).2 e)⟩
  rcases hb with e | e
  · exact .inl ((h2 b).2 (by rw [← e]; exact hb'))
  · rw [e] at hb'; cases hb'; exact .inr (Nat.le_refl _)
/-- Bytes handed in, told one by one. -/
theorem in_cells {w : World} {lim : Nat} {v : Value} {l : List UInt8} (h : InAt w lim v l) : ∃ ao c, v = .slice ao l.length c ∧ l.length ≤ c ∧ c ≤ 9223372036854775807 ∧ (0 < l.length → ∃ b off, ao = some ⟨b, off, none⟩ ∧ b < lim ∧ ∀ k, k < l.length → w.cell? ⟨b, off + k, none⟩ = some (.int .u8 ((l.getD k 0).toNat : Int))) := by
  obtain ⟨ao, c, rfl, h1, h2, h3⟩ := h
  refine ⟨ao, c, rfl, h1, by unfold maxLen at h2; omega, fun h0 => ?_⟩
  obtain ⟨b, off, e, hb, hc⟩ := h3 h0
  refine ⟨b, off, e, hb, fun k hk => ?_⟩
  have := hc k hk 0 (.int .u8 ((l.getD k 0).toNat : Int)) (by rw [List.getD, List.getElem?_eq_getElem hk]; rfl)
  simpa using this
end Go.Proofs.YtboinccdnaddmaaGreatDoor
