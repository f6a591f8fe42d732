/- The document's disk that is left: a byte of it is written. -/
import Derived.Test.YthnkakjelhnjdaaGreatDoorERRead
import Derived.Test.YthnkakjelhnjdaaGreatDoorDFail
set_option linter.unusedSimpArgs false
set_option linter.unusedVariables false
namespace Go.Proofs.YthnkakjelhnjdaaGreatDoor
open Go.RowKit Go.Maps

theorem lay_set {k : Nat} {old new : Sec} (hk : k < 64) (ho : old.length = 64) (hw : new.length = 64) : (lay k old new).set k (new.getD k 0) = lay (k + 1) old new := by
  unfold lay
  have h1 : k - (new.take k).length = 0 := by simp; omega
  rw [List.set_append_right _ _ (by simp; omega), h1, List.drop_eq_getElem_cons (show k < old.length by omega), List.set_cons_zero, List.take_succ_eq_append_getElem (show k < new.length by omega), List.append_assoc]
  have : new.getD k 0 = new[k]'(by omega) := by simp [show k < new.length by omega]
  rw [this]
  rfl
theorem lay_zero (old new : Sec) : lay 0 old new = old := by simp [lay]
theorem set_self (l : List Sec) (i : Nat) : l.set i (l.getD i []) = l := by
  by_cases h : i < l.length
  · simp [h]
  · simp [List.set_eq_of_length_le (Nat.le_of_not_lt h)]
theorem nw_set {w : World} {base B : Nat} {vs : Value} {P : Nat → Value} {l : List Sec} (h : NwX w base B vs P l) {j : Nat} (hj : j < l.length) {g cp : Nat} (hp : P j = .slice (some ⟨g, 0, none⟩) 64 cp) (k : Nat) (c : UInt8) :
    NwX (w.setCell ⟨g, k, none⟩ (.int .u8 (c.toNat : Int))) base B vs P (l.set j ((l[j]'hj).set k c)) ∧ base ≤ g := by
  have hpj := h.ps j hj
  have hgb : base ≤ g := by rw [hp] at hpj; exact (hpj.lt g rfl).1
  have o3 : ∀ x, x ≠ g → (w.setCell ⟨g, k, none⟩ (.int .u8 (c.toNat : Int))).heap[x]? = w.heap[x]? := fun x hx => Below.heap_setCell _ _ _ _ (fun e => hx (by simp at e; exact e))
  have nB : B ≠ g := fun e => own_ne_block (own_nought hpj) h.head (by decide) (by rw [hp, e]; rfl)
  refine ⟨⟨(o3 B nB).trans h.head, ?_, ?_, ?_, h.hB, h.full.set _ (by rw [List.length_set]; exact h.full j hj)⟩, hgb⟩
  · rw [List.length_set]
    exact own_kept h.rs (fun b eb => o3 b (fun e => own_ne (own_nought hpj) (own_nought h.rs) (by decide) (b := g) (by rw [hp]; rfl) (by rw [eb, e])))
  · intro i hi
    have hi' : i < l.length := by simpa using hi
    by_cases e : j = i
    · subst e
      have h2 : bcells ((l[j]'hj).set k c) = (bcells (l[j]'hj)).set k (.int .u8 (c.toNat : Int)) := by
        unfold bcells
        rw [List.map_set]
        rfl
      simp only [List.getElem_set_self]
      rw [hp] at hpj ⊢
      rw [h2]
      exact own_base (own_setAt (own_nought hpj) k _) (fun b eb => (hpj.lt b eb).1)
    · simp only [List.getElem_set_ne e]
      refine own_kept (h.ps i hi') (fun b eb => o3 b (fun e' => ?_))
      have hg : (P j).ownBlock = some g := by rw [hp]; rfl
      rcases Nat.lt_or_gt_of_ne e with h' | h'
      · exact h.ap j i h' hi' (by rw [hg, eb, e'])
      · exact h.ap i j h' hj (by rw [hg, eb, e'])
  · intro i i' hii hi'
    rw [List.length_set] at hi'
    exact h.ap i i' hii hi'
theorem rst8 (b o : Nat) (x y : Int) (W : World) (h : W.cell? ⟨b, o, none⟩ = some (.int .u8 x)) (hf : W.frozen? ⟨b, o, none⟩ = false) : (Instr.storeAt 5 (.pointer (some ⟨b, o, none⟩)) (.int .u8 y)).run Tryz.prog W = .ok () (W.setCell ⟨b, o, none⟩ (.int .u8 y)) := by go_simp
theorem rld8 (b o : Nat) (x : Int) (W : World) (h : W.cell? ⟨b, o, none⟩ = some (.int .u8 x)) : (Instr.loadAt 5 (.pointer (some ⟨b, o, none⟩))).run Tryz.prog W = .ok (.int .u8 x) W := by go_simp
theorem bcells_getD {s : Sec} {q : Nat} (h : q < s.length) : (bcells s)[q]? = some (.int .u8 ((s.getD q 0).toNat : Int)) := by simp [bcells, bv, h]
theorem keep_half (keep i : Nat) : keep / 2 ^ i / 2 = keep / 2 ^ (i + 1) := by rw [Nat.div_div_eq_div_mul, Nat.pow_succ]
theorem keep_bit (keep i : Nat) : keep.testBit i = decide (keep / 2 ^ i % 2 = 1) := Nat.testBit_eq_decide_div_mod_eq
end Go.Proofs.YthnkakjelhnjdaaGreatDoor
