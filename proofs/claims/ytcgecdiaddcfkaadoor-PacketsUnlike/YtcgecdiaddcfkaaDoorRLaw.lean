/- What is owned can be read. -/
import Derived.Test.YtcgecdiaddcfkaaDoorRPut3
import Derived.Test.YtcgecdiaddcfkaaDoorRGet3
set_option linter.unusedSimpArgs false
set_option linter.unusedVariables false
namespace Go.Proofs.YtcgecdiaddcfkaaDoor
open Go.RowKit

theorem flat_get {α : Type} {f : α → List Value} {size : Nat} (hf : ∀ x, (f x).length = size) : ∀ (l : List α) (i : Nat) (hi : i < l.length) (j : Nat), j < size → (l.flatMap f)[i * size + j]? = (f (l[i]'hi))[j]? := by
  intro l
  induction l with
  | nil => intro i hi; cases hi
  | cons x l ih =>
    intro i hi j hj
    rw [List.flatMap_cons]
    cases i with
    | zero => rw [Nat.zero_mul, Nat.zero_add, List.getElem?_append_left (by rw [hf]; exact hj)]; rfl
    | succ i =>
      rw [List.getElem?_append_right (by rw [hf, Nat.succ_mul]; omega), hf]
      have e : (i + 1) * size + j - size = i * size + j := by rw [Nat.succ_mul]; omega
      rw [e, ih i (by simpa using hi) j hj]
      rfl
theorem sl_own {α : Type} {f : α → List Value} {w : World} {base : Nat} {e : TypeId} {size : Nat} {v : Value} {l : List α} (hf : ∀ x, (f x).length = size) (h : w.ownsRow base e size v l.length (l.flatMap f)) : SlAt size f w w.heap.size v l := by
  have hlen := h.1
  rcases h.2 with ⟨rfl, hn⟩ | ⟨g, cap, cur, rfl, hb, hg, hnc, hcm, hcs, ht⟩
  · exact ⟨none, 0, by rw [hn], by omega, by unfold maxLen; omega, fun hp => by omega⟩
  · refine ⟨_, cap, rfl, hnc, hcm, fun hp => ⟨g, 0, rfl, ?_, fun i hi j u hu => ?_⟩⟩
    · rcases Nat.lt_or_ge g w.heap.size with h' | h'
      · exact h'
      · rw [Array.getElem?_eq_none h'] at hg; cases hg
    · have hj : j < size := by
        rcases Nat.lt_or_ge j size with h' | h'
        · exact h'
        · rw [List.getElem?_eq_none (by rw [hf]; exact h')] at hu; cases hu
      have hlt : i * size + j < l.length * size := by
        have : (i + 1) * size ≤ l.length * size := Nat.mul_le_mul_right _ hi
        rw [Nat.succ_mul] at this; omega
      rw [Nat.zero_add, World.ownsRow.cellAt h _ hlt, flat_get hf l i hi j hj]
      exact hu
theorem bcells_flat (bs : List UInt8) : bs.flatMap bCell = bcells bs := by
  unfold bcells bCell
  induction bs with
  | nil => rfl
  | cons c bs ih => rw [List.flatMap_cons, ih]; rfl
theorem in_own {w : World} {base : Nat} {v : Value} {bs : List UInt8} (h : BsAt w base v bs) : InAt w w.heap.size v bs := by
  unfold BsAt at h
  rw [← bcells_flat] at h
  exact sl_own (fun _ => rfl) h
theorem own_below {w w' : World} {base : Nat} {e : TypeId} {size : Nat} {v : Value} {n : Nat} {xs : List Value} (h : w.ownsRow base e size v n xs) (hk : Below w.heap.size w w') : w'.ownsRow base e size v n xs := by
  refine ⟨h.1, ?_⟩
  rcases h.2 with h1 | ⟨g, cap, cur, h1, h2, h3, h4⟩
  · exact .inl h1
  · have hg : g < w.heap.size := by
      rcases Nat.lt_or_ge g w.heap.size with h' | h'
      · exact h'
      · rw [Array.getElem?_eq_none h'] at h3; cases h3
    exact .inr ⟨g, cap, cur, h1, h2, by rw [hk.block g hg]; exact h3, h4⟩
theorem BsAt.below {w w' : World} {base : Nat} {v : Value} {bs : List UInt8} (h : BsAt w base v bs) (hk : Below w.heap.size w w') : BsAt w' base v bs := own_below h hk
theorem opCells_len (x : OpD) : (opCells x).length = 4 := rfl
theorem rowCells_len (x : RowD) : (rowCells x).length = 2 := rfl
theorem chCells_len (x : ChD) : (chCells x).length = 3 := rfl
theorem resCells_len (x : ResP) : (resCells x).length = 1 := rfl
theorem OwnRes.at {w : World} {base : Nat} {v : Value} {l : List ResP} (h : OwnRes w base v l) (hs : ∀ p ∈ l, ∀ x ∈ p.2, rowSm x) : ResAt w w.heap.size v l :=
  ⟨sl_own resCells_len h.own, fun p hp => ⟨sl_own rowCells_len (h.rows p hp), hs p hp⟩⟩
theorem OwnRes.below {w w' : World} {base : Nat} {v : Value} {l : List ResP} (h : OwnRes w base v l) (hk : Below w.heap.size w w') : OwnRes w' base v l :=
  ⟨own_below h.own hk, fun p hp => own_below (h.rows p hp) hk, h.apart, h.pair⟩
theorem below_one (w : World) (o : Obj) : Below w.heap.size w (w.alloc o) := (Below.refl _ _).alloc (Nat.le_refl _) o
theorem lit_own {α : Type} {f : α → List Value} (w : World) (t : TypeId) (size : Nat) (hf : ∀ x, (f x).length = size) (l : List α) (hl : l.length ≤ maxLen) (hn : (l.flatMap f).length = l.length * size) :
    (w.alloc (.cells (l.flatMap f).toArray t)).ownsRow w.heap.size t size (.slice (some ⟨w.heap.size, 0, none⟩) l.length l.length) l.length (l.flatMap f) := by
  have := World.ownsRow_lit (base := w.heap.size) (e := t) (size := size) w (l.flatMap f).toArray l.length (Nat.le_refl _) hl (by simpa using hn)
  simpa using this
theorem small16 {s : ByteArray} (h : chk s = true) : s.size ≤ maxLen := by have := chk_size h; unfold maxLen; omega

end Go.Proofs.YtcgecdiaddcfkaaDoor
