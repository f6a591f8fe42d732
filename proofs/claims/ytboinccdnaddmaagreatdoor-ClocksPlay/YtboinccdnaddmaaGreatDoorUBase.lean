/- A row of numbers of the kind uint32 that the library's sort works on: what it holds, comparing, what a swap does. -/
import Derived.Test.YtboinccdnaddmaaGreatDoorGBase
import Derived.Sort.WalkA
import Derived.Sort.Grow
import Derived.Sort.LotB
import Derived.Sort.LotC
import Derived.Sort.LotD1
import Derived.Sort.LotD3
import Derived.Sort.LotD4
import Derived.Sort.LotD5
import Derived.Sort.LotD7
set_option linter.unusedSimpArgs false
set_option linter.unusedVariables false
namespace Go.Proofs.YtboinccdnaddmaaGreatDoor
open Go.RowKit

abbrev u32e (x : Nat) : Value := .int .u32 (x : Int)
/-- One number ahead of another. -/
def ltN (x y : Nat) : Bool := decide (x < y)
theorem swo_ltN : Sort.SWO ltN where
  irrefl := fun x => by simp [ltN]
  trans := fun x y z h1 h2 => by simp [ltN] at *; omega
  ntrans := fun x y z h1 h2 => by simp [ltN] at *; omega

theorem isNaN_u32 (x : Nat) (w : World) : Calls Tryz.prog 110 #[u32e x] w fun e w' => e = .returned (.bool false) ∧ w' = w := by
  go_enter Tryz.func110, Tryz.ntmps110
  go_wp2
  go_ret
  exact ⟨by simp, rfl⟩
theorem less_u32 (x y : Nat) (w : World) : Calls Tryz.prog 99 #[u32e x, u32e y] w fun e w' => e = .returned (.bool (ltN x y)) ∧ w' = w := by
  go_enter Tryz.func99, Tryz.ntmps99
  go_wp2_with (go_at_call 110; refine (isNaN_u32 _ _).mono ?_; rintro e w' ⟨rfl, rfl⟩)
  go_ret
  exact ⟨rfl, rfl⟩

/-- The row at block g holds d in w: w is w0 but for that, for what was drawn, and for what was made. -/
structure RowIs (w0 : World) (g off : Nat) (d0 : Array Nat) (d : Array Nat) (w : World) : Prop where
  size : d.size = d0.size
  lt : g < w0.heap.size
  eq : ∃ n os, w = Sort.grow (Sort.putRow u32e (Sort.ahead w0 n) g off d) os
section
variable {w0 w w1 w2 : World} {g off : Nat} {d0 d d1 d2 : Array Nat}
theorem RowIs.start (h : Sort.Holds u32e w0 g off d) (hg : g < w0.heap.size) : RowIs w0 g off d d w0 := ⟨rfl, hg, 0, #[], by rw [Sort.grow_empty]; exact (Sort.putRow_self _ _ _ _ _ h).symm⟩
theorem RowIs.ge (h : RowIs w0 g off d0 d w) : w0.heap.size ≤ w.heap.size := by
  obtain ⟨hs, hg, n, os, rfl⟩ := h
  rw [Sort.size_grow, Sort.size_putRow]
  exact Nat.le_add_right _ _
theorem RowIs.cell (h : RowIs w0 g off d0 d w) (h0 : Sort.Holds u32e w0 g off d0) (t : Nat) (ht : t < d0.size) : w.cell? ⟨g, off + t, none⟩ = some (u32e d[t]!) := by
  obtain ⟨hs, hg, n, os, rfl⟩ := h
  rw [Sort.cell?_grow _ _ _ (by simpa using hg)]
  have := Sort.cell?_putRow u32e (Sort.ahead w0 n) g off d0 d (Sort.holds_ahead _ _ _ _ _ _ h0) hs t (by omega)
  simpa using this
theorem RowIs.frozen (h : RowIs w0 g off d0 d w) (h0 : Sort.Holds u32e w0 g off d0) (t : Nat) (ht : t < d0.size) : w.frozen? ⟨g, off + t, none⟩ = false := by
  obtain ⟨hs, hg, n, os, rfl⟩ := h
  rw [Sort.frozen?_grow _ _ _ (by simpa using hg), Sort.frozen?_putRow]
  have := (Sort.holds_ahead u32e w0 n g off d0 h0 t ht).2
  simpa using this
theorem RowIs.holds (h : RowIs w0 g off d0 d w) (h0 : Sort.Holds u32e w0 g off d0) : Sort.Holds u32e w g off d := fun j hj =>
  ⟨h.cell h0 j (by rw [← h.size]; exact hj), h.frozen h0 j (by rw [← h.size]; exact hj)⟩
theorem RowIs.drew (h : RowIs w0 g off d0 d w) (q : Nat) : RowIs w0 g off d0 d (w.drewN q) := by
  obtain ⟨hs, hg, n, os, rfl⟩ := h
  refine ⟨hs, hg, n + q, os, ?_⟩
  have := putRow_drewN u32e w0 n q g off d
  show Sort.grow ((Sort.putRow u32e (Sort.ahead w0 n) g off d).drewN q) os = _
  rw [this]
theorem RowIs.swap (h : RowIs w0 g off d0 d w) {j k : Nat} (hj : j < d0.size) (hk : k < d0.size) : RowIs w0 g off d0 (Sort.swp d j k) ((w.setCell ⟨g, off + j, none⟩ (u32e d[k]!)).setCell ⟨g, off + k, none⟩ (u32e d[j]!)) := by
  obtain ⟨hs, hg, n, os, rfl⟩ := h
  refine ⟨by rw [Sort.size_swp]; exact hs, hg, n, os, ?_⟩
  have := Sort.putRow_swp u32e (Sort.ahead w0 n) g off d j k (by omega) (by omega)
  rw [← this]
  simp only [Sort.setCell_eq]
  rw [Sort.mapBlock_grow _ _ _ _ (by simpa using hg), Sort.mapBlock_grow _ _ _ _ (by simpa [Sort.mapBlock] using hg)]
theorem RowIs.alloc (h : RowIs w0 g off d0 d w) (o : Obj) : RowIs w0 g off d0 d (w.alloc o) := by
  obtain ⟨hs, hg, n, os, rfl⟩ := h
  exact ⟨hs, hg, n, os ++ #[o], by rw [Sort.alloc_eq_grow, Sort.grow_grow]⟩
/-- A cell of a block that was made since. -/
theorem RowIs.set (h : RowIs w0 g off d0 d w) {b i : Nat} (hb : w0.heap.size ≤ b) (u : Value) : RowIs w0 g off d0 d (w.setCell ⟨b, i, none⟩ u) := by
  obtain ⟨hs, hg, n, os, rfl⟩ := h
  exact ⟨hs, hg, n, _, by rw [Sort.setCell_eq, Sort.mapBlock_grow_new _ _ _ _ (by simpa using hb)]⟩
theorem RowIs.trans (h : RowIs w0 g off d0 d1 w1) (k : RowIs w1 g off d1 d2 w2) : RowIs w0 g off d0 d2 w2 := by
  obtain ⟨h1, hg, n, os, rfl⟩ := h
  obtain ⟨k1, -, m, os', rfl⟩ := k
  exact ⟨k1.trans h1, hg, n + m, os ++ os', Sort.grow_step_grow _ _ _ _ _ _ _ _ _ _ hg k1⟩
end
end Go.Proofs.YtboinccdnaddmaaGreatDoor
