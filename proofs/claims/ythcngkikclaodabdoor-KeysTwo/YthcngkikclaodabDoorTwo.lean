/- The walk of KeysTwo. -/
import Derived.Test.YthcngkikclaodabDoorAlive
import Derived.Lib.MinMaxS
set_option linter.unusedSimpArgs false
set_option linter.unusedVariables false
namespace Go.Proofs.YthcngkikclaodabDoor
open Go.RowKit

theorem leB_data (a b : ByteArray) : leB a b = true ↔ a.data.toList ≤ b.data.toList := by
  rw [leB_iff, ByteArray.toList_eq, ByteArray.toList_eq]
theorem leB_max (a b k : ByteArray) : leB (Lib.maxS a b) k = (leB a k && leB b k) := by
  rw [Bool.eq_iff_iff, Bool.and_eq_true, leB_data, leB_data, leB_data]
  unfold Lib.maxS
  by_cases h : a.data.toList < b.data.toList
  · rw [if_pos h]
    exact ⟨fun g => ⟨List.le_trans (List.le_of_lt h) g, g⟩, fun g => g.2⟩
  · rw [if_neg h]
    exact ⟨fun g => ⟨g, List.le_trans (List.not_lt.mp h) g⟩, fun g => g.1⟩
theorem leB_min (a b k : ByteArray) : leB k (Lib.minS a b) = (leB k a && leB k b) := by
  rw [Bool.eq_iff_iff, Bool.and_eq_true, leB_data, leB_data, leB_data]
  unfold Lib.minS
  by_cases h : a.data.toList < b.data.toList ∨ a.data.toList = b.data.toList
  · rw [if_pos h]
    have hab : a.data.toList ≤ b.data.toList := List.le_iff_lt_or_eq.mpr h
    exact ⟨fun g => ⟨g, List.le_trans g hab⟩, fun g => g.1⟩
  · rw [if_neg h]
    have hba : b.data.toList ≤ a.data.toList := by
      rcases List.le_total a.data.toList b.data.toList with g | g
      · exact absurd (List.le_iff_lt_or_eq.mp g) h
      · exact g
    exact ⟨fun g => ⟨List.le_trans g hba, g⟩, fun g => g.2⟩
theorem inB_two (k a b c d : ByteArray) : inB k (Lib.maxS a c) (Lib.minS b d) = (inB k a b && inB k c d) := by
  unfold inB
  rw [leB_max, leB_min]
  cases leB a k <;> cases leB c k <;> cases leB k b <;> cases leB k d <;> rfl

set_option maxHeartbeats 4000000 in
set_option maxRecDepth 1000000 in
theorem two_walk (k a b c d : ByteArray) (w : World) (hk : k.size ≤ 140737488351232) (ha : a.size ≤ 140737488351232) (hb : b.size ≤ 140737488351232) (hc : c.size ≤ 140737488351232) (hd : d.size ≤ 140737488351232) (htab : Tab w) :
    Calls Tryd.prog 4 #[.string k, .agg #[.string a, .string b], .agg #[.string c, .string d]] w fun e w' => e = .returned (.bool true) ∧ Below w.heap.size w w' := by
  have B0 : Below w.heap.size w ((w.alloc (.cells #[.string a, .string b] 28)).alloc (.cells #[.string c, .string d] 28)) := ((Below.refl _ _).alloc (Nat.le_refl _) _).alloc (by simp) _
  have ka := alive_any _ (tab_below htab B0)
  have hmx := fun (ts : Array TypeId) (t : TypeId) (x y : ByteArray) (W : World) => Lib.run_max_strs (P := Tryd.prog) W ts t x y
  have hmn := fun (ts : Array TypeId) (t : TypeId) (x y : ByteArray) (W : World) => Lib.run_min_strs (P := Tryd.prog) W ts t x y
  have h2 := inB_two k a b c d
  by_cases hn : 10000 < (k.size : Int) + a.size + b.size + c.size + d.size
  · go_enter Tryd.func4, Tryd.ntmps4
    go_wp2_with fail
    refine ka.mono ?_
    rintro e w2 ⟨rfl, hbl⟩
    have c0 : w2.cell? ⟨w.heap.size, 0, none⟩ = some (.string a) := by rw [hbl.cell (p := ⟨w.heap.size, 0, none⟩) (by simp; omega)]; go_simp
    have c1 : w2.cell? ⟨w.heap.size, 1, none⟩ = some (.string b) := by rw [hbl.cell (p := ⟨w.heap.size, 1, none⟩) (by simp; omega)]; go_simp
    have c2 : w2.cell? ⟨w.heap.size + 1, 0, none⟩ = some (.string c) := by rw [hbl.cell (p := ⟨w.heap.size + 1, 0, none⟩) (by simp)]; go_simp
    have c3 : w2.cell? ⟨w.heap.size + 1, 1, none⟩ = some (.string d) := by rw [hbl.cell (p := ⟨w.heap.size + 1, 1, none⟩) (by simp)]; go_simp
    have B := B0.trans (hbl.mono B0.size)
    clear hbl B0 ka
    go_wp2_with fail
    refine (alive_any _ (tab_below htab B)).mono ?_
    rintro e w4 ⟨rfl, hbl⟩
    go_wp2
    go_ret
    exact ⟨rfl, B.trans (hbl.mono B.size)⟩
  · have hcase : (inB k a b = true ∧ inB k c d = true ∧ inB k (Lib.maxS a c) (Lib.minS b d) = true) ∨ (inB k a b = true ∧ inB k c d = false ∧ inB k (Lib.maxS a c) (Lib.minS b d) = false) ∨ (inB k a b = false ∧ inB k (Lib.maxS a c) (Lib.minS b d) = false) := by
      rw [h2]
      cases inB k a b <;> cases inB k c d <;> simp
    clear h2
    rcases hcase with ⟨x1, x2, x3⟩ | ⟨x1, x2, x3⟩ | ⟨x1, x3⟩
    all_goals
      go_enter Tryd.func4, Tryd.ntmps4
      go_wp2_with fail
      refine ka.mono ?_
      rintro e w2 ⟨rfl, hbl⟩
      have c0 : w2.cell? ⟨w.heap.size, 0, none⟩ = some (.string a) := by rw [hbl.cell (p := ⟨w.heap.size, 0, none⟩) (by simp; omega)]; go_simp
      have c1 : w2.cell? ⟨w.heap.size, 1, none⟩ = some (.string b) := by rw [hbl.cell (p := ⟨w.heap.size, 1, none⟩) (by simp; omega)]; go_simp
      have c2 : w2.cell? ⟨w.heap.size + 1, 0, none⟩ = some (.string c) := by rw [hbl.cell (p := ⟨w.heap.size + 1, 0, none⟩) (by simp)]; go_simp
      have c3 : w2.cell? ⟨w.heap.size + 1, 1, none⟩ = some (.string d) := by rw [hbl.cell (p := ⟨w.heap.size + 1, 1, none⟩) (by simp)]; go_simp
      have B := B0.trans (hbl.mono B0.size)
      clear hbl B0 ka htab
      go_wp2_with (go_at_call 8; refine (in_any _ _ _ _).mono ?_; rintro e w' ⟨rfl, rfl⟩)
      go_ret
      exact ⟨rfl, B⟩
end Go.Proofs.YthcngkikclaodabDoor
