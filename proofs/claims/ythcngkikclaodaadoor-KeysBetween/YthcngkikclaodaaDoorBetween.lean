/- The walk of KeysBetween. -/
import Derived.Test.YthcngkikclaodaaDoorAlive
import Derived.Test.YthcngkikclaodaaDoorBeyond
set_option linter.unusedSimpArgs false
set_option linter.unusedVariables false
namespace Go.Proofs.YthcngkikclaodaaDoor
open Go.RowKit

theorem empty_le (a : ByteArray) : leB ⟨#[]⟩ a = true := by
  rw [leB_iff, ByteArray.toList_eq]
  exact List.nil_le _
theorem inB_wide {k a f t c : ByteArray} (h1 : inB a ⟨#[]⟩ f = true) (h2 : inB t ⟨#[]⟩ c = true) (h3 : inB k f t = true) : inB k a c = true := by
  rw [inB_iff] at *
  exact ⟨leB_trans h1.2 h3.1, leB_trans h3.2 h2.2⟩
theorem inB_same (k f : ByteArray) : inB k f f = (k.toList == f.toList) := by
  rw [Bool.eq_iff_iff, inB_iff, beq_iff_eq]
  constructor
  · rintro ⟨a, b⟩; rw [leB_antisymm b a]
  · intro h; rw [text_ext h]; exact ⟨leB_refl _, leB_refl _⟩
theorem inB_ends {k f t : ByteArray} (h : inB k f t = true) : inB t f t = true ∧ inB f f t = true := by
  rw [inB_iff] at h
  have := leB_trans h.1 h.2
  exact ⟨(inB_iff _ _ _).mpr ⟨this, leB_refl _⟩, (inB_iff _ _ _).mpr ⟨leB_refl _, this⟩⟩

set_option maxHeartbeats 4000000 in
set_option maxRecDepth 1000000 in
theorem between_walk (s0 s1 s2 f t : ByteArray) (w : World) (h0 : s0.size ≤ 140737488351232) (h1 : s1.size ≤ 140737488351232) (h2 : s2.size ≤ 140737488351232) (hf : f.size ≤ 140737488351232) (ht : t.size ≤ 140737488351232) (htab : Tab w) :
    Calls Tryd.prog 7 #[.agg #[.string s0, .string s1, .string s2], .string f, .string t] w fun e w' => e = .returned (.bool true) ∧ Below w.heap.size w w' := by
  have B0 : Below w.heap.size w (w.alloc (.cells #[.string s0, .string s1, .string s2] 34)) := (Below.refl _ _).alloc (Nat.le_refl _) _
  have ka := alive_any (w.alloc (.cells #[.string s0, .string s1, .string s2] 34)) (tab_below htab B0)
  by_cases hn : 1048576 < (s0.size : Int) + s1.size + s2.size + f.size + t.size
  · have kb := fun w2 => beyond_yes ((s0.size : Int) + s1.size + s2.size + f.size + t.size) w2 hn (by omega)
    go_enter Tryd.func7, Tryd.ntmps7
    go_wp2_with fail
    refine ka.mono ?_
    rintro e w2 ⟨rfl, hb⟩
    have c0 : w2.cell? ⟨w.heap.size, 0, none⟩ = some (.string s0) := by rw [hb.cell (p := ⟨w.heap.size, 0, none⟩) (by simp)]; go_simp
    have c1 : w2.cell? ⟨w.heap.size, 1, none⟩ = some (.string s1) := by rw [hb.cell (p := ⟨w.heap.size, 1, none⟩) (by simp)]; go_simp
    have c2 : w2.cell? ⟨w.heap.size, 2, none⟩ = some (.string s2) := by rw [hb.cell (p := ⟨w.heap.size, 2, none⟩) (by simp)]; go_simp
    have B := B0.trans (hb.mono B0.size)
    clear hb B0
    go_wp2_with fail
    refine (kb w2).mono ?_
    rintro e w3 ⟨rfl, rfl⟩
    have B2 := B.alloc B.size (.cells #[.int .i64 ((s0.size : Int) + s1.size + s2.size + f.size + t.size)] 3)
    go_wp2_with fail
    refine (alive_any _ (tab_below htab B2)).mono ?_
    rintro e w4 ⟨rfl, hb⟩
    go_wp2
    go_ret
    exact ⟨rfl, B2.trans (hb.mono B2.size)⟩
  · have kb := fun w2 => beyond_no ((s0.size : Int) + s1.size + s2.size + f.size + t.size) w2 (by omega) hn
    have fact : (inB s1 ⟨#[]⟩ f = true ∧ inB t ⟨#[]⟩ s2 = true ∧ inB s0 f t = true ∧ inB s0 s1 s2 = true ∧ inB t f t = true ∧ inB f f t = true) ∨ (inB s1 ⟨#[]⟩ f = true ∧ inB t ⟨#[]⟩ s2 = true ∧ inB s0 f t = false) ∨ (inB s1 ⟨#[]⟩ f = true ∧ inB t ⟨#[]⟩ s2 = false ∧ inB s0 f t = true ∧ inB t f t = true ∧ inB f f t = true) ∨ (inB s1 ⟨#[]⟩ f = true ∧ inB t ⟨#[]⟩ s2 = false ∧ inB s0 f t = false) ∨ (inB s1 ⟨#[]⟩ f = false ∧ inB s0 f t = true ∧ inB t f t = true ∧ inB f f t = true) ∨ (inB s1 ⟨#[]⟩ f = false ∧ inB s0 f t = false) := by
      have hends := @inB_ends s0 f t
      cases e1 : inB s1 ⟨#[]⟩ f <;> cases e2 : inB t ⟨#[]⟩ s2 <;> cases e3 : inB s0 f t <;> simp <;> first | exact hends e3 | exact ⟨inB_wide e1 e2 e3, hends e3⟩
    have hsame := inB_same s0 f
    rcases fact with ⟨x1, x2, x3, x4, y1, y2⟩ | ⟨x1, x2, x3⟩ | ⟨x1, x2, x3, y1, y2⟩ | ⟨x1, x2, x3⟩ | ⟨x1, x3, y1, y2⟩ | ⟨x1, x3⟩
    all_goals
      cases hE : (s0.toList == f.toList)
      all_goals
        rw [hE] at hsame
        go_enter Tryd.func7, Tryd.ntmps7
        go_wp2_with fail
        refine ka.mono ?_
        rintro e w2 ⟨rfl, hb⟩
        have c0 : w2.cell? ⟨w.heap.size, 0, none⟩ = some (.string s0) := by rw [hb.cell (p := ⟨w.heap.size, 0, none⟩) (by simp)]; go_simp
        have c1 : w2.cell? ⟨w.heap.size, 1, none⟩ = some (.string s1) := by rw [hb.cell (p := ⟨w.heap.size, 1, none⟩) (by simp)]; go_simp
        have c2 : w2.cell? ⟨w.heap.size, 2, none⟩ = some (.string s2) := by rw [hb.cell (p := ⟨w.heap.size, 2, none⟩) (by simp)]; go_simp
        have B := B0.trans (hb.mono B0.size)
        have z2 : w.heap.size < w2.heap.size := by have := hb.size; simp at this; omega
        clear hb B0
        go_wp2_with fail
        refine (kb w2).mono ?_
        rintro e w3 ⟨rfl, rfl⟩
        have B2 := B.alloc B.size (.cells #[.int .i64 ((s0.size : Int) + s1.size + s2.size + f.size + t.size)] 3)
        clear kb ka htab B
        go_wp2_with (go_at_call 9; refine (in_any _ _ _ _).mono ?_; rintro e w' ⟨rfl, rfl⟩)
        go_ret
        exact ⟨rfl, B2⟩
end Go.Proofs.YthcngkikclaodaaDoor
