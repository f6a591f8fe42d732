/- The walks of a bag's queue: push, pull, slices.Delete. -/
import Derived.Test.YtpmmdbdooclcoabBaAsk
import Derived.Test.YtpmmdbdooclcoabBaFresh
import Derived.Test.YtpmmdbdooclcoabBKeep
set_option linter.unusedSimpArgs false
set_option linter.unusedVariables false
namespace Go.Proofs.Ytpmmdbdooclcoab
open Go.RowKit

theorem MsgO.cells_one {x : MsgO} (ho : x.vo.oneCell' = true) (hr : x.vr.oneCell' = true) : ∀ u ∈ x.cells, u.oneCell' = true := by
  intro u hu
  simp [MsgO.cells] at hu
  rcases hu with rfl | rfl | rfl | rfl | rfl | rfl
  all_goals first | rfl | assumption
set_option maxHeartbeats 2000000 in
set_option maxRecDepth 1000000 in
theorem push_ok {S0 : Nat → Prop} {w0 w : World} {L : List Part} (B most n : Nat) (v : Value) (xs : List Value) (x : MsgO) (a1 a2 : Option Addr) (n1 d1 n2 d2 : Nat) (hxo : x.vo = .slice a1 n1 d1) (hxr : x.vr = .slice a2 n2 d2) (hn : n ≤ 1000000)
    (h : St S0 w0 w (Part.row 27 6 v n xs :: Part.blk B (bagO most v) :: L)) :
    Calls Try.prog 19 #[ptr B, x.v] w fun e w' => e = .returned (.tuple #[]) ∧ ∃ v', St S0 w0 w' (Part.row 27 6 v' (n + 1) (xs ++ x.cells) :: Part.blk B (bagO most v') :: L) := by
  obtain ⟨i0, hi, hz0, hz1, hz2⟩ := info_parts info_freshMsg
  obtain ⟨d, vo, vr, rs⟩ := x
  simp only at hxo hxr
  subst hxo
  subst hxr
  obtain ⟨ao, m, cp, rfl⟩ := own_slice h.row
  have hm : m = n := by obtain ⟨ao', c', e, -⟩ := h.form.1; simp only [Value.slice.injEq] at e; exact e.2.1
  subst hm
  have hB := (h.pick 1 rfl).blk
  obtain ⟨c0, c1⟩ := two_cells hB.1
  have hlt := hB.2
  have c1' : (w.alloc (.cells (mdCells d (.slice a1 n1 d1) (.slice a2 n2 d2)) 27)).cell? ⟨B, 1, none⟩ = some (.slice ao m cp) := (World.cell?_alloc_lt _ _ _ hlt).trans c1
  have s1 : St S0 w0 (((w.alloc (.cells (mdCells d (.slice a1 n1 d1) (.slice a2 n2 d2)) 27)).alloc (.cells (mdCells d (.slice a1 n1 d1) (.slice a2 n2 d2)) 27)).drew) _ := ((h.alloc (.cells (mdCells d (.slice a1 n1 d1) (.slice a2 n2 d2)) 27)).alloc (.cells (mdCells d (.slice a1 n1 d1) (.slice a2 n2 d2)) 27)).drew
  have s2 := s1.pick 2 rfl
  have bb : Hid (m + 1 ≤ maxLen ∧ (m + 1) * 56 ≤ 140737488355328) := by show _ ∧ _; unfold maxLen; omega
  have o2 : Hid ((((w.alloc (.cells (mdCells d (.slice a1 n1 d1) (.slice a2 n2 d2)) 27)).alloc (.cells (mdCells d (.slice a1 n1 d1) (.slice a2 n2 d2)) 27)).drew).ownsRow 0 27 6 (.slice ao m cp) m xs) := s2.row
  have src : Hid (Src Try.prog 6 41 (.slice (some ⟨w.heap.size + 1, 0, none⟩) 1 1) 1 (mdCells d (.slice a1 n1 d1) (.slice a2 n2 d2)).toList (((w.alloc (.cells (mdCells d (.slice a1 n1 d1) (.slice a2 n2 d2)) 27)).alloc (.cells (mdCells d (.slice a1 n1 d1) (.slice a2 n2 d2)) 27)).drew)) :=
    Src.ofSlice _ Try.underlying41 ⟨w.heap.size + 1, 0, none⟩ 1 1 _ rfl (by
      have e : w.heap.size + 1 = (w.alloc (.cells (mdCells d (.slice a1 n1 d1) (.slice a2 n2 d2)) 27)).heap.size := by simp
      rw [e]
      exact news_ofv (mdCells d (.slice a1 n1 d1) (.slice a2 n2 d2)).toList _)
      (by intro u hu; simp [mdCells] at hu; rcases hu with rfl | rfl | rfl | rfl | rfl | rfl <;> first | rfl | exact one_slice _ _ _)
  have FIN : Hid (∀ v' w2, w2.ownsRow 0 27 6 v' (m + 1) (xs ++ (mdCells d (.slice a1 n1 d1) (.slice a2 n2 d2)).toList) → ((v'.ownBlock = (Value.slice ao m cp).ownBlock ∧ (((w.alloc (.cells (mdCells d (.slice a1 n1 d1) (.slice a2 n2 d2)) 27)).alloc (.cells (mdCells d (.slice a1 n1 d1) (.slice a2 n2 d2)) 27)).drew).grownBy w2 (Value.slice ao m cp).ownBlock) ∨ (v'.ownBlock = some (((w.alloc (.cells (mdCells d (.slice a1 n1 d1) (.slice a2 n2 d2)) 27)).alloc (.cells (mdCells d (.slice a1 n1 d1) (.slice a2 n2 d2)) 27)).drew).heap.size ∧ (((w.alloc (.cells (mdCells d (.slice a1 n1 d1) (.slice a2 n2 d2)) 27)).alloc (.cells (mdCells d (.slice a1 n1 d1) (.slice a2 n2 d2)) 27)).drew).grownBy w2 none)) →
      (w2.cell? ⟨B, 1, none⟩ = some (.slice ao m cp) ∧ w2.frozen? ⟨B, 1, none⟩ = false) ∧ Hid (St S0 w0 (w2.setCell ⟨B, 1, none⟩ v') (Part.row 27 6 v' (m + 1) (xs ++ MsgO.cells ⟨d, .slice a1 n1 d1, .slice a2 n2 d2, rs⟩) :: Part.blk B (bagO most v') :: L))) := fun v' w2 ho hg => by
    have s3 := ((s2.append ho hg).pick 3 rfl)
    refine ⟨⟨(two_cells s3.blk.1).2, box_frozen s3.blk.1⟩, ?_⟩
    have s4 := s3.set' (i := 1) (u := v') #[.int .i64 (most : Int), v'] (by simp) rfl
    exact (s4.rt (K := [_, _, _, _]) 4 [2, 3, 1, 0] (by decide)).drop.drop
  clear hB c0 c1 s1 s2 h
  unfold mdCells at c1' o2 src FIN
  unfold MsgO.v msgV
  go_enter Try.func19, Try.ntmps19
  go_wp2_with fail
  go_region_law (refine step_append_stays rfl (.tmp 8) (.tmp 10) 41 rfl 0 27 i0 (.agg #[.int .u8 0, .int .u8 0, .int .u8 0, .int .u32 0, .slice none 0 0, .slice none 0 0]) 6 56 Try.underlying41 hi hz0 hz1 hz2 rfl (by decide) (.slice ao m cp) m xs (by simp [Act.eval, Act.put]) o2.out (.slice (some ⟨w.heap.size + 1, 0, none⟩) 1 1) 1 _ (by simp [Act.eval, Act.put]) src.out bb.out.1 bb.out.2 (Nat.zero_le _) ?_; intro v' w2 ho hg; have R := FIN.out v' w2 ho hg; obtain ⟨⟨r1, r2⟩, R⟩ := R; obtain ⟨av, nv, cv, rfl⟩ := own_slice ho)
  all_goals
    go_wp2
    go_end0
    exact ⟨rfl, _, R.out⟩
end Go.Proofs.Ytpmmdbdooclcoab
