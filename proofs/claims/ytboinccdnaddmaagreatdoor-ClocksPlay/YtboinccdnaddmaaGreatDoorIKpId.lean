/- The walk of a book that keeps one more list of this kind (Id). -/
import Derived.Test.YtboinccdnaddmaaGreatDoorBKeep
set_option linter.unusedSimpArgs false
set_option linter.unusedVariables false
namespace Go.Proofs.YtboinccdnaddmaaGreatDoor
open Go.RowKit

theorem info_heldId : (Tryz.prog.info? 81).map (fun i => (i.zero, i.size, i.bytes)) = some (some (.agg #[.slice none 0 0, .slice none 0 0, .int .i64 0]), 3, 56) := by kernel_rfl

set_option maxHeartbeats 2000000 in
set_option maxRecDepth 1000000 in
theorem keepId_any (w : World) (bk n m cp al' ln cl : Nat) (ao al : Option Addr) (c1 c3 c4 c5 c6 c7 c8 c9 c10 c11 c12 : Value) (E : List Ent) (hB : w.heap[bk]? = some (.cells #[.int .i64 (n : Int), c1, .slice ao m cp, c3, c4, c5, c6, c7, c8, c9, c10, c11, c12] 42 (0, 0))) (hn : n ≤ 1000000)
    (hown : w.ownsRow 0 81 3 (.slice ao m cp) E.length (E.flatMap entCells)) (hE : E.length ≤ 1000000) (hne : (Value.slice ao m cp).ownBlock ≠ some bk) :
    Calls Tryz.prog 23 #[ptr bk, .slice al ln cl] w fun e w' => e = .returned (.tuple #[]) ∧ ∃ v', w'.heap[bk]? = some (.cells #[.int .i64 ((n : Int) + 1), c1, v', c3, c4, c5, c6, c7, c8, c9, c10, c11, c12] 42 (0, 0)) ∧
      w'.ownsRow 0 81 3 v' (E ++ [Ent.mk (.slice al ln cl) (.slice none 0 0) ln (n + 1)]).length ((E ++ [Ent.mk (.slice al ln cl) (.slice none 0 0) ln (n + 1)]).flatMap entCells) ∧ Moved w (.slice ao m cp) v' ∧ Wrote (fun b => b = bk ∨ (Value.slice ao m cp).ownBlock = some b) w w' := by
  obtain ⟨i0, hi, hz0, hz1, hz2⟩ := info_parts info_heldId
  have hlt : bk < w.heap.size := by
    rcases Nat.lt_or_ge bk w.heap.size with h' | h'
    · exact h'
    · rw [Array.getElem?_eq_none h'] at hB; cases hB
  have c0 : w.cell? ⟨bk, 0, none⟩ = some (.int .i64 (n : Int)) := by simp [World.cell?, hB]
  have f0 := box_frozen (i := 0) hB
  have e1 : (w.setCell ⟨bk, 0, none⟩ (.int .i64 ((n : Int) + 1))).heap[bk]? = some (.cells #[.int .i64 ((n : Int) + 1), c1, .slice ao m cp, c3, c4, c5, c6, c7, c8, c9, c10, c11, c12] 42 (0, 0)) := by have := heap_setCell_same w bk 0 _ _ (.int .i64 ((n : Int) + 1)) hB; simpa using this
  have w1 : Wrote (fun b => b = bk ∨ (Value.slice ao m cp).ownBlock = some b) w (w.setCell ⟨bk, 0, none⟩ (.int .i64 ((n : Int) + 1))) := Wrote.set w bk 0 _ (.inl rfl)
  have o1 := own_wrote (d := fun b => b = bk) hown (Wrote.set w bk 0 (.int .i64 ((n : Int) + 1)) rfl) (fun b hb e => hne (by rw [hb, e]))
  have z1 : (w.setCell ⟨bk, 0, none⟩ (.int .i64 ((n : Int) + 1))).heap.size = w.heap.size := by simp [World.setCell]
  have X1 : Hid (Wrote (fun b => b = bk ∨ (Value.slice ao m cp).ownBlock = some b) w (w.setCell ⟨bk, 0, none⟩ (.int .i64 ((n : Int) + 1)))) := w1
  clear hB w1 hown
  go_enter Tryz.func23, Tryz.ntmps23
  go_wp2
  generalize w.setCell ⟨bk, 0, none⟩ (.int .i64 ((n : Int) + 1)) = W at *
  clear c0 f0
  have hltW : bk < W.heap.size := by omega
  have d0 : W.cell? ⟨bk, 0, none⟩ = some (.int .i64 ((n : Int) + 1)) := by simp [World.cell?, e1]
  have dF : W.cell? ⟨bk, 2, none⟩ = some (.slice ao m cp) := by simp [World.cell?, e1]
  have HE : Hid (W.heap[bk]? = some (.cells #[.int .i64 ((n : Int) + 1), c1, .slice ao m cp, c3, c4, c5, c6, c7, c8, c9, c10, c11, c12] 42 (0, 0))) := e1
  have o2 : Hid ((W.alloc (.cells #[.slice al ln cl, .slice none 0 0, .int .i64 ((n : Int) + 1)] 81)).drew.ownsRow 0 81 3 (.slice ao m cp) E.length (E.flatMap entCells)) := (o1.alloc _).drew
  have src : Hid (Src Tryz.prog 3 30 (.slice (some ⟨W.heap.size, 0, none⟩) 1 1) 1 [.slice al ln cl, .slice none 0 0, .int .i64 ((n : Int) + 1)] (W.alloc (.cells #[.slice al ln cl, .slice none 0 0, .int .i64 ((n : Int) + 1)] 81)).drew) := Src.ofSlice _ Tryz.underlying30 ⟨W.heap.size, 0, none⟩ 1 1 _ rfl (news_ofv [.slice al ln cl, .slice none 0 0, .int .i64 ((n : Int) + 1)] _) (by intro u hu; simp at hu; rcases hu with rfl | rfl | rfl <;> rfl)
  have bb : Hid (E.length + 1 ≤ maxLen ∧ (E.length + 1) * 56 ≤ 140737488355328) := by show _ ∧ _; unfold maxLen; omega
  have fin : Hid (∀ v' w2, w2.ownsRow 0 81 3 v' (E.length + 1) (E.flatMap entCells ++ [.slice al ln cl, .slice none 0 0, .int .i64 ((n : Int) + 1)]) → ((v'.ownBlock = (Value.slice ao m cp).ownBlock ∧ (W.alloc (.cells #[.slice al ln cl, .slice none 0 0, .int .i64 ((n : Int) + 1)] 81)).drew.grownBy w2 (Value.slice ao m cp).ownBlock) ∨ (v'.ownBlock = some (W.alloc (.cells #[.slice al ln cl, .slice none 0 0, .int .i64 ((n : Int) + 1)] 81)).drew.heap.size ∧ (W.alloc (.cells #[.slice al ln cl, .slice none 0 0, .int .i64 ((n : Int) + 1)] 81)).drew.grownBy w2 none)) →
      (w2.cell? ⟨bk, 2, none⟩ = some (.slice ao m cp) ∧ w2.frozen? ⟨bk, 2, none⟩ = false) ∧ Hid ((w2.setCell ⟨bk, 2, none⟩ v').heap[bk]? = some (.cells #[.int .i64 ((n : Int) + 1), c1, v', c3, c4, c5, c6, c7, c8, c9, c10, c11, c12] 42 (0, 0)) ∧
      (w2.setCell ⟨bk, 2, none⟩ v').ownsRow 0 81 3 v' (E ++ [Ent.mk (.slice al ln cl) (.slice none 0 0) ln (n + 1)]).length ((E ++ [Ent.mk (.slice al ln cl) (.slice none 0 0) ln (n + 1)]).flatMap entCells) ∧ Moved w (.slice ao m cp) v' ∧ Wrote (fun b => b = bk ∨ (Value.slice ao m cp).ownBlock = some b) w (w2.setCell ⟨bk, 2, none⟩ v'))) := by
    intro v' w2 ho hg
    have hblk : ∀ k, k < W.heap.size → (W.alloc (.cells #[.slice al ln cl, .slice none 0 0, .int .i64 ((n : Int) + 1)] 81)).drew.heap[k]? = W.heap[k]? := fun k hk => Below.block (B := W.heap.size) ((Below.refl W.heap.size W).alloc (Nat.le_refl _) _) k hk
    obtain ⟨g1, g2, g3, g4, g5⟩ := keep_fin (W := W) (F := 2) (bk := bk) ((hblk bk hltW).trans HE.out) (by simp) hblk ⟨rfl, rfl, rfl⟩ hltW hne ho hg
    refine ⟨⟨by simp [World.cell?, g1], box_frozen g1⟩, by simpa using g2, ?_, ?_, X1.out.trans g5⟩
    · rw [entCells_snoc, List.length_append]; exact g3
    · rcases g4 with g4 | ⟨b, g4, h4⟩
      · exact .inl g4
      · exact .inr ⟨b, g4, by omega⟩
  clear e1 o1 z1
  go_region_law (refine step_append_stays rfl (.tmp 15) (.tmp 22) 30 rfl 0 81 i0 (.agg #[.slice none 0 0, .slice none 0 0, .int .i64 0]) 3 56 Tryz.underlying30 hi hz0 hz1 hz2 rfl (by decide) (.slice ao m cp) E.length (E.flatMap entCells) (by simp [Act.eval, Act.put]) o2.out (.slice (some ⟨W.heap.size, 0, none⟩) 1 1) 1 _ (by simp [Act.eval, Act.put]) src.out bb.out.1 bb.out.2 (Nat.zero_le _) ?_; intro v' w2 ho hg; have R := fin.out v' w2 ho hg; obtain ⟨⟨r1, r2⟩, R⟩ := R; obtain ⟨av, nv, cv, rfl⟩ := own_slice ho)
  all_goals
    go_wp2
    go_end0
    exact ⟨rfl, _, R.out⟩

set_option maxHeartbeats 1000000 in
set_option maxRecDepth 1000000 in
theorem bookIds_any (w : World) (bk n m cp ln cl : Nat) (ao al : Option Addr) (c1 c3 c4 c5 c6 c7 c8 c9 c10 c11 c12 : Value) (E : List Ent) (hB : w.heap[bk]? = some (.cells #[.int .i64 (n : Int), c1, .slice ao m cp, c3, c4, c5, c6, c7, c8, c9, c10, c11, c12] 42 (0, 0))) (hn : n ≤ 1000000)
    (hown : w.ownsRow 0 81 3 (.slice ao m cp) E.length (E.flatMap entCells)) (hE : E.length ≤ 1000000) (hne : (Value.slice ao m cp).ownBlock ≠ some bk) :
    Calls Tryz.prog 12 #[ptr bk, .slice al ln cl] w fun e w' => e = .returned (.tuple #[]) ∧ ∃ v', w'.heap[bk]? = some (.cells #[.int .i64 ((n : Int) + 1), c1, v', c3, c4, c5, c6, c7, c8, c9, c10, c11, c12] 42 (0, 0)) ∧
      w'.ownsRow 0 81 3 v' (E ++ [Ent.mk (.slice al ln cl) (.slice none 0 0) ln (n + 1)]).length ((E ++ [Ent.mk (.slice al ln cl) (.slice none 0 0) ln (n + 1)]).flatMap entCells) ∧ Moved w (.slice ao m cp) v' ∧ Wrote (fun b => b = bk ∨ (Value.slice ao m cp).ownBlock = some b) w w' := by
  have k := keepId_any w bk n m cp 0 ln cl ao al c1 c3 c4 c5 c6 c7 c8 c9 c10 c11 c12 E hB hn hown hE hne
  clear hB hown
  go_enter Tryz.func12, Tryz.ntmps12
  go_wp2_with fail
  refine k.mono ?_
  rintro e w' ⟨rfl, H⟩
  go_wp2
  go_end0
  exact ⟨rfl, H⟩
end Go.Proofs.YtboinccdnaddmaaGreatDoor
