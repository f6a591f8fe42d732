/- Texts of this proof, laid into one. -/
import Derived.Test.YtcgecdiaddcfkaaGreatDoorRBook2M
import Derived.Deep.RegionLaw
/- Append as one step of a region that draws its order; what is left where a list is kept in a book. -/
set_option linter.unusedSimpArgs false
set_option linter.unusedVariables false
namespace Go.Proofs.YtcgecdiaddcfkaaGreatDoor
open Go.RowKit

theorem step_append_stays {P : Program} {ops : Array Oper} {o : Oper} {a : Act} {w : World} {K : Act → World → Prop} {Q : Exit → Act → World → Prop} {E : Prop}
    (hg : o.guard = none) (s x : Operand) (t : TypeId) (hop : o.op = Op.call { callee := Callee.builtin Builtin.append, args := #[s, x], argTypes := #[t, t] })
    (base : Nat) (e : TypeId) (i : TypeInfo) (z : Value) (size bytes : Nat) (ht : P.underlying t = some (.slice e)) (hi : P.info? e = some i) (hz : i.zero = some z) (hsize : i.size = size) (hby : i.bytes = bytes) (hzs : z.cells.size = size) (hsz : 0 < size)
    (v : Value) (n : Nat) (xs : List Value) (hs : a.eval s = v) (hown : w.ownsRow base e size v n xs)
    (u : Value) (m : Nat) (news : List Value) (hx : a.eval x = u) (hsrc : Src P size t u m news w)
    (h63 : n + m ≤ maxLen) (hbytes : (n + m) * bytes ≤ 140737488355328) (hbase : base ≤ w.heap.size)
    (hK : ∀ v' w', w'.ownsRow base e size v' (n + m) (xs ++ news) → ((v'.ownBlock = v.ownBlock ∧ w.grownBy w' v.ownBlock) ∨ (v'.ownBlock = some w.heap.size ∧ w.grownBy w' none)) → K (a.put o.dst v') w') :
    if Region.wanted o (yielded ops a.tmps) = true then Oper.wp P o a w K Q else E := by
  have hw : Region.wanted o (yielded ops a.tmps) = true := by simp [Region.wanted, hg]
  rw [if_pos hw]
  obtain ⟨v', w', hr, h2, h3⟩ := run_append_stays (P := P) w base t t o.type e i z size bytes ht hi hz hsize hby hzs hsz v n xs hown u m news hsrc h63 hbytes hbase
  unfold Oper.wp
  simp [execOp, hop, resolve, invoke, builtin, hs, hx, hr, Result.andThen]
  exact hK v' w' h2 h3

/-- Where the row of a book's kind lies behind one more was kept. -/
def Moved (w : World) (v v' : Value) : Prop := v'.ownBlock = v.ownBlock ∨ ∃ b, v'.ownBlock = some b ∧ w.heap.size ≤ b
theorem keep_fin {W W2 w2 : World} {bk F : Nat} {arr : Array Value} {t th : TypeId} {v v' : Value} {n : Nat} {xs : List Value}
    (hB : W2.heap[bk]? = some (.cells arr t (0, 0))) (hz : W.heap.size ≤ W2.heap.size) (hblk : ∀ k, k < W.heap.size → W2.heap[k]? = W.heap[k]?) (hos : W2.os = W.os ∧ W2.tape = W.tape ∧ W2.output = W.output) (hlt : bk < W.heap.size)
    (hne : v.ownBlock ≠ some bk) (ho : w2.ownsRow 0 th 3 v' n xs) (hg : (v'.ownBlock = v.ownBlock ∧ W2.grownBy w2 v.ownBlock) ∨ (v'.ownBlock = some W2.heap.size ∧ W2.grownBy w2 none)) :
    w2.heap[bk]? = some (.cells arr t (0, 0)) ∧ (w2.setCell ⟨bk, F, none⟩ v').heap[bk]? = some (.cells (arr.setIfInBounds F v') t (0, 0)) ∧ (w2.setCell ⟨bk, F, none⟩ v').ownsRow 0 th 3 v' n xs ∧ Moved W v v' ∧ Wrote (fun b => b = bk ∨ v.ownBlock = some b) W (w2.setCell ⟨bk, F, none⟩ v') := by
  have hb2 : w2.heap[bk]? = some (.cells arr t (0, 0)) := by
    rcases hg with ⟨-, g⟩ | ⟨-, g⟩
    · rw [g.block bk (by omega) (fun e => hne e.symm)]; exact hB
    · rw [g.block bk (by omega) (by simp)]; exact hB
  have W1 : Wrote (fun b => b = bk ∨ v.ownBlock = some b) W w2 := by
    rcases hg with ⟨-, g⟩ | ⟨-, g⟩
    · exact ⟨g.os.trans hos.1, g.tape.trans hos.2.1, g.output.trans hos.2.2, Nat.le_trans hz g.size, fun k hk hn => by rw [g.block k (by omega) (fun e => hn (.inr e.symm))]; exact hblk k hk⟩
    · exact ⟨g.os.trans hos.1, g.tape.trans hos.2.1, g.output.trans hos.2.2, Nat.le_trans hz g.size, fun k hk hn => by rw [g.block k (by omega) (by simp)]; exact hblk k hk⟩
  have hv' : v'.ownBlock ≠ some bk := by
    rcases hg with ⟨e, -⟩ | ⟨e, -⟩
    · rw [e]; exact hne
    · rw [e]; simp; omega
  refine ⟨hb2, heap_setCell_same w2 bk F arr t v' hb2, own_wrote (d := fun b => b = bk) ho (Wrote.set w2 bk F v' rfl) (fun b hb e => hv' (by rw [hb, e])), ?_, W1.trans (Wrote.set w2 bk F v' (.inl rfl))⟩
  rcases hg with ⟨e, -⟩ | ⟨e, -⟩
  · exact .inl e
  · exact .inr ⟨_, e, hz⟩
theorem entCells_snoc (E : List Ent) (x : Ent) : (E ++ [x]).flatMap entCells = E.flatMap entCells ++ entCells x := by simp
end Go.Proofs.YtcgecdiaddcfkaaGreatDoor
/- The walk of a book that keeps one more list of this kind (Row). -/
set_option linter.unusedSimpArgs false
set_option linter.unusedVariables false
namespace Go.Proofs.YtcgecdiaddcfkaaGreatDoor
open Go.RowKit

theorem info_heldRow : (Tryz.prog.info? 129).map (fun i => (i.zero, i.size, i.bytes)) = some (some (.agg #[.slice none 0 0, .slice none 0 0, .int .i64 0]), 3, 56) := by kernel_rfl

set_option maxHeartbeats 2000000 in
set_option maxRecDepth 1000000 in
theorem keepRow_any (w : World) (bk n m cp al' ln cl : Nat) (ao al : Option Addr) (c1 c2 c3 c4 c6 c7 c8 c9 c10 c11 c12 : Value) (E : List Ent) (hB : w.heap[bk]? = some (.cells #[.int .i64 (n : Int), c1, c2, c3, c4, .slice ao m cp, c6, c7, c8, c9, c10, c11, c12] 50 (0, 0))) (hn : n ≤ 1000000)
    (hown : w.ownsRow 0 129 3 (.slice ao m cp) E.length (E.flatMap entCells)) (hE : E.length ≤ 1000000) (hne : (Value.slice ao m cp).ownBlock ≠ some bk) :
    Calls Tryz.prog 178 #[ptr bk, .slice al ln cl] w fun e w' => e = .returned (.tuple #[]) ∧ ∃ v', w'.heap[bk]? = some (.cells #[.int .i64 ((n : Int) + 1), c1, c2, c3, c4, v', c6, c7, c8, c9, c10, c11, c12] 50 (0, 0)) ∧
      w'.ownsRow 0 129 3 v' (E ++ [Ent.mk (.slice al ln cl) (.slice none 0 0) ln (n + 1)]).length ((E ++ [Ent.mk (.slice al ln cl) (.slice none 0 0) ln (n + 1)]).flatMap entCells) ∧ Moved w (.slice ao m cp) v' ∧ Wrote (fun b => b = bk ∨ (Value.slice ao m cp).ownBlock = some b) w w' := by
  obtain ⟨i0, hi, hz0, hz1, hz2⟩ := info_parts info_heldRow
  have hlt : bk < w.heap.size := by
    rcases Nat.lt_or_ge bk w.heap.size with h' | h'
    · exact h'
    · rw [Array.getElem?_eq_none h'] at hB; cases hB
  have c0 : w.cell? ⟨bk, 0, none⟩ = some (.int .i64 (n : Int)) := by simp [World.cell?, hB]
  have f0 := box_frozen (i := 0) hB
  have e1 : (w.setCell ⟨bk, 0, none⟩ (.int .i64 ((n : Int) + 1))).heap[bk]? = some (.cells #[.int .i64 ((n : Int) + 1), c1, c2, c3, c4, .slice ao m cp, c6, c7, c8, c9, c10, c11, c12] 50 (0, 0)) := by have := heap_setCell_same w bk 0 _ _ (.int .i64 ((n : Int) + 1)) hB; simpa using this
  have w1 : Wrote (fun b => b = bk ∨ (Value.slice ao m cp).ownBlock = some b) w (w.setCell ⟨bk, 0, none⟩ (.int .i64 ((n : Int) + 1))) := Wrote.set w bk 0 _ (.inl rfl)
  have o1 := own_wrote (d := fun b => b = bk) hown (Wrote.set w bk 0 (.int .i64 ((n : Int) + 1)) rfl) (fun b hb e => hne (by rw [hb, e]))
  have z1 : (w.setCell ⟨bk, 0, none⟩ (.int .i64 ((n : Int) + 1))).heap.size = w.heap.size := by simp [World.setCell]
  have X1 : Hid (Wrote (fun b => b = bk ∨ (Value.slice ao m cp).ownBlock = some b) w (w.setCell ⟨bk, 0, none⟩ (.int .i64 ((n : Int) + 1)))) := w1
  clear hB w1 hown
  go_enter Tryz.func178, Tryz.ntmps178
  go_wp2
  generalize w.setCell ⟨bk, 0, none⟩ (.int .i64 ((n : Int) + 1)) = W at *
  clear c0 f0
  have hltW : bk < W.heap.size := by omega
  have d0 : W.cell? ⟨bk, 0, none⟩ = some (.int .i64 ((n : Int) + 1)) := by simp [World.cell?, e1]
  have dF : W.cell? ⟨bk, 5, none⟩ = some (.slice ao m cp) := by simp [World.cell?, e1]
  have HE : Hid (W.heap[bk]? = some (.cells #[.int .i64 ((n : Int) + 1), c1, c2, c3, c4, .slice ao m cp, c6, c7, c8, c9, c10, c11, c12] 50 (0, 0))) := e1
  have o2 : Hid ((W.alloc (.cells #[.slice al ln cl, .slice none 0 0, .int .i64 ((n : Int) + 1)] 129)).drew.ownsRow 0 129 3 (.slice ao m cp) E.length (E.flatMap entCells)) := (o1.alloc _).drew
  have src : Hid (Src Tryz.prog 3 41 (.slice (some ⟨W.heap.size, 0, none⟩) 1 1) 1 [.slice al ln cl, .slice none 0 0, .int .i64 ((n : Int) + 1)] (W.alloc (.cells #[.slice al ln cl, .slice none 0 0, .int .i64 ((n : Int) + 1)] 129)).drew) := Src.ofSlice _ Tryz.underlying41 ⟨W.heap.size, 0, none⟩ 1 1 _ rfl (news_ofv [.slice al ln cl, .slice none 0 0, .int .i64 ((n : Int) + 1)] _) (by intro u hu; simp at hu; rcases hu with rfl | rfl | rfl <;> rfl)
  have bb : Hid (E.length + 1 ≤ maxLen ∧ (E.length + 1) * 56 ≤ 140737488355328) := by show _ ∧ _; unfold maxLen; omega
  have fin : Hid (∀ v' w2, w2.ownsRow 0 129 3 v' (E.length + 1) (E.flatMap entCells ++ [.slice al ln cl, .slice none 0 0, .int .i64 ((n : Int) + 1)]) → ((v'.ownBlock = (Value.slice ao m cp).ownBlock ∧ (W.alloc (.cells #[.slice al ln cl, .slice none 0 0, .int .i64 ((n : Int) + 1)] 129)).drew.grownBy w2 (Value.slice ao m cp).ownBlock) ∨ (v'.ownBlock = some (W.alloc (.cells #[.slice al ln cl, .slice none 0 0, .int .i64 ((n : Int) + 1)] 129)).drew.heap.size ∧ (W.alloc (.cells #[.slice al ln cl, .slice none 0 0, .int .i64 ((n : Int) + 1)] 129)).drew.grownBy w2 none)) →
      (w2.cell? ⟨bk, 5, none⟩ = some (.slice ao m cp) ∧ w2.frozen? ⟨bk, 5, none⟩ = false) ∧ Hid ((w2.setCell ⟨bk, 5, none⟩ v').heap[bk]? = some (.cells #[.int .i64 ((n : Int) + 1), c1, c2, c3, c4, v', c6, c7, c8, c9, c10, c11, c12] 50 (0, 0)) ∧
      (w2.setCell ⟨bk, 5, none⟩ v').ownsRow 0 129 3 v' (E ++ [Ent.mk (.slice al ln cl) (.slice none 0 0) ln (n + 1)]).length ((E ++ [Ent.mk (.slice al ln cl) (.slice none 0 0) ln (n + 1)]).flatMap entCells) ∧ Moved w (.slice ao m cp) v' ∧ Wrote (fun b => b = bk ∨ (Value.slice ao m cp).ownBlock = some b) w (w2.setCell ⟨bk, 5, none⟩ v'))) := by
    intro v' w2 ho hg
    have hblk : ∀ k, k < W.heap.size → (W.alloc (.cells #[.slice al ln cl, .slice none 0 0, .int .i64 ((n : Int) + 1)] 129)).drew.heap[k]? = W.heap[k]? := fun k hk => Below.block (B := W.heap.size) ((Below.refl W.heap.size W).alloc (Nat.le_refl _) _) k hk
    obtain ⟨g1, g2, g3, g4, g5⟩ := keep_fin (W := W) (F := 5) (bk := bk) ((hblk bk hltW).trans HE.out) (by simp) hblk ⟨rfl, rfl, rfl⟩ hltW hne ho hg
    refine ⟨⟨by simp [World.cell?, g1], box_frozen g1⟩, by simpa using g2, ?_, ?_, X1.out.trans g5⟩
    · rw [entCells_snoc, List.length_append]; exact g3
    · rcases g4 with g4 | ⟨b, g4, h4⟩
      · exact .inl g4
      · exact .inr ⟨b, g4, by omega⟩
  clear e1 o1 z1
  go_region_law (refine step_append_stays rfl (.tmp 15) (.tmp 22) 41 rfl 0 129 i0 (.agg #[.slice none 0 0, .slice none 0 0, .int .i64 0]) 3 56 Tryz.underlying41 hi hz0 hz1 hz2 rfl (by decide) (.slice ao m cp) E.length (E.flatMap entCells) (by simp [Act.eval, Act.put]) o2.out (.slice (some ⟨W.heap.size, 0, none⟩) 1 1) 1 _ (by simp [Act.eval, Act.put]) src.out bb.out.1 bb.out.2 (Nat.zero_le _) ?_; intro v' w2 ho hg; have R := fin.out v' w2 ho hg; obtain ⟨⟨r1, r2⟩, R⟩ := R; obtain ⟨av, nv, cv, rfl⟩ := own_slice ho)
  all_goals
    go_wp2
    go_end0
    exact ⟨rfl, _, R.out⟩

set_option maxHeartbeats 1000000 in
set_option maxRecDepth 1000000 in
theorem bookRows_any (w : World) (bk n m cp ln cl : Nat) (ao al : Option Addr) (c1 c2 c3 c4 c6 c7 c8 c9 c10 c11 c12 : Value) (E : List Ent) (hB : w.heap[bk]? = some (.cells #[.int .i64 (n : Int), c1, c2, c3, c4, .slice ao m cp, c6, c7, c8, c9, c10, c11, c12] 50 (0, 0))) (hn : n ≤ 1000000)
    (hown : w.ownsRow 0 129 3 (.slice ao m cp) E.length (E.flatMap entCells)) (hE : E.length ≤ 1000000) (hne : (Value.slice ao m cp).ownBlock ≠ some bk) :
    Calls Tryz.prog 166 #[ptr bk, .slice al ln cl] w fun e w' => e = .returned (.tuple #[]) ∧ ∃ v', w'.heap[bk]? = some (.cells #[.int .i64 ((n : Int) + 1), c1, c2, c3, c4, v', c6, c7, c8, c9, c10, c11, c12] 50 (0, 0)) ∧
      w'.ownsRow 0 129 3 v' (E ++ [Ent.mk (.slice al ln cl) (.slice none 0 0) ln (n + 1)]).length ((E ++ [Ent.mk (.slice al ln cl) (.slice none 0 0) ln (n + 1)]).flatMap entCells) ∧ Moved w (.slice ao m cp) v' ∧ Wrote (fun b => b = bk ∨ (Value.slice ao m cp).ownBlock = some b) w w' := by
  have k := keepRow_any w bk n m cp 0 ln cl ao al c1 c2 c3 c4 c6 c7 c8 c9 c10 c11 c12 E hB hn hown hE hne
  clear hB hown
  go_enter Tryz.func166, Tryz.ntmps166
  go_wp2_with fail
  refine k.mono ?_
  rintro e w' ⟨rfl, H⟩
  go_wp2
  go_end0
  exact ⟨rfl, H⟩
end Go.Proofs.YtcgecdiaddcfkaaGreatDoor
/- The walk of a book that keeps one more list of this kind (Result). -/
set_option linter.unusedSimpArgs false
set_option linter.unusedVariables false
namespace Go.Proofs.YtcgecdiaddcfkaaGreatDoor
open Go.RowKit

theorem info_heldResult : (Tryz.prog.info? 147).map (fun i => (i.zero, i.size, i.bytes)) = some (some (.agg #[.slice none 0 0, .slice none 0 0, .int .i64 0]), 3, 56) := by kernel_rfl

set_option maxHeartbeats 2000000 in
set_option maxRecDepth 1000000 in
theorem keepResult_any (w : World) (bk n m cp al' ln cl : Nat) (ao al : Option Addr) (c1 c2 c3 c4 c5 c6 c7 c8 c10 c11 c12 : Value) (E : List Ent) (hB : w.heap[bk]? = some (.cells #[.int .i64 (n : Int), c1, c2, c3, c4, c5, c6, c7, c8, .slice ao m cp, c10, c11, c12] 50 (0, 0))) (hn : n ≤ 1000000)
    (hown : w.ownsRow 0 147 3 (.slice ao m cp) E.length (E.flatMap entCells)) (hE : E.length ≤ 1000000) (hne : (Value.slice ao m cp).ownBlock ≠ some bk) :
    Calls Tryz.prog 112 #[ptr bk, .slice al ln cl] w fun e w' => e = .returned (.tuple #[]) ∧ ∃ v', w'.heap[bk]? = some (.cells #[.int .i64 ((n : Int) + 1), c1, c2, c3, c4, c5, c6, c7, c8, v', c10, c11, c12] 50 (0, 0)) ∧
      w'.ownsRow 0 147 3 v' (E ++ [Ent.mk (.slice al ln cl) (.slice none 0 0) ln (n + 1)]).length ((E ++ [Ent.mk (.slice al ln cl) (.slice none 0 0) ln (n + 1)]).flatMap entCells) ∧ Moved w (.slice ao m cp) v' ∧ Wrote (fun b => b = bk ∨ (Value.slice ao m cp).ownBlock = some b) w w' := by
  obtain ⟨i0, hi, hz0, hz1, hz2⟩ := info_parts info_heldResult
  have hlt : bk < w.heap.size := by
    rcases Nat.lt_or_ge bk w.heap.size with h' | h'
    · exact h'
    · rw [Array.getElem?_eq_none h'] at hB; cases hB
  have c0 : w.cell? ⟨bk, 0, none⟩ = some (.int .i64 (n : Int)) := by simp [World.cell?, hB]
  have f0 := box_frozen (i := 0) hB
  have e1 : (w.setCell ⟨bk, 0, none⟩ (.int .i64 ((n : Int) + 1))).heap[bk]? = some (.cells #[.int .i64 ((n : Int) + 1), c1, c2, c3, c4, c5, c6, c7, c8, .slice ao m cp, c10, c11, c12] 50 (0, 0)) := by have := heap_setCell_same w bk 0 _ _ (.int .i64 ((n : Int) + 1)) hB; simpa using this
  have w1 : Wrote (fun b => b = bk ∨ (Value.slice ao m cp).ownBlock = some b) w (w.setCell ⟨bk, 0, none⟩ (.int .i64 ((n : Int) + 1))) := Wrote.set w bk 0 _ (.inl rfl)
  have o1 := own_wrote (d := fun b => b = bk) hown (Wrote.set w bk 0 (.int .i64 ((n : Int) + 1)) rfl) (fun b hb e => hne (by rw [hb, e]))
  have z1 : (w.setCell ⟨bk, 0, none⟩ (.int .i64 ((n : Int) + 1))).heap.size = w.heap.size := by simp [World.setCell]
  have X1 : Hid (Wrote (fun b => b = bk ∨ (Value.slice ao m cp).ownBlock = some b) w (w.setCell ⟨bk, 0, none⟩ (.int .i64 ((n : Int) + 1)))) := w1
  clear hB w1 hown
  go_enter Tryz.func112, Tryz.ntmps112
  go_wp2
  generalize w.setCell ⟨bk, 0, none⟩ (.int .i64 ((n : Int) + 1)) = W at *
  clear c0 f0
  have hltW : bk < W.heap.size := by omega
  have d0 : W.cell? ⟨bk, 0, none⟩ = some (.int .i64 ((n : Int) + 1)) := by simp [World.cell?, e1]
  have dF : W.cell? ⟨bk, 9, none⟩ = some (.slice ao m cp) := by simp [World.cell?, e1]
  have HE : Hid (W.heap[bk]? = some (.cells #[.int .i64 ((n : Int) + 1), c1, c2, c3, c4, c5, c6, c7, c8, .slice ao m cp, c10, c11, c12] 50 (0, 0))) := e1
  have o2 : Hid ((W.alloc (.cells #[.slice al ln cl, .slice none 0 0, .int .i64 ((n : Int) + 1)] 147)).drew.ownsRow 0 147 3 (.slice ao m cp) E.length (E.flatMap entCells)) := (o1.alloc _).drew
  have src : Hid (Src Tryz.prog 3 45 (.slice (some ⟨W.heap.size, 0, none⟩) 1 1) 1 [.slice al ln cl, .slice none 0 0, .int .i64 ((n : Int) + 1)] (W.alloc (.cells #[.slice al ln cl, .slice none 0 0, .int .i64 ((n : Int) + 1)] 147)).drew) := Src.ofSlice _ Tryz.underlying45 ⟨W.heap.size, 0, none⟩ 1 1 _ rfl (news_ofv [.slice al ln cl, .slice none 0 0, .int .i64 ((n : Int) + 1)] _) (by intro u hu; simp at hu; rcases hu with rfl | rfl | rfl <;> rfl)
  have bb : Hid (E.length + 1 ≤ maxLen ∧ (E.length + 1) * 56 ≤ 140737488355328) := by show _ ∧ _; unfold maxLen; omega
  have fin : Hid (∀ v' w2, w2.ownsRow 0 147 3 v' (E.length + 1) (E.flatMap entCells ++ [.slice al ln cl, .slice none 0 0, .int .i64 ((n : Int) + 1)]) → ((v'.ownBlock = (Value.slice ao m cp).ownBlock ∧ (W.alloc (.cells #[.slice al ln cl, .slice none 0 0, .int .i64 ((n : Int) + 1)] 147)).drew.grownBy w2 (Value.slice ao m cp).ownBlock) ∨ (v'.ownBlock = some (W.alloc (.cells #[.slice al ln cl, .slice none 0 0, .int .i64 ((n : Int) + 1)] 147)).drew.heap.size ∧ (W.alloc (.cells #[.slice al ln cl, .slice none 0 0, .int .i64 ((n : Int) + 1)] 147)).drew.grownBy w2 none)) →
      (w2.cell? ⟨bk, 9, none⟩ = some (.slice ao m cp) ∧ w2.frozen? ⟨bk, 9, none⟩ = false) ∧ Hid ((w2.setCell ⟨bk, 9, none⟩ v').heap[bk]? = some (.cells #[.int .i64 ((n : Int) + 1), c1, c2, c3, c4, c5, c6, c7, c8, v', c10, c11, c12] 50 (0, 0)) ∧
      (w2.setCell ⟨bk, 9, none⟩ v').ownsRow 0 147 3 v' (E ++ [Ent.mk (.slice al ln cl) (.slice none 0 0) ln (n + 1)]).length ((E ++ [Ent.mk (.slice al ln cl) (.slice none 0 0) ln (n + 1)]).flatMap entCells) ∧ Moved w (.slice ao m cp) v' ∧ Wrote (fun b => b = bk ∨ (Value.slice ao m cp).ownBlock = some b) w (w2.setCell ⟨bk, 9, none⟩ v'))) := by
    intro v' w2 ho hg
    have hblk : ∀ k, k < W.heap.size → (W.alloc (.cells #[.slice al ln cl, .slice none 0 0, .int .i64 ((n : Int) + 1)] 147)).drew.heap[k]? = W.heap[k]? := fun k hk => Below.block (B := W.heap.size) ((Below.refl W.heap.size W).alloc (Nat.le_refl _) _) k hk
    obtain ⟨g1, g2, g3, g4, g5⟩ := keep_fin (W := W) (F := 9) (bk := bk) ((hblk bk hltW).trans HE.out) (by simp) hblk ⟨rfl, rfl, rfl⟩ hltW hne ho hg
    refine ⟨⟨by simp [World.cell?, g1], box_frozen g1⟩, by simpa using g2, ?_, ?_, X1.out.trans g5⟩
    · rw [entCells_snoc, List.length_append]; exact g3
    · rcases g4 with g4 | ⟨b, g4, h4⟩
      · exact .inl g4
      · exact .inr ⟨b, g4, by omega⟩
  clear e1 o1 z1
  go_region_law (refine step_append_stays rfl (.tmp 15) (.tmp 22) 45 rfl 0 147 i0 (.agg #[.slice none 0 0, .slice none 0 0, .int .i64 0]) 3 56 Tryz.underlying45 hi hz0 hz1 hz2 rfl (by decide) (.slice ao m cp) E.length (E.flatMap entCells) (by simp [Act.eval, Act.put]) o2.out (.slice (some ⟨W.heap.size, 0, none⟩) 1 1) 1 _ (by simp [Act.eval, Act.put]) src.out bb.out.1 bb.out.2 (Nat.zero_le _) ?_; intro v' w2 ho hg; have R := fin.out v' w2 ho hg; obtain ⟨⟨r1, r2⟩, R⟩ := R; obtain ⟨av, nv, cv, rfl⟩ := own_slice ho)
  all_goals
    go_wp2
    go_end0
    exact ⟨rfl, _, R.out⟩

end Go.Proofs.YtcgecdiaddcfkaaGreatDoor
