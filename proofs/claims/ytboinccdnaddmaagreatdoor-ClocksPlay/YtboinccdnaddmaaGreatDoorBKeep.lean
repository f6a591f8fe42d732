/- Append as one step of a region that draws its order; what is left where a list is kept in a book. -/
import Derived.Test.YtboinccdnaddmaaGreatDoorBBook2
import Derived.Deep.RegionLaw
set_option linter.unusedSimpArgs false
set_option linter.unusedVariables false
namespace Go.Proofs.YtboinccdnaddmaaGreatDoor
open Go.RowKit

theorem step_append_stays {P : Program} {ops : Array Oper} {o : Oper} {a : Act} {w : World} {K : Act → World → Prop} {Q : Exit → Act → World → Prop} {E : Prop}
    (hg : o.guard = none) (s x : Operand) (t : TypeId) (hop : o.op = Op.call { callee := Callee.builtin Builtin.append, args := #[s, x], argTypes := #[t, t] })
    (base : Nat) (e : TypeId) (i : TypeInfo) (z : Value) (size bytes : Nat) (ht : P.underlying t = some (.slice e)) (hi : P.info? e = some i) (hz : i.zero = some z) (hsize : i.size = size) (hby : i.bytes = bytes) (hzs : z.cells.size = size) (hsz : 0 < size)
    (v : Value) (n : Nat) (xs : List Value) (hs : a.eval s = v) (hown : w.ownsRow base e size v n xs)
    (u : Value) (m : Nat) (news : List Value) (hx : a.eval x = u) (hsrc : Src P size t u m news w)
    (h63 : n + m ≤ maxLen) (hbytes : (n + m) * bytes ≤ 140737488355328) (hbase : base ≤ w.heap.size)
    (hK : ∀ v' w', w'.ownsRow base e size v' (n + m) (xs ++ news) → ((v'.ownBlock = v.ownBlock ∧ w.grownBy w' v.ownBlock) ∨ (v'.ownBlock = some w.heap.size ∧ w.grownBy w' none)) → K (a.put o.dst v') w') :
    if Region.wanted o (yielded ops a.tmps) = true then Oper.wp P o a w K Q else E := by
  have hw : Region.wanted o (yielded ops a.tmps) = true := by simp [Region.wanted, hg]
  rw [if_pos hw]
  obtain ⟨v', w', hr, h2, h3⟩ := run_append_stays (P := P) w base t t o.type e i z size bytes ht hi hz hsize hby hzs hsz v n xs hown u m news hsrc h63 hbytes hbase
  unfold Oper.wp
  simp [execOp, hop, resolve, invoke, builtin, hs, hx, hr, Result.andThen]
  exact hK v' w' h2 h3

/-- Where the row of a book's kind lies behind one more was kept. -/
def Moved (w : World) (v v' : Value) : Prop := v'.ownBlock = v.ownBlock ∨ ∃ b, v'.ownBlock = some b ∧ w.heap.size ≤ b
theorem keep_fin {W W2 w2 : World} {bk F : Nat} {arr : Array Value} {t th : TypeId} {v v' : Value} {n : Nat} {xs : List Value}
    (hB : W2.heap[bk]? = some (.cells arr t (0, 0))) (hz : W.heap.size ≤ W2.heap.size) (hblk : ∀ k, k < W.heap.size → W2.heap[k]? = W.heap[k]?) (hos : W2.os = W.os ∧ W2.tape = W.tape ∧ W2.output = W.output) (hlt : bk < W.heap.size)
    (hne : v.ownBlock ≠ some bk) (ho : w2.ownsRow 0 th 3 v' n xs) (hg : (v'.ownBlock = v.ownBlock ∧ W2.grownBy w2 v.ownBlock) ∨ (v'.ownBlock = some W2.heap.size ∧ W2.grownBy w2 none)) :
    w2.heap[bk]? = some (.cells arr t (0, 0)) ∧ (w2.setCell ⟨bk, F, none⟩ v').heap[bk]? = some (.cells (arr.setIfInBounds F v') t (0, 0)) ∧ (w2.setCell ⟨bk, F, none⟩ v').ownsRow 0 th 3 v' n xs ∧ Moved W v v' ∧ Wrote (fun b => b = bk ∨ v.ownBlock = some b) W (w2.setCell ⟨bk, F, none⟩ v') := by
  have hb2 : w2.heap[bk]? = some (.cells arr t (0, 0)) := by
    rcases hg with ⟨-, g⟩ | ⟨-, g⟩
    · rw [g.block bk (by omega) (fun e => hne e.symm)]; exact hB
    · rw [g.block bk (by omega) (by simp)]; exact hB
  have W1 : Wrote (fun b => b = bk ∨ v.ownBlock = some b) W w2 := by
    rcases hg with ⟨-, g⟩ | ⟨-, g⟩
    · exact ⟨g.os.trans hos.1, g.tape.trans hos.2.1, g.output.trans hos.2.2, Nat.le_trans hz g.size, fun k hk hn => by rw [g.block k (by omega) (fun e => hn (.inr e.symm))]; exact hblk k hk⟩
    · exact ⟨g.os.trans hos.1, g.tape.trans hos.2.1, g.output.trans hos.2.2, Nat.le_trans hz g.size, fun k hk hn => by rw [g.block k (by omega) (by simp)]; exact hblk k hk⟩
  have hv' : v'.ownBlock ≠ some bk := by
    rcases hg with ⟨e, -⟩ | ⟨e, -⟩
    · rw [e]; exact hne
    · rw [e]; simp; omega
  refine ⟨hb2, heap_setCell_same w2 bk F arr t v' hb2, own_wrote (d := fun b => b = bk) ho (Wrote.set w2 bk F v' rfl) (fun b hb e => hv' (by rw [hb, e])), ?_, W1.trans (Wrote.set w2 bk F v' (.inl rfl))⟩
  rcases hg with ⟨e, -⟩ | ⟨e, -⟩
  · exact .inl e
  · exact .inr ⟨_, e, hz⟩
theorem entCells_snoc (E : List Ent) (x : Ent) : (E ++ [x]).flatMap entCells = E.flatMap entCells ++ entCells x := by simp
end Go.Proofs.YtboinccdnaddmaaGreatDoor
