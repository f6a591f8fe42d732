/- A copy into bytes that are owned; noughts that are made. -/
import Derived.Test.YtjaidhglemnakaaFBs
import Derived.Laws.CopyRow
import Derived.Laws.CopyOwn
set_option linter.unusedSimpArgs false
set_option linter.unusedVariables false
namespace Go.Proofs.Ytjaidhglemnakaa
open Go.RowKit

theorem info_u8s : (Try.prog.info? 5).map (·.size) = some 1 := by kernel_rfl
theorem made_zero (n : Nat) : (madeCells (Value.int .u8 0).cells (n * 1)).toList = bcells (List.replicate n 0) := by
  unfold bcells
  rw [List.map_replicate, Nat.mul_one]
  apply List.ext_getElem
  · simp [madeCells]
  · intro i h1 h2
    simp [madeCells, bv, Value.cells, Nat.mod_one]
theorem wrt_all (n : Nat) (l : List UInt8) (h : l.length = n) : wrt (List.replicate n 0) 0 l = l := by
  unfold wrt
  rw [List.take_zero, List.drop_of_length_le (by rw [List.length_replicate]; omega)]
  simp
theorem copy_bs {w : World} {base g n cap off lim : Nat} {bs l : List UInt8} {v : Value} (h : BsAt w base (.slice (some ⟨g, 0, none⟩) n cap) bs) (hl : InAt w lim v l) (dl dc : Nat) (hfit : off + l.length ≤ bs.length) (hd : l.length ≤ dl) :
    ∃ w1, (Builtin.copy_ #[22, 22] 3 #[.slice (some ⟨g, off, none⟩) dl dc, v]).run Try.prog w = .ok (.int .i64 (l.length : Int)) w1 ∧ BsAt w1 base (.slice (some ⟨g, 0, none⟩) n cap) (wrt bs off l) ∧ Kept g w.heap.size w w1 := by
  obtain ⟨ao, vc, rfl, h1, h2, h3⟩ := hl
  by_cases h0 : l.length = 0
  · obtain rfl : l = [] := List.eq_nil_of_length_eq_zero h0
    refine ⟨w, run_copy_none (P := Try.prog) _ 22 22 3 5 _ _ _ _ _ _ Try.underlying22 info_u8s (by simp), by rw [wrt_nil]; exact h, Kept.refl _ _ _⟩
  · obtain ⟨b, o, rfl, hb, hc⟩ := h3 (by omega)
    rcases h.2 with ⟨e, hn⟩ | ⟨g', cap', cur, e, hbg, hg, hnc, hcm, hcs, ht⟩
    · cases e
    · simp only [Value.slice.injEq, Option.some.injEq, Addr.mk.injEq] at e
      obtain ⟨⟨rfl, -⟩, rfl, rfl⟩ := e
      rw [Nat.mul_one] at hcs ht
      have hrun := run_copy_row (P := Try.prog) w 22 22 3 5 g off dl dc ⟨b, o, none⟩ l.length vc cur 5 (bcells l) Try.underlying22 info_u8s hg (by rw [bcells_len]; show l.length = min l.length dl; omega) (fun j u hu => by
        have hj : j < l.length := by
          rcases Nat.lt_or_ge j l.length with h' | h'
          · exact h'
          · rw [List.getElem?_eq_none (by rw [bcells_len]; exact h')] at hu; cases hu
        have := hc j hj 0 _ rfl
        rw [Addr.add_lit]
        rw [show o + j * 1 + 0 = o + j by omega] at this
        rw [this, ← hu]
        simp [bcells, hj]) (by rw [bcells_len]; omega) (bcells_one l)
      rw [bcells_len] at hrun
      have hwl := wrt_len bs off l hfit
      refine ⟨_, hrun, ⟨by rw [bcells_len, Nat.mul_one], .inr ⟨g, cap, _, by rw [hwl], hbg, setRow_heap w g cur _ _ _ hg, by rw [hwl]; exact hnc, hcm, ?_, ?_⟩⟩, ⟨rfl, rfl, rfl, by simp, fun k hk hne => setRow_other w g k _ hne⟩⟩
      · simp only [List.size_toArray, List.length_append, List.length_take, List.length_drop, Array.length_toList, bcells_len]
        omega
      · rw [Nat.mul_one, hwl]
        have e1 : cur.toList = bcells bs ++ cur.toList.drop bs.length := by rw [← ht, List.take_append_drop]
        have hB : (bcells bs).length = bs.length := bcells_len bs
        generalize cur.toList.drop bs.length = rest at e1
        have t1 : (bcells bs ++ rest).take off = bcells (bs.take off) := by rw [List.take_append_of_le_length (by omega)]; unfold bcells; rw [List.map_take]
        have t2 : (bcells bs ++ rest).drop (off + l.length) = bcells (bs.drop (off + l.length)) ++ rest := by rw [List.drop_append_of_le_length (by omega)]; unfold bcells; rw [List.map_drop]
        rw [e1, t1, t2]
        unfold wrt
        rw [bcells_app, bcells_app]
        show List.take _ (bcells (bs.take off) ++ bcells l ++ (bcells (bs.drop (off + l.length)) ++ rest)) = _
        rw [List.append_assoc, ← List.append_assoc (bcells l), ← List.append_assoc (bcells (bs.take off))]
        refine List.take_left' ?_
        rw [List.length_append, List.length_append, bcells_len, bcells_len, bcells_len, List.length_take, List.length_drop]
        omega
end Go.Proofs.Ytjaidhglemnakaa
