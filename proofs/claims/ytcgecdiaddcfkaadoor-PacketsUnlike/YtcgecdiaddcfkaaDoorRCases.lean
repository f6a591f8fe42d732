/- What is put, and what is got, by the answer. -/
import Derived.Test.YtcgecdiaddcfkaaDoorRLaw
set_option linter.unusedSimpArgs false
set_option linter.unusedVariables false
namespace Go.Proofs.YtcgecdiaddcfkaaDoor
open Go.RowKit

theorem own_len {w : World} {base : Nat} {e : TypeId} {size : Nat} {v : Value} {n : Nat} {xs : List Value} (h : w.ownsRow base e size v n xs) : ∃ ao c, v = .slice ao n c := by
  rcases h.2 with ⟨rfl, rfl⟩ | ⟨g, cap, cur, rfl, _⟩
  · exact ⟨_, _, rfl⟩
  · exact ⟨_, _, rfl⟩

theorem PutOps_arg {w : World} {vl : Value} {l : List OpD} (hs : SlAt 4 opCells w w.heap.size vl l) (hsm : ∀ x ∈ l, opSm x) (h : l.all opOk = false) :
    Calls Tryd.prog 13 #[vl] w fun e w' => ∃ ao c, e = .returned (.tuple #[.slice ao 0 c, .int .i64 1]) ∧ Below w.heap.size w w' := by
  have k := PutOps_any w vl l hs hsm
  rw [putOps_arg h] at k
  refine k.mono ?_
  rintro e w' ⟨v, rfl, h1, h2⟩
  obtain ⟨ao, c, rfl⟩ := own_len h1
  exact ⟨ao, c, rfl, h2⟩
theorem PutOps_limit {w : World} {vl : Value} {l : List OpD} (hs : SlAt 4 opCells w w.heap.size vl l) (hsm : ∀ x ∈ l, opSm x) (h : l.all opOk = true) (hn : ¬ l.length ≤ 16) :
    Calls Tryd.prog 13 #[vl] w fun e w' => ∃ ao c, e = .returned (.tuple #[.slice ao 0 c, .int .i64 3]) ∧ Below w.heap.size w w' := by
  have k := PutOps_any w vl l hs hsm
  rw [putOps_limit h hn] at k
  refine k.mono ?_
  rintro e w' ⟨v, rfl, h1, h2⟩
  obtain ⟨ao, c, rfl⟩ := own_len h1
  exact ⟨ao, c, rfl, h2⟩
theorem PutOps_fits {w : World} {vl : Value} {l : List OpD} (hs : SlAt 4 opCells w w.heap.size vl l) (hsm : ∀ x ∈ l, opSm x) (h : l.all opOk = true) (hn : l.length ≤ 16) :
    Calls Tryd.prog 13 #[vl] w fun e w' => ∃ ao c, e = .returned (.tuple #[.slice ao (encList encOp l).length c, .int .i64 0]) ∧ BsAt w' w.heap.size (.slice ao (encList encOp l).length c) (encList encOp l) ∧ Below w.heap.size w w' := by
  have k := PutOps_any w vl l hs hsm
  rw [putOps_fits h hn] at k
  refine k.mono ?_
  rintro e w' ⟨v, rfl, h1, h2⟩
  obtain ⟨ao, c, hv⟩ := own_len h1
  simp only at hv h1
  subst hv
  exact ⟨ao, c, rfl, h1, h2⟩

theorem GetOps_none {w : World} {vb : Value} {bs : List UInt8} (hb : InAt w w.heap.size vb bs) (h : getOps bs = ([], 4)) :
    Calls Tryd.prog 25 #[vb] w fun e w' => ∃ ao c, e = .returned (.tuple #[.slice ao 0 c, .int .i64 4]) ∧ Below w.heap.size w w' := by
  have k := GetOps_any w vb bs hb
  rw [h] at k
  refine k.mono ?_
  rintro e w' ⟨v, rfl, h1, h2⟩
  obtain ⟨ao, c, rfl⟩ := own_len h1
  exact ⟨ao, c, rfl, h2⟩
theorem GetOps_some {w : World} {vb : Value} {bs : List UInt8} {l : List OpD} (hb : InAt w w.heap.size vb bs) (h : getOps bs = (l, 0)) :
    Calls Tryd.prog 25 #[vb] w fun e w' => ∃ ao c, e = .returned (.tuple #[.slice ao l.length c, .int .i64 0]) ∧ w'.ownsRow w.heap.size 49 4 (.slice ao l.length c) l.length (l.flatMap opCells) ∧ Below w.heap.size w w' := by
  have k := GetOps_any w vb bs hb
  rw [h] at k
  refine k.mono ?_
  rintro e w' ⟨v, rfl, h1, h2⟩
  obtain ⟨ao, c, hv⟩ := own_len h1
  simp only at hv h1
  subst hv
  exact ⟨ao, c, rfl, h1, h2⟩
theorem getOps_two (bs : List UInt8) : (∃ l, getOps bs = (l, 0) ∧ l.all opOk = true ∧ l.length ≤ 16 ∧ encList encOp l = bs) ∨ getOps bs = ([], 4) := by
  rcases whole_iff good_op (most := 16) (by omega) bs with h | h
  · exact .inl h
  · exact .inr h.1
theorem getOps_put {l : List OpD} (h : l.all opOk = true) (hn : l.length ≤ 16) : getOps (encList encOp l) = (l, 0) := whole_put good_op (by omega) l h hn

theorem getChs_two (bs : List UInt8) : (∃ l, getChs bs = (l, 0) ∧ l.all chOk = true ∧ l.length ≤ 4096 ∧ encList encCh l = bs) ∨ getChs bs = ([], 4) := by
  rcases whole_iff good_ch (most := 4096) (by omega) bs with h | h
  · exact .inl h
  · exact .inr h.1
theorem getChs_put {l : List ChD} (h : l.all chOk = true) (hn : l.length ≤ 4096) : getChs (encList encCh l) = (l, 0) := whole_put good_ch (by omega) l h hn

theorem putResP_arg {l : List ResP} (h : l.all resOkP = false) : putRes (l.map (·.2)) = ([], 1) := by
  unfold putRes; rw [all_P, if_neg (by simp [h])]
theorem putResP_limit {l : List ResP} (h : l.all resOkP = true) (hn : ¬ (l.length ≤ 16 ∧ l.all fewP = true)) : putRes (l.map (·.2)) = ([], 3) := by
  unfold putRes; rw [all_P, if_pos h, few_P, List.length_map, if_neg hn]
theorem putResP_fits {l : List ResP} (h : l.all resOkP = true) (hn : l.length ≤ 16 ∧ l.all fewP = true) : putRes (l.map (·.2)) = (encList encResP l, 0) := by
  unfold putRes; rw [all_P, if_pos h, few_P, List.length_map, if_pos hn, encList_P]

theorem PutResults_arg {w : World} {vl : Value} {l : List ResP} (hs : ResAt w w.heap.size vl l) (h : l.all resOkP = false) :
    Calls Tryd.prog 14 #[vl] w fun e w' => ∃ ao c, e = .returned (.tuple #[.slice ao 0 c, .int .i64 1]) ∧ Below w.heap.size w w' := by
  have k := PutResults_any w vl l hs
  rw [putResP_arg h] at k
  refine k.mono ?_
  rintro e w' ⟨v, rfl, h1, h2⟩
  obtain ⟨ao, c, rfl⟩ := own_len h1
  exact ⟨ao, c, rfl, h2⟩
theorem PutResults_limit {w : World} {vl : Value} {l : List ResP} (hs : ResAt w w.heap.size vl l) (h : l.all resOkP = true) (hn : ¬ (l.length ≤ 16 ∧ l.all fewP = true)) :
    Calls Tryd.prog 14 #[vl] w fun e w' => ∃ ao c, e = .returned (.tuple #[.slice ao 0 c, .int .i64 3]) ∧ Below w.heap.size w w' := by
  have k := PutResults_any w vl l hs
  rw [putResP_limit h hn] at k
  refine k.mono ?_
  rintro e w' ⟨v, rfl, h1, h2⟩
  obtain ⟨ao, c, rfl⟩ := own_len h1
  exact ⟨ao, c, rfl, h2⟩
theorem PutResults_fits {w : World} {vl : Value} {l : List ResP} (hs : ResAt w w.heap.size vl l) (h : l.all resOkP = true) (hn : l.length ≤ 16 ∧ l.all fewP = true) :
    Calls Tryd.prog 14 #[vl] w fun e w' => ∃ ao c, e = .returned (.tuple #[.slice ao (encList encResP l).length c, .int .i64 0]) ∧ BsAt w' w.heap.size (.slice ao (encList encResP l).length c) (encList encResP l) ∧ Below w.heap.size w w' := by
  have k := PutResults_any w vl l hs
  rw [putResP_fits h hn] at k
  refine k.mono ?_
  rintro e w' ⟨v, rfl, h1, h2⟩
  obtain ⟨ao, c, hv⟩ := own_len h1
  simp only at hv h1
  subst hv
  exact ⟨ao, c, rfl, h1, h2⟩

theorem GetResults_none {w : World} {vb : Value} {bs : List UInt8} (hb : InAt w w.heap.size vb bs) (h : getRes bs = ([], 4)) :
    Calls Tryd.prog 26 #[vb] w fun e w' => ∃ ao c, e = .returned (.tuple #[.slice ao 0 c, .int .i64 4]) ∧ Below w.heap.size w w' := by
  have k := GetResults_any w vb bs hb
  rw [h] at k
  refine k.mono ?_
  rintro e w' ⟨v, rfl, ⟨l, h1, hm⟩, h2⟩
  have hl : l = [] := by simpa using hm
  subst hl
  obtain ⟨ao, c, rfl⟩ := own_len h1.own
  exact ⟨ao, c, rfl, h2⟩
theorem GetResults_some {w : World} {vb : Value} {bs : List UInt8} {m : List (List RowD)} (hb : InAt w w.heap.size vb bs) (h : getRes bs = (m, 0)) :
    Calls Tryd.prog 26 #[vb] w fun e w' => ∃ ao c l, e = .returned (.tuple #[.slice ao m.length c, .int .i64 0]) ∧ OwnRes w' w.heap.size (.slice ao m.length c) l ∧ l.map (·.2) = m ∧ Below w.heap.size w w' := by
  have k := GetResults_any w vb bs hb
  rw [h] at k
  refine k.mono ?_
  rintro e w' ⟨v, rfl, ⟨l, h1, hm⟩, h2⟩
  simp only at hm
  obtain ⟨ao, c, hv⟩ := own_len h1.own
  have hlen : l.length = m.length := by rw [← hm]; simp
  rw [hlen] at hv
  subst hv
  exact ⟨ao, c, l, rfl, h1, hm, h2⟩
theorem okFew (m : List (List RowD)) : m.all (fun l => resOk l && decide (l.length ≤ 256)) = (m.all resOk && m.all (fun r => decide (r.length ≤ 256))) := by
  induction m with
  | nil => rfl
  | cons x m ih => simp only [List.all_cons, ih]; cases resOk x <;> cases decide (x.length ≤ 256) <;> simp
theorem getRes_two (bs : List UInt8) : (∃ m, getRes bs = (m, 0) ∧ m.all resOk = true ∧ m.length ≤ 16 ∧ m.all (fun r => decide (r.length ≤ 256)) = true ∧ encList encRes m = bs) ∨ getRes bs = ([], 4) := by
  rcases whole_iff good_res (most := 16) (by omega) bs with ⟨m, h1, h2, h3, h4⟩ | h
  · rw [okFew, Bool.and_eq_true] at h2
    exact .inl ⟨m, h1, h2.1, h3, h2.2, h4⟩
  · exact .inr h.1
theorem getRes_put {m : List (List RowD)} (h : m.all resOk = true) (hn : m.length ≤ 16) (hf : m.all (fun r => decide (r.length ≤ 256)) = true) : getRes (encList encRes m) = (m, 0) :=
  whole_put good_res (by omega) m (by rw [okFew, h, hf]; rfl) hn
end Go.Proofs.YtcgecdiaddcfkaaDoor
