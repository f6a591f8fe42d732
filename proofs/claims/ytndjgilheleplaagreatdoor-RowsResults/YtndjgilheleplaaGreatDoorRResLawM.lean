import Derived.Test.YtndjgilheleplaaGreatDoorRBkResultsM
import Derived.Test.YtndjgilheleplaaGreatDoorM8
import Derived.Test.YtndjgilheleplaaGreatDoorM9
import Derived.Test.YtndjgilheleplaaGreatDoorRRgResM
import Derived.Test.YtndjgilheleplaaGreatDoorRSameRM
/- What holds of the lists of RowsResults. -/
set_option linter.unusedSimpArgs false
set_option linter.unusedVariables false
namespace Go.Proofs.YtndjgilheleplaaGreatDoor
open Go.RowKit

/-- The copy of results: n of them from block g on, and the spare one behind them. -/
structure TwM (w : World) (g n sb : Nat) (ms : List ResP) : Prop where
  rows : TwRes w g ms
  own : w.ownsRow g 106 1 (.slice (some ⟨g, 0, none⟩) (n + 1) (n + 1)) (n + 1) (ms.flatMap resCells ++ [.slice (some ⟨sb, 0, none⟩) 1 1])
  sp : w.heap[sb]? = some (.cells #[.string ⟨#[115, 112, 97, 114, 101]⟩, .int .u32 0] 109 (0, 0))
  len : ms.length = n
theorem TwM.below {w w' : World} {g n sb : Nat} {ms : List ResP} (h : TwM w g n sb ms) (hb : Below w.heap.size w w') : TwM w' g n sb ms :=
  ⟨h.rows.below hb, own_below h.own hb, (hb.block sb (lt_of_some h.sp)).trans h.sp, h.len⟩
theorem TwM.first {w : World} {g n sb : Nat} {ms : List ResP} (h : TwM w g n sb ms) : w.ownsRow g 106 1 (.slice (some ⟨g, 0, none⟩) n (n + 1)) n (ms.flatMap resCells) := own_first h.own (by rw [flat_len (s := 1) (fun _ => rfl), h.len])
theorem TwM.at {w : World} {g n sb : Nat} {ms : List ResP} (h : TwM w g n sb ms) (hs : ∀ p ∈ ms, ∀ x ∈ p.2, rowSm x) : ResAt w w.heap.size (.slice (some ⟨g, 0, none⟩) n (n + 1)) ms := by
  have h1 := h.first
  have hl := h.len
  subst hl
  refine ⟨sl_own resCells_len h1, fun p hp => ⟨?_, hs p hp⟩⟩
  obtain ⟨c, -, e, ho⟩ := h.rows.rows p hp
  rw [e]
  exact sl_own rowCells_len (twin_own rowCells_len ho)
theorem OwnRes.wrote {d : Nat → Prop} {w w' : World} {base : Nat} {v : Value} {l : List ResP} (h : OwnRes w base v l) (hw : Wrote d w w') (h1 : ∀ b, v.ownBlock = some b → ¬ d b) (h2 : ∀ p ∈ l, ∀ b, p.1.ownBlock = some b → ¬ d b) : OwnRes w' base v l :=
  ⟨own_wrote h.own hw h1, fun p hp => own_wrote (h.rows p hp) hw (h2 p hp), h.apart, h.pair⟩
theorem mem_snd {ms l : List ResP} (h : ms.map (·.2) = l.map (·.2)) {p : ResP} (hp : p ∈ ms) : ∃ q ∈ l, q.2 = p.2 := by
  have : p.2 ∈ l.map (·.2) := by rw [← h]; exact List.mem_map_of_mem hp
  obtain ⟨q, hq, e⟩ := List.mem_map.mp this
  exact ⟨q, hq, e⟩
theorem getRes_few (bs : List UInt8) : (getRes bs).1.length ≤ 16 ∧ ∀ r ∈ (getRes bs).1, r.length ≤ 256 ∧ ∀ x ∈ r, rowSm x := by
  rcases getRes_two bs with ⟨m, h, h2, h3, h4, -⟩ | h
  · rw [h]
    refine ⟨h3, fun r hr => ⟨of_decide_eq_true (List.all_eq_true.mp h4 r hr), fun x hx => ?_⟩⟩
    have := chk_size (show chk x.key = true from List.all_eq_true.mp (List.all_eq_true.mp h2 r hr) x hx)
    show x.key.size ≤ maxLen
    unfold maxLen; omega
  · rw [h]
    exact ⟨by show 0 ≤ 16; omega, fun r hr => by cases hr⟩
theorem putRes_few (m : List (List RowD)) : (putRes m).1.length ≤ 1000000000 := by
  by_cases h : m.all resOk = true
  · by_cases hn : m.length ≤ 16 ∧ m.all (fun r => decide (r.length ≤ 256)) = true
    · rw [putRes_fits h hn]
      have e : m = (m.map (fun r => ((.slice none 0 0, r) : ResP))).map (·.2) := by rw [List.map_map]; exact (List.map_id m).symm
      have h' : (m.map (fun r => ((.slice none 0 0, r) : ResP))).all resOkP = true := by rw [← all_P, ← e]; exact h
      have hf' : (m.map (fun r => ((.slice none 0 0, r) : ResP))).all fewP = true := by rw [← few_P, ← e]; exact hn.2
      have := res_len h' hf'
      show (encList encRes m).length ≤ _
      rw [e, ← encList_P]
      unfold encList
      rw [List.length_append, be2_len]
      rw [List.length_map] at this
      have := hn.1
      omega
    · rw [putRes_limit h hn]; show 0 ≤ _; omega
  · rw [putRes_arg (by simpa using h)]; show 0 ≤ _; omega
theorem bookResultsN {w : World} {bk n cl ln : Nat} {al : Option Addr} {vByte vRow vResult : Value} {EByte ERow EResult : List Ent} (I : BkRes w bk n vByte EByte vRow ERow vResult EResult) (l : List ResP) (hln : l.length = ln) (hn : n + ln ≤ 90000)
    (hv : w.ownsRow 0 106 1 (.slice al ln cl) ln (l.flatMap resCells)) (hr : ∀ p ∈ l, p.2.length ≤ 1000000000 ∧ ∃ xs, w.ownsRow 0 109 2 p.1 p.2.length xs)
    (hpair : l.Pairwise (fun p q => ∀ g, p.1.ownBlock = some g → q.1.ownBlock ≠ some g)) (hap : ∀ p ∈ l, ∀ g, p.1.ownBlock = some g → (Value.slice al ln cl).ownBlock ≠ some g)
    (hf : ∀ p ∈ l, ∀ b, p.1.ownBlock = some b → b < bk ∧ ¬ LD EByte b ∧ ¬ LD ERow b ∧ ¬ LD EResult b) (hg : ∀ b, (Value.slice al ln cl).ownBlock = some b → b < bk ∧ ¬ LD EByte b ∧ ¬ LD ERow b ∧ ¬ LD EResult b) :
    Calls Tryz.prog 30 #[ptr bk, .slice al ln cl] w fun e w' => e = .returned (.tuple #[]) ∧ ∃ vR ER vS, BkRes w' bk (n + ln + 1) vByte EByte vR ER vS (EResult ++ [Ent.mk (.slice al ln cl) (.slice none 0 0) ln (n + ln + 1)]) ∧ (∀ b, LD ER b → LD ERow b ∨ ∃ p ∈ l, p.1.ownBlock = some b) ∧ Wrote (fun b => bk ≤ b) w w' := by
  subst hln
  exact bookResults_any I l hn hv hr hpair hap hf hg
theorem ldR_two {v l1 l2 : Value} {n1 n2 k1 k2 b : Nat} (h : LD ([] ++ [Ent.mk l1 v n1 k1] ++ [Ent.mk l2 v n2 k2]) b) : l1.ownBlock = some b ∨ l2.ownBlock = some b := by
  obtain ⟨x, hx, h⟩ := h
  simp at hx
  rcases hx with rfl | rfl
  · exact .inl h
  · exact .inr h
theorem ldR_one {v l1 : Value} {n1 k1 b : Nat} (h : LD ([] ++ [Ent.mk l1 v n1 k1]) b) : l1.ownBlock = some b := by
  obtain ⟨x, hx, h⟩ := h
  simp at hx
  subst hx
  exact h
theorem ldR_no {b : Nat} (h : LD [] b) : False := by
  obtain ⟨x, hx, h⟩ := h
  cases hx
end Go.Proofs.YtndjgilheleplaaGreatDoor
