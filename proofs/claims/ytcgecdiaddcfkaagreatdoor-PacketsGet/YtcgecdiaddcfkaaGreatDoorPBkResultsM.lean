import Derived.Test.YtcgecdiaddcfkaaGreatDoorRBiMsgsM
import Derived.Test.YtcgecdiaddcfkaaGreatDoorRGet3M
/- The walks of a book that keeps results, and of one that keeps a message: its ops, each result's rows, the results. -/
set_option linter.unusedSimpArgs false
set_option linter.unusedVariables false
namespace Go.Proofs.YtcgecdiaddcfkaaGreatDoor
open Go.RowKit

set_option maxHeartbeats 1000000 in
set_option maxRecDepth 1000000 in
theorem bookResult_any {w : World} {bk n ln cl : Nat} {al : Option Addr} {xs : List Value} {vByte vRow vOp vResult : Value} {EByte ERow EOp EResult : List Ent} (I : BkMsgs w bk n vByte EByte vRow ERow vOp EOp vResult EResult) (hn : n ≤ 100000)
    (hx : w.ownsRow 0 92 2 (.slice al ln cl) ln xs) (hln : ln ≤ 1000000000) (hf : ∀ b, (Value.slice al ln cl).ownBlock = some b → b < bk ∧ ¬ LD EByte b ∧ ¬ LD ERow b ∧ ¬ LD EOp b ∧ ¬ LD EResult b) :
    Calls Tryz.prog 111 #[ptr bk, .agg #[.slice al ln cl]] w fun e w' => e = .returned (.tuple #[]) ∧ ∃ v', BkMsgs w' bk (n + 1) vByte EByte v' (ERow ++ [Ent.mk (.slice al ln cl) (.slice none 0 0) ln (n + 1)]) vOp EOp vResult EResult ∧ Wrote (fun b => bk ≤ b) w w' := by
  have hlt := I.lt
  have W1 : Wrote (fun b => bk ≤ b) w (w.alloc (.cells #[.slice al ln cl] 89)) := Wrote.alloc w _
  have hbA := (Below.refl w.heap.size w).alloc (Nat.le_refl _) (.cells #[.slice al ln cl] 89)
  have I1 : BkMsgs (w.alloc (.cells #[.slice al ln cl] 89)) bk n vByte EByte vRow ERow vOp EOp vResult EResult :=
    { I with
      hB := (hbA.block bk hlt).trans I.hB
      kByte := I.kByte.wrote (d := fun _ => False) (.of_below hbA) (fun _ _ h => h)
      kRow := I.kRow.wrote (d := fun _ => False) (.of_below hbA) (fun _ _ h => h)
      kOp := I.kOp.wrote (d := fun _ => False) (.of_below hbA) (fun _ _ h => h)
      kResult := I.kResult.wrote (d := fun _ => False) (.of_below hbA) (fun _ _ h => h) }
  have k := keepMsgsRow I1 hn (own_of_block hx (fun b hb' => hbA.block b (hx.lt b hb').2)) hln hf
  have c0 : (w.alloc (.cells #[.slice al ln cl] 89)).cell? ⟨w.heap.size, 0, none⟩ = some (.slice al ln cl) := block_cell (heap_alloc_new w _) 0 _ rfl
  have HW : Hid (Wrote (fun b => bk ≤ b) w (w.alloc (.cells #[.slice al ln cl] 89))) := W1
  clear I I1 hbA W1
  go_enter Tryz.func111, Tryz.ntmps111
  go_wp2_with fail
  refine k.mono ?_
  rintro e w' ⟨rfl, v', I', hw⟩
  have H : Hid (∃ v', BkMsgs w' bk (n + 1) vByte EByte v' (ERow ++ [Ent.mk (.slice al ln cl) (.slice none 0 0) ln (n + 1)]) vOp EOp vResult EResult ∧ Wrote (fun b => bk ≤ b) w w') := ⟨v', I', HW.out.trans hw⟩
  clear I' hw k HW
  go_wp2
  go_end0
  exact ⟨rfl, H.out⟩

theorem take_mem {α : Type} {l : List α} {k : Nat} {p : α} (h : p ∈ l.take (k + 1)) (hk : k < l.length) : p ∈ l.take k ∨ p = l[k]'hk := by
  rw [List.take_succ_eq_append_getElem hk] at h
  rcases List.mem_append.mp h with h | h
  · exact .inl h
  · exact .inr (List.mem_singleton.mp h)
theorem pair_take {α : Type} {R : α → α → Prop} {l : List α} (h : l.Pairwise R) {k : Nat} (hk : k < l.length) {p : α} (hp : p ∈ l.take k) : R p (l[k]'hk) := by
  have h2 := h
  rw [← List.take_append_drop k l, List.pairwise_append] at h2
  exact h2.2.2 p hp _ (by rw [List.drop_eq_getElem_cons hk]; exact List.mem_cons_self)

set_option maxHeartbeats 2000000 in
set_option maxRecDepth 1000000 in
theorem bookResults_any {w : World} {bk n cl : Nat} {al : Option Addr} {vByte vRow vOp vResult : Value} {EByte ERow EOp EResult : List Ent} (I : BkMsgs w bk n vByte EByte vRow ERow vOp EOp vResult EResult) (l : List ResP) (hn : n + l.length ≤ 90000)
    (hv : w.ownsRow 0 89 1 (.slice al l.length cl) l.length (l.flatMap resCells)) (hr : ∀ p ∈ l, p.2.length ≤ 1000000000 ∧ ∃ xs, w.ownsRow 0 92 2 p.1 p.2.length xs)
    (hpair : l.Pairwise (fun p q => ∀ g, p.1.ownBlock = some g → q.1.ownBlock ≠ some g)) (hap : ∀ p ∈ l, ∀ g, p.1.ownBlock = some g → (Value.slice al l.length cl).ownBlock ≠ some g)
    (hf : ∀ p ∈ l, ∀ b, p.1.ownBlock = some b → b < bk ∧ ¬ LD EByte b ∧ ¬ LD ERow b ∧ ¬ LD EOp b ∧ ¬ LD EResult b) (hg : ∀ b, (Value.slice al l.length cl).ownBlock = some b → b < bk ∧ ¬ LD EByte b ∧ ¬ LD ERow b ∧ ¬ LD EOp b ∧ ¬ LD EResult b) :
    Calls Tryz.prog 41 #[ptr bk, .slice al l.length cl] w fun e w' => e = .returned (.tuple #[]) ∧ ∃ vR ER vS, BkMsgs w' bk (n + l.length + 1) vByte EByte vR ER vOp EOp vS (EResult ++ [Ent.mk (.slice al l.length cl) (.slice none 0 0) l.length (n + l.length + 1)]) ∧ (∀ b, LD ER b → LD ERow b ∨ ∃ p ∈ l, p.1.ownBlock = some b) ∧ Wrote (fun b => bk ≤ b) w w' := by
  have hlt := I.lt
  have hlen : l.length ≤ 90000 := by omega
  go_enter Tryz.func41, Tryz.ntmps41
  go_wp2
  go_loopw [4] (fun i wr => ∃ (k : Nat) (vR : Value) (ER : List Ent), k ≤ l.length ∧ i = .int .i64 k ∧ BkMsgs wr bk (n + k) vByte EByte vR ER vOp EOp vResult EResult ∧ (∀ b, LD ER b → LD ERow b ∨ ∃ p ∈ l.take k, p.1.ownBlock = some b) ∧ Wrote (fun b => bk ≤ b) w wr) (fun i _ => l.length - (intOf i).toNat)
  case atStart => exact ⟨0, vRow, ERow, by omega, rfl, I, fun b h => .inl h, Wrote.refl _ _⟩
  case round =>
    obtain ⟨k, vR, ER, hk, rfl, J, hE, hW⟩ := hrel
    have hvW : wr.ownsRow 0 89 1 (.slice al l.length cl) l.length (l.flatMap resCells) := own_wrote hv hW (fun b hb hd => by have := (hg b hb).1; omega)
    by_cases h1 : k < l.length
    · obtain ⟨p, hp⟩ : ∃ p, p = l[k]'h1 := ⟨_, rfl⟩
      have hpm : p ∈ l := by rw [hp]; exact List.getElem_mem _
      obtain ⟨hp1, xs, hp2⟩ := hr p hpm
      have hfp := hf p hpm
      have hp3 : wr.ownsRow 0 92 2 p.1 p.2.length xs := own_wrote hp2 hW (fun b hb hd => by have := (hfp b hb).1; omega)
      have hfr : ∀ b, p.1.ownBlock = some b → b < bk ∧ ¬ LD EByte b ∧ ¬ LD ER b ∧ ¬ LD EOp b ∧ ¬ LD EResult b := fun b hb => by
        obtain ⟨a1, a2, a3, a4⟩ := hfp b hb
        refine ⟨a1, a2, fun h => ?_, a4⟩
        rcases hE b h with h | ⟨q, hq, hqb⟩
        · exact a3 h
        · have := pair_take hpair h1 hq b hqb
          rw [← hp] at this
          exact this hb
      obtain ⟨g, cap, eg, -, hgl⟩ := hvW.form (by omega)
      simp only [Value.slice.injEq, true_and] at eg
      obtain ⟨rfl, rfl⟩ := eg
      have c0 : wr.cell? ⟨g, k, none⟩ = some p.1 := by
        have := hvW.cells (g := g) rfl k p.1 (by
          have := flat_get (f := resCells) (size := 1) (fun _ => rfl) l k h1 0 (by omega)
          rw [Nat.mul_one, Nat.add_zero] at this
          rw [this, ← hp]; rfl)
        rw [Addr.add_lit] at this
        simpa using this
      obtain ⟨ap, cp, hp4, -, -⟩ := own_len' hp3
      have kb : Calls Tryz.prog 111 #[ptr bk, .agg #[.slice ap p.2.length cp]] wr fun e w' => e = .returned (.tuple #[]) ∧ ∃ v', BkMsgs w' bk (n + k + 1) vByte EByte v' (ER ++ [Ent.mk (.slice ap p.2.length cp) (.slice none 0 0) p.2.length (n + k + 1)]) vOp EOp vResult EResult ∧ Wrote (fun b => bk ≤ b) wr w' := bookResult_any J (by omega) (by rw [← hp4]; exact hp3) hp1 (by rw [← hp4]; exact hfr)
      rw [hp4] at c0
      have fin : Hid (∀ w' v', BkMsgs w' bk (n + k + 1) vByte EByte v' (ER ++ [Ent.mk (.slice ap p.2.length cp) (.slice none 0 0) p.2.length (n + k + 1)]) vOp EOp vResult EResult → Wrote (fun b => bk ≤ b) wr w' → ∃ (vR : Value) (ER : List Ent), BkMsgs w' bk (n + (k + 1)) vByte EByte vR ER vOp EOp vResult EResult ∧ (∀ b, LD ER b → LD ERow b ∨ ∃ p ∈ l.take (k + 1), p.1.ownBlock = some b) ∧ Wrote (fun b => bk ≤ b) w w') := fun w' v' I' hw => by
        refine ⟨v', _, I', fun b h => ?_, hW.trans hw⟩
        obtain ⟨y, hy, hb⟩ := h
        rcases List.mem_append.mp hy with hy | hy
        · rcases hE b ⟨y, hy, hb⟩ with h | ⟨q, hq, hqb⟩
          · exact .inl h
          · exact .inr ⟨q, by rw [List.take_succ_eq_append_getElem h1]; exact List.mem_append_left _ hq, hqb⟩
        · rw [List.mem_singleton.mp hy] at hb
          exact .inr ⟨p, by rw [List.take_succ_eq_append_getElem h1, ← hp]; exact List.mem_append_right _ (List.mem_singleton.mpr rfl), by rw [hp4]; exact hb⟩
      have i1 : (k : Int) < (l.length : Int) := by omega
      clear J hE hW hvW hp2 hp3 hfr hfp hp
      go_wp2_with fail
      refine kb.mono ?_
      rintro e w' ⟨rfl, v', I', hw⟩
      have HF : Hid _ := fin.out w' v' I' hw
      clear kb fin I' hw
      go_wp2
      go_roundw
      case rel =>
        obtain ⟨vR, ER, q1, q2, q3⟩ := HF.out
        exact ⟨k + 1, vR, ER, by omega, by go_num, q1, q2, q3⟩
      case measure => simp [intOf]; omega
    · obtain rfl : k = l.length := by omega
      have hE2 : ∀ b, LD ER b → LD ERow b ∨ ∃ p ∈ l, p.1.ownBlock = some b := fun b h => by
        have := hE b h
        rw [List.take_of_length_le (Nat.le_refl _)] at this
        exact this
      have kb := keepMsgsResult J (by omega) hvW (by omega) (fun b hb => by
        obtain ⟨a1, a2, a3, a4⟩ := hg b hb
        refine ⟨a1, a2, fun h => ?_, a4⟩
        rcases hE2 b h with h | ⟨q, hq, hqb⟩
        · exact a3 h
        · exact hap q hq b hqb hb)
      have fin : Hid (∀ w' vS, BkMsgs w' bk (n + l.length + 1) vByte EByte vR ER vOp EOp vS (EResult ++ [Ent.mk (.slice al l.length cl) (.slice none 0 0) l.length (n + l.length + 1)]) → Wrote (fun b => bk ≤ b) wr w' → ∃ vR ER vS, BkMsgs w' bk (n + l.length + 1) vByte EByte vR ER vOp EOp vS (EResult ++ [Ent.mk (.slice al l.length cl) (.slice none 0 0) l.length (n + l.length + 1)]) ∧ (∀ b, LD ER b → LD ERow b ∨ ∃ p ∈ l, p.1.ownBlock = some b) ∧ Wrote (fun b => bk ≤ b) w w') := fun w' vS I' hw => ⟨vR, ER, vS, I', hE2, hW.trans hw⟩
      have i1 : ¬ ((l.length : Int) < (l.length : Int)) := by omega
      clear J hE hE2 hW hvW
      go_wp2_with fail
      refine kb.mono ?_
      rintro e w' ⟨rfl, vS, I', hw⟩
      have HF : Hid _ := fin.out w' vS I' hw
      clear kb fin I' hw
      go_wp2
      go_end0
      exact ⟨rfl, HF.out⟩
end Go.Proofs.YtcgecdiaddcfkaaGreatDoor
