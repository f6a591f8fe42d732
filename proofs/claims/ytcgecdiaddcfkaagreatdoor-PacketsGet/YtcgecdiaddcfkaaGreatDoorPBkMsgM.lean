import Derived.Test.YtcgecdiaddcfkaaGreatDoorPBkResultsM
import Derived.Test.YtcgecdiaddcfkaaGreatDoorM16
/- The walk of a book that keeps a message: its ops, its results. -/
set_option linter.unusedSimpArgs false
set_option linter.unusedVariables false
namespace Go.Proofs.YtcgecdiaddcfkaaGreatDoor
open Go.RowKit

set_option maxHeartbeats 1000000 in
theorem keepMsgsOpX {w : World} {bk n ln cl : Nat} {al : Option Addr} {xs : List Value} {vByte vRow vOp vResult : Value} {EByte ERow EOp EResult : List Ent} (I : BkMsgs w bk n vByte EByte vRow ERow vOp EOp vResult EResult) (hn : n ≤ 100000)
    (hx : w.ownsRow 0 85 4 (.slice al ln cl) ln xs) (hln : ln ≤ 1000000000) (hf : ∀ b, (Value.slice al ln cl).ownBlock = some b → b < bk ∧ ¬ LD EByte b ∧ ¬ LD ERow b ∧ ¬ LD EOp b ∧ ¬ LD EResult b) :
    Calls Tryz.prog 40 #[ptr bk, .slice al ln cl] w fun e w' => e = .returned (.tuple #[]) ∧ ∃ v', BkMsgs w' bk (n + 1) vByte EByte vRow ERow v' (EOp ++ [Ent.mk (.slice al ln cl) (.slice none 0 0) ln (n + 1)]) vResult EResult ∧ Wrote (fun b => bk ≤ b) w w' ∧ Wrote (fun b => b = bk ∨ vOp.ownBlock = some b) w w' := by
  have hlt := I.lt
  obtain ⟨ao, m, cp, rfl⟩ := own_slice I.kOp.held
  have fOp := I.fOp
  have nX : ¬ DD (.slice ao m cp) EOp bk := fun h => by
    rcases h with h | h
    · have := I.aOp bk h; omega
    · have := I.lOp bk h; omega
  refine (bookOps_any w bk n m cp ln cl ao al vByte (.slice none 0 0) (.slice none 0 0) (.slice none 0 0) vRow (.slice none 0 0) (.slice none 0 0) vResult (.slice none 0 0) (.slice none 0 0) (.slice none 0 0) EOp I.hB (by omega) I.kOp.held (by omega) (fun h => nX (.inl h))).mono ?_
  rintro e w' ⟨rfl, v', hB', ho, hm, hw⟩
  have hbX : ∀ b, (Value.slice al ln cl).ownBlock = some b → b ≠ bk ∧ ¬ DD (.slice ao m cp) EOp b := fun b hb => by
    have hb' := hf b hb
    refine ⟨by omega, fun h => ?_⟩
    rcases h with h | h
    · have := I.aOp b h; omega
    · exact hb'.2.2.2.1 h
  obtain ⟨kX, nX'⟩ := kat_more (x := Ent.mk (.slice al ln cl) (.slice none 0 0) ln (n + 1)) I.kOp ho hm hw hlt nX hx hln (by show n + 1 ≤ _; omega) rfl (by omega) hbX
  have hav : ∀ b, v'.ownBlock = some b → bk < b := fun b hb => by
    rcases hm with e | ⟨c, e, hc⟩
    · exact I.aOp b (by rw [← e]; exact hb)
    · rw [e] at hb; simp at hb; omega
  have hlv : ∀ b, LD (EOp ++ [Ent.mk (.slice al ln cl) (.slice none 0 0) ln (n + 1)]) b → LD EOp b ∨ (Value.slice al ln cl).ownBlock = some b := fun b ⟨y, hy, hb⟩ => by
    rcases List.mem_append.mp hy with hy | hy
    · exact .inl ⟨y, hy, hb⟩
    · rw [List.mem_singleton.mp hy] at hb; exact .inr hb
  have ooByte : ∀ b, v'.ownBlock = some b → vByte.ownBlock ≠ some b := fun b h1 h2 => by
    rcases hm with e | ⟨c, e, hc⟩
    · exact (fun b h1 h2 => I.oByteOp b h2 h1) b (by rw [← e]; exact h1) h2
    · rw [e] at h1
      simp at h1
      have := (I.kByte.held.lt b h2).2
      omega
  have ooRow : ∀ b, v'.ownBlock = some b → vRow.ownBlock ≠ some b := fun b h1 h2 => by
    rcases hm with e | ⟨c, e, hc⟩
    · exact (fun b h1 h2 => I.oRowOp b h2 h1) b (by rw [← e]; exact h1) h2
    · rw [e] at h1
      simp at h1
      have := (I.kRow.held.lt b h2).2
      omega
  have ooResult : ∀ b, v'.ownBlock = some b → vResult.ownBlock ≠ some b := fun b h1 h2 => by
    rcases hm with e | ⟨c, e, hc⟩
    · exact I.oOpResult b (by rw [← e]; exact h1) h2
    · rw [e] at h1
      simp at h1
      have := (I.kResult.held.lt b h2).2
      omega
  refine ⟨rfl, v', ⟨by rw [show (((n + 1 : Nat)) : Int) = (n : Int) + 1 from by omega]; exact hB', I.kByte.wrote hw (fun b hb hd => by
    rcases hd with rfl | hd
    · rcases hb with hb | hb
      · have := I.aByte _ hb; omega
      · have := I.lByte _ hb; omega
    · rcases hb with hb | hb
      · exact (fun b h1 h2 => I.oByteOp b h2 h1) b hd hb
      · have := I.aOp b hd
        have := I.lByte b hb
        omega), I.aByte, I.lByte, (by have := I.fByte; omega), I.kRow.wrote hw (fun b hb hd => by
    rcases hd with rfl | hd
    · rcases hb with hb | hb
      · have := I.aRow _ hb; omega
      · have := I.lRow _ hb; omega
    · rcases hb with hb | hb
      · exact (fun b h1 h2 => I.oRowOp b h2 h1) b hd hb
      · have := I.aOp b hd
        have := I.lRow b hb
        omega), I.aRow, I.lRow, (by have := I.fRow; omega), kX, hav, (fun b h => (hlv b h).elim (I.lOp b) (fun h => (hf b h).1)), (by rw [List.length_append]; show _ + 1 ≤ _; omega), I.kResult.wrote hw (fun b hb hd => by
    rcases hd with rfl | hd
    · rcases hb with hb | hb
      · have := I.aResult _ hb; omega
      · have := I.lResult _ hb; omega
    · rcases hb with hb | hb
      · exact I.oOpResult b hd hb
      · have := I.aOp b hd
        have := I.lResult b hb
        omega), I.aResult, I.lResult, (by have := I.fResult; omega), I.dByteRow, I.oByteRow, (fun b h1 h2 => (fun b h => (hlv b h).elim ((fun b h1 h2 => I.dByteOp b h2 h1) b) (fun h2 => (hf b h2).2.1)) b h2 h1), (fun b h1 h2 => ooByte b h2 h1), I.dByteResult, I.oByteResult, (fun b h1 h2 => (fun b h => (hlv b h).elim ((fun b h1 h2 => I.dRowOp b h2 h1) b) (fun h2 => (hf b h2).2.2.1)) b h2 h1), (fun b h1 h2 => ooRow b h2 h1), I.dRowResult, I.oRowResult, (fun b h => (hlv b h).elim (I.dOpResult b) (fun h2 => (hf b h2).2.2.2.2)), ooResult⟩, ?_, hw⟩
  exact hw.weak (fun b _ h => by
    rcases h with rfl | h
    · exact Nat.le_refl _
    · have := I.aOp b h; omega)

set_option maxHeartbeats 2000000 in
set_option maxRecDepth 1000000 in
theorem bookMsg_any {w : World} {bk n no co cb : Nat} {ao bo : Option Addr} {xs : List Value} {vByte vRow vOp vResult : Value} {EByte ERow EOp EResult : List Ent} (I : BkMsgs w bk n vByte EByte vRow ERow vOp EOp vResult EResult) (l : List ResP) (s f t g : Int) (hn : n + l.length ≤ 80000)
    (hx : w.ownsRow 0 85 4 (.slice ao no co) no xs) (hno : no ≤ 1000000000) (hfx : ∀ b, (Value.slice ao no co).ownBlock = some b → b < bk ∧ ¬ LD EByte b ∧ ¬ LD ERow b ∧ ¬ LD EOp b ∧ ¬ LD EResult b)
    (hv : w.ownsRow 0 89 1 (.slice bo l.length cb) l.length (l.flatMap resCells)) (hr : ∀ p ∈ l, p.2.length ≤ 1000000000 ∧ ∃ xs, w.ownsRow 0 92 2 p.1 p.2.length xs)
    (hpair : l.Pairwise (fun p q => ∀ g, p.1.ownBlock = some g → q.1.ownBlock ≠ some g)) (hap : ∀ p ∈ l, ∀ g, p.1.ownBlock = some g → (Value.slice bo l.length cb).ownBlock ≠ some g)
    (hf : ∀ p ∈ l, ∀ b, p.1.ownBlock = some b → b < bk ∧ ¬ LD EByte b ∧ ¬ LD ERow b ∧ (¬ LD EOp b ∧ (Value.slice ao no co).ownBlock ≠ some b) ∧ ¬ LD EResult b)
    (hg : ∀ b, (Value.slice bo l.length cb).ownBlock = some b → b < bk ∧ ¬ LD EByte b ∧ ¬ LD ERow b ∧ (¬ LD EOp b ∧ (Value.slice ao no co).ownBlock ≠ some b) ∧ ¬ LD EResult b) :
    Calls Tryz.prog 13 #[ptr bk, .agg #[.int .u8 s, .int .u8 f, .int .u8 t, .int .u32 g, .slice ao no co, .slice bo l.length cb]] w fun e w' => e = .returned (.tuple #[]) ∧ ∃ vO vR ER vS, BkMsgs w' bk (n + l.length + 2) vByte EByte vR ER vO (EOp ++ [Ent.mk (.slice ao no co) (.slice none 0 0) no (n + 1)]) vS (EResult ++ [Ent.mk (.slice bo l.length cb) (.slice none 0 0) l.length (n + l.length + 2)]) ∧ (∀ b, LD ER b → LD ERow b ∨ ∃ p ∈ l, p.1.ownBlock = some b) ∧ Wrote (fun b => bk ≤ b) w w' := by
  have hlt := I.lt
  obtain ⟨W1, hW1⟩ : ∃ W1, W1 = w.alloc (.cells #[.int .u8 s, .int .u8 f, .int .u8 t, .int .u32 g, .slice ao no co, .slice bo l.length cb] 27) := ⟨_, rfl⟩
  have hbA : Below w.heap.size w W1 := by rw [hW1]; exact below_one w _
  have HW1 : Wrote (fun b => bk ≤ b) w W1 := .of_below hbA
  have P1 : W1.heap[w.heap.size]? = some (.cells #[.int .u8 s, .int .u8 f, .int .u8 t, .int .u32 g, .slice ao no co, .slice bo l.length cb] 27 (0, 0)) := by rw [hW1]; exact heap_alloc_new w _
  have z1 : w.heap.size < W1.heap.size := by rw [hW1]; simp
  have nO : ∀ b, vOp.ownBlock = some b → b < w.heap.size := fun b h => (I.kOp.held.lt b h).2
  have I1 : BkMsgs W1 bk n vByte EByte vRow ERow vOp EOp vResult EResult :=
    { I with
      hB := (hbA.block bk hlt).trans I.hB
      kByte := I.kByte.wrote (d := fun _ => False) (.of_below hbA) (fun _ _ h => h)
      kRow := I.kRow.wrote (d := fun _ => False) (.of_below hbA) (fun _ _ h => h)
      kOp := I.kOp.wrote (d := fun _ => False) (.of_below hbA) (fun _ _ h => h)
      kResult := I.kResult.wrote (d := fun _ => False) (.of_below hbA) (fun _ _ h => h) }
  have k := keepMsgsOpX I1 (by omega) (own_of_block hx (fun b hb' => hbA.block b (hx.lt b hb').2)) hno hfx
  have fin : Hid (∀ w2 v', BkMsgs w2 bk (n + 1) vByte EByte vRow ERow v' (EOp ++ [Ent.mk (.slice ao no co) (.slice none 0 0) no (n + 1)]) vResult EResult → Wrote (fun b => bk ≤ b) W1 w2 → Wrote (fun b => b = bk ∨ vOp.ownBlock = some b) W1 w2 →
      w2.cell? ⟨w.heap.size, 5, none⟩ = some (.slice bo l.length cb) ∧
      Calls Tryz.prog 41 #[ptr bk, .slice bo l.length cb] w2 fun e w' => e = .returned (.tuple #[]) ∧ ∃ vR ER vS, BkMsgs w' bk (n + l.length + 2) vByte EByte vR ER v' (EOp ++ [Ent.mk (.slice ao no co) (.slice none 0 0) no (n + 1)]) vS (EResult ++ [Ent.mk (.slice bo l.length cb) (.slice none 0 0) l.length (n + l.length + 2)]) ∧ (∀ b, LD ER b → LD ERow b ∨ ∃ p ∈ l, p.1.ownBlock = some b) ∧ Wrote (fun b => bk ≤ b) w w') := fun w2 v' I' hw hw2 => by
    have W2 := HW1.trans hw
    have hld : ∀ b, LD (EOp ++ [Ent.mk (.slice ao no co) (.slice none 0 0) no (n + 1)]) b → LD EOp b ∨ (Value.slice ao no co).ownBlock = some b := fun b ⟨y, hy, hb⟩ => by
      rcases List.mem_append.mp hy with hy | hy
      · exact .inl ⟨y, hy, hb⟩
      · rw [List.mem_singleton.mp hy] at hb; exact .inr hb
    refine ⟨?_, ?_⟩
    · have hb2 : w2.heap[w.heap.size]? = W1.heap[w.heap.size]? := hw2.block _ z1 (fun h => by
        rcases h with h | h
        · omega
        · have := nO _ h; omega)
      exact (six_cells (hb2.trans P1)).2.2.2.2.2
    · refine (bookResults_any I' l (by omega) (own_wrote hv W2 (fun b hb hd => by have := (hg b hb).1; omega)) (fun p hp => ?_) hpair hap (fun p hp b hb => ?_) (fun b hb => ?_)).mono ?_
      · obtain ⟨a1, ys, a2⟩ := hr p hp
        exact ⟨a1, ys, own_wrote a2 W2 (fun b hb hd => by have := (hf p hp b hb).1; omega)⟩
      · obtain ⟨a1, a2, a3, a4, a5⟩ := hf p hp b hb
        exact ⟨a1, a2, a3, fun h => (hld b h).elim a4.1 a4.2, a5⟩
      · obtain ⟨a1, a2, a3, a4, a5⟩ := hg b hb
        exact ⟨a1, a2, a3, fun h => (hld b h).elim a4.1 a4.2, a5⟩
      · rintro e w' ⟨rfl, vR, ER, vS, J, hE, hW⟩
        refine ⟨rfl, vR, ER, vS, ?_, hE, W2.trans hW⟩
        rw [show n + l.length + 2 = n + 1 + l.length + 1 by omega]
        exact J
  clear I I1 hbA HW1 nO hx hfx hv hr hpair hap hf hg
  have c4 := (six_cells P1).2.2.2.2.1
  clear P1
  go_enter Tryz.func13, Tryz.ntmps13
  go_wp2_with fail
  rw [← hW1]
  clear hW1
  refine k.mono ?_
  rintro e w2 ⟨rfl, v', I', hw, hw2⟩
  obtain ⟨c5, k2⟩ := fin.out w2 v' I' hw hw2
  clear fin k I' hw hw2 c4
  go_wp2_with fail
  refine k2.mono ?_
  rintro e w3 ⟨rfl, h3⟩
  have H3 : Hid _ := h3
  clear k2 h3 c5
  go_wp2
  go_end0
  exact ⟨rfl, v', H3.out⟩
end Go.Proofs.YtcgecdiaddcfkaaGreatDoor
