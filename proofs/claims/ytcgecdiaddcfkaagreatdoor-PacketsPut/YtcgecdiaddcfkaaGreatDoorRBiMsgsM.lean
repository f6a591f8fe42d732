import Derived.Test.YtcgecdiaddcfkaaGreatDoorM8
import Derived.Test.YtcgecdiaddcfkaaGreatDoorM7
import Derived.Test.YtcgecdiaddcfkaaGreatDoorRApMsgsM
import Derived.Test.YtcgecdiaddcfkaaGreatDoorRKatM
/- A book that holds lists of these kinds alone: Byte, Row, Op, Result: what holds of it, one more being kept, Apart. -/
set_option linter.unusedSimpArgs false
set_option linter.unusedVariables false
namespace Go.Proofs.YtcgecdiaddcfkaaGreatDoor
open Go.RowKit

structure BkMsgs (w : World) (bk n : Nat) (vByte : Value) (EByte : List Ent) (vRow : Value) (ERow : List Ent) (vOp : Value) (EOp : List Ent) (vResult : Value) (EResult : List Ent) : Prop where
  hB : w.heap[bk]? = some (.cells #[.int .i64 (n : Int), vByte, .slice none 0 0, .slice none 0 0, .slice none 0 0, vRow, vOp, .slice none 0 0, .slice none 0 0, vResult, .slice none 0 0, .slice none 0 0, .slice none 0 0] 50 (0, 0))
  kByte : KAt w 114 5 1 vByte EByte
  aByte : ∀ b, vByte.ownBlock = some b → bk < b
  lByte : ∀ b, LD EByte b → b < bk
  fByte : EByte.length ≤ n
  kRow : KAt w 129 92 2 vRow ERow
  aRow : ∀ b, vRow.ownBlock = some b → bk < b
  lRow : ∀ b, LD ERow b → b < bk
  fRow : ERow.length ≤ n
  kOp : KAt w 132 85 4 vOp EOp
  aOp : ∀ b, vOp.ownBlock = some b → bk < b
  lOp : ∀ b, LD EOp b → b < bk
  fOp : EOp.length ≤ n
  kResult : KAt w 147 89 1 vResult EResult
  aResult : ∀ b, vResult.ownBlock = some b → bk < b
  lResult : ∀ b, LD EResult b → b < bk
  fResult : EResult.length ≤ n
  dByteRow : ∀ b, LD EByte b → ¬ LD ERow b
  oByteRow : ∀ b, vByte.ownBlock = some b → vRow.ownBlock ≠ some b
  dByteOp : ∀ b, LD EByte b → ¬ LD EOp b
  oByteOp : ∀ b, vByte.ownBlock = some b → vOp.ownBlock ≠ some b
  dByteResult : ∀ b, LD EByte b → ¬ LD EResult b
  oByteResult : ∀ b, vByte.ownBlock = some b → vResult.ownBlock ≠ some b
  dRowOp : ∀ b, LD ERow b → ¬ LD EOp b
  oRowOp : ∀ b, vRow.ownBlock = some b → vOp.ownBlock ≠ some b
  dRowResult : ∀ b, LD ERow b → ¬ LD EResult b
  oRowResult : ∀ b, vRow.ownBlock = some b → vResult.ownBlock ≠ some b
  dOpResult : ∀ b, LD EOp b → ¬ LD EResult b
  oOpResult : ∀ b, vOp.ownBlock = some b → vResult.ownBlock ≠ some b
theorem BkMsgs.lt {w : World} {bk n : Nat} {vByte vRow vOp vResult : Value} {EByte ERow EOp EResult : List Ent} (I : BkMsgs w bk n vByte EByte vRow ERow vOp EOp vResult EResult) : bk < w.heap.size := by
  rcases Nat.lt_or_ge bk w.heap.size with h' | h'
  · exact h'
  · have := I.hB; rw [Array.getElem?_eq_none h'] at this; cases this
theorem BkMsgs.new (w : World) : BkMsgs (w.alloc (.cells #[.int .i64 0, .slice none 0 0, .slice none 0 0, .slice none 0 0, .slice none 0 0, .slice none 0 0, .slice none 0 0, .slice none 0 0, .slice none 0 0, .slice none 0 0, .slice none 0 0, .slice none 0 0, .slice none 0 0] 50)) w.heap.size 0 (.slice none 0 0) [] (.slice none 0 0) [] (.slice none 0 0) [] (.slice none 0 0) [] :=
  ⟨by show (w.heap.push _)[w.heap.size]? = _; exact Array.getElem?_push_size, KAt_nil _ _ _ _, (fun b h => by cases h), (fun b ⟨x, hx, _⟩ => by cases hx), Nat.le_refl _, KAt_nil _ _ _ _, (fun b h => by cases h), (fun b ⟨x, hx, _⟩ => by cases hx), Nat.le_refl _, KAt_nil _ _ _ _, (fun b h => by cases h), (fun b ⟨x, hx, _⟩ => by cases hx), Nat.le_refl _, KAt_nil _ _ _ _, (fun b h => by cases h), (fun b ⟨x, hx, _⟩ => by cases hx), Nat.le_refl _, (fun b ⟨x, hx, _⟩ => by cases hx), (fun b h => by cases h), (fun b ⟨x, hx, _⟩ => by cases hx), (fun b h => by cases h), (fun b ⟨x, hx, _⟩ => by cases hx), (fun b h => by cases h), (fun b ⟨x, hx, _⟩ => by cases hx), (fun b h => by cases h), (fun b ⟨x, hx, _⟩ => by cases hx), (fun b h => by cases h), (fun b ⟨x, hx, _⟩ => by cases hx), (fun b h => by cases h)⟩

set_option maxHeartbeats 1000000 in
theorem keepMsgsByte {w : World} {bk n ln cl : Nat} {al : Option Addr} {xs : List Value} {vByte vRow vOp vResult : Value} {EByte ERow EOp EResult : List Ent} (I : BkMsgs w bk n vByte EByte vRow ERow vOp EOp vResult EResult) (hn : n ≤ 100000)
    (hx : w.ownsRow 0 5 1 (.slice al ln cl) ln xs) (hln : ln ≤ 1000000000) (hf : ∀ b, (Value.slice al ln cl).ownBlock = some b → b < bk ∧ ¬ LD EByte b ∧ ¬ LD ERow b ∧ ¬ LD EOp b ∧ ¬ LD EResult b) :
    Calls Tryz.prog 14 #[ptr bk, .slice al ln cl] w fun e w' => e = .returned (.tuple #[]) ∧ ∃ v', BkMsgs w' bk (n + 1) v' (EByte ++ [Ent.mk (.slice al ln cl) (.slice none 0 0) ln (n + 1)]) vRow ERow vOp EOp vResult EResult ∧ Wrote (fun b => bk ≤ b) w w' := by
  have hlt := I.lt
  obtain ⟨ao, m, cp, rfl⟩ := own_slice I.kByte.held
  have fByte := I.fByte
  have nX : ¬ DD (.slice ao m cp) EByte bk := fun h => by
    rcases h with h | h
    · have := I.aByte bk h; omega
    · have := I.lByte bk h; omega
  refine (bookBytes_any w bk n m cp ln cl ao al (.slice none 0 0) (.slice none 0 0) (.slice none 0 0) vRow vOp (.slice none 0 0) (.slice none 0 0) vResult (.slice none 0 0) (.slice none 0 0) (.slice none 0 0) EByte I.hB (by omega) I.kByte.held (by omega) (fun h => nX (.inl h))).mono ?_
  rintro e w' ⟨rfl, v', hB', ho, hm, hw⟩
  have hbX : ∀ b, (Value.slice al ln cl).ownBlock = some b → b ≠ bk ∧ ¬ DD (.slice ao m cp) EByte b := fun b hb => by
    have hb' := hf b hb
    refine ⟨by omega, fun h => ?_⟩
    rcases h with h | h
    · have := I.aByte b h; omega
    · exact hb'.2.1 h
  obtain ⟨kX, nX'⟩ := kat_more (x := Ent.mk (.slice al ln cl) (.slice none 0 0) ln (n + 1)) I.kByte ho hm hw hlt nX hx hln (by show n + 1 ≤ _; omega) rfl (by omega) hbX
  have hav : ∀ b, v'.ownBlock = some b → bk < b := fun b hb => by
    rcases hm with e | ⟨c, e, hc⟩
    · exact I.aByte b (by rw [← e]; exact hb)
    · rw [e] at hb; simp at hb; omega
  have hlv : ∀ b, LD (EByte ++ [Ent.mk (.slice al ln cl) (.slice none 0 0) ln (n + 1)]) b → LD EByte b ∨ (Value.slice al ln cl).ownBlock = some b := fun b ⟨y, hy, hb⟩ => by
    rcases List.mem_append.mp hy with hy | hy
    · exact .inl ⟨y, hy, hb⟩
    · rw [List.mem_singleton.mp hy] at hb; exact .inr hb
  have ooRow : ∀ b, v'.ownBlock = some b → vRow.ownBlock ≠ some b := fun b h1 h2 => by
    rcases hm with e | ⟨c, e, hc⟩
    · exact I.oByteRow b (by rw [← e]; exact h1) h2
    · rw [e] at h1
      simp at h1
      have := (I.kRow.held.lt b h2).2
      omega
  have ooOp : ∀ b, v'.ownBlock = some b → vOp.ownBlock ≠ some b := fun b h1 h2 => by
    rcases hm with e | ⟨c, e, hc⟩
    · exact I.oByteOp b (by rw [← e]; exact h1) h2
    · rw [e] at h1
      simp at h1
      have := (I.kOp.held.lt b h2).2
      omega
  have ooResult : ∀ b, v'.ownBlock = some b → vResult.ownBlock ≠ some b := fun b h1 h2 => by
    rcases hm with e | ⟨c, e, hc⟩
    · exact I.oByteResult b (by rw [← e]; exact h1) h2
    · rw [e] at h1
      simp at h1
      have := (I.kResult.held.lt b h2).2
      omega
  refine ⟨rfl, v', ⟨by rw [show (((n + 1 : Nat)) : Int) = (n : Int) + 1 from by omega]; exact hB', kX, hav, (fun b h => (hlv b h).elim (I.lByte b) (fun h => (hf b h).1)), (by rw [List.length_append]; show _ + 1 ≤ _; omega), I.kRow.wrote hw (fun b hb hd => by
    rcases hd with rfl | hd
    · rcases hb with hb | hb
      · have := I.aRow _ hb; omega
      · have := I.lRow _ hb; omega
    · rcases hb with hb | hb
      · exact I.oByteRow b hd hb
      · have := I.aByte b hd
        have := I.lRow b hb
        omega), I.aRow, I.lRow, (by have := I.fRow; omega), I.kOp.wrote hw (fun b hb hd => by
    rcases hd with rfl | hd
    · rcases hb with hb | hb
      · have := I.aOp _ hb; omega
      · have := I.lOp _ hb; omega
    · rcases hb with hb | hb
      · exact I.oByteOp b hd hb
      · have := I.aByte b hd
        have := I.lOp b hb
        omega), I.aOp, I.lOp, (by have := I.fOp; omega), I.kResult.wrote hw (fun b hb hd => by
    rcases hd with rfl | hd
    · rcases hb with hb | hb
      · have := I.aResult _ hb; omega
      · have := I.lResult _ hb; omega
    · rcases hb with hb | hb
      · exact I.oByteResult b hd hb
      · have := I.aByte b hd
        have := I.lResult b hb
        omega), I.aResult, I.lResult, (by have := I.fResult; omega), (fun b h => (hlv b h).elim (I.dByteRow b) (fun h2 => (hf b h2).2.2.1)), ooRow, (fun b h => (hlv b h).elim (I.dByteOp b) (fun h2 => (hf b h2).2.2.2.1)), ooOp, (fun b h => (hlv b h).elim (I.dByteResult b) (fun h2 => (hf b h2).2.2.2.2)), ooResult, I.dRowOp, I.oRowOp, I.dRowResult, I.oRowResult, I.dOpResult, I.oOpResult⟩, ?_⟩
  exact hw.weak (fun b _ h => by
    rcases h with rfl | h
    · exact Nat.le_refl _
    · have := I.aByte b h; omega)

set_option maxHeartbeats 1000000 in
theorem keepMsgsRow {w : World} {bk n ln cl : Nat} {al : Option Addr} {xs : List Value} {vByte vRow vOp vResult : Value} {EByte ERow EOp EResult : List Ent} (I : BkMsgs w bk n vByte EByte vRow ERow vOp EOp vResult EResult) (hn : n ≤ 100000)
    (hx : w.ownsRow 0 92 2 (.slice al ln cl) ln xs) (hln : ln ≤ 1000000000) (hf : ∀ b, (Value.slice al ln cl).ownBlock = some b → b < bk ∧ ¬ LD EByte b ∧ ¬ LD ERow b ∧ ¬ LD EOp b ∧ ¬ LD EResult b) :
    Calls Tryz.prog 166 #[ptr bk, .slice al ln cl] w fun e w' => e = .returned (.tuple #[]) ∧ ∃ v', BkMsgs w' bk (n + 1) vByte EByte v' (ERow ++ [Ent.mk (.slice al ln cl) (.slice none 0 0) ln (n + 1)]) vOp EOp vResult EResult ∧ Wrote (fun b => bk ≤ b) w w' := by
  have hlt := I.lt
  obtain ⟨ao, m, cp, rfl⟩ := own_slice I.kRow.held
  have fRow := I.fRow
  have nX : ¬ DD (.slice ao m cp) ERow bk := fun h => by
    rcases h with h | h
    · have := I.aRow bk h; omega
    · have := I.lRow bk h; omega
  refine (bookRows_any w bk n m cp ln cl ao al vByte (.slice none 0 0) (.slice none 0 0) (.slice none 0 0) vOp (.slice none 0 0) (.slice none 0 0) vResult (.slice none 0 0) (.slice none 0 0) (.slice none 0 0) ERow I.hB (by omega) I.kRow.held (by omega) (fun h => nX (.inl h))).mono ?_
  rintro e w' ⟨rfl, v', hB', ho, hm, hw⟩
  have hbX : ∀ b, (Value.slice al ln cl).ownBlock = some b → b ≠ bk ∧ ¬ DD (.slice ao m cp) ERow b := fun b hb => by
    have hb' := hf b hb
    refine ⟨by omega, fun h => ?_⟩
    rcases h with h | h
    · have := I.aRow b h; omega
    · exact hb'.2.2.1 h
  obtain ⟨kX, nX'⟩ := kat_more (x := Ent.mk (.slice al ln cl) (.slice none 0 0) ln (n + 1)) I.kRow ho hm hw hlt nX hx hln (by show n + 1 ≤ _; omega) rfl (by omega) hbX
  have hav : ∀ b, v'.ownBlock = some b → bk < b := fun b hb => by
    rcases hm with e | ⟨c, e, hc⟩
    · exact I.aRow b (by rw [← e]; exact hb)
    · rw [e] at hb; simp at hb; omega
  have hlv : ∀ b, LD (ERow ++ [Ent.mk (.slice al ln cl) (.slice none 0 0) ln (n + 1)]) b → LD ERow b ∨ (Value.slice al ln cl).ownBlock = some b := fun b ⟨y, hy, hb⟩ => by
    rcases List.mem_append.mp hy with hy | hy
    · exact .inl ⟨y, hy, hb⟩
    · rw [List.mem_singleton.mp hy] at hb; exact .inr hb
  have ooByte : ∀ b, v'.ownBlock = some b → vByte.ownBlock ≠ some b := fun b h1 h2 => by
    rcases hm with e | ⟨c, e, hc⟩
    · exact (fun b h1 h2 => I.oByteRow b h2 h1) b (by rw [← e]; exact h1) h2
    · rw [e] at h1
      simp at h1
      have := (I.kByte.held.lt b h2).2
      omega
  have ooOp : ∀ b, v'.ownBlock = some b → vOp.ownBlock ≠ some b := fun b h1 h2 => by
    rcases hm with e | ⟨c, e, hc⟩
    · exact I.oRowOp b (by rw [← e]; exact h1) h2
    · rw [e] at h1
      simp at h1
      have := (I.kOp.held.lt b h2).2
      omega
  have ooResult : ∀ b, v'.ownBlock = some b → vResult.ownBlock ≠ some b := fun b h1 h2 => by
    rcases hm with e | ⟨c, e, hc⟩
    · exact I.oRowResult b (by rw [← e]; exact h1) h2
    · rw [e] at h1
      simp at h1
      have := (I.kResult.held.lt b h2).2
      omega
  refine ⟨rfl, v', ⟨by rw [show (((n + 1 : Nat)) : Int) = (n : Int) + 1 from by omega]; exact hB', I.kByte.wrote hw (fun b hb hd => by
    rcases hd with rfl | hd
    · rcases hb with hb | hb
      · have := I.aByte _ hb; omega
      · have := I.lByte _ hb; omega
    · rcases hb with hb | hb
      · exact (fun b h1 h2 => I.oByteRow b h2 h1) b hd hb
      · have := I.aRow b hd
        have := I.lByte b hb
        omega), I.aByte, I.lByte, (by have := I.fByte; omega), kX, hav, (fun b h => (hlv b h).elim (I.lRow b) (fun h => (hf b h).1)), (by rw [List.length_append]; show _ + 1 ≤ _; omega), I.kOp.wrote hw (fun b hb hd => by
    rcases hd with rfl | hd
    · rcases hb with hb | hb
      · have := I.aOp _ hb; omega
      · have := I.lOp _ hb; omega
    · rcases hb with hb | hb
      · exact I.oRowOp b hd hb
      · have := I.aRow b hd
        have := I.lOp b hb
        omega), I.aOp, I.lOp, (by have := I.fOp; omega), I.kResult.wrote hw (fun b hb hd => by
    rcases hd with rfl | hd
    · rcases hb with hb | hb
      · have := I.aResult _ hb; omega
      · have := I.lResult _ hb; omega
    · rcases hb with hb | hb
      · exact I.oRowResult b hd hb
      · have := I.aRow b hd
        have := I.lResult b hb
        omega), I.aResult, I.lResult, (by have := I.fResult; omega), (fun b h1 h2 => (fun b h => (hlv b h).elim ((fun b h1 h2 => I.dByteRow b h2 h1) b) (fun h2 => (hf b h2).2.1)) b h2 h1), (fun b h1 h2 => ooByte b h2 h1), I.dByteOp, I.oByteOp, I.dByteResult, I.oByteResult, (fun b h => (hlv b h).elim (I.dRowOp b) (fun h2 => (hf b h2).2.2.2.1)), ooOp, (fun b h => (hlv b h).elim (I.dRowResult b) (fun h2 => (hf b h2).2.2.2.2)), ooResult, I.dOpResult, I.oOpResult⟩, ?_⟩
  exact hw.weak (fun b _ h => by
    rcases h with rfl | h
    · exact Nat.le_refl _
    · have := I.aRow b h; omega)

set_option maxHeartbeats 1000000 in
theorem keepMsgsOp {w : World} {bk n ln cl : Nat} {al : Option Addr} {xs : List Value} {vByte vRow vOp vResult : Value} {EByte ERow EOp EResult : List Ent} (I : BkMsgs w bk n vByte EByte vRow ERow vOp EOp vResult EResult) (hn : n ≤ 100000)
    (hx : w.ownsRow 0 85 4 (.slice al ln cl) ln xs) (hln : ln ≤ 1000000000) (hf : ∀ b, (Value.slice al ln cl).ownBlock = some b → b < bk ∧ ¬ LD EByte b ∧ ¬ LD ERow b ∧ ¬ LD EOp b ∧ ¬ LD EResult b) :
    Calls Tryz.prog 40 #[ptr bk, .slice al ln cl] w fun e w' => e = .returned (.tuple #[]) ∧ ∃ v', BkMsgs w' bk (n + 1) vByte EByte vRow ERow v' (EOp ++ [Ent.mk (.slice al ln cl) (.slice none 0 0) ln (n + 1)]) vResult EResult ∧ Wrote (fun b => bk ≤ b) w w' := by
  have hlt := I.lt
  obtain ⟨ao, m, cp, rfl⟩ := own_slice I.kOp.held
  have fOp := I.fOp
  have nX : ¬ DD (.slice ao m cp) EOp bk := fun h => by
    rcases h with h | h
    · have := I.aOp bk h; omega
    · have := I.lOp bk h; omega
  refine (bookOps_any w bk n m cp ln cl ao al vByte (.slice none 0 0) (.slice none 0 0) (.slice none 0 0) vRow (.slice none 0 0) (.slice none 0 0) vResult (.slice none 0 0) (.slice none 0 0) (.slice none 0 0) EOp I.hB (by omega) I.kOp.held (by omega) (fun h => nX (.inl h))).mono ?_
  rintro e w' ⟨rfl, v', hB', ho, hm, hw⟩
  have hbX : ∀ b, (Value.slice al ln cl).ownBlock = some b → b ≠ bk ∧ ¬ DD (.slice ao m cp) EOp b := fun b hb => by
    have hb' := hf b hb
    refine ⟨by omega, fun h => ?_⟩
    rcases h with h | h
    · have := I.aOp b h; omega
    · exact hb'.2.2.2.1 h
  obtain ⟨kX, nX'⟩ := kat_more (x := Ent.mk (.slice al ln cl) (.slice none 0 0) ln (n + 1)) I.kOp ho hm hw hlt nX hx hln (by show n + 1 ≤ _; omega) rfl (by omega) hbX
  have hav : ∀ b, v'.ownBlock = some b → bk < b := fun b hb => by
    rcases hm with e | ⟨c, e, hc⟩
    · exact I.aOp b (by rw [← e]; exact hb)
    · rw [e] at hb; simp at hb; omega
  have hlv : ∀ b, LD (EOp ++ [Ent.mk (.slice al ln cl) (.slice none 0 0) ln (n + 1)]) b → LD EOp b ∨ (Value.slice al ln cl).ownBlock = some b := fun b ⟨y, hy, hb⟩ => by
    rcases List.mem_append.mp hy with hy | hy
    · exact .inl ⟨y, hy, hb⟩
    · rw [List.mem_singleton.mp hy] at hb; exact .inr hb
  have ooByte : ∀ b, v'.ownBlock = some b → vByte.ownBlock ≠ some b := fun b h1 h2 => by
    rcases hm with e | ⟨c, e, hc⟩
    · exact (fun b h1 h2 => I.oByteOp b h2 h1) b (by rw [← e]; exact h1) h2
    · rw [e] at h1
      simp at h1
      have := (I.kByte.held.lt b h2).2
      omega
  have ooRow : ∀ b, v'.ownBlock = some b → vRow.ownBlock ≠ some b := fun b h1 h2 => by
    rcases hm with e | ⟨c, e, hc⟩
    · exact (fun b h1 h2 => I.oRowOp b h2 h1) b (by rw [← e]; exact h1) h2
    · rw [e] at h1
      simp at h1
      have := (I.kRow.held.lt b h2).2
      omega
  have ooResult : ∀ b, v'.ownBlock = some b → vResult.ownBlock ≠ some b := fun b h1 h2 => by
    rcases hm with e | ⟨c, e, hc⟩
    · exact I.oOpResult b (by rw [← e]; exact h1) h2
    · rw [e] at h1
      simp at h1
      have := (I.kResult.held.lt b h2).2
      omega
  refine ⟨rfl, v', ⟨by rw [show (((n + 1 : Nat)) : Int) = (n : Int) + 1 from by omega]; exact hB', I.kByte.wrote hw (fun b hb hd => by
    rcases hd with rfl | hd
    · rcases hb with hb | hb
      · have := I.aByte _ hb; omega
      · have := I.lByte _ hb; omega
    · rcases hb with hb | hb
      · exact (fun b h1 h2 => I.oByteOp b h2 h1) b hd hb
      · have := I.aOp b hd
        have := I.lByte b hb
        omega), I.aByte, I.lByte, (by have := I.fByte; omega), I.kRow.wrote hw (fun b hb hd => by
    rcases hd with rfl | hd
    · rcases hb with hb | hb
      · have := I.aRow _ hb; omega
      · have := I.lRow _ hb; omega
    · rcases hb with hb | hb
      · exact (fun b h1 h2 => I.oRowOp b h2 h1) b hd hb
      · have := I.aOp b hd
        have := I.lRow b hb
        omega), I.aRow, I.lRow, (by have := I.fRow; omega), kX, hav, (fun b h => (hlv b h).elim (I.lOp b) (fun h => (hf b h).1)), (by rw [List.length_append]; show _ + 1 ≤ _; omega), I.kResult.wrote hw (fun b hb hd => by
    rcases hd with rfl | hd
    · rcases hb with hb | hb
      · have := I.aResult _ hb; omega
      · have := I.lResult _ hb; omega
    · rcases hb with hb | hb
      · exact I.oOpResult b hd hb
      · have := I.aOp b hd
        have := I.lResult b hb
        omega), I.aResult, I.lResult, (by have := I.fResult; omega), I.dByteRow, I.oByteRow, (fun b h1 h2 => (fun b h => (hlv b h).elim ((fun b h1 h2 => I.dByteOp b h2 h1) b) (fun h2 => (hf b h2).2.1)) b h2 h1), (fun b h1 h2 => ooByte b h2 h1), I.dByteResult, I.oByteResult, (fun b h1 h2 => (fun b h => (hlv b h).elim ((fun b h1 h2 => I.dRowOp b h2 h1) b) (fun h2 => (hf b h2).2.2.1)) b h2 h1), (fun b h1 h2 => ooRow b h2 h1), I.dRowResult, I.oRowResult, (fun b h => (hlv b h).elim (I.dOpResult b) (fun h2 => (hf b h2).2.2.2.2)), ooResult⟩, ?_⟩
  exact hw.weak (fun b _ h => by
    rcases h with rfl | h
    · exact Nat.le_refl _
    · have := I.aOp b h; omega)

set_option maxHeartbeats 1000000 in
theorem keepMsgsResult {w : World} {bk n ln cl : Nat} {al : Option Addr} {xs : List Value} {vByte vRow vOp vResult : Value} {EByte ERow EOp EResult : List Ent} (I : BkMsgs w bk n vByte EByte vRow ERow vOp EOp vResult EResult) (hn : n ≤ 100000)
    (hx : w.ownsRow 0 89 1 (.slice al ln cl) ln xs) (hln : ln ≤ 1000000000) (hf : ∀ b, (Value.slice al ln cl).ownBlock = some b → b < bk ∧ ¬ LD EByte b ∧ ¬ LD ERow b ∧ ¬ LD EOp b ∧ ¬ LD EResult b) :
    Calls Tryz.prog 112 #[ptr bk, .slice al ln cl] w fun e w' => e = .returned (.tuple #[]) ∧ ∃ v', BkMsgs w' bk (n + 1) vByte EByte vRow ERow vOp EOp v' (EResult ++ [Ent.mk (.slice al ln cl) (.slice none 0 0) ln (n + 1)]) ∧ Wrote (fun b => bk ≤ b) w w' := by
  have hlt := I.lt
  obtain ⟨ao, m, cp, rfl⟩ := own_slice I.kResult.held
  have fResult := I.fResult
  have nX : ¬ DD (.slice ao m cp) EResult bk := fun h => by
    rcases h with h | h
    · have := I.aResult bk h; omega
    · have := I.lResult bk h; omega
  refine (keepResult_any w bk n m cp 0 ln cl ao al vByte (.slice none 0 0) (.slice none 0 0) (.slice none 0 0) vRow vOp (.slice none 0 0) (.slice none 0 0) (.slice none 0 0) (.slice none 0 0) (.slice none 0 0) EResult I.hB (by omega) I.kResult.held (by omega) (fun h => nX (.inl h))).mono ?_
  rintro e w' ⟨rfl, v', hB', ho, hm, hw⟩
  have hbX : ∀ b, (Value.slice al ln cl).ownBlock = some b → b ≠ bk ∧ ¬ DD (.slice ao m cp) EResult b := fun b hb => by
    have hb' := hf b hb
    refine ⟨by omega, fun h => ?_⟩
    rcases h with h | h
    · have := I.aResult b h; omega
    · exact hb'.2.2.2.2 h
  obtain ⟨kX, nX'⟩ := kat_more (x := Ent.mk (.slice al ln cl) (.slice none 0 0) ln (n + 1)) I.kResult ho hm hw hlt nX hx hln (by show n + 1 ≤ _; omega) rfl (by omega) hbX
  have hav : ∀ b, v'.ownBlock = some b → bk < b := fun b hb => by
    rcases hm with e | ⟨c, e, hc⟩
    · exact I.aResult b (by rw [← e]; exact hb)
    · rw [e] at hb; simp at hb; omega
  have hlv : ∀ b, LD (EResult ++ [Ent.mk (.slice al ln cl) (.slice none 0 0) ln (n + 1)]) b → LD EResult b ∨ (Value.slice al ln cl).ownBlock = some b := fun b ⟨y, hy, hb⟩ => by
    rcases List.mem_append.mp hy with hy | hy
    · exact .inl ⟨y, hy, hb⟩
    · rw [List.mem_singleton.mp hy] at hb; exact .inr hb
  have ooByte : ∀ b, v'.ownBlock = some b → vByte.ownBlock ≠ some b := fun b h1 h2 => by
    rcases hm with e | ⟨c, e, hc⟩
    · exact (fun b h1 h2 => I.oByteResult b h2 h1) b (by rw [← e]; exact h1) h2
    · rw [e] at h1
      simp at h1
      have := (I.kByte.held.lt b h2).2
      omega
  have ooRow : ∀ b, v'.ownBlock = some b → vRow.ownBlock ≠ some b := fun b h1 h2 => by
    rcases hm with e | ⟨c, e, hc⟩
    · exact (fun b h1 h2 => I.oRowResult b h2 h1) b (by rw [← e]; exact h1) h2
    · rw [e] at h1
      simp at h1
      have := (I.kRow.held.lt b h2).2
      omega
  have ooOp : ∀ b, v'.ownBlock = some b → vOp.ownBlock ≠ some b := fun b h1 h2 => by
    rcases hm with e | ⟨c, e, hc⟩
    · exact (fun b h1 h2 => I.oOpResult b h2 h1) b (by rw [← e]; exact h1) h2
    · rw [e] at h1
      simp at h1
      have := (I.kOp.held.lt b h2).2
      omega
  refine ⟨rfl, v', ⟨by rw [show (((n + 1 : Nat)) : Int) = (n : Int) + 1 from by omega]; exact hB', I.kByte.wrote hw (fun b hb hd => by
    rcases hd with rfl | hd
    · rcases hb with hb | hb
      · have := I.aByte _ hb; omega
      · have := I.lByte _ hb; omega
    · rcases hb with hb | hb
      · exact (fun b h1 h2 => I.oByteResult b h2 h1) b hd hb
      · have := I.aResult b hd
        have := I.lByte b hb
        omega), I.aByte, I.lByte, (by have := I.fByte; omega), I.kRow.wrote hw (fun b hb hd => by
    rcases hd with rfl | hd
    · rcases hb with hb | hb
      · have := I.aRow _ hb; omega
      · have := I.lRow _ hb; omega
    · rcases hb with hb | hb
      · exact (fun b h1 h2 => I.oRowResult b h2 h1) b hd hb
      · have := I.aResult b hd
        have := I.lRow b hb
        omega), I.aRow, I.lRow, (by have := I.fRow; omega), I.kOp.wrote hw (fun b hb hd => by
    rcases hd with rfl | hd
    · rcases hb with hb | hb
      · have := I.aOp _ hb; omega
      · have := I.lOp _ hb; omega
    · rcases hb with hb | hb
      · exact (fun b h1 h2 => I.oOpResult b h2 h1) b hd hb
      · have := I.aResult b hd
        have := I.lOp b hb
        omega), I.aOp, I.lOp, (by have := I.fOp; omega), kX, hav, (fun b h => (hlv b h).elim (I.lResult b) (fun h => (hf b h).1)), (by rw [List.length_append]; show _ + 1 ≤ _; omega), I.dByteRow, I.oByteRow, I.dByteOp, I.oByteOp, (fun b h1 h2 => (fun b h => (hlv b h).elim ((fun b h1 h2 => I.dByteResult b h2 h1) b) (fun h2 => (hf b h2).2.1)) b h2 h1), (fun b h1 h2 => ooByte b h2 h1), I.dRowOp, I.oRowOp, (fun b h1 h2 => (fun b h => (hlv b h).elim ((fun b h1 h2 => I.dRowResult b h2 h1) b) (fun h2 => (hf b h2).2.2.1)) b h2 h1), (fun b h1 h2 => ooRow b h2 h1), (fun b h1 h2 => (fun b h => (hlv b h).elim ((fun b h1 h2 => I.dOpResult b h2 h1) b) (fun h2 => (hf b h2).2.2.2.1)) b h2 h1), (fun b h1 h2 => ooOp b h2 h1)⟩, ?_⟩
  exact hw.weak (fun b _ h => by
    rcases h with rfl | h
    · exact Nat.le_refl _
    · have := I.aResult b h; omega)

theorem apartMsgs {w0 w : World} {bk n : Nat} {vByte vRow vOp vResult : Value} {EByte ERow EOp EResult : List Ent} (I : BkMsgs w bk n vByte EByte vRow ERow vOp EOp vResult EResult) (hb : Below w0.heap.size w0 w) (hS : w0.heap.size ≤ bk) (sByte : ∀ b, LD EByte b → w0.heap.size ≤ b) (sRow : ∀ b, LD ERow b → w0.heap.size ≤ b) (sOp : ∀ b, LD EOp b → w0.heap.size ≤ b) (sResult : ∀ b, LD EResult b → w0.heap.size ≤ b) (ht : Tab w0) :
    Calls Tryz.prog 15 #[ptr bk] w fun e w' => e = .returned (.bool true) ∧ Below w0.heap.size w0 w' := by
  have nByte : ¬ DD vByte EByte bk := fun h => by
    rcases h with h | h
    · have := I.aByte bk h; omega
    · have := I.lByte bk h; omega
  have gByte : ∀ b, DD vByte EByte b → w0.heap.size ≤ b := fun b h => by
    rcases h with h | h
    · have := I.aByte b h; omega
    · exact sByte b h
  have nRow : ¬ DD vRow ERow bk := fun h => by
    rcases h with h | h
    · have := I.aRow bk h; omega
    · have := I.lRow bk h; omega
  have gRow : ∀ b, DD vRow ERow b → w0.heap.size ≤ b := fun b h => by
    rcases h with h | h
    · have := I.aRow b h; omega
    · exact sRow b h
  have nOp : ¬ DD vOp EOp bk := fun h => by
    rcases h with h | h
    · have := I.aOp bk h; omega
    · have := I.lOp bk h; omega
  have gOp : ∀ b, DD vOp EOp b → w0.heap.size ≤ b := fun b h => by
    rcases h with h | h
    · have := I.aOp b h; omega
    · exact sOp b h
  have nResult : ¬ DD vResult EResult bk := fun h => by
    rcases h with h | h
    · have := I.aResult bk h; omega
    · have := I.lResult bk h; omega
  have gResult : ∀ b, DD vResult EResult b → w0.heap.size ≤ b := fun b h => by
    rcases h with h | h
    · have := I.aResult b h; omega
    · exact sResult b h
  have qByteRow : ∀ b, DD vByte EByte b → ¬ DD vRow ERow b := fun b h1 h2 => by
    rcases h1 with h1 | h1
    · rcases h2 with h2 | h2
      · exact I.oByteRow b h1 h2
      · have := I.aByte b h1
        have := I.lRow b h2
        omega
    · rcases h2 with h2 | h2
      · have := I.lByte b h1
        have := I.aRow b h2
        omega
      · exact I.dByteRow b h1 h2
  have qByteOp : ∀ b, DD vByte EByte b → ¬ DD vOp EOp b := fun b h1 h2 => by
    rcases h1 with h1 | h1
    · rcases h2 with h2 | h2
      · exact I.oByteOp b h1 h2
      · have := I.aByte b h1
        have := I.lOp b h2
        omega
    · rcases h2 with h2 | h2
      · have := I.lByte b h1
        have := I.aOp b h2
        omega
      · exact I.dByteOp b h1 h2
  have qByteResult : ∀ b, DD vByte EByte b → ¬ DD vResult EResult b := fun b h1 h2 => by
    rcases h1 with h1 | h1
    · rcases h2 with h2 | h2
      · exact I.oByteResult b h1 h2
      · have := I.aByte b h1
        have := I.lResult b h2
        omega
    · rcases h2 with h2 | h2
      · have := I.lByte b h1
        have := I.aResult b h2
        omega
      · exact I.dByteResult b h1 h2
  have qRowOp : ∀ b, DD vRow ERow b → ¬ DD vOp EOp b := fun b h1 h2 => by
    rcases h1 with h1 | h1
    · rcases h2 with h2 | h2
      · exact I.oRowOp b h1 h2
      · have := I.aRow b h1
        have := I.lOp b h2
        omega
    · rcases h2 with h2 | h2
      · have := I.lRow b h1
        have := I.aOp b h2
        omega
      · exact I.dRowOp b h1 h2
  have qRowResult : ∀ b, DD vRow ERow b → ¬ DD vResult EResult b := fun b h1 h2 => by
    rcases h1 with h1 | h1
    · rcases h2 with h2 | h2
      · exact I.oRowResult b h1 h2
      · have := I.aRow b h1
        have := I.lResult b h2
        omega
    · rcases h2 with h2 | h2
      · have := I.lRow b h1
        have := I.aResult b h2
        omega
      · exact I.dRowResult b h1 h2
  have qOpResult : ∀ b, DD vOp EOp b → ¬ DD vResult EResult b := fun b h1 h2 => by
    rcases h1 with h1 | h1
    · rcases h2 with h2 | h2
      · exact I.oOpResult b h1 h2
      · have := I.aOp b h1
        have := I.lResult b h2
        omega
    · rcases h2 with h2 | h2
      · have := I.lOp b h1
        have := I.aResult b h2
        omega
      · exact I.dOpResult b h1 h2
  have fin : ∀ W, Wrote (fun b => DD vByte EByte b ∨ DD vRow ERow b ∨ DD vOp EOp b ∨ DD vResult EResult b) w W → Below w0.heap.size w0 W := fun W hW => hb.trans (hW.below hb.size (fun k hk hd => by
    rcases hd with h | h | h | h
    · have := gByte k h; omega
    · have := gRow k h; omega
    · have := gOp k h; omega
    · have := gResult k h; omega
  ))
  refine (apartMsgs_any w bk n vByte vRow vOp vResult EByte ERow EOp EResult I.hB I.kByte nByte I.kRow nRow I.kOp nOp I.kResult nResult qByteRow qByteOp qByteResult qRowOp qRowResult qOpResult (fun W hW => tab_below ht (fin W hW))).mono ?_
  rintro e w' ⟨rfl, hw⟩
  exact ⟨rfl, fin w' hw⟩
end Go.Proofs.YtcgecdiaddcfkaaGreatDoor
