/- A book that holds lists of these kinds alone: Byte, Op: what holds of it, one more being kept, Apart. -/
import Derived.Test.YtndjgilheleplaaGreatDoorRKpByte
import Derived.Test.YtndjgilheleplaaGreatDoorRKpOp
import Derived.Test.YtndjgilheleplaaGreatDoorRApOps
import Derived.Test.YtndjgilheleplaaGreatDoorRKat
set_option linter.unusedSimpArgs false
set_option linter.unusedVariables false
namespace Go.Proofs.YtndjgilheleplaaGreatDoor
open Go.RowKit

structure BkOps (w : World) (bk n : Nat) (vByte : Value) (EByte : List Ent) (vOp : Value) (EOp : List Ent) : Prop where
  hB : w.heap[bk]? = some (.cells #[.int .i64 (n : Int), vByte, .slice none 0 0, .slice none 0 0, .slice none 0 0, .slice none 0 0, vOp, .slice none 0 0, .slice none 0 0, .slice none 0 0, .slice none 0 0, .slice none 0 0, .slice none 0 0] 52 (0, 0))
  kByte : KAt w 140 5 1 vByte EByte
  aByte : ∀ b, vByte.ownBlock = some b → bk < b
  lByte : ∀ b, LD EByte b → b < bk
  fByte : EByte.length ≤ n
  kOp : KAt w 138 25 4 vOp EOp
  aOp : ∀ b, vOp.ownBlock = some b → bk < b
  lOp : ∀ b, LD EOp b → b < bk
  fOp : EOp.length ≤ n
  dByteOp : ∀ b, LD EByte b → ¬ LD EOp b
  oByteOp : ∀ b, vByte.ownBlock = some b → vOp.ownBlock ≠ some b
theorem BkOps.lt {w : World} {bk n : Nat} {vByte vOp : Value} {EByte EOp : List Ent} (I : BkOps w bk n vByte EByte vOp EOp) : bk < w.heap.size := by
  rcases Nat.lt_or_ge bk w.heap.size with h' | h'
  · exact h'
  · have := I.hB; rw [Array.getElem?_eq_none h'] at this; cases this
theorem BkOps.new (w : World) : BkOps (w.alloc (.cells #[.int .i64 0, .slice none 0 0, .slice none 0 0, .slice none 0 0, .slice none 0 0, .slice none 0 0, .slice none 0 0, .slice none 0 0, .slice none 0 0, .slice none 0 0, .slice none 0 0, .slice none 0 0, .slice none 0 0] 52)) w.heap.size 0 (.slice none 0 0) [] (.slice none 0 0) [] :=
  ⟨by show (w.heap.push _)[w.heap.size]? = _; exact Array.getElem?_push_size, KAt_nil _ _ _ _, (fun b h => by cases h), (fun b ⟨x, hx, _⟩ => by cases hx), Nat.le_refl _, KAt_nil _ _ _ _, (fun b h => by cases h), (fun b ⟨x, hx, _⟩ => by cases hx), Nat.le_refl _, (fun b ⟨x, hx, _⟩ => by cases hx), (fun b h => by cases h)⟩

set_option maxHeartbeats 1000000 in
theorem keepOpsByte {w : World} {bk n ln cl : Nat} {al : Option Addr} {xs : List Value} {vByte vOp : Value} {EByte EOp : List Ent} (I : BkOps w bk n vByte EByte vOp EOp) (hn : n ≤ 100000)
    (hx : w.ownsRow 0 5 1 (.slice al ln cl) ln xs) (hln : ln ≤ 1000000000) (hf : ∀ b, (Value.slice al ln cl).ownBlock = some b → b < bk ∧ ¬ LD EByte b ∧ ¬ LD EOp b) :
    Calls Tryz.prog 20 #[ptr bk, .slice al ln cl] w fun e w' => e = .returned (.tuple #[]) ∧ ∃ v', BkOps w' bk (n + 1) v' (EByte ++ [Ent.mk (.slice al ln cl) (.slice none 0 0) ln (n + 1)]) vOp EOp ∧ Wrote (fun b => bk ≤ b) w w' := by
  have hlt := I.lt
  obtain ⟨ao, m, cp, rfl⟩ := own_slice I.kByte.held
  have fByte := I.fByte
  have nX : ¬ DD (.slice ao m cp) EByte bk := fun h => by
    rcases h with h | h
    · have := I.aByte bk h; omega
    · have := I.lByte bk h; omega
  refine (bookBytes_any w bk n m cp ln cl ao al (.slice none 0 0) (.slice none 0 0) (.slice none 0 0) (.slice none 0 0) vOp (.slice none 0 0) (.slice none 0 0) (.slice none 0 0) (.slice none 0 0) (.slice none 0 0) (.slice none 0 0) EByte I.hB (by omega) I.kByte.held (by omega) (fun h => nX (.inl h))).mono ?_
  rintro e w' ⟨rfl, v', hB', ho, hm, hw⟩
  have hbX : ∀ b, (Value.slice al ln cl).ownBlock = some b → b ≠ bk ∧ ¬ DD (.slice ao m cp) EByte b := fun b hb => by
    have hb' := hf b hb
    refine ⟨by omega, fun h => ?_⟩
    rcases h with h | h
    · have := I.aByte b h; omega
    · exact hb'.2.1 h
  obtain ⟨kX, nX'⟩ := kat_more (x := Ent.mk (.slice al ln cl) (.slice none 0 0) ln (n + 1)) I.kByte ho hm hw hlt nX hx hln (by show n + 1 ≤ _; omega) rfl (by omega) hbX
  have hav : ∀ b, v'.ownBlock = some b → bk < b := fun b hb => by
    rcases hm with e | ⟨c, e, hc⟩
    · exact I.aByte b (by rw [← e]; exact hb)
    · rw [e] at hb; simp at hb; omega
  have hlv : ∀ b, LD (EByte ++ [Ent.mk (.slice al ln cl) (.slice none 0 0) ln (n + 1)]) b → LD EByte b ∨ (Value.slice al ln cl).ownBlock = some b := fun b ⟨y, hy, hb⟩ => by
    rcases List.mem_append.mp hy with hy | hy
    · exact .inl ⟨y, hy, hb⟩
    · rw [List.mem_singleton.mp hy] at hb; exact .inr hb
  have ooOp : ∀ b, v'.ownBlock = some b → vOp.ownBlock ≠ some b := fun b h1 h2 => by
    rcases hm with e | ⟨c, e, hc⟩
    · exact I.oByteOp b (by rw [← e]; exact h1) h2
    · rw [e] at h1
      simp at h1
      have := (I.kOp.held.lt b h2).2
      omega
  refine ⟨rfl, v', ⟨by rw [show (((n + 1 : Nat)) : Int) = (n : Int) + 1 from by omega]; exact hB', kX, hav, (fun b h => (hlv b h).elim (I.lByte b) (fun h => (hf b h).1)), (by rw [List.length_append]; show _ + 1 ≤ _; omega), I.kOp.wrote hw (fun b hb hd => by
    rcases hd with rfl | hd
    · rcases hb with hb | hb
      · have := I.aOp _ hb; omega
      · have := I.lOp _ hb; omega
    · rcases hb with hb | hb
      · exact I.oByteOp b hd hb
      · have := I.aByte b hd
        have := I.lOp b hb
        omega), I.aOp, I.lOp, (by have := I.fOp; omega), (fun b h => (hlv b h).elim (I.dByteOp b) (fun h2 => (hf b h2).2.2)), ooOp⟩, ?_⟩
  exact hw.weak (fun b _ h => by
    rcases h with rfl | h
    · exact Nat.le_refl _
    · have := I.aByte b h; omega)

set_option maxHeartbeats 1000000 in
theorem keepOpsOp {w : World} {bk n ln cl : Nat} {al : Option Addr} {xs : List Value} {vByte vOp : Value} {EByte EOp : List Ent} (I : BkOps w bk n vByte EByte vOp EOp) (hn : n ≤ 100000)
    (hx : w.ownsRow 0 25 4 (.slice al ln cl) ln xs) (hln : ln ≤ 1000000000) (hf : ∀ b, (Value.slice al ln cl).ownBlock = some b → b < bk ∧ ¬ LD EByte b ∧ ¬ LD EOp b) :
    Calls Tryz.prog 19 #[ptr bk, .slice al ln cl] w fun e w' => e = .returned (.tuple #[]) ∧ ∃ v', BkOps w' bk (n + 1) vByte EByte v' (EOp ++ [Ent.mk (.slice al ln cl) (.slice none 0 0) ln (n + 1)]) ∧ Wrote (fun b => bk ≤ b) w w' := by
  have hlt := I.lt
  obtain ⟨ao, m, cp, rfl⟩ := own_slice I.kOp.held
  have fOp := I.fOp
  have nX : ¬ DD (.slice ao m cp) EOp bk := fun h => by
    rcases h with h | h
    · have := I.aOp bk h; omega
    · have := I.lOp bk h; omega
  refine (bookOps_any w bk n m cp ln cl ao al vByte (.slice none 0 0) (.slice none 0 0) (.slice none 0 0) (.slice none 0 0) (.slice none 0 0) (.slice none 0 0) (.slice none 0 0) (.slice none 0 0) (.slice none 0 0) (.slice none 0 0) EOp I.hB (by omega) I.kOp.held (by omega) (fun h => nX (.inl h))).mono ?_
  rintro e w' ⟨rfl, v', hB', ho, hm, hw⟩
  have hbX : ∀ b, (Value.slice al ln cl).ownBlock = some b → b ≠ bk ∧ ¬ DD (.slice ao m cp) EOp b := fun b hb => by
    have hb' := hf b hb
    refine ⟨by omega, fun h => ?_⟩
    rcases h with h | h
    · have := I.aOp b h; omega
    · exact hb'.2.2 h
  obtain ⟨kX, nX'⟩ := kat_more (x := Ent.mk (.slice al ln cl) (.slice none 0 0) ln (n + 1)) I.kOp ho hm hw hlt nX hx hln (by show n + 1 ≤ _; omega) rfl (by omega) hbX
  have hav : ∀ b, v'.ownBlock = some b → bk < b := fun b hb => by
    rcases hm with e | ⟨c, e, hc⟩
    · exact I.aOp b (by rw [← e]; exact hb)
    · rw [e] at hb; simp at hb; omega
  have hlv : ∀ b, LD (EOp ++ [Ent.mk (.slice al ln cl) (.slice none 0 0) ln (n + 1)]) b → LD EOp b ∨ (Value.slice al ln cl).ownBlock = some b := fun b ⟨y, hy, hb⟩ => by
    rcases List.mem_append.mp hy with hy | hy
    · exact .inl ⟨y, hy, hb⟩
    · rw [List.mem_singleton.mp hy] at hb; exact .inr hb
  have ooByte : ∀ b, v'.ownBlock = some b → vByte.ownBlock ≠ some b := fun b h1 h2 => by
    rcases hm with e | ⟨c, e, hc⟩
    · exact (fun b h1 h2 => I.oByteOp b h2 h1) b (by rw [← e]; exact h1) h2
    · rw [e] at h1
      simp at h1
      have := (I.kByte.held.lt b h2).2
      omega
  refine ⟨rfl, v', ⟨by rw [show (((n + 1 : Nat)) : Int) = (n : Int) + 1 from by omega]; exact hB', I.kByte.wrote hw (fun b hb hd => by
    rcases hd with rfl | hd
    · rcases hb with hb | hb
      · have := I.aByte _ hb; omega
      · have := I.lByte _ hb; omega
    · rcases hb with hb | hb
      · exact (fun b h1 h2 => I.oByteOp b h2 h1) b hd hb
      · have := I.aOp b hd
        have := I.lByte b hb
        omega), I.aByte, I.lByte, (by have := I.fByte; omega), kX, hav, (fun b h => (hlv b h).elim (I.lOp b) (fun h => (hf b h).1)), (by rw [List.length_append]; show _ + 1 ≤ _; omega), (fun b h1 h2 => (fun b h => (hlv b h).elim ((fun b h1 h2 => I.dByteOp b h2 h1) b) (fun h2 => (hf b h2).2.1)) b h2 h1), (fun b h1 h2 => ooByte b h2 h1)⟩, ?_⟩
  exact hw.weak (fun b _ h => by
    rcases h with rfl | h
    · exact Nat.le_refl _
    · have := I.aOp b h; omega)

theorem apartOps {w0 w : World} {bk n : Nat} {vByte vOp : Value} {EByte EOp : List Ent} (I : BkOps w bk n vByte EByte vOp EOp) (hb : Below w0.heap.size w0 w) (hS : w0.heap.size ≤ bk) (sByte : ∀ b, LD EByte b → w0.heap.size ≤ b) (sOp : ∀ b, LD EOp b → w0.heap.size ≤ b) (ht : Tab w0) :
    Calls Tryz.prog 21 #[ptr bk] w fun e w' => e = .returned (.bool true) ∧ Below w0.heap.size w0 w' := by
  have nByte : ¬ DD vByte EByte bk := fun h => by
    rcases h with h | h
    · have := I.aByte bk h; omega
    · have := I.lByte bk h; omega
  have gByte : ∀ b, DD vByte EByte b → w0.heap.size ≤ b := fun b h => by
    rcases h with h | h
    · have := I.aByte b h; omega
    · exact sByte b h
  have nOp : ¬ DD vOp EOp bk := fun h => by
    rcases h with h | h
    · have := I.aOp bk h; omega
    · have := I.lOp bk h; omega
  have gOp : ∀ b, DD vOp EOp b → w0.heap.size ≤ b := fun b h => by
    rcases h with h | h
    · have := I.aOp b h; omega
    · exact sOp b h
  have qByteOp : ∀ b, DD vByte EByte b → ¬ DD vOp EOp b := fun b h1 h2 => by
    rcases h1 with h1 | h1
    · rcases h2 with h2 | h2
      · exact I.oByteOp b h1 h2
      · have := I.aByte b h1
        have := I.lOp b h2
        omega
    · rcases h2 with h2 | h2
      · have := I.lByte b h1
        have := I.aOp b h2
        omega
      · exact I.dByteOp b h1 h2
  have fin : ∀ W, Wrote (fun b => DD vByte EByte b ∨ DD vOp EOp b) w W → Below w0.heap.size w0 W := fun W hW => hb.trans (hW.below hb.size (fun k hk hd => by
    rcases hd with h | h
    · have := gByte k h; omega
    · have := gOp k h; omega
  ))
  refine (apartOps_any w bk n vByte vOp EByte EOp I.hB I.kByte nByte I.kOp nOp qByteOp (fun W hW => tab_below ht (fin W hW))).mono ?_
  rintro e w' ⟨rfl, hw⟩
  exact ⟨rfl, fin w' hw⟩
end Go.Proofs.YtndjgilheleplaaGreatDoor
