/- Ops, rows, changes, results, messages: what they are, and their cells in memory; nothing of one package of the program. -/
import Derived.Test.YtpmmdbdooclcoabBKat
set_option linter.unusedSimpArgs false
set_option linter.unusedVariables false
namespace Go.Proofs.Ytpmmdbdooclcoab
open Go.RowKit

/-- An op. -/
structure OpD where
  kind : UInt8
  key : ByteArray
  to : ByteArray
  value : UInt32
/-- A row. -/
structure RowD where
  key : ByteArray
  value : UInt32
/-- A change. -/
structure ChD where
  key : ByteArray
  value : UInt32
  gone : Bool
/-- A message. -/
structure MsgD where
  say : UInt8
  src : UInt8
  dst : UInt8
  g : UInt32
  ops : List OpD
  res : List (List RowD)

def opCells (x : OpD) : List Value := [.int .u8 (x.kind.toNat : Int), .string x.key, .string x.to, .int .u32 (x.value.toNat : Int)]
def rowCells (x : RowD) : List Value := [.string x.key, .int .u32 (x.value.toNat : Int)]
def chCells (x : ChD) : List Value := [.string x.key, .int .u32 (x.value.toNat : Int), .bool x.gone]
def opV (x : OpD) : Value := .agg #[.int .u8 (x.kind.toNat : Int), .string x.key, .string x.to, .int .u32 (x.value.toNat : Int)]
def rowV (x : RowD) : Value := .agg #[.string x.key, .int .u32 (x.value.toNat : Int)]
def chV (x : ChD) : Value := .agg #[.string x.key, .int .u32 (x.value.toNat : Int), .bool x.gone]
def opSm (x : OpD) : Prop := x.key.size ≤ maxLen ∧ x.to.size ≤ maxLen
def rowSm (x : RowD) : Prop := x.key.size ≤ maxLen
def chSm (x : ChD) : Prop := x.key.size ≤ maxLen
theorem opCells_len (x : OpD) : (opCells x).length = 4 := rfl
theorem rowCells_len (x : RowD) : (rowCells x).length = 2 := rfl
theorem chCells_len (x : ChD) : (chCells x).length = 3 := rfl

/-- A result in memory: its slice, and the rows that it holds. -/
abbrev ResP : Type := Value × List RowD
def resCells (p : ResP) : List Value := [p.1]
def resV (p : ResP) : Value := .agg #[p.1]
theorem resCells_len (x : ResP) : (resCells x).length = 1 := rfl
/-- The rows of a result lie below block number 'lim'. -/
def RowsAt (w : World) (lim : Nat) (p : ResP) : Prop := SlAt 2 rowCells w lim p.1 p.2 ∧ ∀ x ∈ p.2, rowSm x
def ResAt (w : World) (lim : Nat) (v : Value) (l : List ResP) : Prop := SlAt 1 resCells w lim v l ∧ ∀ p ∈ l, RowsAt w lim p
theorem RowsAt.below {w w' : World} {lim B : Nat} {p : ResP} (h : RowsAt w lim p) (hb : Below B w w') (hB : lim ≤ B) : RowsAt w' lim p := ⟨h.1.below hb hB, h.2⟩
theorem RowsAt.kept {w w' : World} {lim : Nat} {p : ResP} (h : RowsAt w lim p) (hb : ∀ k, k < lim → w'.heap[k]? = w.heap[k]?) : RowsAt w' lim p := ⟨h.1.kept hb, h.2⟩
theorem RowsAt.mono {w : World} {lim lim' : Nat} {p : ResP} (h : RowsAt w lim p) (hB : lim ≤ lim') : RowsAt w lim' p := ⟨h.1.mono hB, h.2⟩
theorem ResAt.kept {w w' : World} {lim : Nat} {v : Value} {l : List ResP} (h : ResAt w lim v l) (hb : ∀ k, k < lim → w'.heap[k]? = w.heap[k]?) : ResAt w' lim v l := ⟨h.1.kept hb, fun p hp => (h.2 p hp).kept hb⟩
theorem ResAt.below {w w' : World} {lim B : Nat} {v : Value} {l : List ResP} (h : ResAt w lim v l) (hb : Below B w w') (hB : lim ≤ B) : ResAt w' lim v l := h.kept (fun k hk => hb.block k (by omega))
theorem ResAt.mono {w : World} {lim lim' : Nat} {v : Value} {l : List ResP} (h : ResAt w lim v l) (hB : lim ≤ lim') : ResAt w lim' v l := ⟨h.1.mono hB, fun p hp => (h.2 p hp).mono hB⟩

def msgV (m : MsgD) (vo vr : Value) : Value := .agg #[.int .u8 (m.say.toNat : Int), .int .u8 (m.src.toNat : Int), .int .u8 (m.dst.toNat : Int), .int .u32 (m.g.toNat : Int), vo, vr]
/-- The values vo and vr hold a message's ops and results, below block number 'lim'. -/
structure MsgAt (w : World) (lim : Nat) (vo vr : Value) (m : MsgD) (l : List ResP) : Prop where
  ops : SlAt 4 opCells w lim vo m.ops
  sm : ∀ x ∈ m.ops, opSm x
  res : ResAt w lim vr l
  eq : l.map (·.2) = m.res
theorem MsgAt.below {w w' : World} {lim B : Nat} {vo vr : Value} {m : MsgD} {l : List ResP} (h : MsgAt w lim vo vr m l) (hb : Below B w w') (hB : lim ≤ B) : MsgAt w' lim vo vr m l := ⟨h.ops.below hb hB, h.sm, h.res.below hb hB, h.eq⟩
theorem MsgAt.mono {w : World} {lim lim' : Nat} {vo vr : Value} {m : MsgD} {l : List ResP} (h : MsgAt w lim vo vr m l) (hB : lim ≤ lim') : MsgAt w lim' vo vr m l := ⟨h.ops.mono hB, h.sm, h.res.mono hB, h.eq⟩
theorem MsgAt.up {w w' : World} {vo vr : Value} {m : MsgD} {l : List ResP} (h : MsgAt w w.heap.size vo vr m l) (hb : Below w.heap.size w w') : MsgAt w' w'.heap.size vo vr m l := (h.below hb (Nat.le_refl _)).mono hb.size
theorem MsgAt.form {w : World} {lim : Nat} {vo vr : Value} {m : MsgD} {l : List ResP} (h : MsgAt w lim vo vr m l) : ∃ ao ca bo cb, vo = .slice ao m.ops.length ca ∧ vr = .slice bo l.length cb := by
  obtain ⟨ao, ca, h1, -, -, -⟩ := h.ops
  obtain ⟨bo, cb, h2, -, -, -⟩ := h.res.1
  exact ⟨ao, ca, bo, cb, h1, h2⟩
end Go.Proofs.Ytpmmdbdooclcoab
