/- The disk, the document's disk and the book, side by side in memory; what each call leaves. -/
import Derived.Test.YthnkakjelhnjdaaGreatDoorERFail
import Derived.Test.YthnkakjelhnjdaaGreatDoorELike
import Derived.Test.YthnkakjelhnjdaaGreatDoorBBiBs
set_option linter.unusedSimpArgs false
set_option linter.unusedVariables false
namespace Go.Proofs.YthnkakjelhnjdaaGreatDoor
open Go.RowKit Go.Maps

/-- The disk d at B, the document's disk d' at C, the book at bk: all from w0's end on, no two share a block; K: blocks that none of them has. -/
structure PX (w0 W : World) (K : Nat → Prop) (bk B C n : Nat) (d d' : Dk) (SD : List Nat) (S : Nat → Prop) (v : Value) (E : List Ent) : Prop where
  dk : DkAt W B SD d
  rf : RfAt W C S d'
  bb : BkB W bk n v E
  be : Below w0.heap.size w0 W
  b1 : ∀ x ∈ SD, w0.heap.size ≤ x
  b2 : ∀ x, S x → w0.heap.size ≤ x
  b3 : ∀ x, BkS bk v E x → w0.heap.size ≤ x
  a12 : ∀ x ∈ SD, ¬ S x
  a13 : ∀ x ∈ SD, ¬ BkS bk v E x
  a23 : ∀ x, S x → ¬ BkS bk v E x
  k : ∀ x, K x → x < W.heap.size ∧ x ∉ SD ∧ ¬ S x ∧ ¬ BkS bk v E x
def PI (w0 W : World) (K : Nat → Prop) (bk B C n : Nat) (d d' : Dk) : Prop := ∃ SD S v E, PX w0 W K bk B C n d d' SD S v E
/-- The blocks K are as they were. -/
def Same (K : Nat → Prop) (W W' : World) : Prop := ∀ x, K x → W'.heap[x]? = W.heap[x]?
theorem PI.kept {w0 W W' : World} {K : Nat → Prop} {bk B C n : Nat} {d d' : Dk} (h : PI w0 W K bk B C n d d') (hb : Below W.heap.size W W') : PI w0 W' K bk B C n d d' ∧ Same K W W' := by
  obtain ⟨SD, S, v, E, h⟩ := h
  exact ⟨⟨SD, S, v, E, h.dk.below hb, h.rf.below hb, h.bb.wrote (d := fun _ => False) (Wrote.of_below hb) (fun _ _ e => e), h.be.trans (hb.mono h.be.size), h.b1, h.b2, h.b3, h.a12, h.a13, h.a23, fun x hx => ⟨Nat.lt_of_lt_of_le (h.k x hx).1 hb.size, (h.k x hx).2⟩⟩, fun x hx => hb.block x (h.k x hx).1⟩
theorem PI.sub {w0 W : World} {K K' : Nat → Prop} {bk B C n : Nat} {d d' : Dk} (h : PI w0 W K bk B C n d d') (hk : ∀ x, K' x → K x) : PI w0 W K' bk B C n d d' := by
  obtain ⟨SD, S, v, E, h⟩ := h
  exact ⟨SD, S, v, E, h.dk, h.rf, h.bb, h.be, h.b1, h.b2, h.b3, h.a12, h.a13, h.a23, fun x hx => h.k x (hk x hx)⟩
/-- Blocks that came since are no one's. -/
theorem PI.more {w0 W W' : World} {K K' : Nat → Prop} {bk B C n : Nat} {d d' : Dk} (h : PI w0 W K bk B C n d d') (hb : Below W.heap.size W W') (hk : ∀ x, K' x → K x ∨ (W.heap.size ≤ x ∧ x < W'.heap.size)) : PI w0 W' K' bk B C n d d' := by
  obtain ⟨SD, S, v, E, h⟩ := h
  refine ⟨SD, S, v, E, h.dk.below hb, h.rf.below hb, h.bb.wrote (d := fun _ => False) (Wrote.of_below hb) (fun _ _ e => e), h.be.trans (hb.mono h.be.size), h.b1, h.b2, h.b3, h.a12, h.a13, h.a23, fun x hx => ?_⟩
  have hz := hb.size
  rcases hk x hx with h1 | h1
  · exact ⟨Nat.lt_of_lt_of_le (h.k x h1).1 hz, (h.k x h1).2⟩
  · refine ⟨h1.2, fun e => ?_, fun e => ?_, fun e => ?_⟩
    · have := h.dk.lt x e; omega
    · have := h.rf.lt x e; omega
    · have := h.bb.lt x e; omega
theorem PX.dchg {w0 W W' : World} {K : Nat → Prop} {bk B C n : Nat} {d d' d2 : Dk} {SD SD2 : List Nat} {S : Nat → Prop} {v : Value} {E : List Ent} (h : PX w0 W K bk B C n d d' SD S v E) (hd : DkAt W' B SD2 d2) (hc : Chg SD W W') (hs : ∀ x ∈ SD2, x ∈ SD ∨ W.heap.size ≤ x) : PI w0 W' K bk B C n d2 d' ∧ Same K W W' := by
  have hbe := h.be.size
  have hw : Wrote (fun x => x ∈ SD) W W' := ⟨hc.os, hc.tape, hc.output, hc.size, hc.block⟩
  refine ⟨⟨SD2, S, v, E, hd, h.rf.wrote hw (fun x hx hm => h.a12 x hm hx), h.bb.wrote hw (fun x hx hm => h.a13 x hm hx), hc.to_below h.be hbe h.b1, fun x hx => ?_, h.b2, h.b3, fun x hx hm => ?_, fun x hx hm => ?_, h.a23, fun x hx => ⟨Nat.lt_of_lt_of_le (h.k x hx).1 hc.size, fun hm => ?_, (h.k x hx).2.2⟩⟩, fun x hx => hc.block x (h.k x hx).1 (h.k x hx).2.1⟩
  · rcases hs x hx with e | e
    · exact h.b1 x e
    · omega
  · rcases hs x hx with e | e
    · exact h.a12 x e hm
    · have := h.rf.lt x hm; omega
  · rcases hs x hx with e | e
    · exact h.a13 x e hm
    · have := h.bb.lt x hm; omega
  · rcases hs x hm with e | e
    · exact (h.k x hx).2.1 e
    · have := (h.k x hx).1; omega
theorem PX.rchg {w0 W W' : World} {K : Nat → Prop} {bk B C n : Nat} {d d' d2 : Dk} {SD : List Nat} {S S2 : Nat → Prop} {v : Value} {E : List Ent} (h : PX w0 W K bk B C n d d' SD S v E) (hd : RfAt W' C S2 d2) (hw : Wrote S W W') (hs : ∀ x, S2 x → S x ∨ W.heap.size ≤ x) : PI w0 W' K bk B C n d d2 ∧ Same K W W' := by
  have hbe := h.be.size
  refine ⟨⟨SD, S2, v, E, h.dk.kept (fun x hx => hw.block x (h.dk.lt x hx) (h.a12 x hx)), hd, h.bb.wrote hw (fun x hx hm => h.a23 x hm hx), h.be.trans (hw.below hbe (fun x hx hm => by have := h.b2 x hm; omega)), h.b1, fun x hx => ?_, h.b3, fun x hx hm => ?_, h.a13, fun x hx hm => ?_, fun x hx => ⟨Nat.lt_of_lt_of_le (h.k x hx).1 hw.size, (h.k x hx).2.1, fun hm => ?_, (h.k x hx).2.2.2⟩⟩, fun x hx => hw.block x (h.k x hx).1 (h.k x hx).2.2.1⟩
  · rcases hs x hx with e | e
    · exact h.b2 x e
    · omega
  · rcases hs x hm with e | e
    · exact h.a12 x hx e
    · have := h.dk.lt x hx; omega
  · rcases hs x hx with e | e
    · exact h.a23 x e hm
    · have := h.bb.lt x hm; omega
  · rcases hs x hm with e | e
    · exact (h.k x hx).2.2.1 e
    · have := (h.k x hx).1; omega
section
variable {w0 W : World} {K : Nat → Prop} {bk B C n : Nat} {d d' : Dk}
theorem p_write (h : PI w0 W K bk B C n d d') (i : Nat) (hi : i < d.sure.length) (v : Value) (b : List UInt8) {lim : Nat} (hv : InAt W lim v b) (hl : b.length ≤ 64) (hn : d.ws.length ≤ 1000000) :
    Calls Tryz.prog 8 #[.pointer (some ⟨B, 0, none⟩), .int .i64 (i : Int), v] W fun e W' => e = .returned (.int .i64 0) ∧ PI w0 W' K bk B C n (d.write i b) d' ∧ Same K W W' := by
  obtain ⟨SD, S, v', E, h⟩ := h
  exact (write_ok h.dk i hi v b hv hl hn).mono fun e W' ⟨k1, S', k2, k3, k4⟩ => ⟨k1, h.dchg k2 k3 k4⟩
theorem p_sync (h : PI w0 W K bk B C n d d') :
    Calls Tryz.prog 11 #[.pointer (some ⟨B, 0, none⟩)] W fun e W' => e = .returned (.int .i64 0) ∧ PI w0 W' K bk B C n d.sync d' ∧ Same K W W' := by
  obtain ⟨SD, S, v', E, h⟩ := h
  exact (sync_ok h.dk).mono fun e W' ⟨k1, S', k2, k3, k4⟩ => ⟨k1, h.dchg k2 k3 k4⟩
theorem p_rwrite (h : PI w0 W K bk B C n d d') (i : Nat) (hi : i < d'.sure.length) (v : Value) (b : List UInt8) (hv : InAt W W.heap.size v b) (hl : b.length ≤ 64) (hn : d'.ws.length ≤ 1000000) :
    Calls Tryz.prog 9 #[.pointer (some ⟨C, 0, none⟩), .int .i64 (i : Int), v] W fun e W' => e = .returned (.int .i64 0) ∧ PI w0 W' K bk B C n d (d'.write i b) ∧ Same K W W' := by
  obtain ⟨SD, S, v', E, h⟩ := h
  exact (rwrite_ok h.rf i hi v b hv hl hn).mono fun e W' ⟨k1, S', k2, k3, k4⟩ => ⟨k1, h.rchg k2 k3 k4⟩
theorem p_rsync (h : PI w0 W K bk B C n d d') (hn : d'.ws.length ≤ 1000000) :
    Calls Tryz.prog 10 #[.pointer (some ⟨C, 0, none⟩)] W fun e W' => e = .returned (.int .i64 0) ∧ PI w0 W' K bk B C n d d'.sync ∧ Same K W W' := by
  obtain ⟨SD, S, v', E, h⟩ := h
  exact (rsync_ok h.rf hn).mono fun e W' ⟨k1, k2, k3⟩ => ⟨k1, h.rchg k2 k3 (fun x hx => .inl hx)⟩
theorem p_read (h : PI w0 W K bk B C n d d') (i : Nat) (hi : i < d.sure.length) :
    Calls Tryz.prog 12 #[.pointer (some ⟨B, 0, none⟩), .int .i64 (i : Int)] W fun e W' =>
      e = .returned (.tuple #[.slice (some ⟨W.heap.size + 1, 0, none⟩) 64 64, .int .i64 0]) ∧ W'.heap[W.heap.size + 1]? = some (.cells (bcells (d.view i)).toArray 5 (0, 0)) ∧ PI w0 W' (fun x => K x ∨ x = W.heap.size + 1) bk B C n d d' ∧ Same K W W' := by
  obtain ⟨SD, S, v', E, hx⟩ := id h
  exact (read_ok hx.dk i hi).mono fun e W' ⟨k1, k2, k3⟩ => ⟨k1, k2, h.more k3 (fun x hx => hx.elim .inl (fun e => .inr (by rw [e]; exact ⟨by omega, lt_of_block k2⟩))), (h.kept k3).2⟩
theorem p_rread (h : PI w0 W K bk B C n d d') (i : Nat) (hi : i < d'.sure.length) (hn : d'.ws.length ≤ 1000000) :
    Calls Tryz.prog 13 #[.pointer (some ⟨C, 0, none⟩), .int .i64 (i : Int)] W fun e W' =>
      ∃ v, e = .returned (.tuple #[v, .int .i64 0]) ∧ W'.ownsRow W.heap.size 5 1 v 64 (bcells (d'.view i)) ∧ PI w0 W' K bk B C n d d' ∧ Same K W W' := by
  obtain ⟨SD, S, v', E, hx⟩ := id h
  exact (rread_ok hx.rf i hi hn).mono fun e W' ⟨v, k1, k2, k3⟩ => ⟨v, k1, k2, h.kept k3⟩
theorem p_keep (h : PI w0 W K bk B C n d d') (hn : n ≤ 100000) {ln cl : Nat} {al : Option Addr} {xs : List Value} (hx : W.ownsRow 0 5 1 (.slice al ln cl) ln xs) (hln : ln ≤ 1000000000) (hK : ∀ b, (Value.slice al ln cl).ownBlock = some b → K b ∧ w0.heap.size ≤ b) :
    Calls Tryz.prog 15 #[ptr bk, .slice al ln cl] W fun e W' => e = .returned (.tuple #[]) ∧ PI w0 W' (fun x => K x ∧ (Value.slice al ln cl).ownBlock ≠ some x) bk B C (n + 1) d d' ∧ Same K W W' := by
  obtain ⟨SD, S, v', E, h⟩ := h
  refine (keepB h.bb hn hx hln (fun b e => (h.k b (hK b e).1).2.2.2)).mono ?_
  rintro e W' ⟨k1, v2, E2, kb, kw, ks⟩
  have hbe := h.be.size
  refine ⟨k1, ⟨SD, S, v2, E2, h.dk.kept (fun x hx => kw.block x (h.dk.lt x hx) (h.a13 x hx)), h.rf.wrote kw (fun x hx hm => h.a23 x hx hm), kb, h.be.trans (kw.below hbe (fun x hx hm => by have := h.b3 x hm; omega)), h.b1, h.b2, fun x hx => ?_, h.a12, fun x hx hm => ?_, fun x hx hm => ?_, fun x hx => ⟨Nat.lt_of_lt_of_le (h.k x hx.1).1 kw.size, (h.k x hx.1).2.1, (h.k x hx.1).2.2.1, fun hm => ?_⟩⟩, fun x hx => kw.block x (h.k x hx).1 (h.k x hx).2.2.2⟩
  · rcases ks x hx with e | e | e
    · exact h.b3 x e
    · exact (hK x e).2
    · omega
  · rcases ks x hm with e | e | e
    · exact h.a13 x hx e
    · exact (h.k x (hK x e).1).2.1 hx
    · have := h.dk.lt x hx; omega
  · rcases ks x hm with e | e | e
    · exact h.a23 x hx e
    · exact (h.k x (hK x e).1).2.2.1 hx
    · have := h.rf.lt x hx; omega
  · rcases ks x hm with e | e | e
    · exact (h.k x hx.1).2.2.2 e
    · exact hx.2 e
    · have := (h.k x hx.1).1; omega
theorem p_fail (h : PI w0 W K bk B C n d d') (keep : Nat) (hkeep : keep < 18446744073709551616) (torn : Int) (ht : -1 ≤ torn) :
    Calls Tryz.prog 16 #[.pointer (some ⟨B, 0, none⟩), .int .u64 (keep : Int), .int .i64 torn] W fun e W' =>
      ∃ B' S', e = .returned (.tuple #[.pointer (some ⟨B', 0, none⟩), .int .i64 0]) ∧ DkAt W' B' S' (d.fail keep torn) ∧ (∀ x ∈ S', W.heap.size ≤ x) ∧ Below W.heap.size W W' ∧ PI w0 W' K bk B C n d d' ∧ Same K W W' := by
  obtain ⟨SD, S, v', E, hx⟩ := id h
  exact (fail_ok hx.dk keep hkeep torn ht).mono fun e W' ⟨B', S', k1, k2, k3, k4⟩ => ⟨B', S', k1, k3, k4, k2, h.kept k2⟩
/-- Both fail; what is left of each takes its place, if it is to. -/
theorem p_rfail {W1 : World} {B' : Nat} {S' : List Nat} {d1 : Dk} (h : PI w0 W1 K bk B C n d d') (hd : DkAt W1 B' S' d1) (hW : ∀ x ∈ S', W.heap.size ≤ x) (hb : Below W.heap.size W W1) (h0 : PI w0 W K bk B C n d d') (hn : d'.ws.length ≤ 1000000) (keep : Nat) (hkeep : keep < 18446744073709551616) (torn : Int) (ht : -1 ≤ torn) :
    Calls Tryz.prog 17 #[.pointer (some ⟨C, 0, none⟩), .int .u64 (keep : Int), .int .i64 torn] W1 fun e W' =>
      e = .returned (.tuple #[.pointer (some ⟨W1.heap.size, 0, none⟩), .int .i64 0]) ∧ PI w0 W' K bk B' W1.heap.size n d1 (d'.fail keep torn) ∧ PI w0 W' K bk B C n d d' ∧ Same K W1 W' := by
  obtain ⟨SD, S, v', E, hx⟩ := id h
  obtain ⟨SD0, S0, v0, E0, hx0⟩ := id h0
  refine (rfail_ok hx.rf hn keep hkeep torn ht).mono ?_
  rintro e W' ⟨k1, k2, k3⟩
  refine ⟨k1, ⟨S', _, v0, E0, hd.below k2, k3, (hx0.bb.wrote (d := fun _ => False) (Wrote.of_below hb) (fun _ _ e => e)).wrote (d := fun _ => False) (Wrote.of_below k2) (fun _ _ e => e), hx.be.trans (k2.mono hx.be.size), fun x hx' => Nat.le_trans hx0.be.size (hW x hx'), fun x hx' => Nat.le_trans hx.be.size hx'.1, hx0.b3, fun x hx' hm => ?_, fun x hx' hm => ?_, fun x hx' hm => ?_, fun x hx' => ⟨Nat.lt_of_lt_of_le (hx.k x hx').1 k2.size, fun hm => ?_, fun hm => ?_, (hx0.k x hx').2.2.2⟩⟩, h.kept k2⟩
  · have := hd.lt x hx'; omega
  · have := hx0.bb.lt x hm; have := hW x hx'; omega
  · have := hx0.bb.lt x hm; have := hb.size; omega
  · have := hW x hm; have := (hx0.k x hx').1; omega
  · have := (hx.k x hx').1; omega
end
end Go.Proofs.YthnkakjelhnjdaaGreatDoor
