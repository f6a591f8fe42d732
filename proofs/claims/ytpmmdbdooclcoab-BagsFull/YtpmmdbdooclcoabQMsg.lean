/- Messages in memory of their own, as parts. -/
import Derived.Test.YtpmmdbdooclcoabGSep
import Derived.Test.YtpmmdbdooclcoabQData
set_option linter.unusedSimpArgs false
set_option linter.unusedVariables false
namespace Go.Proofs.Ytpmmdbdooclcoab
open Go.RowKit

/-- A message in memory: what it is, the values of its lists, and where its results' rows are. -/
structure MsgO where
  d : MsgD
  vo : Value
  vr : Value
  rs : List ResP
def MsgO.cells (x : MsgO) : List Value := [.int .u8 (x.d.say.toNat : Int), .int .u8 (x.d.src.toNat : Int), .int .u8 (x.d.dst.toNat : Int), .int .u32 (x.d.g.toNat : Int), x.vo, x.vr]
abbrev MsgO.v (x : MsgO) : Value := msgV x.d x.vo x.vr
theorem MsgO.cells_len (x : MsgO) : x.cells.length = 6 := rfl
/-- How much a message has in it, and that its rows are what it says. -/
structure MsgO.fine (x : MsgO) : Prop where
  eq : x.rs.map (·.2) = x.d.res
  sm : ∀ o ∈ x.d.ops, opSm o
  smr : ∀ p ∈ x.rs, ∀ r ∈ p.2, rowSm r
  lo : x.d.ops.length ≤ 1000000
  lr : x.rs.length ≤ 1000000
  lw : ∀ p ∈ x.rs, p.2.length ≤ 1000000
def rowP (p : ResP) : Part := Part.row 74 2 p.1 p.2.length (p.2.flatMap rowCells)
/-- The message's lists, and their lists. -/
def MsgO.parts (x : MsgO) : List Part := [Part.pure x.fine, Part.row 63 4 x.vo x.d.ops.length (x.d.ops.flatMap opCells), Part.row 67 1 x.vr x.rs.length (x.rs.flatMap resCells), Part.all (x.rs.map rowP)]
def MsgO.part (x : MsgO) : Part := Part.all x.parts

theorem parts_pure {p : Prop} {L : List Part} {w : World} {S : Nat → Prop} (h : Parts (Part.pure p :: L) w S) : p ∧ Parts L w S := by
  obtain ⟨S1, S2, ⟨h1, h1'⟩, h2, h3, h4⟩ := h
  exact ⟨h1, Parts.iff h2 (fun b => (h4 b).trans ⟨fun h => h.elim (fun h => absurd h (h1' b)) id, .inr⟩)⟩
theorem parts_pure' {p : Prop} {L : List Part} {w : World} {S : Nat → Prop} (hp : p) (h : Parts L w S) : Parts (Part.pure p :: L) w S :=
  ⟨noB, S, ⟨hp, fun _ h => h⟩, h, fun _ h => h.elim, fun b => ⟨.inr, fun h => h.elim False.elim id⟩⟩
theorem parts_mem {P : Part} : ∀ {L : List Part} {w : World} {S : Nat → Prop}, Parts L w S → P ∈ L → ∃ T, P.holds w T ∧ ∀ b, T b → S b := by
  intro L
  induction L with
  | nil => intro w S _ h; cases h
  | cons Q L ih =>
    rintro w S ⟨S1, S2, h1, h2, h3, h4⟩ hP
    rcases List.mem_cons.1 hP with rfl | hP
    · exact ⟨S1, h1, fun b hb => (h4 b).2 (.inl hb)⟩
    · obtain ⟨T, k1, k2⟩ := ih h2 hP
      exact ⟨T, k1, fun b hb => (h4 b).2 (.inr (k2 b hb))⟩
theorem MsgO.holds {x : MsgO} {w : World} {S : Nat → Prop} (h : x.part.holds w S) : x.fine ∧ MsgAt w w.heap.size x.vo x.vr x.d x.rs := by
  have h' : Parts x.parts w S := h
  obtain ⟨T0, ⟨hf, -⟩, -⟩ := parts_mem h' (List.mem_cons_self ..)
  obtain ⟨T1, ⟨ho, -⟩, -⟩ := parts_mem h' (List.mem_cons_of_mem _ (List.mem_cons_self ..))
  obtain ⟨T2, ⟨hr, -⟩, -⟩ := parts_mem h' (List.mem_cons_of_mem _ (List.mem_cons_of_mem _ (List.mem_cons_self ..)))
  obtain ⟨T3, hw, -⟩ := parts_mem h' (List.mem_cons_of_mem _ (List.mem_cons_of_mem _ (List.mem_cons_of_mem _ (List.mem_cons_self ..))))
  refine ⟨hf, sl_own opCells_len ho, hf.sm, ⟨sl_own resCells_len hr, fun p hp => ?_⟩, hf.eq⟩
  obtain ⟨T4, ⟨hp', -⟩, -⟩ := parts_mem (P := rowP p) hw (List.mem_map.2 ⟨p, hp, rfl⟩)
  exact ⟨sl_own rowCells_len hp', hf.smr p hp⟩
theorem MsgO.at {S0 : Nat → Prop} {w0 w : World} {x : MsgO} {L : List Part} (h : St S0 w0 w (x.part :: L)) : x.fine ∧ MsgAt w w.heap.size x.vo x.vr x.d x.rs := by
  obtain ⟨S, h1, -⟩ := h.head
  exact MsgO.holds h1
/-- A list of messages, and all in them. -/
def msgsP (v : Value) (ms : List MsgO) : Part := Part.all [Part.row 27 6 v ms.length (ms.flatMap MsgO.cells), Part.all (ms.map MsgO.part)]
theorem opCells_one (x : OpD) : ∀ u ∈ opCells x, u.oneCell' = true := by
  intro u hu
  simp [opCells] at hu
  rcases hu with rfl | rfl | rfl | rfl
  all_goals rfl
theorem rowCells_one (x : RowD) : ∀ u ∈ rowCells x, u.oneCell' = true := by
  intro u hu
  simp [rowCells] at hu
  rcases hu with rfl | rfl
  all_goals rfl
theorem one_slice (a : Option Addr) (n c : Nat) : (Value.slice a n c).oneCell' = true := by cases a <;> rfl
theorem St.set' {S0 : Nat → Prop} {w0 w w' : World} {L : List Part} {b : Nat} {cs : Array Value} {t : TypeId} {i : Nat} {u : Value} (h : St S0 w0 w (Part.blk b (.cells cs t (0, 0)) :: L)) (cs' : Array Value) (he : cs.setIfInBounds i u = cs') (hw : w' = w.setCell ⟨b, i, none⟩ u) : St S0 w0 w' (Part.blk b (.cells cs' t (0, 0)) :: L) := by
  rw [hw, ← he]; exact h.set i u
theorem six_cells {w : World} {B : Nat} {a b c d e f : Value} {t : TypeId} (h : w.heap[B]? = some (.cells #[a, b, c, d, e, f] t (0, 0))) :
    w.cell? ⟨B, 0, none⟩ = some a ∧ w.cell? ⟨B, 1, none⟩ = some b ∧ w.cell? ⟨B, 2, none⟩ = some c ∧ w.cell? ⟨B, 3, none⟩ = some d ∧ w.cell? ⟨B, 4, none⟩ = some e ∧ w.cell? ⟨B, 5, none⟩ = some f := by simp [World.cell?, h]
def mdCells (m : MsgD) (vo vr : Value) : Array Value := #[.int .u8 (m.say.toNat : Int), .int .u8 (m.src.toNat : Int), .int .u8 (m.dst.toNat : Int), .int .u32 (m.g.toNat : Int), vo, vr]
def zM : Array Value := #[.int .u8 0, .int .u8 0, .int .u8 0, .int .u32 0, .slice none 0 0, .slice none 0 0]
theorem St.set6 {S0 : Nat → Prop} {w0 w : World} {L : List Part} {b : Nat} {z0 z1 z2 z3 z4 z5 : Value} {t : TypeId} (h : St S0 w0 w (Part.blk b (.cells #[z0, z1, z2, z3, z4, z5] t (0, 0)) :: L)) (a0 a1 a2 a3 a4 a5 : Value) :
    St S0 w0 ((((((w.setCell ⟨b, 0, none⟩ a0).setCell ⟨b, 1, none⟩ a1).setCell ⟨b, 2, none⟩ a2).setCell ⟨b, 3, none⟩ a3).setCell ⟨b, 4, none⟩ a4).setCell ⟨b, 5, none⟩ a5) (Part.blk b (.cells #[a0, a1, a2, a3, a4, a5] t (0, 0)) :: L) :=
  (((((h.set' (i := 0) (u := a0) #[a0, z1, z2, z3, z4, z5] (by simp) rfl).set' (i := 1) (u := a1) #[a0, a1, z2, z3, z4, z5] (by simp) rfl).set' (i := 2) (u := a2) #[a0, a1, a2, z3, z4, z5] (by simp) rfl).set' (i := 3) (u := a3) #[a0, a1, a2, a3, z4, z5] (by simp) rfl).set' (i := 4) (u := a4) #[a0, a1, a2, a3, a4, z5] (by simp) rfl).set' (i := 5) (u := a5) #[a0, a1, a2, a3, a4, a5] (by simp) rfl
/-- A cell of a row that is owned is written. -/
theorem St.row_set {S0 : Nat → Prop} {w0 w : World} {e : TypeId} {s n g cap : Nat} {xs : List Value} {L : List Part} (h : St S0 w0 w (Part.row e s (.slice (some ⟨g, 0, none⟩) n cap) n xs :: L)) (i : Nat) (u : Value) : St S0 w0 (w.setCell ⟨g, i, none⟩ u) (Part.row e s (.slice (some ⟨g, 0, none⟩) n cap) n (xs.set i u) :: L) := by
  refine h.step (P := [_]) (Q := [_]) (fun S hS => ?_)
  obtain ⟨h1, h2⟩ := parts_one.1 hS
  exact ⟨S, parts_one.2 ⟨(h1.stored i u).1, h2⟩, fun b hb => .inl hb, Wrote.set w g i u ((h2 g).2 rfl)⟩
theorem St.form {S0 : Nat → Prop} {w0 w : World} {e : TypeId} {s n : Nat} {v : Value} {xs : List Value} {L : List Part} (h : St S0 w0 w (Part.row e s v n xs :: L)) : (∃ ao cap, v = .slice ao n cap ∧ n ≤ cap ∧ cap ≤ maxLen) ∧ (0 < n → ∃ g cap, v = .slice (some ⟨g, 0, none⟩) n cap) := by
  refine ⟨own_len' h.row, fun hn => ?_⟩
  obtain ⟨g, cap, h1, -⟩ := h.row.form hn
  exact ⟨g, cap, h1⟩
end Go.Proofs.Ytpmmdbdooclcoab
