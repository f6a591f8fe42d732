/- The walk of SectorsSeen. -/
import Derived.Test.YthnkakjelhnjdaaGreatDoorDAlive
import Derived.Test.YthnkakjelhnjdaaGreatDoorGOpen
import Derived.LoopTactic
set_option linter.unusedSimpArgs false
set_option linter.unusedVariables false
namespace Go.Proofs.YthnkakjelhnjdaaGreatDoor
open Go.RowKit Go.Maps Go.ChangeShapes Go.WideShapes

def seenAt (l : List UInt8) (k : Nat) : Bool := l.any fun x => x.toNat % 20 == k
theorem seenAt_succ (l : List UInt8) (k j : Nat) (h : j < l.length) : seenAt (l.take (j + 1)) k = (seenAt (l.take j) k || ((l[j]'h).toNat % 20 == k)) := by
  unfold seenAt
  rw [List.take_succ_eq_append_getElem h, List.any_append, List.any_cons, List.any_nil, Bool.or_false]
/-- A sector of noughts. -/
def z64 : Sec := List.replicate 64 0
theorem z64_get {i : Nat} (h : i < 64) : z64[i]? = some 0 := by unfold z64; rw [List.getElem?_replicate, if_pos h]
/-- Sectors of which some are b, the others noughts. -/
def SeenInv (b : List UInt8) (l : List UInt8) (j : Nat) (d : Dk) : Prop := d.sure.length = 20 ∧ d.ws.length ≤ j ∧ ∀ k, k < 20 → d.view k = if seenAt (l.take j) k = true then pad b else z64
theorem seenInv_write {b l : List UInt8} {j : Nat} {d : Dk} (h : SeenInv b l j d) (hj : j < l.length) : SeenInv b l (j + 1) (d.write ((l[j]'hj).toNat % 20) b) := by
  obtain ⟨h1, h2, h3⟩ := h
  refine ⟨h1, by rw [ws_len]; omega, fun k hk => ?_⟩
  rw [Dk.view_write, seenAt_succ l k j hj, h3 k hk]
  by_cases e : (l[j]'hj).toNat % 20 = k
  · simp [e]
  · simp [e]
theorem seenInv_sync {b l : List UInt8} {j : Nat} {d : Dk} (h : SeenInv b l j d) : SeenInv b l j d.sync := by
  obtain ⟨h1, h2, h3⟩ := h
  refine ⟨by simpa [Dk.sync] using h1, by simp [Dk.sync], fun k hk => ?_⟩
  rw [Dk.view_sync (by omega), h3 k hk]
theorem seenInv_new (b l : List UInt8) : SeenInv b l 0 (Dk.new 20) := by
  refine ⟨by simp [Dk.new], by simp [Dk.new], fun k hk => ?_⟩
  rw [Dk.view_new hk]
  simp only [List.take_zero, seenAt, List.any_nil, Bool.false_eq_true, if_false]
  rfl
theorem in_cell {w : World} {lim : Nat} {ao : Option Addr} {n c : Nat} {l : List UInt8} (h : InAt w lim (.slice ao n c) l) {j : Nat} (hj : j < l.length) : ∃ b o, ao = some ⟨b, o, none⟩ ∧ b < lim ∧ ∀ i (hi : i < l.length), w.cell? ⟨b, o + i, none⟩ = some (.int .u8 ((l[i]'hi).toNat : Int)) := by
  obtain ⟨ao', c', e, h1, h2, h3⟩ := h
  cases e
  obtain ⟨b, o, rfl, hb, hc⟩ := h3 (by omega)
  refine ⟨b, o, rfl, hb, fun i hi => ?_⟩
  have := hc i hi 0 _ rfl
  rw [Nat.mul_one, Nat.add_zero] at this
  exact this
theorem tmod_nat (a n : Nat) : ((a : Int)).tmod (n : Int) = ((a % n : Nat) : Int) := rfl
theorem row_cell {w : World} {g : Nat} {s : Sec} {t : TypeId} (h : w.heap[g]? = some (.cells (bcells s).toArray t (0, 0))) {i : Nat} {c : UInt8} (hc : s[i]? = some c) : w.cell? ⟨g, i, none⟩ = some (.int .u8 (c.toNat : Int)) := by
  rw [cell_of_row _ _ _ _ _ _ h]
  simp [bcells, hc, bv]

end Go.Proofs.YthnkakjelhnjdaaGreatDoor
