/- The walks of the statements' own helpers: SameIds, SameMsgs, tell, is. -/
import Derived.Test.YtpmmdbdooclcoabBaNone
import Derived.Test.YtpmmdbdooclcoabQMsgs
import Derived.Deep.RegionHeld3
import Derived.Deep.QuietTactic
set_option linter.unusedSimpArgs false
set_option linter.unusedVariables false
namespace Go.Proofs.Ytpmmdbdooclcoab
open Go.RowKit

def idCell (x : UInt32) : List Value := [.int .u32 (x.toNat : Int)]
theorem idCell_len (x : UInt32) : (idCell x).length = 1 := rfl
set_option maxHeartbeats 2000000 in
set_option maxRecDepth 1000000 in
theorem sameIds_any (w : World) (la lb : Nat) (va vb : Value) (l : List UInt32) (ha : SlAt 1 idCell w la va l) (hb : SlAt 1 idCell w lb vb l) :
    Calls Try.prog 11 #[va, vb] w fun e w' => e = .returned (.bool true) ∧ ∃ n, w' = w.drewN n := by
  obtain ⟨ao, ca, rfl, ha1, ha2, ha3⟩ := ha
  obtain ⟨bo, cb, rfl, hb1, hb2, hb3⟩ := hb
  unfold maxLen at ha2 hb2
  go_enter Try.func11, Try.ntmps11
  go_wp2
  go_loopw [5] (fun i wr => ∃ k n : Nat, k ≤ l.length ∧ i = .int .i64 k ∧ wr = w.drewN n) (fun i _ => l.length - (intOf i).toNat)
  case atStart => exact ⟨0, 0, by omega, rfl, rfl⟩
  case round =>
    obtain ⟨k, n, hk, rfl, rfl⟩ := hrel
    by_cases h1 : k < l.length
    · obtain ⟨b1, o1, rfl, hl1, hc1⟩ := ha3 (by omega)
      obtain ⟨b2, o2, rfl, hl2, hc2⟩ := hb3 (by omega)
      obtain ⟨x, hx⟩ : ∃ x, x = l[k]'h1 := ⟨_, rfl⟩
      have p : ∀ j u, (idCell x)[j]? = some u → w.cell? ⟨b1, o1 + k * 1 + j, none⟩ = some u := fun j u hu => hc1 k h1 j u (by rw [← hx]; exact hu)
      have q : ∀ j u, (idCell x)[j]? = some u → w.cell? ⟨b2, o2 + k * 1 + j, none⟩ = some u := fun j u hu => hc2 k h1 j u (by rw [← hx]; exact hu)
      have p0 := p 0 _ rfl
      have q0 := q 0 _ rfl
      simp only [Nat.add_zero, Nat.mul_one] at p0 q0
      clear p q hx hc1 hc2 ha3 hb3
      have i1 : (k : Int) < (l.length : Int) := by omega
      go_wp2
      go_quiet (fail)
      go_wp2
      go_roundw
      case rel => exact ⟨k + 1, _, by omega, by go_num, rfl⟩
      case measure => simp [intOf]; omega
    · clear ha3 hb3
      go_wp2
      go_ret
      exact ⟨rfl, n, rfl⟩

theorem msgsAt_of {S0 : Nat → Prop} {w0 w : World} {L : List Part} {v : Value} {ms : List MsgO} (h : St S0 w0 w (msgsP v ms :: L)) : MsgsAt w w.heap.size v ms := by
  have h1 := h.open_all (K := [_, _])
  exact ⟨sl_own MsgO.cells_len h1.row, fun x hx => (all_mem (h1.pick 1 rfl) hx).2⟩
abbrev SmS (w : World) (b1 o1 b2 o2 : Nat) (x y : MsgO) (W : World) : Prop := (∀ j u, x.cells[j]? = some u → W.cell? ⟨b1, o1 + j, none⟩ = some u) ∧ (∀ j u, y.cells[j]? = some u → W.cell? ⟨b2, o2 + j, none⟩ = some u) ∧ Below w.heap.size w W
end Go.Proofs.Ytpmmdbdooclcoab
