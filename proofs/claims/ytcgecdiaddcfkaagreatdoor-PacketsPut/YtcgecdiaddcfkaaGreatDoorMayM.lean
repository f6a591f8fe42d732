import Derived.Test.YtcgecdiaddcfkaaGreatDoorRows
import Derived.Test.YtcgecdiaddcfkaaGreatDoorM1
import Derived.WalkKit
import Derived.WalkSpells
import Derived.WalkLawsBesides
import Derived.Laws.EntriesVeiled
import Derived.Lib.OthersKept
import Derived.Below
/- The walks of the closures by which keys.Check tells which runes may stand. -/
set_option linter.unusedSimpArgs false
set_option linter.unusedVariables false
namespace Go.Proofs.YtcgecdiaddcfkaaGreatDoor
open Go.RowKit

/-- A pointer to a block's first cell. -/
abbrev ptr (b : Nat) : Value := .pointer (some ⟨b, 0, none⟩)
/-- The memory that the closure of keys.mayStand captured, from block n on. -/
structure MayAt (w : World) (n : Nat) : Prop where
  c0 : w.cell? ⟨n, 0, none⟩ = some (.int .i32 97)
  c1 : w.cell? ⟨n + 1, 0, none⟩ = some (.int .i32 122)
  c2 : w.cell? ⟨n + 2, 0, none⟩ = some (.int .i32 48)
  c3 : w.cell? ⟨n + 3, 0, none⟩ = some (.int .i32 57)
  c4 : w.cell? ⟨n + 4, 0, none⟩ = some (.func (.func 185) #[] #[ptr n, ptr (n + 1)])
  c5 : w.cell? ⟨n + 5, 0, none⟩ = some (.func (.func 185) #[] #[ptr (n + 2), ptr (n + 3)])

theorem MayAt.of_block {w w' : World} {n : Nat} (h : MayAt w n) (hb : ∀ k, n ≤ k → k ≤ n + 5 → w'.heap[k]? = w.heap[k]?) : MayAt w' n :=
  ⟨by rw [World.cell?_of_block (w := w) (hb n (by omega) (by omega))]; exact h.c0,
   by rw [World.cell?_of_block (w := w) (hb (n + 1) (by omega) (by omega))]; exact h.c1,
   by rw [World.cell?_of_block (w := w) (hb (n + 2) (by omega) (by omega))]; exact h.c2,
   by rw [World.cell?_of_block (w := w) (hb (n + 3) (by omega) (by omega))]; exact h.c3,
   by rw [World.cell?_of_block (w := w) (hb (n + 4) (by omega) (by omega))]; exact h.c4,
   by rw [World.cell?_of_block (w := w) (hb (n + 5) (by omega) (by omega))]; exact h.c5⟩

set_option maxHeartbeats 1000000 in
set_option maxRecDepth 1000000 in
theorem mayStand_any (w : World) : Calls Tryz.prog 172 #[] w fun e w' => e = .returned (.func (.func 181) #[] #[ptr (w.heap.size + 4), ptr (w.heap.size + 5)]) ∧ MayAt w' w.heap.size ∧ Below w.heap.size w w' ∧ w'.heap.size = w.heap.size + 6 := by
  have hmf : ∀ (fn : Fn) (first cap : Array Value) (w : World), (Instr.makeFunc fn first cap).run Tryz.prog w = .ok (.func fn first cap) w := fun _ _ _ _ => rfl
  go_enter Tryz.func172, Tryz.ntmps172
  go_wp2
  go_ret
  refine ⟨rfl, ?_, ?_, by simp⟩
  · constructor <;> go_simp
  · exact ((((((Below.refl _ _).alloc (Nat.le_refl _) _).alloc (by simp) _).alloc (by simp; omega) _).alloc (by simp; omega) _).alloc (by simp; omega) _).alloc (by simp; omega) _

set_option maxHeartbeats 1000000 in
set_option maxRecDepth 1000000 in
theorem between_any (w : World) (a b : Nat) (lo hi r : Int) (ha : w.cell? ⟨a, 0, none⟩ = some (.int .i32 lo)) (hb : w.cell? ⟨b, 0, none⟩ = some (.int .i32 hi)) :
    Calls Tryz.prog 185 #[.int .i32 r, ptr a, ptr b] w fun e w' => e = .returned (.bool (decide (lo ≤ r) && decide (r ≤ hi))) ∧ w' = w := by
  by_cases h1 : lo ≤ r
  · by_cases h2 : r ≤ hi
    · go_enter Tryz.func185, Tryz.ntmps185
      go_wp2
      go_ret
      exact ⟨by simp [h1, h2], rfl⟩
    · go_enter Tryz.func185, Tryz.ntmps185
      go_wp2
      go_ret
      exact ⟨by simp [h1, h2], rfl⟩
  · go_enter Tryz.func185, Tryz.ntmps185
    go_wp2
    go_ret
    exact ⟨by rw [show decide (lo ≤ r) = false by simp; omega]; rfl, rfl⟩

/-- What the closure tells of a rune. -/
def mayI (r : Int) : Bool := (decide (97 ≤ r) && decide (r ≤ 122)) || ((decide (48 ≤ r) && decide (r ≤ 57)) || decide (r = 95))
theorem mayI_nat (c : Nat) : mayI (c : Int) = mayB c := by
  rw [Bool.eq_iff_iff, mayB_iff]; unfold mayI; simp; omega

theorem mayI_1 {r : Int} (h : (decide (97 ≤ r) && decide (r ≤ 122)) = true) : mayI r = true := by unfold mayI; rw [h]; rfl
theorem mayI_2 {r : Int} (h : (decide (97 ≤ r) && decide (r ≤ 122)) = false) (h2 : (decide (48 ≤ r) && decide (r ≤ 57)) = true) : mayI r = true := by unfold mayI; rw [h, h2]; rfl
theorem mayI_3 {r : Int} (h : (decide (97 ≤ r) && decide (r ≤ 122)) = false) (h2 : (decide (48 ≤ r) && decide (r ≤ 57)) = false) : mayI r = (r == 95) := by unfold mayI; rw [h, h2]; rfl

set_option maxHeartbeats 1000000 in
set_option maxRecDepth 1000000 in
theorem may_any (w : World) (n : Nat) (r : Int) (h : MayAt w n) :
    Calls Tryz.prog 181 #[.int .i32 r, ptr (n + 4), ptr (n + 5)] w fun e w' => e = .returned (.bool (mayI r)) ∧ w' = w := by
  obtain ⟨c0, c1, c2, c3, c4, c5⟩ := h
  have k1 := between_any w n (n + 1) 97 122 r c0 c1
  have k2 := between_any w (n + 2) (n + 3) 48 57 r c2 c3
  clear c0 c1 c2 c3
  by_cases h1 : (decide (97 ≤ r) && decide (r ≤ 122)) = true
  · have H := mayI_1 h1
    rw [h1] at k1
    rw [H]
    clear k2 h1 H
    go_enter Tryz.func181, Tryz.ntmps181
    go_wp2_with fail
    refine k1.mono ?_
    rintro e w' ⟨rfl, rfl⟩
    go_wp2
    go_ret
    exact ⟨rfl, rfl⟩
  · rw [Bool.not_eq_true] at h1
    by_cases h2 : (decide (48 ≤ r) && decide (r ≤ 57)) = true
    · have H := mayI_2 h1 h2
      rw [h1] at k1
      rw [h2] at k2
      rw [H]
      clear h1 H h2
      go_enter Tryz.func181, Tryz.ntmps181
      go_wp2_with fail
      refine k1.mono ?_
      rintro e w' ⟨rfl, rfl⟩
      go_wp2_with fail
      refine k2.mono ?_
      rintro e w'' ⟨rfl, rfl⟩
      go_wp2
      go_ret
      exact ⟨rfl, rfl⟩
    · rw [Bool.not_eq_true] at h2
      have H := mayI_3 h1 h2
      rw [h1] at k1
      rw [h2] at k2
      rw [H]
      clear h1 H h2
      go_enter Tryz.func181, Tryz.ntmps181
      go_wp2_with fail
      refine k1.mono ?_
      rintro e w' ⟨rfl, rfl⟩
      go_wp2_with fail
      refine k2.mono ?_
      rintro e w'' ⟨rfl, rfl⟩
      go_wp2
      go_ret
      exact ⟨rfl, rfl⟩
end Go.Proofs.YtcgecdiaddcfkaaGreatDoor
