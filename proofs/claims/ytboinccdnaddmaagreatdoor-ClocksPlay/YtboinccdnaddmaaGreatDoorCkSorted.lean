/- slices.Sorted of a map's keys. -/
import Derived.Test.YtboinccdnaddmaaGreatDoorCkColl
import Derived.Test.YtboinccdnaddmaaGreatDoorUSort
set_option linter.unusedSimpArgs false
set_option linter.unusedVariables false
set_option maxRecDepth 1000000
namespace Go.Proofs.YtboinccdnaddmaaGreatDoor
open Go.RowKit

theorem sorted_ok (w : World) (bx : Nat) (m : Option Nat) (n : Nat) (f : Nat → Option Unit) (hn : n ≤ 1000000000) (hI : ∀ W, Below w.heap.size w W → KeysInv bx m n f W) :
    Calls Tryz.prog 21 #[.func (.func 64) #[] #[ptr bx]] w fun e w' => ∃ (v : Value) (ys : List Nat), e = .returned v ∧ ys.Pairwise (· < ·) ∧ (∀ x, x ∈ ys ↔ f x ≠ none) ∧
      w'.ownsRow w.heap.size 43 1 v ys.length (ys.map u32V) ∧ Below w.heap.size w w' ∧ ys.length ≤ 1000000000 := by
  have kc := collect_ok w 64 #[ptr bx] (enters_of Tryz.func64 (by kernel_rfl) rfl) (KeysInv bx m n f) _ n hn (keys_seq bx m n f) hI
  clear hI
  go_enter Tryz.func21, Tryz.ntmps21
  go_wp2_with fail
  refine kc.mono ?_
  rintro e w1 ⟨v, xs, rfl, ⟨hnd, hmem⟩, hr, hb, hl⟩
  have ks := sort_ok w w1 v xs hr hb hl
  have HM : Hid (xs.Nodup ∧ ∀ x, x ∈ xs ↔ f x ≠ none) := ⟨hnd, hmem⟩
  clear kc hnd hmem hr hb
  go_wp2_with fail
  refine ks.mono ?_
  rintro e w2 ⟨rfl, ys, hp, hs, hr, hb⟩
  have HS : Hid (ys.Perm xs ∧ ys.Pairwise (· ≤ ·)) := ⟨hp, hs⟩
  clear ks hp hs
  go_wp2
  go_ret
  refine ⟨v, ys, rfl, ?_, fun x => (HS.out.1.mem_iff).trans (HM.out.2 x), hr, hb, by rw [HS.out.1.length_eq]; exact hl⟩
  have h1 : ys.Nodup := HS.out.1.nodup_iff.2 HM.out.1
  have h2 := HS.out.2
  unfold List.Nodup at h1
  exact (h1.and h2).imp (fun ⟨a, b⟩ => Nat.lt_of_le_of_ne b a)
end Go.Proofs.YtboinccdnaddmaaGreatDoor
