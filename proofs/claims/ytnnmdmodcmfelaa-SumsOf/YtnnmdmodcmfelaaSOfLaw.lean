/- The walk of SumsOf: the sums are the document's. -/
import Derived.Test.YtnnmdmodcmfelaaSRef
import Derived.Test.YtnnmdmodcmfelaaGTwByte
import Derived.Test.YtnnmdmodcmfelaaSLaw
set_option linter.unusedSimpArgs false
set_option linter.unusedVariables false
namespace Go.Proofs.Ytnnmdmodcmfelaa
open Go.RowKit

theorem twin_in {w : World} {base cap : Nat} {g : Nat} {l : List UInt8} (h : w.ownsRow base 5 1 (.slice (some ⟨g, 0, none⟩) (l.length + 1) cap) (l.length + 1) (l.flatMap bCell ++ spareByte)) :
    InAt w w.heap.size (.slice (some ⟨g, 0, none⟩) l.length cap) l := by
  obtain ⟨h1, -, h3, h4⟩ := cell_twByte h
  refine ⟨_, _, rfl, by omega, h4, fun hp => ⟨g, 0, rfl, ?_, fun i hi j u hu => by rw [Nat.zero_add]; exact h1 i hi j u hu⟩⟩
  exact World.block_lt_of_cell? w _ (h1 0 hp 0 _ rfl)
set_option maxHeartbeats 4000000 in
set_option maxRecDepth 1000000 in
theorem sumsOf_any (w : World) (vb : Value) (l : List UInt8) (z : Int) (hl : InAt w w.heap.size vb l) (hz : (Lit.int .u32 z).wf = true) :
    Calls Try.prog 3 #[vb, .int .u32 z] w fun e w' => e = .returned (.bool true) ∧ Below w.heap.size w w' := by
  obtain ⟨s, rfl⟩ := u32_uv hz
  have hl0 := hl
  obtain ⟨ao, cap, rfl, hlc, hcm, hc⟩ := hl
  clear hc
  unfold maxLen at hcm
  by_cases hlong : 100000 < l.length
  · have i1 : (100000 : Int) < (l.length : Int) := by omega
    clear hl0
    go_enter Try.func3, Try.ntmps3
    go_wp2
    go_ret
    exact ⟨rfl, Below.refl _ _⟩
  have i1 : ¬ (100000 : Int) < (l.length : Int) := by omega
  have kT := twinByte_any w _ l hl0 (by omega)
  have kO := fun W (hW : InAt W W.heap.size (.slice (some ⟨w.heap.size, 0, none⟩) l.length (l.length + 1)) l) => of_any W _ _ l hW (Nat.le_refl _)
  have kN := fun W (hW : InAt W W.heap.size (.slice (some ⟨w.heap.size, 0, none⟩) l.length (l.length + 1)) l) => on_any W _ _ l s hW (Nat.le_refl _)
  have kR := fun W (hW : Below w.heap.size w W) => refOf_any W _ _ l (hl0.below hW (Nat.le_refl _))
  have kS := fun W (hW : Below w.heap.size w W) => refOn_any W _ _ l s (hl0.below hW (Nat.le_refl _))
  have kL := fun W (ht : W.ownsRow w.heap.size 5 1 (.slice (some ⟨w.heap.size, 0, none⟩) (l.length + 1) (l.length + 1)) (l.length + 1) (l.flatMap bCell ++ spareByte)) (hW : Below w.heap.size w W) => leftByte_any W w.heap.size w.heap.size (l.length + 1) w.heap.size _ l ht (hl0.below hW (Nat.le_refl _))
  clear hl0
  generalize uv (sumOf l) = p at *
  generalize uv (sumOn s l) = q at *
  go_enter Try.func3, Try.ntmps3
  go_wp2_with fail
  refine kT.mono ?_
  rintro e w1 ⟨rfl, o1, b1⟩
  clear kT
  go_wp2_with fail
  refine (kO w1 (twin_in o1)).mono ?_
  rintro e w2 ⟨rfl, h⟩
  have o2 := own_below o1 h
  have b2 := b1.trans (h.mono b1.size)
  clear kO h o1 b1
  go_wp2_with fail
  refine (kR w2 b2).mono ?_
  rintro e w3 ⟨rfl, rfl⟩
  clear kR
  go_wp2_with fail
  refine (kN _ (twin_in o2)).mono ?_
  rintro e w4 ⟨rfl, h⟩
  have o4 := own_below o2 h
  have b4 := b2.trans (h.mono b2.size)
  clear kN h o2 b2
  go_wp2_with fail
  refine (kS w4 b4).mono ?_
  rintro e w5 ⟨rfl, rfl⟩
  clear kS
  go_wp2_with fail
  refine (kL _ o4 b4).mono ?_
  rintro e w6 ⟨rfl, h⟩
  have b6 := b4.trans (h.mono b4.size)
  clear kL h o4 b4
  go_wp2
  go_ret
  exact ⟨rfl, b6⟩
end Go.Proofs.Ytnnmdmodcmfelaa
