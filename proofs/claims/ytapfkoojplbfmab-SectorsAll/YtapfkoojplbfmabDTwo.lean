/- Of two disks beside each other one is made sure. -/
import Derived.Test.YtapfkoojplbfmabDOrderM
set_option linter.unusedSimpArgs false
set_option linter.unusedVariables false
namespace Go.Proofs.Ytapfkoojplbfmab
open Go.RowKit Go.Maps

theorem two_sync {base : Nat} {w : World} {B1 B2 : Nat} {d1 d2 : Dk} (h : Two base w B1 d1 B2 d2) (hb : base ≤ w.heap.size) :
    Calls Try.prog 7 #[.pointer (some ⟨B1, 0, none⟩)] w fun e w' => e = .returned (.int .i64 0) ∧ Two base w' B1 d1.sync B2 d2 ∧ Below base w w' := by
  obtain ⟨S1, S2, h1, h2, h3, h4, h5⟩ := h
  refine (sync_ok h1).mono fun e w' ⟨k1, S', k2, k3, k4⟩ => ⟨k1, ⟨S', S2, k2, h2.chg k3 (fun x hx hm => h3 x hm hx), fun x hx hm => ?_, fun x hx => (k4 x hx).elim (h4 x) (fun h => Nat.le_trans hb h), h5⟩, k3.belowOf h4 hb⟩
  rcases k4 x hx with h | h
  · exact h3 x h hm
  · have := h2.lt x hm; omega
end Go.Proofs.Ytapfkoojplbfmab
