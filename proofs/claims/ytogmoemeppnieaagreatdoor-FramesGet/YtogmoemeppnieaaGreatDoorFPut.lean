/- The walk of Put. -/
import Derived.Test.YtogmoemeppnieaaGreatDoorFTell
import Derived.Test.YtogmoemeppnieaaGreatDoorFCopy
set_option linter.unusedSimpArgs false
set_option linter.unusedVariables false
namespace Go.Proofs.YtogmoemeppnieaaGreatDoor
open Go.RowKit

theorem frame_wrt (r : List UInt8) : wrt (wrt (wrt (List.replicate (secs r.length * 64) 0) 0 (be4 r.length)) 4 (be4 (fsum r).toNat)) 8 r = frame r := by
  have := secs_ge r.length
  have e0 : wrt (List.replicate (secs r.length * 64) (0 : UInt8)) 0 (be4 r.length) = be4 r.length ++ List.replicate (secs r.length * 64 - 4) 0 := by
    unfold wrt; rw [List.take_zero, List.nil_append, be4_len, List.drop_replicate, Nat.zero_add]
  rw [e0]
  have e1 : wrt (be4 r.length ++ List.replicate (secs r.length * 64 - 4) 0) 4 (be4 (fsum r).toNat) = (be4 r.length ++ be4 (fsum r).toNat) ++ List.replicate (secs r.length * 64 - 8) 0 := by
    unfold wrt
    rw [List.take_left' (be4_len _), be4_len, List.drop_append, be4_len, List.drop_of_length_le (by rw [be4_len]; omega), List.nil_append, List.drop_replicate, List.append_assoc]
    congr 3
  rw [e1]
  have l8 : (be4 r.length ++ be4 (fsum r).toNat).length = 8 := by rw [List.length_append, be4_len, be4_len]
  unfold wrt frame
  rw [List.take_left' l8, List.drop_append, l8, List.drop_of_length_le (by rw [l8]; omega), List.nil_append, List.drop_replicate, List.append_assoc]
  congr 4
  omega
theorem kept_below {g : Nat} {w0 w w' : World} {B : Nat} (h : Kept g w.heap.size w w') (hb : Below B w0 w) (hB : B ≤ w.heap.size) (hg : B ≤ g) : Below B w0 w' :=
  hb.trans (h.below hg hB)
theorem in_keptg {g : Nat} {w w' : World} {lim : Nat} {v : Value} {l : List UInt8} (h : InAt w lim v l) (hk : Kept g w.heap.size w w') (hl : lim ≤ w.heap.size) (hg : lim ≤ g) : InAt w' lim v l :=
  h.below (hk.below (n := lim) hg hl) (Nat.le_refl _)
end Go.Proofs.YtogmoemeppnieaaGreatDoor
