/- The walk of KeysJoined, out of its ways. -/
import Derived.Test.YthcngkikclaodaaDoorJoined1
import Derived.Test.YthcngkikclaodaaDoorJoined2
import Derived.Test.YthcngkikclaodaaDoorJoined3
import Derived.Test.YthcngkikclaodaaDoorJoined4
import Derived.Test.YthcngkikclaodaaDoorJoined5
import Derived.Test.YthcngkikclaodaaDoorJoined6
import Derived.Test.YthcngkikclaodaaDoorJoined7
set_option linter.unusedSimpArgs false
set_option linter.unusedVariables false
namespace Go.Proofs.YthcngkikclaodaaDoor
open Go.RowKit

theorem u8_of {c : Int} (h : (Lit.int .u8 c).wf = true) : ∃ b : UInt8, c = (b.toNat : Int) := by
  have := bounds_u8 h
  refine ⟨UInt8.ofNat c.toNat, ?_⟩
  simp; omega
theorem joined_walk (k : ByteArray) (c : Int) (w : World) (hk : k.size ≤ 140737488351232) (wc : (Lit.int .u8 c).wf = true) (htab : Tab w) :
    Calls Tryd.prog 6 #[.string k, .int .u8 c] w fun e w' => e = .returned (.bool true) ∧ Below w.heap.size w w' := by
  obtain ⟨b, rfl⟩ := u8_of wc
  by_cases hl : 1048576 < (k.size : Int)
  · exact joined_yes k b w hk htab hl
  · cases hck : chk k <;> cases hm : mayB b.toNat
    · exact joined_p7 k b w hk htab hl hck hm
    · by_cases h16 : k.size < 16
      · by_cases h0 : k.size = 0
        · exact joined_p4 k b w hk htab hl hck hm h16 h0
        · exact joined_p5 k b w hk htab hl hck hm h16 (by omega)
      · exact joined_p6 k b w hk htab hl hck hm h16
    · exact joined_p3 k b w hk htab hl hck hm
    · by_cases h16 : k.size < 16
      · exact joined_p1 k b w hk htab hl hck hm h16
      · exact joined_p2 k b w hk htab hl hck hm h16
end Go.Proofs.YthcngkikclaodaaDoor
