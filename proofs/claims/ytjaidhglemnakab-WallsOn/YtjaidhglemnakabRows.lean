/-
  No cell of these rows narrows 'for every input' (looked for: loops, veiled, ifaces, maps, wideKeys, modest, calm, conditions, laid).
  DERIVED. THE GIVEN ROWS OF THIS SEAT. 3 by the template 'for every input the law returns true; each argument reads behind the call as it read before'; 0 by the template 'total and deterministic' (their statements: YtjaidhglemnakabTotals.lean).
  GIVEN WITH THE SEED: the statements are not yours to turn. If you find one false, say at which input.
  Laid BY PROGRAM, IN A SANDBOX (cutbox-rows.mjs): the forced cells as the released guide's own fill.sh prints them over the translation 6e8627f504e88d9c… (all of the seat's roots in one cut). By AI agents, Wed Nov 11 2026. No macro, syntax, notation, axiom, sorry.
-/
import Derived.Test.YtjaidhglemnakabChecked
import GoSem.Claim
import GoSem.ClaimJoined
import GoSem.ClaimMapViews
import Derived.JoinedTies
import Derived.KernelRfl
namespace Go.Proofs.Ytjaidhglemnakab
/- THE CELL 'sum', in the pinned program and in every row, IS THE sha256 OF THE DUMP (.gsa) THAT YtjaidhglemnakabProg.lean LOADS. Nothing in Lean hashes anything: it is a label: what it is worth is what the hold of that sum in a sandbox is worth. -/
noncomputable def Try.pinned : Pinned := { name := "ytjaidhglemnakab", sum := "6e8627f504e88d9c9b1f0a06296da6c505dc664eb1d62da88c87129f9817bcbb", checked := Try.checked }
namespace Rows
def none {H : Type} : Left H := { results := [], args := [] }

/-- 'concordatlaw06.WallsOn': WHATEVER THE INPUT: true; the input reads as it did. -/
def wallsOnSpec : ChangeSpec := { name := "wallsOn", fn := fun _ => fun
  | [d1, d2] => { results := [.lit (.bool true)], args := [d1, d2] }
  | _ => none }
def wallsOnRow : OpenClaim := { program := "ytjaidhglemnakab", sum := "6e8627f504e88d9c9b1f0a06296da6c505dc664eb1d62da88c87129f9817bcbb", func := "concordat/concordatlaw06.WallsOn", spec := "wallsOn", unfollowed := true, recurses := true, apart := false }
def WallsOnSaid : Prop := wallsOnRow.holds Try.pinned (OpenSpec.ofChange wallsOnSpec)

/-- ITS FALSE NEIGHBOUR: 'it returns false'. Refute it at one input. -/
def wallsOnWrong : ChangeSpec := { name := "wallsOn", fn := fun _ => fun
  | [d1, d2] => { results := [.lit (.bool false)], args := [d1, d2] }
  | _ => none }
def WallsOnWrongFalsely : Prop := wallsOnRow.holds Try.pinned (OpenSpec.ofChange wallsOnWrong)

/-- 'concordatlaw06.WallsForced': WHATEVER THE INPUT: true; the input reads as it did. -/
def wallsForcedSpec : ChangeSpec := { name := "wallsForced", fn := fun _ => fun
  | [d1, d2, d3] => { results := [.lit (.bool true)], args := [d1, d2, d3] }
  | _ => none }
def wallsForcedRow : OpenClaim := { program := "ytjaidhglemnakab", sum := "6e8627f504e88d9c9b1f0a06296da6c505dc664eb1d62da88c87129f9817bcbb", func := "concordat/concordatlaw06.WallsForced", spec := "wallsForced", unfollowed := true, recurses := true, apart := false }
def WallsForcedSaid : Prop := wallsForcedRow.holds Try.pinned (OpenSpec.ofChange wallsForcedSpec)

/-- ITS FALSE NEIGHBOUR: 'it returns false'. Refute it at one input. -/
def wallsForcedWrong : ChangeSpec := { name := "wallsForced", fn := fun _ => fun
  | [d1, d2, d3] => { results := [.lit (.bool false)], args := [d1, d2, d3] }
  | _ => none }
def WallsForcedWrongFalsely : Prop := wallsForcedRow.holds Try.pinned (OpenSpec.ofChange wallsForcedWrong)

/-- 'concordatlaw06.WallsMany': WHATEVER THE INPUT: true; the input reads as it did. -/
def wallsManySpec : ChangeSpec := { name := "wallsMany", fn := fun _ => fun
  | [d1, d2] => { results := [.lit (.bool true)], args := [d1, d2] }
  | _ => none }
def wallsManyRow : OpenClaim := { program := "ytjaidhglemnakab", sum := "6e8627f504e88d9c9b1f0a06296da6c505dc664eb1d62da88c87129f9817bcbb", func := "concordat/concordatlaw06.WallsMany", spec := "wallsMany", unfollowed := true, recurses := true, apart := false }
def WallsManySaid : Prop := wallsManyRow.holds Try.pinned (OpenSpec.ofChange wallsManySpec)

/-- ITS FALSE NEIGHBOUR: 'it returns false'. Refute it at one input. -/
def wallsManyWrong : ChangeSpec := { name := "wallsMany", fn := fun _ => fun
  | [d1, d2] => { results := [.lit (.bool false)], args := [d1, d2] }
  | _ => none }
def WallsManyWrongFalsely : Prop := wallsManyRow.holds Try.pinned (OpenSpec.ofChange wallsManyWrong)

/- THE SECOND FORM. 'bulk': how many values and letters a reading holds, each counted each time it is reached (what is shared counts as often as it is met; a slice's spare places count too). A statement '..UptoSaid' is the law's where the arguments, and the package variables that the reading takes, are together of bulk at most 1048576: NARROWER than '..Said'. Prove '..Said' where nothing that the law and all that it calls make is longer than what came in: it says more and counts as full. Else prove '..UptoSaid'. A law counts once. -/
mutual
def uptoBulk {H : Type} : DataW H → Nat
  | .lit (.string bytes) => bytes.length + 1
  | .lit _ => 1
  | .nil => 1
  | .ptr d => uptoBulk d + 1
  | .slice elems spare => uptoBulkAll elems + uptoBulkAll spare + 1
  | .agg parts => uptoBulkAll parts + 1
  | .iface _ d => uptoBulk d + 1
  | .map entries => uptoBulkEntries entries + 1
  | .held _ => 1
def uptoBulkAll {H : Type} : List (DataW H) → Nat
  | [] => 0
  | d :: r => uptoBulk d + uptoBulkAll r
def uptoBulkEntries {H : Type} : List (Lit × DataW H) → Nat
  | [] => 0
  | x :: r => uptoBulkEntry x + uptoBulkEntries r
def uptoBulkEntry {H : Type} : Lit × DataW H → Nat
  | (.string bytes, d) => bytes.length + uptoBulk d + 1
  | (_, d) => uptoBulk d + 1
 end
def uptoSmall : (H : Type) → List (DataW H) → Bool := fun _ ds => decide (uptoBulkAll ds ≤ 1048576)
def OpenSpec.upto (s : _root_.Go.ChangeSpec) : _root_.Go.OpenSpec := { _root_.Go.OpenSpec.ofChange s with cond := some uptoSmall }

/-- 'concordatlaw06.WallsOn', WHERE WHAT IT READS IS OF BULK AT MOST 1048576: true; the input reads as it did. -/
def wallsOnUptoRow : OpenClaim := { program := "ytjaidhglemnakab", sum := "6e8627f504e88d9c9b1f0a06296da6c505dc664eb1d62da88c87129f9817bcbb", func := "concordat/concordatlaw06.WallsOn", spec := "wallsOn", unfollowed := true, recurses := true, apart := false, narrowed := true }
def WallsOnUptoSaid : Prop := wallsOnUptoRow.holds Try.pinned (OpenSpec.upto wallsOnSpec)

/-- 'concordatlaw06.WallsForced', WHERE WHAT IT READS IS OF BULK AT MOST 1048576: true; the input reads as it did. -/
def wallsForcedUptoRow : OpenClaim := { program := "ytjaidhglemnakab", sum := "6e8627f504e88d9c9b1f0a06296da6c505dc664eb1d62da88c87129f9817bcbb", func := "concordat/concordatlaw06.WallsForced", spec := "wallsForced", unfollowed := true, recurses := true, apart := false, narrowed := true }
def WallsForcedUptoSaid : Prop := wallsForcedUptoRow.holds Try.pinned (OpenSpec.upto wallsForcedSpec)

/-- 'concordatlaw06.WallsMany', WHERE WHAT IT READS IS OF BULK AT MOST 1048576: true; the input reads as it did. -/
def wallsManyUptoRow : OpenClaim := { program := "ytjaidhglemnakab", sum := "6e8627f504e88d9c9b1f0a06296da6c505dc664eb1d62da88c87129f9817bcbb", func := "concordat/concordatlaw06.WallsMany", spec := "wallsMany", unfollowed := true, recurses := true, apart := false, narrowed := true }
def WallsManyUptoSaid : Prop := wallsManyUptoRow.holds Try.pinned (OpenSpec.upto wallsManySpec)

end Rows
end Go.Proofs.Ytjaidhglemnakab
