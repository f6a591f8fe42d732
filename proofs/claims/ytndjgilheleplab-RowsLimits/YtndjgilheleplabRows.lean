/-
  No cell of these rows narrows 'for every input' (looked for: loops, veiled, ifaces, maps, wideKeys, modest, calm, conditions, laid).
  DERIVED. THE GIVEN ROWS OF THIS SEAT. 4 by the template 'for every input the law returns true; each argument reads behind the call as it read before'; 0 by the template 'total and deterministic' (their statements: YtndjgilheleplabTotals.lean).
  GIVEN WITH THE SEED: the statements are not yours to turn. If you find one false, say at which input.
  Laid BY PROGRAM, IN A SANDBOX (cutbox-rows.mjs): the forced cells as the released guide's own fill.sh prints them over the translation 7d14e68608c660da… (all of the seat's roots in one cut). By AI agents, Wed Nov 11 2026. No macro, syntax, notation, axiom, sorry.
-/
import Derived.Test.YtndjgilheleplabChecked
import GoSem.Claim
import GoSem.ClaimJoined
import GoSem.ClaimMapViews
import Derived.JoinedTies
import Derived.KernelRfl
namespace Go.Proofs.Ytndjgilheleplab
/- THE CELL 'sum', in the pinned program and in every row, IS THE sha256 OF THE DUMP (.gsa) THAT YtndjgilheleplabProg.lean LOADS. Nothing in Lean hashes anything: it is a label: what it is worth is what the hold of that sum in a sandbox is worth. -/
noncomputable def Try.pinned : Pinned := { name := "ytndjgilheleplab", sum := "7d14e68608c660da51903680c887d56de93e665b16c892beaa2659c32a6f5b54", checked := Try.checked }
namespace Rows
def none {H : Type} : Left H := { results := [], args := [] }

/-- 'concordatlaw02.RowsTurned': WHATEVER THE INPUT: true; the input reads as it did. -/
def rowsTurnedSpec : ChangeSpec := { name := "rowsTurned", fn := fun _ => fun
  | [d1, d2] => { results := [.lit (.bool true)], args := [d1, d2] }
  | _ => none }
def rowsTurnedRow : OpenClaim := { program := "ytndjgilheleplab", sum := "7d14e68608c660da51903680c887d56de93e665b16c892beaa2659c32a6f5b54", func := "concordat/concordatlaw02.RowsTurned", spec := "rowsTurned", unfollowed := true, recurses := true, apart := false }
def RowsTurnedSaid : Prop := rowsTurnedRow.holds Try.pinned (OpenSpec.ofChange rowsTurnedSpec)

/-- ITS FALSE NEIGHBOUR: 'it returns false'. Refute it at one input. -/
def rowsTurnedWrong : ChangeSpec := { name := "rowsTurned", fn := fun _ => fun
  | [d1, d2] => { results := [.lit (.bool false)], args := [d1, d2] }
  | _ => none }
def RowsTurnedWrongFalsely : Prop := rowsTurnedRow.holds Try.pinned (OpenSpec.ofChange rowsTurnedWrong)

/-- 'concordatlaw02.RowsMay': WHATEVER THE INPUT: true; the input reads as it did. -/
def rowsMaySpec : ChangeSpec := { name := "rowsMay", fn := fun _ => fun
  | [d] => { results := [.lit (.bool true)], args := [d] }
  | _ => none }
def rowsMayRow : OpenClaim := { program := "ytndjgilheleplab", sum := "7d14e68608c660da51903680c887d56de93e665b16c892beaa2659c32a6f5b54", func := "concordat/concordatlaw02.RowsMay", spec := "rowsMay", unfollowed := true, recurses := true, apart := false }
def RowsMaySaid : Prop := rowsMayRow.holds Try.pinned (OpenSpec.ofChange rowsMaySpec)

/-- ITS FALSE NEIGHBOUR: 'it returns false'. Refute it at one input. -/
def rowsMayWrong : ChangeSpec := { name := "rowsMay", fn := fun _ => fun
  | [d] => { results := [.lit (.bool false)], args := [d] }
  | _ => none }
def RowsMayWrongFalsely : Prop := rowsMayRow.holds Try.pinned (OpenSpec.ofChange rowsMayWrong)

/-- 'concordatlaw02.RowsLimits': WHATEVER THE INPUT: true; the input reads as it did. -/
def rowsLimitsSpec : ChangeSpec := { name := "rowsLimits", fn := fun _ => fun
  | [d] => { results := [.lit (.bool true)], args := [d] }
  | _ => none }
def rowsLimitsRow : OpenClaim := { program := "ytndjgilheleplab", sum := "7d14e68608c660da51903680c887d56de93e665b16c892beaa2659c32a6f5b54", func := "concordat/concordatlaw02.RowsLimits", spec := "rowsLimits", unfollowed := true, recurses := true, apart := false }
def RowsLimitsSaid : Prop := rowsLimitsRow.holds Try.pinned (OpenSpec.ofChange rowsLimitsSpec)

/-- ITS FALSE NEIGHBOUR: 'it returns false'. Refute it at one input. -/
def rowsLimitsWrong : ChangeSpec := { name := "rowsLimits", fn := fun _ => fun
  | [d] => { results := [.lit (.bool false)], args := [d] }
  | _ => none }
def RowsLimitsWrongFalsely : Prop := rowsLimitsRow.holds Try.pinned (OpenSpec.ofChange rowsLimitsWrong)

/-- 'concordatlaw02.RowsLong': WHATEVER THE INPUT: true; the input reads as it did. -/
def rowsLongSpec : ChangeSpec := { name := "rowsLong", fn := fun _ => fun
  | [d1, d2] => { results := [.lit (.bool true)], args := [d1, d2] }
  | _ => none }
def rowsLongRow : OpenClaim := { program := "ytndjgilheleplab", sum := "7d14e68608c660da51903680c887d56de93e665b16c892beaa2659c32a6f5b54", func := "concordat/concordatlaw02.RowsLong", spec := "rowsLong", unfollowed := true, recurses := true, apart := false }
def RowsLongSaid : Prop := rowsLongRow.holds Try.pinned (OpenSpec.ofChange rowsLongSpec)

/-- ITS FALSE NEIGHBOUR: 'it returns false'. Refute it at one input. -/
def rowsLongWrong : ChangeSpec := { name := "rowsLong", fn := fun _ => fun
  | [d1, d2] => { results := [.lit (.bool false)], args := [d1, d2] }
  | _ => none }
def RowsLongWrongFalsely : Prop := rowsLongRow.holds Try.pinned (OpenSpec.ofChange rowsLongWrong)

/- THE SECOND FORM. 'bulk': how many values and letters a reading holds, each counted each time it is reached (what is shared counts as often as it is met; a slice's spare places count too). A statement '..UptoSaid' is the law's where the arguments, and the package variables that the reading takes, are together of bulk at most 1048576: NARROWER than '..Said'. Prove '..Said' where nothing that the law and all that it calls make is longer than what came in: it says more and counts as full. Else prove '..UptoSaid'. A law counts once. -/
mutual
def uptoBulk {H : Type} : DataW H → Nat
  | .lit (.string bytes) => bytes.length + 1
  | .lit _ => 1
  | .nil => 1
  | .ptr d => uptoBulk d + 1
  | .slice elems spare => uptoBulkAll elems + uptoBulkAll spare + 1
  | .agg parts => uptoBulkAll parts + 1
  | .iface _ d => uptoBulk d + 1
  | .map entries => uptoBulkEntries entries + 1
  | .held _ => 1
def uptoBulkAll {H : Type} : List (DataW H) → Nat
  | [] => 0
  | d :: r => uptoBulk d + uptoBulkAll r
def uptoBulkEntries {H : Type} : List (Lit × DataW H) → Nat
  | [] => 0
  | x :: r => uptoBulkEntry x + uptoBulkEntries r
def uptoBulkEntry {H : Type} : Lit × DataW H → Nat
  | (.string bytes, d) => bytes.length + uptoBulk d + 1
  | (_, d) => uptoBulk d + 1
 end
def uptoSmall : (H : Type) → List (DataW H) → Bool := fun _ ds => decide (uptoBulkAll ds ≤ 1048576)
def OpenSpec.upto (s : _root_.Go.ChangeSpec) : _root_.Go.OpenSpec := { _root_.Go.OpenSpec.ofChange s with cond := some uptoSmall }

/-- 'concordatlaw02.RowsTurned', WHERE WHAT IT READS IS OF BULK AT MOST 1048576: true; the input reads as it did. -/
def rowsTurnedUptoRow : OpenClaim := { program := "ytndjgilheleplab", sum := "7d14e68608c660da51903680c887d56de93e665b16c892beaa2659c32a6f5b54", func := "concordat/concordatlaw02.RowsTurned", spec := "rowsTurned", unfollowed := true, recurses := true, apart := false, narrowed := true }
def RowsTurnedUptoSaid : Prop := rowsTurnedUptoRow.holds Try.pinned (OpenSpec.upto rowsTurnedSpec)

/-- 'concordatlaw02.RowsMay', WHERE WHAT IT READS IS OF BULK AT MOST 1048576: true; the input reads as it did. -/
def rowsMayUptoRow : OpenClaim := { program := "ytndjgilheleplab", sum := "7d14e68608c660da51903680c887d56de93e665b16c892beaa2659c32a6f5b54", func := "concordat/concordatlaw02.RowsMay", spec := "rowsMay", unfollowed := true, recurses := true, apart := false, narrowed := true }
def RowsMayUptoSaid : Prop := rowsMayUptoRow.holds Try.pinned (OpenSpec.upto rowsMaySpec)

/-- 'concordatlaw02.RowsLimits', WHERE WHAT IT READS IS OF BULK AT MOST 1048576: true; the input reads as it did. -/
def rowsLimitsUptoRow : OpenClaim := { program := "ytndjgilheleplab", sum := "7d14e68608c660da51903680c887d56de93e665b16c892beaa2659c32a6f5b54", func := "concordat/concordatlaw02.RowsLimits", spec := "rowsLimits", unfollowed := true, recurses := true, apart := false, narrowed := true }
def RowsLimitsUptoSaid : Prop := rowsLimitsUptoRow.holds Try.pinned (OpenSpec.upto rowsLimitsSpec)

/-- 'concordatlaw02.RowsLong', WHERE WHAT IT READS IS OF BULK AT MOST 1048576: true; the input reads as it did. -/
def rowsLongUptoRow : OpenClaim := { program := "ytndjgilheleplab", sum := "7d14e68608c660da51903680c887d56de93e665b16c892beaa2659c32a6f5b54", func := "concordat/concordatlaw02.RowsLong", spec := "rowsLong", unfollowed := true, recurses := true, apart := false, narrowed := true }
def RowsLongUptoSaid : Prop := rowsLongUptoRow.holds Try.pinned (OpenSpec.upto rowsLongSpec)

end Rows
end Go.Proofs.Ytndjgilheleplab
