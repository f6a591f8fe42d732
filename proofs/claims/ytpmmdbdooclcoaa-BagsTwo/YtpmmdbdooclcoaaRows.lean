/-
  No cell of these rows narrows 'for every input' (looked for: loops, veiled, ifaces, maps, wideKeys, modest, calm, conditions, laid).
  DERIVED. THE GIVEN ROWS OF THIS SEAT. 5 by the template 'for every input the law returns true; each argument reads behind the call as it read before'; 0 by the template 'total and deterministic' (their statements: YtpmmdbdooclcoaaTotals.lean).
  GIVEN WITH THE SEED: the statements are not yours to turn. If you find one false, say at which input.
  Laid BY PROGRAM, IN A SANDBOX (cutbox-rows.mjs): the forced cells as the released guide's own fill.sh prints them over the translation f991b713763e7eef… (all of the seat's roots in one cut). By AI agents, Wed Nov 11 2026. No macro, syntax, notation, axiom, sorry.
-/
import Derived.Test.YtpmmdbdooclcoaaChecked
import GoSem.Claim
import GoSem.ClaimJoined
import GoSem.ClaimMapViews
import Derived.JoinedTies
import Derived.KernelRfl
namespace Go.Proofs.Ytpmmdbdooclcoaa
/- THE CELL 'sum', in the pinned program and in every row, IS THE sha256 OF THE DUMP (.gsa) THAT YtpmmdbdooclcoaaProg.lean LOADS. Nothing in Lean hashes anything: it is a label: what it is worth is what the hold of that sum in a sandbox is worth. -/
noncomputable def Try.pinned : Pinned := { name := "ytpmmdbdooclcoaa", sum := "f991b713763e7eefb56bd913d6a0442439db9e7158d8940ae358c336c8830f7f", checked := Try.checked }
namespace Rows
def none {H : Type} : Left H := { results := [], args := [] }

/-- 'concordatlaw08.BagsNone': WHATEVER THE INPUT: true; the input reads as it did. -/
def bagsNoneSpec : ChangeSpec := { name := "bagsNone", fn := fun _ => fun
  | [d1, d2] => { results := [.lit (.bool true)], args := [d1, d2] }
  | _ => none }
def bagsNoneRow : OpenClaim := { program := "ytpmmdbdooclcoaa", sum := "f991b713763e7eefb56bd913d6a0442439db9e7158d8940ae358c336c8830f7f", func := "concordat/concordatlaw08.BagsNone", spec := "bagsNone", unfollowed := true, recurses := true, apart := false }
def BagsNoneSaid : Prop := bagsNoneRow.holds Try.pinned (OpenSpec.ofChange bagsNoneSpec)

/-- ITS FALSE NEIGHBOUR: 'it returns false'. Refute it at one input. -/
def bagsNoneWrong : ChangeSpec := { name := "bagsNone", fn := fun _ => fun
  | [d1, d2] => { results := [.lit (.bool false)], args := [d1, d2] }
  | _ => none }
def BagsNoneWrongFalsely : Prop := bagsNoneRow.holds Try.pinned (OpenSpec.ofChange bagsNoneWrong)

/-- 'concordatlaw08.BagsCount': WHATEVER THE INPUT: true; the input reads as it did. -/
def bagsCountSpec : ChangeSpec := { name := "bagsCount", fn := fun _ => fun
  | [d1, d2] => { results := [.lit (.bool true)], args := [d1, d2] }
  | _ => none }
def bagsCountRow : OpenClaim := { program := "ytpmmdbdooclcoaa", sum := "f991b713763e7eefb56bd913d6a0442439db9e7158d8940ae358c336c8830f7f", func := "concordat/concordatlaw08.BagsCount", spec := "bagsCount", unfollowed := true, recurses := true, apart := false }
def BagsCountSaid : Prop := bagsCountRow.holds Try.pinned (OpenSpec.ofChange bagsCountSpec)

/-- ITS FALSE NEIGHBOUR: 'it returns false'. Refute it at one input. -/
def bagsCountWrong : ChangeSpec := { name := "bagsCount", fn := fun _ => fun
  | [d1, d2] => { results := [.lit (.bool false)], args := [d1, d2] }
  | _ => none }
def BagsCountWrongFalsely : Prop := bagsCountRow.holds Try.pinned (OpenSpec.ofChange bagsCountWrong)

/-- 'concordatlaw08.BagsWhole': WHATEVER THE INPUT: true; the input reads as it did. -/
def bagsWholeSpec : ChangeSpec := { name := "bagsWhole", fn := fun _ => fun
  | [d1, d2] => { results := [.lit (.bool true)], args := [d1, d2] }
  | _ => none }
def bagsWholeRow : OpenClaim := { program := "ytpmmdbdooclcoaa", sum := "f991b713763e7eefb56bd913d6a0442439db9e7158d8940ae358c336c8830f7f", func := "concordat/concordatlaw08.BagsWhole", spec := "bagsWhole", unfollowed := true, recurses := true, apart := false }
def BagsWholeSaid : Prop := bagsWholeRow.holds Try.pinned (OpenSpec.ofChange bagsWholeSpec)

/-- ITS FALSE NEIGHBOUR: 'it returns false'. Refute it at one input. -/
def bagsWholeWrong : ChangeSpec := { name := "bagsWhole", fn := fun _ => fun
  | [d1, d2] => { results := [.lit (.bool false)], args := [d1, d2] }
  | _ => none }
def BagsWholeWrongFalsely : Prop := bagsWholeRow.holds Try.pinned (OpenSpec.ofChange bagsWholeWrong)

/-- 'concordatlaw08.BagsCopies': WHATEVER THE INPUT: true; the input reads as it did. -/
def bagsCopiesSpec : ChangeSpec := { name := "bagsCopies", fn := fun _ => fun
  | [d] => { results := [.lit (.bool true)], args := [d] }
  | _ => none }
def bagsCopiesRow : OpenClaim := { program := "ytpmmdbdooclcoaa", sum := "f991b713763e7eefb56bd913d6a0442439db9e7158d8940ae358c336c8830f7f", func := "concordat/concordatlaw08.BagsCopies", spec := "bagsCopies", unfollowed := true, recurses := true, apart := false }
def BagsCopiesSaid : Prop := bagsCopiesRow.holds Try.pinned (OpenSpec.ofChange bagsCopiesSpec)

/-- ITS FALSE NEIGHBOUR: 'it returns false'. Refute it at one input. -/
def bagsCopiesWrong : ChangeSpec := { name := "bagsCopies", fn := fun _ => fun
  | [d] => { results := [.lit (.bool false)], args := [d] }
  | _ => none }
def BagsCopiesWrongFalsely : Prop := bagsCopiesRow.holds Try.pinned (OpenSpec.ofChange bagsCopiesWrong)

/-- 'concordatlaw08.BagsTwo': WHATEVER THE INPUT: true; the input reads as it did. -/
def bagsTwoSpec : ChangeSpec := { name := "bagsTwo", fn := fun _ => fun
  | [d1, d2] => { results := [.lit (.bool true)], args := [d1, d2] }
  | _ => none }
def bagsTwoRow : OpenClaim := { program := "ytpmmdbdooclcoaa", sum := "f991b713763e7eefb56bd913d6a0442439db9e7158d8940ae358c336c8830f7f", func := "concordat/concordatlaw08.BagsTwo", spec := "bagsTwo", unfollowed := true, recurses := true, apart := false }
def BagsTwoSaid : Prop := bagsTwoRow.holds Try.pinned (OpenSpec.ofChange bagsTwoSpec)

/-- ITS FALSE NEIGHBOUR: 'it returns false'. Refute it at one input. -/
def bagsTwoWrong : ChangeSpec := { name := "bagsTwo", fn := fun _ => fun
  | [d1, d2] => { results := [.lit (.bool false)], args := [d1, d2] }
  | _ => none }
def BagsTwoWrongFalsely : Prop := bagsTwoRow.holds Try.pinned (OpenSpec.ofChange bagsTwoWrong)

/- THE SECOND FORM. 'bulk': how many values and letters a reading holds, each counted each time it is reached (what is shared counts as often as it is met; a slice's spare places count too). A statement '..UptoSaid' is the law's where the arguments, and the package variables that the reading takes, are together of bulk at most 1048576: NARROWER than '..Said'. Prove '..Said' where nothing that the law and all that it calls make is longer than what came in: it says more and counts as full. Else prove '..UptoSaid'. A law counts once. -/
mutual
def uptoBulk {H : Type} : DataW H → Nat
  | .lit (.string bytes) => bytes.length + 1
  | .lit _ => 1
  | .nil => 1
  | .ptr d => uptoBulk d + 1
  | .slice elems spare => uptoBulkAll elems + uptoBulkAll spare + 1
  | .agg parts => uptoBulkAll parts + 1
  | .iface _ d => uptoBulk d + 1
  | .map entries => uptoBulkEntries entries + 1
  | .held _ => 1
def uptoBulkAll {H : Type} : List (DataW H) → Nat
  | [] => 0
  | d :: r => uptoBulk d + uptoBulkAll r
def uptoBulkEntries {H : Type} : List (Lit × DataW H) → Nat
  | [] => 0
  | x :: r => uptoBulkEntry x + uptoBulkEntries r
def uptoBulkEntry {H : Type} : Lit × DataW H → Nat
  | (.string bytes, d) => bytes.length + uptoBulk d + 1
  | (_, d) => uptoBulk d + 1
 end
def uptoSmall : (H : Type) → List (DataW H) → Bool := fun _ ds => decide (uptoBulkAll ds ≤ 1048576)
def OpenSpec.upto (s : _root_.Go.ChangeSpec) : _root_.Go.OpenSpec := { _root_.Go.OpenSpec.ofChange s with cond := some uptoSmall }

/-- 'concordatlaw08.BagsNone', WHERE WHAT IT READS IS OF BULK AT MOST 1048576: true; the input reads as it did. -/
def bagsNoneUptoRow : OpenClaim := { program := "ytpmmdbdooclcoaa", sum := "f991b713763e7eefb56bd913d6a0442439db9e7158d8940ae358c336c8830f7f", func := "concordat/concordatlaw08.BagsNone", spec := "bagsNone", unfollowed := true, recurses := true, apart := false, narrowed := true }
def BagsNoneUptoSaid : Prop := bagsNoneUptoRow.holds Try.pinned (OpenSpec.upto bagsNoneSpec)

/-- 'concordatlaw08.BagsCount', WHERE WHAT IT READS IS OF BULK AT MOST 1048576: true; the input reads as it did. -/
def bagsCountUptoRow : OpenClaim := { program := "ytpmmdbdooclcoaa", sum := "f991b713763e7eefb56bd913d6a0442439db9e7158d8940ae358c336c8830f7f", func := "concordat/concordatlaw08.BagsCount", spec := "bagsCount", unfollowed := true, recurses := true, apart := false, narrowed := true }
def BagsCountUptoSaid : Prop := bagsCountUptoRow.holds Try.pinned (OpenSpec.upto bagsCountSpec)

/-- 'concordatlaw08.BagsWhole', WHERE WHAT IT READS IS OF BULK AT MOST 1048576: true; the input reads as it did. -/
def bagsWholeUptoRow : OpenClaim := { program := "ytpmmdbdooclcoaa", sum := "f991b713763e7eefb56bd913d6a0442439db9e7158d8940ae358c336c8830f7f", func := "concordat/concordatlaw08.BagsWhole", spec := "bagsWhole", unfollowed := true, recurses := true, apart := false, narrowed := true }
def BagsWholeUptoSaid : Prop := bagsWholeUptoRow.holds Try.pinned (OpenSpec.upto bagsWholeSpec)

/-- 'concordatlaw08.BagsCopies', WHERE WHAT IT READS IS OF BULK AT MOST 1048576: true; the input reads as it did. -/
def bagsCopiesUptoRow : OpenClaim := { program := "ytpmmdbdooclcoaa", sum := "f991b713763e7eefb56bd913d6a0442439db9e7158d8940ae358c336c8830f7f", func := "concordat/concordatlaw08.BagsCopies", spec := "bagsCopies", unfollowed := true, recurses := true, apart := false, narrowed := true }
def BagsCopiesUptoSaid : Prop := bagsCopiesUptoRow.holds Try.pinned (OpenSpec.upto bagsCopiesSpec)

/-- 'concordatlaw08.BagsTwo', WHERE WHAT IT READS IS OF BULK AT MOST 1048576: true; the input reads as it did. -/
def bagsTwoUptoRow : OpenClaim := { program := "ytpmmdbdooclcoaa", sum := "f991b713763e7eefb56bd913d6a0442439db9e7158d8940ae358c336c8830f7f", func := "concordat/concordatlaw08.BagsTwo", spec := "bagsTwo", unfollowed := true, recurses := true, apart := false, narrowed := true }
def BagsTwoUptoSaid : Prop := bagsTwoUptoRow.holds Try.pinned (OpenSpec.upto bagsTwoSpec)

end Rows
end Go.Proofs.Ytpmmdbdooclcoaa
