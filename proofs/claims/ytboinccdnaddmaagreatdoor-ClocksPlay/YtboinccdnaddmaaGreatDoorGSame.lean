/- Whether two lists of bytes are the same. -/
import Derived.Test.YtboinccdnaddmaaGreatDoorGBase
import Derived.Deep.QuietTactic
import Derived.Laws.StructEq
set_option linter.unusedSimpArgs false
set_option linter.unusedVariables false
namespace Go.Proofs.YtboinccdnaddmaaGreatDoor
open Go.RowKit



end Go.Proofs.YtboinccdnaddmaaGreatDoor
