/- The walks of the statements' own helpers: whether two lists are the same, how much a list has in it. -/
import Derived.Test.YtpmmdbdooclcoabQData
import Derived.Test.YtpmmdbdooclcoabQRSizeO
import Derived.Deep.QuietTactic
import Derived.Laws.StructEq
set_option linter.unusedSimpArgs false
set_option linter.unusedVariables false
namespace Go.Proofs.Ytpmmdbdooclcoab
open Go.RowKit



end Go.Proofs.Ytpmmdbdooclcoab
