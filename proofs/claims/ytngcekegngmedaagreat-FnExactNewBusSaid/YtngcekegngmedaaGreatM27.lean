/- Contracts of the program's Drives: a table of functions, asked by the phase. -/
import Derived.Test.YtngcekegngmedaaGreatM23
import Derived.Laws.CopyOwn

set_option linter.unusedVariables false
set_option linter.unusedSimpArgs false
set_option maxRecDepth 20000
namespace Go.Proofs.YtngcekegngmedaaGreat
open Go.RowKit

end Go.Proofs.YtngcekegngmedaaGreat
