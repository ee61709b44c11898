/- The contract of l1Bend: of a text of at most N bytes it answers some text of at most N + 2, and writes into nothing that was there but the cursor. -/
import Derived.Test.YtnabcnmgfchceaaDrawT
set_option linter.unusedSimpArgs false
set_option linter.unusedVariables false
namespace Go.Proofs.Ytnabcnmgfchceaa
open Go.RowKit

end Go.Proofs.Ytnabcnmgfchceaa
