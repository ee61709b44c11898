/- Contracts of BoxOk, of the program and of the model: not more than 16, each one right, their ranks rise. -/
import Derived.Test.YtadnnbinmghabaaBox
set_option linter.unusedVariables false
set_option linter.unusedSimpArgs false
set_option maxRecDepth 20000
namespace Go.Proofs.Ytadnnbinmghabaa
open Go.RowKit

end Go.Proofs.Ytadnnbinmghabaa
