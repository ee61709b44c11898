/- impl.placeIn: where a rank stands in a box, by slices.BinarySearchFunc. -/
import Derived.Test.YtadnnbinmghabaaBox
set_option linter.unusedVariables false
set_option linter.unusedSimpArgs false
set_option maxRecDepth 20000
namespace Go.Proofs.Ytadnnbinmghabaa
open Go.RowKit

end Go.Proofs.Ytadnnbinmghabaa
