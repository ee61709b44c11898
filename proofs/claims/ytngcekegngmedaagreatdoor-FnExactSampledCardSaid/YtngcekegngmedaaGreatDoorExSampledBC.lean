/- Closed facts of the row. -/
import Derived.Test.YtngcekegngmedaaGreatDoorM17
import Derived.Test.YtngcekegngmedaaGreatDoorM18
import Derived.SevenTiedAt

set_option maxRecDepth 20000
namespace Go.Proofs.YtngcekegngmedaaGreatDoor.fnExactSampled
open Go
theorem kRe : (Rows.fnExactSampledRow.recurses == Tryz.prog.recurses 9) = true := by kernel_rfl
theorem kNa : (Rows.fnExactSampledRow.named == Tryz.prog.varsNamed 9) = true := by kernel_rfl
end Go.Proofs.YtngcekegngmedaaGreatDoor.fnExactSampled
