/- Closed facts of the card. -/
import Derived.Test.YtngcekegngmedaaGreatDoorM17
import Derived.Test.YtngcekegngmedaaGreatDoorM18
import Derived.SevenTiedAt

set_option maxRecDepth 20000
namespace Go.Proofs.YtngcekegngmedaaGreatDoor.fnExactSampled
open Go
theorem qGo : false = Rows.fnExactSampledRow.goesBy Tryz.prog := by kernel_rfl
theorem qWf : Rows.fnExactSampledRow.wfByText (OpenSpec.ofChange Rows.fnExactSampledSpec) = true := by kernel_rfl
theorem qMi : Tryz.prog.mainIs = some (true, "a44060b6971b6e2844d487c4140bb6b63db1698d37efc0092a67666e0bfda621".toList) := by kernel_rfl
end Go.Proofs.YtngcekegngmedaaGreatDoor.fnExactSampled
