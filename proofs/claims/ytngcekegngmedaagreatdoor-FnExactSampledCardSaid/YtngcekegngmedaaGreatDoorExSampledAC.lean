/- Closed facts of the row. -/
import Derived.Test.YtngcekegngmedaaGreatDoorM17
import Derived.Test.YtngcekegngmedaaGreatDoorM18
import Derived.SevenTiedAt

set_option maxRecDepth 20000
namespace Go.Proofs.YtngcekegngmedaaGreatDoor.fnExactSampled
open Go
theorem kIn : (Rows.fnExactSampledRow.inPlace == Tryz.prog.inPlace 9) = true := by kernel_rfl
theorem kUn : (Rows.fnExactSampledRow.unfollowed == Tryz.prog.unfollowed 9) = true := by kernel_rfl
end Go.Proofs.YtngcekegngmedaaGreatDoor.fnExactSampled
