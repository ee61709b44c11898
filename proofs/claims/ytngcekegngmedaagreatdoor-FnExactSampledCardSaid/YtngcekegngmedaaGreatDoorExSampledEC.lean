/- Closed facts of the row. -/
import Derived.Test.YtngcekegngmedaaGreatDoorM17
import Derived.Test.YtngcekegngmedaaGreatDoorM18
import Derived.SevenTiedAt

set_option maxRecDepth 20000
namespace Go.Proofs.YtngcekegngmedaaGreatDoor.fnExactSampled
open Go
theorem kMk : (Tryz.prog.make == some Rows.fnExactSampledRow.make) = true := by kernel_rfl
end Go.Proofs.YtngcekegngmedaaGreatDoor.fnExactSampled
