/- Closed facts of the row. -/
import Derived.Test.YtngcekegngmedaaGreatDoorM17
import Derived.Test.YtngcekegngmedaaGreatDoorM18
import Derived.SevenTiedAt

set_option maxRecDepth 20000
namespace Go.Proofs.YtngcekegngmedaaGreatDoor.fnExactSampled
open Go
theorem kLa : laidOutB Tryz.prog = true := by kernel_rfl
theorem kMa : mapsRowed Tryz.prog = true := by kernel_rfl
theorem kPl : (Rows.fnExactSampledRow.plainKeys == Tryz.prog.plainKeys) = true := by kernel_rfl
theorem kSt : Tryz.prog.stopsHeard = true := by kernel_rfl
end Go.Proofs.YtngcekegngmedaaGreatDoor.fnExactSampled
