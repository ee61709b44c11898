/- Closed facts of the card. -/
import Derived.Test.YtngcekegngmedaaGreatDoorM17
import Derived.Test.YtngcekegngmedaaGreatDoorM18
import Derived.SevenTiedAt

set_option maxRecDepth 20000
namespace Go.Proofs.YtngcekegngmedaaGreatDoor.fnExactSampled
open Go
theorem qWs0 : Tryz.prog.wantsStandIn 83 = false := by kernel_rfl
theorem qWs1 : Tryz.prog.wantsStandIn 2 = false := by kernel_rfl
end Go.Proofs.YtngcekegngmedaaGreatDoor.fnExactSampled
