/- The row. -/
import Derived.Test.YtngcekegngmedaaGreatDoorExSampledLC
import Derived.Test.YtngcekegngmedaaGreatDoorExSampledAC
import Derived.Test.YtngcekegngmedaaGreatDoorExSampledBC
import Derived.Test.YtngcekegngmedaaGreatDoorExSampledPC
import Derived.Test.YtngcekegngmedaaGreatDoorExSampledDC
import Derived.Test.YtngcekegngmedaaGreatDoorExSampledEC
import Derived.Test.YtngcekegngmedaaGreatDoorM17
import Derived.Test.YtngcekegngmedaaGreatDoorM43
import Derived.Test.YtngcekegngmedaaGreatDoorM33
import Derived.Test.YtngcekegngmedaaGreatDoorM18
import Derived.Test.YtngcekegngmedaaGreatDoorM44
import Derived.SevenTiedAt
import Derived.ProofKit
import Derived.OpenShut
import Derived.ShutString
import Derived.ChangeOld
import Derived.Below

set_option maxRecDepth 20000
namespace Go.Proofs.YtngcekegngmedaaGreatDoor.fnExactSampled
open Go Go.ChangeShapes Go.WideShapes Go.ChangeAt Go.RowKit
open Go.ChangeMaps (open_string shut_string)
set_option linter.unusedVariables false

theorem closed : joinedFacts Tryz.prog 9 Tryz.f9 Rows.fnExactSampledSpec Rows.fnExactSampledRow = true := by
  unfold joinedFacts
  rw [kIn, kUn, kRe, kNa, kLa, kMa, kPl, kSt, kEn, kLi, kMk]
  kernel_rfl
theorem row_holds : Rows.FnExactSampledSaid :=
  OpenClaim.holds_of_wide 9 Tryz.f9 rfl rfl rfl rfl rfl rfl rfl ⟨rfl, rfl, rfl, rfl, rfl⟩ rfl rfl rfl rfl rfl (by kernel_rfl) Tryz.func9 closed
    (of_decide_eq_true (by kernel_rfl)) (by unfold Func.isWrapper; first | (rw [if_pos (by decide +kernel)]; kernel_rfl) | (rw [if_neg (by decide +kernel)]; exact ⟨rfl, rfl⟩))
    (fun os started H enc _ => lifted os started H enc)
end Go.Proofs.YtngcekegngmedaaGreatDoor.fnExactSampled
