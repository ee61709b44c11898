/- Contracts of the model's lesser of two numbers. -/
import Derived.Test.YtngcekegngmedaaGreatDoorM0
import Derived.Test.YtngcekegngmedaaGreatDoorProg
import Derived.WalkKit
import Derived.WalkSpells

set_option maxRecDepth 20000
namespace Go.Proofs.YtngcekegngmedaaGreatDoor
open Go.RowKit

/-- spec.l1Min. -/
theorem minLt (x y : Int) (w : World) (h : x < y) : Calls Tryz.prog 190 #[.int .i64 x, .int .i64 y] w fun e w' => e = .returned (.int .i64 x) ∧ w = w' := by
  go_enter Tryz.func190, Tryz.ntmps190
  go_wp2
  go_ret
  exact ⟨rfl, rfl⟩
theorem minGe (x y : Int) (w : World) (h : ¬ x < y) : Calls Tryz.prog 190 #[.int .i64 x, .int .i64 y] w fun e w' => e = .returned (.int .i64 y) ∧ w = w' := by
  go_enter Tryz.func190, Tryz.ntmps190
  go_wp2
  go_ret
  exact ⟨rfl, rfl⟩


end Go.Proofs.YtngcekegngmedaaGreatDoor
