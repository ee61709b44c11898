/- Contracts of the model's lesser of two numbers. -/
import Derived.Test.YtnhmecabppaboaaGreatM0
import Derived.Test.YtnhmecabppaboaaGreatProg
import Derived.WalkKit
import Derived.WalkSpells

set_option maxRecDepth 20000
namespace Go.Proofs.YtnhmecabppaboaaGreat
open Go.RowKit

/-- spec.l1Min. -/
theorem minLt (x y : Int) (w : World) (h : x < y) : Calls Tryz.prog 65 #[.int .i64 x, .int .i64 y] w fun e w' => e = .returned (.int .i64 x) ∧ w = w' := by
  go_enter Tryz.func65, Tryz.ntmps65
  go_wp2
  go_ret
  exact ⟨rfl, rfl⟩
theorem minGe (x y : Int) (w : World) (h : ¬ x < y) : Calls Tryz.prog 65 #[.int .i64 x, .int .i64 y] w fun e w' => e = .returned (.int .i64 y) ∧ w = w' := by
  go_enter Tryz.func65, Tryz.ntmps65
  go_wp2
  go_ret
  exact ⟨rfl, rfl⟩


end Go.Proofs.YtnhmecabppaboaaGreat
