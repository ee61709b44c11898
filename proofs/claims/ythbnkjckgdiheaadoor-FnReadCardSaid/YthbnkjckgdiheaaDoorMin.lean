/- Contracts of the model's lesser of two numbers. -/
import Derived.Test.YthbnkjckgdiheaaDoorBits
import Derived.Test.YthbnkjckgdiheaaDoorProg
import Derived.WalkKit
import Derived.WalkSpells
set_option maxRecDepth 20000
namespace Go.Proofs.YthbnkjckgdiheaaDoor
open Go.RowKit

/-- spec.l1Min. -/
theorem minLt (x y : Int) (w : World) (h : x < y) : Calls Tryd.prog 50 #[.int .i64 x, .int .i64 y] w fun e w' => e = .returned (.int .i64 x) ∧ w = w' := by
  go_enter Tryd.func50, Tryd.ntmps50
  go_wp2
  go_ret
  exact ⟨rfl, rfl⟩
theorem minGe (x y : Int) (w : World) (h : ¬ x < y) : Calls Tryd.prog 50 #[.int .i64 x, .int .i64 y] w fun e w' => e = .returned (.int .i64 y) ∧ w = w' := by
  go_enter Tryd.func50, Tryd.ntmps50
  go_wp2
  go_ret
  exact ⟨rfl, rfl⟩


end Go.Proofs.YthbnkjckgdiheaaDoor
