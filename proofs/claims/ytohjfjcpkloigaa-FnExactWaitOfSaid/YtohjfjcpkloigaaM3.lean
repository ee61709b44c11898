/- Contracts of the model's lesser of two numbers. -/
import Derived.Test.YtohjfjcpkloigaaM0
import Derived.Test.YtohjfjcpkloigaaProg
import Derived.WalkKit
import Derived.WalkSpells

set_option maxRecDepth 20000
namespace Go.Proofs.Ytohjfjcpkloigaa
open Go.RowKit

/-- spec.l1Min. -/
theorem minLt (x y : Int) (w : World) (h : x < y) : Calls Try.prog 78 #[.int .i64 x, .int .i64 y] w fun e w' => e = .returned (.int .i64 x) ∧ w = w' := by
  go_enter Try.func78, Try.ntmps78
  go_wp2
  go_ret
  exact ⟨rfl, rfl⟩
theorem minGe (x y : Int) (w : World) (h : ¬ x < y) : Calls Try.prog 78 #[.int .i64 x, .int .i64 y] w fun e w' => e = .returned (.int .i64 y) ∧ w = w' := by
  go_enter Try.func78, Try.ntmps78
  go_wp2
  go_ret
  exact ⟨rfl, rfl⟩


/-- spec.l1Max. -/
theorem maxGt (x y : Int) (w : World) (h : y < x) : Calls Try.prog 71 #[.int .i64 x, .int .i64 y] w fun e w' => e = .returned (.int .i64 x) ∧ w = w' := by
  go_enter Try.func71, Try.ntmps71
  go_wp2
  go_ret
  exact ⟨rfl, rfl⟩
theorem maxLe (x y : Int) (w : World) (h : ¬ y < x) : Calls Try.prog 71 #[.int .i64 x, .int .i64 y] w fun e w' => e = .returned (.int .i64 y) ∧ w = w' := by
  go_enter Try.func71, Try.ntmps71
  go_wp2
  go_ret
  exact ⟨rfl, rfl⟩
end Go.Proofs.Ytohjfjcpkloigaa
