/- Contracts of the model's lesser of two numbers. -/
import Derived.Test.YtnabcnmgfchceaaBits
import Derived.Test.YtnabcnmgfchceaaProg
import Derived.WalkKit
import Derived.WalkSpells
namespace Go.Proofs.Ytnabcnmgfchceaa
open Go.RowKit

/-- spec.l1Min. -/
theorem minLt (x y : Int) (w : World) (h : x < y) : Calls Try.prog 58 #[.int .i64 x, .int .i64 y] w fun e w' => e = .returned (.int .i64 x) ∧ w = w' := by
  go_enter Try.func58, Try.ntmps58
  go_wp2
  go_ret
  exact ⟨rfl, rfl⟩
theorem minGe (x y : Int) (w : World) (h : ¬ x < y) : Calls Try.prog 58 #[.int .i64 x, .int .i64 y] w fun e w' => e = .returned (.int .i64 y) ∧ w = w' := by
  go_enter Try.func58, Try.ntmps58
  go_wp2
  go_ret
  exact ⟨rfl, rfl⟩


/-- spec.l1Max. -/
theorem maxGt (x y : Int) (w : World) (h : y < x) : Calls Try.prog 52 #[.int .i64 x, .int .i64 y] w fun e w' => e = .returned (.int .i64 x) ∧ w = w' := by
  go_enter Try.func52, Try.ntmps52
  go_wp2
  go_ret
  exact ⟨rfl, rfl⟩
theorem maxLe (x y : Int) (w : World) (h : ¬ y < x) : Calls Try.prog 52 #[.int .i64 x, .int .i64 y] w fun e w' => e = .returned (.int .i64 y) ∧ w = w' := by
  go_enter Try.func52, Try.ntmps52
  go_wp2
  go_ret
  exact ⟨rfl, rfl⟩
end Go.Proofs.Ytnabcnmgfchceaa
