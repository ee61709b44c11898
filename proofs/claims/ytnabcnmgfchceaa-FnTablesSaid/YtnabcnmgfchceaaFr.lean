/- Contracts of the small functions about a frame's head: headedOf, inRange, dataSize of the program, l1In of the model. -/
import Derived.Test.YtnabcnmgfchceaaOf
namespace Go.Proofs.Ytnabcnmgfchceaa
open Go.RowKit

/-- A frame (or a headed frame of the program's own) as the machine's value. -/
abbrev frV (id : Int) (rm : Bool) (ln : Int) (a : Option Addr) (n c : Nat) : Value := .agg #[.int .i64 id, .bool rm, .int .i64 ln, .slice a n c]
abbrev hdV (id : Int) (rm : Bool) (ln : Int) : Value := .agg #[.int .i64 id, .bool rm, .int .i64 ln]

/-- What impl.head.inRange asks. -/
def inR (id ln : Int) : Bool := decide (0 ≤ id) && decide (id ≤ 2047) && decide (0 ≤ ln) && decide (ln ≤ 8)

/-- spec.l1In. -/
theorem l1In (x lo hi : Int) (w : World) :
    Calls Try.prog 41 #[.int .i64 x, .int .i64 lo, .int .i64 hi] w fun e w' => e = .returned (.bool (decide (lo ≤ x) && decide (x ≤ hi))) ∧ w = w' := by
  go_enter Try.func41, Try.ntmps41
  go_wp2
  all_goals (go_ret; exact ⟨ret_bool (by first | (simp_all; done) | (simp_all; omega)), rfl⟩)
end Go.Proofs.Ytnabcnmgfchceaa
