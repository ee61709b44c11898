/- Contracts of the small functions about a frame's head: headedOf, inRange, dataSize of the program, l1In of the model. -/
import Derived.Test.YthhhhfpgmolcmabOf
namespace Go.Proofs.Ythhhhfpgmolcmab
open Go.RowKit

/-- A frame (or a headed frame of the program's own) as the machine's value. -/
abbrev frV (id : Int) (rm : Bool) (ln : Int) (a : Option Addr) (n c : Nat) : Value := .agg #[.int .i64 id, .bool rm, .int .i64 ln, .slice a n c]
abbrev hdV (id : Int) (rm : Bool) (ln : Int) : Value := .agg #[.int .i64 id, .bool rm, .int .i64 ln]

/-- impl.headedOf, the world written out. -/
theorem headedOfX (id : Int) (rm : Bool) (ln : Int) (a : Option Addr) (n c : Nat) (w : World) :
    Calls Try.prog 36 #[frV id rm ln a n c] w fun e w' => e = .returned (frV id rm ln a n c) ∧
      w' = (w.alloc (.cells #[.int .i64 id, .bool rm, .int .i64 ln, .slice a n c] 26)).alloc (.cells #[.int .i64 id, .bool rm, .int .i64 ln, .slice a n c] 54) := by
  go_enter Try.func36, Try.ntmps36
  go_wp2
  exact bodyPost_ret (v := frV id rm ln a n c) (by simp [results, Try.results36, go_sem]) rfl ⟨rfl, rfl⟩

/-- impl.headedOf. -/
theorem headedOf (id : Int) (rm : Bool) (ln : Int) (a : Option Addr) (n c : Nat) (w : World) :
    Calls Try.prog 36 #[frV id rm ln a n c] w fun e w' => e = .returned (frV id rm ln a n c) ∧ Below w.heap.size w w' := by
  go_enter Try.func36, Try.ntmps36
  go_wp2
  refine bodyPost_ret (v := frV id rm ln a n c) (by simp [results, Try.results36, go_sem]) rfl ⟨rfl, ?_⟩
  exact ((Below.refl _ _).alloc (Nat.le_refl _) _).alloc (by simp) _

/-- impl.head.inRange. -/
def inR (id ln : Int) : Bool := decide (0 ≤ id) && decide (id ≤ 2047) && decide (0 ≤ ln) && decide (ln ≤ 8)
theorem inRange (id : Int) (rm : Bool) (ln : Int) (w : World) :
    Calls Try.prog 37 #[hdV id rm ln] w fun e w' => e = .returned (.bool (inR id ln)) ∧ Below w.heap.size w w' := by
  go_enter Try.func37, Try.ntmps37
  go_wp2
  all_goals (go_ret; exact ⟨ret_bool (by simp only [inR]; simp_all; try omega), (Below.refl _ _).alloc (Nat.le_refl _) _⟩)

/-- impl.head.dataSize. -/
theorem dataSize (id : Int) (rm : Bool) (ln : Int) (w : World) :
    Calls Try.prog 38 #[hdV id rm ln] w fun e w' => e = .returned (.int .i64 (if rm then 0 else ln)) ∧ Below w.heap.size w w' := by
  go_enter Try.func38, Try.ntmps38
  cases rm <;>
  · go_wp2
    go_ret
    exact ⟨rfl, (Below.refl _ _).alloc (Nat.le_refl _) _⟩

/-- spec.l1In. -/
theorem l1In (x lo hi : Int) (w : World) :
    Calls Try.prog 26 #[.int .i64 x, .int .i64 lo, .int .i64 hi] w fun e w' => e = .returned (.bool (decide (lo ≤ x) && decide (x ≤ hi))) ∧ w = w' := by
  go_enter Try.func26, Try.ntmps26
  go_wp2
  all_goals (go_ret; exact ⟨ret_bool (by first | (simp_all; done) | (simp_all; omega)), rfl⟩)
end Go.Proofs.Ythhhhfpgmolcmab
