/- Contracts of MostStuffs, of the program and of the model. -/
import Derived.Test.YtnabcnmgfchceaaDrawN
import Derived.Test.YtnabcnmgfchceaaStuff
import Derived.WalkArith
namespace Go.Proofs.Ytnabcnmgfchceaa
open Go.RowKit

/-- How many bits are put in at most, of n. -/
def mostV (n : Int) : Int := if n < 0 ∨ 400 < n then -1 else if n = 0 then 0 else (n - 1) / 4
theorem mostV_no {n : Int} (h : n < 0 ∨ 400 < n) : mostV n = -1 := by simp [mostV, h]
theorem mostV_0 : mostV 0 = 0 := by decide
theorem mostV_yes {n : Int} (h1 : 1 ≤ n) (h2 : n ≤ 400) : mostV n = (n - 1) / 4 := by
  unfold mostV; rw [if_neg (by omega), if_neg (by omega)]
def longV (n : Int) : Int := if n < 0 ∨ 8 < n then -1 else 34 + 8 * n + mostV (34 + 8 * n) + 10
theorem longV_no {n : Int} (h : n < 0 ∨ 8 < n) : longV n = -1 := by simp [longV, h]
theorem longV_yes {n : Int} (h1 : 0 ≤ n) (h2 : n ≤ 8) : longV n = 34 + 8 * n + mostV (34 + 8 * n) + 10 := by
  have : ¬ (n < 0 ∨ 8 < n) := by omega
  simp [longV, this]

theorem implMost (n : Int) (w : World) (hn : (Lit.int .i64 n).wf = true) :
    Calls Try.prog 59 #[.int .i64 n] w fun e w' => e = .returned (.int .i64 (mostV n)) ∧ Below w.heap.size w w' := by
  by_cases h1 : n < 0
  · have HM := Lib.hid (mostV_no (n := n) (.inl h1))
    go_enter Try.func59, Try.ntmps59
    go_wp2
    go_ret
    exact ⟨ret_int HM.out.symm, Below.refl _ _⟩
  by_cases h2 : 400 < n
  · have HM := Lib.hid (mostV_no (n := n) (.inr h2))
    go_enter Try.func59, Try.ntmps59
    go_wp2
    go_ret
    exact ⟨ret_int HM.out.symm, Below.refl _ _⟩
  by_cases h3 : n = 0
  · subst h3
    go_enter Try.func59, Try.ntmps59
    go_wp2
    go_ret
    exact ⟨ret_int mostV_0.symm, Below.refl _ _⟩
  have HM := Lib.hid (mostV_yes (n := n) (by omega) (by omega))
  have h0 : 0 ≤ n := by omega
  have h4 : n ≤ 400 := by omega
  have h5 : 0 ≤ n - 1 := by omega
  have h6 : 0 < n := by omega
  clear h1 h2
  go_enter Try.func59, Try.ntmps59
  go_wp2
  go_ret
  exact ⟨ret_int HM.out.symm, Below.refl _ _⟩

theorem specMost (n : Int) (w : World) (hn : (Lit.int .i64 n).wf = true) :
    Calls Try.prog 60 #[.int .i64 n] w fun e w' => e = .returned (.int .i64 (mostV n)) ∧ w = w' := by
  by_cases h1 : n < 0
  · have HM := Lib.hid (mostV_no (n := n) (.inl h1))
    go_enter Try.func60, Try.ntmps60
    go_wp2
    go_ret
    exact ⟨ret_int HM.out.symm, rfl⟩
  by_cases h2 : 400 < n
  · have HM := Lib.hid (mostV_no (n := n) (.inr h2))
    have hd : decide (n ≤ 400) = false := by simp; omega
    go_enter Try.func60, Try.ntmps60
    go_wp2
    go_ret
    exact ⟨ret_int HM.out.symm, rfl⟩
  by_cases h3 : n = 0
  · subst h3
    go_enter Try.func60, Try.ntmps60
    go_wp2
    go_ret
    exact ⟨ret_int mostV_0.symm, rfl⟩
  have HM := Lib.hid (mostV_yes (n := n) (by omega) (by omega))
  have h0 : 0 ≤ n := by omega
  have h4 : n ≤ 400 := by omega
  have h5 : 0 ≤ n - 1 := by omega
  have h6 : 0 < n := by omega
  clear h1 h2
  go_enter Try.func60, Try.ntmps60
  go_wp2
  go_ret
  exact ⟨ret_int HM.out.symm, rfl⟩

end Go.Proofs.Ytnabcnmgfchceaa
