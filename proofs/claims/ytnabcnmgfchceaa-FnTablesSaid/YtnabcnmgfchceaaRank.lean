/- Contracts of RankOf, of the program and of the model: twice the Id, and 1 more of a remote one; -1 of a frame that is not right. -/
import Derived.Test.YtnabcnmgfchceaaFok
namespace Go.Proofs.Ytnabcnmgfchceaa
open Go.RowKit

def rankV (id : Int) (rm : Bool) (ln : Int) (D : List Int) : Int := if frOk id rm ln D = true then (if rm = true then id * 2 + 1 else id * 2) else -1
theorem rankV_no {id : Int} {rm : Bool} {ln : Int} {D : List Int} (h : frOk id rm ln D = false) : rankV id rm ln D = -1 := by simp [rankV, h]
theorem rankV_yes {id : Int} {rm : Bool} {ln : Int} {D : List Int} (h : frOk id rm ln D = true) : rankV id rm ln D = if rm = true then id * 2 + 1 else id * 2 := by simp [rankV, h]
theorem frOk_id {id : Int} {rm : Bool} {ln : Int} {D : List Int} (h : frOk id rm ln D = true) : 0 ≤ id ∧ id ≤ 2047 := by
  simp only [frOk, inR, Bool.and_eq_true, decide_eq_true_eq] at h; omega
theorem rankV_le (id : Int) (rm : Bool) (ln : Int) (D : List Int) : -1 ≤ rankV id rm ln D ∧ rankV id rm ln D ≤ 4095 := by
  cases h : frOk id rm ln D with
  | false => rw [rankV_no h]; omega
  | true =>
    have := frOk_id h
    rw [rankV_yes h]
    cases rm <;> simp <;> omega
theorem rankV_neg {id : Int} {rm : Bool} {ln : Int} {D : List Int} : rankV id rm ln D < 0 ↔ frOk id rm ln D = false := by
  cases h : frOk id rm ln D with
  | false => rw [rankV_no h]; simp
  | true =>
    have := frOk_id h
    rw [rankV_yes h]
    cases rm <;> simp <;> omega

end Go.Proofs.Ytnabcnmgfchceaa
