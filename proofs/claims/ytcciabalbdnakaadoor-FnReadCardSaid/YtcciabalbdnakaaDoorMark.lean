/- The exact laws' marks: markInt64S, heldInt64S, markFrame, heldFrame. -/
import Derived.Test.YtcciabalbdnakaaDoorFrM
import Derived.Lib.SmallJoins
import Derived.Test.YtcciabalbdnakaaDoorLift
set_option linter.unusedVariables false
set_option linter.unusedSimpArgs false
set_option maxRecDepth 20000
namespace Go.Proofs.YtcciabalbdnakaaDoor
open Go.RowKit

/-- The first j of the numbers marked, from k on. -/
def mkD (k : Int) (D : List Int) (j : Nat) : List Int := ((List.range j).map fun i : Nat => k + (i : Int)) ++ D.drop j
def marks (k : Int) (n : Nat) : List Int := (List.range n).map fun i : Nat => k + (i : Int)
theorem mkD_zero (k : Int) (D : List Int) : mkD k D 0 = D := by simp [mkD]
theorem mkD_all (k : Int) (D : List Int) : mkD k D D.length = marks k D.length := by simp [mkD, marks]
theorem mkD_len {k : Int} {D : List Int} {j : Nat} (h : j ≤ D.length) : (mkD k D j).length = D.length := by simp [mkD]; omega
theorem marks_len (k : Int) (n : Nat) : (marks k n).length = n := by simp [marks]
theorem mkD_succ {k : Int} {D : List Int} {j : Nat} (h : j < D.length) : (mkD k D j).set j (k + (j : Int)) = mkD k D (j + 1) := by
  unfold mkD
  rw [List.set_append_right _ _ (by simp), List.range_succ, List.map_append, List.append_assoc]
  congr 1
  rw [List.length_map, List.length_range, Nat.sub_self, List.drop_eq_getElem_cons h, List.set_cons_zero]
  rfl
theorem marks_nth {k : Int} {n j : Nat} (h : j < n) : nth (marks k n) j = k + (j : Int) := by
  simp [nth, marks, List.getD_eq_getElem?_getD, List.getElem?_map, List.getElem?_range h]

end Go.Proofs.YtcciabalbdnakaaDoor
