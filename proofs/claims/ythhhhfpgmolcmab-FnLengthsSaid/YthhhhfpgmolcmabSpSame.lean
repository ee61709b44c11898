/- Contract of the model's SameFrame: at every two frames whose data can be read it answers sameFr of them. -/
import Derived.Test.YthhhhfpgmolcmabEq
namespace Go.Proofs.Ythhhhfpgmolcmab
open Go.RowKit

/-- Are two frames alike? -/
def sameFr (i0 : Int) (r0 : Bool) (l0 : Int) (D0 : List Int) (i1 : Int) (r1 : Bool) (l1 : Int) (D1 : List Int) : Bool := decide (i0 = i1) && decide (r0 = r1) && decide (l0 = l1) && decide (D0 = D1)
theorem sameFr_no {i0 : Int} {r0 : Bool} {l0 : Int} {D0 : List Int} {i1 : Int} {r1 : Bool} {l1 : Int} {D1 : List Int} (h : i0 ≠ i1 ∨ r0 ≠ r1 ∨ l0 ≠ l1 ∨ D0 ≠ D1) : sameFr i0 r0 l0 D0 i1 r1 l1 D1 = false := by
  simp only [sameFr, Bool.and_eq_false_iff, decide_eq_false_iff_not]; rcases h with h | h | h | h <;> simp [h]
theorem sameFr_yes {i0 : Int} {r0 : Bool} {l0 : Int} {D0 : List Int} {i1 : Int} {r1 : Bool} {l1 : Int} {D1 : List Int} (h0 : i0 = i1) (h1 : r0 = r1) (h2 : l0 = l1) (h3 : D0 = D1) : sameFr i0 r0 l0 D0 i1 r1 l1 D1 = true := by
  simp [sameFr, h0, h1, h2, h3]

end Go.Proofs.Ythhhhfpgmolcmab
