/- spec.WinnerOf: the first one of the least rank. -/
import Derived.Test.YtadnnbinmghabaaFrs
import Derived.Deep.CutRange
set_option maxRecDepth 20000
namespace Go.Proofs.Ytadnnbinmghabaa
open Go.RowKit

def rkF (f : Frm) : Int := rankV f.id f.rm f.ln f.D
/-- Who wins among the first k. -/
def winN (L : List Frm) : Nat → Option Nat
  | 0 => none
  | k + 1 => match winN L k with
    | none => if 0 ≤ rkF (nthF L k) then some k else none
    | some b => if 0 ≤ rkF (nthF L k) ∧ rkF (nthF L k) < rkF (nthF L b) then some k else some b
def winI : Option Nat → Int
  | none => -1
  | some b => b
theorem winN_lt {L : List Frm} : ∀ {k b : Nat}, winN L k = some b → b < k ∧ 0 ≤ rkF (nthF L b) := by
  intro k
  induction k with
  | zero => intro b h; simp [winN] at h
  | succ k ih =>
    intro b h
    simp only [winN] at h
    split at h
    · split at h
      · cases h; exact ⟨by omega, by assumption⟩
      · cases h
    · split at h
      · rename_i hc; cases h; exact ⟨by omega, hc.1⟩
      · rename_i hb _; cases h; have := ih hb; exact ⟨by omega, this.2⟩
theorem winN_none {L : List Frm} {k : Nat} (h : winN L k = none) (r : 0 ≤ rkF (nthF L k)) : winN L (k + 1) = some k := by simp [winN, h, r]
theorem winN_low {L : List Frm} {k : Nat} (r : rkF (nthF L k) < 0) : winN L (k + 1) = winN L k := by
  simp only [winN]
  split
  · rename_i h; rw [if_neg (by omega), h]
  · rename_i h; rw [if_neg (by omega), h]
theorem winN_less {L : List Frm} {k b : Nat} (h : winN L k = some b) (r : 0 ≤ rkF (nthF L k)) (q : rkF (nthF L k) < rkF (nthF L b)) : winN L (k + 1) = some k := by simp [winN, h, r, q]
theorem winN_more {L : List Frm} {k b : Nat} (h : winN L k = some b) (q : ¬ rkF (nthF L k) < rkF (nthF L b)) : winN L (k + 1) = some b := by simp [winN, h, q]

end Go.Proofs.Ytadnnbinmghabaa
