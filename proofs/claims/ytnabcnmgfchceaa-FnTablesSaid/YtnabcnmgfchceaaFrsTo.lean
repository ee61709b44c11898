/- laws.toFrameS: a copy of a slice of frames, in a row of its own, each frame's data in a row of its own. -/
import Derived.Test.YtnabcnmgfchceaaFrs
import Derived.Test.YtnabcnmgfchceaaFrM
import Derived.Deep.CutRange
namespace Go.Proofs.Ytnabcnmgfchceaa
open Go.RowKit

theorem OwnI.made_row {D : List Int} (hw : ∀ x ∈ D, (Lit.int .i64 x).wf = true) (hm : D.length ≤ maxLen) (w1 : World) {B : Nat} (hB : B ≤ w1.heap.size) :
    OwnI B D (.slice (some ⟨w1.heap.size, 0, none⟩) D.length D.length) (w1.alloc (.cells (irow D.length fun j => nth D j) 2)) := by
  refine ⟨⟨by simp, .inr ⟨w1.heap.size, D.length, irow D.length fun j => nth D j, rfl, hB, heap_alloc_new _ _, Nat.le_refl _, hm, by simp [irow_size], ?_⟩⟩, hw⟩
  apply List.ext_getElem?
  intro j
  by_cases hj : j < D.length
  · simp [irow, hj, nth, List.getD_eq_getElem?_getD]
  · rw [List.getElem?_eq_none (by simp [irow]; omega), List.getElem?_eq_none (by simp; omega)]
theorem OwnI.made_at {D : List Int} {g : Nat} {B : Nat} {w1 : World} (hg : g = w1.heap.size) (hw : ∀ x ∈ D, (Lit.int .i64 x).wf = true) (hm : D.length ≤ maxLen) (hB : B ≤ w1.heap.size) :
    OwnI B D (.slice (some ⟨g, 0, none⟩) D.length D.length) (w1.alloc (.cells (irow D.length fun j => nth D j) 2)) := by
  subst hg; exact OwnI.made_row hw hm w1 hB
theorem ownInts_below {B : Nat} {D : List Int} {v : Value} {w w' : World} (h : OwnI B D v w) (b : Below w.heap.size w w') : OwnI B D v w' :=
  h.kept (row := none) ⟨b.os, b.tape, b.output, b.size, fun k hk _ => b.block k hk⟩ (by cases v.ownBlock <;> simp)


section
variable {G n k : Nat} {L : List Frm} {cur : Array Value} {w w' : World}
/-- The world behind the stores of frame k. -/
def putF (G k : Nat) (id : Int) (rm : Bool) (ln : Int) (dv : Value) (w : World) : World :=
  (((w.setCell ⟨G, k * 4, none⟩ (.int .i64 id)).setCell ⟨G, k * 4 + 1, none⟩ (.bool rm)).setCell ⟨G, k * 4 + 2, none⟩ (.int .i64 ln)).setCell ⟨G, k * 4 + 3, none⟩ dv
theorem putF_grown (G k : Nat) (id : Int) (rm : Bool) (ln : Int) (dv : Value) (w : World) : w.grownBy (putF G k id rm ln dv w) (some G) :=
  grown_trans (grown_trans (grown_trans (grown_set _ _ _ _) (grown_set _ _ _ _)) (grown_set _ _ _ _)) (grown_set _ _ _ _)
end

end Go.Proofs.Ytnabcnmgfchceaa
