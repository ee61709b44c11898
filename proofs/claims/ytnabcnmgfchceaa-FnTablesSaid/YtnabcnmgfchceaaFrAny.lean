/- Contract of the model's l4DrawAny: it answers some frame whose row is its own, and writes into nothing that was there but the cursor. -/
import Derived.Test.YtnabcnmgfchceaaFrDraw
set_option linter.unusedSimpArgs false
set_option linter.unusedVariables false
namespace Go.Proofs.Ytnabcnmgfchceaa
open Go.RowKit

section
variable {Bn B p g : Nat} {a : Option Addr} {len cap : Nat} {D : List Int} {v : Value} {x0 x1 x2 x3 : Value} {w : World}
theorem OwnI.ne_cur (h : OwnI Bn D v w) (s : St B p a len cap w) : v.ownBlock ≠ some p := by
  rcases h.1.2 with ⟨rfl, _⟩ | ⟨g', cap', cur, rfl, _, hg, _⟩
  · simp [Value.ownBlock]
  · intro e
    simp only [Value.ownBlock, Option.some.injEq] at e
    subst e
    obtain ⟨⟨i, h', c⟩, _⟩ := s
    rw [c.block] at hg
    simp at hg
theorem OwnI.stay {w' : World} (h : OwnI Bn D v w) (k : w.grownBy w' none) : OwnI Bn D v w' := h.kept k (Classical.em _)
theorem OwnI.numsAt {av : Option Addr} {n cv : Nat} (h : OwnI Bn D (.slice av n cv) w) : n = D.length ∧ Nums av D w := by
  obtain ⟨a', c', e, k⟩ := h.nums
  simp only [Value.slice.injEq] at e
  obtain ⟨rfl, rfl, rfl⟩ := e
  exact ⟨rfl, k⟩
end

end Go.Proofs.Ytnabcnmgfchceaa
