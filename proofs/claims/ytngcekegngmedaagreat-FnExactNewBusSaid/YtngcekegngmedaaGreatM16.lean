/- impl.copiedFrame, impl.copiedFrames: each frame in the answer's own row, its data in a row of its own. -/
import Derived.Test.YtngcekegngmedaaGreatM15
import Derived.Laws.CopyOwn
import Derived.Deep.CutRange

set_option linter.unusedVariables false
set_option linter.unusedSimpArgs false
set_option maxRecDepth 20000
namespace Go.Proofs.YtngcekegngmedaaGreat
open Go.RowKit

theorem nums_row {D : List Int} {w : World} {g B : Nat} (hw : ∀ x ∈ D, (Lit.int .i64 x).wf = true) (hm : D.length ≤ maxLen) (hB : B ≤ g) (hg : w.heap[g]? = some (.cells (D.map (Value.int .i64)).toArray 2 (0, 0))) :
    OwnI B D (.slice (some ⟨g, 0, none⟩) D.length D.length) w := by
  refine ⟨⟨by simp, .inr ⟨g, D.length, _, rfl, hB, hg, Nat.le_refl _, hm, by simp, ?_⟩⟩, hw⟩
  simp [List.take_of_length_le]
theorem splice_all {L cs : List Value} (h : cs.length = L.length) : splice L 0 cs = cs := by simp [splice, h]

end Go.Proofs.YtngcekegngmedaaGreat
