/- Contracts of the program's Drives: a table of functions, asked by the phase. -/
import Derived.Test.YtngcekegngmedaaGreatDoorM35
import Derived.Laws.CopyOwn

set_option linter.unusedVariables false
set_option linter.unusedSimpArgs false
set_option maxRecDepth 20000
namespace Go.Proofs.YtngcekegngmedaaGreatDoor
open Go.RowKit

theorem implBegins (n : Nd) (p : NdP) (w : World) (hm : NdM n p w) :
    Calls Tryz.prog 225 #[ndV n p] w fun e w' => e = .returned (.bool (decide (0 < n.box.length))) ∧ Below w.heap.size w w' := by
  have X := NC.made hm
  have hbx := hm.box.1
  unfold maxLen at hbx
  go_enter Tryz.func225, Tryz.ntmps225
  go_upto_region 1 with fail
  generalize w.alloc _ = W at X ⊢
  generalize w.heap.size = g at X
  have hb := X.nx.bel
  obtain ⟨c0, c1, c2, c3, c4, c5, c6, c7, c8, c9, c10, c11, c12, c13, c14, c15, c16, c17⟩ := X.nx.cells
  by_cases h : 0 < n.box.length
  · have h' : decide (0 < n.box.length) = true := decide_eq_true h
    go_wp2_with fail
    go_ret
    exact ⟨by rw [h'] <;> rfl, hb⟩
  · have h' : decide (0 < n.box.length) = false := decide_eq_false h
    go_wp2_with fail
    go_ret
    exact ⟨by rw [h'] <;> rfl, hb⟩

end Go.Proofs.YtngcekegngmedaaGreatDoor
