/- slices.Equal over []int64; cells that stay in a region that makes blocks. -/
import Derived.Test.YthhhhfpgmolcmabLift
import Derived.Deep.RegionHeld3
import Derived.Deep.CutRange
import Derived.Deep.DeepCutAuto
namespace Go.Proofs.Ythhhhfpgmolcmab
open Go.RowKit

theorem ext_nth {D E : List Int} (hl : D.length = E.length) (h : ∀ j, j < D.length → nth D j = nth E j) : D = E := by
  apply List.ext_getElem hl
  intro j h1 h2
  have := h j h1
  simpa [nth, List.getD_eq_getElem?_getD, List.getElem?_eq_getElem h1, List.getElem?_eq_getElem h2] using this
theorem ne_nth {D E : List Int} {j : Nat} (h : nth D j ≠ nth E j) : D ≠ E := fun e => h (by rw [e])


/-- Eight cells that are there stay behind a new block, and behind a draw. -/
theorem keep8a {g0 g1 : Nat} {x0 x1 x2 x3 x4 x5 x6 x7 : Value} {w : World} (h : w.cell? ⟨g0, 0, none⟩ = some x0 ∧ w.cell? ⟨g0, 1, none⟩ = some x1 ∧ w.cell? ⟨g0, 2, none⟩ = some x2 ∧ w.cell? ⟨g0, 3, none⟩ = some x3 ∧ w.cell? ⟨g1, 0, none⟩ = some x4 ∧ w.cell? ⟨g1, 1, none⟩ = some x5 ∧ w.cell? ⟨g1, 2, none⟩ = some x6 ∧ w.cell? ⟨g1, 3, none⟩ = some x7) (o : Obj) :
    (w.alloc o).cell? ⟨g0, 0, none⟩ = some x0 ∧ (w.alloc o).cell? ⟨g0, 1, none⟩ = some x1 ∧ (w.alloc o).cell? ⟨g0, 2, none⟩ = some x2 ∧ (w.alloc o).cell? ⟨g0, 3, none⟩ = some x3 ∧ (w.alloc o).cell? ⟨g1, 0, none⟩ = some x4 ∧ (w.alloc o).cell? ⟨g1, 1, none⟩ = some x5 ∧ (w.alloc o).cell? ⟨g1, 2, none⟩ = some x6 ∧ (w.alloc o).cell? ⟨g1, 3, none⟩ = some x7 := by
  have n0 : g0 < w.heap.size := World.block_lt_of_cell? w _ h.1
  have n1 : g1 < w.heap.size := World.block_lt_of_cell? w _ h.2.2.2.2.1
  have b : Below w.heap.size w (w.alloc o) := (Below.refl _ _).alloc (Nat.le_refl _) _
  exact ⟨(b.cell n0).trans h.1, (b.cell n0).trans h.2.1, (b.cell n0).trans h.2.2.1, (b.cell n0).trans h.2.2.2.1, (b.cell n1).trans h.2.2.2.2.1, (b.cell n1).trans h.2.2.2.2.2.1, (b.cell n1).trans h.2.2.2.2.2.2.1, (b.cell n1).trans h.2.2.2.2.2.2.2⟩
theorem keep8d {g0 g1 : Nat} {x0 x1 x2 x3 x4 x5 x6 x7 : Value} {w : World} (h : w.cell? ⟨g0, 0, none⟩ = some x0 ∧ w.cell? ⟨g0, 1, none⟩ = some x1 ∧ w.cell? ⟨g0, 2, none⟩ = some x2 ∧ w.cell? ⟨g0, 3, none⟩ = some x3 ∧ w.cell? ⟨g1, 0, none⟩ = some x4 ∧ w.cell? ⟨g1, 1, none⟩ = some x5 ∧ w.cell? ⟨g1, 2, none⟩ = some x6 ∧ w.cell? ⟨g1, 3, none⟩ = some x7) :
    w.drew.cell? ⟨g0, 0, none⟩ = some x0 ∧ w.drew.cell? ⟨g0, 1, none⟩ = some x1 ∧ w.drew.cell? ⟨g0, 2, none⟩ = some x2 ∧ w.drew.cell? ⟨g0, 3, none⟩ = some x3 ∧ w.drew.cell? ⟨g1, 0, none⟩ = some x4 ∧ w.drew.cell? ⟨g1, 1, none⟩ = some x5 ∧ w.drew.cell? ⟨g1, 2, none⟩ = some x6 ∧ w.drew.cell? ⟨g1, 3, none⟩ = some x7 := h

theorem keep8b {g0 g1 : Nat} {x0 x1 x2 x3 x4 x5 x6 x7 : Value} {w w' : World} (h : w.cell? ⟨g0, 0, none⟩ = some x0 ∧ w.cell? ⟨g0, 1, none⟩ = some x1 ∧ w.cell? ⟨g0, 2, none⟩ = some x2 ∧ w.cell? ⟨g0, 3, none⟩ = some x3 ∧ w.cell? ⟨g1, 0, none⟩ = some x4 ∧ w.cell? ⟨g1, 1, none⟩ = some x5 ∧ w.cell? ⟨g1, 2, none⟩ = some x6 ∧ w.cell? ⟨g1, 3, none⟩ = some x7) (b : Below w.heap.size w w') :
    w'.cell? ⟨g0, 0, none⟩ = some x0 ∧ w'.cell? ⟨g0, 1, none⟩ = some x1 ∧ w'.cell? ⟨g0, 2, none⟩ = some x2 ∧ w'.cell? ⟨g0, 3, none⟩ = some x3 ∧ w'.cell? ⟨g1, 0, none⟩ = some x4 ∧ w'.cell? ⟨g1, 1, none⟩ = some x5 ∧ w'.cell? ⟨g1, 2, none⟩ = some x6 ∧ w'.cell? ⟨g1, 3, none⟩ = some x7 := by
  have n0 : g0 < w.heap.size := World.block_lt_of_cell? w _ h.1
  have n1 : g1 < w.heap.size := World.block_lt_of_cell? w _ h.2.2.2.2.1
  exact ⟨(b.cell n0).trans h.1, (b.cell n0).trans h.2.1, (b.cell n0).trans h.2.2.1, (b.cell n0).trans h.2.2.2.1, (b.cell n1).trans h.2.2.2.2.1, (b.cell n1).trans h.2.2.2.2.2.1, (b.cell n1).trans h.2.2.2.2.2.2.1, (b.cell n1).trans h.2.2.2.2.2.2.2⟩
end Go.Proofs.Ythhhhfpgmolcmab
