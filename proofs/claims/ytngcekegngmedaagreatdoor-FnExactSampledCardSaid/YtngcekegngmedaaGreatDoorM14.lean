/- A box of three cells (a head). No program's walk in it. -/
import Derived.Test.YtngcekegngmedaaGreatDoorM0
import Derived.Test.YtngcekegngmedaaGreatDoorProg
import Derived.WalkKit
import Derived.Below
import Derived.Laws.OwnMore

set_option maxRecDepth 20000
namespace Go.Proofs.YtngcekegngmedaaGreatDoor
open Go.RowKit

/-- Block g is a head. -/
def Hx (g : Nat) (x0 x1 x2 : Value) (w : World) : Prop := w.heap[g]? = some (.cells #[x0, x1, x2] 114 (0, 0))
section
variable {g : Nat} {x0 x1 x2 : Value} {w : World}
theorem Hx.c0 (h : Hx g x0 x1 x2 w) : w.cell? ⟨g, 0, none⟩ = some x0 := cell_of_row w g 0 _ _ _ h
theorem Hx.c1 (h : Hx g x0 x1 x2 w) : w.cell? ⟨g, 1, none⟩ = some x1 := cell_of_row w g 1 _ _ _ h
theorem Hx.c2 (h : Hx g x0 x1 x2 w) : w.cell? ⟨g, 2, none⟩ = some x2 := cell_of_row w g 2 _ _ _ h
theorem Hx.free (h : Hx g x0 x1 x2 w) (k : Nat) : w.frozen? ⟨g, k, none⟩ = false := frozen_of_row w g k _ _ h
theorem Hx.lt (h : Hx g x0 x1 x2 w) : g < w.heap.size := (Array.getElem?_eq_some_iff.1 h).1
theorem Hx.below {B : Nat} {w' : World} (h : Hx g x0 x1 x2 w) (k : Below B w w') (hg : g < B) : Hx g x0 x1 x2 w' := (k.block g hg).trans h
theorem Hx.made (w : World) (x0 x1 x2 : Value) : Hx w.heap.size x0 x1 x2 (w.alloc (.cells #[x0, x1, x2] 114)) := heap_alloc_new w _
theorem Hx.alloc (h : Hx g x0 x1 x2 w) (o : Obj) : Hx g x0 x1 x2 (w.alloc o) := h.below (Below.alloc (Below.refl w.heap.size w) (Nat.le_refl _) o) h.lt
theorem Hx.set (h : Hx g x0 x1 x2 w) (y0 y1 y2 : Value) : Hx g y0 y1 y2 (((w.setCell ⟨g, 0, none⟩ y0).setCell ⟨g, 1, none⟩ y1).setCell ⟨g, 2, none⟩ y2) :=
  heap_setCell_same _ g 2 _ _ y2 (heap_setCell_same _ g 1 _ _ y1 (heap_setCell_same w g 0 _ _ y0 h))
theorem Below.set3 {B : Nat} {w0 : World} (b : Below B w0 w) (hg : B ≤ g) (y0 y1 y2 : Value) : Below B w0 (((w.setCell ⟨g, 0, none⟩ y0).setCell ⟨g, 1, none⟩ y1).setCell ⟨g, 2, none⟩ y2) :=
  ((b.setCell (p := ⟨g, 0, none⟩) hg y0).setCell (p := ⟨g, 1, none⟩) hg y1).setCell (p := ⟨g, 2, none⟩) hg y2
end
end Go.Proofs.YtngcekegngmedaaGreatDoor
