/- The exact laws' own small functions over frames: szFrame, toFrame, eqFrame. -/
import Derived.Test.YtnabcnmgfchceaaLift
namespace Go.Proofs.Ytnabcnmgfchceaa
open Go.RowKit

theorem below_drewn4 {B : Nat} {a w : World} (h : Below B a w) (n : Nat) : Below B a (w.drewN n) := ⟨h.os, h.tape, h.output, h.size, h.block⟩

theorem Nums.made_at {a : Option Addr} {D : List Int} {w : World} (hd : Nums a D w) {g : Nat} (w1 : World) (T : TypeId) (hg : g = w1.heap.size) :
    Nums (some ⟨g, 0, none⟩) D (w1.alloc (.cells (irow D.length fun j => nth D j) T)) := by
  subst hg; exact hd.made w1 T


end Go.Proofs.Ytnabcnmgfchceaa
