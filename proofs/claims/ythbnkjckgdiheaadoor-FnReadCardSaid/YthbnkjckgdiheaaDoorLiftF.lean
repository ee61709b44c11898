/- The exact laws' own small functions over frames: szFrame, toFrame, eqFrame. -/
import Derived.Test.YthbnkjckgdiheaaDoorLift
set_option maxRecDepth 20000
namespace Go.Proofs.YthbnkjckgdiheaaDoor
open Go.RowKit

theorem below_drewn4 {B : Nat} {a w : World} (h : Below B a w) (n : Nat) : Below B a (w.drewN n) := ⟨h.os, h.tape, h.output, h.size, h.block⟩

theorem Nums.made_at {a : Option Addr} {D : List Int} {w : World} (hd : Nums a D w) {g : Nat} (w1 : World) (T : TypeId) (hg : g = w1.heap.size) :
    Nums (some ⟨g, 0, none⟩) D (w1.alloc (.cells (irow D.length fun j => nth D j) T)) := by
  subst hg; exact hd.made w1 T


/-- laws.eqFrame, of two frames that hold the same. -/
theorem eqFr (id : Int) (rm : Bool) (ln : Int) (a b : Option Addr) (D : List Int) (c c' : Nat) (w : World) (ha : Nums a D w) (hb : Nums b D w) :
    Calls Tryd.prog 17 #[frV id rm ln a D.length c, frV id rm ln b D.length c'] w fun e w' => e = .returned (.bool true) ∧ Below w.heap.size w w' := by
  go_enter Tryd.func17, Tryd.ntmps17
  go_wp2_with fail
  have hB : Below w.heap.size w ((w.alloc (.cells #[.int .i64 id, .bool rm, .int .i64 ln, .slice a D.length c] 26)).alloc (.cells #[.int .i64 id, .bool rm, .int .i64 ln, .slice b D.length c'] 26)) :=
    ((Below.refl _ _).alloc (Nat.le_refl _) _).alloc (by simp) _
  refine (eqInts _ _ _ _ _ _ (ha.below hB) (hb.below hB)).mono ?_
  rintro e w' ⟨rfl, n, rfl⟩
  go_wp2
  go_ret
  exact ⟨rfl, below_drewn4 hB n⟩
end Go.Proofs.YthbnkjckgdiheaaDoor
