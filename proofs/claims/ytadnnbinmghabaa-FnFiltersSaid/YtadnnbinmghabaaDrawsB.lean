/- The model's draws for boxes: DrawPutIn, DrawTakenOut. -/
import Derived.Test.YtadnnbinmghabaaDrawBox
set_option linter.unusedVariables false
set_option linter.unusedSimpArgs false
set_option maxRecDepth 20000
namespace Go.Proofs.Ytadnnbinmghabaa
open Go.RowKit

/-- What a draw of a box and a frame leaves. -/
def BoxFr (w : World) (e : Ending) (w' : World) : Prop :=
  ∃ (L : List Frm) (a : Option Addr) (c : Nat) (id : Int) (rm : Bool) (ln : Int) (D : List Int) (ad : Option Addr) (cd : Nat),
    e = .returned (.tuple #[.slice a L.length c, frV id rm ln ad D.length cd]) ∧ Frs a L w' ∧ L.length ≤ c ∧ Addressed a c ∧ Nums ad D w' ∧ L.length ≤ 17 ∧ Below w.heap.size w w'
/-- What a draw of a box and a rank leaves. -/
def BoxRk (w : World) (e : Ending) (w' : World) : Prop :=
  ∃ (L : List Frm) (a : Option Addr) (c : Nat) (r : Int), e = .returned (.tuple #[.slice a L.length c, .int .i64 r]) ∧ Frs a L w' ∧ L.length ≤ c ∧ Addressed a c ∧ L.length ≤ 17 ∧ Below w.heap.size w w'

/-- A frame laid in a box of its own. -/
theorem lay_box {ra : Nat} {y0 y1 y2 y3 : Value} {W : World} (rA : Bx ra y0 y1 y2 y3 W) (id : Int) (rm : Bool) (ln : Int) (v : Value) :
    Bx ra (.int .i64 id) (.bool rm) (.int .i64 ln) v ((((W.setCell ⟨ra, 0, none⟩ (.int .i64 id)).setCell ⟨ra, 1, none⟩ (.bool rm)).setCell ⟨ra, 2, none⟩ (.int .i64 ln)).setCell ⟨ra, 3, none⟩ v) ∧
    Mid ra (ra + 1) W ((((W.setCell ⟨ra, 0, none⟩ (.int .i64 id)).setCell ⟨ra, 1, none⟩ (.bool rm)).setCell ⟨ra, 2, none⟩ (.int .i64 ln)).setCell ⟨ra, 3, none⟩ v) := by
  have k := grown_trans (grown_trans (grown_trans (grown_set W ra 0 (.int .i64 id)) (grown_set _ ra 1 (.bool rm))) (grown_set _ ra 2 (.int .i64 ln))) (grown_set _ ra 3 v)
  exact ⟨(((rA.set0 _).set1 _).set2 _).set3 _, (Mid.refl ra (ra + 1) W).grown k fun q e => by cases e; omega⟩
theorem Mid.drew {lo hi : Nat} {w w' : World} (h : Mid lo hi w w') : Mid lo hi w w'.drew := ⟨h.os, h.tape, h.output, h.size, h.block⟩

end Go.Proofs.Ytadnnbinmghabaa
