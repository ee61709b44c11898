/- impl.PutIn and impl.TakenOut: their answers' frames stand in rows of their own. -/
import Derived.Test.YtadnnbinmghabaaSplice
import Derived.Test.YtadnnbinmghabaaSearch
import Derived.Test.YtadnnbinmghabaaBoxOk
set_option linter.unusedVariables false
set_option linter.unusedSimpArgs false
set_option maxRecDepth 20000
namespace Go.Proofs.Ytadnnbinmghabaa
open Go.RowKit

/-- The slice is nil, or it has an address of a row. -/
def Addressed (a : Option Addr) (c : Nat) : Prop := (a = none ∧ c = 0) ∨ ∃ g o, a = some ⟨g, o, none⟩
/-- What PutIn leaves. -/
def PutGot (R : List Frm × Int) (w : World) (e : Ending) (w' : World) : Prop :=
  ∃ (M : List (Frm × Value)) (a : Option Addr) (c : Nat), e = .returned (.tuple #[.slice a R.1.length c, .int .i64 R.2]) ∧ (M.map fun m => m.1) = R.1 ∧ OwnF w.heap.size M (.slice a R.1.length c) w' ∧ Far M ∧ Below w.heap.size w w'
theorem far_nil : Far [] := fun i j hi => by simp at hi
theorem own_nil (B : Nat) (w : World) : OwnF B [] (.slice none 0 0) w := ⟨World.ownsRow_nil w B _ 4, fun m hm => by cases hm⟩
theorem Addressed.nil {c : Nat} {L : List Frm} {w : World} (h : Frs none L w) (hc : L.length ≤ c) (ha : Addressed none c) : L = [] ∧ c = 0 := by
  have hc0 : c = 0 := by
    rcases ha with ⟨-, h0⟩ | ⟨g, o, e⟩
    · exact h0
    · cases e
  exact ⟨List.eq_nil_of_length_eq_zero (by omega), hc0⟩

end Go.Proofs.Ytadnnbinmghabaa
