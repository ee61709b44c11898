/- The model's draws of a box: l9Draw, l9DrawAny. -/
import Derived.Test.YtadnnbinmghabaaSizes
import Derived.Test.YtadnnbinmghabaaFrAny
import Derived.Test.YtadnnbinmghabaaDraws1
import Derived.Deep.DeepCutAuto
set_option linter.unusedVariables false
set_option linter.unusedSimpArgs false
set_option maxRecDepth 20000
namespace Go.Proofs.Ytadnnbinmghabaa
open Go.RowKit

def lenV : Value → Nat | .slice _ n _ => n | _ => 0
/-- What stands while a box is drawn: the slice s holds frames in rows of the call's own. -/
def BoxAt (B p : Nat) (a : Option Addr) (len cap : Nat) (N : Nat) (w : World) (s : Value) (wx : World) : Prop :=
  ∃ (L : List Frm) (M : List (Frm × Value)) (g c : Nat), s = .slice (some ⟨g, 0, none⟩) L.length c ∧ (M.map fun m => m.1) = L ∧ OwnF w.heap.size M (.slice (some ⟨g, 0, none⟩) L.length c) wx ∧ L.length ≤ N ∧ (∀ x ∈ L, x.D.length ≤ 9) ∧ w.grownBy wx (some p) ∧ St B p a len cap wx
/-- What a draw of a box leaves. -/
def DrewB (B p : Nat) (a : Option Addr) (len cap : Nat) (N : Nat) (w : World) (e : Ending) (w' : World) : Prop := ∃ s, e = .returned s ∧ BoxAt B p a len cap N w s w'
theorem BoxAt.more {B p : Nat} {a : Option Addr} {len cap N N' : Nat} {w wx : World} {s : Value} (h : BoxAt B p a len cap N w s wx) (hN : N ≤ N') : BoxAt B p a len cap N' w s wx := by
  obtain ⟨L, M, g, c, h1, h2, h3, h4, h5⟩ := h
  exact ⟨L, M, g, c, h1, h2, h3, by omega, h5⟩

end Go.Proofs.Ytadnnbinmghabaa
