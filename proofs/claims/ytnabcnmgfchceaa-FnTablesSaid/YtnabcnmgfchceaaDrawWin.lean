/- The model's draw of some frames (DrawWinnerOf): they stand in a row of the call's own, each one's data in a row of its own. -/
import Derived.Test.YtnabcnmgfchceaaFrs
import Derived.Test.YtnabcnmgfchceaaFrAny
import Derived.Test.YtnabcnmgfchceaaFrsTo
import Derived.Deep.CutRange
set_option linter.unusedVariables false
namespace Go.Proofs.Ytnabcnmgfchceaa
open Go.RowKit

def flatF (M : List (Frm × Value)) : List Value := M.flatMap fun f => [.int .i64 f.1.id, .bool f.1.rm, .int .i64 f.1.ln, f.2]
theorem flatF_app (M : List (Frm × Value)) (x : Frm × Value) : flatF (M ++ [x]) = flatF M ++ [.int .i64 x.1.id, .bool x.1.rm, .int .i64 x.1.ln, x.2] := by simp [flatF]
theorem flatF_at : ∀ (M : List (Frm × Value)) (j : Nat) (h : j < M.length), (flatF M)[j * 4]? = some (.int .i64 M[j].1.id) ∧ (flatF M)[j * 4 + 1]? = some (.bool M[j].1.rm) ∧ (flatF M)[j * 4 + 2]? = some (.int .i64 M[j].1.ln) ∧ (flatF M)[j * 4 + 3]? = some M[j].2 := by
  intro M
  induction M with
  | nil => intro j h; simp at h
  | cons m M ih =>
    intro j h
    cases j with
    | zero => exact ⟨rfl, rfl, rfl, rfl⟩
    | succ j =>
      have k := ih j (by simpa using h)
      have e1 : (j + 1) * 4 = j * 4 + 1 + 1 + 1 + 1 := by omega
      rw [e1]
      simpa [flatF] using k
section
variable {B : Nat} {M : List (Frm × Value)} {v : Value} {w w' : World}
end


end Go.Proofs.Ytnabcnmgfchceaa
