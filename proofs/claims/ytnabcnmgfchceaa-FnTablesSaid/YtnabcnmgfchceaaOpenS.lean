/- A slice of frames as it comes in: what the reading of the argument says of the memory. -/
import Derived.Test.YtnabcnmgfchceaaOpenF
import Derived.Test.YtnabcnmgfchceaaFrs
import Derived.Deep.Slices
namespace Go.Proofs.Ytnabcnmgfchceaa
open Go.ChangeShapes Go.WideShapes Go.ChangeAt Go.RowKit Go.Joins

instance : Inhabited Frm := ⟨⟨0, false, 0, []⟩⟩
theorem one64 : Try.prog.cellsOf 2 = 1 := by kernel_rfl
theorem oneBool : Try.prog.cellsOf 4 = 1 := by kernel_rfl
theorem oneInts : Try.prog.cellsOf 29 = 1 := by kernel_rfl


end Go.Proofs.Ytnabcnmgfchceaa
