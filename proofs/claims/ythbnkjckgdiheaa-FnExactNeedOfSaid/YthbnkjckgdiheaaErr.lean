/- errors.Is at the program's own error, a number of its own type: the same number: true; nil: false. Go's own text is walked. -/
import Derived.Test.YthbnkjckgdiheaaBits
import Derived.Test.YthbnkjckgdiheaaProg
import Derived.WalkKit
import Derived.LaidEql
import Derived.Stop.Asserts
import Derived.RowKitTokens
set_option linter.unusedVariables false
namespace Go.Proofs.Ythbnkjckgdiheaa
open Go.RowKit Go.Extern.Stop Go.Stop Go.Extern

theorem mis_typeOf (v : Value) (w : World) : (Extern.ReflectliteType.typeOf #[.iface 34 v]).run Try.prog w = .ok (.iface 42 (.agg #[.pointer (some ⟨0, 34, none⟩)])) w := by kernel_rfl
def entComp : Array Value → Sem Value := Extern.ReflectliteType.method fun t => do Extern.Rtype.noPackHeld "Comparable" t; pure (.bool (← typeInfo t).comparable)
theorem mis_comparable (w : World) : (entComp #[.agg #[.pointer (some ⟨0, 34, none⟩)]]).run Try.prog w = .ok (.bool true) w := by kernel_rfl
theorem mis_methodComparable (v : Value) (w : World) : (Go.method 186 42 v "Comparable").run Try.prog w = .ok (37, v) w := by kernel_rfl
theorem mis_comp : (Try.prog.info? 34).map (·.comparable) = some true := by kernel_rfl
theorem mis_eql (k : Int) (w : World) : (binOp .eql 30 (.iface 34 (.int .i64 k)) (.iface 34 (.int .i64 k))).run Try.prog w = .ok (.bool true) w := by
  obtain ⟨i, hi, hcmp⟩ := Option.map_eq_some_iff.1 mis_comp
  have h : ∀ d : Nat, (Op.equalIn (d + 2) 30 (.iface 34 (.int .i64 k)) (.iface 34 (.int .i64 k))).run Try.prog w = .ok true w := by
    intro d
    simp [Op.equalIn, run_underlying Try.underlying30, run_underlying Try.underlying34, typeInfo, hi, hcmp]
  simp only [binOp]
  simp [Op.equal, Op.maxDepth, h 9998]

/-- errors.Is(x, x), x a number of the program's own error type. -/
theorem is_same (k : Int) (w : World) :
    Calls Try.prog 10 #[.iface 34 (.int .i64 k), .iface 34 (.int .i64 k)] w fun e w' => e = .returned (.bool true) ∧ w = w' := by
  have h8 := @run_callFunc_extern Try.prog 14 _ Extern.ReflectliteType.typeOf Try.func14 (by kernel_rfl) (by kernel_rfl) (by kernel_rfl) (by kernel_rfl)
  have h32 := @run_callFunc_extern Try.prog 37 _ entComp Try.func37 (by kernel_rfl) (by kernel_rfl) (by kernel_rfl) (by kernel_rfl)
  have tT := mis_typeOf
  have cT := mis_comparable
  have mR := mis_methodComparable
  have heq := mis_eql k w
  go_enter Try.func10, Try.ntmps10
  go_wp2
  refine wp_loop_rounds 1 ?_
  rw [rounds_succ]
  go_wp2
  go_ret
  exact ⟨rfl, rfl⟩

/-- errors.Is(nil, x). -/
theorem is_nil (k : Int) (w : World) :
    Calls Try.prog 10 #[.nilIface, .iface 34 (.int .i64 k)] w fun e w' => e = .returned (.bool false) ∧ w = w' := by
  have hn := run_eql_iface_nil_left (P := Try.prog) w 34 (.int .i64 k) Try.underlying30
  go_enter Try.func10, Try.ntmps10
  go_wp2
  go_ret
  exact ⟨rfl, rfl⟩
end Go.Proofs.Ythbnkjckgdiheaa
