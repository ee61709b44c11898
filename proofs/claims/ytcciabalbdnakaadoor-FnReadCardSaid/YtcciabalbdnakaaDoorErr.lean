/- errors.Is at the program's own error, a number of its own type: the same number: true; nil: false. Go's own text is walked. -/
import Derived.Test.YtcciabalbdnakaaDoorBits
import Derived.Test.YtcciabalbdnakaaDoorProg
import Derived.WalkKit
import Derived.LaidEql
import Derived.Stop.Asserts
import Derived.RowKitTokens
set_option linter.unusedVariables false
set_option maxRecDepth 20000
namespace Go.Proofs.YtcciabalbdnakaaDoor
open Go.RowKit Go.Extern.Stop Go.Stop Go.Extern

theorem mis_typeOf (v : Value) (w : World) : (Extern.ReflectliteType.typeOf #[.iface 58 v]).run Tryd.prog w = .ok (.iface 101 (.agg #[.pointer (some ⟨1, 58, none⟩)])) w := by kernel_rfl
def entComp : Array Value → Sem Value := Extern.ReflectliteType.method fun t => do Extern.Rtype.noPackHeld "Comparable" t; pure (.bool (← typeInfo t).comparable)
theorem mis_comparable (w : World) : (entComp #[.agg #[.pointer (some ⟨1, 58, none⟩)]]).run Tryd.prog w = .ok (.bool true) w := by kernel_rfl
theorem mis_methodComparable (v : Value) (w : World) : (Go.method 245 101 v "Comparable").run Tryd.prog w = .ok (95, v) w := by kernel_rfl
theorem mis_comp : (Tryd.prog.info? 58).map (·.comparable) = some true := by kernel_rfl
theorem mis_eql (k : Int) (w : World) : (binOp .eql 47 (.iface 58 (.int .i64 k)) (.iface 58 (.int .i64 k))).run Tryd.prog w = .ok (.bool true) w := by
  obtain ⟨i, hi, hcmp⟩ := Option.map_eq_some_iff.1 mis_comp
  have h : ∀ d : Nat, (Op.equalIn (d + 2) 47 (.iface 58 (.int .i64 k)) (.iface 58 (.int .i64 k))).run Tryd.prog w = .ok true w := by
    intro d
    simp [Op.equalIn, run_underlying Tryd.underlying47, run_underlying Tryd.underlying58, typeInfo, hi, hcmp]
  simp only [binOp]
  simp [Op.equal, Op.maxDepth, h 9998]

/-- errors.Is(x, x), x a number of the program's own error type. -/
theorem is_same (k : Int) (w : World) :
    Calls Tryd.prog 31 #[.iface 58 (.int .i64 k), .iface 58 (.int .i64 k)] w fun e w' => e = .returned (.bool true) ∧ w = w' := by
  have h8 := @run_callFunc_extern Tryd.prog 59 _ Extern.ReflectliteType.typeOf Tryd.func59 (by kernel_rfl) (by kernel_rfl) (by kernel_rfl) (by kernel_rfl)
  have h32 := @run_callFunc_extern Tryd.prog 95 _ entComp Tryd.func95 (by kernel_rfl) (by kernel_rfl) (by kernel_rfl) (by kernel_rfl)
  have tT := mis_typeOf
  have cT := mis_comparable
  have mR := mis_methodComparable
  have heq := mis_eql k w
  go_enter Tryd.func31, Tryd.ntmps31
  go_wp2
  refine wp_loop_rounds 1 ?_
  rw [rounds_succ]
  go_wp2
  go_ret
  exact ⟨rfl, rfl⟩

/-- errors.Is(nil, x). -/
theorem is_nil (k : Int) (w : World) :
    Calls Tryd.prog 31 #[.nilIface, .iface 58 (.int .i64 k)] w fun e w' => e = .returned (.bool false) ∧ w = w' := by
  have hn := run_eql_iface_nil_left (P := Tryd.prog) w 58 (.int .i64 k) Tryd.underlying47
  go_enter Tryd.func31, Tryd.ntmps31
  go_wp2
  go_ret
  exact ⟨rfl, rfl⟩
end Go.Proofs.YtcciabalbdnakaaDoor
