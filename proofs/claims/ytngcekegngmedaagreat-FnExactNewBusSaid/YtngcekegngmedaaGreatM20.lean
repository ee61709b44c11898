/- errors.Is at the program's own error, a number of its own type: the same number: true; nil: false. Go's own text is walked. -/
import Derived.Test.YtngcekegngmedaaGreatM0
import Derived.Test.YtngcekegngmedaaGreatProg
import Derived.WalkKit
import Derived.LaidEql
import Derived.Stop.Asserts
import Derived.RowKitTokens

set_option linter.unusedVariables false
set_option maxRecDepth 20000
namespace Go.Proofs.YtngcekegngmedaaGreat
open Go.RowKit Go.Extern.Stop Go.Stop Go.Extern

theorem mis_typeOf (v : Value) (w : World) : (Extern.ReflectliteType.typeOf #[.iface 112 v]).run Tryz.prog w = .ok (.iface 133 (.agg #[.pointer (some ⟨0, 112, none⟩)])) w := by kernel_rfl
def entComp : Array Value → Sem Value := Extern.ReflectliteType.method fun t => do Extern.Rtype.noPackHeld "Comparable" t; pure (.bool (← typeInfo t).comparable)
theorem mis_comparable (w : World) : (entComp #[.agg #[.pointer (some ⟨0, 112, none⟩)]]).run Tryz.prog w = .ok (.bool true) w := by kernel_rfl
theorem mis_methodComparable (v : Value) (w : World) : (Go.method 276 133 v "Comparable").run Tryz.prog w = .ok (128, v) w := by kernel_rfl
theorem mis_comp : (Tryz.prog.info? 112).map (·.comparable) = some true := by kernel_rfl
theorem mis_eql (k : Int) (w : World) : (binOp .eql 108 (.iface 112 (.int .i64 k)) (.iface 112 (.int .i64 k))).run Tryz.prog w = .ok (.bool true) w := by
  obtain ⟨i, hi, hcmp⟩ := Option.map_eq_some_iff.1 mis_comp
  have h : ∀ d : Nat, (Op.equalIn (d + 2) 108 (.iface 112 (.int .i64 k)) (.iface 112 (.int .i64 k))).run Tryz.prog w = .ok true w := by
    intro d
    simp [Op.equalIn, run_underlying Tryz.underlying108, run_underlying Tryz.underlying112, typeInfo, hi, hcmp]
  simp only [binOp]
  simp [Op.equal, Op.maxDepth, h 9998]

/-- errors.Is(x, x), x a number of the program's own error type. -/
theorem is_same (k : Int) (w : World) :
    Calls Tryz.prog 88 #[.iface 112 (.int .i64 k), .iface 112 (.int .i64 k)] w fun e w' => e = .returned (.bool true) ∧ w = w' := by
  have h8 := @run_callFunc_extern Tryz.prog 101 _ Extern.ReflectliteType.typeOf Tryz.func101 (by kernel_rfl) (by kernel_rfl) (by kernel_rfl) (by kernel_rfl)
  have h32 := @run_callFunc_extern Tryz.prog 128 _ entComp Tryz.func128 (by kernel_rfl) (by kernel_rfl) (by kernel_rfl) (by kernel_rfl)
  have tT := mis_typeOf
  have cT := mis_comparable
  have mR := mis_methodComparable
  have heq := mis_eql k w
  go_enter Tryz.func88, Tryz.ntmps88
  go_wp2
  refine wp_loop_rounds 1 ?_
  rw [rounds_succ]
  go_wp2
  go_ret
  exact ⟨rfl, rfl⟩

/-- errors.Is(nil, x). -/
theorem is_nil (k : Int) (w : World) :
    Calls Tryz.prog 88 #[.nilIface, .iface 112 (.int .i64 k)] w fun e w' => e = .returned (.bool false) ∧ w = w' := by
  have hn := run_eql_iface_nil_left (P := Tryz.prog) w 112 (.int .i64 k) Tryz.underlying108
  go_enter Tryz.func88, Tryz.ntmps88
  go_wp2
  go_ret
  exact ⟨rfl, rfl⟩
end Go.Proofs.YtngcekegngmedaaGreat
