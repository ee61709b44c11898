/- errors.Is at the program's own error, a number of its own type: the same number: true; nil: false. Go's own text is walked. -/
import Derived.Test.YtngcekegngmedaaGreatDoorM0
import Derived.Test.YtngcekegngmedaaGreatDoorProg
import Derived.WalkKit
import Derived.LaidEql
import Derived.Stop.Asserts
import Derived.RowKitTokens
import Derived.Below

set_option linter.unusedVariables false
set_option maxRecDepth 20000
namespace Go.Proofs.YtngcekegngmedaaGreatDoor
open Go.RowKit Go.Extern.Stop Go.Stop Go.Extern

theorem mis_typeOf (v : Value) (w : World) : (Extern.ReflectliteType.typeOf #[.iface 226 v]).run Tryz.prog w = .ok (.iface 258 (.agg #[.pointer (some ⟨1, 226, none⟩)])) w := by kernel_rfl
def entComp : Array Value → Sem Value := Extern.ReflectliteType.method fun t => do Extern.Rtype.noPackHeld "Comparable" t; pure (.bool (← typeInfo t).comparable)
theorem mis_comparable (w : World) : (entComp #[.agg #[.pointer (some ⟨1, 226, none⟩)]]).run Tryz.prog w = .ok (.bool true) w := by kernel_rfl
theorem mis_methodComparable (v : Value) (w : World) : (Go.method 403 258 v "Comparable").run Tryz.prog w = .ok (310, v) w := by kernel_rfl
theorem mis_comp : (Tryz.prog.info? 226).map (·.comparable) = some true := by kernel_rfl
theorem mis_eql (k : Int) (w : World) : (binOp .eql 222 (.iface 226 (.int .i64 k)) (.iface 226 (.int .i64 k))).run Tryz.prog w = .ok (.bool true) w := by
  obtain ⟨i, hi, hcmp⟩ := Option.map_eq_some_iff.1 mis_comp
  have h : ∀ d : Nat, (Op.equalIn (d + 2) 222 (.iface 226 (.int .i64 k)) (.iface 226 (.int .i64 k))).run Tryz.prog w = .ok true w := by
    intro d
    simp [Op.equalIn, run_underlying Tryz.underlying222, run_underlying Tryz.underlying226, typeInfo, hi, hcmp]
  simp only [binOp]
  simp [Op.equal, Op.maxDepth, h 9998]

/-- errors.Is(x, x), x a number of the program's own error type. -/
theorem is_same (k : Int) (w : World) :
    Calls Tryz.prog 254 #[.iface 226 (.int .i64 k), .iface 226 (.int .i64 k)] w fun e w' => e = .returned (.bool true) ∧ w = w' := by
  have h8 := @run_callFunc_extern Tryz.prog 271 _ Extern.ReflectliteType.typeOf Tryz.func271 (by kernel_rfl) (by kernel_rfl) (by kernel_rfl) (by kernel_rfl)
  have h32 := @run_callFunc_extern Tryz.prog 310 _ entComp Tryz.func310 (by kernel_rfl) (by kernel_rfl) (by kernel_rfl) (by kernel_rfl)
  have tT := mis_typeOf
  have cT := mis_comparable
  have mR := mis_methodComparable
  have heq := mis_eql k w
  go_enter Tryz.func254, Tryz.ntmps254
  go_wp2
  refine wp_loop_rounds 1 ?_
  rw [rounds_succ]
  go_wp2
  go_ret
  exact ⟨rfl, rfl⟩

/-- errors.Is(nil, x). -/
theorem is_nil (k : Int) (w : World) :
    Calls Tryz.prog 254 #[.nilIface, .iface 226 (.int .i64 k)] w fun e w' => e = .returned (.bool false) ∧ w = w' := by
  have hn := run_eql_iface_nil_left (P := Tryz.prog) w 226 (.int .i64 k) Tryz.underlying222
  go_enter Tryz.func254, Tryz.ntmps254
  go_wp2
  go_ret
  exact ⟨rfl, rfl⟩
end Go.Proofs.YtngcekegngmedaaGreatDoor

/- errors.As at the program's own error, a number of its own type: nil: false; a number: true, and the target holds it. Go's own text is walked; the entries of reflectlite by their laws. -/

set_option linter.unusedVariables false
set_option linter.unusedSimpArgs false
set_option maxRecDepth 20000
namespace Go.Proofs.YtngcekegngmedaaGreatDoor
open Go.RowKit Go.Extern.Stop Go.Stop Go.Extern

/-- errors.As(nil, target). -/
theorem as_nil (t : Value) (w : World) :
    Calls Tryz.prog 263 #[.nilIface, t] w fun e w' => e = .returned (.bool false) ∧ w = w' := by
  go_enter Tryz.func263, Tryz.ntmps263
  go_wp2
  go_ret
  exact ⟨rfl, rfl⟩

/-! ### The entries. -/
def entValueOf : Array Value → Sem Value := fun args => ReflectliteValue.unpack (args.getD 0 (.tuple #[]))
def entVType : Array Value → Sem Value := ReflectliteValue.methodAny (ReflectliteValue.valueError "reflectlite.Value.Type" 0) (fun t _ _ _ => ReflectliteType.toType t)
def entIsNil : Array Value → Sem Value := ReflectliteValue.method (ReflectliteValue.valueError "reflectlite.Value.IsNil" 0) ReflectliteValue.isNil
def entKind : Array Value → Sem Value := ReflectliteType.abiMethod fun t => do pure (.int .u8 (← Rtype.kind t))
def entElem : Array Value → Sem Value := ReflectliteType.method ReflectliteType.elem
def entImpl : Array Value → Sem Value := ReflectliteType.relation "Implements" ReflectliteType.implements_
def entAssign : Array Value → Sem Value := ReflectliteType.relation "AssignableTo" ReflectliteType.assignableTo
def entVElem : Array Value → Sem Value := ReflectliteValue.method (ReflectliteValue.valueError "reflectlite.Value.Elem" 0) ReflectliteValue.elem
def entSet : Array Value → Sem Value := ReflectliteValue.set

theorem asValueOfT (t : Addr) (w : World) : (entValueOf #[.iface 236 (.pointer (some t))]).run Tryz.prog w = .ok (.agg #[.pointer (some ⟨1, 236, none⟩), .pointer (some ⟨w.heap.size, 0, none⟩), .int .u64 150]) (w.alloc (.cells #[.pointer (some t)] 236)) := by kernel_rfl
theorem asTypeT (a : Addr) (w : World) : (entVType #[.agg #[.pointer (some ⟨1, 236, none⟩), .pointer (some a), .int .u64 150]]).run Tryz.prog w = .ok (.iface 258 (.agg #[.pointer (some ⟨1, 236, none⟩)])) w := by kernel_rfl
theorem asMethodKind (h : Value) (w : World) : (Go.method 403 258 (.agg #[h]) "Kind").run Tryz.prog w = .ok (299, h) w := by kernel_rfl
theorem asKindT (w : World) : (entKind #[.pointer (some ⟨1, 236, none⟩)]).run Tryz.prog w = .ok (.int .u8 22) w := by kernel_rfl
theorem asKindE (w : World) : (entKind #[.pointer (some ⟨1, 226, none⟩)]).run Tryz.prog w = .ok (.int .u8 6) w := by kernel_rfl
theorem rlm (z : Sem Value) (f : TypeId → Addr → Nat → Nat → Sem Value) (v : Value) :
    ReflectliteValue.method z f #[v] = (do match ← ReflectliteValue.parts v with | none => z | some (t, a, fl) => f t a fl (fl % 32)) := rfl
theorem asParts (a : Addr) (w : World) : (ReflectliteValue.parts (.agg #[.pointer (some ⟨1, 236, none⟩), .pointer (some a), .int .u64 150])).run Tryz.prog w = .ok (some (236, a, 150)) w := by kernel_rfl
theorem asIsNil (a p : Addr) (W : World) (ha : W.cell? a = some (.pointer (some p))) : (entIsNil #[.agg #[.pointer (some ⟨1, 236, none⟩), .pointer (some a), .int .u64 150]]).run Tryz.prog W = .ok (.bool false) W := by
  rw [entIsNil, rlm]
  simp only [Sem.run_bind, asParts, Result.andThen]
  simp [ReflectliteValue.isNil, loadVar, isAgg, underlying, Tryz.underlying236, ha, Result.andThen]
theorem asMethodElem (h : Value) (w : World) : (Go.method 403 258 (.agg #[h]) "Elem").run Tryz.prog w = .ok (311, .agg #[h]) w := by kernel_rfl
theorem asMethodImpl (h : Value) (w : World) : (Go.method 403 258 (.agg #[h]) "Implements").run Tryz.prog w = .ok (312, .agg #[h]) w := by kernel_rfl
theorem asMethodAssign (h : Value) (w : World) : (Go.method 403 258 (.agg #[h]) "AssignableTo").run Tryz.prog w = .ok (309, .agg #[h]) w := by kernel_rfl
theorem asElemT (w : World) : (entElem #[.agg #[.pointer (some ⟨1, 236, none⟩)]]).run Tryz.prog w = .ok (.iface 258 (.agg #[.pointer (some ⟨1, 226, none⟩)])) w := by kernel_rfl
theorem asImplE (w : World) : (entImpl #[.agg #[.pointer (some ⟨1, 226, none⟩)], .iface 258 (.agg #[.pointer (some ⟨1, 222, none⟩)])]).run Tryz.prog w = .ok (.bool true) w := by kernel_rfl
theorem asAssignE (w : World) : (entAssign #[.agg #[.pointer (some ⟨1, 226, none⟩)], .iface 258 (.agg #[.pointer (some ⟨1, 226, none⟩)])]).run Tryz.prog w = .ok (.bool true) w := by kernel_rfl
theorem asValueOfE (k : Int) (w : World) : (entValueOf #[.iface 226 (.int .i64 k)]).run Tryz.prog w = .ok (.agg #[.pointer (some ⟨1, 226, none⟩), .pointer (some ⟨w.heap.size, 0, none⟩), .int .u64 134]) (w.alloc (.cells #[.int .i64 k] 226)) := by kernel_rfl
theorem asElemOf (w : World) : (Rtype.elem? 236).run Tryz.prog w = .ok (some 226) w := by kernel_rfl
theorem asMk (p : Addr) (w : World) : (ReflectliteValue.mk 226 p ReflectliteValue.flagAddr).run Tryz.prog w = .ok (.agg #[.pointer (some ⟨1, 226, none⟩), .pointer (some p), .int .u64 390]) w := by kernel_rfl
theorem asVElem (a p : Addr) (W : World) (ha : W.cell? a = some (.pointer (some p))) : (entVElem #[.agg #[.pointer (some ⟨1, 236, none⟩), .pointer (some a), .int .u64 150]]).run Tryz.prog W = .ok (.agg #[.pointer (some ⟨1, 226, none⟩), .pointer (some p), .int .u64 390]) W := by
  rw [entVElem, rlm]
  simp only [Sem.run_bind, asParts, Result.andThen]
  simp [ReflectliteValue.elem, loadVar, isAgg, underlying, Tryz.underlying236, ha, Result.andThen, asElemOf, asMk]
theorem asPartsA (a : Addr) (w : World) : (ReflectliteValue.parts (.agg #[.pointer (some ⟨1, 226, none⟩), .pointer (some a), .int .u64 390])).run Tryz.prog w = .ok (some (226, a, 390)) w := by kernel_rfl
theorem asPartsE (a : Addr) (w : World) : (ReflectliteValue.parts (.agg #[.pointer (some ⟨1, 226, none⟩), .pointer (some a), .int .u64 134])).run Tryz.prog w = .ok (some (226, a, 134)) w := by kernel_rfl
theorem asDirect (w : World) : (Rtype.directlyAssignable 226 226).run Tryz.prog w = .ok true w := by kernel_rfl
theorem rls (v x : Value) : ReflectliteValue.set #[v, x] = (do
    let (some (dst, a, fl), some (src, b, _)) := (← ReflectliteValue.parts v, ← ReflectliteValue.parts x)
      | unsupported (.noEntry "extern/(internal/reflectlite.Value).Set.zeroValue")
    if fl / ReflectliteValue.flagAddr % 2 == 0 then unsupported (.noEntry "extern/(internal/reflectlite.Value).Set.unaddressable")
    let val ← loadVar src b
    if ← Rtype.directlyAssignable dst src then storeVar dst a val
    else if ← Rtype.implements dst src then
      if (← Rtype.kind src) == 20 then
        match val with
        | .nilIface => unsupported (.noEntry "extern/reflectlite: a nil value of one interface type handed on as a value of another")
        | _ => storeVar dst a val
      else storeVar dst a (.iface src val)
    else panicString ("reflectlite.Set: value of type " ++ (← Rtype.spelt src) ++ " is not assignable to type " ++ (← Rtype.spelt dst))
    pure (.tuple #[])) := rfl
theorem asSet (ta b : Addr) (k : Int) (old : Value) (W : World) (hb : W.cell? b = some (.int .i64 k)) (ht : W.cell? ta = some old) (hf : W.frozen? ta = false) :
    (entSet #[.agg #[.pointer (some ⟨1, 226, none⟩), .pointer (some ta), .int .u64 390], .agg #[.pointer (some ⟨1, 226, none⟩), .pointer (some b), .int .u64 134]]).run Tryz.prog W = .ok (.tuple #[]) (W.setCell ta (.int .i64 k)) := by
  rw [entSet, rls]
  simp only [Sem.run_bind, asPartsA, asPartsE, Result.andThen]
  simp [ReflectliteValue.flagAddr, loadVar, isAgg, underlying, Tryz.underlying226, hb, Result.andThen, asDirect, storeVar, Value.cells, storeCells, Addr.add]
  rw [run_store Tryz.prog W ta _ _ (by rfl)]
  simp [ht, hf]

set_option maxHeartbeats 4000000 in
/-- errors.As at a number of the program's own error type, the target a variable of that type. -/
theorem as_hit (k : Int) (t : Addr) (old : Value) (w : World) (hg : w.cell? ⟨0, 0, none⟩ = some (.iface 258 (.agg #[.pointer (some ⟨1, 222, none⟩)]))) (ht0 : w.cell? t = some old) (hf0 : w.frozen? t = false) :
    Calls Tryz.prog 263 #[.iface 226 (.int .i64 k), .iface 236 (.pointer (some t))] w fun ev w' => ev = .returned (.bool true) ∧ ∃ W, Below w.heap.size w W ∧ w' = W.setCell t (.int .i64 k) := by
  have e1 := @run_callFunc_extern Tryz.prog 277 _ entValueOf Tryz.func277 (by kernel_rfl) (by kernel_rfl) (by kernel_rfl) (by kernel_rfl)
  have e2 := @run_callFunc_extern Tryz.prog 278 _ entVType Tryz.func278 (by kernel_rfl) (by kernel_rfl) (by kernel_rfl) (by kernel_rfl)
  have e3 := @run_callFunc_extern Tryz.prog 279 _ entIsNil Tryz.func279 (by kernel_rfl) (by kernel_rfl) (by kernel_rfl) (by kernel_rfl)
  have e4 := @run_callFunc_extern Tryz.prog 299 _ entKind Tryz.func299 (by kernel_rfl) (by kernel_rfl) (by kernel_rfl) (by kernel_rfl)
  have e5 := @run_callFunc_extern Tryz.prog 311 _ entElem Tryz.func311 (by kernel_rfl) (by kernel_rfl) (by kernel_rfl) (by kernel_rfl)
  have e6 := @run_callFunc_extern Tryz.prog 312 _ entImpl Tryz.func312 (by kernel_rfl) (by kernel_rfl) (by kernel_rfl) (by kernel_rfl)
  have e7 := @run_callFunc_extern Tryz.prog 271 _ ReflectliteType.typeOf Tryz.func271 (by kernel_rfl) (by kernel_rfl) (by kernel_rfl) (by kernel_rfl)
  have e8 := @run_callFunc_extern Tryz.prog 309 _ entAssign Tryz.func309 (by kernel_rfl) (by kernel_rfl) (by kernel_rfl) (by kernel_rfl)
  have e9 := @run_callFunc_extern Tryz.prog 283 _ entVElem Tryz.func283 (by kernel_rfl) (by kernel_rfl) (by kernel_rfl) (by kernel_rfl)
  have e10 := @run_callFunc_extern Tryz.prog 284 _ entSet Tryz.func284 (by kernel_rfl) (by kernel_rfl) (by kernel_rfl) (by kernel_rfl)
  have k0 := mis_typeOf
  have k1 := asMethodAssign
  have k2 := asAssignE
  have k3 := asValueOfE
  have k4 := asValueOfT
  have k5 := asTypeT
  have k6 := asMethodKind
  have k7 := asMethodElem
  have k8 := asMethodImpl
  have k9 := asKindT
  have k10 := asKindE
  have k11 := asElemT
  have k12 := asImplE
  have n8 := asIsNil ⟨w.heap.size, 0, none⟩ t ((w.alloc (.cells #[.pointer (some t)] 236)).alloc (.cells #[.pointer (some ⟨1, 236, none⟩), .pointer (some ⟨w.heap.size, 0, none⟩), .int .u64 150] 248)) (by simp)
  have hlt : 0 < w.heap.size := World.block_lt_of_cell? w _ hg
  have hg2 : ((w.alloc (.cells #[.pointer (some t)] 236)).alloc (.cells #[.pointer (some ⟨1, 236, none⟩), .pointer (some ⟨w.heap.size, 0, none⟩), .int .u64 150] 248)).cell? ⟨0, 0, none⟩ = some (.iface 258 (.agg #[.pointer (some ⟨1, 222, none⟩)])) := by
    rw [World.cell?_alloc_lt _ _ ⟨0, 0, none⟩ (by simp <;> omega), World.cell?_alloc_lt _ _ ⟨0, 0, none⟩ hlt]; exact hg
  have htl : t.block < w.heap.size := World.block_lt_of_cell? w _ ht0
  have el := asVElem ⟨w.heap.size, 0, none⟩ t (((w.alloc (.cells #[.pointer (some t)] 236)).alloc (.cells #[.pointer (some ⟨1, 236, none⟩), .pointer (some ⟨w.heap.size, 0, none⟩), .int .u64 150] 248)).alloc (.cells #[.pointer (some ⟨1, 236, none⟩), .pointer (some ⟨w.heap.size, 0, none⟩), .int .u64 150] 248)) (by rw [World.cell?_alloc_lt _ _ ⟨w.heap.size, 0, none⟩ (by simp <;> omega)]; simp)
  have st := asSet t ⟨w.heap.size + 1 + 1 + 1, 0, none⟩ k old ((((w.alloc (.cells #[.pointer (some t)] 236)).alloc (.cells #[.pointer (some ⟨1, 236, none⟩), .pointer (some ⟨w.heap.size, 0, none⟩), .int .u64 150] 248)).alloc (.cells #[.pointer (some ⟨1, 236, none⟩), .pointer (some ⟨w.heap.size, 0, none⟩), .int .u64 150] 248)).alloc (.cells #[.int .i64 k] 226))
    (by rw [World.cell?_alloc_at _ _ _ _ (by simp)]; rfl)
    (by rw [World.cell?_alloc_lt _ _ t (by simp <;> omega), World.cell?_alloc_lt _ _ t (by simp <;> omega), World.cell?_alloc_lt _ _ t (by simp <;> omega), World.cell?_alloc_lt _ _ t htl]; exact ht0)
    (by rw [World.frozen?_alloc_old _ _ t (by simp <;> omega), World.frozen?_alloc_old _ _ t (by simp <;> omega), World.frozen?_alloc_old _ _ t (by simp <;> omega), World.frozen?_alloc_old _ _ t (Nat.ne_of_lt htl)]; exact hf0)
  have fin : Below w.heap.size w ((((w.alloc (.cells #[.pointer (some t)] 236)).alloc (.cells #[.pointer (some ⟨1, 236, none⟩), .pointer (some ⟨w.heap.size, 0, none⟩), .int .u64 150] 248)).alloc (.cells #[.pointer (some ⟨1, 236, none⟩), .pointer (some ⟨w.heap.size, 0, none⟩), .int .u64 150] 248)).alloc (.cells #[.int .i64 k] 226)) := ((((Below.refl w.heap.size w).alloc (Nat.le_refl _) _).alloc (by simp) _).alloc (by simp <;> omega) _).alloc (by simp <;> omega) _
  go_enter Tryz.func263, Tryz.ntmps263
  go_wp2
  refine wp_loop_rounds 1 ?_
  rw [rounds_succ]
  go_wp2
  go_ret
  exact ⟨rfl, _, fin, rfl⟩
end Go.Proofs.YtngcekegngmedaaGreatDoor
