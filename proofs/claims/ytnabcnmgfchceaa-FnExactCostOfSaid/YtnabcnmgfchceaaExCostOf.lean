/- Proved: at every argument the program's CostOf answers as the model's does (laws.FnExactCostOf answers true at every argument), the arguments stay as they were, and the answer owns its memory. No condition. -/
import Derived.Test.YtnabcnmgfchceaaMapI
import Derived.Test.YtnabcnmgfchceaaMsgX
import Derived.Test.YtnabcnmgfchceaaRows
import Derived.WalkKit
import Derived.WalkSpells
import Derived.ProofKit
import Derived.OpenShut
import Derived.ShutString
import Derived.ChangeOld
import Derived.Below
import Derived.Deep.CutRange
namespace Go.Proofs.Ytnabcnmgfchceaa.exCostOf
open Go.ChangeShapes Go.WideShapes Go.ChangeAt Go.RowKit
set_option linter.unusedVariables false
set_option linter.unusedSimpArgs false

theorem own : ownKnob Try.prog.godebug = none := by kernel_rfl
theorem laidOut : laidOutB Try.prog = true := by kernel_rfl

theorem walkFnExactCostOf (m : Ms) (w : World) (hw : (Lit.int .i64 m.sz).wf = true) :
    Calls Try.prog 6 #[mgV m] w fun e w' => e = .returned (.bool true) ∧ Below w.heap.size w w' := by
  have HS := fun w => specCostOf m w hw
  have HI := fun w => implCostOf m w hw
  have HT := fun w => toMg m w
  have bb := (Below.refl w.heap.size w).alloc (Nat.le_refl _) (.cells (mgC m) 44)
  have hB := heap_alloc_new w (.cells (mgC m) 44)
  have hlt : w.heap.size < (w.alloc (.cells (mgC m) 44)).heap.size := by simp
  generalize costV m = v at HS HI
  obtain ⟨id, sz, pe, ji, de, no⟩ := m
  dsimp only at *
  have hv : (!(v == v)) = false := by simp
  go_enter Try.func6, Try.ntmps6
  go_wp2_with fail
  refine (HT _).mono ?_
  rintro e w1 ⟨rfl, b⟩
  replace hB := (b.block _ hlt).trans hB
  replace bb := Below.then2 bb b
  replace hlt := Nat.lt_of_lt_of_le hlt b.size
  clear b
  go_wp2_with fail
  refine (HS _).mono ?_
  rintro e w2 ⟨rfl, b⟩
  replace hB := (b.block _ hlt).trans hB
  replace bb := Below.then2 bb b
  replace hlt := Nat.lt_of_lt_of_le hlt b.size
  clear b
  have c0 := cell_of_row w2 _ 0 _ _ _ hB
  have c1 := cell_of_row w2 _ 1 _ _ _ hB
  have c2 := cell_of_row w2 _ 2 _ _ _ hB
  have c3 := cell_of_row w2 _ 3 _ _ _ hB
  have c4 := cell_of_row w2 _ 4 _ _ _ hB
  have c5 := cell_of_row w2 _ 5 _ _ _ hB
  simp at c0 c1 c2 c3 c4 c5
  go_wp2_with fail
  refine (HT _).mono ?_
  rintro e w3 ⟨rfl, b⟩
  replace bb := Below.then2 bb b
  clear b
  go_wp2_with fail
  refine (HI _).mono ?_
  rintro e w4 ⟨rfl, b⟩
  replace bb := Below.then2 bb b
  clear b HT HS HI
  go_wp2_with fail
  go_ret
  exact ⟨rfl, bb⟩

/-! ### The row's step of FnExactCostOf. -/
set_option maxRecDepth 100000 in
theorem liftedFnExactCostOf (os : Os) (started : os.Started) (H : Type) (enc : TypeId × Value → H) :
    ReturnsInHanded {} Try.checked os 6 .any (Rows.fnExactCostOfSpec.pre6 enc Try.prog Try.f6 Rows.fnExactCostOfRow.domain false) (Rows.fnExactCostOfSpec.post enc Try.prog Try.f6 false true false false) := by
  refine returnsInHanded_of_change (C := Try.checked) own started (by kernel_rfl) Try.func6
    (ChangeSpec.witness6 (enc := enc) (C := Try.checked) false ⟨#[], #[.agg #[.int .i64 0, .int .i64 0, .int .i64 0, .int .i64 0, .int .i64 0, .int .i64 0]], []⟩ 8 (by kernel_rfl) (by kernel_rfl) (by kernel_rfl) (by kernel_rfl)) ?_
  intro W base args ds gs before hval0 hW hcnd _
  have hval : ∀ (j : Nat) t v, Try.f6.params[j]? = some t → args[j]? = some v → Value.okWide Try.prog W .any base t v := hval0
  have hW' := hW
  obtain ⟨p, q, hA0, hV, rfl, hfz, hnd⟩ := hW
  have hA : DataW.TrodAll enc Try.prog W 0 (fun _ => true) true Try.f6.params.toList args.toList ds p := hA0
  rw [Try.params6] at hA hval
  obtain ⟨v0, vs0, d0, ds0, p0, q0, hargs, rfl, rfl, h0, r0⟩ := trodAll_cons hA
  obtain ⟨rfl, rfl, rfl⟩ := trodAll_nil r0
  obtain rfl : args = #[v0] := by cases args; simp_all
  obtain ⟨rfl, rfl⟩ := trodVars_none hV
  have k0 := h0
  have lt0 : ∀ x ∈ p0, x.block < W.heap.size := by obtain ⟨m, hm⟩ := k0; exact DataW.trod_lt m _ _ _ hm
  obtain ⟨m0, rfl, n0⟩ := msg_open (hval 0 44 v0 rfl rfl) h0
  clear hA0 hval0
  refine (walkFnExactCostOf _ W n0).mono fun e W' ⟨he, bel⟩ => ?_
  subst he
  exact ⟨_, rfl, _, _, _, [], _, [], hW', trodAll_mk1 (shut_bool Try.underlying4 _), (trodAll_cons_mk (Below.trod laidOut (by kernel_rfl) (of_decide_eq_true (by kernel_rfl)) k0 bel lt0) trodAll_mk0), rfl, bel.frame _, fun h => by cases h⟩

theorem fnExactCostOf_holds : Rows.FnExactCostOfSaid :=
  OpenClaim.holds_of_wide 6 Try.f6 rfl rfl rfl rfl rfl rfl rfl ⟨rfl, rfl, rfl, rfl, rfl⟩ rfl rfl rfl rfl rfl (by kernel_rfl) Try.func6 (by kernel_rfl)
    (of_decide_eq_true (by kernel_rfl)) (by unfold Func.isWrapper; first | (rw [if_pos (by decide +kernel)]; kernel_rfl) | (rw [if_neg (by decide +kernel)]; exact ⟨rfl, rfl⟩))
    (fun os started H enc _ => liftedFnExactCostOf os started H enc)
#print axioms fnExactCostOf_holds
end Go.Proofs.Ytnabcnmgfchceaa.exCostOf
