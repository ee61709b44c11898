/- Proved: at every argument the program's StateOf answers as the model's does (laws.FnExactStateOf answers true at every argument), and the arguments stay as they were. No condition. -/
import Derived.Test.YtcnikbpedcdojaaCnt
import Derived.Test.YtcnikbpedcdojaaRows
import Derived.WalkKit
import Derived.WalkSpells
import Derived.Deep.CutRange
import Derived.ShutString
namespace Go.Proofs.Ytcnikbpedcdojaa.exStateOf
open Go.ChangeShapes Go.WideShapes Go.ChangeAt Go.RowKit
set_option linter.unusedVariables false

theorem own : ownKnob Try.prog.godebug = none := by kernel_rfl
theorem laidOut : laidOutB Try.prog = true := by kernel_rfl

/-- The argument's block, and what was there when the call began. -/
def Arg (b : Nat) (s g : Int) (w0 w : World) : Prop := w.cell? ⟨b, 0, none⟩ = some (.int .i64 s) ∧ w.cell? ⟨b, 1, none⟩ = some (.int .i64 g) ∧ Below w0.heap.size w0 w
theorem Arg.below {b : Nat} {s g : Int} {w0 w w' : World} (h : Arg b s g w0 w) (k : Below w.heap.size w w') : Arg b s g w0 w' := by
  obtain ⟨h0, h1, hb⟩ := h
  have hg : b < w.heap.size := World.block_lt_of_cell? w _ h0
  exact ⟨(k.cell hg).trans h0, (k.cell hg).trans h1, Below.then2 hb k⟩
theorem Arg.made (s g : Int) (w : World) (T : TypeId) : Arg w.heap.size s g w (w.alloc (.cells #[.int .i64 s, .int .i64 g] T)) := by
  refine ⟨?_, ?_, (Below.refl _ _).alloc (Nat.le_refl _) _⟩ <;> rw [World.cell?_alloc_at _ _ _ _ rfl] <;> rfl

theorem walkFnExactStateOf (s g : Int) (w : World) :
    Calls Try.prog 5 #[cV s g] w fun e w' => e = .returned (.bool true) ∧ Below w.heap.size w w' := by
  have A := Arg.made s g w 34
  go_enter Try.func5, Try.ntmps5
  go_upto_region 1 with fail
  generalize w.alloc (.cells #[.int .i64 s, .int .i64 g] 34) = W at A ⊢
  obtain ⟨c0, c1, _⟩ := id A
  go_wp2_with fail
  clear c0 c1
  refine (toCnt _ _ _).mono ?_
  rintro e w' ⟨rfl, b⟩
  replace A := A.below b
  clear b
  go_wp2_with fail
  refine (specStateOf _ _ _).mono ?_
  rintro e w' ⟨rfl, b⟩
  replace A := A.below b
  clear b
  obtain ⟨c0, c1, _⟩ := id A
  go_wp2_with fail
  clear c0 c1
  refine (toCnt _ _ _).mono ?_
  rintro e w' ⟨rfl, b⟩
  replace A := A.below b
  clear b
  go_wp2_with fail
  refine (implStateOf _ _ _).mono ?_
  rintro e w' ⟨rfl, b⟩
  replace A := A.below b
  clear b
  go_wp2_with fail
  go_ret
  exact ⟨rfl, A.2.2⟩

/-! ### The row's step of FnExactStateOf. -/
set_option maxRecDepth 100000 in
theorem liftedFnExactStateOf (os : Os) (started : os.Started) (H : Type) (enc : TypeId × Value → H) :
    ReturnsInHanded {} Try.checked os 5 .any (Rows.fnExactStateOfSpec.pre6 enc Try.prog Try.f5 Rows.fnExactStateOfRow.domain false) (Rows.fnExactStateOfSpec.post enc Try.prog Try.f5 false true false false) := by
  refine returnsInHanded_of_change (C := Try.checked) own started (by kernel_rfl) Try.func5
    (ChangeSpec.witness6 (enc := enc) (C := Try.checked) false ⟨#[], #[.agg #[.int .i64 0, .int .i64 0]], []⟩ 8 (by kernel_rfl) (by kernel_rfl) (by kernel_rfl) (by kernel_rfl)) ?_
  intro W base args ds gs before hval0 hW hcnd _
  have hval : ∀ (j : Nat) t v, Try.f5.params[j]? = some t → args[j]? = some v → Value.okWide Try.prog W .any base t v := hval0
  have hW' := hW
  obtain ⟨p, q, hA0, hV, rfl, hfz, hnd⟩ := hW
  have hA : DataW.TrodAll enc Try.prog W 0 (fun _ => true) true Try.f5.params.toList args.toList ds p := hA0
  rw [Try.params5] at hA hval
  obtain ⟨v0, vs0, d0, ds0, p0, q0, hargs, rfl, rfl, h0, r0⟩ := trodAll_cons hA
  obtain ⟨rfl, rfl, rfl⟩ := trodAll_nil r0
  obtain rfl : args = #[v0] := by cases args; simp_all
  obtain ⟨rfl, rfl⟩ := trodVars_none hV
  have k0 := h0
  have lt0 : ∀ x ∈ p0, x.block < W.heap.size := by obtain ⟨m, hm⟩ := k0; exact DataW.trod_lt m _ _ _ hm
  obtain ⟨s0, g0, rfl⟩ := count_open (hval 0 34 v0 rfl rfl) h0
  clear hA0 hval0
  refine (walkFnExactStateOf _ _ W).mono fun e W' ⟨he, bel⟩ => ?_
  subst he
  exact ⟨_, rfl, _, _, _, [], _, [], hW', trodAll_mk1 (shut_bool Try.underlying4 _), (trodAll_cons_mk (Below.trod laidOut (by kernel_rfl) (of_decide_eq_true (by kernel_rfl)) k0 bel lt0) trodAll_mk0), rfl, bel.frame _, fun h => by cases h⟩

theorem fnExactStateOf_holds : Rows.FnExactStateOfSaid :=
  OpenClaim.holds_of_wide 5 Try.f5 rfl rfl rfl rfl rfl rfl rfl ⟨rfl, rfl, rfl, rfl, rfl⟩ rfl rfl rfl rfl rfl (by kernel_rfl) Try.func5 (by kernel_rfl)
    (of_decide_eq_true (by kernel_rfl)) (by unfold Func.isWrapper; first | (rw [if_pos (by decide +kernel)]; kernel_rfl) | (rw [if_neg (by decide +kernel)]; exact ⟨rfl, rfl⟩))
    (fun os started H enc _ => liftedFnExactStateOf os started H enc)
#print axioms fnExactStateOf_holds
end Go.Proofs.Ytcnikbpedcdojaa.exStateOf
