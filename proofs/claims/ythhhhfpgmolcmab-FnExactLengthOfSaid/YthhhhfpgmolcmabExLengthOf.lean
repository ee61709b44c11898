/- Proved: at every argument the program's LengthOf answers as the model's does (laws.FnExactLengthOf answers true at every argument), and the arguments stay as they were. No condition. -/
import Derived.Test.YthhhhfpgmolcmabWire
import Derived.Test.YthhhhfpgmolcmabOpenF
import Derived.Test.YthhhhfpgmolcmabEq
import Derived.Deep.RegionWith
import Derived.Deep.CutRange
import Derived.Test.YthhhhfpgmolcmabRows
import Derived.WalkKit
import Derived.WalkSpells
import Derived.ProofKit
import Derived.OpenShut
import Derived.ShutString
import Derived.ChangeOld
import Derived.Below
namespace Go.Proofs.Ythhhhfpgmolcmab.exLengthOf
open Go.ChangeShapes Go.WideShapes Go.ChangeAt Go.RowKit
set_option linter.unusedVariables false

theorem own : ownKnob Try.prog.godebug = none := by kernel_rfl
theorem laidOut : laidOutB Try.prog = true := by kernel_rfl

set_option maxHeartbeats 4000000 in
theorem walkFnExactLengthOf (i0 : Int) (r0 : Bool) (l0 : Int) (a0 : Option Addr) (D0 : List Int) (c0 : Nat) (w : World) (hd0 : Nums a0 D0 w) :
    Calls Try.prog 5 #[frV i0 r0 l0 a0 D0.length c0] w fun e w' => e = .returned (.bool true) ∧ Below w.heap.size w w' := by
  go_enter Try.func5, Try.ntmps5
  have f0 := Four.made (.int .i64 i0) (.bool r0) (.int .i64 l0) (.slice a0 D0.length c0) 32 (Below.refl w.heap.size w)
  have m0 := hd0.1
  by_cases g0 : 1048576 < D0.length
  · have _ := m0
    obtain ⟨⟨f0_0, f0_1, f0_2, f0_3⟩, _⟩ := id f0
    go_wp2_with fail
    clear f0_0 f0_1 f0_2 f0_3
    refine (szFrameBig _ _ _ _ _ _ _ m0 g0).mono ?_
    rintro e w' ⟨rfl, bb⟩
    have ee : Below w.heap.size w w' := (by first | exact bb | exact below_from bb | exact below_from (below_from bb))
    replace f0 := f0.below bb
    obtain ⟨⟨f0_0, f0_1, f0_2, f0_3⟩, _⟩ := id f0
    go_wp2_with fail
    clear f0_0 f0_1 f0_2 f0_3
    go_ret
    exact ⟨rfl, ee⟩
  obtain ⟨⟨f0_0, f0_1, f0_2, f0_3⟩, _⟩ := id f0
  go_wp2_with fail
  clear f0_0 f0_1 f0_2 f0_3
  refine (szFrameOk _ _ _ _ _ _ _ _ (by omega) (by omega)).mono ?_
  rintro e w1 ⟨rfl, bb⟩
  have ee : Below w.heap.size w w1 := (by first | exact bb | exact below_from bb | exact below_from (below_from bb))
  replace hd0 := hd0.below ee
  replace f0 := f0.below bb
  have b1 := ee
  clear ee bb
  obtain ⟨⟨f0_0, f0_1, f0_2, f0_3⟩, _⟩ := id f0
  go_wp2_with fail
  clear f0_0 f0_1 f0_2 f0_3
  refine (toFr _ _ _ _ _ _ _ (by first | exact hd0 | exact hd0.alloc _ | exact (hd0.alloc _).alloc _) (by omega)).mono ?_
  rintro e w2 ⟨pu0, rfl, u0, bb⟩
  have ee : Below w1.heap.size w1 w2 := (by first | exact bb | exact below_from bb | exact below_from (below_from bb))
  replace hd0 := hd0.below ee
  replace f0 := f0.below ee
  replace b1 := Below.then2 b1 ee
  clear ee bb
  obtain ⟨⟨f0_0, f0_1, f0_2, f0_3⟩, _⟩ := id f0
  go_wp2_with fail
  clear f0_0 f0_1 f0_2 f0_3
  refine (specLengthOf _ _ _ _ _ _ _ (by first | exact u0 | exact u0.alloc _ | exact (u0.alloc _).alloc _)).mono ?_
  rintro e w3 ⟨rfl, bb⟩
  have ee : Below w2.heap.size w2 w3 := (by first | exact bb | exact below_from bb | exact below_from (below_from bb))
  replace hd0 := hd0.below ee
  replace u0 := u0.below ee
  replace f0 := f0.below ee
  replace b1 := Below.then2 b1 ee
  clear ee bb
  obtain ⟨⟨f0_0, f0_1, f0_2, f0_3⟩, _⟩ := id f0
  go_wp2_with fail
  clear f0_0 f0_1 f0_2 f0_3
  refine (toFr _ _ _ _ _ _ _ (by first | exact hd0 | exact hd0.alloc _ | exact (hd0.alloc _).alloc _) (by omega)).mono ?_
  rintro e w4 ⟨px0, rfl, x0, bb⟩
  have ee : Below w3.heap.size w3 w4 := (by first | exact bb | exact below_from bb | exact below_from (below_from bb))
  replace hd0 := hd0.below ee
  replace u0 := u0.below ee
  replace f0 := f0.below ee
  replace b1 := Below.then2 b1 ee
  clear ee bb
  have fx0 := Four.made (.int .i64 i0) (.bool r0) (.int .i64 l0) (.slice px0 D0.length D0.length) 26 b1
  obtain ⟨⟨f0_0, f0_1, f0_2, f0_3⟩, _⟩ := id f0
  obtain ⟨⟨fx0_0, fx0_1, fx0_2, fx0_3⟩, _⟩ := id fx0
  go_wp2_with fail
  clear f0_0 f0_1 f0_2 f0_3 fx0_0 fx0_1 fx0_2 fx0_3
  refine (implLengthOf _ _ _ _ _ _ _ (by first | exact x0 | exact x0.alloc _ | exact (x0.alloc _).alloc _)).mono ?_
  rintro e w5 ⟨rfl, bb⟩
  have ee : Below w4.heap.size w4 w5 := (by first | exact bb | exact below_from bb | exact below_from (below_from bb))
  replace hd0 := hd0.below ee
  replace u0 := u0.below ee
  replace x0 := x0.below ee
  replace f0 := f0.below ee
  replace fx0 := fx0.below bb
  replace b1 := Below.then2 b1 ee
  clear ee bb
  obtain ⟨⟨f0_0, f0_1, f0_2, f0_3⟩, _⟩ := id f0
  obtain ⟨⟨fx0_0, fx0_1, fx0_2, fx0_3⟩, _⟩ := id fx0
  go_wp2_with fail
  go_region_held3 (fun w' => w'.cell? ⟨w4.heap.size, 0, none⟩ = some (.int .i64 i0) ∧ w'.cell? ⟨w4.heap.size, 1, none⟩ = some (.bool r0) ∧ w'.cell? ⟨w4.heap.size, 2, none⟩ = some (.int .i64 l0) ∧ w'.cell? ⟨w4.heap.size, 3, none⟩ = some (.slice px0 D0.length D0.length) ∧ w'.cell? ⟨w.heap.size, 0, none⟩ = some (.int .i64 i0) ∧ w'.cell? ⟨w.heap.size, 1, none⟩ = some (.bool r0) ∧ w'.cell? ⟨w.heap.size, 2, none⟩ = some (.int .i64 l0) ∧ w'.cell? ⟨w.heap.size, 3, none⟩ = some (.slice a0 D0.length c0)) (first | assumption | exact ⟨fx0_0, fx0_1, fx0_2, fx0_3, f0_0, f0_1, f0_2, f0_3⟩ | exact keep8b (by assumption) bb | exact keep8b (by assumption) ba)
    (first | (go_at_call_of 16 (Value.slice a0 D0.length c0); refine (toFr i0 r0 l0 a0 D0 c0 _ hd0.drew (by omega)).mono ?_; rintro e wba ⟨py, rfl, uy, ba⟩; have xx := x0.drew.below ba)
           | (go_at_call 17; refine (eqFr _ _ _ _ _ _ _ _ _ xx uy).mono ?_; rintro e wbb ⟨rfl, bb⟩))
  clear f0_0 f0_1 f0_2 f0_3 fx0_0 fx0_1 fx0_2 fx0_3
  go_wp2_with fail
  go_ret
  exact ⟨rfl, Below.then2 b1 (Below.then2 (below_of_drew ba) bb)⟩

/-! ### The row's step of FnExactLengthOf. -/
set_option maxRecDepth 100000 in
theorem liftedFnExactLengthOf (os : Os) (started : os.Started) (H : Type) (enc : TypeId × Value → H) :
    ReturnsInHanded {} Try.checked os 5 .any (Rows.fnExactLengthOfSpec.pre6 enc Try.prog Try.f5 Rows.fnExactLengthOfRow.domain false) (Rows.fnExactLengthOfSpec.post enc Try.prog Try.f5 false true false false) := by
  refine returnsInHanded_of_change (C := Try.checked) own started (by kernel_rfl) Try.func5
    (ChangeSpec.witness6 (enc := enc) (C := Try.checked) false ⟨#[], #[.agg #[.int .i64 0, .bool false, .int .i64 0, .slice none 0 0]], []⟩ 8 (by kernel_rfl) (by kernel_rfl) (by kernel_rfl) (by kernel_rfl)) ?_
  intro W base args ds gs before hval0 hW hcnd _
  have hval : ∀ (j : Nat) t v, Try.f5.params[j]? = some t → args[j]? = some v → Value.okWide Try.prog W .any base t v := hval0
  have hW' := hW
  obtain ⟨p, q, hA0, hV, rfl, hfz, hnd⟩ := hW
  have hA : DataW.TrodAll enc Try.prog W 0 (fun _ => true) true Try.f5.params.toList args.toList ds p := hA0
  rw [Try.params5] at hA hval
  obtain ⟨v0, vs0, d0, ds0, p0, q0, hargs, rfl, rfl, h0, r0⟩ := trodAll_cons hA
  obtain ⟨rfl, rfl, rfl⟩ := trodAll_nil r0
  obtain rfl : args = #[v0] := by cases args; simp_all
  obtain ⟨rfl, rfl⟩ := trodVars_none hV
  have k0 := h0
  have lt0 : ∀ x ∈ p0, x.block < W.heap.size := by obtain ⟨m, hm⟩ := k0; exact DataW.trod_lt m _ _ _ hm
  obtain ⟨i0, r0, l0, a0, D0, c0, rfl, n0, -, -⟩ := frame_open (hval 0 32 v0 rfl rfl) h0
  clear hA0 hval0
  refine (walkFnExactLengthOf _ _ _ _ _ _ W n0).mono fun e W' ⟨he, bel⟩ => ?_
  subst he
  exact ⟨_, rfl, _, _, _, [], _, [], hW', trodAll_mk1 (shut_bool Try.underlying4 _), (trodAll_cons_mk (Below.trod laidOut (by kernel_rfl) (of_decide_eq_true (by kernel_rfl)) k0 bel lt0) trodAll_mk0), rfl, bel.frame _, fun h => by cases h⟩

theorem fnExactLengthOf_holds : Rows.FnExactLengthOfSaid :=
  OpenClaim.holds_of_wide 5 Try.f5 rfl rfl rfl rfl rfl rfl rfl ⟨rfl, rfl, rfl, rfl, rfl⟩ rfl rfl rfl rfl rfl (by kernel_rfl) Try.func5 (by kernel_rfl)
    (of_decide_eq_true (by kernel_rfl)) (by unfold Func.isWrapper; first | (rw [if_pos (by decide +kernel)]; kernel_rfl) | (rw [if_neg (by decide +kernel)]; exact ⟨rfl, rfl⟩))
    (fun os started H enc _ => liftedFnExactLengthOf os started H enc)
#print axioms fnExactLengthOf_holds
end Go.Proofs.Ythhhhfpgmolcmab.exLengthOf
