/- Proved: at every argument the program's BoundOf answers as the model's does (laws.FnExactBoundOf answers true at every argument), the arguments stay as they were, and the answer owns its memory. No condition. -/
import Derived.Test.YtohjfjcpkloigaaM16
import Derived.Test.YtohjfjcpkloigaaM17
import Derived.Test.YtohjfjcpkloigaaM12
import Derived.Test.YtohjfjcpkloigaaRows
import Derived.WalkKit
import Derived.WalkSpells
import Derived.ProofKit
import Derived.OpenShut
import Derived.ShutString
import Derived.ChangeOld
import Derived.Below
import Derived.Deep.CutRange

namespace Go.Proofs.Ytohjfjcpkloigaa.exBoundOf
open Go.ChangeShapes Go.WideShapes Go.ChangeAt Go.RowKit
set_option linter.unusedVariables false
set_option linter.unusedSimpArgs false

theorem own : ownKnob Try.prog.godebug = none := by kernel_rfl
theorem laidOut : laidOutB Try.prog = true := by kernel_rfl

set_option maxHeartbeats 2000000 in
theorem walkFnExactBoundOf (a : Option Addr) (T : List Ms) (c : Nat) (i : Int) (w : World) (hd : Tbl a T w) (hiw : (Lit.int .i64 i).wf = true) :
    Calls Try.prog 10 #[.slice a T.length c, .int .i64 i] w fun e w' => e = .returned (.bool true) ∧ Below w.heap.size w w' := by
  have hm := hd.1
  go_enter Try.func10, Try.ntmps10
  by_cases hs : T.length ≤ 1048576
  · skip
    have HS := fun a c w h => specBoundOf a T c i w h
    have HI := fun a c w h => implBoundOf a T c i w h
    generalize boundR T i = vv at HS HI
    obtain ⟨v, u⟩ := vv
    dsimp only at HS HI
    have hu : (!(u == u)) = false := by simp
    have hv : (!(v == v)) = false := by simp
    go_wp2_with fail
    refine (szMsgOk a T.length c w hs).mono ?_
    rintro e w1 ⟨n, hn0, rfl, rfl⟩
    go_wp2_with fail
    refine (toMgs a T c w hd hs).mono ?_
    rintro e w2 ⟨g2, _, rfl, _, d2, b⟩
    replace d2 := d2.tbl hm
    go_wp2_with fail
    refine (HS _ _ w2 d2).mono ?_
    rintro e w3 ⟨rfl, b3⟩
    replace b := Below.then2 b b3
    clear b3 d2 HS
    have hd3 := hd.below b
    go_wp2_with fail
    refine (toMgs a T c w3 hd3 hs).mono ?_
    rintro e w4 ⟨g4, _, rfl, _, d4, b4⟩
    replace d4 := d4.tbl hm
    replace b := Below.then2 b b4
    clear b4 hd3
    go_wp2_with fail
    refine (HI _ _ w4 d4).mono ?_
    rintro e w5 ⟨rfl, b5⟩
    replace b := Below.then2 b b5
    replace d4 := d4.below b5
    clear b5 HI
    have hd5 := hd.below b
    go_wp2_with fail
    refine (toMgs a T c w5 hd5 hs).mono ?_
    rintro e w6 ⟨g6, _, rfl, _, d6, b6⟩
    replace d6 := d6.tbl hm
    replace b := Below.then2 b b6
    replace d4 := d4.below b6
    clear b6 hd5
    go_wp2_with fail
    refine (eqMgs (some ⟨g4, 0, none⟩) (some ⟨g6, 0, none⟩) T T.length T.length w6 d4 d6).mono ?_
    rintro e w7 ⟨rfl, b7⟩
    replace b := Below.then2 b b7
    go_wp2_with fail
    go_ret
    exact ⟨rfl, b⟩
  · skip
    go_wp2_with fail
    refine (szMsgBig a T.length c w hm (by omega)).mono ?_
    rintro e w1 ⟨rfl, rfl⟩
    go_wp2_with fail
    go_ret
    exact ⟨rfl, Below.refl _ _⟩

/-! ### The row's step of FnExactBoundOf. -/
set_option maxRecDepth 100000 in
theorem liftedFnExactBoundOf (os : Os) (started : os.Started) (H : Type) (enc : TypeId × Value → H) :
    ReturnsInHanded {} Try.checked os 10 .any (Rows.fnExactBoundOfSpec.pre6 enc Try.prog Try.f10 Rows.fnExactBoundOfRow.domain false) (Rows.fnExactBoundOfSpec.post enc Try.prog Try.f10 false true false false) := by
  refine returnsInHanded_of_change (C := Try.checked) own started (by kernel_rfl) Try.func10
    (ChangeSpec.witness6 (enc := enc) (C := Try.checked) false ⟨#[], #[.slice none 0 0, .int .i64 0], []⟩ 8 (by kernel_rfl) (by kernel_rfl) (by kernel_rfl) (by kernel_rfl)) ?_
  intro W base args ds gs before hval0 hW hcnd _
  have hval : ∀ (j : Nat) t v, Try.f10.params[j]? = some t → args[j]? = some v → Value.okWide Try.prog W .any base t v := hval0
  have hW' := hW
  obtain ⟨p, q, hA0, hV, rfl, hfz, hnd⟩ := hW
  have hA : DataW.TrodAll enc Try.prog W 0 (fun _ => true) true Try.f10.params.toList args.toList ds p := hA0
  rw [Try.params10] at hA hval
  obtain ⟨v0, vs0, d0, ds0, p0, q0, hargs, rfl, rfl, h0, r0⟩ := trodAll_cons hA
  obtain ⟨v1, vs1, d1, ds1, p1, q1, rfl, rfl, rfl, h1, r1⟩ := trodAll_cons r0
  obtain ⟨rfl, rfl, rfl⟩ := trodAll_nil r1
  obtain rfl : args = #[v0, v1] := by cases args; simp_all
  obtain ⟨rfl, rfl⟩ := trodVars_none hV
  have k0 := h0
  have lt0 : ∀ x ∈ p0, x.block < W.heap.size := by obtain ⟨m, hm⟩ := k0; exact DataW.trod_lt m _ _ _ hm
  obtain ⟨a0, len0, cap0, rfl⟩ := okWide_slice Try.underlying45 (hval 0 45 v0 rfl rfl)
  obtain ⟨L0, w0⟩ : ∃ L : List Ms, L.length = len0 ∧ Tbl a0 L W := by
    obtain ⟨fuel, hf⟩ := h0
    obtain ⟨a, L, c, hcs, hn⟩ := msgs_open hf
    simp [Value.cells] at hcs
    obtain ⟨rfl, rfl, rfl⟩ := hcs
    exact ⟨L, rfl, hn⟩
  obtain ⟨rfl, n0⟩ := w0
  obtain ⟨a1, rfl, rfl, rfl, w1⟩ := open_int Try.underlying2 (hval 1 2 v1 rfl rfl) h1
  clear hA0 hval0
  simp only [List.append_nil] at hW'
  refine (walkFnExactBoundOf _ _ _ a1 W n0 w1).mono fun e W' ⟨he, bel⟩ => ?_
  subst he
  exact ⟨_, rfl, _, _, _, [], _, [], hW', trodAll_mk1 (shut_bool Try.underlying4 _), (trodAll_cons_mk (Below.trod laidOut (by kernel_rfl) (of_decide_eq_true (by kernel_rfl)) k0 bel lt0) (trodAll_cons_mk (shut_int Try.underlying2 w1) trodAll_mk0)), rfl, bel.frame _, fun h => by cases h⟩

theorem fnExactBoundOf_holds : Rows.FnExactBoundOfSaid :=
  OpenClaim.holds_of_wide 10 Try.f10 rfl rfl rfl rfl rfl rfl rfl ⟨rfl, rfl, rfl, rfl, rfl⟩ rfl rfl rfl rfl rfl (by kernel_rfl) Try.func10 (by kernel_rfl)
    (of_decide_eq_true (by kernel_rfl)) (by unfold Func.isWrapper; first | (rw [if_pos (by decide +kernel)]; kernel_rfl) | (rw [if_neg (by decide +kernel)]; exact ⟨rfl, rfl⟩))
    (fun os started H enc _ => liftedFnExactBoundOf os started H enc)
#print axioms fnExactBoundOf_holds
end Go.Proofs.Ytohjfjcpkloigaa.exBoundOf
