/- Proved: at every argument the program's WaitOf answers as the model's does (laws.FnExactWaitOf answers true at every argument), the arguments stay as they were, and the answer owns its memory. No condition. -/
import Derived.Test.YtohjfjcpkloigaaM16
import Derived.Test.YtohjfjcpkloigaaM17
import Derived.Test.YtohjfjcpkloigaaM12
import Derived.Test.YtohjfjcpkloigaaRows
import Derived.WalkKit
import Derived.WalkSpells
import Derived.ProofKit
import Derived.OpenShut
import Derived.ShutString
import Derived.ChangeOld
import Derived.Below
import Derived.Deep.CutRange

namespace Go.Proofs.Ytohjfjcpkloigaa.exWaitOf
open Go.ChangeShapes Go.WideShapes Go.ChangeAt Go.RowKit
set_option linter.unusedVariables false
set_option linter.unusedSimpArgs false

theorem own : ownKnob Try.prog.godebug = none := by kernel_rfl
theorem laidOut : laidOutB Try.prog = true := by kernel_rfl

set_option maxHeartbeats 2000000 in
theorem walkFnExactWaitOf (a : Option Addr) (T : List Ms) (c : Nat) (i : Int) (q : Int) (w : World) (hd : Tbl a T w) (hiw : (Lit.int .i64 i).wf = true) (hqw : (Lit.int .i64 q).wf = true) :
    Calls Try.prog 9 #[.slice a T.length c, .int .i64 i, .int .i64 q] w fun e w' => e = .returned (.bool true) ∧ Below w.heap.size w w' := by
  have hm := hd.1
  go_enter Try.func9, Try.ntmps9
  by_cases hs : T.length ≤ 1048576
  · skip
    have HS := fun a c w h => specWaitOf a T c i q w h
    have HI := fun a c w h => implWaitOf a T c i q w h
    generalize waitR T i q = vv at HS HI
    obtain ⟨v, u⟩ := vv
    dsimp only at HS HI
    have hu : (!(u == u)) = false := by simp
    have hv : (!(v == v)) = false := by simp
    go_wp2_with fail
    refine (szMsgOk a T.length c w hs).mono ?_
    rintro e w1 ⟨n, hn0, rfl, rfl⟩
    go_wp2_with fail
    refine (toMgs a T c w hd hs).mono ?_
    rintro e w2 ⟨g2, _, rfl, _, d2, b⟩
    replace d2 := d2.tbl hm
    go_wp2_with fail
    refine (HS _ _ w2 d2).mono ?_
    rintro e w3 ⟨rfl, b3⟩
    replace b := Below.then2 b b3
    clear b3 d2 HS
    have hd3 := hd.below b
    go_wp2_with fail
    refine (toMgs a T c w3 hd3 hs).mono ?_
    rintro e w4 ⟨g4, _, rfl, _, d4, b4⟩
    replace d4 := d4.tbl hm
    replace b := Below.then2 b b4
    clear b4 hd3
    go_wp2_with fail
    refine (HI _ _ w4 d4).mono ?_
    rintro e w5 ⟨rfl, b5⟩
    replace b := Below.then2 b b5
    replace d4 := d4.below b5
    clear b5 HI
    have hd5 := hd.below b
    go_wp2_with fail
    refine (toMgs a T c w5 hd5 hs).mono ?_
    rintro e w6 ⟨g6, _, rfl, _, d6, b6⟩
    replace d6 := d6.tbl hm
    replace b := Below.then2 b b6
    replace d4 := d4.below b6
    clear b6 hd5
    go_wp2_with fail
    refine (eqMgs (some ⟨g4, 0, none⟩) (some ⟨g6, 0, none⟩) T T.length T.length w6 d4 d6).mono ?_
    rintro e w7 ⟨rfl, b7⟩
    replace b := Below.then2 b b7
    go_wp2_with fail
    go_ret
    exact ⟨rfl, b⟩
  · skip
    go_wp2_with fail
    refine (szMsgBig a T.length c w hm (by omega)).mono ?_
    rintro e w1 ⟨rfl, rfl⟩
    go_wp2_with fail
    go_ret
    exact ⟨rfl, Below.refl _ _⟩

/-! ### The row's step of FnExactWaitOf. -/
set_option maxRecDepth 100000 in
theorem liftedFnExactWaitOf (os : Os) (started : os.Started) (H : Type) (enc : TypeId × Value → H) :
    ReturnsInHanded {} Try.checked os 9 .any (Rows.fnExactWaitOfSpec.pre6 enc Try.prog Try.f9 Rows.fnExactWaitOfRow.domain false) (Rows.fnExactWaitOfSpec.post enc Try.prog Try.f9 false true false false) := by
  refine returnsInHanded_of_change (C := Try.checked) own started (by kernel_rfl) Try.func9
    (ChangeSpec.witness6 (enc := enc) (C := Try.checked) false ⟨#[], #[.slice none 0 0, .int .i64 0, .int .i64 0], []⟩ 8 (by kernel_rfl) (by kernel_rfl) (by kernel_rfl) (by kernel_rfl)) ?_
  intro W base args ds gs before hval0 hW hcnd _
  have hval : ∀ (j : Nat) t v, Try.f9.params[j]? = some t → args[j]? = some v → Value.okWide Try.prog W .any base t v := hval0
  have hW' := hW
  obtain ⟨p, q, hA0, hV, rfl, hfz, hnd⟩ := hW
  have hA : DataW.TrodAll enc Try.prog W 0 (fun _ => true) true Try.f9.params.toList args.toList ds p := hA0
  rw [Try.params9] at hA hval
  obtain ⟨v0, vs0, d0, ds0, p0, q0, hargs, rfl, rfl, h0, r0⟩ := trodAll_cons hA
  obtain ⟨v1, vs1, d1, ds1, p1, q1, rfl, rfl, rfl, h1, r1⟩ := trodAll_cons r0
  obtain ⟨v2, vs2, d2, ds2, p2, q2, rfl, rfl, rfl, h2, r2⟩ := trodAll_cons r1
  obtain ⟨rfl, rfl, rfl⟩ := trodAll_nil r2
  obtain rfl : args = #[v0, v1, v2] := by cases args; simp_all
  obtain ⟨rfl, rfl⟩ := trodVars_none hV
  have k0 := h0
  have lt0 : ∀ x ∈ p0, x.block < W.heap.size := by obtain ⟨m, hm⟩ := k0; exact DataW.trod_lt m _ _ _ hm
  obtain ⟨a0, len0, cap0, rfl⟩ := okWide_slice Try.underlying45 (hval 0 45 v0 rfl rfl)
  obtain ⟨L0, w0⟩ : ∃ L : List Ms, L.length = len0 ∧ Tbl a0 L W := by
    obtain ⟨fuel, hf⟩ := h0
    obtain ⟨a, L, c, hcs, hn⟩ := msgs_open hf
    simp [Value.cells] at hcs
    obtain ⟨rfl, rfl, rfl⟩ := hcs
    exact ⟨L, rfl, hn⟩
  obtain ⟨rfl, n0⟩ := w0
  obtain ⟨a1, rfl, rfl, rfl, w1⟩ := open_int Try.underlying2 (hval 1 2 v1 rfl rfl) h1
  obtain ⟨a2, rfl, rfl, rfl, w2⟩ := open_int Try.underlying2 (hval 2 2 v2 rfl rfl) h2
  clear hA0 hval0
  simp only [List.append_nil] at hW'
  refine (walkFnExactWaitOf _ _ _ a1 a2 W n0 w1 w2).mono fun e W' ⟨he, bel⟩ => ?_
  subst he
  exact ⟨_, rfl, _, _, _, [], _, [], hW', trodAll_mk1 (shut_bool Try.underlying4 _), (trodAll_cons_mk (Below.trod laidOut (by kernel_rfl) (of_decide_eq_true (by kernel_rfl)) k0 bel lt0) (trodAll_cons_mk (shut_int Try.underlying2 w1) (trodAll_cons_mk (shut_int Try.underlying2 w2) trodAll_mk0))), rfl, bel.frame _, fun h => by cases h⟩

theorem fnExactWaitOf_holds : Rows.FnExactWaitOfSaid :=
  OpenClaim.holds_of_wide 9 Try.f9 rfl rfl rfl rfl rfl rfl rfl ⟨rfl, rfl, rfl, rfl, rfl⟩ rfl rfl rfl rfl rfl (by kernel_rfl) Try.func9 (by kernel_rfl)
    (of_decide_eq_true (by kernel_rfl)) (by unfold Func.isWrapper; first | (rw [if_pos (by decide +kernel)]; kernel_rfl) | (rw [if_neg (by decide +kernel)]; exact ⟨rfl, rfl⟩))
    (fun os started H enc _ => liftedFnExactWaitOf os started H enc)
#print axioms fnExactWaitOf_holds
end Go.Proofs.Ytohjfjcpkloigaa.exWaitOf
