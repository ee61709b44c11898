/- Proved: at every argument the program's BoxOk answers as the model's does (laws.FnExactBoxOk answers true at every argument), and the argument stays as it was. No condition. -/
import Derived.Test.YtcciabalbdnakabBoxOk
import Derived.Test.YtcciabalbdnakabFrsTo
import Derived.Test.YtcciabalbdnakabOpenS
import Derived.Test.YtcciabalbdnakabRows
import Derived.WalkKit
import Derived.WalkSpells
import Derived.ProofKit
import Derived.OpenShut
import Derived.ShutString
import Derived.ChangeOld
import Derived.Below
namespace Go.Proofs.Ytcciabalbdnakab.exBoxOk
open Go.ChangeShapes Go.WideShapes Go.ChangeAt Go.RowKit
set_option linter.unusedVariables false

theorem own : ownKnob Try.prog.godebug = none := by kernel_rfl
theorem laidOut : laidOutB Try.prog = true := by kernel_rfl

set_option maxHeartbeats 4000000 in
theorem walkFnExactBoxOk (a : Option Addr) (L : List Frm) (c : Nat) (w : World) (hd : Frs a L w) :
    Calls Try.prog 8 #[.slice a L.length c] w fun e w' => e = .returned (.bool true) ∧ Below w.heap.size w w' := by
  go_enter Try.func8, Try.ntmps8
  by_cases hs : L.length + room L L.length ≤ 1048576
  · have hl : L.length ≤ 1048576 := by omega
    go_wp2_with fail
    refine (szFramesOk a L c w hd hs).mono ?_
    rintro e w1 ⟨n, hn, rfl, b1⟩
    replace hd := hd.below b1
    go_wp2_with fail
    refine (toFrames a L c w1 hd hs).mono ?_
    rintro e w2 ⟨a2, rfl, d2, k⟩
    replace hd := hd.below k
    replace b1 := Below.then2 b1 k
    clear k
    go_wp2_with fail
    refine (specBoxOk a2 L L.length w2 d2).mono ?_
    rintro e w3 ⟨he, k⟩
    have hbb : ∃ b, boxB L = b := ⟨_, rfl⟩
    obtain ⟨b, hb⟩ := hbb
    rw [hb] at he
    subst he
    replace hb := Lib.hid hb
    replace hd := hd.below k
    replace b1 := Below.then2 b1 k
    clear k d2
    go_wp2_with fail
    refine (toFrames a L c w3 hd hs).mono ?_
    rintro e w4 ⟨a4, rfl, d4, k⟩
    replace hd := hd.below k
    replace b1 := Below.then2 b1 k
    clear k
    go_wp2_with fail
    refine (implBoxOk a4 L L.length w4 d4).mono ?_
    rintro e w5 ⟨he, k⟩
    rw [hb.out] at he
    subst he
    clear hb
    replace hd := hd.below k
    replace d4 := d4.below k
    replace b1 := Below.then2 b1 k
    clear k
    go_wp2_with fail
    refine (toFrames a L c w5 hd hs).mono ?_
    rintro e w6 ⟨a6, rfl, d6, k⟩
    replace d4 := d4.below k
    replace b1 := Below.then2 b1 k
    clear k hd
    go_wp2_with fail
    refine (eqFrames a4 a6 L L.length L.length w6 d4 d6).mono ?_
    rintro e w7 ⟨rfl, k⟩
    replace b1 := Below.then2 b1 k
    clear k d4 d6
    go_wp2_with fail
    go_ret
    exact ⟨rfl, b1⟩
  · go_wp2_with fail
    refine (szFramesBig a L c w hd (by omega)).mono ?_
    rintro e w1 ⟨rfl, b1⟩
    go_wp2_with fail
    go_ret
    exact ⟨rfl, b1⟩

/-! ### The row's step of FnExactBoxOk. -/
set_option maxRecDepth 100000 in
theorem liftedFnExactBoxOk (os : Os) (started : os.Started) (H : Type) (enc : TypeId × Value → H) :
    ReturnsInHanded {} Try.checked os 8 .any (Rows.fnExactBoxOkSpec.pre6 enc Try.prog Try.f8 Rows.fnExactBoxOkRow.domain false) (Rows.fnExactBoxOkSpec.post enc Try.prog Try.f8 false true false false) := by
  refine returnsInHanded_of_change (C := Try.checked) own started (by kernel_rfl) Try.func8
    (ChangeSpec.witness6 (enc := enc) (C := Try.checked) false ⟨#[], #[.slice none 0 0], []⟩ 8 (by kernel_rfl) (by kernel_rfl) (by kernel_rfl) (by kernel_rfl)) ?_
  intro W base args ds gs before hval0 hW hcnd _
  have hval : ∀ (j : Nat) t v, Try.f8.params[j]? = some t → args[j]? = some v → Value.okWide Try.prog W .any base t v := hval0
  have hW' := hW
  obtain ⟨p, q, hA0, hV, rfl, hfz, hnd⟩ := hW
  have hA : DataW.TrodAll enc Try.prog W 0 (fun _ => true) true Try.f8.params.toList args.toList ds p := hA0
  rw [Try.params8] at hA hval
  obtain ⟨v0, vs0, d0, ds0, p0, q0, hargs, rfl, rfl, h0, r0⟩ := trodAll_cons hA
  obtain ⟨rfl, rfl, rfl⟩ := trodAll_nil r0
  obtain rfl : args = #[v0] := by cases args; simp_all
  obtain ⟨rfl, rfl⟩ := trodVars_none hV
  have k0 := h0
  have lt0 : ∀ x ∈ p0, x.block < W.heap.size := by obtain ⟨m, hm⟩ := k0; exact DataW.trod_lt m _ _ _ hm
  obtain ⟨a0, len0, cap0, rfl⟩ := okWide_slice Try.underlying40 (hval 0 40 v0 rfl rfl)
  obtain ⟨L0, w0⟩ : ∃ L : List Frm, L.length = len0 ∧ Frs a0 L W := by
    obtain ⟨fuel, hf⟩ := h0
    obtain ⟨a, L, c, hcs, hn⟩ := frames_open hf
    simp [Value.cells] at hcs
    obtain ⟨rfl, rfl, rfl⟩ := hcs
    exact ⟨L, rfl, hn⟩
  obtain ⟨rfl, n0⟩ := w0
  clear hA0 hval0
  refine (walkFnExactBoxOk _ _ _ W n0).mono fun e W' ⟨he, bel⟩ => ?_
  subst he
  exact ⟨_, rfl, _, _, _, [], _, [], hW', trodAll_mk1 (shut_bool Try.underlying4 _), (trodAll_cons_mk (Below.trod laidOut (by kernel_rfl) (of_decide_eq_true (by kernel_rfl)) k0 bel lt0) trodAll_mk0), rfl, bel.frame _, fun h => by cases h⟩

theorem fnExactBoxOk_holds : Rows.FnExactBoxOkSaid :=
  OpenClaim.holds_of_wide 8 Try.f8 rfl rfl rfl rfl rfl rfl rfl ⟨rfl, rfl, rfl, rfl, rfl⟩ rfl rfl rfl rfl rfl (by kernel_rfl) Try.func8 (by kernel_rfl)
    (of_decide_eq_true (by kernel_rfl)) (by unfold Func.isWrapper; first | (rw [if_pos (by decide +kernel)]; kernel_rfl) | (rw [if_neg (by decide +kernel)]; exact ⟨rfl, rfl⟩))
    (fun os started H enc _ => liftedFnExactBoxOk os started H enc)
#print axioms fnExactBoxOk_holds
end Go.Proofs.Ytcciabalbdnakab.exBoxOk
