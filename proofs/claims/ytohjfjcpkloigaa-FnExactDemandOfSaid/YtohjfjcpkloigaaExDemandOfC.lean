/- Proved: at every argument the program's DemandOf answers as the model's does (laws.FnExactDemandOf answers true at every argument), the arguments stay as they were, and the answer owns its memory. No condition. -/
import Derived.Test.YtohjfjcpkloigaaM16
import Derived.Test.YtohjfjcpkloigaaM17
import Derived.Test.YtohjfjcpkloigaaM12
import Derived.Test.YtohjfjcpkloigaaM11
import Derived.Test.YtohjfjcpkloigaaM6
import Derived.Test.YtohjfjcpkloigaaRows
import Derived.WalkKit
import Derived.WalkSpells
import Derived.ProofKit
import Derived.OpenShut
import Derived.ShutString
import Derived.ChangeOld
import Derived.Below
import Derived.Deep.CutRange

namespace Go.Proofs.Ytohjfjcpkloigaa.exDemandOf
open Go.ChangeShapes Go.WideShapes Go.ChangeAt Go.RowKit
set_option linter.unusedVariables false
set_option linter.unusedSimpArgs false

theorem own : ownKnob Try.prog.godebug = none := by kernel_rfl
theorem laidOut : laidOutB Try.prog = true := by kernel_rfl

set_option maxHeartbeats 2000000 in
theorem walkFnExactDemandOf (a : Option Addr) (T : List Ms) (c : Nat) (al : Option Addr) (L : List Int) (cl : Nat) (t : Int) (w : World) (hd : Tbl a T w) (hn : Nums al L w) (htw : (Lit.int .i64 t).wf = true) :
    Calls Try.prog 6 #[.slice a T.length c, .slice al L.length cl, .int .i64 t] w fun e w' => e = .returned (.bool true) ∧ Below w.heap.size w w' := by
  have hm := hd.1
  go_enter Try.func6, Try.ntmps6
  have hmL := hn.1
  have hmL2 := hn.1
  unfold maxLen at hmL2
  by_cases hsL : L.length ≤ 1048576
  · skip
    by_cases hs : T.length ≤ 1048576
    · skip
      have HS := fun a al c cl w h1 h2 => specDemandOf a al T L c cl t w h1 h2 (by omega)
      have HI := fun a al c cl w h1 h2 => implDemandOf a al T L c cl t w h1 h2 (by omega)
      generalize demandV T L t = v at HS HI
      have hv : (!(v == v)) = false := by simp
      go_wp2_with fail
      refine (szMsgOk a T.length c w hs).mono ?_
      rintro e w1 ⟨n, hn0, rfl, rfl⟩
      go_wp2_with fail
      refine (toMgs a T c w hd hs).mono ?_
      rintro e w2 ⟨g2, _, rfl, _, d2, b⟩
      replace d2 := d2.tbl hm
      have hn2 := hn.below b
      go_wp2_with fail
      refine (toInts al L cl w2 hn2 hsL).mono ?_
      rintro e w3 ⟨rfl, hw3⟩
      have n3 := hn2.made w2 2
      rw [← hw3] at n3
      have b3 : Below w2.heap.size w2 w3 := by rw [hw3]; exact below_more (Below.refl _ _) _
      replace d2 := d2.below b3
      replace b := Below.then2 b b3
      generalize w2.heap.size = gL at *
      clear hw3 b3 hn2
      go_wp2_with fail
      refine (HS _ _ _ _ w3 d2 n3).mono ?_
      rintro e w4 ⟨rfl, b4⟩
      replace b := Below.then2 b b4
      clear b4 d2 n3 HS
      have hd4 := hd.below b
      go_wp2_with fail
      refine (toMgs a T c w4 hd4 hs).mono ?_
      rintro e w5 ⟨g5, _, rfl, _, d5, b5⟩
      replace d5 := d5.tbl hm
      replace b := Below.then2 b b5
      clear b5 hd4
      have hn5 := hn.below b
      go_wp2_with fail
      refine (toInts al L cl w5 hn5 hsL).mono ?_
      rintro e w6 ⟨rfl, hw6⟩
      have n6 := hn5.made w5 2
      rw [← hw6] at n6
      have b6 : Below w5.heap.size w5 w6 := by rw [hw6]; exact below_more (Below.refl _ _) _
      replace d5 := d5.below b6
      replace b := Below.then2 b b6
      generalize w5.heap.size = gM at *
      clear hw6 b6 hn5
      go_wp2_with fail
      refine (HI _ _ _ _ w6 d5 n6).mono ?_
      rintro e w7 ⟨rfl, b7⟩
      replace b := Below.then2 b b7
      replace d5 := d5.below b7
      replace n6 := n6.below b7
      clear b7 HI
      have hd7 := hd.below b
      go_wp2_with fail
      refine (toMgs a T c w7 hd7 hs).mono ?_
      rintro e w8 ⟨g8, _, rfl, _, d8, b8⟩
      replace d8 := d8.tbl hm
      replace b := Below.then2 b b8
      replace d5 := d5.below b8
      replace n6 := n6.below b8
      clear b8 hd7
      go_wp2_with fail
      refine (eqMgs (some ⟨g5, 0, none⟩) (some ⟨g8, 0, none⟩) T T.length T.length w8 d5 d8).mono ?_
      rintro e w9 ⟨rfl, b9⟩
      replace b := Below.then2 b b9
      replace n6 := n6.below b9
      clear b9 d5 d8
      have hn9 := hn.below b
      go_wp2_with fail
      refine (toInts al L cl w9 hn9 hsL).mono ?_
      rintro e w10 ⟨rfl, hw10⟩
      have n10 := hn9.made w9 2
      rw [← hw10] at n10
      have b10 : Below w9.heap.size w9 w10 := by rw [hw10]; exact below_more (Below.refl _ _) _
      replace n6 := n6.below b10
      replace b := Below.then2 b b10
      generalize w9.heap.size = gN at *
      clear hw10 b10 hn9
      go_wp2_with fail
      refine (eqInts (some ⟨gM, 0, none⟩) (some ⟨gN, 0, none⟩) L L.length L.length w10 n6 n10).mono ?_
      rintro e w11 ⟨rfl, nn, rfl⟩
      replace b := belowN b nn
      go_wp2_with fail
      go_ret
      exact ⟨rfl, b⟩
    · skip
      go_wp2_with fail
      refine (szMsgBig a T.length c w hm (by omega)).mono ?_
      rintro e w1 ⟨rfl, rfl⟩
      go_wp2_with fail
      go_ret
      exact ⟨rfl, Below.refl _ _⟩
  · skip
    go_wp2_with fail
    go_ret
    exact ⟨rfl, Below.refl _ _⟩

/-! ### The row's step of FnExactDemandOf. -/
set_option maxRecDepth 100000 in
theorem liftedFnExactDemandOf (os : Os) (started : os.Started) (H : Type) (enc : TypeId × Value → H) :
    ReturnsInHanded {} Try.checked os 6 .any (Rows.fnExactDemandOfSpec.pre6 enc Try.prog Try.f6 Rows.fnExactDemandOfRow.domain false) (Rows.fnExactDemandOfSpec.post enc Try.prog Try.f6 false true false false) := by
  refine returnsInHanded_of_change (C := Try.checked) own started (by kernel_rfl) Try.func6
    (ChangeSpec.witness6 (enc := enc) (C := Try.checked) false ⟨#[], #[.slice none 0 0, .slice none 0 0, .int .i64 0], []⟩ 8 (by kernel_rfl) (by kernel_rfl) (by kernel_rfl) (by kernel_rfl)) ?_
  intro W base args ds gs before hval0 hW hcnd _
  have hval : ∀ (j : Nat) t v, Try.f6.params[j]? = some t → args[j]? = some v → Value.okWide Try.prog W .any base t v := hval0
  have hW' := hW
  obtain ⟨p, q, hA0, hV, rfl, hfz, hnd⟩ := hW
  have hA : DataW.TrodAll enc Try.prog W 0 (fun _ => true) true Try.f6.params.toList args.toList ds p := hA0
  rw [Try.params6] at hA hval
  obtain ⟨v0, vs0, d0, ds0, p0, q0, hargs, rfl, rfl, h0, r0⟩ := trodAll_cons hA
  obtain ⟨v1, vs1, d1, ds1, p1, q1, rfl, rfl, rfl, h1, r1⟩ := trodAll_cons r0
  obtain ⟨v2, vs2, d2, ds2, p2, q2, rfl, rfl, rfl, h2, r2⟩ := trodAll_cons r1
  obtain ⟨rfl, rfl, rfl⟩ := trodAll_nil r2
  obtain rfl : args = #[v0, v1, v2] := by cases args; simp_all
  obtain ⟨rfl, rfl⟩ := trodVars_none hV
  have k0 := h0
  have lt0 : ∀ x ∈ p0, x.block < W.heap.size := by obtain ⟨m, hm⟩ := k0; exact DataW.trod_lt m _ _ _ hm
  obtain ⟨a0, len0, cap0, rfl⟩ := okWide_slice Try.underlying45 (hval 0 45 v0 rfl rfl)
  obtain ⟨L0, w0⟩ : ∃ L : List Ms, L.length = len0 ∧ Tbl a0 L W := by
    obtain ⟨fuel, hf⟩ := h0
    obtain ⟨a, L, c, hcs, hn⟩ := msgs_open hf
    simp [Value.cells] at hcs
    obtain ⟨rfl, rfl, rfl⟩ := hcs
    exact ⟨L, rfl, hn⟩
  obtain ⟨rfl, n0⟩ := w0
  have k1 := h1
  have lt1 : ∀ x ∈ p1, x.block < W.heap.size := by obtain ⟨m, hm⟩ := k1; exact DataW.trod_lt m _ _ _ hm
  obtain ⟨a1, len1, cap1, rfl⟩ := okWide_slice Try.underlying36 (hval 1 36 v1 rfl rfl)
  obtain ⟨L1, w1⟩ : ∃ L : List Int, L.length = len1 ∧ Nums a1 L W := by
    obtain ⟨fuel, hf⟩ := h1
    obtain ⟨a, L, c, hcs, hn⟩ := nums_open hf
    simp [Value.cells] at hcs
    obtain ⟨rfl, rfl, rfl⟩ := hcs
    exact ⟨L, rfl, hn⟩
  obtain ⟨rfl, n1⟩ := w1
  obtain ⟨a2, rfl, rfl, rfl, w2⟩ := open_int Try.underlying2 (hval 2 2 v2 rfl rfl) h2
  clear hA0 hval0
  simp only [List.append_nil] at hW'
  refine (walkFnExactDemandOf _ _ _ _ _ _ a2 W n0 n1 w2).mono fun e W' ⟨he, bel⟩ => ?_
  subst he
  exact ⟨_, rfl, _, _, _, [], _, [], hW', trodAll_mk1 (shut_bool Try.underlying4 _), (trodAll_cons_mk (Below.trod laidOut (by kernel_rfl) (of_decide_eq_true (by kernel_rfl)) k0 bel lt0) (trodAll_cons_mk (Below.trod laidOut (by kernel_rfl) (of_decide_eq_true (by kernel_rfl)) k1 bel lt1) (trodAll_cons_mk (shut_int Try.underlying2 w2) trodAll_mk0))), rfl, bel.frame _, fun h => by cases h⟩

theorem fnExactDemandOf_holds : Rows.FnExactDemandOfSaid :=
  OpenClaim.holds_of_wide 6 Try.f6 rfl rfl rfl rfl rfl rfl rfl ⟨rfl, rfl, rfl, rfl, rfl⟩ rfl rfl rfl rfl rfl (by kernel_rfl) Try.func6 (by kernel_rfl)
    (of_decide_eq_true (by kernel_rfl)) (by unfold Func.isWrapper; first | (rw [if_pos (by decide +kernel)]; kernel_rfl) | (rw [if_neg (by decide +kernel)]; exact ⟨rfl, rfl⟩))
    (fun os started H enc _ => liftedFnExactDemandOf os started H enc)
#print axioms fnExactDemandOf_holds
end Go.Proofs.Ytohjfjcpkloigaa.exDemandOf
