/- Proved: at every text of bytes: of the table drawn out of it the busy time of a message is what is asked for in it, and its first wait too; at other drawn tables BusyOf, WaitOf, BlockOf and CountOf answer as the model does (laws.FnFixed answers true). No condition. -/
import Derived.Test.YtohjfjcpkloigaaM25
import Derived.Test.YtohjfjcpkloigaaM12
import Derived.Test.YtohjfjcpkloigaaM16
import Derived.Test.YtohjfjcpkloigaaM17
import Derived.Test.YtohjfjcpkloigaaRows
import Derived.WalkKit
import Derived.WalkSpells
import Derived.ProofKit
import Derived.OpenShut
import Derived.ShutString
import Derived.ChangeOld
import Derived.Below
import Derived.Deep.CutRange

set_option linter.unusedVariables false
set_option linter.unusedSimpArgs false
namespace Go.Proofs.Ytohjfjcpkloigaa.lawFixed
open Go.ChangeShapes Go.WideShapes Go.ChangeAt Go.RowKit
open Go.ChangeMaps (open_string shut_string)

theorem own : ownKnob Try.prog.godebug = none := by kernel_rfl

set_option maxHeartbeats 16000000 in
set_option maxRecDepth 20000 in
theorem walkFnFixed (a : Option Addr) (len cap : Nat) (w : World) (cd : Code w.heap.size a len w) :
    Calls Try.prog 4 #[.slice a len cap] w fun e w' => e = .returned (.bool true) ∧ Below w.heap.size w w' := by
  have hlm := cd.1
  go_enter Try.func4, Try.ntmps4
  go_wp2_with fail
  refine (bigAny a len cap w hlm).mono ?_
  rintro e w1 ⟨rfl, rfl⟩
  by_cases hbig : (4096 : Int) < (len : Int)
  · go_wp2_with fail
    go_ret
    exact ⟨rfl, Below.refl _ _⟩
  go_wp2_with fail
  refine (rollAny (B := w.heap.size) 15 _ cd (Nat.le_refl _)).mono ?_
  rintro e w1 ⟨rfl, g1, s1⟩
  have b1 := below_new g1
  clear g1 hbig
  go_wp2_with fail
  refine (planT (B := w.heap.size) (a := a) (len := len) (cap := cap) w1 s1).mono ?_
  rintro e w2 ⟨T, gT, cT, rfl, hP, F⟩
  have hT5 := hP.len
  go_wp2_with fail
  refine (throwAny (B := w.heap.size) (a := a) (len := len) (cap := cap) (T.length : Int) _ (by omega) (by omega) F.st).mono ?_
  rintro e w3 ⟨x, x0, x1, rfl, k1, t1⟩
  replace F := F.thrown k1 t1
  clear k1 t1 s1
  have b := b1.grown F.grown b1.size (fun q e => by cases e; exact Nat.le_refl _)
  have hT := F.own.tbl (by omega)
  clear F b1
  obtain ⟨i, rfl⟩ := Int.eq_ofNat_of_zero_le x0
  have hil : i < T.length := by omega
  have h0 := hP.code
  have hM : hasM T (i : Int) = true := hasM_iff.2 ⟨h0, by omega, by omega⟩
  have hbR : busyR T (i : Int) = someR (busyV T i) := by unfold busyR; rw [if_pos hM, Int.toNat_natCast]
  have hwR : waitR T (i : Int) 0 = someR (waitV T i 0) := by unfold waitR; rw [if_pos hM, if_pos (by omega), Int.toNat_natCast]
  have hfb := fun (t : Int) (h : busyV T i = some t) => busy_fixed hM (t := t) (by rw [Int.toNat_natCast]; exact h)
  have hfw := fun (t : Int) (h : waitV T i 0 = some t) => wait_fixed hM (w := t) (by rw [Int.toNat_natCast]; exact h)
  have hTo := (codeT_iff.1 h0).2.1
  have hbb := fun (t : Int) (h : busyV T i = some t) => (busyV_some hTo hil h)
  have hwb := fun (t : Int) (h : waitV T i 0 = some t) => (waitV_some hTo hil (Int.le_refl 0) h)
  have hcc := costV_ok (allM_at hTo hil)
  have hbk : 0 ≤ blockV T (i : Int) ∧ blockV T (i : Int) ≤ 135 := by unfold blockV; rw [if_pos hM, Int.toNat_natCast]; exact blockN_bd T i T.length
  have hDl := highV_len T (i : Int)
  have HH := Lib.hid (fun w h => specHigherOf (some ⟨gT, 0, none⟩) T cT (i : Int) w h)
  have HB := Lib.hid (fun w h => implBusyOf (some ⟨gT, 0, none⟩) T cT (i : Int) w h)
  have HW := Lib.hid (fun w h => implWaitOf (some ⟨gT, 0, none⟩) T cT (i : Int) 0 w h)
  have HK := Lib.hid (fun w h => implBlockOf (some ⟨gT, 0, none⟩) T cT (i : Int) w h)
  have HD := Lib.hid (fun al L cl t w h1 h2 (hL : L.length ≤ 1500000) => implDemandOf (some ⟨gT, 0, none⟩) al T L cT cl t w h1 h2 hL)
  rw [hbR] at HB
  rw [hwR] at HW
  replace hfb := Lib.hid hfb
  replace hfw := Lib.hid hfw
  replace hbb := Lib.hid hbb
  replace hwb := Lib.hid hwb
  generalize busyV T i = bV at *
  generalize waitV T i 0 = wV at *
  generalize blockV T (i : Int) = bk at *
  generalize highV T (i : Int) = D at *
  generalize costV (nthTb T i) = cc at *
  clear hM hbR hwR h0 hTo hP
  go_wp2_with fail
  refine (HH.out w3 hT).mono ?_
  rintro e w4 ⟨v, rfl, O, b4⟩
  obtain ⟨ah, ch, rfl, hN⟩ := O.nums
  replace b := Below.then2 b b4
  replace hT := hT.below b4
  clear O b4 HH
  go_wp2_with fail
  refine (HB.out w4 hT).mono ?_
  rintro e w5 ⟨rfl, b5⟩
  replace b := Below.then2 b b5
  replace hT := hT.below b5
  replace hN := hN.below b5
  clear b5 HB
  go_wp2_with fail
  refine (HW.out w5 hT).mono ?_
  rintro e w6 ⟨rfl, b6⟩
  replace b := Below.then2 b b6
  replace hT := hT.below b6
  replace hN := hN.below b6
  clear b6 HW
  have cd6 := cd.below b (Nat.le_refl _)
  go_wp2_with fail
  refine (drawBusyOf (B := w.heap.size) w6 cd6 b.size).mono ?_
  rintro e w7 ⟨U, u1, c1, k, rfl, hU, -, b7⟩
  replace b := Below.then2 b b7
  replace hT := hT.below b7
  replace hN := hN.below b7
  clear b7 cd6
  have HB1 := Lib.hid (fun w h => implBusyOf u1 U c1 k w h)
  have HB2 := Lib.hid (fun w h => specBusyOf u1 U c1 k w h)
  have HK1 := Lib.hid (fun w h => implBlockOf u1 U c1 k w h)
  have HK2 := Lib.hid (fun w h => specBlockOf u1 U c1 k w h)
  have HC1 := Lib.hid (fun w h => implCountOf u1 U c1 k w h)
  have HC2 := Lib.hid (fun w h => specCountOf u1 U c1 k w h)
  generalize busyR U k = r1 at HB1 HB2
  generalize blockV U k = r2 at HK1 HK2
  generalize countR U k = r3 at HC1 HC2
  obtain ⟨r1, r0⟩ := r1
  dsimp only at HB1 HB2
  go_wp2_with fail
  refine (HB1.out w7 hU).mono ?_
  rintro e w8 ⟨rfl, b8⟩
  replace b := Below.then2 b b8
  replace hT := hT.below b8
  replace hN := hN.below b8
  replace hU := hU.below b8
  clear b8
  go_wp2_with fail
  refine (HB2.out w8 hU).mono ?_
  rintro e w9 ⟨rfl, b9⟩
  replace b := Below.then2 b b9
  replace hT := hT.below b9
  replace hN := hN.below b9
  replace hU := hU.below b9
  clear b9 HB1 HB2
  have cd9 := cd.below b (Nat.le_refl _)
  go_wp2_with fail
  refine (drawWaitOf (B := w.heap.size) w9 cd9 b.size).mono ?_
  rintro e w10 ⟨V, v1, c2, j, q, rfl, hV, -, b10⟩
  replace b := Below.then2 b b10
  replace hT := hT.below b10
  replace hN := hN.below b10
  replace hU := hU.below b10
  clear b10 cd9
  have HW1 := Lib.hid (fun w h => implWaitOf v1 V c2 j q w h)
  have HW2 := Lib.hid (fun w h => specWaitOf v1 V c2 j q w h)
  generalize waitR V j q = r4 at HW1 HW2
  obtain ⟨r4, r5⟩ := r4
  dsimp only at HW1 HW2
  go_wp2_with fail
  refine (HW1.out w10 hV).mono ?_
  rintro e w11 ⟨rfl, b11⟩
  replace b := Below.then2 b b11
  replace hT := hT.below b11
  replace hN := hN.below b11
  replace hU := hU.below b11
  replace hV := hV.below b11
  clear b11
  go_wp2_with fail
  refine (HW2.out w11 hV).mono ?_
  rintro e w12 ⟨rfl, b12⟩
  replace b := Below.then2 b b12
  replace hT := hT.below b12
  replace hN := hN.below b12
  replace hU := hU.below b12
  clear b12 HW1 HW2 hV
  have hv0 : (!(r0 == r0)) = false := by simp
  have hv1 : (!(r1 == r1)) = false := by simp
  have hv2 : (!(r2 == r2)) = false := by simp
  have hv3 : (!(r3 == r3)) = false := by simp
  have hv4 : (!(r4 == r4)) = false := by simp
  have hv5 : (!(r5 == r5)) = false := by simp
  go_wp2_with fail
  refine (HK1.out w12 hU).mono ?_
  rintro e w13 ⟨rfl, b13⟩
  replace b := Below.then2 b b13
  replace hT := hT.below b13
  replace hN := hN.below b13
  replace hU := hU.below b13
  clear b13
  go_wp2_with fail
  refine (HK2.out w13 hU).mono ?_
  rintro e w14 ⟨rfl, b14⟩
  replace b := Below.then2 b b14
  replace hT := hT.below b14
  replace hN := hN.below b14
  replace hU := hU.below b14
  clear b14 HK1 HK2
  go_wp2_with fail
  refine (HC1.out w14 hU).mono ?_
  rintro e w15 ⟨rfl, b15⟩
  replace b := Below.then2 b b15
  replace hT := hT.below b15
  replace hN := hN.below b15
  replace hU := hU.below b15
  clear b15
  go_wp2_with fail
  refine (HC2.out w15 hU).mono ?_
  rintro e w16 ⟨rfl, b16⟩
  replace b := Below.then2 b b16
  replace hT := hT.below b16
  replace hN := hN.below b16
  clear b16 HC1 HC2 hU
  have hiw : (Lit.int .i64 (i : Int)).wf = true := Go.WalkArith.wf_i64 ⟨by omega, by omega⟩
  go_upto_region 17 with fail
  cases hbV : bV with
  | none =>
    clear hfb hbb hbV
    simp only [show someR none = (0, false) from rfl]
    go_upto_region 19 with fail
    cases hw : wV with
    | none =>
      clear hfw hwb hw
      simp only [show someR none = (0, false) from rfl]
      go_wp2_with fail
      go_ret
      exact ⟨rfl, b⟩
    | some t =>
      have h1 := hfw.out t hw
      have h2 := hwb.out t hw
      have hL : D.length ≤ 1500000 := by omega
      have HD2 := Lib.hid (fun w h1 h2 => HD.out ah D ch (t + 1) w h1 h2 hL)
      generalize hdd : demandV T D (t + 1) = dd at *
      obtain ⟨h1, h3⟩ := h1
      replace h2 := h2.2.2
      have ht : 0 ≤ t ∧ t ≤ 99999 := ⟨by omega, h2.1⟩
      have wr1 : IntKind.i64.wrap (t + 1) = t + 1 := by rw [IntKind.wrap_i64]; omega
      have wr2 : IntKind.i64.wrap (bk + dd) = t := by rw [IntKind.wrap_i64]; omega
      have hvt : (t == t) = true := by simp
      have hge : decide (bk ≤ t) = true := decide_eq_true h3
      clear hfw hwb hw h1 h2 hdd HD hL
      simp only [show someR (some t) = (t, true) from rfl]
      go_wp2_with fail
      refine (HK.out _ hT).mono ?_
      rintro e w17 ⟨rfl, b17⟩
      replace b := Below.then2 b b17
      replace hT := hT.below b17
      replace hN := hN.below b17
      clear b17
      go_wp2_with fail
      refine (HD2.out _ hT hN).mono ?_
      rintro e w18 ⟨rfl, b18⟩
      replace b := Below.then2 b b18
      replace hT := hT.below b18
      clear b18 hN
      go_wp2_with fail
      refine (HK.out _ hT).mono ?_
      rintro e w19 ⟨rfl, b19⟩
      replace b := Below.then2 b b19
      go_wp2_with fail
      go_ret
      exact ⟨rfl, b⟩
  | some t =>
    have h1 := hfb.out t hbV
    have h2 := hbb.out t hbV
    have HD2 := Lib.hid (fun al cl w h1 h2 => HD.out al (D ++ [(i : Int)]) cl t w h1 h2 (by simp; omega))
    generalize demandV T (D ++ [(i : Int)]) t = dd at *
    have ht : 0 ≤ t ∧ t ≤ 100000 := ⟨by omega, h2.2.2.1⟩
    have wr2 : IntKind.i64.wrap (bk + dd) = t := by rw [IntKind.wrap_i64]; omega
    have hvt : (!(t == t)) = false := by simp
    clear hfb hbb hbV h1 h2
    simp only [show someR (some t) = (t, true) from rfl]
    go_wp2_with fail
    refine (HK.out _ hT).mono ?_
    rintro e w17 ⟨rfl, b17⟩
    replace b := Below.then2 b b17
    replace hT := hT.below b17
    replace hN := hN.below b17
    clear b17
    have O0 := OwnI.fresh w17 w17.heap.size (Nat.le_refl _)
    have b0 := below_more (Below.refl w17.heap.size w17) (.cells #[] 2)
    have hN0 := hN.below b0
    have hs0 := b0.size
    go_wp2_with (at_builtin; first
      | refine wpList_wa (by rfl) (wpOp_copy64 _ _ rfl w17.heap.size D _ rfl O0 ah ch rfl hN0 (by omega) hs0 ?_); intro av1 cv1 w18 O1 g1
      | refine wpList_wa (by rfl) (wpOp_one64 (W := w18) _ _ (i : Int) rfl rfl w17.heap.size D _ rfl O1 1 rfl hiw (by omega) (Nat.le_trans hs0 g1.size) ?_); intro av2 cv2 w19 O2 g2)
    have bA := b0.grown g1 b0.size (fun q e => by cases e; exact Nat.le_refl _)
    have bB := (below_more bA (.cells #[.int .i64 (i : Int)] 2)).grown g2 (below_more bA _).size (fun q e => (O1.1.lt q e).1)
    obtain ⟨av3, cv3, he3, hN3⟩ := O2.nums
    rw [List.length_append, List.length_singleton] at he3
    cases he3
    replace b := Below.then2 b bB
    replace hT := hT.below bB
    replace hN := hN.below bB
    simp only [List.length_append, List.length_singleton] at HD2
    clear O0 b0 hN0 hs0 O1 O2 g1 g2 bA bB
    refine (HD2.out av2 cv2 w19 hT hN3).mono ?_
    rintro e w20 ⟨rfl, b20⟩
    replace b := Below.then2 b b20
    replace hT := hT.below b20
    replace hN := hN.below b20
    clear b20 HD2 hN3
    go_upto_region 19 with fail
    cases hw : wV with
    | none =>
      clear hfw hwb hw
      simp only [show someR none = (0, false) from rfl]
      go_wp2_with fail
      go_ret
      exact ⟨rfl, b⟩
    | some t' =>
      have h1 := hfw.out t' hw
      have h2 := hwb.out t' hw
      have hL : D.length ≤ 1500000 := by omega
      have HD2 := Lib.hid (fun w h1 h2 => HD.out ah D ch (t' + 1) w h1 h2 hL)
      generalize hdd : demandV T D (t' + 1) = dd at *
      obtain ⟨h1, h3⟩ := h1
      replace h2 := h2.2.2
      have ht' : 0 ≤ t' ∧ t' ≤ 99999 := ⟨by omega, h2.1⟩
      have wr1 : IntKind.i64.wrap (t' + 1) = t' + 1 := by rw [IntKind.wrap_i64]; omega
      have wr2' : IntKind.i64.wrap (bk + dd) = t' := by rw [IntKind.wrap_i64]; omega
      have hvt' : (t' == t') = true := by simp
      have hge : decide (bk ≤ t') = true := decide_eq_true h3
      clear hfw hwb hw h1 h2 hdd HD hL
      simp only [show someR (some t') = (t', true) from rfl]
      go_wp2_with fail
      refine (HK.out _ hT).mono ?_
      rintro e w21 ⟨rfl, b21⟩
      replace b := Below.then2 b b21
      replace hT := hT.below b21
      replace hN := hN.below b21
      clear b21
      go_wp2_with fail
      refine (HD2.out _ hT hN).mono ?_
      rintro e w22 ⟨rfl, b22⟩
      replace b := Below.then2 b b22
      replace hT := hT.below b22
      clear b22 hN
      go_wp2_with fail
      refine (HK.out _ hT).mono ?_
      rintro e w23 ⟨rfl, b23⟩
      replace b := Below.then2 b b23
      go_wp2_with fail
      go_ret
      exact ⟨rfl, b⟩
theorem laidOut : laidOutB Try.prog = true := by kernel_rfl

/-! ### The row's step of FnFixed. -/
set_option maxRecDepth 100000 in
theorem liftedFnFixed (os : Os) (started : os.Started) (H : Type) (enc : TypeId × Value → H) :
    ReturnsInHanded {} Try.checked os 4 .any (Rows.fnFixedSpec.pre6 enc Try.prog Try.f4 Rows.fnFixedRow.domain false) (Rows.fnFixedSpec.post enc Try.prog Try.f4 false true false false) := by
  refine returnsInHanded_of_change (C := Try.checked) own started (by kernel_rfl) Try.func4
    (ChangeSpec.witness6 (enc := enc) (C := Try.checked) false ⟨#[], #[.slice none 0 0], []⟩ 8 (by kernel_rfl) (by kernel_rfl) (by kernel_rfl) (by kernel_rfl)) ?_
  intro W base args ds gs before hval0 hW hcnd _
  have hval : ∀ (j : Nat) t v, Try.f4.params[j]? = some t → args[j]? = some v → Value.okWide Try.prog W .any base t v := hval0
  have hW' := hW
  obtain ⟨p, q, hA0, hV, rfl, hfz, hnd⟩ := hW
  have hA : DataW.TrodAll enc Try.prog W 0 (fun _ => true) true Try.f4.params.toList args.toList ds p := hA0
  rw [Try.params4] at hA hval
  obtain ⟨v0, vs0, d0, ds0, p0, q0, hargs, rfl, rfl, h0, r0⟩ := trodAll_cons hA
  obtain ⟨rfl, rfl, rfl⟩ := trodAll_nil r0
  obtain rfl : args = #[v0] := by cases args; simp_all
  obtain ⟨rfl, rfl⟩ := trodVars_none hV
  obtain ⟨a0, len0, cap0, rfl⟩ := okWide_slice Try.underlying22 (hval 0 22 v0 rfl rfl)
  have k0 := h0
  have lt0 : ∀ x ∈ p0, x.block < W.heap.size := by obtain ⟨m, hm⟩ := k0; exact DataW.trod_lt m _ _ _ hm
  have w0 : Code W.heap.size a0 len0 W := by
    obtain ⟨fuel, hf⟩ := h0
    rcases open_ints Try.underlying22 Try.underlying5 (by kernel_rfl) hf with ⟨hcs, _⟩ | ⟨x, l, c, zs, hcs, _, hl, hm, hz, _, hcell, hwz⟩
    · simp [Value.cells] at hcs
      obtain ⟨rfl, rfl, rfl⟩ := hcs
      exact ⟨by omega, fun j hj => absurd hj (by omega)⟩
    · simp [Value.cells] at hcs
      obtain ⟨rfl, rfl, rfl⟩ := hcs
      exact code_of hl hm (by simpa using hz) hcell hwz
  clear hA0 hval0
  refine (walkFnFixed a0 len0 cap0 W w0).mono fun e W' ⟨he, bel⟩ => ?_
  subst he
  exact ⟨_, rfl, _, _, _, [], _, [], hW', trodAll_mk1 (shut_bool Try.underlying4 _), (trodAll_cons_mk (Below.trod laidOut (by kernel_rfl) (of_decide_eq_true (by kernel_rfl)) k0 bel lt0) trodAll_mk0), rfl, bel.frame _, fun h => by cases h⟩

theorem fnFixed_holds : Rows.FnFixedSaid :=
  OpenClaim.holds_of_wide 4 Try.f4 rfl rfl rfl rfl rfl rfl rfl ⟨rfl, rfl, rfl, rfl, rfl⟩ rfl rfl rfl rfl rfl (by kernel_rfl) Try.func4 (by kernel_rfl)
    (of_decide_eq_true (by kernel_rfl)) (by unfold Func.isWrapper; first | (rw [if_pos (by decide +kernel)]; kernel_rfl) | (rw [if_neg (by decide +kernel)]; exact ⟨rfl, rfl⟩))
    (fun os started H enc _ => liftedFnFixed os started H enc)
#print axioms fnFixed_holds
end Go.Proofs.Ytohjfjcpkloigaa.lawFixed
