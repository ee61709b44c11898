/- Proved: at every argument the program's TakenOut answers as the model's does (laws.FnExactTakenOut answers true at every argument), the arguments stay as they were, and the answer owns its memory. No condition. -/
import Derived.Test.YtcciabalbdnakabSizes
import Derived.Test.YtcciabalbdnakabOpenS
import Derived.Test.YtcciabalbdnakabRows
import Derived.WalkKit
import Derived.WalkSpells
import Derived.ProofKit
import Derived.OpenShut
import Derived.ShutString
import Derived.ChangeOld
import Derived.Below
import Derived.Deep.CutRange
namespace Go.Proofs.Ytcciabalbdnakab.exTakenOut
open Go.ChangeShapes Go.WideShapes Go.ChangeAt Go.RowKit
set_option linter.unusedVariables false
set_option linter.unusedSimpArgs false

theorem own : ownKnob Try.prog.godebug = none := by kernel_rfl
theorem laidOut : laidOutB Try.prog = true := by kernel_rfl

set_option maxHeartbeats 4000000 in
theorem walkFnExactTakenOut (a : Option Addr) (L : List Frm) (c : Nat) (r : Int) (w : World) (hd : Frs a L w) (hr : (Lit.int .i64 r).wf = true) :
    Calls Try.prog 10 #[.slice a L.length c, .int .i64 r] w fun e w' => e = .returned (.bool true) ∧ Below w.heap.size w w' := by
  go_enter Try.func10, Try.ntmps10
  by_cases hs : L.length + room L L.length ≤ 1048576
  · have hl : L.length ≤ 1048576 := by omega
    have hlean := lean_out L r
    have HS := fun w a c h => specTakenOut a L c r w h
    have HI := fun w a c h h1 h2 => implTakenOut a L c r w h h1 h2
    generalize outV L r = X at hlean HS HI
    have hfit := hlean.fits
    have hxl := hlean.1
    replace HS := Lib.hid HS
    replace HI := Lib.hid HI
    clear hlean
    have hd0 := hd
    go_wp2_with fail
    refine (szFramesOk a L c w hd hs).mono ?_
    rintro e w1 ⟨n, hn, rfl, b⟩
    replace hd := hd.below b
    go_wp2_with fail
    refine (toFrames a L c w1 hd hs).mono ?_
    rintro e w2 ⟨a2, rfl, d2, k⟩
    replace b := Below.then2 b k
    clear k hd
    go_wp2_with fail
    refine (HS.out w2 a2 L.length d2).mono ?_
    rintro e w3 ⟨M3, g3, c3, rfl, hM3, O3, k⟩
    replace b := b.trans (k.mono b.size)
    have F3 := O3.frsOf hM3 (by omega)
    have q := Below.refl w3.heap.size w3
    have hb3 := b.size
    clear k d2 hM3 O3 HS
    have hd := hd0.below b
    go_wp2_with fail
    refine (toFramesOwn a L c w3 hd hs).mono ?_
    rintro e w4 ⟨M4, a4, c4, rfl, hM4, O4, R4, k⟩
    replace b := b.trans (k.mono b.size)
    replace q := q.trans k
    have U4 := O4.under
    have hi4 := q.size
    clear k hd
    have d4 := O4.frsOf hM4 (by omega)
    have l4 := O4.len.2
    have A4 := O4.addressed
    go_wp2_with fail
    refine (HI.out w4 a4 c4 d4 l4 A4).mono ?_
    rintro e w5 ⟨M5, a5, c5, rfl, hM5, O5, R5, k⟩
    replace O4 := O4.below k
    replace b := b.trans (k.mono b.size)
    replace q := q.trans (k.mono q.size)
    clear k d4 l4 A4
    have U5 := O5.under
    have d5 := O5.frsOf hM5 (by omega)
    go_wp2_with fail
    refine (eqFrames a5 (some ⟨g3, 0, none⟩) X c5 c3 w5 d5 (F3.below q)).mono ?_
    rintro e w6 ⟨rfl, k⟩
    replace O4 := O4.below k
    replace O5 := O5.below k
    replace b := b.trans (k.mono b.size)
    replace q := q.trans (k.mono q.size)
    clear k d5
    have hd := hd0.below b
    go_wp2_with fail
    refine (toFrames a L c w6 hd hs).mono ?_
    rintro e w7 ⟨a7, rfl, d7, k⟩
    replace O4 := O4.below k
    replace O5 := O5.below k
    replace b := b.trans (k.mono b.size)
    replace q := q.trans (k.mono q.size)
    clear k hd
    have d4 := O4.frsOf hM4 (by omega)
    go_wp2_with fail
    refine (eqFrames a4 a7 L c4 L.length w7 d4 d7).mono ?_
    rintro e w8 ⟨rfl, k⟩
    replace O4 := O4.below k
    replace O5 := O5.below k
    replace b := b.trans (k.mono b.size)
    replace q := q.trans (k.mono q.size)
    clear k d4 d7
    go_wp2_with fail
    refine (markFrames w3.heap.size w4.heap.size M4 L hM4 a4 c4 1 w8 O4 R4 U4 hs (by omega) (by omega)).mono ?_
    rintro e w9 ⟨M9, rfl, hM9, O9, R9, k⟩
    replace O5 := O5.mid k (Nat.le_refl _)
    have hk9 := kAt_pos (k := 1) (X := L) (j := L.length) (by omega)
    generalize kAt 1 L L.length = k9 at hk9 ⊢
    replace b := b.trans (k.below hb3 b.size)
    replace q := q.trans (k.below (Nat.le_refl _) q.size)
    clear k O4 R4 U4 hM4 O9 R9 hM9
    have d5 := O5.frsOf hM5 (by omega)
    go_wp2_with fail
    refine (eqFrames a5 (some ⟨g3, 0, none⟩) X c5 c3 w9 d5 (F3.below q)).mono ?_
    rintro e w10 ⟨rfl, k⟩
    replace O5 := O5.below k
    replace b := b.trans (k.mono b.size)
    replace q := q.trans (k.mono q.size)
    clear k d5
    go_wp2_with fail
    refine (markFrames w4.heap.size w5.heap.size M5 X hM5 a5 c5 1 w10 O5 R5 U5 hfit (by omega) (by omega)).mono ?_
    rintro e w11 ⟨M11, rfl, hM11, O11, R11, k⟩
    replace b := b.trans (k.below (Nat.le_trans hb3 hi4) b.size)
    replace q := q.trans (k.below hi4 q.size)
    clear k O5 R5 U5 hM5
    have h11 := O11.frsOf hM11 (by rw [mkL_len]; omega)
    have hkk := kAt_pos (k := 1) (X := X) (j := X.length) (by omega)
    have HH := Lib.hid (fun w h => heldFrames a5 X c5 1 w h hfit (by omega) (by omega))
    generalize kAt 1 X X.length = kk at hkk HH ⊢
    have hkn : ¬ kk < 0 := by omega
    go_wp2_with fail
    refine (HH.out w11 h11).mono ?_
    rintro e w12 ⟨rfl, k⟩
    replace O11 := O11.below k
    replace b := b.trans (k.mono b.size)
    replace q := q.trans (k.mono q.size)
    clear k h11
    have hd := hd0.below b
    go_wp2_with fail
    refine (toFramesOwn a L c w12 hd hs).mono ?_
    rintro e w13 ⟨M13, a13, c13, rfl, hM13, O13, R13, k⟩
    replace O11 := O11.below k
    replace b := b.trans (k.mono b.size)
    replace q := q.trans (k.mono q.size)
    clear k hd
    have d13 := O13.frsOf hM13 (by omega)
    have l13 := O13.len.2
    have A13 := O13.addressed
    go_wp2_with fail
    refine (HI.out w13 a13 c13 d13 l13 A13).mono ?_
    rintro e w14 ⟨M14, a14, c14, rfl, hM14, O14, R14, k⟩
    replace O11 := O11.below k
    replace b := b.trans (k.mono b.size)
    replace q := q.trans (k.mono q.size)
    clear k d13 l13 A13 O13 R13 hM13
    have d14 := O14.frsOf hM14 (by omega)
    go_wp2_with fail
    refine (eqFrames a14 (some ⟨g3, 0, none⟩) X c14 c3 w14 d14 (F3.below q)).mono ?_
    rintro e w15 ⟨rfl, k⟩
    replace O11 := O11.below k
    replace b := b.trans (k.mono b.size)
    clear k d14 O14 q F3
    have h11 := O11.frsOf hM11 (by rw [mkL_len]; omega)
    go_wp2_with fail
    refine (HH.out w15 h11).mono ?_
    rintro e w16 ⟨rfl, k⟩
    replace b := b.trans (k.mono b.size)
    clear k h11 O11
    go_wp2_with fail
    go_ret
    exact ⟨rfl, b⟩
  · go_wp2_with fail
    refine (szFramesBig a L c w hd (by omega)).mono ?_
    rintro e w1 ⟨rfl, b1⟩
    go_wp2_with fail
    go_ret
    exact ⟨rfl, b1⟩

/-! ### The row's step of FnExactTakenOut. -/
set_option maxRecDepth 100000 in
theorem liftedFnExactTakenOut (os : Os) (started : os.Started) (H : Type) (enc : TypeId × Value → H) :
    ReturnsInHanded {} Try.checked os 10 .any (Rows.fnExactTakenOutSpec.pre6 enc Try.prog Try.f10 Rows.fnExactTakenOutRow.domain false) (Rows.fnExactTakenOutSpec.post enc Try.prog Try.f10 false true false false) := by
  refine returnsInHanded_of_change (C := Try.checked) own started (by kernel_rfl) Try.func10
    (ChangeSpec.witness6 (enc := enc) (C := Try.checked) false ⟨#[], #[.slice none 0 0, .int .i64 0], []⟩ 8 (by kernel_rfl) (by kernel_rfl) (by kernel_rfl) (by kernel_rfl)) ?_
  intro W base args ds gs before hval0 hW hcnd _
  have hval : ∀ (j : Nat) t v, Try.f10.params[j]? = some t → args[j]? = some v → Value.okWide Try.prog W .any base t v := hval0
  have hW' := hW
  obtain ⟨p, q, hA0, hV, rfl, hfz, hnd⟩ := hW
  have hA : DataW.TrodAll enc Try.prog W 0 (fun _ => true) true Try.f10.params.toList args.toList ds p := hA0
  rw [Try.params10] at hA hval
  obtain ⟨v0, vs0, d0, ds0, p0, q0, hargs, rfl, rfl, h0, r0⟩ := trodAll_cons hA
  obtain ⟨v1, vs1, d1, ds1, p1, q1, rfl, rfl, rfl, h1, r1⟩ := trodAll_cons r0
  obtain ⟨rfl, rfl, rfl⟩ := trodAll_nil r1
  obtain rfl : args = #[v0, v1] := by cases args; simp_all
  obtain ⟨rfl, rfl⟩ := trodVars_none hV
  have k0 := h0
  have lt0 : ∀ x ∈ p0, x.block < W.heap.size := by obtain ⟨m, hm⟩ := k0; exact DataW.trod_lt m _ _ _ hm
  obtain ⟨a0, len0, cap0, rfl⟩ := okWide_slice Try.underlying40 (hval 0 40 v0 rfl rfl)
  obtain ⟨L0, w0⟩ : ∃ L : List Frm, L.length = len0 ∧ Frs a0 L W := by
    obtain ⟨fuel, hf⟩ := h0
    obtain ⟨a, L, c, hcs, hn⟩ := frames_open hf
    simp [Value.cells] at hcs
    obtain ⟨rfl, rfl, rfl⟩ := hcs
    exact ⟨L, rfl, hn⟩
  obtain ⟨rfl, n0⟩ := w0
  obtain ⟨a1, rfl, rfl, rfl, w1⟩ := open_int Try.underlying2 (hval 1 2 v1 rfl rfl) h1
  clear hA0 hval0
  simp only [List.append_nil] at hW'
  refine (walkFnExactTakenOut _ _ _ a1 W n0 w1).mono fun e W' ⟨he, bel⟩ => ?_
  subst he
  exact ⟨_, rfl, _, _, _, [], _, [], hW', trodAll_mk1 (shut_bool Try.underlying4 _), (trodAll_cons_mk (Below.trod laidOut (by kernel_rfl) (of_decide_eq_true (by kernel_rfl)) k0 bel lt0) (trodAll_cons_mk (shut_int Try.underlying2 w1) trodAll_mk0)), rfl, bel.frame _, fun h => by cases h⟩

theorem fnExactTakenOut_holds : Rows.FnExactTakenOutSaid :=
  OpenClaim.holds_of_wide 10 Try.f10 rfl rfl rfl rfl rfl rfl rfl ⟨rfl, rfl, rfl, rfl, rfl⟩ rfl rfl rfl rfl rfl (by kernel_rfl) Try.func10 (by kernel_rfl)
    (of_decide_eq_true (by kernel_rfl)) (by unfold Func.isWrapper; first | (rw [if_pos (by decide +kernel)]; kernel_rfl) | (rw [if_neg (by decide +kernel)]; exact ⟨rfl, rfl⟩))
    (fun os started H enc _ => liftedFnExactTakenOut os started H enc)
#print axioms fnExactTakenOut_holds
end Go.Proofs.Ytcciabalbdnakab.exTakenOut
