/- Proved: at every argument the program's HigherOf answers as the model's does (laws.FnExactHigherOf answers true at every argument), the arguments stay as they were, and the answer owns its memory. No condition. -/
import Derived.Test.YtnabcnmgfchceaaHigh
import Derived.Test.YtnabcnmgfchceaaMsgX
import Derived.Test.YtnabcnmgfchceaaMark
import Derived.Test.YtnabcnmgfchceaaRows
import Derived.WalkKit
import Derived.WalkSpells
import Derived.ProofKit
import Derived.OpenShut
import Derived.ShutString
import Derived.ChangeOld
import Derived.Below
import Derived.Deep.CutRange
namespace Go.Proofs.Ytnabcnmgfchceaa.exHigherOf
open Go.ChangeShapes Go.WideShapes Go.ChangeAt Go.RowKit
set_option linter.unusedVariables false
set_option linter.unusedSimpArgs false

theorem own : ownKnob Try.prog.godebug = none := by kernel_rfl
theorem laidOut : laidOutB Try.prog = true := by kernel_rfl

set_option maxHeartbeats 4000000 in
theorem walkFnExactHigherOf (a : Option Addr) (T : List Ms) (c : Nat) (i : Int) (w : World) (hd : Tbl a T w) (hiw : (Lit.int .i64 i).wf = true) :
    Calls Try.prog 5 #[.slice a T.length c, .int .i64 i] w fun e w' => e = .returned (.bool true) ∧ Below w.heap.size w w' := by
  have hm := hd.1
  go_enter Try.func5, Try.ntmps5
  by_cases hs : T.length ≤ 1048576
  · have HS := fun a c w h => specHigherOf a T c i w h
    have HI := fun a c w h => implHigherOf a T c i w h
    have hX := highV_len T i
    generalize highV T i = X at HS HI hX
    go_wp2_with fail
    refine (szMsgOk a T.length c w hs).mono ?_
    rintro e w1 ⟨n, hn, rfl, rfl⟩
    go_wp2_with fail
    refine (toMgs a T c w hd hs).mono ?_
    rintro e w2 ⟨g2, _, rfl, _, d2, b⟩
    replace d2 := d2.tbl hm
    go_wp2_with fail
    refine (HS _ _ w2 d2).mono ?_
    rintro e w3 ⟨v0, rfl, O0, b3⟩
    replace b := Below.then2 b b3
    have hs3 := b.size
    clear b3 d2 HS
    have hv0 : ∀ k, v0.ownBlock = some k → k < w3.heap.size := fun k hk => (O0.1.lt k hk).2
    have hd3 := hd.below b
    go_wp2_with fail
    refine (toMgs a T c w3 hd3 hs).mono ?_
    rintro e w4 ⟨g4, cur4, rfl, hg4, R4, b4⟩
    replace b := Below.then2 b b4
    have q := b4
    replace O0 := O0.kept (grown_at b4) (Classical.em _)
    clear b4 hd3
    go_wp2_with fail
    refine (HI _ _ w4 (R4.tbl hm)).mono ?_
    rintro e w5 ⟨v1, rfl, O1, b5⟩
    have hg4' := R4.lt
    replace R4 := R4.below b5
    replace O0 := O0.kept (grown_at b5) (Classical.em _)
    replace b := Below.then2 b b5
    replace q := Below.then2 q b5
    have hv1 : ∀ k, v1.ownBlock = some k → w4.heap.size ≤ k ∧ k < w5.heap.size := fun k hk => O1.1.lt k hk
    clear b5
    obtain ⟨a0, c0, rfl, N0⟩ := O0.nums
    obtain ⟨a1, c1, rfl, N1⟩ := O1.nums
    have hw34 := q.size
    have h01 : (Value.slice a0 X.length c0).ownBlock = none ∨ (Value.slice a0 X.length c0).ownBlock ≠ (Value.slice a1 X.length c1).ownBlock := by
      cases h : (Value.slice a0 X.length c0).ownBlock with
      | none => exact .inl rfl
      | some k0 =>
        right
        intro e
        have h1 := hv0 k0 h
        have h2 := hv1 k0 e.symm
        have h3 := b.size
        omega
    have h0g : (Value.slice a0 X.length c0).ownBlock = none ∨ (Value.slice a0 X.length c0).ownBlock ≠ some g4 := by
      cases h : (Value.slice a0 X.length c0).ownBlock with
      | none => exact .inl rfl
      | some k0 => right; intro e; cases e; have := hv0 g4 h; omega
    have h1g : (Value.slice a1 X.length c1).ownBlock = none ∨ (Value.slice a1 X.length c1).ownBlock ≠ some g4 := by
      cases h : (Value.slice a1 X.length c1).ownBlock with
      | none => exact .inl rfl
      | some k0 => right; intro e; cases e; have := hv1 g4 h; omega
    replace h01 := Lib.hid h01
    replace h0g := Lib.hid h0g
    replace h1g := Lib.hid h1g
    clear hv0
    go_wp2_with fail
    refine (eqInts a1 a0 X c1 c0 w5 N1 N0).mono ?_
    rintro e w6 ⟨rfl, n6, rfl⟩
    clear N0 N1
    replace O0 := O0.kept (grown_drewN w5 n6 none) (Classical.em _)
    replace O1 := O1.kept (grown_drewN w5 n6 none) (Classical.em _)
    replace R4 : RowMs g4 T.length T.length T cur4 (w5.drewN n6) := ⟨R4.blk, R4.len, R4.fr⟩
    replace b := belowN b n6
    replace q := belowN q n6
    have hw5 : (w5.drewN n6).heap.size = w5.heap.size := rfl
    generalize w5.drewN n6 = w6 at *
    have hd6 := hd.below b
    go_wp2_with fail
    refine (toMgs a T c w6 hd6 hs).mono ?_
    rintro e w7 ⟨g7, _, rfl, _, d7, b7⟩
    replace d7 := d7.tbl hm
    replace b := Below.then2 b b7
    replace q := Below.then2 q b7
    replace R4 := R4.below b7
    replace O0 := O0.kept (grown_at b7) (Classical.em _)
    replace O1 := O1.kept (grown_at b7) (Classical.em _)
    clear b7 hd6
    go_wp2_with fail
    refine (eqMgs (some ⟨g4, 0, none⟩) (some ⟨g7, 0, none⟩) T T.length T.length w7 (R4.tbl hm) d7).mono ?_
    rintro e w8 ⟨rfl, b8⟩
    replace b := Below.then2 b b8
    replace q := Below.then2 q b8
    replace R4 := R4.below b8
    replace O0 := O0.kept (grown_at b8) (Classical.em _)
    replace O1 := O1.kept (grown_at b8) (Classical.em _)
    clear b8 d7
    go_wp2_with fail
    refine (markMgs g4 T.length T.length cur4 1 w8 R4.blk R4.len hs (by omega)).mono ?_
    rintro e w9 ⟨k9, rfl, hk9, g9⟩
    replace b := b.grown g9 b.size (fun q e => by cases e; omega)
    replace O0 := O0.kept g9 h0g.out
    replace O1 := O1.kept g9 h1g.out
    have hk0 : ¬ ((k9 : Int) < 0) := by omega
    clear R4 g9 q
    obtain ⟨a0', c0', e0, N0⟩ := O0.nums
    cases e0
    obtain ⟨a1', c1', e1, N1⟩ := O1.nums
    cases e1
    go_wp2_with fail
    refine (eqInts a1 a0 X c1 c0 w9 N1 N0).mono ?_
    rintro e w10 ⟨rfl, n10, rfl⟩
    clear N0 N1
    replace O0 := O0.kept (grown_drewN w9 n10 none) (Classical.em _)
    replace O1 := O1.kept (grown_drewN w9 n10 none) (Classical.em _)
    replace b := belowN b n10
    generalize w9.drewN n10 = w10 at *
    go_wp2_with fail
    refine (markInts _ X a1 c1 1 w10 O1 (by omega) (by omega) (by omega)).mono ?_
    rintro e w11 ⟨rfl, O1, g11⟩
    replace O0 := O0.kept g11 h01.out
    replace b := b.grown g11 b.size (fun q e => by have := hv1 q e; omega)
    clear g11
    have hM : ∀ w, OwnI w4.heap.size (marks 1 X.length) (.slice a1 X.length c1) w → Nums a1 (marks 1 X.length) w := fun w h => by
      obtain ⟨a', c', e', N'⟩ := h.nums
      simp only [Value.slice.injEq] at e'
      obtain ⟨rfl, _, _⟩ := e'
      exact N'
    go_wp2_with fail
    refine (heldInts a1 X.length c1 1 w11 (hM _ O1) (by omega) (by omega) (by omega)).mono ?_
    rintro e w12 ⟨rfl, rfl⟩
    have hd11 := hd.below b
    have hq0 : ¬ ((1 : Int) + (X.length : Int) < 0) := by omega
    go_wp2_with fail
    refine (toMgs a T c w11 hd11 hs).mono ?_
    rintro e w13 ⟨g13, _, rfl, _, d13, b13⟩
    replace d13 := d13.tbl hm
    replace b := Below.then2 b b13
    replace O0 := O0.kept (grown_at b13) (Classical.em _)
    replace O1 := O1.kept (grown_at b13) (Classical.em _)
    clear b13 hd11
    go_wp2_with fail
    refine (HI _ _ w13 d13).mono ?_
    rintro e w14 ⟨v2, rfl, O2, b14⟩
    replace b := Below.then2 b b14
    replace O0 := O0.kept (grown_at b14) (Classical.em _)
    replace O1 := O1.kept (grown_at b14) (Classical.em _)
    obtain ⟨a2, c2, rfl, N2⟩ := O2.nums
    obtain ⟨a0', c0', e0, N0⟩ := O0.nums
    cases e0
    clear b14 d13 HI
    go_wp2_with fail
    refine (eqInts a2 a0 X c2 c0 w14 N2 N0).mono ?_
    rintro e w15 ⟨rfl, n15, rfl⟩
    clear N0 N2 O2
    replace O1 := O1.kept (grown_drewN w14 n15 none) (Classical.em _)
    replace b := belowN b n15
    generalize w14.drewN n15 = w15 at *
    go_wp2_with fail
    refine (heldInts a1 X.length c1 1 w15 (hM _ O1) (by omega) (by omega) (by omega)).mono ?_
    rintro e w16 ⟨rfl, rfl⟩
    go_wp2_with fail
    go_ret
    exact ⟨rfl, b⟩
  · go_wp2_with fail
    refine (szMsgBig a T.length c w hm (by omega)).mono ?_
    rintro e w1 ⟨rfl, rfl⟩
    go_wp2_with fail
    go_ret
    exact ⟨rfl, Below.refl _ _⟩

/-! ### The row's step of FnExactHigherOf. -/
set_option maxRecDepth 100000 in
theorem liftedFnExactHigherOf (os : Os) (started : os.Started) (H : Type) (enc : TypeId × Value → H) :
    ReturnsInHanded {} Try.checked os 5 .any (Rows.fnExactHigherOfSpec.pre6 enc Try.prog Try.f5 Rows.fnExactHigherOfRow.domain false) (Rows.fnExactHigherOfSpec.post enc Try.prog Try.f5 false true false false) := by
  refine returnsInHanded_of_change (C := Try.checked) own started (by kernel_rfl) Try.func5
    (ChangeSpec.witness6 (enc := enc) (C := Try.checked) false ⟨#[], #[.slice none 0 0, .int .i64 0], []⟩ 8 (by kernel_rfl) (by kernel_rfl) (by kernel_rfl) (by kernel_rfl)) ?_
  intro W base args ds gs before hval0 hW hcnd _
  have hval : ∀ (j : Nat) t v, Try.f5.params[j]? = some t → args[j]? = some v → Value.okWide Try.prog W .any base t v := hval0
  have hW' := hW
  obtain ⟨p, q, hA0, hV, rfl, hfz, hnd⟩ := hW
  have hA : DataW.TrodAll enc Try.prog W 0 (fun _ => true) true Try.f5.params.toList args.toList ds p := hA0
  rw [Try.params5] at hA hval
  obtain ⟨v0, vs0, d0, ds0, p0, q0, hargs, rfl, rfl, h0, r0⟩ := trodAll_cons hA
  obtain ⟨v1, vs1, d1, ds1, p1, q1, rfl, rfl, rfl, h1, r1⟩ := trodAll_cons r0
  obtain ⟨rfl, rfl, rfl⟩ := trodAll_nil r1
  obtain rfl : args = #[v0, v1] := by cases args; simp_all
  obtain ⟨rfl, rfl⟩ := trodVars_none hV
  have k0 := h0
  have lt0 : ∀ x ∈ p0, x.block < W.heap.size := by obtain ⟨m, hm⟩ := k0; exact DataW.trod_lt m _ _ _ hm
  obtain ⟨a0, len0, cap0, rfl⟩ := okWide_slice Try.underlying36 (hval 0 36 v0 rfl rfl)
  obtain ⟨L0, w0⟩ : ∃ L : List Ms, L.length = len0 ∧ Tbl a0 L W := by
    obtain ⟨fuel, hf⟩ := h0
    obtain ⟨a, L, c, hcs, hn⟩ := msgs_open hf
    simp [Value.cells] at hcs
    obtain ⟨rfl, rfl, rfl⟩ := hcs
    exact ⟨L, rfl, hn⟩
  obtain ⟨rfl, n0⟩ := w0
  obtain ⟨a1, rfl, rfl, rfl, w1⟩ := open_int Try.underlying2 (hval 1 2 v1 rfl rfl) h1
  clear hA0 hval0
  simp only [List.append_nil] at hW'
  refine (walkFnExactHigherOf _ _ _ a1 W n0 w1).mono fun e W' ⟨he, bel⟩ => ?_
  subst he
  exact ⟨_, rfl, _, _, _, [], _, [], hW', trodAll_mk1 (shut_bool Try.underlying4 _), (trodAll_cons_mk (Below.trod laidOut (by kernel_rfl) (of_decide_eq_true (by kernel_rfl)) k0 bel lt0) (trodAll_cons_mk (shut_int Try.underlying2 w1) trodAll_mk0)), rfl, bel.frame _, fun h => by cases h⟩

theorem fnExactHigherOf_holds : Rows.FnExactHigherOfSaid :=
  OpenClaim.holds_of_wide 5 Try.f5 rfl rfl rfl rfl rfl rfl rfl ⟨rfl, rfl, rfl, rfl, rfl⟩ rfl rfl rfl rfl rfl (by kernel_rfl) Try.func5 (by kernel_rfl)
    (of_decide_eq_true (by kernel_rfl)) (by unfold Func.isWrapper; first | (rw [if_pos (by decide +kernel)]; kernel_rfl) | (rw [if_neg (by decide +kernel)]; exact ⟨rfl, rfl⟩))
    (fun os started H enc _ => liftedFnExactHigherOf os started H enc)
#print axioms fnExactHigherOf_holds
end Go.Proofs.Ytnabcnmgfchceaa.exHigherOf
