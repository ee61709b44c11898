/- Proved: at every text of bytes, the frame drawn out of it keeps promise 5: no frame is longer than MostLength of its bytes; what a frame says, and how long it is, is what the model says; what is no right frame says nothing (laws.FnLengths answers true at every argument). No condition. -/
import Derived.Test.YthhhhfpgmolcmabFrOne
import Derived.Test.YthhhhfpgmolcmabWire
import Derived.Test.YthhhhfpgmolcmabLong
import Derived.Test.YthhhhfpgmolcmabHeld
import Derived.Test.YthhhhfpgmolcmabRows
import Derived.WalkKit
import Derived.WalkSpells
import Derived.ProofKit
import Derived.OpenShut
import Derived.ShutString
import Derived.ChangeOld
import Derived.Below
import Derived.Deep.CutRange
set_option linter.unusedVariables false
set_option linter.unusedSimpArgs false
namespace Go.Proofs.Ythhhhfpgmolcmab.lawLengths
open Go.ChangeShapes Go.WideShapes Go.ChangeAt Go.RowKit
open Go.ChangeMaps (open_string shut_string)

theorem own : ownKnob Try.prog.godebug = none := by kernel_rfl

/-- What stands in every world of the law's long tests: the frame's box and its data. -/
def LC1 (w0 : World) (g : Nat) (id : Int) (rm : Bool) (ln : Int) (D : List Int) (av : Option Addr) (c : Nat) (u : World) : Prop :=
  Four g (.int .i64 id) (.bool rm) (.int .i64 ln) (.slice av D.length c) w0 u ∧ Nums av D u
section
variable {w0 : World} {g : Nat} {id : Int} {rm : Bool} {ln : Int} {D : List Int} {av : Option Addr} {c : Nat} {u u' : World}
theorem LC1.below (h : LC1 w0 g id rm ln D av c u) (b : Below u.heap.size u u') : LC1 w0 g id rm ln D av c u' := ⟨h.1.below b, h.2.below b⟩
theorem LC1.drew (h : LC1 w0 g id rm ln D av c u) : LC1 w0 g id rm ln D av c u.drew := ⟨h.1.drew, h.2.drew⟩
end

set_option maxHeartbeats 8000000 in
theorem walkFnLengths (a : Option Addr) (len cap : Nat) (w : World) (cd : Code w.heap.size a len w) :
    Calls Try.prog 3 #[.slice a len cap] w fun e w' => e = .returned (.bool true) ∧ Below w.heap.size w w' := by
  go_enter Try.func3, Try.ntmps3
  have hl := cd.1
  by_cases hbig : 4096 < len
  · go_wp2_with (go_at_call 6; refine (bigAny _ _ _ _ hl).mono ?_; rintro e w' ⟨rfl, rfl⟩)
    go_ret
    exact ⟨rfl, Below.refl _ _⟩
  go_wp2_with fail
  refine (bigAny _ _ _ _ hl).mono ?_
  rintro e w' ⟨rfl, rfl⟩
  go_wp2_with fail
  refine (oneDrawWireOf _ cd (Nat.le_refl _)).mono ?_
  rintro e w1 ⟨id, rm, ln, D, av, c, rfl, nD, hD, -, -, b1⟩
  clear cd hl
  go_upto_region 4 with fail
  have L : LC1 w w1.heap.size id rm ln D av c (w1.alloc (.cells #[.int .i64 id, .bool rm, .int .i64 ln, .slice av D.length c] 26)) := ⟨Four.made _ _ _ _ _ b1, nD.alloc _⟩
  generalize w1.alloc (.cells #[.int .i64 id, .bool rm, .int .i64 ln, .slice av D.length c] 26) = W at L ⊢
  clear nD b1
  have Lk := L
  obtain ⟨⟨⟨a0, a1, a2, a3⟩, _⟩, _⟩ := Lk
  go_wp2_with fail
  refine (implWireOf _ _ _ _ _ _ _ L.2).mono ?_
  rintro e w2 ⟨rfl, k2⟩
  replace L := L.below k2
  clear k2 a0 a1 a2 a3
  have Lk := L
  obtain ⟨⟨⟨a0, a1, a2, a3⟩, _⟩, _⟩ := Lk
  go_wp2_with fail
  refine (implLengthOf _ _ _ _ _ _ _ L.2).mono ?_
  rintro e w3 ⟨rfl, k2⟩
  replace L := L.below k2
  clear k2 a0 a1 a2 a3
  have Lk := L
  obtain ⟨⟨⟨a0, a1, a2, a3⟩, _⟩, _⟩ := Lk
  go_wp2_with fail
  refine (specWireOf _ _ _ _ _ _ _ L.2).mono ?_
  rintro e w4 ⟨rfl, k2⟩
  replace L := L.below k2
  clear k2 a0 a1 a2 a3
  have Lk := L
  obtain ⟨⟨⟨a0, a1, a2, a3⟩, _⟩, _⟩ := Lk
  go_wp2_with fail
  refine (specLengthOf _ _ _ _ _ _ _ L.2).mono ?_
  rintro e w5 ⟨rfl, k2⟩
  have L2 := L.below k2
  clear k2 a0 a1 a2 a3 L
  have Lk := L2
  obtain ⟨⟨⟨a0, a1, a2, a3⟩, _⟩, _⟩ := Lk
  cases hok : frOk id rm ln D with
  | false =>
    go_wp2_with fail
    refine (specFrameOk _ _ _ _ _ _ _ L2.2).mono ?_
    rintro e w3 ⟨rfl, k3⟩
    replace L2 := L2.below k3
    rw [hok, wireV_no hok, lengthV_no hok]
    clear hok
    go_wp2_with fail
    go_ret
    exact ⟨rfl, L2.1.2⟩
  | true =>
    go_wp2_with fail
    refine (specFrameOk _ _ _ _ _ _ _ L2.2).mono ?_
    rintro e w3 ⟨rfl, k3⟩
    replace L2 := L2.below k3
    clear k3 a0 a1 a2 a3
    rw [hok, lengthV_yes hok]
    have hn := frOk_len hok
    obtain ⟨hm1, hm2⟩ := wire_most hok
    have hwl := wire_len id rm ln D
    clear hok
    have Lk := L2
    obtain ⟨⟨⟨a0, a1, a2, a3⟩, _⟩, _⟩ := Lk
    go_wp2_with fail
    refine (implLong _ _ (Go.WalkArith.wf_i64 ⟨by omega, by omega⟩)).mono ?_
    rintro e w4 ⟨rfl, k3⟩
    replace L2 := L2.below k3
    clear k3 a0 a1 a2 a3
    have Lk := L2
    obtain ⟨⟨⟨a0, a1, a2, a3⟩, _⟩, _⟩ := Lk
    have h8 : IntKind.i64.wrap (8 * (D.length : Int)) = 8 * (D.length : Int) := IntWalk.i64_in _ (by omega)
    have h44 : IntKind.i64.wrap (44 + 8 * (D.length : Int)) = 44 + 8 * (D.length : Int) := IntWalk.i64_in _ (by omega)
    have hle : 44 + 8 * (D.length : Int) ≤ ((wireV id rm ln D).size : Int) := by omega
    go_wp2_with fail
    refine (specLong _ _ (Go.WalkArith.wf_i64 ⟨by omega, by omega⟩)).mono ?_
    rintro e w6 ⟨rfl, rfl⟩
    go_wp2_with fail
    go_ret
    exact ⟨rfl, L2.1.2⟩

theorem laidOut : laidOutB Try.prog = true := by kernel_rfl

/-! ### The row's step of FnLengths. -/
set_option maxRecDepth 100000 in
theorem liftedFnLengths (os : Os) (started : os.Started) (H : Type) (enc : TypeId × Value → H) :
    ReturnsInHanded {} Try.checked os 3 .any (Rows.fnLengthsSpec.pre6 enc Try.prog Try.f3 Rows.fnLengthsRow.domain false) (Rows.fnLengthsSpec.post enc Try.prog Try.f3 false true false false) := by
  refine returnsInHanded_of_change (C := Try.checked) own started (by kernel_rfl) Try.func3
    (ChangeSpec.witness6 (enc := enc) (C := Try.checked) false ⟨#[], #[.slice none 0 0], []⟩ 8 (by kernel_rfl) (by kernel_rfl) (by kernel_rfl) (by kernel_rfl)) ?_
  intro W base args ds gs before hval0 hW hcnd _
  have hval : ∀ (j : Nat) t v, Try.f3.params[j]? = some t → args[j]? = some v → Value.okWide Try.prog W .any base t v := hval0
  have hW' := hW
  obtain ⟨p, q, hA0, hV, rfl, hfz, hnd⟩ := hW
  have hA : DataW.TrodAll enc Try.prog W 0 (fun _ => true) true Try.f3.params.toList args.toList ds p := hA0
  rw [Try.params3] at hA hval
  obtain ⟨v0, vs0, d0, ds0, p0, q0, hargs, rfl, rfl, h0, r0⟩ := trodAll_cons hA
  obtain ⟨rfl, rfl, rfl⟩ := trodAll_nil r0
  obtain rfl : args = #[v0] := by cases args; simp_all
  obtain ⟨rfl, rfl⟩ := trodVars_none hV
  obtain ⟨a0, len0, cap0, rfl⟩ := okWide_slice Try.underlying22 (hval 0 22 v0 rfl rfl)
  have k0 := h0
  have lt0 : ∀ x ∈ p0, x.block < W.heap.size := by obtain ⟨m, hm⟩ := k0; exact DataW.trod_lt m _ _ _ hm
  have w0 : Code W.heap.size a0 len0 W := by
    obtain ⟨fuel, hf⟩ := h0
    rcases open_ints Try.underlying22 Try.underlying5 (by kernel_rfl) hf with ⟨hcs, _⟩ | ⟨x, l, c, zs, hcs, _, hl, hm, hz, _, hcell, hwz⟩
    · simp [Value.cells] at hcs
      obtain ⟨rfl, rfl, rfl⟩ := hcs
      exact ⟨by omega, fun j hj => absurd hj (by omega)⟩
    · simp [Value.cells] at hcs
      obtain ⟨rfl, rfl, rfl⟩ := hcs
      exact code_of hl hm (by simpa using hz) hcell hwz
  clear hA0 hval0
  refine (walkFnLengths a0 len0 cap0 W w0).mono fun e W' ⟨he, bel⟩ => ?_
  subst he
  exact ⟨_, rfl, _, _, _, [], _, [], hW', trodAll_mk1 (shut_bool Try.underlying4 _), (trodAll_cons_mk (Below.trod laidOut (by kernel_rfl) (of_decide_eq_true (by kernel_rfl)) k0 bel lt0) trodAll_mk0), rfl, bel.frame _, fun h => by cases h⟩

theorem fnLengths_holds : Rows.FnLengthsSaid :=
  OpenClaim.holds_of_wide 3 Try.f3 rfl rfl rfl rfl rfl rfl rfl ⟨rfl, rfl, rfl, rfl, rfl⟩ rfl rfl rfl rfl rfl (by kernel_rfl) Try.func3 (by kernel_rfl)
    (of_decide_eq_true (by kernel_rfl)) (by unfold Func.isWrapper; first | (rw [if_pos (by decide +kernel)]; kernel_rfl) | (rw [if_neg (by decide +kernel)]; exact ⟨rfl, rfl⟩))
    (fun os started H enc _ => liftedFnLengths os started H enc)
#print axioms fnLengths_holds
end Go.Proofs.Ythhhhfpgmolcmab.lawLengths
