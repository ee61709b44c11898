/- Proved: at every argument the program's Drives answers as the model's does (laws.FnExactDrives answers true at every argument), and the arguments stay as they were. No condition. -/
import Derived.Test.YtjlegnnekjcpmaaGreatM25
import Derived.Test.YtjlegnnekjcpmaaGreatM9
import Derived.Test.YtjlegnnekjcpmaaGreatM19
import Derived.Test.YtjlegnnekjcpmaaGreatM18
import Derived.Test.YtjlegnnekjcpmaaGreatRows
import Derived.WalkKit
import Derived.WalkSpells
import Derived.ProofKit
import Derived.OpenShut
import Derived.ShutString
import Derived.ChangeOld
import Derived.Below
import Derived.Deep.CutRange

namespace Go.Proofs.YtjlegnnekjcpmaaGreat.exDrives
open Go.ChangeShapes Go.WideShapes Go.ChangeAt Go.RowKit
set_option linter.unusedVariables false
set_option linter.unusedSimpArgs false

theorem own : ownKnob Tryz.prog.godebug = none := by kernel_rfl
theorem laidOut : laidOutB Tryz.prog = true := by kernel_rfl

set_option maxHeartbeats 4000000 in
set_option maxRecDepth 20000 in
theorem walkFnExactDrives (n : Nd) (p : NdP) (w : World) (hm : NdM n p w) :
    Calls Tryz.prog 9 #[ndV n p] w fun e w' => e = .returned (.bool true) ∧ Below w.heap.size w w' := by
  have Y := Ny.made n p (Below.refl w.heap.size w)
  go_enter Tryz.func9, Tryz.ntmps9
  go_upto_region 1 with fail
  generalize w.alloc _ = W at Y ⊢
  generalize w.heap.size = ga at Y ⊢
  go_wp2_with (refine Y.take rfl rfl rfl ?_)
  refine (szNodeAny n p 1048576 _ (hm.below Y.bel) (by omega) (by omega)).mono ?_
  rintro e w1 ⟨hz | hz, b⟩
  case inr =>
    obtain ⟨hz, rfl⟩ := hz
    have hb := Below.then2 Y.bel b
    go_wp2_with fail
    go_ret
    exact ⟨rfl, hb⟩
  obtain ⟨hz, rfl⟩ := hz
  replace Y := Y.below b
  clear b
  have hs : roomN n ≤ 1048576 := by omega
  go_wp2_with (refine Y.take rfl rfl rfl ?_)
  refine (toNodeOwn n p _ (hm.below Y.bel) hs).mono ?_
  rintro e w2 ⟨p1, _, _, _, _, _, rfl, O1, b⟩
  replace Y := Y.below b
  have M1 := O1.ndm hs
  clear b O1
  go_wp2_with fail
  refine (specDrives n p1 _ M1).mono ?_
  rintro e w3 ⟨rfl, b⟩
  replace Y := Y.below b
  clear b M1
  go_wp2_with (refine Y.take rfl rfl rfl ?_)
  refine (toNodeOwn n p _ (hm.below Y.bel) hs).mono ?_
  rintro e w4 ⟨p2, _, _, _, _, _, rfl, O2, b⟩
  replace Y := Y.below b
  have M2 := (O2.ndm hs).alloc (.cells (ndC n p2) 66)
  have X := Nx.made n p2 Y.bel
  replace Y := Y.below ((Below.refl _ _).alloc (Nat.le_refl _) (.cells (ndC n p2) 66))
  clear b O2
  go_upto_region 7 with (skip; refine wpList_lay (w := w4) (n := n) (p := p2) (C := ndZ) (by rfl) (by rfl) (by rfl) (by rfl) (by rfl) (by rfl) ?_)
  generalize w4.alloc _ = W4 at X Y M2 ⊢
  generalize w4.heap.size = gx at X ⊢
  go_wp2_with (refine X.take rfl rfl rfl ?_)
  refine (implDrives n p2 _ M2).mono ?_
  rintro e w5 ⟨rfl, b⟩
  replace Y := Y.below b
  replace X := X.below b
  replace M2 := M2.below b
  clear b
  generalize driveN n = v at *
  go_upto_region 10 with fail
  refine wp_region_held (S := fun u => Nx gx n p2 w u ∧ Ny ga n p w u) (by kernel_rfl) ?_
  replace X := X.drew'
  replace Y := Y.drew
  replace M2 : NdM n p2 { w5 with drawn := w5.drawn + 1 } := M2.drew
  generalize ({ w5 with drawn := w5.drawn + 1 } : World) = w5 at *
  refine wpAnyH_take (i := 0) (v := ndV n p2) rfl (by kernel_rfl) (by kernel_rfl) (by kernel_rfl) (fun _ _ _ h => h) (.inl ⟨rfl, fun u hu => hu.1.took rfl rfl⟩) ⟨X, Y⟩ ?_
  refine wpAnyH_take (i := 1) (v := ndV n p) rfl (by kernel_rfl) (by kernel_rfl) (by kernel_rfl) (fun _ _ _ h => h) (.inl ⟨rfl, fun u hu => hu.2.took rfl rfl⟩) ⟨X, Y⟩ ?_
  simp only [Act.put, List.setIfInBounds_toArray, List.set_cons_zero, List.set_cons_succ]
  refine held_call 2 34 #[ndV n p] rfl (by kernel_rfl) rfl (by go_simp) ?_
  refine (toNodeOwn n p _ (hm.below Y.bel) hs).mono ?_
  rintro e w6 ⟨p3, _, _, _, _, _, rfl, O3, b⟩
  replace Y := Y.below b
  replace X := X.below b
  replace M2 := M2.below b
  have M3 := O3.ndm hs
  clear b O3
  refine ⟨_, rfl, ⟨X, Y⟩, ?_⟩
  simp only [Act.put, List.setIfInBounds_toArray, List.set_cons_zero, List.set_cons_succ]
  refine held_call 3 36 #[ndV n p2, ndV n p3] rfl (by kernel_rfl) rfl (by go_simp) ?_
  refine (eqN n p2 p3 _ M2 M3).mono ?_
  rintro e w7 ⟨rfl, b⟩
  have hb := Below.then2 Y.bel b
  replace Y := Y.below b
  replace X := X.below b
  refine ⟨_, rfl, ⟨X, Y⟩, ?_⟩
  simp only [Act.put, List.setIfInBounds_toArray, List.set_cons_zero, List.set_cons_succ]
  refine held_value 4 (.bool false) rfl (by kernel_rfl) rfl (by go_simp) ⟨X, Y⟩ ?_
  refine wpAnyH_done (by kernel_rfl) ?_ _
  simp only [Act.put, List.setIfInBounds_toArray, List.set_cons_zero, List.set_cons_succ]
  go_wp2_with fail
  go_ret
  exact ⟨rfl, hb⟩

/-! ### The row's step of FnExactDrives. -/
set_option maxRecDepth 100000 in
theorem liftedFnExactDrives (os : Os) (started : os.Started) (H : Type) (enc : TypeId × Value → H) :
    ReturnsInHanded {} Tryz.checked os 9 .any (Rows.fnExactDrivesSpec.pre6 enc Tryz.prog Tryz.f9 Rows.fnExactDrivesRow.domain false) (Rows.fnExactDrivesSpec.post enc Tryz.prog Tryz.f9 false true false false) := by
  refine returnsInHanded_of_change (C := Tryz.checked) own started (by kernel_rfl) Tryz.func9
    (ChangeSpec.witness6 (enc := enc) (C := Tryz.checked) false ⟨#[], #[.agg #[.int .i64 0, .bool false, .bool false, .bool false, .int .i64 0, .bool false, .int .i64 0, .slice none 0 0, .string ⟨#[]⟩, .int .i64 0, .int .i64 0, .int .i64 0, .int .i64 0, .int .i64 0, .int .i64 0, .slice none 0 0, .slice none 0 0, .slice none 0 0]], []⟩ 8 (by kernel_rfl) (by kernel_rfl) (by kernel_rfl) (by kernel_rfl)) ?_
  intro W base args ds gs before hval0 hW hcnd _
  have hval : ∀ (j : Nat) t v, Tryz.f9.params[j]? = some t → args[j]? = some v → Value.okWide Tryz.prog W .any base t v := hval0
  have hW' := hW
  obtain ⟨p, q, hA0, hV, rfl, hfz, hnd⟩ := hW
  have hA : DataW.TrodAll enc Tryz.prog W 0 (fun _ => true) true Tryz.f9.params.toList args.toList ds p := hA0
  rw [Tryz.params9] at hA hval
  obtain ⟨v0, vs0, d0, ds0, p0, q0, hargs, rfl, rfl, h0, r0⟩ := trodAll_cons hA
  obtain ⟨rfl, rfl, rfl⟩ := trodAll_nil r0
  obtain rfl : args = #[v0] := by cases args; simp_all
  obtain ⟨rfl, rfl⟩ := trodVars_none hV
  have k0 := h0
  have lt0 : ∀ x ∈ p0, x.block < W.heap.size := by obtain ⟨m, hm⟩ := k0; exact DataW.trod_lt m _ _ _ hm
  obtain ⟨n0, q0, rfl, m0⟩ := node_open (hval 0 60 v0 rfl rfl) h0
  clear hA0 hval0
  refine (walkFnExactDrives _ _ W m0).mono fun e W' ⟨he, bel⟩ => ?_
  subst he
  exact ⟨_, rfl, _, _, _, [], _, [], hW', trodAll_mk1 (shut_bool Tryz.underlying4 _), (trodAll_cons_mk (Below.trod laidOut (by kernel_rfl) (of_decide_eq_true (by kernel_rfl)) k0 bel lt0) trodAll_mk0), rfl, bel.frame _, fun h => by cases h⟩

theorem fnExactDrives_holds : Rows.FnExactDrivesSaid :=
  OpenClaim.holds_of_wide 9 Tryz.f9 rfl rfl rfl rfl rfl rfl rfl ⟨rfl, rfl, rfl, rfl, rfl⟩ rfl rfl rfl rfl rfl (by kernel_rfl) Tryz.func9 (by kernel_rfl)
    (of_decide_eq_true (by kernel_rfl)) (by unfold Func.isWrapper; first | (rw [if_pos (by decide +kernel)]; kernel_rfl) | (rw [if_neg (by decide +kernel)]; exact ⟨rfl, rfl⟩))
    (fun os started H enc _ => liftedFnExactDrives os started H enc)
#print axioms fnExactDrives_holds
end Go.Proofs.YtjlegnnekjcpmaaGreat.exDrives
