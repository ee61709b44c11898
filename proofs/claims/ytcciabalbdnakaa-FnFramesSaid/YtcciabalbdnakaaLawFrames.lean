/- Proved: at every text of bytes, the frames drawn out of it keep promise 4: two right frames of one body are one frame; a body is 19 bits and 8 a byte, its head at its front; the program's FrameOk, HeadOf, BodyOf and SameFrame answer as the model's (laws.FnFrames answers true at every argument). No condition. -/
import Derived.Test.YtcciabalbdnakaaFrPair
import Derived.Test.YtcciabalbdnakaaFrames
import Derived.Test.YtcciabalbdnakaaSame
import Derived.Test.YtcciabalbdnakaaHeld
import Derived.Test.YtcciabalbdnakaaRows
import Derived.WalkKit
import Derived.WalkSpells
import Derived.ProofKit
import Derived.OpenShut
import Derived.ShutString
import Derived.ChangeOld
import Derived.Below
import Derived.Deep.CutRange
set_option linter.unusedVariables false
set_option linter.unusedSimpArgs false
namespace Go.Proofs.Ytcciabalbdnakaa.lawFrames
open Go.ChangeShapes Go.WideShapes Go.ChangeAt Go.RowKit
open Go.ChangeMaps (open_string shut_string)

theorem own : ownKnob Try.prog.godebug = none := by kernel_rfl

/-- What stands in every world of the law's long tests: the two frames' boxes and their data. -/
def LC (w0 : World) (ga gb : Nat) (ia : Int) (xa : Bool) (la : Int) (Da : List Int) (av : Option Addr) (ca : Nat) (ib : Int) (xb : Bool) (lb : Int) (Db : List Int) (bv : Option Addr) (cb : Nat) (u : World) : Prop :=
  Four ga (.int .i64 ia) (.bool xa) (.int .i64 la) (.slice av Da.length ca) w0 u ∧ Four gb (.int .i64 ib) (.bool xb) (.int .i64 lb) (.slice bv Db.length cb) w0 u ∧ Nums av Da u ∧ Nums bv Db u
section
variable {w0 : World} {ga gb : Nat} {ia : Int} {xa : Bool} {la : Int} {Da : List Int} {av : Option Addr} {ca : Nat} {ib : Int} {xb : Bool} {lb : Int} {Db : List Int} {bv : Option Addr} {cb : Nat} {u u' : World}
theorem LC.below (h : LC w0 ga gb ia xa la Da av ca ib xb lb Db bv cb u) (b : Below u.heap.size u u') : LC w0 ga gb ia xa la Da av ca ib xb lb Db bv cb u' := ⟨h.1.below b, h.2.1.below b, h.2.2.1.below b, h.2.2.2.below b⟩
theorem LC.drew (h : LC w0 ga gb ia xa la Da av ca ib xb lb Db bv cb u) : LC w0 ga gb ia xa la Da av ca ib xb lb Db bv cb u.drew := ⟨h.1.drew, h.2.1.drew, h.2.2.1.drew, h.2.2.2.drew⟩
end

set_option maxHeartbeats 8000000 in
theorem walkFnFrames (a : Option Addr) (len cap : Nat) (w : World) (cd : Code w.heap.size a len w) :
    Calls Try.prog 3 #[.slice a len cap] w fun e w' => e = .returned (.bool true) ∧ Below w.heap.size w w' := by
  go_enter Try.func3, Try.ntmps3
  have hl := cd.1
  by_cases hbig : 4096 < len
  · go_wp2_with (go_at_call 10; refine (bigAny _ _ _ _ hl).mono ?_; rintro e w' ⟨rfl, rfl⟩)
    go_ret
    exact ⟨rfl, Below.refl _ _⟩
  go_wp2_with fail
  refine (bigAny _ _ _ _ hl).mono ?_
  rintro e w' ⟨rfl, rfl⟩
  go_wp2_with fail
  refine (drawPair _ cd (Nat.le_refl _)).mono ?_
  rintro e w1 ⟨ia, xa, la, Da, av, ca, ib, xb, lb, Db, bv, cb, rfl, nA, nB, hDa, hDb, -, -, -, -, b1⟩
  clear cd hl
  go_upto_region 4 with fail
  have L : LC w w1.heap.size (w1.heap.size + 1) ia xa la Da av ca ib xb lb Db bv cb ((w1.alloc (.cells #[.int .i64 ia, .bool xa, .int .i64 la, .slice av Da.length ca] 26)).alloc (.cells #[.int .i64 ib, .bool xb, .int .i64 lb, .slice bv Db.length cb] 26)) := by
    have f0 := Four.made (.int .i64 ia) (.bool xa) (.int .i64 la) (.slice av Da.length ca) 26 b1
    have f1 := Four.made (.int .i64 ib) (.bool xb) (.int .i64 lb) (.slice bv Db.length cb) 26 f0.2
    have hg : (w1.alloc (.cells #[.int .i64 ia, .bool xa, .int .i64 la, .slice av Da.length ca] 26)).heap.size = w1.heap.size + 1 := by simp
    rw [hg] at f1
    exact ⟨f0.alloc _, f1, (nA.alloc _).alloc _, (nB.alloc _).alloc _⟩
  generalize (w1.alloc (.cells #[.int .i64 ia, .bool xa, .int .i64 la, .slice av Da.length ca] 26)).alloc (.cells #[.int .i64 ib, .bool xb, .int .i64 lb, .slice bv Db.length cb] 26) = W at L ⊢
  clear nA nB b1
  have Lk := L
  obtain ⟨⟨⟨a0, a1, a2, a3⟩, _⟩, ⟨⟨b0, b1, b2, b3⟩, _⟩, _, _⟩ := Lk
  go_wp2_with fail
  refine (implBodyOf _ _ _ _ _ _ _ L.2.2.1).mono ?_
  rintro e w2 ⟨rfl, k2⟩
  replace L := L.below k2
  clear k2 a0 a1 a2 a3 b0 b1 b2 b3
  go_upto_region 5 with fail
  refine region_class (LC w w1.heap.size (w1.heap.size + 1) ia xa la Da av ca ib xb lb Db bv cb) (by kernel_rfl) (by kernel_rfl) L.drew ?_
  repeat first
    | go_big_quiet_skip
    | (go_big_quiet_want
       apply Exists.intro
       refine ⟨fun u hu => ?_, ?_⟩
       · apply quietAt_val
         obtain ⟨⟨⟨a0, a1, a2, a3⟩, _⟩, ⟨⟨b0, b1, b2, b3⟩, _⟩, _, _⟩ := hu
         go_simp
         rfl
       simp only [Act.put, List.setIfInBounds_toArray, List.set_cons_zero, List.set_cons_succ]
       go_big_quiet_on)
    | (go_big_quiet_want
       apply Exists.intro
       refine ⟨fun u hu => ?_, ?_⟩
       · apply quietAt_enter 13 #[frV ia xa la av Da.length ca]
         · go_simp
         · refine (specBodyOf ia xa la av Da ca u hu.2.2.1).mono ?_
           rintro e w2 ⟨rfl, b2⟩
           exact ⟨rfl, hu.below b2⟩
       simp only [Act.put, List.setIfInBounds_toArray, List.set_cons_zero, List.set_cons_succ]
       go_big_quiet_on)
    | (go_big_quiet_want
       apply Exists.intro
       refine ⟨fun u hu => ?_, ?_⟩
       · apply quietAt_enter 14 #[frV ia xa la av Da.length ca]
         · go_simp
         · refine (implHeadOf ia xa la av Da ca u hu.2.2.1).mono ?_
           rintro e w2 ⟨rfl, b2⟩
           exact ⟨rfl, hu.below b2⟩
       simp only [Act.put, List.setIfInBounds_toArray, List.set_cons_zero, List.set_cons_succ]
       go_big_quiet_on)
    | (go_big_quiet_want
       apply Exists.intro
       refine ⟨fun u hu => ?_, ?_⟩
       · apply quietAt_enter 15 #[frV ia xa la av Da.length ca]
         · go_simp
         · refine (specHeadOf ia xa la av Da ca u hu.2.2.1).mono ?_
           rintro e w2 ⟨rfl, b2⟩
           exact ⟨rfl, hu.below b2⟩
       simp only [Act.put, List.setIfInBounds_toArray, List.set_cons_zero, List.set_cons_succ]
       go_big_quiet_on)
    | (go_big_quiet_want
       apply Exists.intro
       refine ⟨fun u hu => ?_, ?_⟩
       · apply quietAt_enter 16 #[frV ia xa la av Da.length ca]
         · go_simp
         · refine (implFrameOk ia xa la av Da ca u hu.2.2.1).mono ?_
           rintro e w2 ⟨rfl, b2⟩
           exact ⟨rfl, hu.below b2⟩
       simp only [Act.put, List.setIfInBounds_toArray, List.set_cons_zero, List.set_cons_succ]
       go_big_quiet_on)
    | (go_big_quiet_want
       apply Exists.intro
       refine ⟨fun u hu => ?_, ?_⟩
       · apply quietAt_enter 17 #[frV ia xa la av Da.length ca]
         · go_simp
         · refine (specFrameOk ia xa la av Da ca u hu.2.2.1).mono ?_
           rintro e w2 ⟨rfl, b2⟩
           exact ⟨rfl, hu.below b2⟩
       simp only [Act.put, List.setIfInBounds_toArray, List.set_cons_zero, List.set_cons_succ]
       go_big_quiet_on)
    | (go_big_quiet_want
       apply Exists.intro
       refine ⟨fun u hu => ?_, ?_⟩
       · apply quietAt_enter 18 #[frV ia xa la av Da.length ca, frV ib xb lb bv Db.length cb]
         · go_simp
         · refine (implSame ia xa la av Da ca ib xb lb bv Db cb u hu.2.2.1 hu.2.2.2).mono ?_
           rintro e w2 ⟨rfl, b2⟩
           exact ⟨rfl, hu.below b2⟩
       simp only [Act.put, List.setIfInBounds_toArray, List.set_cons_zero, List.set_cons_succ]
       go_big_quiet_on)
    | (go_big_quiet_want
       apply Exists.intro
       refine ⟨fun u hu => ?_, ?_⟩
       · apply quietAt_enter 19 #[frV ia xa la av Da.length ca, frV ib xb lb bv Db.length cb]
         · go_simp
         · refine (specSame ia xa la av Da ca ib xb lb bv Db cb u hu.2.2.1 hu.2.2.2).mono ?_
           rintro e w2 ⟨rfl, b2⟩
           exact ⟨rfl, hu.below b2⟩
       simp only [Act.put, List.setIfInBounds_toArray, List.set_cons_zero, List.set_cons_succ]
       go_big_quiet_on)
  refine wpQuiet_nil ?_
  intro W2 L2
  clear L
  have Lk := L2
  obtain ⟨⟨⟨a0, a1, a2, a3⟩, _⟩, ⟨⟨b0, b1, b2, b3⟩, _⟩, _, _⟩ := Lk
  cases hok : frOk ia xa la Da with
  | false =>
    go_wp2_with fail
    refine (specFrameOk _ _ _ _ _ _ _ L2.2.2.1).mono ?_
    rintro e w3 ⟨rfl, k3⟩
    replace L2 := L2.below k3
    rw [hok, bodyV_no hok]
    clear hok
    go_wp2_with fail
    go_ret
    exact ⟨rfl, L2.1.2⟩
  | true =>
    go_wp2_with fail
    refine (specFrameOk _ _ _ _ _ _ _ L2.2.2.1).mono ?_
    rintro e w3 ⟨rfl, k3⟩
    replace L2 := L2.below k3
    clear k3 a0 a1 a2 a3 b0 b1 b2 b3
    rw [hok]
    have hn := frOk_len hok
    have hsz := body_size hok
    have hhd := body_head hok
    have hsm := body_same (i1 := ib) (r1 := xb) (l1 := lb) (D1 := Db) hok
    clear hok
    go_upto_region 9 with fail
    have h8 : IntKind.i64.wrap (8 * (Da.length : Int)) = 8 * (Da.length : Int) := IntWalk.i64_in _ (by omega)
    have hle : (19 : Int) ≤ 19 + 8 * (Da.length : Int) := by omega
    have h19 : IntKind.i64.wrap (19 + 8 * (Da.length : Int)) = 19 + 8 * (Da.length : Int) := IntWalk.i64_in _ (by omega)
    refine region_class (LC w w1.heap.size (w1.heap.size + 1) ia xa la Da av ca ib xb lb Db bv cb) (by kernel_rfl) (by kernel_rfl) L2.drew ?_
    repeat first
      | go_big_quiet_skip
      | (go_big_quiet_want
         apply Exists.intro
         refine ⟨fun u hu => ?_, ?_⟩
         · apply quietAt_val
           obtain ⟨⟨⟨a0, a1, a2, a3⟩, _⟩, ⟨⟨b0, b1, b2, b3⟩, _⟩, _, _⟩ := hu
           go_simp
           rfl
         simp only [Act.put, List.setIfInBounds_toArray, List.set_cons_zero, List.set_cons_succ]
         go_big_quiet_on)
      | (go_big_quiet_want
         apply Exists.intro
         refine ⟨fun u hu => ?_, ?_⟩
         · apply quietAt_enter 12 #[frV ib xb lb bv Db.length cb]
           · go_simp
           · refine (implBodyOf ib xb lb bv Db cb u hu.2.2.2).mono ?_
             rintro e w2 ⟨rfl, b2⟩
             exact ⟨rfl, hu.below b2⟩
         simp only [Act.put, List.setIfInBounds_toArray, List.set_cons_zero, List.set_cons_succ]
         go_big_quiet_on)
      | (go_big_quiet_want
         apply Exists.intro
         refine ⟨fun u hu => ?_, ?_⟩
         · apply quietAt_enter 18 #[frV ia xa la av Da.length ca, frV ib xb lb bv Db.length cb]
           · go_simp
           · refine (implSame ia xa la av Da ca ib xb lb bv Db cb u hu.2.2.1 hu.2.2.2).mono ?_
             rintro e w2 ⟨rfl, b2⟩
             exact ⟨rfl, hu.below b2⟩
         simp only [Act.put, List.setIfInBounds_toArray, List.set_cons_zero, List.set_cons_succ]
         go_big_quiet_on)
      | (go_big_quiet_want
         apply Exists.intro
         refine ⟨fun u hu => ?_, ?_⟩
         · apply quietAt_enter 14 #[frV ia xa la av Da.length ca]
           · go_simp
           · refine (implHeadOf ia xa la av Da ca u hu.2.2.1).mono ?_
             rintro e w2 ⟨rfl, b2⟩
             exact ⟨rfl, hu.below b2⟩
         simp only [Act.put, List.setIfInBounds_toArray, List.set_cons_zero, List.set_cons_succ]
         go_big_quiet_on)
    refine wpQuiet_nil ?_
    intro W3 L3
    go_wp2_with fail
    go_ret
    exact ⟨rfl, L3.1.2⟩

theorem laidOut : laidOutB Try.prog = true := by kernel_rfl

/-! ### The row's step of FnFrames. -/
set_option maxRecDepth 100000 in
theorem liftedFnFrames (os : Os) (started : os.Started) (H : Type) (enc : TypeId × Value → H) :
    ReturnsInHanded {} Try.checked os 3 .any (Rows.fnFramesSpec.pre6 enc Try.prog Try.f3 Rows.fnFramesRow.domain false) (Rows.fnFramesSpec.post enc Try.prog Try.f3 false true false false) := by
  refine returnsInHanded_of_change (C := Try.checked) own started (by kernel_rfl) Try.func3
    (ChangeSpec.witness6 (enc := enc) (C := Try.checked) false ⟨#[], #[.slice none 0 0], []⟩ 8 (by kernel_rfl) (by kernel_rfl) (by kernel_rfl) (by kernel_rfl)) ?_
  intro W base args ds gs before hval0 hW hcnd _
  have hval : ∀ (j : Nat) t v, Try.f3.params[j]? = some t → args[j]? = some v → Value.okWide Try.prog W .any base t v := hval0
  have hW' := hW
  obtain ⟨p, q, hA0, hV, rfl, hfz, hnd⟩ := hW
  have hA : DataW.TrodAll enc Try.prog W 0 (fun _ => true) true Try.f3.params.toList args.toList ds p := hA0
  rw [Try.params3] at hA hval
  obtain ⟨v0, vs0, d0, ds0, p0, q0, hargs, rfl, rfl, h0, r0⟩ := trodAll_cons hA
  obtain ⟨rfl, rfl, rfl⟩ := trodAll_nil r0
  obtain rfl : args = #[v0] := by cases args; simp_all
  obtain ⟨rfl, rfl⟩ := trodVars_none hV
  obtain ⟨a0, len0, cap0, rfl⟩ := okWide_slice Try.underlying22 (hval 0 22 v0 rfl rfl)
  have k0 := h0
  have lt0 : ∀ x ∈ p0, x.block < W.heap.size := by obtain ⟨m, hm⟩ := k0; exact DataW.trod_lt m _ _ _ hm
  have w0 : Code W.heap.size a0 len0 W := by
    obtain ⟨fuel, hf⟩ := h0
    rcases open_ints Try.underlying22 Try.underlying5 (by kernel_rfl) hf with ⟨hcs, _⟩ | ⟨x, l, c, zs, hcs, _, hl, hm, hz, _, hcell, hwz⟩
    · simp [Value.cells] at hcs
      obtain ⟨rfl, rfl, rfl⟩ := hcs
      exact ⟨by omega, fun j hj => absurd hj (by omega)⟩
    · simp [Value.cells] at hcs
      obtain ⟨rfl, rfl, rfl⟩ := hcs
      exact code_of hl hm (by simpa using hz) hcell hwz
  clear hA0 hval0
  refine (walkFnFrames a0 len0 cap0 W w0).mono fun e W' ⟨he, bel⟩ => ?_
  subst he
  exact ⟨_, rfl, _, _, _, [], _, [], hW', trodAll_mk1 (shut_bool Try.underlying4 _), (trodAll_cons_mk (Below.trod laidOut (by kernel_rfl) (of_decide_eq_true (by kernel_rfl)) k0 bel lt0) trodAll_mk0), rfl, bel.frame _, fun h => by cases h⟩

theorem fnFrames_holds : Rows.FnFramesSaid :=
  OpenClaim.holds_of_wide 3 Try.f3 rfl rfl rfl rfl rfl rfl rfl ⟨rfl, rfl, rfl, rfl, rfl⟩ rfl rfl rfl rfl rfl (by kernel_rfl) Try.func3 (by kernel_rfl)
    (of_decide_eq_true (by kernel_rfl)) (by unfold Func.isWrapper; first | (rw [if_pos (by decide +kernel)]; kernel_rfl) | (rw [if_neg (by decide +kernel)]; exact ⟨rfl, rfl⟩))
    (fun os started H enc _ => liftedFnFrames os started H enc)
#print axioms fnFrames_holds
end Go.Proofs.Ytcciabalbdnakaa.lawFrames
