/- Proved: laws.FnUnstuff answers true at every code (what comes out of stuffed bits makes just these bits again), and the code stays as it was. No condition. -/
import Derived.Test.YthnpimflohcicaaDraws1
import Derived.Test.YthnpimflohcicaaSpun
import Derived.Test.YthnpimflohcicaaDigs
import Derived.Test.YthnpimflohcicaaRows
import Derived.WalkKit
import Derived.WalkSpells
import Derived.ProofKit
import Derived.OpenShut
import Derived.ShutString
import Derived.ChangeOld
import Derived.Below
set_option linter.unusedVariables false
set_option linter.unusedSimpArgs false
namespace Go.Proofs.Ythnpimflohcicaa.lawUnstuff
open Go.ChangeShapes Go.WideShapes Go.ChangeAt Go.RowKit
open Go.ChangeMaps (open_string shut_string)

theorem own : ownKnob Try.prog.godebug = none := by kernel_rfl

theorem stfV_size (s : ByteArray) : (stfV s).size ≤ 400 := by
  cases h : stfOk s with
  | false => rw [stfV_no h]; decide
  | true =>
    rw [stfV_yes h, arr_size]
    simp only [stfOk, Bool.and_eq_true, decide_eq_true_eq] at h
    exact h.2

/-- spec.DrawUnstuffed. -/
theorem drawUnstuffed {B : Nat} {a : Option Addr} {len cap : Nat} (w : World) (cd : Code B a len w) (hB : B ≤ w.heap.size) :
    Calls Try.prog 18 #[.slice a len cap] w fun e w' => ∃ t : ByteArray, t.size ≤ 500 ∧ e = .returned (.string t) ∧ Below w.heap.size w w' := by
  go_enter Try.func18, Try.ntmps18
  go_wp2_with fail
  refine (newAny (B := B) (a := a) (len := len) (cap := cap) _ cd hB).mono ?_
  rintro e w1 ⟨rfl, g1, s1⟩
  go_wp2_with fail
  refine (drawAny (B := B) (a := a) (len := len) (cap := cap) 50 _ (by omega) (by omega) s1).mono ?_
  rintro e w2 ⟨t, ht, rfl, g2, s2⟩
  have b2 := below_new (grown_new g1 g2)
  clear g1 g2 s1
  go_wp2_with fail
  refine (specStuffed t _ (by unfold maxLen; omega)).mono ?_
  rintro e w3 ⟨rfl, b3⟩
  have s3 := s2.below b3
  have b4 := Below.then2 b2 b3
  have hv := stfV_size t
  generalize stfV t = v at hv
  generalize stfOk t = ok
  clear b2 b3 s2 ht
  cases ok with
  | false =>
    go_wp2_with fail
    refine (drawAny (B := B) (a := a) (len := len) (cap := cap) 30 _ (by omega) (by omega) s3).mono ?_
    rintro e w4 ⟨u, hu, rfl, g4, s4⟩
    have b5 := b4.trans (below_of_grown g4 b4.size (fun k e => by cases e; exact Nat.le_refl _))
    go_wp2_with fail
    go_ret
    exact ⟨u, hu, rfl, b5⟩
  | true =>
    go_wp2_with fail
    refine (onceAny (B := B) (a := a) (len := len) (cap := cap) 4 _ (by omega) (by omega) s3).mono ?_
    rintro e w5 ⟨b1, rfl, g5, s5⟩
    have b6 := b4.trans (below_of_grown g5 b4.size (fun k e => by cases e; exact Nat.le_refl _))
    cases b1 with
    | false =>
      go_wp2_with fail
      go_ret
      exact ⟨v, by omega, rfl, b6⟩
    | true =>
      go_wp2_with fail
      refine (drawAny (B := B) (a := a) (len := len) (cap := cap) 30 _ (by omega) (by omega) s5).mono ?_
      rintro e w7 ⟨u, hu, rfl, g7, s7⟩
      have b8 := b6.trans (below_of_grown g7 b6.size (fun k e => by cases e; exact Nat.le_refl _))
      go_wp2_with fail
      go_ret
      exact ⟨u, hu, rfl, b8⟩

theorem un_facts {s : ByteArray} {o : List UInt8} (h : unO s = some o) : (⟨o.toArray⟩ : ByteArray).size ≤ 400 ∧ stfOk ⟨o.toArray⟩ = true ∧ stfV ⟨o.toArray⟩ = s := by
  unfold unO at h
  cases hb : okB s with
  | false => rw [hb] at h; cases h
  | true =>
    rw [hb, if_pos rfl] at h
    obtain ⟨e, ha⟩ := unL_back (mem_bit hb) h
    have h5 : unP s.data.toList = some o := by unfold unL at h; split at h; · cases h
                                               · exact h
    have hl := unP_len _ _ h5
    have hs := okB_size hb
    have h4 : s.data.toList.length = s.size := by simp
    have hz : (⟨o.toArray⟩ : ByteArray).size ≤ 400 := by rw [arr_size]; omega
    have hd : (⟨o.toArray⟩ : ByteArray).data.toList = o := by simp
    have hok : okB ⟨o.toArray⟩ = true := by
      rw [okB_iff, hd]; exact ⟨hz, ha⟩
    have hst : stfOk ⟨o.toArray⟩ = true := stfOk_yes hok (by rw [hd, e]; omega)
    refine ⟨hz, hst, ?_⟩
    rw [stfV_yes hst]
    apply ba_inj
    rw [hd, e]

theorem walkFnUnstuff (a : Option Addr) (len cap : Nat) (w : World) (cd : Code w.heap.size a len w) :
    Calls Try.prog 4 #[.slice a len cap] w fun e w' => e = .returned (.bool true) ∧ Below w.heap.size w w' := by
  have hl := cd.1
  go_enter Try.func4, Try.ntmps4
  go_wp2_with fail
  refine (bigAny a len cap _ hl).mono ?_
  rintro e w' ⟨rfl, rfl⟩
  by_cases hbig : 4096 < (len : Int)
  · go_wp2_with fail
    go_ret
    exact ⟨rfl, Below.refl _ _⟩
  go_wp2_with fail
  refine (drawUnstuffed (B := w.heap.size) _ cd (Nat.le_refl _)).mono ?_
  rintro e w1 ⟨s, hs, rfl, b1⟩
  go_wp2_with fail
  refine (implUnstuffed s _ (by unfold maxLen; omega)).mono ?_
  rintro e w2 ⟨rfl, b2⟩
  have b3 := Below.then2 b1 b2
  clear b1 b2
  go_wp2_with fail
  refine (specUnstuffed s _ (by unfold maxLen; omega)).mono ?_
  rintro e w3 ⟨rfl, b4⟩
  have b5 := Below.then2 b3 b4
  clear b3 b4
  cases hu : unO s with
  | none =>
    rw [unOk_none hu, unV_none hu]
    clear hu
    go_wp2_with fail
    go_ret
    exact ⟨rfl, b5⟩
  | some o =>
    rw [unOk_some hu, unV_some hu]
    obtain ⟨f1, f2, f3⟩ := un_facts hu
    clear hu
    generalize (⟨o.toArray⟩ : ByteArray) = x at f1 f2 f3 ⊢
    go_wp2_with fail
    refine (implStuffed x _ (by unfold maxLen; omega)).mono ?_
    rw [f2, f3]
    rintro e w6 ⟨rfl, b6⟩
    have b7 := Below.then2 b5 b6
    clear b5 b6 f2 f3
    go_wp2_with fail
    go_ret
    exact ⟨rfl, b7⟩

theorem laidOut : laidOutB Try.prog = true := by kernel_rfl

/-! ### The row's step of FnUnstuff. -/
set_option maxRecDepth 100000 in
theorem liftedFnUnstuff (os : Os) (started : os.Started) (H : Type) (enc : TypeId × Value → H) :
    ReturnsInHanded {} Try.checked os 4 .any (Rows.fnUnstuffSpec.pre6 enc Try.prog Try.f4 Rows.fnUnstuffRow.domain false) (Rows.fnUnstuffSpec.post enc Try.prog Try.f4 false true false false) := by
  refine returnsInHanded_of_change (C := Try.checked) own started (by kernel_rfl) Try.func4
    (ChangeSpec.witness6 (enc := enc) (C := Try.checked) false ⟨#[], #[.slice none 0 0], []⟩ 8 (by kernel_rfl) (by kernel_rfl) (by kernel_rfl) (by kernel_rfl)) ?_
  intro W base args ds gs before hval0 hW hcnd _
  have hval : ∀ (j : Nat) t v, Try.f4.params[j]? = some t → args[j]? = some v → Value.okWide Try.prog W .any base t v := hval0
  have hW' := hW
  obtain ⟨p, q, hA0, hV, rfl, hfz, hnd⟩ := hW
  have hA : DataW.TrodAll enc Try.prog W 0 (fun _ => true) true Try.f4.params.toList args.toList ds p := hA0
  rw [Try.params4] at hA hval
  obtain ⟨v0, vs0, d0, ds0, p0, q0, hargs, rfl, rfl, h0, r0⟩ := trodAll_cons hA
  obtain ⟨rfl, rfl, rfl⟩ := trodAll_nil r0
  obtain rfl : args = #[v0] := by cases args; simp_all
  obtain ⟨rfl, rfl⟩ := trodVars_none hV
  obtain ⟨a0, len0, cap0, rfl⟩ := okWide_slice Try.underlying22 (hval 0 22 v0 rfl rfl)
  have k0 := h0
  have lt0 : ∀ x ∈ p0, x.block < W.heap.size := by obtain ⟨m, hm⟩ := k0; exact DataW.trod_lt m _ _ _ hm
  have w0 : Code W.heap.size a0 len0 W := by
    obtain ⟨fuel, hf⟩ := h0
    rcases open_ints Try.underlying22 Try.underlying5 (by kernel_rfl) hf with ⟨hcs, _⟩ | ⟨x, l, c, zs, hcs, _, hl, hm, hz, _, hcell, hwz⟩
    · simp [Value.cells] at hcs
      obtain ⟨rfl, rfl, rfl⟩ := hcs
      exact ⟨by omega, fun j hj => absurd hj (by omega)⟩
    · simp [Value.cells] at hcs
      obtain ⟨rfl, rfl, rfl⟩ := hcs
      exact code_of hl hm (by simpa using hz) hcell hwz
  clear hA0 hval0
  refine (walkFnUnstuff a0 len0 cap0 W w0).mono fun e W' ⟨he, bel⟩ => ?_
  subst he
  exact ⟨_, rfl, _, _, _, [], _, [], hW', trodAll_mk1 (shut_bool Try.underlying4 _), (trodAll_cons_mk (Below.trod laidOut (by kernel_rfl) (of_decide_eq_true (by kernel_rfl)) k0 bel lt0) trodAll_mk0), rfl, bel.frame _, fun h => by cases h⟩

theorem fnUnstuff_holds : Rows.FnUnstuffSaid :=
  OpenClaim.holds_of_wide 4 Try.f4 rfl rfl rfl rfl rfl rfl rfl ⟨rfl, rfl, rfl, rfl, rfl⟩ rfl rfl rfl rfl rfl (by kernel_rfl) Try.func4 (by kernel_rfl)
    (of_decide_eq_true (by kernel_rfl)) (by unfold Func.isWrapper; first | (rw [if_pos (by decide +kernel)]; kernel_rfl) | (rw [if_neg (by decide +kernel)]; exact ⟨rfl, rfl⟩))
    (fun os started H enc _ => liftedFnUnstuff os started H enc)
#print axioms fnUnstuff_holds
end Go.Proofs.Ythnpimflohcicaa.lawUnstuff
