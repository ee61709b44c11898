/- Proved: laws.FnStuff answers true at every code (what is stuffed has never six alike, has no more put in than MostStuffs, and is what it was when that is taken out), and the code stays as it was. No condition. -/
import Derived.Test.YthnpimflohcicaaDraws1
import Derived.Test.YthnpimflohcicaaDiceB
import Derived.Test.YthnpimflohcicaaUnst
import Derived.Test.YthnpimflohcicaaMost
import Derived.Test.YthnpimflohcicaaRun
import Derived.Test.YthnpimflohcicaaDigs
import Derived.Test.YthnpimflohcicaaRows
import Derived.WalkKit
import Derived.WalkSpells
import Derived.ProofKit
import Derived.OpenShut
import Derived.ShutString
import Derived.ChangeOld
import Derived.Below
set_option linter.unusedVariables false
set_option linter.unusedSimpArgs false
namespace Go.Proofs.Ythnpimflohcicaa.lawStuff
open Go.ChangeShapes Go.WideShapes Go.ChangeAt Go.RowKit
open Go.ChangeMaps (open_string shut_string)

theorem own : ownKnob Try.prog.godebug = none := by kernel_rfl

/-- spec.DrawMostStuffs. -/
theorem drawMost {B : Nat} {a : Option Addr} {len cap : Nat} (w : World) (cd : Code B a len w) (hB : B ≤ w.heap.size) :
    Calls Try.prog 16 #[.slice a len cap] w fun e w' => ∃ n : Int, (Lit.int .i64 n).wf = true ∧ e = .returned (.int .i64 n) ∧ Below w.heap.size w w' := by
  go_enter Try.func16, Try.ntmps16
  go_wp2_with fail
  refine (newAny (B := B) (a := a) (len := len) (cap := cap) _ cd hB).mono ?_
  rintro e w1 ⟨rfl, g1, s1⟩
  go_wp2_with fail
  refine (numAny (B := B) (a := a) (len := len) (cap := cap) 400 _ (by omega) (by omega) s1).mono ?_
  rintro e w2 ⟨n, n0, n1, rfl, g2, s2⟩
  have b2 := below_new (grown_new g1 g2)
  clear g1 g2 s1
  go_wp2_with fail
  go_ret
  exact ⟨n, Go.WalkArith.wf_i64 ⟨by omega, by omega⟩, rfl, b2⟩

theorem stuff_facts {s : ByteArray} (h : okB s = true) (hl : s.size ≤ 119) :
    stfOk s = true ∧ (stfV s).size ≤ 400 ∧ s.size ≤ (stfV s).size ∧ okB (stfV s) = true ∧ unO (stfV s) = some s.data.toList ∧ ((stfV s).size : Int) - s.size ≤ mostV s.size ∧
      ∀ i, i ≤ (stfV s).size → runV ((stfV s).extract 0 i) ≤ 5 := by
  have hz : s.data.toList.length = s.size := by simp
  have hm := stuff_most s.data.toList
  have h1 := (stuff_len s.data.toList).1
  have hst : stfOk s = true := stfOk_yes h (by omega)
  have hd : (⟨(stuffL s.data.toList).toArray⟩ : ByteArray).data.toList = stuffL s.data.toList := by simp
  rw [stfV_yes hst, arr_size]
  have hok : okB ⟨(stuffL s.data.toList).toArray⟩ = true := by
    rw [okB_iff, hd, arr_size]; exact ⟨by omega, stuff_bits _ (mem_bit h)⟩
  refine ⟨hst, by omega, by omega, hok, ?_, ?_, ?_⟩
  · rw [unO_yes hok, hd, unL_stuff _ (mem_bit h)]
  · by_cases h0 : s.size = 0
    · rw [h0]; have : (stuffL s.data.toList).length = 0 := by omega
      rw [this]; decide
    · rw [mostV_yes (by omega) (by omega)]; omega
  · intro i hi
    have hk := (okB_parts hok i (by rw [arr_size]; exact hi)).1
    rw [runV_yes hk, front_list, hd]
    have := stuff_never s.data.toList i
    omega

set_option maxHeartbeats 1000000 in
theorem walkFnStuff (a : Option Addr) (len cap : Nat) (w : World) (cd : Code w.heap.size a len w) :
    Calls Try.prog 3 #[.slice a len cap] w fun e w' => e = .returned (.bool true) ∧ Below w.heap.size w w' := by
  have hl := cd.1
  go_enter Try.func3, Try.ntmps3
  go_wp2_with fail
  refine (bigAny a len cap _ hl).mono ?_
  rintro e w' ⟨rfl, rfl⟩
  by_cases hbig : 4096 < (len : Int)
  · go_wp2_with fail
    go_ret
    exact ⟨rfl, Below.refl _ _⟩
  go_wp2_with fail
  refine (rollAny (B := w.heap.size) 4 _ cd (Nat.le_refl _)).mono ?_
  rintro e w1 ⟨rfl, g1, s1⟩
  have b1 := below_new g1
  clear g1
  go_wp2_with fail
  refine (throwAny (B := w.heap.size) (a := a) (len := len) (cap := cap) 120 _ (by omega) (by omega) s1).mono ?_
  rintro e w2 ⟨n, n0, n1, rfl, g2, s2⟩
  obtain ⟨n, rfl⟩ := Int.eq_ofNat_of_zero_le n0
  have b2 := b1.trans (below_of_grown g2 b1.size (fun k e => by cases e; exact Nat.le_refl _))
  clear b1 g2 s1
  go_wp2_with fail
  refine (throwBits (B := w.heap.size) (a := a) (len := len) (cap := cap) n _ (by omega) s2).mono ?_
  rintro e w3 ⟨s, rfl, ho, rfl, g3, s3⟩
  have hs : s.size ≤ 119 := by omega
  have b3 := b2.trans (below_of_grown g3 b2.size (fun k e => by cases e; exact Nat.le_refl _))
  clear b2 g3 s2 n0 n1
  go_wp2_with fail
  refine (implStuffed s _ (by unfold maxLen; omega)).mono ?_
  rintro e w4 ⟨rfl, b4⟩
  have s4 := s3.below b4
  have b5 := Below.then2 b3 b4
  clear b3 b4 s3
  obtain ⟨f1, f2, f3, f4, f5, f6, f7⟩ := stuff_facts ho hs
  rw [f1]
  have F5 := Lib.hid f5
  have F7 := Lib.hid f7
  clear f1 f4 f5 f7 ho
  generalize stfV s = x at f2 f3 F5 f6 F7 ⊢
  go_wp2_with fail
  refine (implUnstuffed x _ (by unfold maxLen; omega)).mono ?_
  rw [unOk_some F5.out, unV_some F5.out]
  rintro e w5 ⟨rfl, b6⟩
  have b7 := Below.then2 b5 b6
  have s5 := s4.below b6
  clear b5 b6 s4 F5
  have hy : (⟨s.data.toList.toArray⟩ : ByteArray) = s := by apply ba_inj; simp
  rw [hy]
  clear hy
  have hm : ¬ mostV s.size < (x.size : Int) - s.size := by omega
  go_wp2_with fail
  refine (implMost s.size _ (Go.WalkArith.wf_i64 ⟨by omega, by omega⟩)).mono ?_
  rintro e w6 ⟨rfl, b8⟩
  have b9 := Below.then2 b7 b8
  have s6 := s5.below b8
  clear b7 b8 s5
  generalize mostV s.size = m at hm ⊢
  go_wp2_with fail
  clear s6 hm
  go_loopw [9] (fun i wr => ∃ k : Nat, k ≤ x.size ∧ i = .int .i64 ((k : Int) + 1) ∧ Below w.heap.size w wr) (fun i _ => x.size + 1 - (intOf i).toNat)
  case atStart => exact ⟨0, Nat.zero_le _, rfl, b9⟩
  case round =>
    clear b9
    obtain ⟨k, hk, rfl, b9⟩ := hrel
    by_cases hlt : k < x.size
    · have hr := F7.out (k + 1) (by omega)
      have hx : ((k : Int) + 1).toNat = k + 1 := by omega
      have hsz : (x.extract 0 (k + 1)).size ≤ maxLen := by rw [ByteArray.size_extract]; unfold maxLen; omega
      go_wp2_with fail
      refine (implRun _ _ hsz).mono ?_
      rintro e w7 ⟨rfl, b10⟩
      have b11 := Below.then2 b9 b10
      clear b9 b10 hsz hx
      generalize runV (x.extract 0 (k + 1)) = r at hr ⊢
      go_wp2_with fail
      go_roundw
      case rel => exact ⟨k + 1, by omega, by go_num, b11⟩
      case measure => simp [intOf]; omega
    · go_wp2_with fail
      refine (drawMost (B := w.heap.size) _ (cd.below b9 (Nat.le_refl _)) b9.size).mono ?_
      rintro e w7 ⟨n, hn, rfl, b10⟩
      have b11 := Below.then2 b9 b10
      clear b9 b10
      go_wp2_with fail
      refine (implMost n _ hn).mono ?_
      rintro e w8 ⟨rfl, b12⟩
      have b13 := Below.then2 b11 b12
      clear b11 b12
      go_wp2_with fail
      refine (specMost n _ hn).mono ?_
      rintro e w9 ⟨rfl, rfl⟩
      go_wp2_with fail
      go_ret
      exact ⟨by simp, b13⟩

theorem laidOut : laidOutB Try.prog = true := by kernel_rfl

/-! ### The row's step of FnStuff. -/
set_option maxRecDepth 100000 in
theorem liftedFnStuff (os : Os) (started : os.Started) (H : Type) (enc : TypeId × Value → H) :
    ReturnsInHanded {} Try.checked os 3 .any (Rows.fnStuffSpec.pre6 enc Try.prog Try.f3 Rows.fnStuffRow.domain false) (Rows.fnStuffSpec.post enc Try.prog Try.f3 false true false false) := by
  refine returnsInHanded_of_change (C := Try.checked) own started (by kernel_rfl) Try.func3
    (ChangeSpec.witness6 (enc := enc) (C := Try.checked) false ⟨#[], #[.slice none 0 0], []⟩ 8 (by kernel_rfl) (by kernel_rfl) (by kernel_rfl) (by kernel_rfl)) ?_
  intro W base args ds gs before hval0 hW hcnd _
  have hval : ∀ (j : Nat) t v, Try.f3.params[j]? = some t → args[j]? = some v → Value.okWide Try.prog W .any base t v := hval0
  have hW' := hW
  obtain ⟨p, q, hA0, hV, rfl, hfz, hnd⟩ := hW
  have hA : DataW.TrodAll enc Try.prog W 0 (fun _ => true) true Try.f3.params.toList args.toList ds p := hA0
  rw [Try.params3] at hA hval
  obtain ⟨v0, vs0, d0, ds0, p0, q0, hargs, rfl, rfl, h0, r0⟩ := trodAll_cons hA
  obtain ⟨rfl, rfl, rfl⟩ := trodAll_nil r0
  obtain rfl : args = #[v0] := by cases args; simp_all
  obtain ⟨rfl, rfl⟩ := trodVars_none hV
  obtain ⟨a0, len0, cap0, rfl⟩ := okWide_slice Try.underlying22 (hval 0 22 v0 rfl rfl)
  have k0 := h0
  have lt0 : ∀ x ∈ p0, x.block < W.heap.size := by obtain ⟨m, hm⟩ := k0; exact DataW.trod_lt m _ _ _ hm
  have w0 : Code W.heap.size a0 len0 W := by
    obtain ⟨fuel, hf⟩ := h0
    rcases open_ints Try.underlying22 Try.underlying5 (by kernel_rfl) hf with ⟨hcs, _⟩ | ⟨x, l, c, zs, hcs, _, hl, hm, hz, _, hcell, hwz⟩
    · simp [Value.cells] at hcs
      obtain ⟨rfl, rfl, rfl⟩ := hcs
      exact ⟨by omega, fun j hj => absurd hj (by omega)⟩
    · simp [Value.cells] at hcs
      obtain ⟨rfl, rfl, rfl⟩ := hcs
      exact code_of hl hm (by simpa using hz) hcell hwz
  clear hA0 hval0
  refine (walkFnStuff a0 len0 cap0 W w0).mono fun e W' ⟨he, bel⟩ => ?_
  subst he
  exact ⟨_, rfl, _, _, _, [], _, [], hW', trodAll_mk1 (shut_bool Try.underlying4 _), (trodAll_cons_mk (Below.trod laidOut (by kernel_rfl) (of_decide_eq_true (by kernel_rfl)) k0 bel lt0) trodAll_mk0), rfl, bel.frame _, fun h => by cases h⟩

theorem fnStuff_holds : Rows.FnStuffSaid :=
  OpenClaim.holds_of_wide 3 Try.f3 rfl rfl rfl rfl rfl rfl rfl ⟨rfl, rfl, rfl, rfl, rfl⟩ rfl rfl rfl rfl rfl (by kernel_rfl) Try.func3 (by kernel_rfl)
    (of_decide_eq_true (by kernel_rfl)) (by unfold Func.isWrapper; first | (rw [if_pos (by decide +kernel)]; kernel_rfl) | (rw [if_neg (by decide +kernel)]; exact ⟨rfl, rfl⟩))
    (fun os started H enc _ => liftedFnStuff os started H enc)
#print axioms fnStuff_holds
end Go.Proofs.Ythnpimflohcicaa.lawStuff
