/- Proved: laws.FnCheck answers true at every code (with its check a text of bits is right; with one bit turned over, or two, it is not), and the code stays as it was. No condition. -/
import Derived.Test.YtepopnijjbbkkaaDraws1
import Derived.Test.YtepopnijjbbkkaaDiceB
import Derived.Test.YtepopnijjbbkkaaWith
import Derived.Test.YtepopnijjbbkkaaRows
import Derived.WalkKit
import Derived.WalkSpells
import Derived.ProofKit
import Derived.OpenShut
import Derived.ShutString
import Derived.ChangeOld
import Derived.Below
set_option linter.unusedVariables false
set_option linter.unusedSimpArgs false
namespace Go.Proofs.Ytepopnijjbbkkaa.lawCheck
open Go.ChangeShapes Go.WideShapes Go.ChangeAt Go.RowKit
open Go.ChangeMaps (open_string shut_string)

theorem own : ownKnob Try.prog.godebug = none := by kernel_rfl

theorem withV_size (s : ByteArray) : (withV s).size ≤ 400 := by
  cases h : withOk s with
  | false => rw [withV_no h]; decide
  | true =>
    rw [withV_yes h, ByteArray.size_append, (tail15 _).1]
    simp only [withOk, Bool.and_eq_true, decide_eq_true_eq] at h
    omega

/-- spec.DrawCheckRight. -/
theorem drawCheckRight {B : Nat} {a : Option Addr} {len cap : Nat} (w : World) (cd : Code B a len w) (hB : B ≤ w.heap.size) :
    Calls Try.prog 16 #[.slice a len cap] w fun e w' => ∃ t : ByteArray, t.size ≤ 402 ∧ e = .returned (.string t) ∧ Below w.heap.size w w' := by
  have h01 : (⟨#[48, 49]⟩ : ByteArray).size = 2 := rfl
  go_enter Try.func16, Try.ntmps16
  go_wp2_with fail
  refine (newAny (B := B) (a := a) (len := len) (cap := cap) _ cd hB).mono ?_
  rintro e w1 ⟨rfl, g1, s1⟩
  go_wp2_with fail
  refine (belowPos (B := B) (a := a) (len := len) (cap := cap) 40 _ (by omega) (by omega) s1).mono ?_
  rintro e w2 ⟨n, n0, n1, rfl, g2, s2⟩
  go_wp2_with fail
  refine (drawBitsAny (B := B) (a := a) (len := len) (cap := cap) n 40 _ (by omega) (by omega) s2).mono ?_
  rintro e w3 ⟨t, ht, rfl, g3, s3⟩
  have G3 := grown_new g1 (grown_trans g2 g3)
  have b3 := below_new G3
  clear g1 g2 g3
  go_wp2_with fail
  refine (specWith t _ (by unfold maxLen; omega)).mono ?_
  rintro e w4 ⟨rfl, b4⟩
  have s4 := s3.below b4
  have b5 := Below.then2 b3 b4
  have hv := withV_size t
  generalize withV t = v at hv
  generalize withOk t = ok
  clear b3 b4 s3 s2 s1 ht
  go_wp2_with fail
  refine (onceAny (B := B) (a := a) (len := len) (cap := cap) 3 _ (by omega) (by omega) s4).mono ?_
  rintro e w5 ⟨b1, rfl, g5, s5⟩
  have b6 := b5.trans (below_of_grown g5 b5.size (fun k e => by cases e; exact Nat.le_refl _))
  cases b1 with
  | false =>
    go_wp2_with fail
    go_ret
    exact ⟨v, by omega, rfl, b6⟩
  | true =>
    go_wp2_with fail
    refine (bendAny (B := B) (a := a) (len := len) (cap := cap) v ⟨#[48, 49]⟩ 400 _ (by omega) (by omega) (by omega) (by omega) s5).mono ?_
    rintro e w6 ⟨t6, ht6, rfl, g6, s6⟩
    have b7 := b6.trans (below_of_grown g6 b6.size (fun k e => by cases e; exact Nat.le_refl _))
    go_wp2_with fail
    go_ret
    exact ⟨t6, by omega, rfl, b7⟩

theorem len_size (s : ByteArray) : s.data.toList.length = s.size := by simp
theorem with_facts {s : ByteArray} (h : okB s = true) (hl : s.size ≤ 79) : withOk s = true ∧ okB (withV s) = true ∧ (withV s).size = s.size + 15 ∧ crc (withV s).data.toList = 0 ∧ (withV s).extract 0 s.size = s := by
  have hw := withOk_yes h (by omega)
  obtain ⟨t1, t2, t3⟩ := facts15 (crc_lt s.data.toList)
  rw [withV_yes hw]
  have hz : (s ++ ofS (crc s.data.toList) 15).size = s.size + 15 := by rw [ByteArray.size_append, t1]
  refine ⟨hw, by rw [okB_with h]; exact decide_eq_true (by omega), hz, ?_, ?_⟩
  · rw [append_toList, crc_right _ _ (mem_bit t2) ((len_size _).trans t1)]
    exact t3.symm
  · apply ba_inj
    rw [front_list, append_toList, List.take_append_of_le_length (by simp), List.take_of_length_le (by simp)]
theorem right_of {x : ByteArray} (h : okB x = true) (hl : 15 ≤ x.size) : rightB x = decide (crc x.data.toList = 0) := by
  rw [rightB, h, decide_eq_true hl, Bool.and_self, Bool.true_and]
theorem turn_facts {x : ByteArray} {i k : Nat} (h : okB x = true) (h0 : crc x.data.toList = 0) (h15 : 15 ≤ x.size) (h94 : x.size ≤ 94) (hi : i < x.size) (hk : k < x.size) :
    rightB (turnS x i) = false ∧ rightB (turnS (turnS x i) k) = ((i : Int) == (k : Int)) := by
  have z1 := turnS_size x i
  have z2 := turnS_size (turnS x i) k
  have o1 := turnS_ok h i
  have o2 := turnS_ok o1 k
  have hl : x.data.toList.length = x.size := by simp
  constructor
  · rw [right_of o1 (by omega), decide_eq_false_iff_not, turnS_list]
    exact crc_one (mem_bit h) h0 (by omega) (by omega)
  · rw [right_of o2 (by omega), turnS_list, turnS_list, Bool.eq_iff_iff, decide_eq_true_eq, beq_iff_eq, crc_two (mem_bit h) h0 (by omega) (by omega) (by omega)]
    omega

set_option maxHeartbeats 1000000 in
theorem walkFnCheck (a : Option Addr) (len cap : Nat) (w : World) (cd : Code w.heap.size a len w) :
    Calls Try.prog 3 #[.slice a len cap] w fun e w' => e = .returned (.bool true) ∧ Below w.heap.size w w' := by
  have hl := cd.1
  go_enter Try.func3, Try.ntmps3
  go_wp2_with fail
  refine (bigAny a len cap _ hl).mono ?_
  rintro e w' ⟨rfl, rfl⟩
  by_cases hbig : 4096 < (len : Int)
  · go_wp2_with fail
    go_ret
    exact ⟨rfl, Below.refl _ _⟩
  go_wp2_with fail
  refine (rollAny (B := w.heap.size) 3 _ cd (Nat.le_refl _)).mono ?_
  rintro e w1 ⟨rfl, g1, s1⟩
  have b1 := below_new g1
  clear g1
  go_wp2_with fail
  refine (throwAny (B := w.heap.size) (a := a) (len := len) (cap := cap) 80 _ (by omega) (by omega) s1).mono ?_
  rintro e w2 ⟨n, n0, n1, rfl, g2, s2⟩
  obtain ⟨n, rfl⟩ := Int.eq_ofNat_of_zero_le n0
  have b2 := b1.trans (below_of_grown g2 b1.size (fun k e => by cases e; exact Nat.le_refl _))
  clear b1 g2 s1
  go_wp2_with fail
  refine (throwBits (B := w.heap.size) (a := a) (len := len) (cap := cap) n _ (by omega) s2).mono ?_
  rintro e w3 ⟨s, rfl, ho, rfl, g3, s3⟩
  have hs : s.size ≤ 79 := by omega
  have b3 := b2.trans (below_of_grown g3 b2.size (fun k e => by cases e; exact Nat.le_refl _))
  clear b2 g3 s2 n0 n1
  go_wp2_with fail
  refine (implWith s _ (by unfold maxLen; omega)).mono ?_
  rintro e w4 ⟨rfl, b4⟩
  have s4 := s3.below b4
  have b5 := Below.then2 b3 b4
  clear b3 b4 s3
  obtain ⟨f1, f2, f3, f4, f5⟩ := with_facts ho hs
  rw [f1]
  have F := Lib.hid (And.intro ho (And.intro f2 (And.intro f4 f5)))
  have R := Lib.hid ((right_of f2 (by omega)).trans (decide_eq_true f4))
  clear f1 f2 f4 f5 ho
  generalize withV s = x at F f3 R ⊢
  have f3 : (x.size : Int) = (s.size : Int) + 15 := by omega
  have hx : ((x.extract 0 s.size).toList == s.toList) = true := by rw [teq, decide_eq_true F.out.2.2.2]
  go_wp2_with fail
  refine (implRight x _ (by unfold maxLen; omega)).mono ?_
  rw [R.out]
  rintro e w5 ⟨rfl, b6⟩
  have b7 := Below.then2 b5 b6
  have s5 := s4.below b6
  clear b5 b6 s4
  go_wp2_with fail
  refine (implCheck s _ (by unfold maxLen; omega)).mono ?_
  rintro e w6 ⟨rfl, b8⟩
  have b9 := Below.then2 b7 b8
  have s6 := s5.below b8
  clear b7 b8 s5
  go_wp2_with fail
  refine (specCheck s _ (by unfold maxLen; omega)).mono ?_
  rintro e w' ⟨rfl, rfl⟩
  clear hx
  go_wp2_with fail
  refine (throwAny (B := w.heap.size) (a := a) (len := len) (cap := cap) _ _ (by omega) (by omega) s6).mono ?_
  rintro e w7 ⟨i, i0, i1, rfl, g7, s7⟩
  obtain ⟨i, rfl⟩ := Int.eq_ofNat_of_zero_le i0
  have b10 := b9.trans (below_of_grown g7 b9.size (fun k e => by cases e; exact Nat.le_refl _))
  clear b9 g7 s6
  go_wp2_with fail
  refine (throwAny (B := w.heap.size) (a := a) (len := len) (cap := cap) _ _ (by omega) (by omega) s7).mono ?_
  rintro e w8 ⟨k, k0, k1, rfl, g8, s8⟩
  obtain ⟨k, rfl⟩ := Int.eq_ofNat_of_zero_le k0
  have b11 := b10.trans (below_of_grown g8 b10.size (fun k e => by cases e; exact Nat.le_refl _))
  clear b10 g8 s7
  have T := Lib.hid (turn_facts (i := i) (k := k) F.out.2.1 F.out.2.2.1 (by omega) (by omega) (by omega) (by omega))
  have o1 := turnS_ok F.out.2.1 i
  have z1 := turnS_size x i
  have z2 := turnS_size (turnS x i) k
  have O := Lib.hid o1
  have hi : i < x.size := by omega
  have hk : k < (turnS x i).size := by omega
  have hx94 : x.size ≤ 94 := by omega
  have Z := Lib.hid (And.intro z1 z2)
  clear o1 z1 z2
  go_wp2_with fail
  refine (turnedAt x i _ hi F.out.2.1).mono ?_
  rintro e w9 ⟨rfl, b12⟩
  have b13 := Below.then2 b11 b12
  have s9 := s8.below b12
  clear b11 b12 s8
  go_wp2_with fail
  refine (turnedAt (turnS x i) k _ hk O.out).mono ?_
  rintro e w10 ⟨rfl, b14⟩
  have b15 := Below.then2 b13 b14
  have s10 := s9.below b14
  clear b13 b14 s9
  go_wp2_with fail
  refine (drawCheckRight (B := w.heap.size) _ s10.2 b15.size).mono ?_
  rintro e w11 ⟨u, hu, rfl, b16⟩
  have b17 := Below.then2 b15 b16
  clear b15 b16 s10
  go_wp2_with fail
  refine (implRight _ _ (by rw [Z.out.1]; unfold maxLen; omega)).mono ?_
  rw [T.out.1]
  rintro e w12 ⟨rfl, b18⟩
  have b19 := Below.then2 b17 b18
  clear b17 b18
  go_wp2_with fail
  refine (implRight _ _ (by rw [Z.out.2, Z.out.1]; unfold maxLen; omega)).mono ?_
  rw [T.out.2]
  rintro e w13 ⟨rfl, b20⟩
  have b21 := Below.then2 b19 b20
  clear b19 b20
  go_wp2_with fail
  refine (implRight u _ (by unfold maxLen; omega)).mono ?_
  rintro e w14 ⟨rfl, b22⟩
  have b23 := Below.then2 b21 b22
  clear b21 b22
  go_wp2_with fail
  refine (specRight u _ (by unfold maxLen; omega)).mono ?_
  rintro e w15 ⟨rfl, rfl⟩
  go_wp2_with fail
  go_ret
  exact ⟨rfl, b23⟩

theorem laidOut : laidOutB Try.prog = true := by kernel_rfl

/-! ### The row's step of FnCheck. -/
set_option maxRecDepth 100000 in
theorem liftedFnCheck (os : Os) (started : os.Started) (H : Type) (enc : TypeId × Value → H) :
    ReturnsInHanded {} Try.checked os 3 .any (Rows.fnCheckSpec.pre6 enc Try.prog Try.f3 Rows.fnCheckRow.domain false) (Rows.fnCheckSpec.post enc Try.prog Try.f3 false true false false) := by
  refine returnsInHanded_of_change (C := Try.checked) own started (by kernel_rfl) Try.func3
    (ChangeSpec.witness6 (enc := enc) (C := Try.checked) false ⟨#[], #[.slice none 0 0], []⟩ 8 (by kernel_rfl) (by kernel_rfl) (by kernel_rfl) (by kernel_rfl)) ?_
  intro W base args ds gs before hval0 hW hcnd _
  have hval : ∀ (j : Nat) t v, Try.f3.params[j]? = some t → args[j]? = some v → Value.okWide Try.prog W .any base t v := hval0
  have hW' := hW
  obtain ⟨p, q, hA0, hV, rfl, hfz, hnd⟩ := hW
  have hA : DataW.TrodAll enc Try.prog W 0 (fun _ => true) true Try.f3.params.toList args.toList ds p := hA0
  rw [Try.params3] at hA hval
  obtain ⟨v0, vs0, d0, ds0, p0, q0, hargs, rfl, rfl, h0, r0⟩ := trodAll_cons hA
  obtain ⟨rfl, rfl, rfl⟩ := trodAll_nil r0
  obtain rfl : args = #[v0] := by cases args; simp_all
  obtain ⟨rfl, rfl⟩ := trodVars_none hV
  obtain ⟨a0, len0, cap0, rfl⟩ := okWide_slice Try.underlying22 (hval 0 22 v0 rfl rfl)
  have k0 := h0
  have lt0 : ∀ x ∈ p0, x.block < W.heap.size := by obtain ⟨m, hm⟩ := k0; exact DataW.trod_lt m _ _ _ hm
  have w0 : Code W.heap.size a0 len0 W := by
    obtain ⟨fuel, hf⟩ := h0
    rcases open_ints Try.underlying22 Try.underlying5 (by kernel_rfl) hf with ⟨hcs, _⟩ | ⟨x, l, c, zs, hcs, _, hl, hm, hz, _, hcell, hwz⟩
    · simp [Value.cells] at hcs
      obtain ⟨rfl, rfl, rfl⟩ := hcs
      exact ⟨by omega, fun j hj => absurd hj (by omega)⟩
    · simp [Value.cells] at hcs
      obtain ⟨rfl, rfl, rfl⟩ := hcs
      exact code_of hl hm (by simpa using hz) hcell hwz
  clear hA0 hval0
  refine (walkFnCheck a0 len0 cap0 W w0).mono fun e W' ⟨he, bel⟩ => ?_
  subst he
  exact ⟨_, rfl, _, _, _, [], _, [], hW', trodAll_mk1 (shut_bool Try.underlying4 _), (trodAll_cons_mk (Below.trod laidOut (by kernel_rfl) (of_decide_eq_true (by kernel_rfl)) k0 bel lt0) trodAll_mk0), rfl, bel.frame _, fun h => by cases h⟩

theorem fnCheck_holds : Rows.FnCheckSaid :=
  OpenClaim.holds_of_wide 3 Try.f3 rfl rfl rfl rfl rfl rfl rfl ⟨rfl, rfl, rfl, rfl, rfl⟩ rfl rfl rfl rfl rfl (by kernel_rfl) Try.func3 (by kernel_rfl)
    (of_decide_eq_true (by kernel_rfl)) (by unfold Func.isWrapper; first | (rw [if_pos (by decide +kernel)]; kernel_rfl) | (rw [if_neg (by decide +kernel)]; exact ⟨rfl, rfl⟩))
    (fun os started H enc _ => liftedFnCheck os started H enc)
#print axioms fnCheck_holds
end Go.Proofs.Ytepopnijjbbkkaa.lawCheck
