/- Proved: laws.FnNumbers answers true at every code (the number of the bits of a number is that number; alike bits at the end are counted), and the code stays as it was. No condition. -/
import Derived.Test.YtfejoehmfobfkaaDraws1
import Derived.Test.YtfejoehmfobfkaaNum
import Derived.Test.YtfejoehmfobfkaaRun
import Derived.Test.YtfejoehmfobfkaaRows
import Derived.WalkKit
import Derived.WalkSpells
import Derived.ProofKit
import Derived.OpenShut
import Derived.ShutString
import Derived.ChangeOld
import Derived.Below
set_option linter.unusedVariables false
set_option linter.unusedSimpArgs false
namespace Go.Proofs.Ytfejoehmfobfkaa.numbers
open Go.ChangeShapes Go.WideShapes Go.ChangeAt Go.RowKit
open Go.ChangeMaps (open_string shut_string)

theorem own : ownKnob Try.prog.godebug = none := by kernel_rfl

/-! ### The number of its bits is the number. -/
theorem digs_succ (n : Int) (c : Nat) (h : 0 ≤ n) : digs n (c + 1) = digs (n / 2) c ++ [48 + n % 2] := by
  unfold digs
  rw [List.range_succ, List.map_append, List.map_singleton]
  congr 1
  · apply List.map_congr_left
    intro i hi
    have hi' : i < c := by simpa using hi
    unfold dig
    rw [show c + 1 - 1 - i = (c - 1 - i) + 1 from by omega, ← div_pow, Int.ediv_ediv_of_nonneg (Int.le_of_lt (Int.pow_pos (by decide))), Int.ediv_ediv_of_nonneg (by decide), Int.mul_comm]
  · unfold dig
    simp
theorem num_digs : ∀ (c : Nat) (n : Int), 0 ≤ n → n < 2 ^ c → num ((digs n c).map fun z => UInt8.ofNat z.toNat) = n ∧ ∀ x ∈ (digs n c).map fun z => UInt8.ofNat z.toNat, bit x = true
  | 0, n, h0, h1 => by
    simp [digs, num]; simp at h1; omega
  | c + 1, n, h0, h1 => by
    have h2 : n / 2 < 2 ^ c := by rw [Int.pow_succ] at h1; omega
    obtain ⟨i1, i2⟩ := num_digs c (n / 2) (by omega) h2
    have hx : (48 + n % 2).toNat = 48 ∨ (48 + n % 2).toNat = 49 := by omega
    have hb : ((UInt8.ofNat (48 + n % 2).toNat).toNat : Int) = 48 + n % 2 := by
      rcases hx with hx | hx <;> rw [hx] <;> simp <;> omega
    rw [digs_succ n c h0, List.map_append, List.map_singleton]
    refine ⟨?_, fun x hxm => ?_⟩
    · rw [num_snoc, i1, hb]; omega
    · rcases List.mem_append.1 hxm with hxm | hxm
      · exact i2 x hxm
      · rw [List.mem_singleton] at hxm
        subst hxm
        simp only [bit, Bool.or_eq_true, beq_iff_eq]
        omega
theorem facts {n : Int} {c : Nat} (h1 : c ≤ 32) (h0 : 0 ≤ n) (h2 : n < 2 ^ c) : (ofS n c).size = c ∧ okB (ofS n c) = true ∧ numOk (ofS n c) = true ∧ numV (ofS n c) = n := by
  obtain ⟨i1, i2⟩ := num_digs c n h0 h2
  have hs : ofS n c = strOfNums (digs n c) := ofS_yes (ofOk_yes h1 h0 h2)
  have hz : (ofS n c).size = c := by rw [hs, strOfNums_size]; simp [digs]
  have hd : (ofS n c).data.toList = (digs n c).map fun z => UInt8.ofNat z.toNat := by rw [hs, strOfNums_data]
  have hok : okB (ofS n c) = true := by
    simp only [okB, Bool.and_eq_true, List.all_eq_true, decide_eq_true_eq]
    exact ⟨by omega, by rw [hd]; exact i2⟩
  have hno := numOk_yes hok (by omega)
  exact ⟨hz, hok, hno, by rw [numV_yes hno, hd]; exact i1⟩

/-- laws.big. -/
theorem bigAny (a : Option Addr) (len cap : Nat) (w : World) (hl : len ≤ 9223372036854775807) :
    Calls Try.prog 8 #[.slice a len cap] w fun e w' => e = .returned (.bool (decide (4096 < (len : Int)))) ∧ w = w' := by
  go_enter Try.func8, Try.ntmps8
  go_wp2
  go_ret
  exact ⟨rfl, rfl⟩

theorem run0111 : runV ⟨#[48, 49, 49, 49]⟩ = 3 := by decide

set_option maxHeartbeats 1000000 in
theorem walkFnNumbers (a : Option Addr) (len cap : Nat) (w : World) (cd : Code w.heap.size a len w) :
    Calls Try.prog 3 #[.slice a len cap] w fun e w' => e = .returned (.bool true) ∧ Below w.heap.size w w' := by
  have hl := cd.1
  go_enter Try.func3, Try.ntmps3
  go_wp2_with fail
  refine (bigAny a len cap _ hl).mono ?_
  rintro e w' ⟨rfl, rfl⟩
  by_cases hbig : 4096 < (len : Int)
  · go_wp2_with fail
    go_ret
    exact ⟨rfl, Below.refl _ _⟩
  go_wp2_with fail
  refine (drawBitsOf (B := w.heap.size) _ cd (Nat.le_refl _)).mono ?_
  rintro e w1 ⟨n, c, rfl, g1, cd1⟩
  have b1 := below_new g1
  clear g1
  go_wp2_with fail
  refine (implOf n c _).mono ?_
  rintro e w2 ⟨rfl, b2⟩
  have b12 := Below.then2 b1 b2
  have cd2 := cd1.below b2 b1.size
  clear b1 b2 cd1
  go_wp2_with fail
  refine (specOf n c _).mono ?_
  rintro e w3 ⟨rfl, b3⟩
  have b13 := Below.then2 b12 b3
  have cd3 := cd2.below b3 b12.size
  clear b12 b3 cd2
  go_wp2_with fail
  refine (drawRunOf (B := w.heap.size) _ cd3 b13.size).mono ?_
  rintro e w4 ⟨u, hu, rfl, g4, cd4⟩
  have b14 := Below.then2 b13 (below_new g4)
  clear b13 g4 cd3
  go_wp2_with fail
  refine (drawBitsOk (B := w.heap.size) _ cd4 b14.size).mono ?_
  rintro e w5 ⟨x, hx, rfl, g5, cd5⟩
  have b15 := Below.then2 b14 (below_new g5)
  clear b14 g5 cd4
  go_wp2_with fail
  refine (implRun u _ (by unfold maxLen; omega)).mono ?_
  rintro e w6 ⟨rfl, b6⟩
  have b16 := Below.then2 b15 b6
  clear b15 b6
  go_wp2_with fail
  refine (specRun u _ (by unfold maxLen; omega)).mono ?_
  rintro e w7 ⟨rfl, b7⟩
  have b17 := Below.then2 b16 b7
  clear b16 b7
  go_wp2_with fail
  refine (implOk x _ (by unfold maxLen; omega)).mono ?_
  rintro e w8 ⟨rfl, b8⟩
  have b18 := Below.then2 b17 b8
  clear b17 b8
  go_wp2_with fail
  refine (specOk x _ (by unfold maxLen; omega)).mono ?_
  rintro e w9 ⟨rfl, rfl⟩
  go_wp2_with fail
  refine (implRun ⟨#[48, 49, 49, 49]⟩ _ (by unfold maxLen; decide)).mono ?_
  rintro e w10 ⟨rfl, b10⟩
  have b20 := Below.then2 b18 b10
  clear b18 b10
  have h0111 := run0111
  cases ho : ofOk n c with
  | false =>
    have hs := ofS_no ho
    clear ho
    go_wp2_with fail
    go_ret
    exact ⟨rfl, b20⟩
  | true =>
    have ho' := ho
    simp only [ofOk, Bool.and_eq_true, decide_eq_true_eq] at ho'
    obtain ⟨⟨⟨h0, h1⟩, h2⟩, h3⟩ := ho'
    obtain ⟨c, rfl⟩ := Int.eq_ofNat_of_zero_le h0
    have h3' : n < 2 ^ c := by simpa using h3
    obtain ⟨f1, f2, f3, f4⟩ := facts (c := c) (by omega) h2 h3'
    have F1 := Lib.hid f1
    clear h3 h3' f1
    generalize ofS n (c : Int) = s at f2 f3 f4 F1 ⊢
    have hs : s.size ≤ 32 := by have := F1.out; omega
    go_wp2_with fail
    refine (implNum s _ (by unfold maxLen; omega)).mono ?_
    rintro e w11 ⟨rfl, b11⟩
    have b21 := Below.then2 b20 b11
    clear b20 b11
    have hsz : ((s.size : Int) == (c : Int)) = true := by have := F1.out; simp; omega
    go_wp2_with fail
    refine (implOk s _ (by unfold maxLen; omega)).mono ?_
    rintro e w12 ⟨rfl, b12⟩
    have b22 := Below.then2 b21 b12
    clear b21 b12
    go_wp2_with fail
    go_ret
    exact ⟨rfl, b22⟩

theorem laidOut : laidOutB Try.prog = true := by kernel_rfl

/-! ### The row's step of FnNumbers. -/
set_option maxRecDepth 100000 in
theorem liftedFnNumbers (os : Os) (started : os.Started) (H : Type) (enc : TypeId × Value → H) :
    ReturnsInHanded {} Try.checked os 3 .any (Rows.fnNumbersSpec.pre6 enc Try.prog Try.f3 Rows.fnNumbersRow.domain false) (Rows.fnNumbersSpec.post enc Try.prog Try.f3 false true false false) := by
  refine returnsInHanded_of_change (C := Try.checked) own started (by kernel_rfl) Try.func3
    (ChangeSpec.witness6 (enc := enc) (C := Try.checked) false ⟨#[], #[.slice none 0 0], []⟩ 8 (by kernel_rfl) (by kernel_rfl) (by kernel_rfl) (by kernel_rfl)) ?_
  intro W base args ds gs before hval0 hW hcnd _
  have hval : ∀ (j : Nat) t v, Try.f3.params[j]? = some t → args[j]? = some v → Value.okWide Try.prog W .any base t v := hval0
  have hW' := hW
  obtain ⟨p, q, hA0, hV, rfl, hfz, hnd⟩ := hW
  have hA : DataW.TrodAll enc Try.prog W 0 (fun _ => true) true Try.f3.params.toList args.toList ds p := hA0
  rw [Try.params3] at hA hval
  obtain ⟨v0, vs0, d0, ds0, p0, q0, hargs, rfl, rfl, h0, r0⟩ := trodAll_cons hA
  obtain ⟨rfl, rfl, rfl⟩ := trodAll_nil r0
  obtain rfl : args = #[v0] := by cases args; simp_all
  obtain ⟨rfl, rfl⟩ := trodVars_none hV
  obtain ⟨a0, len0, cap0, rfl⟩ := okWide_slice Try.underlying22 (hval 0 22 v0 rfl rfl)
  have k0 := h0
  have lt0 : ∀ x ∈ p0, x.block < W.heap.size := by obtain ⟨m, hm⟩ := k0; exact DataW.trod_lt m _ _ _ hm
  have w0 : Code W.heap.size a0 len0 W := by
    obtain ⟨fuel, hf⟩ := h0
    rcases open_ints Try.underlying22 Try.underlying5 (by kernel_rfl) hf with ⟨hcs, _⟩ | ⟨x, l, c, zs, hcs, _, hl, hm, hz, _, hcell, hwz⟩
    · simp [Value.cells] at hcs
      obtain ⟨rfl, rfl, rfl⟩ := hcs
      exact ⟨by omega, fun j hj => absurd hj (by omega)⟩
    · simp [Value.cells] at hcs
      obtain ⟨rfl, rfl, rfl⟩ := hcs
      exact code_of hl hm (by simpa using hz) hcell hwz
  clear hA0 hval0
  refine (walkFnNumbers a0 len0 cap0 W w0).mono fun e W' ⟨he, bel⟩ => ?_
  subst he
  exact ⟨_, rfl, _, _, _, [], _, [], hW', trodAll_mk1 (shut_bool Try.underlying4 _), (trodAll_cons_mk (Below.trod laidOut (by kernel_rfl) (of_decide_eq_true (by kernel_rfl)) k0 bel lt0) trodAll_mk0), rfl, bel.frame _, fun h => by cases h⟩

theorem fnNumbers_holds : Rows.FnNumbersSaid :=
  OpenClaim.holds_of_wide 3 Try.f3 rfl rfl rfl rfl rfl rfl rfl ⟨rfl, rfl, rfl, rfl, rfl⟩ rfl rfl rfl rfl rfl (by kernel_rfl) Try.func3 (by kernel_rfl)
    (of_decide_eq_true (by kernel_rfl)) (by unfold Func.isWrapper; first | (rw [if_pos (by decide +kernel)]; kernel_rfl) | (rw [if_neg (by decide +kernel)]; exact ⟨rfl, rfl⟩))
    (fun os started H enc _ => liftedFnNumbers os started H enc)
#print axioms fnNumbers_holds
end Go.Proofs.Ytfejoehmfobfkaa.numbers
