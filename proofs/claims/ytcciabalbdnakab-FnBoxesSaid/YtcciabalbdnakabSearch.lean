/- impl.placeIn: where a rank stands in a box, by slices.BinarySearchFunc. -/
import Derived.Test.YtcciabalbdnakabBox
set_option linter.unusedVariables false
set_option linter.unusedSimpArgs false
set_option maxRecDepth 20000
namespace Go.Proofs.Ytcciabalbdnakab
open Go.RowKit

def cmpV (x y : Int) : Int := if x < y then -1 else if y < x then 1 else 0
theorem cmpV_lt {x y : Int} (h : x < y) : cmpV x y = -1 := by simp [cmpV, h]
theorem cmpV_gt {x y : Int} (h : y < x) : cmpV x y = 1 := by rw [cmpV, if_neg (by omega), if_pos h]
theorem cmpV_eq {x y : Int} (h : x = y) : cmpV x y = 0 := by rw [cmpV, if_neg (by omega), if_neg (by omega)]
theorem isNaN64 (x : Int) (w : World) : Calls Try.prog 91 #[.int .i64 x] w fun e w' => e = .returned (.bool false) ∧ w = w' := by
  go_enter Try.func91, Try.ntmps91
  go_wp2_with fail
  go_ret
  exact ⟨by simp, rfl⟩
theorem compare64 (x y : Int) (w : World) : Calls Try.prog 86 #[.int .i64 x, .int .i64 y] w fun e w' => e = .returned (.int .i64 (cmpV x y)) ∧ w = w' := by
  go_enter Try.func86, Try.ntmps86
  go_wp2_with fail
  refine (isNaN64 x w).mono ?_
  rintro e w1 ⟨rfl, rfl⟩
  go_wp2_with fail
  refine (isNaN64 y w).mono ?_
  rintro e w1 ⟨rfl, rfl⟩
  rcases Int.lt_trichotomy x y with h | h | h
  · have HV := Lib.hid (cmpV_lt h)
    go_wp2_with fail
    go_ret
    exact ⟨by rw [HV.out]; rfl, rfl⟩
  · have HV := Lib.hid (cmpV_eq h)
    subst h
    have h1 : ¬ x < x := by omega
    go_wp2_with fail
    go_ret
    exact ⟨by rw [HV.out]; rfl, rfl⟩
  · have HV := Lib.hid (cmpV_gt h)
    have h1 : ¬ x < y := by omega
    go_wp2_with fail
    go_ret
    exact ⟨by rw [HV.out]; rfl, rfl⟩
/-- The closure: the frame's rank against the rank. -/
theorem placeFn (id : Int) (rm : Bool) (ln : Int) (a : Option Addr) (D : List Int) (c : Nat) (r : Int) (w : World) (hd : Nums a D w) :
    Calls Try.prog 85 #[frV id rm ln a D.length c, .int .i64 r] w fun e w' => e = .returned (.int .i64 (cmpV (rankV id rm ln D) r)) ∧ Below w.heap.size w w' := by
  have f0 := Four.made (.int .i64 id) (.bool rm) (.int .i64 ln) (.slice a D.length c) 26 (Below.refl w.heap.size w)
  go_enter Try.func85, Try.ntmps85
  go_wp2_with fail
  refine (implRankOf _ _ _ _ _ _ _ (hd.alloc _)).mono ?_
  rintro e w1 ⟨rfl, b1⟩
  replace f0 := f0.below b1
  obtain ⟨-, b⟩ := f0
  clear b1 hd
  go_wp2_with fail
  refine (compare64 _ _ _).mono ?_
  rintro e w2 ⟨rfl, rfl⟩
  go_wp2_with fail
  go_ret
  exact ⟨rfl, b⟩
/-- slices.BinarySearchFunc by that closure, in a box by ranks. -/
theorem searchBox (a : Option Addr) (L : List Frm) (c : Nat) (r : Int) (w : World) (hd : Frs a L w) (h16 : L.length ≤ 16) (hr : Rise L L.length) :
    Calls Try.prog 84 #[.slice a L.length c, .int .i64 r, .func (.func 85) #[] #[]] w fun e w' =>
      ∃ p, e = .returned (.tuple #[.int .i64 (p : Nat), .bool (metB L r p)]) ∧ Pos L r p ∧ Below w.heap.size w w' := by
  have hm := hd.1
  unfold maxLen at hm
  go_enter Try.func84, Try.ntmps84
  go_wp2_with fail
  go_loopw [9, 10] (fun x y wr => ∃ i j : Nat, x = .int .i64 i ∧ y = .int .i64 j ∧ i ≤ j ∧ j ≤ L.length ∧ (∀ k, k < i → rkF (nthF L k) < r) ∧ (∀ k, j ≤ k → k < L.length → r ≤ rkF (nthF L k)) ∧ Below w.heap.size w wr) (fun x y _ => (intOf y).toNat - (intOf x).toNat)
  case atStart => exact ⟨0, L.length, rfl, rfl, Nat.zero_le _, Nat.le_refl _, fun k hk => absurd hk (by omega), fun k hk hk2 => absurd hk (by omega), Below.refl _ _⟩
  case round =>
    obtain ⟨i, j, rfl, rfl, hij, hj, lo, hi, bw⟩ := hrel
    by_cases hlt : i < j
    · have hij' : (i : Int) < (j : Int) := by omega
      go_upto_region 5 with fail
      obtain ⟨m, hm2⟩ : ∃ m, m = (i + j) / 2 := ⟨_, rfl⟩
      have e1 : wrap64 ((i : Int) + (j : Int)) = (i : Int) + (j : Int) := IntWalk.wrap64_in _ (by omega)
      have e2 : IntKind.u64.wrap ((i : Int) + (j : Int)) = (i : Int) + (j : Int) := IntWalk.u64_in _ (by omega)
      have e3 : ((i : Int) + (j : Int)) / 2 = (m : Int) := by omega
      have e4 : wrap64 (m : Int) = (m : Int) := IntWalk.wrap64_in _ (by omega)
      simp only [e1, e2, e3, e4]
      clear e1 e2 e3 e4
      have hml : m < L.length := by omega
      have him : i ≤ m ∧ m < j := by omega
      clear hm2
      obtain ⟨g, o, ad, cc, rfl, ⟨c0, c1, c2, c3⟩, hn⟩ := (hd.below bw).2 m hml
      have hrk : rkF (nthF L m) = rankV (nthF L m).id (nthF L m).rm (nthF L m).ln (nthF L m).D := rfl
      have hup : rkF (nthF L m) < r → ∀ k, k < m + 1 → rkF (nthF L k) < r := fun h k hk => by
        by_cases e : k = m
        · subst e; exact h
        · have := hr.lt (show k < m by omega) hml; omega
      have hdn : ¬ rkF (nthF L m) < r → ∀ k, m ≤ k → k < L.length → r ≤ rkF (nthF L k) := fun h k hk hk2 => by
        by_cases e : k = m
        · subst e; omega
        · have := hr.lt (show m < k by omega) hk2; omega
      generalize rkF (nthF L m) = q at *
      generalize nthF L m = f at *
      obtain ⟨id, rm, ln, D⟩ := f
      simp only at c0 c1 c2 c3 hn hrk
      replace hup := Lib.hid hup
      replace hdn := Lib.hid hdn
      replace lo := Lib.hid lo
      replace hi := Lib.hid hi
      replace hrk := Lib.hid hrk
      go_wp2_with fail
      refine (placeFn _ _ _ _ _ _ _ _ hn).mono ?_
      rintro e w2 ⟨he, b2⟩
      rw [← hrk.out] at he
      subst he
      replace bw := Below.then2 bw b2
      clear b2 c0 c1 c2 c3 hn hrk
      by_cases hq : q < r
      · rw [cmpV_lt hq]
        replace hup := Lib.hid (hup.out hq)
        clear hq hdn lo
        go_wp2_with fail
        go_roundw
        case rel => exact ⟨m + 1, j, by go_num, rfl, by omega, by omega, hup.out, hi.out, bw⟩
        case measure => simp [intOf]; omega
      · have hc : ¬ cmpV q r < 0 := by unfold cmpV; rw [if_neg hq]; split <;> omega
        replace hdn := Lib.hid (hdn.out (by omega))
        clear hq hup hi
        generalize cmpV q r = z at *
        go_wp2_with fail
        go_roundw
        case rel => exact ⟨i, m, rfl, rfl, by omega, by omega, lo.out, hdn.out, bw⟩
        case measure => simp [intOf]; omega
    · obtain rfl : i = j := by omega
      have hP : Pos L r i := ⟨hj, lo, hi⟩
      clear lo hi
      by_cases hl : i < L.length
      · obtain ⟨g, o, ad, cc, rfl, ⟨c0, c1, c2, c3⟩, hn⟩ := (hd.below bw).2 i hl
        have hrk : rkF (nthF L i) = rankV (nthF L i).id (nthF L i).rm (nthF L i).ln (nthF L i).D := rfl
        have hge := hP.2.2 i (Nat.le_refl _) hl
        have HM := Lib.hid (show metB L r i = decide (rkF (nthF L i) = r) by simp [metB, hl])
        replace hP := Lib.hid hP
        generalize rkF (nthF L i) = q at *
        generalize nthF L i = f at *
        obtain ⟨id, rm, ln, D⟩ := f
        simp only at c0 c1 c2 c3 hn hrk
        replace hrk := Lib.hid hrk
        go_wp2_with fail
        refine (placeFn _ _ _ _ _ _ _ _ hn).mono ?_
        rintro e w2 ⟨he, b2⟩
        rw [← hrk.out] at he
        subst he
        replace bw := Below.then2 bw b2
        clear b2 c0 c1 c2 c3 hn hrk
        have hz : (cmpV q r == 0) = decide (q = r) := by
          by_cases e : q = r
          · rw [cmpV_eq e]; simp [e]
          · rw [cmpV_gt (by omega)]; simp [e]
        clear hge
        go_wp2_with fail
        go_ret2
        exact ⟨i, by rw [HM.out] <;> rfl, hP.out, bw⟩
      · have HM := Lib.hid (metB_end (r := r) hl)
        replace hP := Lib.hid hP
        go_wp2_with fail
        go_ret2
        exact ⟨i, by rw [HM.out] <;> rfl, hP.out, bw⟩
/-- impl.placeIn. -/
theorem placeIn (a : Option Addr) (L : List Frm) (c : Nat) (r : Int) (w : World) (hd : Frs a L w) (h16 : L.length ≤ 16) (hr : Rise L L.length) :
    Calls Try.prog 62 #[.slice a L.length c, .int .i64 r] w fun e w' =>
      ∃ p, e = .returned (.tuple #[.int .i64 (p : Nat), .bool (metB L r p)]) ∧ Pos L r p ∧ Below w.heap.size w w' := by
  go_enter Try.func62, Try.ntmps62
  go_wp2_with fail
  refine (searchBox a L c r w hd h16 hr).mono ?_
  rintro e w2 ⟨p, rfl, hP, b⟩
  go_wp2_with fail
  go_ret2
  exact ⟨p, rfl, hP, b⟩
end Go.Proofs.Ytcciabalbdnakab
