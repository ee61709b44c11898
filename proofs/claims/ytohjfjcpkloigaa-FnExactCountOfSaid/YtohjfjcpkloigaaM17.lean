/- Contract of the model's l16Bound. -/
import Derived.Test.YtohjfjcpkloigaaM9

set_option linter.unusedVariables false
set_option linter.unusedSimpArgs false
set_option maxRecDepth 20000
namespace Go.Proofs.Ytohjfjcpkloigaa
open Go.RowKit

set_option maxHeartbeats 8000000 in
/-- spec.l16Bound. -/
theorem specBoundN (a : Option Addr) (T : List Ms) (c i : Nat) (w : World) (hd : Tbl a T w) (hi : i < T.length) (h0 : codeT T = 0) :
    Calls Try.prog 43 #[.slice a T.length c, .int .i64 (i : Int)] w fun e w' => e = .returned (.tuple #[.int .i64 (someR (boundV T i)).1, .bool (someR (boundV T i)).2]) ∧ Below w.heap.size w w' := by
  obtain ⟨hl, hT, -⟩ := codeT_iff.1 h0
  have hcn : countR T (i : Int) = countN T i := by
    unfold countR
    rw [if_pos (hasM_iff.2 ⟨h0, by omega, by omega⟩), Int.toNat_natCast]
  have H1 := Lib.hid (fun w h => specCountOf a T c (i : Int) w h)
  rw [hcn] at H1
  have hnb := countN_bd hT hi
  have HW := Lib.hid (fun (q : Int) w h hq => specWaitN a T c i q w h hi h0 hq)
  have hwb := Lib.hid (fun (q w : Int) (hq : 0 ≤ q) (h : waitV T i q = some w) => (waitV_some hT hi hq h).2.2.1)
  have hwl := Lib.hid (fun (q w : Int) (hq : 0 ≤ q) (h : waitV T i q = some w) => (waitV_some hT hi hq h).2.1)
  have hbb := Lib.hid (fun n b h => boundN_bd hT hi n b h)
  have hV := Lib.hid (show boundV T i = if 0 < countN T i then boundN T i (countN T i).toNat else none from rfl)
  have hok := allM_at hT hi
  have hcc := costV_ok hok
  obtain ⟨-, hsz, hpe, hji, -, -⟩ := mgOk_iff.1 hok
  have HC := Lib.hid (fun w => specCostOf (nthTb T i) w (Go.WalkArith.wf_i64 ⟨by omega, by omega⟩))
  obtain ⟨BV, hBV⟩ : ∃ r, boundV T i = r := ⟨_, rfl⟩
  rw [hBV] at hV ⊢
  clear hBV hcn hok hsz
  replace hT := Lib.hid hT
  have hblk := blockN_bd T i T.length
  have hwb0 := Lib.hid (fun (q : Int) (hq : 0 ≤ q) => (show 0 ≤ waitB T i q by have := Int.mul_nonneg hq (show 0 ≤ costV (nthTb T i) by omega); unfold waitB; omega))
  clear hblk
  go_enter Try.func43, Try.ntmps43
  go_wp2_with fail
  refine (H1.out _ hd).mono ?_
  rintro e w1 ⟨rfl, b⟩
  replace hd := hd.below b
  clear H1
  generalize countN T i = n at *
  go_wp2_with fail
  go_loopw [7, 8] (fun best q wr => ∃ (k : Nat) (bb : Int), q = .int .i64 (k : Int) ∧ best = .int .i64 bb ∧ k ≤ n.toNat ∧ boundN T i k = some bb ∧ Below w1.heap.size w1 wr) (fun _ q _ => (n - Go.RowKit.intOf q).toNat)
  case atStart => exact ⟨0, 0, rfl, rfl, Nat.zero_le _, rfl, Below.refl _ _⟩
  case round =>
    obtain ⟨k, bb, rfl, rfl, hk, hb, p⟩ := hrel
    have hbd := hbb.out k bb hb
    by_cases hkn : (k : Int) < n
    · go_wp2_with fail
      refine (HW.out (k : Int) _ (hd.below p) ⟨by omega, by omega⟩).mono ?_
      rintro e w2 ⟨rfl, b2⟩
      replace p := Below.then2 p b2
      clear b2
      cases hw : waitV T i (k : Int) with
      | none =>
        have hN : boundN T i n.toNat = none := boundN_none (q := k) (by omega) hw
        have hR := Lib.hid (hV.out.trans ((if_pos (show 0 < n by omega)).trans hN))
        simp only [someR]
        clear hN hw
        go_wp2_with fail
        rw [hR.out]
        exact bodyPost_ret (v := .tuple #[.int .i64 0, .bool false]) (by simp [results, Try.results43, go_sem]) rfl ⟨rfl, b.trans (p.mono b.size)⟩
      | some x =>
        have hx1 := hwb.out (k : Int) x (by omega) hw
        have hx2 := hwl.out (k : Int) x (by omega) hw
        have hx3 := hwb0.out (k : Int) (by omega)
        have hnx := Lib.hid (boundN_step hb hw)
        simp only [someR]
        clear hw hb
        obtain ⟨g, o, rfl, hc⟩ := (hd.below p).2 i hi
        have hkp : 0 ≤ (k : Int) * (nthTb T i).pe ∧ (k : Int) * (nthTb T i).pe ≤ 120000 * 20000 := ⟨Int.mul_nonneg (by omega) (by omega), Int.mul_le_mul (by omega) hpe.2 (by omega) (by omega)⟩
        have hiI : (i : Int) < T.length := by omega
        generalize nthTb T i = m at *
        generalize costV m = cc at *
        obtain ⟨id, sz, pe, ji, de, no⟩ := m
        try dsimp only at *
        have wr1 : IntKind.i64.wrap (ji + x) = ji + x := by rw [IntKind.wrap_i64]; omega
        have wr2 : IntKind.i64.wrap ((k : Int) * pe) = k * pe := by rw [IntKind.wrap_i64]; omega
        have wr3 : IntKind.i64.wrap (ji + x - k * pe) = ji + x - k * pe := by rw [IntKind.wrap_i64]; omega
        have wr4 : IntKind.i64.wrap (ji + x - k * pe + cc) = ji + x - k * pe + cc := by rw [IntKind.wrap_i64]; omega
        go_upto_region 9 with fail
        refine region_class (fun u => MsC g (o + i * 6) ⟨id, sz, pe, ji, de, no⟩ u ∧ Below w1.heap.size w1 u) (by kernel_rfl) (by kernel_rfl) ⟨hc, p.drew⟩ ?_
        clear hc p
        repeat first
          | go_big_quiet_skip
          | (go_big_quiet_want
             apply Exists.intro
             refine ⟨fun u hu => ?_, ?_⟩
             · apply quietAt_val
               obtain ⟨⟨c0, c1, c2, c3, c4, c5⟩, _⟩ := hu
               go_simp
               rfl
             simp only [Act.put, List.setIfInBounds_toArray, List.set_cons_zero, List.set_cons_succ]
             go_big_quiet_on)
          | (go_big_quiet_want
             apply Exists.intro
             refine ⟨fun u hu => ?_, ?_⟩
             · apply quietAt_enter 72 #[mgV ⟨id, sz, pe, ji, de, no⟩]
               · go_simp
               · refine (HC.out u).mono ?_
                 rintro e w2 ⟨rfl, b2⟩
                 exact ⟨rfl, hu.1.below b2 hu.1.lt, Below.then2 hu.2 b2⟩
             simp only [Act.put, List.setIfInBounds_toArray, List.set_cons_zero, List.set_cons_succ]
             go_big_quiet_on)
          | (go_big_quiet_want
             apply Exists.intro
             refine ⟨fun u hu => ?_, ?_⟩
             · apply quietAt_enter 71 #[.int .i64 bb, .int .i64 (ji + x - k * pe + cc)]
               · go_simp
               · refine (l1MaxV bb (ji + x - k * pe + cc) u).mono ?_
                 rintro e w2 ⟨rfl, rfl⟩
                 exact ⟨rfl, hu⟩
             simp only [Act.put, List.setIfInBounds_toArray, List.set_cons_zero, List.set_cons_succ]
             go_big_quiet_on)
        refine wpQuiet_nil ?_
        intro W2 L2
        have p := L2.2
        clear L2
        go_wp2_with fail
        go_roundw
        case rel => exact ⟨k + 1, _, by go_num, rfl, by omega, hnx.out, p⟩
        case measure => simp [Go.RowKit.intOf]; omega
    · by_cases hn : 0 < n
      · have hkk : k = n.toNat := by omega
        have hR := Lib.hid (show BV = some bb from hV.out.trans ((if_pos hn).trans (hkk ▸ hb)))
        clear hb hkk
        go_wp2_with fail
        rw [hR.out]
        exact bodyPost_ret (v := .tuple #[.int .i64 bb, .bool true]) (by simp [results, Try.results43, go_sem]) rfl ⟨rfl, b.trans (p.mono b.size)⟩
      · have hk0 : k = 0 := by omega
        subst hk0
        have hb0 : bb = 0 := by cases hb; rfl
        subst hb0
        have hR := Lib.hid (hV.out.trans (if_neg hn))
        clear hb
        go_wp2_with fail
        rw [hR.out]
        exact bodyPost_ret (v := .tuple #[.int .i64 0, .bool false]) (by simp [results, Try.results43, go_sem]) rfl ⟨rfl, b.trans (p.mono b.size)⟩
end Go.Proofs.Ytohjfjcpkloigaa

/- Contract of the model's Admitted. -/

set_option linter.unusedVariables false
set_option linter.unusedSimpArgs false
set_option maxRecDepth 20000
namespace Go.Proofs.Ytohjfjcpkloigaa
open Go.RowKit

theorem admK_all {T : List Ms} {k : Nat} (h : admK T k = true) {n : Int} (hb : boundV T k = some n) (hn : n ≤ (nthTb T k).de) : admK T (k + 1) = true := by rw [admK, h, hb]; simpa using hn
set_option maxHeartbeats 8000000 in
/-- spec.Admitted. -/
theorem specAdmitted (a : Option Addr) (T : List Ms) (c : Nat) (w : World) (hd : Tbl a T w) :
    Calls Try.prog 38 #[.slice a T.length c] w fun e w' => e = .returned (.bool (admV T)) ∧ Below w.heap.size w w' := by
  have HR := Lib.hid (show admV T = (decide (codeT T = 0) && admK T T.length) from rfl)
  generalize admV T = R at HR ⊢
  have H1 := Lib.hid (fun w h => specCodeOf a T c w h)
  go_enter Try.func38, Try.ntmps38
  go_wp2_with fail
  refine (H1.out _ hd).mono ?_
  rintro e w1 ⟨rfl, b⟩
  replace hd := hd.below b
  clear H1
  by_cases h0 : codeT T = 0
  · have HV := Lib.hid (show R = admK T T.length from HR.out.trans (by rw [h0]; rfl))
    have hl := (codeT_iff.1 h0).1
    have HB := Lib.hid (fun (i : Nat) w h hi => specBoundN a T c i w h hi h0)
    rw [h0]
    clear h0 HR
    go_wp2_with fail
    go_loopw [3] (fun q wr => ∃ k : Nat, q = .int .i64 (k : Int) ∧ k ≤ T.length ∧ admK T k = true ∧ Below w1.heap.size w1 wr) (fun q _ => (T.length - Go.RowKit.intOf q).toNat)
    case atStart => exact ⟨0, rfl, Nat.zero_le _, rfl, Below.refl _ _⟩
    case round =>
      obtain ⟨k, rfl, hk, ha, p⟩ := hrel
      by_cases hkl : k < T.length
      · have hkI : (k : Int) < T.length := by omega
        go_wp2_with fail
        refine (HB.out k _ (hd.below p) hkl).mono ?_
        rintro e w2 ⟨rfl, b2⟩
        replace p := Below.then2 p b2
        clear b2
        cases hb : boundV T k with
        | none =>
          have hR := Lib.hid (show R = false from HV.out.trans (admK_no hkl (by rw [hb])))
          simp only [someR]
          clear hb ha
          go_wp2_with fail
          go_ret
          exact ⟨by rw [hR.out] <;> rfl, b.trans (p.mono b.size)⟩
        | some n =>
          obtain ⟨g, o, rfl, c0, c1, c2, c3, c4, c5⟩ := (hd.below p).2 k hkl
          simp only [someR]
          by_cases hn : n ≤ (nthTb T k).de
          · have hnx := Lib.hid (admK_all ha hb hn)
            generalize (nthTb T k).de = de at *
            have hno : ¬ de < n := by omega
            clear hb ha c0 c1 c2 c3 c5
            go_wp2_with fail
            go_roundw
            case rel => exact ⟨k + 1, by go_num, by omega, hnx.out, p⟩
            case measure => simp [Go.RowKit.intOf]; omega
          · have hR := Lib.hid (show R = false from HV.out.trans (admK_no hkl (by rw [hb]; simpa using hn)))
            generalize (nthTb T k).de = de at *
            have hno : de < n := by omega
            clear hb ha c0 c1 c2 c3 c5
            go_wp2_with fail
            go_ret
            exact ⟨by rw [hR.out] <;> rfl, b.trans (p.mono b.size)⟩
      · have hkI : ¬ (k : Int) < T.length := by omega
        have hkk : k = T.length := by omega
        have hR := Lib.hid (show R = true from HV.out.trans (hkk ▸ ha))
        clear ha hkk
        go_wp2_with fail
        go_ret
        exact ⟨by rw [hR.out] <;> rfl, b.trans (p.mono b.size)⟩
  · have HV := Lib.hid (show R = false from HR.out.trans (by simp [h0]))
    generalize codeT T = q at h0
    go_wp2_with fail
    go_ret
    exact ⟨by rw [HV.out] <;> rfl, b⟩
end Go.Proofs.Ytohjfjcpkloigaa

/- Bounds, the model: BlockOf, DemandOf, BusyOf, WaitOf, BoundOf. -/

set_option linter.unusedVariables false
set_option linter.unusedSimpArgs false
set_option maxRecDepth 20000
namespace Go.Proofs.Ytohjfjcpkloigaa
open Go.RowKit

/-- spec.BlockOf. -/
theorem specBlockOf (a : Option Addr) (T : List Ms) (c : Nat) (i : Int) (w : World) (hd : Tbl a T w) :
    Calls Try.prog 28 #[.slice a T.length c, .int .i64 i] w fun e w' => e = .returned (.int .i64 (blockV T i)) ∧ Below w.heap.size w w' := by
  have HR := Lib.hid (show blockV T i = if hasM T i = true then blockN T i.toNat T.length else -1 from rfl)
  generalize blockV T i = R at HR ⊢
  have H1 := Lib.hid (fun w h => specHasM a T c i w h)
  go_enter Try.func28, Try.ntmps28
  go_wp2_with fail
  refine (H1.out _ hd).mono ?_
  rintro e w1 ⟨rfl, b⟩
  replace hd := hd.below b
  clear H1
  cases hh : hasM T i with
  | false =>
    have HV := Lib.hid (HR.out.trans (if_neg (by simp [hh])))
    clear hh
    go_wp2_with fail
    go_ret
    exact ⟨by rw [HV.out] <;> rfl, b⟩
  | true =>
    have HV := Lib.hid (HR.out.trans (if_pos hh))
    obtain ⟨h0, hi0, hi1⟩ := hasM_iff.1 hh
    clear hh HR
    obtain ⟨i, rfl⟩ := Int.eq_ofNat_of_zero_le hi0
    simp only [Int.toNat_natCast] at HV
    obtain ⟨hl, hT, -⟩ := codeT_iff.1 h0
    have H2 := Lib.hid (fun w h => specBlockN a T c i w h (by omega) hl.2 hT)
    clear h0 hT
    generalize blockN T i T.length = bk at *
    go_wp2_with fail
    refine (H2.out _ hd).mono ?_
    rintro e w2 ⟨rfl, b2⟩
    replace b := Below.then2 b b2
    go_wp2_with fail
    go_ret
    exact ⟨by rw [HV.out] <;> rfl, b⟩
set_option maxHeartbeats 4000000 in
/-- spec.DemandOf. -/
theorem specDemandOf (a al : Option Addr) (T : List Ms) (L : List Int) (c cl : Nat) (t : Int) (w : World) (hd : Tbl a T w) (hn : Nums al L w) (hL : L.length ≤ 1500000) :
    Calls Try.prog 35 #[.slice a T.length c, .slice al L.length cl, .int .i64 t] w fun e w' => e = .returned (.int .i64 (demandV T L t)) ∧ Below w.heap.size w w' := by
  have hm := hd.1
  unfold maxLen at hm
  have hno : ¬ (codeT T = 0 ∧ (0 ≤ t ∧ t ≤ 100000) ∧ placesOk T L) → demandV T L t = -1 := fun h => if_neg h
  have hyes : codeT T = 0 → 0 ≤ t ∧ t ≤ 100000 → placesOk T L → demandV T L t = demK T L t L.length := fun h1 h2 h3 => demandV_yes h1 h2 h3
  replace hno := Lib.hid hno
  replace hyes := Lib.hid hyes
  have H1 := Lib.hid (fun w h => specCodeOf a T c w h)
  generalize demandV T L t = R at hno hyes ⊢
  go_enter Try.func35, Try.ntmps35
  go_wp2_with fail
  refine (H1.out _ hd).mono ?_
  rintro e w1 ⟨rfl, b⟩
  replace hd := hd.below b
  replace hn := hn.below b
  clear H1
  by_cases h0 : codeT T = 0
  · have hT := Lib.hid (codeT_iff.1 h0).2.1
    have hl := (codeT_iff.1 h0).1
    replace hyes := Lib.hid (hyes.out h0)
    have hno2 := Lib.hid (fun (h : ¬ ((0 ≤ t ∧ t ≤ 100000) ∧ placesOk T L)) => hno.out (fun h' => h h'.2))
    rw [h0]
    clear h0 hno
    go_wp2_with fail
    refine (l1InMs _ _ _ _).mono ?_
    rintro e w2 ⟨rfl, rfl⟩
    cases hr : rng t 0 100000 with
    | false =>
      have hE := Lib.hid (hno2.out (fun h => by rw [rng_iff.2 h.1] at hr; cases hr))
      clear hr hno2 hyes
      go_wp2_with fail
      go_ret
      exact ⟨by rw [hE.out] <;> rfl, b⟩
    | true =>
      have ht := rng_iff.1 hr
      replace hyes := Lib.hid (hyes.out ht)
      replace hno2 := Lib.hid (fun (h : ¬ placesOk T L) => hno2.out (fun h' => h h'.2))
      clear hr
      go_wp2_with fail
      go_loopw [7] (fun k wr => ∃ j : Nat, j ≤ L.length ∧ k = .int .i64 j ∧ (∀ q, q < j → 0 ≤ L.getD q 0 ∧ L.getD q 0 < T.length) ∧ Below w1.heap.size w1 wr) (fun k _ => L.length - (intOf k).toNat)
      case atStart => exact ⟨0, Nat.zero_le _, rfl, fun q hq => absurd hq (Nat.not_lt_zero _), Below.refl _ _⟩
      case round =>
        obtain ⟨j, hj, rfl, hp, p⟩ := hrel
        by_cases hlt : j < L.length
        · obtain ⟨gl, ol, rfl, l0⟩ := (hn.below p).2.2 j hlt
          replace l0 : wr.cell? ⟨gl, ol + j, none⟩ = some (.int .i64 (L.getD j 0)) := l0
          have hpj : ∀ q, q < j + 1 → (0 ≤ L.getD j 0 ∧ L.getD j 0 < T.length) → 0 ≤ L.getD q 0 ∧ L.getD q 0 < T.length := fun q hq h => by
            by_cases e : q = j
            · rw [e]; exact h
            · exact hp q (by omega)
          have hnp : ¬ (0 ≤ L.getD j 0 ∧ L.getD j 0 < T.length) → ¬ placesOk T L := fun h h' => h (h' j hlt)
          replace hpj := Lib.hid hpj
          replace hnp := Lib.hid hnp
          clear hp
          generalize L.getD j 0 = q at *
          have hltI : (j : Int) < L.length := by omega
          have wr1 : IntKind.i64.wrap ((T.length : Int) - 1) = (T.length : Int) - 1 := by rw [IntKind.wrap_i64]; omega
          go_wp2_with fail
          refine (l1InMs _ _ _ _).mono ?_
          rintro e w3 ⟨rfl, rfl⟩
          cases hr : rng q 0 ((T.length : Int) - 1) with
          | false =>
            have hE := Lib.hid (hno2.out (hnp.out (fun h => by rw [rng_iff.2 (by omega)] at hr; cases hr)))
            clear hr hpj hno2 hnp
            go_wp2_with fail
            go_ret
            exact ⟨by rw [hE.out] <;> rfl, b.trans (p.mono b.size)⟩
          | true =>
            have hq := rng_iff.1 hr
            replace hpj := Lib.hid (fun r hr => hpj.out r hr ⟨hq.1, by omega⟩)
            clear hr hq hnp l0
            go_wp2_with fail
            go_roundw
            case rel => exact ⟨j + 1, by omega, by go_num, hpj.out, p⟩
            case measure => simp [intOf]; omega
        · obtain rfl : j = L.length := by omega
          have hE := Lib.hid (hyes.out hp)
          have H2 := Lib.hid (fun w h1 h2 => specDemandN a al T L c cl t w h1 h2 hp (by omega) hl.2 hT.out ⟨ht.1, by omega⟩)
          clear hp
          generalize demK T L t L.length = dd at *
          go_wp2_with fail
          refine (H2.out _ (hd.below p) (hn.below p)).mono ?_
          rintro e w2 ⟨rfl, b2⟩
          replace p := Below.then2 p b2
          go_wp2_with fail
          go_ret
          exact ⟨by rw [hE.out] <;> rfl, b.trans (p.mono b.size)⟩
  · have hE := Lib.hid (hno.out (fun h => h0 h.1))
    generalize codeT T = q at h0
    clear hno hyes
    go_wp2_with fail
    go_ret
    exact ⟨by rw [hE.out] <;> rfl, b⟩
/-- spec.BusyOf. -/
theorem specBusyOf (a : Option Addr) (T : List Ms) (c : Nat) (i : Int) (w : World) (hd : Tbl a T w) :
    Calls Try.prog 24 #[.slice a T.length c, .int .i64 i] w fun e w' => e = .returned (.tuple #[.int .i64 (busyR T i).1, .bool (busyR T i).2]) ∧ Below w.heap.size w w' := by
  have HR := Lib.hid (show busyR T i = if hasM T i = true then someR (busyV T i.toNat) else (-1, false) from rfl)
  generalize busyR T i = R at HR ⊢
  have H1 := Lib.hid (fun w h => specHasM a T c i w h)
  go_enter Try.func24, Try.ntmps24
  go_wp2_with fail
  refine (H1.out _ hd).mono ?_
  rintro e w1 ⟨rfl, b⟩
  replace hd := hd.below b
  clear H1
  cases hh : hasM T i with
  | false =>
    have HV := Lib.hid (HR.out.trans (if_neg (by simp [hh])))
    clear hh
    go_wp2_with fail
    exact bodyPost_ret (v := .tuple #[.int .i64 (-1), .bool false]) (by simp [results, Try.results24, go_sem]) rfl ⟨by rw [HV.out], b⟩
  | true =>
    have HV := Lib.hid (HR.out.trans (if_pos hh))
    obtain ⟨h0, hi0, hi1⟩ := hasM_iff.1 hh
    clear hh HR
    obtain ⟨i, rfl⟩ := Int.eq_ofNat_of_zero_le hi0
    simp only [Int.toNat_natCast] at HV
    have H2 := Lib.hid (fun w h => specBusyN a T c i w h (by omega) h0)
    clear h0
    generalize busyV T i = BV at *
    go_wp2_with fail
    refine (H2.out _ hd).mono ?_
    rintro e w2 ⟨rfl, b2⟩
    replace b := Below.then2 b b2
    go_wp2_with fail
    exact bodyPost_ret (v := .tuple #[.int .i64 (someR BV).1, .bool (someR BV).2]) (by simp [results, Try.results24, go_sem]) rfl ⟨by rw [HV.out], b⟩
/-- spec.BoundOf. -/
theorem specBoundOf (a : Option Addr) (T : List Ms) (c : Nat) (i : Int) (w : World) (hd : Tbl a T w) :
    Calls Try.prog 17 #[.slice a T.length c, .int .i64 i] w fun e w' => e = .returned (.tuple #[.int .i64 (boundR T i).1, .bool (boundR T i).2]) ∧ Below w.heap.size w w' := by
  have HR := Lib.hid (show boundR T i = if hasM T i = true then someR (boundV T i.toNat) else (-1, false) from rfl)
  generalize boundR T i = R at HR ⊢
  have H1 := Lib.hid (fun w h => specHasM a T c i w h)
  go_enter Try.func17, Try.ntmps17
  go_wp2_with fail
  refine (H1.out _ hd).mono ?_
  rintro e w1 ⟨rfl, b⟩
  replace hd := hd.below b
  clear H1
  cases hh : hasM T i with
  | false =>
    have HV := Lib.hid (HR.out.trans (if_neg (by simp [hh])))
    clear hh
    go_wp2_with fail
    exact bodyPost_ret (v := .tuple #[.int .i64 (-1), .bool false]) (by simp [results, Try.results17, go_sem]) rfl ⟨by rw [HV.out], b⟩
  | true =>
    have HV := Lib.hid (HR.out.trans (if_pos hh))
    obtain ⟨h0, hi0, hi1⟩ := hasM_iff.1 hh
    clear hh HR
    obtain ⟨i, rfl⟩ := Int.eq_ofNat_of_zero_le hi0
    simp only [Int.toNat_natCast] at HV
    have H2 := Lib.hid (fun w h => specBoundN a T c i w h (by omega) h0)
    clear h0
    generalize boundV T i = BV at *
    go_wp2_with fail
    refine (H2.out _ hd).mono ?_
    rintro e w2 ⟨rfl, b2⟩
    replace b := Below.then2 b b2
    go_wp2_with fail
    exact bodyPost_ret (v := .tuple #[.int .i64 (someR BV).1, .bool (someR BV).2]) (by simp [results, Try.results17, go_sem]) rfl ⟨by rw [HV.out], b⟩
/-- spec.WaitOf. -/
theorem specWaitOf (a : Option Addr) (T : List Ms) (c : Nat) (i q : Int) (w : World) (hd : Tbl a T w) :
    Calls Try.prog 26 #[.slice a T.length c, .int .i64 i, .int .i64 q] w fun e w' => e = .returned (.tuple #[.int .i64 (waitR T i q).1, .bool (waitR T i q).2]) ∧ Below w.heap.size w w' := by
  have HR := Lib.hid (show waitR T i q = if hasM T i = true then (if 0 ≤ q ∧ q ≤ 100000 then someR (waitV T i.toNat q) else (0, false)) else (-1, false) from rfl)
  generalize waitR T i q = R at HR ⊢
  have H1 := Lib.hid (fun w h => specHasM a T c i w h)
  go_enter Try.func26, Try.ntmps26
  go_wp2_with fail
  refine (H1.out _ hd).mono ?_
  rintro e w1 ⟨rfl, b⟩
  replace hd := hd.below b
  clear H1
  cases hh : hasM T i with
  | false =>
    have HV := Lib.hid (HR.out.trans (if_neg (by simp [hh])))
    clear hh
    go_wp2_with fail
    exact bodyPost_ret (v := .tuple #[.int .i64 (-1), .bool false]) (by simp [results, Try.results26, go_sem]) rfl ⟨by rw [HV.out], b⟩
  | true =>
    have HV := Lib.hid (HR.out.trans (if_pos hh))
    obtain ⟨h0, hi0, hi1⟩ := hasM_iff.1 hh
    clear hh HR
    obtain ⟨i, rfl⟩ := Int.eq_ofNat_of_zero_le hi0
    simp only [Int.toNat_natCast] at HV
    have H2 := Lib.hid (fun w h hq => specWaitN a T c i q w h (by omega) h0 hq)
    clear h0
    generalize waitV T i q = BV at *
    go_wp2_with fail
    refine (l1InMs _ _ _ _).mono ?_
    rintro e w2 ⟨rfl, rfl⟩
    cases hr : rng q 0 100000 with
    | false =>
      replace HV := Lib.hid (HV.out.trans (if_neg (fun h => by rw [rng_iff.2 h] at hr; cases hr)))
      clear hr
      go_wp2_with fail
      exact bodyPost_ret (v := .tuple #[.int .i64 0, .bool false]) (by simp [results, Try.results26, go_sem]) rfl ⟨by rw [HV.out], b⟩
    | true =>
      have hq := rng_iff.1 hr
      replace HV := Lib.hid (HV.out.trans (if_pos hq))
      clear hr
      go_wp2_with fail
      refine (H2.out _ hd ⟨hq.1, by omega⟩).mono ?_
      rintro e w2 ⟨rfl, b2⟩
      replace b := Below.then2 b b2
      go_wp2_with fail
      exact bodyPost_ret (v := .tuple #[.int .i64 (someR BV).1, .bool (someR BV).2]) (by simp [results, Try.results26, go_sem]) rfl ⟨by rw [HV.out], b⟩
end Go.Proofs.Ytohjfjcpkloigaa
