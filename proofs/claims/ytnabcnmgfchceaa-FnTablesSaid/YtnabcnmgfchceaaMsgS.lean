/- Tables, the model: CodeOf, l15Has, CostOf, l15Up, LoadOf, HigherOf; of the program what leans on no map: CostOf, roundedUp. -/
import Derived.Test.YtnabcnmgfchceaaMsg
set_option linter.unusedVariables false
set_option linter.unusedSimpArgs false
set_option maxRecDepth 20000
namespace Go.Proofs.Ytnabcnmgfchceaa
open Go.RowKit

set_option maxHeartbeats 1000000 in
/-- spec.CodeOf. -/
theorem specCodeOf (a : Option Addr) (T : List Ms) (c : Nat) (w : World) (hd : Tbl a T w) :
    Calls Try.prog 14 #[.slice a T.length c] w fun e w' => e = .returned (.int .i64 (codeT T)) ∧ Below w.heap.size w w' := by
  have hm := hd.1
  unfold maxLen at hm
  go_enter Try.func14, Try.ntmps14
  go_wp2_with fail
  refine (l1InMs _ _ _ _).mono ?_
  rintro e w1 ⟨rfl, rfl⟩
  cases hr : rng (T.length : Int) 1 12 with
  | false =>
    have HV := Lib.hid (codeT_size (T := T) (by
      intro h
      rw [rng_iff.2 (by omega)] at hr; cases hr))
    clear hr
    go_wp2_with fail
    go_ret
    exact ⟨by rw [HV.out] <;> rfl, Below.refl _ _⟩
  | true =>
    have h12 : 1 ≤ T.length ∧ T.length ≤ 12 := by have := rng_iff.1 hr; omega
    clear hr
    have H2 := Lib.hid (fun h => codeT_msg (T := T) h12 h)
    have H3 := Lib.hid (fun h k => codeT_twice (T := T) h12 h k)
    have H0 := Lib.hid (fun h k => codeT_ok (T := T) h12 h k)
    go_wp2_with fail
    go_loopw [3] (fun i wr => ∃ k : Nat, k ≤ T.length ∧ i = .int .i64 k ∧ (∀ j, j < k → mgOk (nthTb T j) = true) ∧ Below w.heap.size w wr) (fun i _ => T.length - (intOf i).toNat)
    case atStart => exact ⟨0, Nat.zero_le _, rfl, fun j hj => absurd hj (by omega), Below.refl _ _⟩
    case round =>
      obtain ⟨k, hk, rfl, hr, b⟩ := hrel
      by_cases hlt : k < T.length
      · obtain ⟨g, o, rfl, c0, c1, c2, c3, c4, c5⟩ := (hd.below b).2 k hlt
        have hn := Lib.hid (allM_no (T := T) hlt)
        have H1 := fun w => specMsgOk (nthTb T k) w
        have hq := Lib.hid (show ∀ v, mgOk (nthTb T k) = v → v = true → ∀ j, j < k + 1 → mgOk (nthTb T j) = true from fun v e1 e2 j hj => by
          by_cases e : j = k
          · rw [e, e1, e2]
          · exact hr j (by omega))
        clear hr
        generalize mgOk (nthTb T k) = v at H1 hn hq
        generalize nthTb T k = m at *
        obtain ⟨id, sz, pe, ji, de, no⟩ := m
        go_wp2_with fail
        refine (H1 _).mono ?_
        rintro e w2 ⟨rfl, b2⟩
        replace b := Below.then2 b b2
        clear b2 c0 c1 c2 c3 c4 c5 H1
        cases v with
        | true =>
          go_wp2_with fail
          go_roundw
          case rel => exact ⟨k + 1, by omega, by go_num, hq.out _ rfl rfl, b⟩
          case measure => simp [intOf]; omega
        | false =>
          have HV := Lib.hid (H2.out (hn.out rfl))
          clear hn hq
          go_wp2_with fail
          go_ret
          exact ⟨by rw [HV.out] <;> rfl, b⟩
      · have hall := Lib.hid (show ∀ j, j < T.length → mgOk (nthTb T j) = true from fun j hj => hr j (by omega))
        clear hr H2
        go_wp2_with fail
        go_loopw [4] (fun i wr2 => ∃ k : Nat, k ≤ T.length ∧ i = .int .i64 k ∧ (∀ i j, j < i → i < k → (nthTb T i).id ≠ (nthTb T j).id) ∧ Below w.heap.size w wr2) (fun i _ => T.length - (intOf i).toNat)
        case atStart => exact ⟨0, Nat.zero_le _, rfl, fun i j _ hj => absurd hj (by omega), b⟩
        case round =>
          clear b
          obtain ⟨k, hk, rfl, hr, b⟩ := hrel
          by_cases hlt : k < T.length
          · replace hr := Lib.hid hr
            go_wp2_with fail
            go_loopw [5] (fun i wr3 => ∃ l : Nat, l ≤ k ∧ i = .int .i64 l ∧ (∀ j, j < l → (nthTb T k).id ≠ (nthTb T j).id) ∧ Below w.heap.size w wr3) (fun i _ => k - (intOf i).toNat)
            case atStart => exact ⟨0, Nat.zero_le _, rfl, fun j hj => absurd hj (by omega), b⟩
            case round =>
              clear b
              obtain ⟨l, hl, rfl, hs, b⟩ := hrel
              by_cases hlk : l < k
              · obtain ⟨g, o, rfl, c0, _⟩ := (hd.below b).2 k hlt
                obtain ⟨g', o', hao, d0, _⟩ := (hd.below b).2 l (by omega)
                cases hao
                have ht := Lib.hid (fun e => H3.out (allM_yes (T := T) hall.out) (ids_twice hlk hlt e))
                have hs2 := Lib.hid (show ∀ v v', (nthTb T k).id = v → (nthTb T l).id = v' → v ≠ v' → ∀ j, j < l + 1 → (nthTb T k).id ≠ (nthTb T j).id from fun v v' e1 e2 hne j hj => by
                  by_cases e : j = l
                  · rw [e, e1, e2]; exact hne
                  · exact hs j (by omega))
                clear hs
                generalize hv : (nthTb T k).id = v at c0 ht
                generalize hv' : (nthTb T l).id = v' at d0 ht
                replace hv := Lib.hid hv
                replace hv' := Lib.hid hv'
                by_cases he : v = v'
                · have HV := Lib.hid (ht.out he)
                  subst he
                  clear ht hs2 hv hv'
                  go_wp2_with fail
                  go_quiet (fail)
                  go_wp2_with fail
                  go_ret
                  exact ⟨by rw [HV.out] <;> rfl, by first | exact b | exact belowN b _⟩
                · clear ht
                  go_wp2_with fail
                  go_quiet (fail)
                  go_wp2_with fail
                  go_roundw
                  case rel => exact ⟨l + 1, by omega, by go_num, by rw [← hv.out]; exact hs2.out _ _ hv.out hv'.out he, by first | exact b | exact belowN b _⟩
                  case measure => simp [intOf]; omega
              · have hs2 := Lib.hid (show ∀ i j, j < i → i < k + 1 → (nthTb T i).id ≠ (nthTb T j).id from fun i j h1 h2 => by
                  by_cases e : i = k
                  · rw [e]; exact hs j (by omega)
                  · exact hr.out i j h1 (by omega))
                clear hs hr
                go_wp2_with fail
                go_roundw
                case rel => exact ⟨k + 1, by omega, by go_num, hs2.out, b⟩
                case measure => simp [intOf]; omega
          · have HV := Lib.hid (H0.out (allM_yes (T := T) hall.out) (ids_nodup fun i j h1 h2 => hr i j h1 (by omega)))
            clear hr
            go_wp2_with fail
            go_ret
            exact ⟨by rw [HV.out] <;> rfl, b⟩
/-- spec.l15Has. -/
theorem specHasM (a : Option Addr) (T : List Ms) (c : Nat) (i : Int) (w : World) (hd : Tbl a T w) :
    Calls Try.prog 43 #[.slice a T.length c, .int .i64 i] w fun e w' => e = .returned (.bool (hasM T i)) ∧ Below w.heap.size w w' := by
  have hm := hd.1
  unfold maxLen at hm
  have HV := Lib.hid (show hasM T i = (decide (codeT T = 0) && rng i 0 (T.length - 1)) from rfl)
  have H1 := fun w h => specCodeOf a T c w h
  generalize hasM T i = v at HV ⊢
  generalize codeT T = q at HV H1
  go_enter Try.func43, Try.ntmps43
  go_wp2_with fail
  refine (H1 _ hd).mono ?_
  rintro e w1 ⟨rfl, b⟩
  by_cases h0 : q = 0
  · subst h0
    go_wp2_with fail
    refine (l1InMs _ _ _ _).mono ?_
    rintro e w2 ⟨rfl, rfl⟩
    go_wp2_with fail
    go_ret
    exact ⟨ret_bool (by rw [HV.out]; simp), b⟩
  · have hb : (q == 0) = false := beq_eq_false_iff_ne.2 h0
    have E := Lib.hid (show v = false by rw [HV.out]; simp [h0])
    clear HV h0 H1
    go_wp2_with fail
    go_ret
    exact ⟨by rw [E.out] <;> rfl, b⟩
/-- spec.CostOf. -/
theorem specCostOf (m : Ms) (w : World) (hw : (Lit.int .i64 m.sz).wf = true) :
    Calls Try.prog 18 #[mgV m] w fun e w' => e = .returned (.int .i64 (costV m)) ∧ Below w.heap.size w w' := by
  have bb := (Below.refl w.heap.size w).alloc (Nat.le_refl _) (.cells (mgC m) 32)
  have H1 := fun w => specLong m.sz w hw
  have HB := longV_bd m.sz
  have HV := Lib.hid (show costV m = if longV m.sz < 0 then -1 else longV m.sz + 3 from rfl)
  generalize costV m = v at HV ⊢
  generalize longV m.sz = q at HV H1 HB
  obtain ⟨id, sz, pe, ji, de, no⟩ := m
  have hq0 : -1 ≤ q := by omega
  have hq1 : q ≤ 132 := by omega
  clear HB
  go_enter Try.func18, Try.ntmps18
  go_wp2_with fail
  refine (H1 _).mono ?_
  rintro e w1 ⟨rfl, rfl⟩
  have b := bb
  by_cases h : q < 0
  · have E := Lib.hid (show v = -1 by rw [HV.out, if_pos h])
    clear HV
    go_wp2_with fail
    go_ret
    exact ⟨by rw [E.out] <;> rfl, b⟩
  · have E := Lib.hid (show v = q + 3 by rw [HV.out, if_neg h])
    clear HV
    go_wp2_with fail
    go_ret
    exact ⟨by rw [E.out] <;> rfl, b⟩
/-- impl.CostOf. -/
theorem implCostOf (m : Ms) (w : World) (hw : (Lit.int .i64 m.sz).wf = true) :
    Calls Try.prog 17 #[mgV m] w fun e w' => e = .returned (.int .i64 (costV m)) ∧ Below w.heap.size w w' := by
  have bb := (Below.refl w.heap.size w).alloc (Nat.le_refl _) (.cells (mgC m) 32)
  have H1 := fun w => implLong m.sz w hw
  have HB := longV_bd m.sz
  have HV := Lib.hid (show costV m = if longV m.sz < 0 then -1 else longV m.sz + 3 from rfl)
  generalize costV m = v at HV ⊢
  generalize longV m.sz = q at HV H1 HB
  obtain ⟨id, sz, pe, ji, de, no⟩ := m
  have hq0 : -1 ≤ q := by omega
  have hq1 : q ≤ 132 := by omega
  clear HB
  go_enter Try.func17, Try.ntmps17
  go_wp2_with fail
  refine (H1 _).mono ?_
  rintro e w1 ⟨rfl, b⟩
  replace b := Below.then2 bb b
  by_cases h : q < 0
  · have E := Lib.hid (show v = -1 by rw [HV.out, if_pos h])
    clear HV
    go_wp2_with fail
    go_ret
    exact ⟨by rw [E.out] <;> rfl, b⟩
  · have E := Lib.hid (show v = q + 3 by rw [HV.out, if_neg h])
    clear HV
    go_wp2_with fail
    go_ret
    exact ⟨by rw [E.out] <;> rfl, b⟩
/-- spec.l15Up. -/
theorem specUp (a b : Int) (w : World) (ha : 0 ≤ a) (ha2 : a ≤ 1000000000000) (hb : 1 ≤ b) (hb2 : b ≤ 1000000000) :
    Calls Try.prog 47 #[.int .i64 a, .int .i64 b] w fun e w' => e = .returned (.int .i64 (upV a b)) ∧ w = w' := by
  have HV := Lib.hid (show upV a b = (a + b - 1) / b from rfl)
  generalize upV a b = v at HV ⊢
  go_enter Try.func47, Try.ntmps47
  go_wp2_with fail
  go_ret
  exact ⟨by rw [HV.out] <;> rfl, rfl⟩
/-- impl.roundedUp. -/
theorem implUp (a b : Int) (w : World) (ha : 0 ≤ a) (ha2 : a ≤ 1000000000000) (hb : 1 ≤ b) (hb2 : b ≤ 1000000000) :
    Calls Try.prog 46 #[.int .i64 a, .int .i64 b] w fun e w' => e = .returned (.int .i64 (upV a b)) ∧ w = w' := by
  have HV := Lib.hid (show upV a b = (a + b - 1) / b from rfl)
  generalize upV a b = v at HV ⊢
  go_enter Try.func46, Try.ntmps46
  go_wp2_with fail
  go_ret
  exact ⟨by rw [HV.out] <;> rfl, rfl⟩
theorem loadV_no {T : List Ms} (h : codeT T ≠ 0) : loadV T = -1 := by rw [loadV, if_neg h]
theorem loadV_yes {T : List Ms} (h : codeT T = 0) : loadV T = loadN T T.length := by rw [loadV, if_pos h]
set_option maxHeartbeats 1000000 in
/-- spec.LoadOf. -/
theorem specLoadOf (a : Option Addr) (T : List Ms) (c : Nat) (w : World) (hd : Tbl a T w) :
    Calls Try.prog 20 #[.slice a T.length c] w fun e w' => e = .returned (.int .i64 (loadV T)) ∧ Below w.heap.size w w' := by
  have hm := hd.1
  unfold maxLen at hm
  have H1 := fun w h => specCodeOf a T c w h
  go_enter Try.func20, Try.ntmps20
  go_wp2_with fail
  refine (H1 _ hd).mono ?_
  rintro e w1 ⟨rfl, b⟩
  clear H1
  replace hd := hd.below b
  by_cases h0 : codeT T = 0
  · have HV := Lib.hid (loadV_yes h0)
    have ho := Lib.hid (codeT_iff.1 h0).2.1
    have HB := Lib.hid (loadN_bd (T := T) ho.out)
    have hl := (codeT_iff.1 h0).1
    have hb : (codeT T != 0) = false := by rw [h0]; rfl
    rw [h0]
    clear h0 hb
    go_wp2_with fail
    go_loopw [3, 4] (fun n i wr => ∃ k : Nat, k ≤ T.length ∧ i = .int .i64 k ∧ n = .int .i64 (loadN T k) ∧ Below w1.heap.size w1 wr ∧ Below w.heap.size w wr) (fun _ i _ => T.length - (intOf i).toNat)
    case atStart => exact ⟨0, Nat.zero_le _, rfl, rfl, Below.refl _ _, b⟩
    case round =>
      clear b
      obtain ⟨k, hk, rfl, rfl, q, b⟩ := hrel
      by_cases hlt : k < T.length
      · obtain ⟨g, o, rfl, hc⟩ := (hd.below q).2 k hlt
        have hok := allM_at ho.out hlt
        have hc1 := costV_ok hok
        have hok2 := mgOk_iff.1 hok
        have hbd := HB.out k (by omega)
        have hnx := Lib.hid (show loadN T (k + 1) = loadN T k + upV (1000000 * costV (nthTb T k)) (nthTb T k).pe from rfl)
        have hup := upV_le (a := 1000000 * costV (nthTb T k)) (b := (nthTb T k).pe) (c := 135000000) (by omega) hok2.2.2.1.1 (by omega)
        have HC := fun w => specCostOf (nthTb T k) w (Go.WalkArith.wf_i64 ⟨by omega, by omega⟩)
        have HU := fun w => specUp (1000000 * costV (nthTb T k)) (nthTb T k).pe w (by omega) (by omega) (by omega) (by omega)
        have hpe := hok2.2.2.1
        clear hok hok2
        generalize nthTb T k = m at *
        generalize costV m = cc at *
        obtain ⟨id, sz, pe, ji, de, no⟩ := m
        dsimp only at *
        generalize upV (1000000 * cc) pe = uu at *
        generalize loadN T k = nn at *
        replace hbd := (show 0 ≤ nn ∧ nn ≤ 1620000000 by omega)
        have wr1 : IntKind.i64.wrap (1000000 * cc) = 1000000 * cc := by rw [IntKind.wrap_i64]; omega
        have wr2 : IntKind.i64.wrap (nn + uu) = nn + uu := by rw [IntKind.wrap_i64]; omega
        go_wp2_with fail
        refine region_class (fun u => MsC g (o + k * 6) ⟨id, sz, pe, ji, de, no⟩ u ∧ Below w1.heap.size w1 u ∧ Below w.heap.size w u) (by kernel_rfl) (by kernel_rfl) ⟨hc, q.drew, b.drew⟩ ?_
        clear hc q b
        repeat first
          | go_big_quiet_skip
          | (go_big_quiet_want
             apply Exists.intro
             refine ⟨fun u hu => ?_, ?_⟩
             · apply quietAt_val
               obtain ⟨⟨c0, c1, c2, c3, c4, c5⟩, _⟩ := hu
               go_simp
               rfl
             simp only [Act.put, List.setIfInBounds_toArray, List.set_cons_zero, List.set_cons_succ]
             go_big_quiet_on)
          | (go_big_quiet_want
             apply Exists.intro
             refine ⟨fun u hu => ?_, ?_⟩
             · apply quietAt_enter 18 #[mgV ⟨id, sz, pe, ji, de, no⟩]
               · go_simp
               · refine (HC u).mono ?_
                 rintro e w2 ⟨rfl, b2⟩
                 exact ⟨rfl, hu.1.below b2 hu.1.lt, Below.then2 hu.2.1 b2, Below.then2 hu.2.2 b2⟩
             simp only [Act.put, List.setIfInBounds_toArray, List.set_cons_zero, List.set_cons_succ]
             go_big_quiet_on)
          | (go_big_quiet_want
             apply Exists.intro
             refine ⟨fun u hu => ?_, ?_⟩
             · apply quietAt_enter 47 #[.int .i64 (1000000 * cc), .int .i64 pe]
               · go_simp
               · refine (HU u).mono ?_
                 rintro e w2 ⟨rfl, rfl⟩
                 exact ⟨rfl, hu⟩
             simp only [Act.put, List.setIfInBounds_toArray, List.set_cons_zero, List.set_cons_succ]
             go_big_quiet_on)
        refine wpQuiet_nil ?_
        intro W2 L2
        have q := L2.2.1
        have b := L2.2.2
        clear L2 HC HU
        go_wp2_with fail
        go_roundw
        case rel => exact ⟨k + 1, by omega, by go_num, by rw [hnx.out], q, b⟩
        case measure => simp [intOf]; omega
      · obtain rfl : k = T.length := by omega
        go_wp2_with fail
        go_ret
        exact ⟨by rw [HV.out] <;> rfl, b⟩
  · have HV := Lib.hid (loadV_no h0)
    generalize codeT T = q at h0
    go_wp2_with fail
    go_ret
    exact ⟨by rw [HV.out] <;> rfl, b⟩
set_option maxHeartbeats 1000000 in
/-- spec.HigherOf: a row of its own. -/
theorem specHigherOf (a : Option Addr) (T : List Ms) (c : Nat) (i : Int) (w : World) (hd : Tbl a T w) :
    Calls Try.prog 16 #[.slice a T.length c, .int .i64 i] w fun e w' => ∃ v, e = .returned v ∧ OwnI w.heap.size (highV T i) v w' ∧ Below w.heap.size w w' := by
  have hm := hd.1
  unfold maxLen at hm
  have H1 := fun w h => specHasM a T c i w h
  go_enter Try.func16, Try.ntmps16
  go_wp2_with fail
  have O0 : OwnI w.heap.size [] (.slice (some ⟨w.heap.size, 0, none⟩) 0 0) (w.alloc (.cells #[] 2)) := ⟨World.ownsRow_made (base := w.heap.size) (e := 2) (size := 1) w #[] 0 (Nat.le_refl _) (Nat.zero_le _) rfl, by simp⟩
  have b0 := (Below.refl w.heap.size w).alloc (Nat.le_refl _) (.cells #[] 2)
  have hd0 := hd.below b0
  refine (H1 _ hd0).mono ?_
  rintro e w1 ⟨rfl, b1⟩
  have bb := Below.then2 b0 b1
  have O1 : OwnI w.heap.size [] (.slice (some ⟨w.heap.size, 0, none⟩) 0 0) w1 := O0.kept (grown_at b1) (Classical.em _)
  clear H1 hd0 b0 b1 O0
  cases hh : hasM T i with
  | false =>
    have HV := Lib.hid (highV_no hh)
    clear hh
    go_wp2_with fail
    go_ret
    exact ⟨_, rfl, by rw [HV.out]; exact O1, bb⟩
  | true =>
    have HV := Lib.hid (highV_yes hh)
    obtain ⟨h0, hi0, hi1⟩ := hasM_iff.1 hh
    have hl := (codeT_iff.1 h0).1
    clear hh h0
    obtain ⟨i, rfl⟩ := Int.eq_ofNat_of_zero_le hi0
    simp only [Int.toNat_natCast] at HV
    have hil : i < T.length := by omega
    go_wp2_with fail
    go_loopw [5, 6] (fun v k wr => ∃ j : Nat, j ≤ T.length ∧ k = .int .i64 j ∧ OwnI w.heap.size (highN T i j) v wr ∧ Below w.heap.size w wr) (fun _ k _ => T.length - (intOf k).toNat)
    case atStart => exact ⟨0, Nat.zero_le _, rfl, O1, bb⟩
    case round =>
      clear O1 bb
      obtain ⟨j, hj, rfl, O, b⟩ := hrel
      by_cases hlt : j < T.length
      · obtain ⟨g, o, rfl, c0, _⟩ := (hd.below b).2 j hlt
        obtain ⟨g', o', hao, d0, _⟩ := (hd.below b).2 i hil
        cases hao
        have hnx := Lib.hid (show highN T i (j + 1) = if (nthTb T j).id < (nthTb T i).id then highN T i j ++ [(j : Int)] else highN T i j from rfl)
        have hlen := highN_len T i j
        generalize (nthTb T j).id = v at *
        generalize (nthTb T i).id = v' at *
        generalize highN T i j = D at *
        obtain ⟨av, cv, rfl, _⟩ := O.nums
        by_cases he : v < v'
        · have hnx := Lib.hid (hnx.out.trans (if_pos he))
          go_wp2_with fail
          go_quiet (fail)
          replace O := O.kept (grown_drewN wr nq none) (Classical.em _)
          replace b := belowN b nq
          clear c0 d0
          generalize wr.drewN nq = w2 at *
          have hbw := b.size
          have O2 := O.kept (World.grownBy_alloc w2 (.cells #[.int .i64 (j : Int)] 2) none) (Classical.em _)
          have b2 := below_more b (.cells #[.int .i64 (j : Int)] 2)
          have hwf : (Lit.int .i64 (j : Int)).wf = true := Go.WalkArith.wf_i64 ⟨by omega, by omega⟩
          have hsz : D.length ≤ 1000000 := by omega
          have hB2 := b2.size
          go_wp2_with (at_builtin; refine wpList_appI rfl _ _ rfl w.heap.size D (j : Int) _ rfl O2 w2.heap.size 1 rfl (World.cell?_alloc_at _ _ _ _ rfl) hwf hsz hB2 ?_; intro av2 cv2 w3 O3 g3)
          have b3 := b2.grown g3 b2.size (fun q e => by have := O2.low e; omega)
          clear O O2 b b2 g3
          go_roundw
          case rel => exact ⟨j + 1, by omega, by go_num, by rw [hnx.out]; simpa using O3, b3⟩
          case measure => simp [intOf]; omega
        · have hnx := Lib.hid (hnx.out.trans (if_neg he))
          go_wp2_with fail
          go_quiet (fail)
          go_wp2_with fail
          go_roundw
          case rel => exact ⟨j + 1, by omega, by go_num, by rw [hnx.out]; exact O.kept (grown_drewN _ _ _) (Classical.em _), belowN b _⟩
          case measure => simp [intOf]; omega
      · obtain rfl : j = T.length := by omega
        obtain ⟨av, cv, rfl, _⟩ := O.nums
        go_wp2_with fail
        go_ret
        exact ⟨_, rfl, by rw [HV.out]; exact O, b⟩
end Go.Proofs.Ytnabcnmgfchceaa

