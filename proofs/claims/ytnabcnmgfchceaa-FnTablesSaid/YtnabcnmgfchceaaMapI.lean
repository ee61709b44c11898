/- Tables, the program: placesById (a map), CodeOf, hasMsg, LoadOf. -/
import Derived.Test.YtnabcnmgfchceaaMsgS
import Derived.Maps.Own
import Derived.Maps.OwnSet
import Derived.Maps.RangeWalk
import Derived.Maps.Ext
set_option linter.unusedVariables false
set_option linter.unusedSimpArgs false
set_option maxRecDepth 20000
namespace Go.Proofs.Ytnabcnmgfchceaa
open Go.RowKit Go.Maps

abbrev kI (x : Int) : Lit := .int .i64 x
theorem kI_ne {x y : Int} (h : x ≠ y) : kI x ≠ kI y := fun e => h (by cases e; rfl)
theorem kI_key (x : Int) : WideAt.IsKeyLit (kI x) := trivial
theorem mapLaw : Keyed Try.prog 2 := int_keyed Try.underlying2
/-- The map of the first k messages: their places by their Ids. -/
def plD {H : Type} (T : List Ms) : Nat → DataW H
  | 0 => .map []
  | k + 1 => (plD T k).put (kI (nthTb T k).id) (.lit (kI k))
section
variable {H : Type} {T : List Ms}
theorem plD_tidy : ∀ k, Tidy (plD (H := H) T k)
  | 0 => tidy_empty
  | k + 1 => (plD_tidy k).put (kI_key _) _
theorem plD_has : ∀ {k : Nat} {x : Int}, Maps.has (plD (H := H) T k) (kI x) = true ↔ ∃ j, j < k ∧ (nthTb T j).id = x
  | 0, x => by simp [plD, Maps.has]
  | k + 1, x => by
    have ih := plD_has (k := k) (x := x)
    simp only [plD]
    by_cases e : x = (nthTb T k).id
    · subst e
      rw [has_put_same (plD_tidy k).isMap (kI_key _)]
      exact ⟨fun _ => ⟨k, by omega, rfl⟩, fun _ => rfl⟩
    · rw [has_put_other (kI_ne e), ih]
      constructor
      · rintro ⟨j, h1, h2⟩; exact ⟨j, by omega, h2⟩
      · rintro ⟨j, h1, h2⟩
        by_cases e2 : j = k
        · rw [e2] at h2; exact absurd h2.symm e
        · exact ⟨j, by omega, h2⟩
theorem plD_size : ∀ k, Maps.size (plD (H := H) T k) ≤ k ∧ (Maps.size (plD (H := H) T k) = k ↔ ∀ i j, j < i → i < k → (nthTb T i).id ≠ (nthTb T j).id)
  | 0 => ⟨Nat.le_refl _, fun _ i j _ h => absurd h (by omega), fun _ => rfl⟩
  | k + 1 => by
    obtain ⟨h1, h2⟩ := plD_size k
    simp only [plD]
    rw [size_put (plD_tidy k)]
    cases hh : Maps.has (plD (H := H) T k) (kI (nthTb T k).id) with
    | true =>
      obtain ⟨j, hj, e⟩ := plD_has.1 hh
      rw [if_pos rfl]
      refine ⟨by omega, fun h => by omega, fun h => absurd e.symm (h k j hj (by omega))⟩
    | false =>
      rw [if_neg (by simp)]
      refine ⟨by omega, fun h i j hji hi => ?_, fun h => ?_⟩
      · by_cases e : i = k
        · subst e
          intro e
          rw [plD_has.2 ⟨j, hji, e.symm⟩] at hh; cases hh
        · exact (h2.1 (by omega)) i j hji (by omega)
      · have := h2.2 fun i j a b => h i j a (by omega)
        omega
theorem plD_at (hn : (T.map Ms.id).Nodup) : ∀ {k : Nat}, k ≤ T.length → ∀ {j : Nat}, j < k → ∀ z : DataW H, (plD T k).atKey (kI (nthTb T j).id) z = .lit (kI j)
  | 0, _, j, hj, _ => absurd hj (by omega)
  | k + 1, hk, j, hj, z => by
    simp only [plD]
    by_cases e : j = k
    · subst e
      exact atKey_put_same (plD_tidy j).isMap (kI_key _) _ _
    · rw [atKey_put_other (kI_ne fun h => e (ids_inj hn (by omega) (by omega) h))]
      exact plD_at hn (by omega) (by omega) z
end
/-- The map at block b reads as D. -/
abbrev MapO {H : Type} (b n : Nat) (D : DataW H) (w : World) : Prop := w.ownsMap Try.prog 2 (plainElem Try.prog 2) b n D

set_option maxHeartbeats 1000000 in
/-- impl.placesById: a map of its own. -/
theorem implPlaces {H : Type} (a : Option Addr) (T : List Ms) (c : Nat) (w : World) (hd : Tbl a T w) (ho : T.all mgOk = true) (hl : T.length ≤ 12) :
    Calls Try.prog 33 #[.slice a T.length c] w fun e w' => e = .returned (.map (some w.heap.size)) ∧ MapO (H := H) w.heap.size T.length (plD T T.length) w' ∧ Below w.heap.size w w' := by
  have hmm := @run_makeMap Try.prog
  replace ho := Lib.hid ho
  go_enter Try.func33, Try.ntmps33
  go_wp2_with fail
  clear hmm
  go_loopw [9] (fun i wr => ∃ k : Nat, k ≤ T.length ∧ i = .int .i64 k ∧ MapO (H := H) w.heap.size k (plD T k) wr ∧ Below w.heap.size w wr) (fun i _ => T.length - (intOf i).toNat)
  case atStart => exact ⟨0, Nat.zero_le _, rfl, World.ownsMap_made _ _ _ _, (Below.refl _ _).alloc (Nat.le_refl _) _⟩
  case round =>
    obtain ⟨k, hk, rfl, O, b⟩ := hrel
    by_cases hlt : k < T.length
    · obtain ⟨g, o, rfl, c0, c1, c2, c3, c4, c5⟩ := (hd.below b).2 k hlt
      have hok := mgOk_iff.1 (allM_at ho.out hlt)
      have hkey : keyOf Try.prog 2 (.int .i64 (nthTb T k).id) = some (kI (nthTb T k).id) := keyOf_int_mk Try.underlying2 (Go.WalkArith.wf_i64 ⟨by omega, by omega⟩)
      have hnx := Lib.hid (show plD (H := H) T (k + 1) = (plD T k).put (kI (nthTb T k).id) (.lit (kI k)) from rfl)
      have hwf : (Lit.int .i64 (k : Int)).wf = true := Go.WalkArith.wf_i64 ⟨by omega, by omega⟩
      have b1 := below_more b (.cells (mgC (nthTb T k)) 32)
      have O1 := O.alloc (.cells (mgC (nthTb T k)) 32)
      have hkm : k < maxLen := by unfold maxLen; omega
      clear hok b O
      generalize nthTb T k = m at *
      obtain ⟨id, sz, pe, ji, de, no⟩ := m
      dsimp only at *
      generalize plD T k = D at *
      go_wp2_with (at_mapUpdate; refine wpList_mapUpdate_own _ rfl _ _ _ 52 rfl 2 2 mapLaw Try.underlying52 _ w.heap.size k _ rfl O1 hkm _ _ _ rfl rfl hkey _ [] (plainElem_int Try.underlying2 hwf) ?_; intro w1 hown1 hgrow1)
      go_roundw
      case rel => exact ⟨k + 1, by omega, by go_num, by rw [hnx.out]; exact hown1, b1.grown hgrow1 b1.size (fun j hj => by cases hj; exact Nat.le_refl _)⟩
      case measure => simp [intOf]; omega
    · obtain rfl : k = T.length := by omega
      go_wp2_with fail
      go_ret
      exact ⟨rfl, O, b⟩
set_option maxHeartbeats 1000000 in
/-- impl.CodeOf. -/
theorem implCodeOf (a : Option Addr) (T : List Ms) (c : Nat) (w : World) (hd : Tbl a T w) :
    Calls Try.prog 10 #[.slice a T.length c] w fun e w' => e = .returned (.int .i64 (codeT T)) ∧ Below w.heap.size w w' := by
  have hm := hd.1
  unfold maxLen at hm
  go_enter Try.func10, Try.ntmps10
  go_wp2_with fail
  refine (implWithin _ _ _ _).mono ?_
  rintro e w1 ⟨rfl, rfl⟩
  cases hr : rng (T.length : Int) 1 12 with
  | false =>
    have HV := Lib.hid (codeT_size (T := T) (by
      intro h
      rw [rng_iff.2 (by omega)] at hr; cases hr))
    clear hr
    go_wp2_with fail
    go_ret
    exact ⟨by rw [HV.out] <;> rfl, Below.refl _ _⟩
  | true =>
    have h12 : 1 ≤ T.length ∧ T.length ≤ 12 := by have := rng_iff.1 hr; omega
    clear hr
    have H2 := Lib.hid (fun h => codeT_msg (T := T) h12 h)
    have H3 := Lib.hid (fun h k => codeT_twice (T := T) h12 h k)
    have H0 := Lib.hid (fun h k => codeT_ok (T := T) h12 h k)
    have H1 := fun w h => implMsgsOk a T c w h
    have HP := Lib.hid (fun w h ho => implPlaces (H := Unit) a T c w h ho h12.2)
    cases ho : T.all mgOk with
    | false =>
      rw [ho] at H1
      have HV := Lib.hid (H2.out ho)
      clear ho H2 H3 H0
      go_wp2_with fail
      refine (H1 _ hd).mono ?_
      rintro e w1 ⟨rfl, b⟩
      go_wp2_with fail
      go_ret
      exact ⟨by rw [HV.out] <;> rfl, b⟩
    | true =>
      rw [ho] at H1
      clear H2
      replace ho := Lib.hid ho
      go_wp2_with fail
      refine (H1 _ hd).mono ?_
      rintro e w1 ⟨rfl, b⟩
      clear H1
      replace hd := hd.below b
      go_wp2_with fail
      refine (HP.out _ hd ho.out).mono ?_
      rintro e w2 ⟨rfl, O, b2⟩
      replace b := Below.then2 b b2
      obtain ⟨hs1, hs2⟩ := plD_size (H := Unit) (T := T) T.length
      clear b2 HP hd
      have hV : Maps.size (plD (H := Unit) T T.length) < T.length ∧ codeT T = 3 ∨ Maps.size (plD (H := Unit) T T.length) = T.length ∧ codeT T = 0 := by
        by_cases e : Maps.size (plD (H := Unit) T T.length) = T.length
        · exact .inr ⟨e, H0.out ho.out (ids_nodup (hs2.1 e))⟩
        · refine .inl ⟨by omega, H3.out ho.out fun hn => e (hs2.2 fun i j h1 h2 h3 => ?_)⟩
          exact absurd hn (ids_twice h1 h2 h3)
      clear hs1 hs2 H0 H3
      generalize plD (H := Unit) T T.length = D at *
      rcases hV with ⟨hlt, hv⟩ | ⟨heq, hv⟩
      · replace hv := Lib.hid hv
        go_wp2_with (at_len; refine wpList_len_own _ rfl _ 52 rfl 2 2 Try.underlying52 _ w1.heap.size T.length _ rfl O ?_)
        go_ret
        exact ⟨by rw [hv.out] <;> rfl, b⟩
      · replace hv := Lib.hid hv
        have hge : ¬ Maps.size D < T.length := by omega
        replace heq := Lib.hid heq
        go_wp2_with (at_len; refine wpList_len_own _ rfl _ 52 rfl 2 2 Try.underlying52 _ w1.heap.size T.length _ rfl O ?_)
        go_ret
        exact ⟨by rw [hv.out] <;> rfl, b⟩
/-- impl.hasMsg. -/
theorem implHasM (a : Option Addr) (T : List Ms) (c : Nat) (i : Int) (w : World) (hd : Tbl a T w) :
    Calls Try.prog 35 #[.slice a T.length c, .int .i64 i] w fun e w' => e = .returned (.bool (hasM T i)) ∧ Below w.heap.size w w' := by
  have hm := hd.1
  unfold maxLen at hm
  have HV := Lib.hid (show hasM T i = (decide (codeT T = 0) && rng i 0 (T.length - 1)) from rfl)
  have H1 := fun w h => implCodeOf a T c w h
  generalize hasM T i = v at HV ⊢
  generalize codeT T = q at HV H1
  go_enter Try.func35, Try.ntmps35
  go_wp2_with fail
  refine (H1 _ hd).mono ?_
  rintro e w1 ⟨rfl, b⟩
  by_cases h0 : q = 0
  · subst h0
    go_wp2_with fail
    refine (implWithin _ _ _ _).mono ?_
    rintro e w2 ⟨rfl, rfl⟩
    go_wp2_with fail
    go_ret
    exact ⟨ret_bool (by rw [HV.out]; simp), b⟩
  · have hb : (q == 0) = false := beq_eq_false_iff_ne.2 h0
    have E := Lib.hid (show v = false by rw [HV.out]; simp [h0])
    clear HV h0 H1
    go_wp2_with fail
    go_ret
    exact ⟨by rw [E.out] <;> rfl, b⟩
set_option maxHeartbeats 1000000 in
/-- impl.LoadOf. -/
theorem implLoadOf (a : Option Addr) (T : List Ms) (c : Nat) (w : World) (hd : Tbl a T w) :
    Calls Try.prog 19 #[.slice a T.length c] w fun e w' => e = .returned (.int .i64 (loadV T)) ∧ Below w.heap.size w w' := by
  have hm := hd.1
  unfold maxLen at hm
  have H1 := fun w h => implCodeOf a T c w h
  go_enter Try.func19, Try.ntmps19
  go_wp2_with fail
  refine (H1 _ hd).mono ?_
  rintro e w1 ⟨rfl, b⟩
  clear H1
  replace hd := hd.below b
  by_cases h0 : codeT T = 0
  · have HV := Lib.hid (loadV_yes h0)
    have ho := Lib.hid (codeT_iff.1 h0).2.1
    have HB := Lib.hid (loadN_bd (T := T) ho.out)
    have hl := (codeT_iff.1 h0).1
    rw [h0]
    clear h0
    go_wp2_with fail
    go_loopw [3, 11] (fun n i wr => ∃ k : Nat, k ≤ T.length ∧ i = .int .i64 k ∧ n = .int .i64 (loadN T k) ∧ Below w1.heap.size w1 wr ∧ Below w.heap.size w wr) (fun _ i _ => T.length - (intOf i).toNat)
    case atStart => exact ⟨0, Nat.zero_le _, rfl, rfl, Below.refl _ _, b⟩
    case round =>
      clear b
      obtain ⟨k, hk, rfl, rfl, q, b⟩ := hrel
      by_cases hlt : k < T.length
      · obtain ⟨g, o, rfl, hc⟩ := (hd.below q).2 k hlt
        have hok := allM_at ho.out hlt
        have hc1 := costV_ok hok
        have hok2 := mgOk_iff.1 hok
        have hbd := HB.out k (by omega)
        have hnx := Lib.hid (show loadN T (k + 1) = loadN T k + upV (1000000 * costV (nthTb T k)) (nthTb T k).pe from rfl)
        have hup := upV_le (a := 1000000 * costV (nthTb T k)) (b := (nthTb T k).pe) (c := 135000000) (by omega) hok2.2.2.1.1 (by omega)
        have HC := fun w => implCostOf (nthTb T k) w (Go.WalkArith.wf_i64 ⟨by omega, by omega⟩)
        have HU := fun w => implUp (1000000 * costV (nthTb T k)) (nthTb T k).pe w (by omega) (by omega) (by omega) (by omega)
        have hpe := hok2.2.2.1
        clear hok hok2
        have hB := heap_alloc_new wr (.cells (mgC (nthTb T k)) 32)
        have q1 := below_more q (.cells (mgC (nthTb T k)) 32)
        have b1 := below_more b (.cells (mgC (nthTb T k)) 32)
        have hszz : (wr.alloc (.cells (mgC (nthTb T k)) 32)).heap.size = wr.heap.size + 1 := by simp
        generalize nthTb T k = m at *
        generalize costV m = cc at *
        obtain ⟨id, sz, pe, ji, de, no⟩ := m
        dsimp only at *
        generalize upV (1000000 * cc) pe = uu at *
        generalize loadN T k = nn at *
        replace hbd := (show 0 ≤ nn ∧ nn ≤ 1620000000 by omega)
        have wr1 : IntKind.i64.wrap (1000000 * cc) = 1000000 * cc := by rw [IntKind.wrap_i64]; omega
        have wr2 : IntKind.i64.wrap (nn + uu) = nn + uu := by rw [IntKind.wrap_i64]; omega
        obtain ⟨c0, c1, c2, c3, c4, c5⟩ := hc
        go_upto_region 7 with fail
        clear c0 c1 c2 c3 c4 c5 q b
        generalize wr.alloc (.cells #[.int .i64 id, .int .i64 sz, .int .i64 pe, .int .i64 ji, .int .i64 de, .int .i64 no] 32) = W at *
        have hc : MsC wr.heap.size 0 ⟨id, sz, pe, ji, de, no⟩ W := ⟨cell_of_row W _ 0 _ _ _ hB, cell_of_row W _ 1 _ _ _ hB, cell_of_row W _ 2 _ _ _ hB, cell_of_row W _ 3 _ _ _ hB, cell_of_row W _ 4 _ _ _ hB, cell_of_row W _ 5 _ _ _ hB⟩
        refine region_class (fun u => MsC wr.heap.size 0 ⟨id, sz, pe, ji, de, no⟩ u ∧ Below w1.heap.size w1 u ∧ Below w.heap.size w u) (by kernel_rfl) (by kernel_rfl) ⟨hc, q1.drew, b1.drew⟩ ?_
        clear hc hB q1 b1
        repeat first
          | go_big_quiet_skip
          | (go_big_quiet_want
             apply Exists.intro
             refine ⟨fun u hu => ?_, ?_⟩
             · apply quietAt_val
               obtain ⟨⟨c0, c1, c2, c3, c4, c5⟩, _⟩ := hu
               simp only [Nat.zero_add] at c0 c1 c2 c3 c4 c5
               go_simp
               rfl
             simp only [Act.put, List.setIfInBounds_toArray, List.set_cons_zero, List.set_cons_succ]
             go_big_quiet_on)
          | (go_big_quiet_want
             apply Exists.intro
             refine ⟨fun u hu => ?_, ?_⟩
             · apply quietAt_enter 17 #[mgV ⟨id, sz, pe, ji, de, no⟩]
               · go_simp
               · refine (HC u).mono ?_
                 rintro e w2 ⟨rfl, b2⟩
                 exact ⟨rfl, hu.1.below b2 hu.1.lt, Below.then2 hu.2.1 b2, Below.then2 hu.2.2 b2⟩
             simp only [Act.put, List.setIfInBounds_toArray, List.set_cons_zero, List.set_cons_succ]
             go_big_quiet_on)
          | (go_big_quiet_want
             apply Exists.intro
             refine ⟨fun u hu => ?_, ?_⟩
             · apply quietAt_enter 46 #[.int .i64 (1000000 * cc), .int .i64 pe]
               · go_simp
               · refine (HU u).mono ?_
                 rintro e w2 ⟨rfl, rfl⟩
                 exact ⟨rfl, hu⟩
             simp only [Act.put, List.setIfInBounds_toArray, List.set_cons_zero, List.set_cons_succ]
             go_big_quiet_on)
        refine wpQuiet_nil ?_
        intro W2 L2
        have q := L2.2.1
        have b := L2.2.2
        clear L2 HC HU
        go_wp2_with fail
        go_roundw
        case rel => exact ⟨k + 1, by omega, by go_num, by rw [hnx.out], q, b⟩
        case measure => simp [intOf]; omega
      · obtain rfl : k = T.length := by omega
        go_wp2_with fail
        go_ret
        exact ⟨by rw [HV.out] <;> rfl, b⟩
  · have HV := Lib.hid (loadV_no h0)
    generalize codeT T = q at h0
    go_wp2_with fail
    go_ret
    exact ⟨by rw [HV.out] <;> rfl, b⟩
end Go.Proofs.Ytnabcnmgfchceaa

