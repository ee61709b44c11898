/- Tables, the program: placesById (a map), CodeOf, hasMsg, LoadOf. -/
import Derived.Test.YtohjfjcpkloigaaM9
import Derived.Maps.Own
import Derived.Maps.OwnSet
import Derived.Maps.RangeWalk
import Derived.Maps.Ext

set_option linter.unusedVariables false
set_option linter.unusedSimpArgs false
set_option maxRecDepth 20000
namespace Go.Proofs.Ytohjfjcpkloigaa
open Go.RowKit Go.Maps

abbrev kI (x : Int) : Lit := .int .i64 x
theorem kI_ne {x y : Int} (h : x ≠ y) : kI x ≠ kI y := fun e => h (by cases e; rfl)
theorem kI_key (x : Int) : WideAt.IsKeyLit (kI x) := trivial
theorem mapLaw : Keyed Try.prog 2 := int_keyed Try.underlying2
/-- The map of the first k messages: their places by their Ids. -/
def plD {H : Type} (T : List Ms) : Nat → DataW H
  | 0 => .map []
  | k + 1 => (plD T k).put (kI (nthTb T k).id) (.lit (kI k))
section
variable {H : Type} {T : List Ms}
theorem plD_tidy : ∀ k, Tidy (plD (H := H) T k)
  | 0 => tidy_empty
  | k + 1 => (plD_tidy k).put (kI_key _) _
theorem plD_has : ∀ {k : Nat} {x : Int}, Maps.has (plD (H := H) T k) (kI x) = true ↔ ∃ j, j < k ∧ (nthTb T j).id = x
  | 0, x => by simp [plD, Maps.has]
  | k + 1, x => by
    have ih := plD_has (k := k) (x := x)
    simp only [plD]
    by_cases e : x = (nthTb T k).id
    · subst e
      rw [has_put_same (plD_tidy k).isMap (kI_key _)]
      exact ⟨fun _ => ⟨k, by omega, rfl⟩, fun _ => rfl⟩
    · rw [has_put_other (kI_ne e), ih]
      constructor
      · rintro ⟨j, h1, h2⟩; exact ⟨j, by omega, h2⟩
      · rintro ⟨j, h1, h2⟩
        by_cases e2 : j = k
        · rw [e2] at h2; exact absurd h2.symm e
        · exact ⟨j, by omega, h2⟩
theorem plD_size : ∀ k, Maps.size (plD (H := H) T k) ≤ k ∧ (Maps.size (plD (H := H) T k) = k ↔ ∀ i j, j < i → i < k → (nthTb T i).id ≠ (nthTb T j).id)
  | 0 => ⟨Nat.le_refl _, fun _ i j _ h => absurd h (by omega), fun _ => rfl⟩
  | k + 1 => by
    obtain ⟨h1, h2⟩ := plD_size k
    simp only [plD]
    rw [size_put (plD_tidy k)]
    cases hh : Maps.has (plD (H := H) T k) (kI (nthTb T k).id) with
    | true =>
      obtain ⟨j, hj, e⟩ := plD_has.1 hh
      rw [if_pos rfl]
      refine ⟨by omega, fun h => by omega, fun h => absurd e.symm (h k j hj (by omega))⟩
    | false =>
      rw [if_neg (by simp)]
      refine ⟨by omega, fun h i j hji hi => ?_, fun h => ?_⟩
      · by_cases e : i = k
        · subst e
          intro e
          rw [plD_has.2 ⟨j, hji, e.symm⟩] at hh; cases hh
        · exact (h2.1 (by omega)) i j hji (by omega)
      · have := h2.2 fun i j a b => h i j a (by omega)
        omega
theorem plD_at (hn : (T.map Ms.id).Nodup) : ∀ {k : Nat}, k ≤ T.length → ∀ {j : Nat}, j < k → ∀ z : DataW H, (plD T k).atKey (kI (nthTb T j).id) z = .lit (kI j)
  | 0, _, j, hj, _ => absurd hj (by omega)
  | k + 1, hk, j, hj, z => by
    simp only [plD]
    by_cases e : j = k
    · subst e
      exact atKey_put_same (plD_tidy j).isMap (kI_key _) _ _
    · rw [atKey_put_other (kI_ne fun h => e (ids_inj hn (by omega) (by omega) h))]
      exact plD_at hn (by omega) (by omega) z
end
/-- The map at block b reads as D. -/
abbrev MapO {H : Type} (b n : Nat) (D : DataW H) (w : World) : Prop := w.ownsMap Try.prog 2 (plainElem Try.prog 2) b n D

set_option maxHeartbeats 1000000 in
/-- impl.placesById: a map of its own. -/
theorem implPlaces {H : Type} (a : Option Addr) (T : List Ms) (c : Nat) (w : World) (hd : Tbl a T w) (ho : T.all mgOk = true) (hl : T.length ≤ 12) :
    Calls Try.prog 47 #[.slice a T.length c] w fun e w' => e = .returned (.map (some w.heap.size)) ∧ MapO (H := H) w.heap.size T.length (plD T T.length) w' ∧ Below w.heap.size w w' := by
  have hmm := @run_makeMap Try.prog
  replace ho := Lib.hid ho
  go_enter Try.func47, Try.ntmps47
  go_wp2_with fail
  clear hmm
  go_loopw [9] (fun i wr => ∃ k : Nat, k ≤ T.length ∧ i = .int .i64 k ∧ MapO (H := H) w.heap.size k (plD T k) wr ∧ Below w.heap.size w wr) (fun i _ => T.length - (intOf i).toNat)
  case atStart => exact ⟨0, Nat.zero_le _, rfl, World.ownsMap_made _ _ _ _, (Below.refl _ _).alloc (Nat.le_refl _) _⟩
  case round =>
    obtain ⟨k, hk, rfl, O, b⟩ := hrel
    by_cases hlt : k < T.length
    · obtain ⟨g, o, rfl, c0, c1, c2, c3, c4, c5⟩ := (hd.below b).2 k hlt
      have hok := mgOk_iff.1 (allM_at ho.out hlt)
      have hkey : keyOf Try.prog 2 (.int .i64 (nthTb T k).id) = some (kI (nthTb T k).id) := keyOf_int_mk Try.underlying2 (Go.WalkArith.wf_i64 ⟨by omega, by omega⟩)
      have hnx := Lib.hid (show plD (H := H) T (k + 1) = (plD T k).put (kI (nthTb T k).id) (.lit (kI k)) from rfl)
      have hwf : (Lit.int .i64 (k : Int)).wf = true := Go.WalkArith.wf_i64 ⟨by omega, by omega⟩
      have b1 := below_more b (.cells (mgC (nthTb T k)) 31)
      have O1 := O.alloc (.cells (mgC (nthTb T k)) 31)
      have hkm : k < maxLen := by unfold maxLen; omega
      clear hok b O
      generalize nthTb T k = m at *
      obtain ⟨id, sz, pe, ji, de, no⟩ := m
      dsimp only at *
      generalize plD T k = D at *
      go_wp2_with (at_mapUpdate; refine wpList_mapUpdate_own _ rfl _ _ _ 66 rfl 2 2 mapLaw Try.underlying66 _ w.heap.size k _ rfl O1 hkm _ _ _ rfl rfl hkey _ [] (plainElem_int Try.underlying2 hwf) ?_; intro w1 hown1 hgrow1)
      go_roundw
      case rel => exact ⟨k + 1, by omega, by go_num, by rw [hnx.out]; exact hown1, b1.grown hgrow1 b1.size (fun j hj => by cases hj; exact Nat.le_refl _)⟩
      case measure => simp [intOf]; omega
    · obtain rfl : k = T.length := by omega
      go_wp2_with fail
      go_ret
      exact ⟨rfl, O, b⟩
set_option maxHeartbeats 1000000 in
/-- impl.CodeOf. -/
theorem implCodeOf (a : Option Addr) (T : List Ms) (c : Nat) (w : World) (hd : Tbl a T w) :
    Calls Try.prog 19 #[.slice a T.length c] w fun e w' => e = .returned (.int .i64 (codeT T)) ∧ Below w.heap.size w w' := by
  have hm := hd.1
  unfold maxLen at hm
  go_enter Try.func19, Try.ntmps19
  go_wp2_with fail
  refine (implWithin _ _ _ _).mono ?_
  rintro e w1 ⟨rfl, rfl⟩
  cases hr : rng (T.length : Int) 1 12 with
  | false =>
    have HV := Lib.hid (codeT_size (T := T) (by
      intro h
      rw [rng_iff.2 (by omega)] at hr; cases hr))
    clear hr
    go_wp2_with fail
    go_ret
    exact ⟨by rw [HV.out] <;> rfl, Below.refl _ _⟩
  | true =>
    have h12 : 1 ≤ T.length ∧ T.length ≤ 12 := by have := rng_iff.1 hr; omega
    clear hr
    have H2 := Lib.hid (fun h => codeT_msg (T := T) h12 h)
    have H3 := Lib.hid (fun h k => codeT_twice (T := T) h12 h k)
    have H0 := Lib.hid (fun h k => codeT_ok (T := T) h12 h k)
    have H1 := fun w h => implMsgsOk a T c w h
    have HP := Lib.hid (fun w h ho => implPlaces (H := Unit) a T c w h ho h12.2)
    cases ho : T.all mgOk with
    | false =>
      rw [ho] at H1
      have HV := Lib.hid (H2.out ho)
      clear ho H2 H3 H0
      go_wp2_with fail
      refine (H1 _ hd).mono ?_
      rintro e w1 ⟨rfl, b⟩
      go_wp2_with fail
      go_ret
      exact ⟨by rw [HV.out] <;> rfl, b⟩
    | true =>
      rw [ho] at H1
      clear H2
      replace ho := Lib.hid ho
      go_wp2_with fail
      refine (H1 _ hd).mono ?_
      rintro e w1 ⟨rfl, b⟩
      clear H1
      replace hd := hd.below b
      go_wp2_with fail
      refine (HP.out _ hd ho.out).mono ?_
      rintro e w2 ⟨rfl, O, b2⟩
      replace b := Below.then2 b b2
      obtain ⟨hs1, hs2⟩ := plD_size (H := Unit) (T := T) T.length
      clear b2 HP hd
      have hV : Maps.size (plD (H := Unit) T T.length) < T.length ∧ codeT T = 3 ∨ Maps.size (plD (H := Unit) T T.length) = T.length ∧ codeT T = 0 := by
        by_cases e : Maps.size (plD (H := Unit) T T.length) = T.length
        · exact .inr ⟨e, H0.out ho.out (ids_nodup (hs2.1 e))⟩
        · refine .inl ⟨by omega, H3.out ho.out fun hn => e (hs2.2 fun i j h1 h2 h3 => ?_)⟩
          exact absurd hn (ids_twice h1 h2 h3)
      clear hs1 hs2 H0 H3
      generalize plD (H := Unit) T T.length = D at *
      rcases hV with ⟨hlt, hv⟩ | ⟨heq, hv⟩
      · replace hv := Lib.hid hv
        go_wp2_with (at_len; refine wpList_len_own _ rfl _ 66 rfl 2 2 Try.underlying66 _ w1.heap.size T.length _ rfl O ?_)
        go_ret
        exact ⟨by rw [hv.out] <;> rfl, b⟩
      · replace hv := Lib.hid hv
        have hge : ¬ Maps.size D < T.length := by omega
        replace heq := Lib.hid heq
        go_wp2_with (at_len; refine wpList_len_own _ rfl _ 66 rfl 2 2 Try.underlying66 _ w1.heap.size T.length _ rfl O ?_)
        go_ret
        exact ⟨by rw [hv.out] <;> rfl, b⟩
/-- impl.hasMsg. -/
theorem implHasM (a : Option Addr) (T : List Ms) (c : Nat) (i : Int) (w : World) (hd : Tbl a T w) :
    Calls Try.prog 60 #[.slice a T.length c, .int .i64 i] w fun e w' => e = .returned (.bool (hasM T i)) ∧ Below w.heap.size w w' := by
  have hm := hd.1
  unfold maxLen at hm
  have HV := Lib.hid (show hasM T i = (decide (codeT T = 0) && rng i 0 (T.length - 1)) from rfl)
  have H1 := fun w h => implCodeOf a T c w h
  generalize hasM T i = v at HV ⊢
  generalize codeT T = q at HV H1
  go_enter Try.func60, Try.ntmps60
  go_wp2_with fail
  refine (H1 _ hd).mono ?_
  rintro e w1 ⟨rfl, b⟩
  by_cases h0 : q = 0
  · subst h0
    go_wp2_with fail
    refine (implWithin _ _ _ _).mono ?_
    rintro e w2 ⟨rfl, rfl⟩
    go_wp2_with fail
    go_ret
    exact ⟨ret_bool (by rw [HV.out]; simp), b⟩
  · have hb : (q == 0) = false := beq_eq_false_iff_ne.2 h0
    have E := Lib.hid (show v = false by rw [HV.out]; simp [h0])
    clear HV h0 H1
    go_wp2_with fail
    go_ret
    exact ⟨by rw [E.out] <;> rfl, b⟩
end Go.Proofs.Ytohjfjcpkloigaa

/- Bounds, the program: BlockOf, demandOfOne, demandOfAll. -/

set_option linter.unusedVariables false
set_option linter.unusedSimpArgs false
set_option maxRecDepth 20000
namespace Go.Proofs.Ytohjfjcpkloigaa
open Go.RowKit

/-- The demand of the first k messages of a list. -/
def demA (M : List Ms) (t : Int) : Nat → Int
  | 0 => 0
  | k + 1 => demA M t k + demT (nthTb M k) t
def pickT (T : List Ms) (L : List Int) : List Ms := L.map fun x => nthTb T x.toNat
theorem pickT_len (T : List Ms) (L : List Int) : (pickT T L).length = L.length := by simp [pickT]
theorem pickT_nth {T : List Ms} {L : List Int} {k : Nat} (h : k < L.length) : nthTb (pickT T L) k = nthTb T (L.getD k 0).toNat := by
  simp [pickT, nthTb, List.getD_eq_getElem?_getD, h]
theorem demA_pick {T : List Ms} {L : List Int} {t : Int} : ∀ {k : Nat}, k ≤ L.length → demA (pickT T L) t k = demK T L t k
  | 0, _ => rfl
  | k + 1, h => by rw [demA, demK, demA_pick (by omega), pickT_nth (by omega)]
theorem demA_all {T : List Ms} {L : List Int} {t : Int} : demA (pickT T L) t (pickT T L).length = demK T L t L.length := by rw [pickT_len]; exact demA_pick (Nat.le_refl _)
theorem pickT_ok {T : List Ms} {L : List Int} (hT : T.all mgOk = true) (hp : placesOk T L) : (pickT T L).all mgOk = true := allM_yes fun j hj => by
  rw [pickT_len] at hj
  rw [pickT_nth hj]
  exact allM_at hT (by have := hp j hj; omega)
theorem demA_bd {M : List Ms} (hM : M.all mgOk = true) {t : Int} (h0 : 0 ≤ t) : ∀ k, k ≤ M.length → 0 ≤ demA M t k ∧ demA M t k ≤ k * ((t + 20000) * 135)
  | 0, _ => by simp [demA]
  | k + 1, hk => by
    have ih := demA_bd hM h0 k (by omega)
    have := demT_bd (allM_at hM (show k < M.length by omega)) h0
    simp only [demA]
    have e : ((k + 1 : Nat) : Int) * ((t + 20000) * 135) = (k : Int) * ((t + 20000) * 135) + (t + 20000) * 135 := by rw [Int.natCast_succ, Int.add_mul, Int.one_mul]
    rw [e]
    omega
set_option maxHeartbeats 4000000 in
/-- impl.BlockOf. -/
theorem implBlockOf (a : Option Addr) (T : List Ms) (c : Nat) (i : Int) (w : World) (hd : Tbl a T w) :
    Calls Try.prog 27 #[.slice a T.length c, .int .i64 i] w fun e w' => e = .returned (.int .i64 (blockV T i)) ∧ Below w.heap.size w w' := by
  have HR := Lib.hid (show blockV T i = if hasM T i = true then blockN T i.toNat T.length else -1 from rfl)
  generalize blockV T i = R at HR ⊢
  have H1 := Lib.hid (fun w h => implHasM a T c i w h)
  go_enter Try.func27, Try.ntmps27
  go_wp2_with fail
  refine (H1.out _ hd).mono ?_
  rintro e w1 ⟨rfl, b⟩
  replace hd := hd.below b
  clear H1
  cases hh : hasM T i with
  | false =>
    have HV := Lib.hid (HR.out.trans (if_neg (by simp [hh])))
    clear hh
    go_wp2_with fail
    go_ret
    exact ⟨by rw [HV.out] <;> rfl, b⟩
  | true =>
    have HV := Lib.hid (HR.out.trans (if_pos hh))
    obtain ⟨h0, hi0, hi1⟩ := hasM_iff.1 hh
    clear hh HR
    obtain ⟨i, rfl⟩ := Int.eq_ofNat_of_zero_le hi0
    simp only [Int.toNat_natCast] at HV
    have hil : i < T.length := by omega
    obtain ⟨hl, hT, -⟩ := codeT_iff.1 h0
    replace hT := Lib.hid hT
    clear h0
    go_wp2_with fail
    go_loopw [5, 14] (fun n k wr => ∃ j : Nat, j ≤ T.length ∧ k = .int .i64 j ∧ n = .int .i64 (blockN T i j) ∧ Below w1.heap.size w1 wr) (fun _ k _ => T.length - (intOf k).toNat)
    case atStart => exact ⟨0, Nat.zero_le _, rfl, rfl, Below.refl _ _⟩
    case round =>
      obtain ⟨j, hj, rfl, rfl, p⟩ := hrel
      by_cases hlt : j < T.length
      · obtain ⟨g, o, rfl, hc⟩ := (hd.below p).2 j hlt
        obtain ⟨g', o', hao, hd'⟩ := (hd.below p).2 i hil
        cases hao
        have hok := allM_at hT.out hlt
        have hsz := (mgOk_iff.1 hok).2.1
        have HC := fun w => implCostOf (nthTb T j) w (Go.WalkArith.wf_i64 ⟨by omega, by omega⟩)
        have hnx := Lib.hid (show blockN T i (j + 1) = if (nthTb T i).id < (nthTb T j).id then max (blockN T i j) (costV (nthTb T j)) else blockN T i j from rfl)
        clear hok hsz
        generalize nthTb T j = m at *
        generalize costV m = cc at *
        generalize nthTb T i = mi at *
        generalize blockN T i j = nn at *
        obtain ⟨id, sz, pe, ji, de, no⟩ := m
        obtain ⟨v', _, _, _, _, _⟩ := mi
        dsimp only at *
        have hB := heap_alloc_new wr (.cells (mgC ⟨id, sz, pe, ji, de, no⟩) 31)
        have p1 := below_more p (.cells (mgC ⟨id, sz, pe, ji, de, no⟩) 31)
        have hd1 := hd'.below (below_more (Below.refl wr.heap.size wr) (.cells (mgC ⟨id, sz, pe, ji, de, no⟩) 31)) hd'.lt
        have hltI : (j : Int) < T.length := by omega
        obtain ⟨c0, c1, c2, c3, c4, c5⟩ := hc
        go_upto_region 7 with fail
        clear c0 c1 c2 c3 c4 c5 p hd'
        generalize wr.alloc _ = W at hB p1 hd1 ⊢
        generalize wr.heap.size = gm at hB ⊢
        obtain ⟨d0, -⟩ := hd1
        have e0 := cell_of_row W gm 0 _ _ _ hB
        simp only [List.getElem?_toArray, List.getElem?_cons_zero] at e0
        by_cases he : v' < id
        · have hnx := Lib.hid (hnx.out.trans (if_pos he))
          go_quiet (fail)
          generalize hW : W.drewN nq = W1 at *
          have hB : W1.heap[gm]? = some (.cells (mgC ⟨id, sz, pe, ji, de, no⟩) 31 (0, 0)) := by rw [← hW]; exact hB
          have p1 : Below w1.heap.size w1 W1 := by rw [← hW]; exact belowN p1 nq
          clear hW d0 e0
          have e0 := cell_of_row W1 gm 0 _ _ _ hB
          have e1 := cell_of_row W1 gm 1 _ _ _ hB
          have e2 := cell_of_row W1 gm 2 _ _ _ hB
          have e3 := cell_of_row W1 gm 3 _ _ _ hB
          have e4 := cell_of_row W1 gm 4 _ _ _ hB
          have e5 := cell_of_row W1 gm 5 _ _ _ hB
          simp at e0 e1 e2 e3 e4 e5
          go_wp2_with fail
          refine (HC _).mono ?_
          rintro e w2 ⟨rfl, b2⟩
          replace p1 := Below.then2 p1 b2
          clear HC e0 e1 e2 e3 e4 e5
          go_wp2_with fail
          go_roundw
          case rel => exact ⟨j + 1, by omega, by go_num, by rw [hnx.out]; congr 1; split <;> omega, p1⟩
          case measure => simp [intOf]; omega
        · have hnx := Lib.hid (hnx.out.trans (if_neg he))
          go_quiet (fail)
          go_wp2_with fail
          go_roundw
          case rel => exact ⟨j + 1, by omega, by go_num, by rw [hnx.out], belowN p1 _⟩
          case measure => simp [intOf]; omega
      · obtain rfl : j = T.length := by omega
        go_wp2_with fail
        go_ret
        exact ⟨by rw [HV.out] <;> rfl, b.trans (p.mono b.size)⟩
set_option maxHeartbeats 4000000 in
/-- impl.demandOfOne. -/
theorem implDemOne (m : Ms) (t : Int) (w : World) (hok : mgOk m = true) (ht : 0 ≤ t ∧ t ≤ 200000) :
    Calls Try.prog 51 #[mgV m, .int .i64 t] w fun e w' => e = .returned (.int .i64 (demT m t)) ∧ Below w.heap.size w w' := by
  obtain ⟨_, hsz, hpe, hji, _, _⟩ := mgOk_iff.1 hok
  have hcc := costV_ok hok
  have HC := fun w => implCostOf m w (Go.WalkArith.wf_i64 ⟨by omega, by omega⟩)
  have HU := fun w => implUp (t + m.ji) m.pe w (by omega) (by omega) hpe.1 (by omega)
  have hup := upV_le (a := t + m.ji) (b := m.pe) (c := 220000) (by omega) hpe.1 (by omega)
  have HR := Lib.hid (show demT m t = upV (t + m.ji) m.pe * costV m from rfl)
  have hml : 0 ≤ upV (t + m.ji) m.pe * costV m ∧ upV (t + m.ji) m.pe * costV m ≤ 220000 * 135 :=
    ⟨Int.mul_nonneg hup.1 (by omega), Int.mul_le_mul hup.2 hcc.2 (by omega) (by omega)⟩
  generalize demT m t = R at HR ⊢
  generalize costV m = cc at *
  clear hok
  obtain ⟨id, sz, pe, ji, de, no⟩ := m
  dsimp only at *
  generalize upV (t + ji) pe = uu at *
  have wr1 : IntKind.i64.wrap (t + ji) = t + ji := by rw [IntKind.wrap_i64]; omega
  have wr2 : IntKind.i64.wrap (uu * cc) = uu * cc := by rw [IntKind.wrap_i64]; omega
  have HM := heap_alloc_new w (.cells (mgC ⟨id, sz, pe, ji, de, no⟩) 31)
  have b2 := below_more (Below.refl w.heap.size w) (.cells (mgC ⟨id, sz, pe, ji, de, no⟩) 31)
  go_enter Try.func51, Try.ntmps51
  go_upto_region 1 with fail
  generalize w.alloc _ = W at HM b2 ⊢
  generalize hgm : w.heap.size = gm at HM ⊢
  refine region_class (fun u => u.heap[gm]? = some (.cells (mgC ⟨id, sz, pe, ji, de, no⟩) 31 (0, 0)) ∧ Below w.heap.size w u) (by kernel_rfl) (by kernel_rfl) ⟨HM, b2.drew⟩ ?_
  clear HM b2
  repeat first
    | go_big_quiet_skip
    | (go_big_quiet_want
       apply Exists.intro
       refine ⟨fun u hu => ?_, ?_⟩
       · exact quietAt_val (mgTook hu.1 rfl rfl)
       simp only [Act.put, List.setIfInBounds_toArray, List.set_cons_zero, List.set_cons_succ]
       go_big_quiet_on)
    | (go_big_quiet_want
       apply Exists.intro
       refine ⟨fun u hu => ?_, ?_⟩
       · apply quietAt_val
         have e2 := cell_of_row u gm 2 _ _ _ hu.1
         have e3 := cell_of_row u gm 3 _ _ _ hu.1
         go_simp
         rfl
       simp only [Act.put, List.setIfInBounds_toArray, List.set_cons_zero, List.set_cons_succ]
       go_big_quiet_on)
    | (go_big_quiet_want
       apply Exists.intro
       refine ⟨fun u hu => ?_, ?_⟩
       · apply quietAt_enter 18 #[mgV ⟨id, sz, pe, ji, de, no⟩]
         · go_simp
         · refine (HC u).mono ?_
           rintro e w2 ⟨rfl, b2⟩
           exact ⟨rfl, (b2.block gm (Array.getElem?_eq_some_iff.1 hu.1).1).trans hu.1, Below.then2 hu.2 b2⟩
       simp only [Act.put, List.setIfInBounds_toArray, List.set_cons_zero, List.set_cons_succ]
       go_big_quiet_on)
    | (go_big_quiet_want
       apply Exists.intro
       refine ⟨fun u hu => ?_, ?_⟩
       · apply quietAt_enter 62 #[.int .i64 (t + ji), .int .i64 pe]
         · go_simp
         · refine (HU u).mono ?_
           rintro e w2 ⟨rfl, rfl⟩
           exact ⟨rfl, hu⟩
       simp only [Act.put, List.setIfInBounds_toArray, List.set_cons_zero, List.set_cons_succ]
       go_big_quiet_on)
  refine wpQuiet_nil ?_
  intro W2 L2
  have b := L2.2
  clear L2 HC HU
  go_wp2_with fail
  go_ret
  exact ⟨by rw [HR.out] <;> rfl, b⟩
set_option maxHeartbeats 4000000 in
/-- impl.demandOfAll. -/
theorem implDemAll (a : Option Addr) (M : List Ms) (c : Nat) (t : Int) (w : World) (hd : Tbl a M w) (hM : M.all mgOk = true) (hl : M.length ≤ 2000000) (ht : 0 ≤ t ∧ t ≤ 200000) :
    Calls Try.prog 50 #[.slice a M.length c, .int .i64 t] w fun e w' => e = .returned (.int .i64 (demA M t M.length)) ∧ Below w.heap.size w w' := by
  go_enter Try.func50, Try.ntmps50
  replace hM := Lib.hid hM
  go_wp2_with fail
  go_loopw [5, 10] (fun n k wr => ∃ j : Nat, j ≤ M.length ∧ k = .int .i64 j ∧ n = .int .i64 (demA M t j) ∧ Below w.heap.size w wr) (fun _ k _ => M.length - (intOf k).toNat)
  case atStart => exact ⟨0, Nat.zero_le _, rfl, rfl, Below.refl _ _⟩
  case round =>
    obtain ⟨j, hj, rfl, rfl, p⟩ := hrel
    by_cases hlt : j < M.length
    · obtain ⟨g, o, rfl, hc⟩ := (hd.below p).2 j hlt
      have hok := allM_at hM.out hlt
      have HD := fun w => implDemOne (nthTb M j) t w hok ht
      have hbd := demA_bd hM.out ht.1 j (by omega)
      have hdt := demT_bd hok ht.1
      have hnx := Lib.hid (show demA M t (j + 1) = demA M t j + demT (nthTb M j) t from rfl)
      have hnb : 0 ≤ demA M t j ∧ demA M t j ≤ 59400000000000 := ⟨hbd.1, by
        have h1 : (j : Int) * ((t + 20000) * 135) ≤ 2000000 * (220000 * 135) := Int.mul_le_mul (by omega) (by omega) (by omega) (by omega)
        omega⟩
      clear hbd hok
      generalize nthTb M j = m at *
      generalize demT m t = dd at *
      generalize demA M t j = nn at *
      obtain ⟨id, sz, pe, ji, de, no⟩ := m
      have wr1 : IntKind.i64.wrap (nn + dd) = nn + dd := by rw [IntKind.wrap_i64]; omega
      have hltI : (j : Int) < M.length := by omega
      obtain ⟨c0, c1, c2, c3, c4, c5⟩ := hc
      have p1 := below_more p (.cells (mgC ⟨id, sz, pe, ji, de, no⟩) 31)
      go_wp2_with fail
      refine (HD _).mono ?_
      rintro e w2 ⟨rfl, b2⟩
      replace p1 := Below.then2 p1 b2
      clear HD c0 c1 c2 c3 c4 c5 p b2
      go_wp2_with fail
      go_roundw
      case rel => exact ⟨j + 1, by omega, by go_num, by rw [hnx.out], p1⟩
      case measure => simp [intOf]; omega
    · obtain rfl : j = M.length := by omega
      go_wp2_with fail
      go_ret
      exact ⟨rfl, p⟩
end Go.Proofs.Ytohjfjcpkloigaa
