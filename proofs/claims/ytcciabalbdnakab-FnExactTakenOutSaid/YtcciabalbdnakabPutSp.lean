/- spec.PutIn. -/
import Derived.Test.YtcciabalbdnakabPutS
import Derived.Test.YtcciabalbdnakabSplice
import Derived.Deep.RegionLaw
set_option linter.unusedVariables false
set_option linter.unusedSimpArgs false
namespace Go.Proofs.Ytcciabalbdnakab
open Go.RowKit

theorem flatF_takes {M : List (Frm × Value)} {p : Nat} (hp : p ≤ M.length) : (flatF M).take (p * 4) = flatF (M.take p) := by
  conv => lhs; rw [← List.take_append_drop p M, flatF_append]
  have hl : (flatF (M.take p)).length = p * 4 := by rw [flatF_len, List.length_take, Nat.min_eq_left hp]
  rw [List.take_append_of_le_length (by omega), List.take_of_length_le (by omega)]
theorem OwnF.take {B g c p : Nat} {M : List (Frm × Value)} {w : World} (h : OwnF B M (.slice (some ⟨g, 0, none⟩) M.length c) w) (hp : p ≤ M.length) : OwnF B (M.take p) (.slice (some ⟨g, 0, none⟩) p c) w := by
  have hl : (M.take p).length = p := by simp; omega
  refine ⟨⟨flatF_len _, ?_⟩, fun m hm => h.2 m (List.mem_of_mem_take hm)⟩
  rw [hl]
  rcases h.1.2 with ⟨e, _⟩ | ⟨g', cap, cur, e, hb, hg, h1, h2, h3, h4⟩
  · cases e
  · cases e
    refine .inr ⟨g, c, cur, rfl, hb, hg, by omega, h2, h3, ?_⟩
    rw [← flatF_takes hp, ← h4, List.take_take]
    congr 1
    omega
theorem OwnF.putAt {B g c j : Nat} {M : List (Frm × Value)} {w : World} {id : Int} {rm : Bool} {ln : Int} {D : List Int} {dv : Value} (h : OwnF B M (.slice (some ⟨g, 0, none⟩) M.length c) w) (hj : j < M.length) (ho : OwnI B D dv w) :
    OwnF B (M.set j (⟨id, rm, ln, D⟩, dv)) (.slice (some ⟨g, 0, none⟩) M.length c) (putF g j id rm ln dv w) := by
  have k := putF_grown g j id rm ln dv w
  refine ⟨?_, fun m hm => ?_⟩
  · rw [List.length_set, ← flatF_set M j (⟨id, rm, ln, D⟩, dv) hj]
    exact ((((h.1.stored _ _).1.stored _ _).1.stored _ _).1.stored _ _).1
  · rcases List.mem_or_eq_of_mem_set hm with hm | rfl
    · exact (h.2 m hm).kept k (OwnI.ne_row h (h.2 m hm))
    · exact ho.kept k (OwnI.ne_row h ho)
theorem map_set {M : List (Frm × Value)} {L : List Frm} {j : Nat} {f : Frm} {dv : Value} (h : (M.map fun m => m.1) = L) (hj : j < L.length) : ((M.set j (f, dv)).map fun m => m.1) = splL L j (j + 1) [f] := by
  rw [List.map_set, h, List.set_eq_take_append_cons_drop, if_pos hj]; rfl
/-- What spec.PutIn leaves. -/
def PutO (R : List Frm × Int) (w : World) (e : Ending) (w' : World) : Prop :=
  ∃ (M : List (Frm × Value)) (g c : Nat), e = .returned (.tuple #[.slice (some ⟨g, 0, none⟩) R.1.length c, .int .i64 R.2]) ∧ (M.map fun m => m.1) = R.1 ∧ OwnF w.heap.size M (.slice (some ⟨g, 0, none⟩) R.1.length c) w' ∧ Below w.heap.size w w'

/-- Frames appended to a row of the call's own: their data are rows of its own, too. -/
theorem run_appX (w : World) (ty : TypeId) (B : Nat) (M X : List (Frm × Value)) (v : Value) (h : OwnF B M v w) (ad : Addr) (m c : Nat) (hX : X.length = m) (hnews : ∀ j u, (flatF X)[j]? = some u → w.cell? (ad.add j) = some u) (hd : ∀ x ∈ X, OwnI B x.1.D x.2 w)
    (hv : v ≠ .slice none 0 0) (hsz : M.length + m ≤ 1000000) (hB : B ≤ w.heap.size) :
    ∃ g c' w', (Builtin.append_ #[31, 31] ty #[v, .slice (some ad) m c]).run Try.prog w = .ok (.slice (some ⟨g, 0, none⟩) (M.length + m) c') w' ∧ OwnF B (M ++ X) (.slice (some ⟨g, 0, none⟩) (M.length + m) c') w' ∧ w.grownBy w' v.ownBlock := by
  obtain ⟨i0, hi, hz0, hz1, hz2⟩ := info_parts infoF
  obtain ⟨v', w', hr, h2, h3, h4⟩ := run_append_own (P := Try.prog) w B 31 ty 26 i0 (.agg #[.int .i64 0, .bool false, .int .i64 0, .slice none 0 0]) 4 48 Try.underlying31 hi hz0 hz1 hz2 rfl (by decide) v M.length (flatF M) h.1 ad m c (flatF X) (by rw [flatF_len, hX]) hnews
    (fun u hu => by
      simp only [flatF, List.mem_flatMap] at hu
      obtain ⟨x, hx, hu⟩ := hu
      obtain ⟨ad, c, e, -⟩ := (hd x hx).nums
      simp at hu
      rcases hu with rfl | rfl | rfl | rfl
      · rfl
      · rfl
      · rfl
      · rw [e]; rfl) (by unfold maxLen; omega) (by omega) hB
  have hown : OwnF B (M ++ X) v' w' := by
    refine ⟨by rw [flatF_append, List.length_append, hX]; exact h2, fun x hx => ?_⟩
    rcases List.mem_append.1 hx with hx | hx
    · exact (h.2 x hx).kept h3 (OwnI.ne_row h (h.2 x hx))
    · exact (hd x hx).kept h3 (OwnI.ne_row h (hd x hx))
  rcases h2.2 with ⟨e, -⟩ | ⟨g, cap, cur, e, _⟩
  · exact absurd (h4.1 e).1 hv
  · subst e
    exact ⟨g, cap, w', hr, hown, h3⟩
theorem step_appX {ops : Array Oper} {o : Oper} {a : Act} {w : World} {K : Act → World → Prop} {Q : Exit → Act → World → Prop} {E : Prop} (hgd : o.guard = none) (s x : Operand)
    (ho : o.op = .call { callee := .builtin .append, args := #[s, x], argTypes := #[31, 31] })
    (B : Nat) (M X : List (Frm × Value)) (v : Value) (hs : a.eval s = v) (h : OwnF B M v w) (ad : Addr) (m c : Nat) (hx : a.eval x = .slice (some ad) m c) (hX : X.length = m) (hnews : ∀ j u, (flatF X)[j]? = some u → w.cell? (ad.add j) = some u) (hd : ∀ x ∈ X, OwnI B x.1.D x.2 w)
    (hv : v ≠ .slice none 0 0) (hsz : M.length + m ≤ 1000000) (hB : B ≤ w.heap.size)
    (hK : ∀ g c' w', OwnF B (M ++ X) (.slice (some ⟨g, 0, none⟩) (M.length + m) c') w' → w.grownBy w' v.ownBlock → K (a.put o.dst (.slice (some ⟨g, 0, none⟩) (M.length + m) c')) w') :
    if Region.wanted o (yielded ops a.tmps) = true then Oper.wp Try.prog o a w K Q else E := by
  have hw : Region.wanted o (yielded ops a.tmps) = true := by simp [Region.wanted, hgd]
  rw [if_pos hw]
  obtain ⟨g, c', w', hr, h2, h3⟩ := run_appX w o.type B M X v h ad m c hX hnews hd hv hsz hB
  unfold Oper.wp
  simp [execOp, ho, resolve, invoke, builtin, hs, hx, hr, Result.andThen]
  exact hK g c' w' h2 h3
theorem wpList_appX {ops : Array Oper} {rest : List Oper} {p : Oper} {a : Act} {w : World} {Q : Exit → Act → World → Prop} (hgd : p.guard = none) (s x : Operand)
    (ho : p.op = .call { callee := .builtin .append, args := #[s, x], argTypes := #[31, 31] })
    (B : Nat) (M X : List (Frm × Value)) (v : Value) (hs : a.eval s = v) (h : OwnF B M v w) (ad : Addr) (m c : Nat) (hx : a.eval x = .slice (some ad) m c) (hX : X.length = m) (hnews : ∀ j u, (flatF X)[j]? = some u → w.cell? (ad.add j) = some u) (hd : ∀ x ∈ X, OwnI B x.1.D x.2 w)
    (hv : v ≠ .slice none 0 0) (hsz : M.length + m ≤ 1000000) (hB : B ≤ w.heap.size)
    (hK : ∀ g c' w', OwnF B (M ++ X) (.slice (some ⟨g, 0, none⟩) (M.length + m) c') w' → w.grownBy w' v.ownBlock → wpList Try.prog ops Q rest (a.put p.dst (.slice (some ⟨g, 0, none⟩) (M.length + m) c')) w') : wpList Try.prog ops Q (p :: rest) a w := by
  obtain ⟨g, c', w', hr, h2, h3⟩ := run_appX w p.type B M X v h ad m c hX hnews hd hv hsz hB
  refine wpList_plain hgd fun K hK' => ?_
  unfold Oper.wp
  simp [execOp, ho, resolve, invoke, builtin, hs, hx, hr, Result.andThen]
  exact hK' _ _ (hK g c' w' h2 h3)

set_option maxHeartbeats 8000000 in
set_option maxRecDepth 20000 in
/-- spec.PutIn. -/
theorem specPutIn (a : Option Addr) (L : List Frm) (c : Nat) (id : Int) (rm : Bool) (ln : Int) (ad : Option Addr) (D : List Int) (cd : Nat) (w : World) (hd : Frs a L w) (hn : Nums ad D w) :
    Calls Try.prog 29 #[.slice a L.length c, frV id rm ln ad D.length cd] w (PutO (putV L ⟨id, rm, ln, D⟩) w) := by
  have f0 := Four.made (.int .i64 id) (.bool rm) (.int .i64 ln) (.slice ad D.length cd) 26 (Below.refl w.heap.size w)
  have hrk : rkF ⟨id, rm, ln, D⟩ = rankV id rm ln D := rfl
  replace hrk := Lib.hid hrk
  go_enter Try.func29, Try.ntmps29
  go_upto_region 1 with fail
  replace hd := hd.below f0.2
  replace hn := hn.below f0.2
  generalize w.alloc (.cells #[.int .i64 id, .bool rm, .int .i64 ln, .slice ad D.length cd] 26) = W at *
  go_wp2_with fail
  refine (specBoxOk a L c W hd).mono ?_
  rintro e w1 ⟨he, b1⟩
  replace hd := hd.below b1
  replace hn := hn.below b1
  replace f0 := f0.below b1
  clear b1 W
  cases hb : boxB L with
  | false =>
    rw [hb] at he
    subst he
    have HV := Lib.hid (putV_bad (f := ⟨id, rm, ln, D⟩) hb)
    clear hb
    have bw := below_more f0.2 (.cells #[] 26)
    have own0 := own_made w1 f0.2.size
    go_wp2_with fail
    go_ret2
    exact ⟨[], _, 0, by rw [HV.out] <;> rfl, by rw [HV.out] <;> rfl, by rw [HV.out]; exact own0, bw⟩
  | true =>
    rw [hb] at he
    subst he
    have hB := boxB_iff.1 hb
    have h8 : ∀ j, j < L.length → (nthF L j).D.length ≤ 1000 := fun j hj => by have := hB.2.short hj; omega
    have h16 := hB.1
    replace h8 := Lib.hid h8
    replace hB := Lib.hid hB.2
    replace hb := Lib.hid hb
    go_wp2_with fail
    refine (copyAll a L c w1 hd (by omega) h8.out).mono ?_
    rintro e w2 ⟨M, g, co, rfl, hM, O, b1⟩
    replace O := O.mono f0.2.size
    replace hn := hn.below b1
    replace f0 := f0.below b1
    have hml : M.length = L.length := by rw [← hM]; simp
    replace hM := Lib.hid hM
    clear b1 hd h8
    obtain ⟨⟨x0, x1, x2, x3⟩, bw⟩ := f0
    have f0 : Four w.heap.size (.int .i64 id) (.bool rm) (.int .i64 ln) (.slice ad D.length cd) w w2 := ⟨⟨x0, x1, x2, x3⟩, bw⟩
    go_wp2_with fail
    refine (specFrameOk id rm ln ad D cd w2 hn).mono ?_
    rintro e w3 ⟨he, b1⟩
    replace O := O.below b1
    replace hn := hn.below b1
    replace f0 := f0.below b1
    clear b1 x0 x1 x2 x3 bw
    cases hok : frOk id rm ln D with
    | false =>
      rw [hok] at he
      subst he
      have HV := Lib.hid (putV_no (f := ⟨id, rm, ln, D⟩) hb.out (by rw [hrk.out]; exact rankV_neg.2 hok))
      clear hok hml
      have bw := f0.2
      go_wp2_with fail
      go_ret2
      exact ⟨M, g, co, by rw [HV.out] <;> rfl, by rw [HV.out]; exact hM.out, by rw [HV.out]; exact O, bw⟩
    | true =>
      rw [hok] at he
      subst he
      have hr0 : ¬ rkF ⟨id, rm, ln, D⟩ < 0 := fun h => by rw [hrk.out] at h; rw [rankV_neg.1 h] at hok; cases hok
      have hf8 := frOk_len hok
      replace hr0 := Lib.hid hr0
      clear hok
      replace hml := Lib.hid hml
      obtain ⟨r, hR'⟩ : ∃ r, rankV id rm ln D = r := ⟨_, rfl⟩
      have hrf : rkF ⟨id, rm, ln, D⟩ = r := by rw [hrk.out]; exact hR'
      rw [hrf] at hr0
      replace hrf := Lib.hid hrf
      have HR' := Lib.hid hR'
      clear hrk hR'
      obtain ⟨W0, hW0⟩ : ∃ W0, W0 = w3 := ⟨_, rfl⟩
      rw [← hW0] at O f0 hn
      have hF : Frs (some ⟨g, 0, none⟩) L W0 := by
        obtain ⟨a', c', e, hf⟩ := O.frs (by rw [hml.out]; omega)
        rw [hml.out] at e
        cases e
        rw [hM.out] at hf
        exact hf
      go_wp2_with fail
      go_loopw [7, 8] (fun p i wr => ∃ k : Nat, k ≤ L.length ∧ i = .int .i64 k ∧ p = .int .i64 (posN L r k : Nat) ∧ (∀ j, j < k → rkF (nthF L j) ≠ r) ∧ Below W0.heap.size W0 wr) (fun _ i _ => L.length - (intOf i).toNat)
      case atStart => exact ⟨0, Nat.zero_le _, rfl, rfl, fun j hj => absurd hj (by omega), by rw [hW0]; exact Below.refl _ _⟩
      case round =>
        clear hW0
        obtain ⟨k, hk, rfl, rfl, hne, bw⟩ := hrel
        replace hne := Lib.hid hne
        by_cases hlt : k < L.length
        · obtain ⟨g', o', ak, ck, e, fa⟩ := (hF.below bw).2 k hlt
          cases e
          rw [Nat.zero_add] at fa
          have fb := f0.below bw
          have hnb := hn.below bw
          have hpy := Lib.hid (fun h => posN_yes (L := L) (r := r) (k := k) h)
          have hpn := Lib.hid (fun h => posN_no (L := L) (r := r) (k := k) h)
          have hqk : rkF (nthF L k) = rankV (nthF L k).id (nthF L k).rm (nthF L k).ln (nthF L k).D := rfl
          have hqne := Lib.hid (show rkF (nthF L k) ≠ r → ∀ j, j < k + 1 → rkF (nthF L j) ≠ r from fun h j hj => by
            by_cases e : j = k
            · subst e; exact h
            · exact hne.out j (by omega))
          have hmet := Lib.hid (show rkF (nthF L k) = r → Pos L r k ∧ metB L r k = true from fun h => ⟨⟨hk, fun j hj => by have := hB.out.lt hj hlt; omega, fun j hj hj2 => by
            by_cases e : j = k
            · subst e; omega
            · have := hB.out.lt (show k < j by omega) hj2; omega⟩, metB_yes.2 ⟨hlt, h⟩⟩)
          have hR' := HR'.out
          generalize posN L r k = p at *
          generalize rkF (nthF L k) = q at *
          generalize nthF L k = fk at *
          obtain ⟨idk, rmk, lnk, Dk⟩ := fk
          simp only at hqk
          have hR : rankV idk rmk lnk Dk = q := hqk.symm
          replace hne := Lib.hid hne
          clear hqk
          go_upto_region 10 with fail
          refine region_class (fun u => FrC g (k * 4) ak ck ⟨idk, rmk, lnk, Dk⟩ u ∧ (Four w.heap.size (.int .i64 id) (.bool rm) (.int .i64 ln) (.slice ad D.length cd) w u ∧ Nums ad D u) ∧ Below W0.heap.size W0 u) (by kernel_rfl) (by kernel_rfl) ⟨fa.drew, ⟨fb.drew, hnb.drew⟩, bw.drew⟩ ?_
          clear fa fb hnb bw
          repeat first
            | go_big_quiet_skip
            | (go_big_quiet_want
               apply Exists.intro
               refine ⟨fun u hu => ?_, ?_⟩
               · apply quietAt_val
                 obtain ⟨⟨⟨a0, a1, a2, a3⟩, _⟩, ⟨⟨⟨b0, b1, b2, b3⟩, _⟩, _⟩, _⟩ := hu
                 go_simp
                 rfl
               simp only [Act.put, List.setIfInBounds_toArray, List.set_cons_zero, List.set_cons_succ]
               go_big_quiet_on)
            | (go_big_quiet_want
               apply Exists.intro
               refine ⟨fun u hu => ?_, ?_⟩
               · apply quietAt_enter 17 #[frV idk rmk lnk ak Dk.length ck]
                 · go_simp
                 · refine (specRankOf idk rmk lnk ak Dk ck u hu.1.2).mono ?_
                   rintro e w2 ⟨rfl, b2⟩
                   rw [hR]
                   exact ⟨rfl, hu.1.below b2, ⟨hu.2.1.1.below b2, hu.2.1.2.below b2⟩, Below.then2 hu.2.2 b2⟩
               simp only [Act.put, List.setIfInBounds_toArray, List.set_cons_zero, List.set_cons_succ]
               go_big_quiet_on)
            | (go_big_quiet_want
               apply Exists.intro
               refine ⟨fun u hu => ?_, ?_⟩
               · apply quietAt_enter 17 #[frV id rm ln ad D.length cd]
                 · go_simp
                 · refine (specRankOf id rm ln ad D cd u hu.2.1.2).mono ?_
                   rintro e w2 ⟨rfl, b2⟩
                   rw [hR']
                   exact ⟨rfl, hu.1.below b2, ⟨hu.2.1.1.below b2, hu.2.1.2.below b2⟩, Below.then2 hu.2.2 b2⟩
               simp only [Act.put, List.setIfInBounds_toArray, List.set_cons_zero, List.set_cons_succ]
               go_big_quiet_on)
          refine wpQuiet_nil ?_
          intro W2 L2
          obtain ⟨fa, ⟨fb, hnb⟩, bw⟩ := L2
          have HR := Lib.hid hR
          clear hR hR'
          by_cases hq : q = r
          · have hqb : (q == r) = true := by simp [hq]
            obtain ⟨hP, hm⟩ := hmet.out hq
            have HV := Lib.hid (putV_over (f := ⟨id, rm, ln, D⟩) hb.out (by have := hr0.out; rw [hrf.out]; omega) (by rw [hrf.out]; exact hP) (by rw [hrf.out]; exact hm))
            clear hq hP hm hpy hpn hqne hmet HR HR' fa hF
            have O1 := O.below bw
            clear O
            obtain ⟨⟨x0, x1, x2, x3⟩, bb⟩ := fb
            go_wp2_with fail
            refine (copyFr id rm ln ad D cd W2 hnb (by omega)).mono ?_
            rintro e w4 ⟨av, cv, rfl, oA, g2⟩
            replace oA := oA.mono bb.size
            replace O1 := O1.stay g2
            replace bb := bb.trans ((below_new g2).mono bb.size)
            clear g2 hnb x0 x1 x2 x3
            rw [← hml.out] at O1
            have hkm : k < M.length := by rw [hml.out]; exact hlt
            have O2 := O1.putAt (id := id) (rm := rm) (ln := ln) hkm oA
            have hmp := Lib.hid (map_set (f := ⟨id, rm, ln, D⟩) (dv := .slice av D.length cv) hM.out hlt)
            obtain ⟨x0, x1, x2, x3⟩ := O1.cells hkm
            have z0 := O1.frz (k * 4)
            have z1 := O1.frz (k * 4 + 1)
            have z2 := O1.frz (k * 4 + 2)
            have z3 := O1.frz (k * 4 + 3)
            have b2 := bb.grown (putF_grown g k id rm ln (.slice av D.length cv) w4) bb.size (fun q e => by cases e; exact (O1.1.lt g rfl).1)
            have hsl : (splL L k (k + 1) [⟨id, rm, ln, D⟩]).length = L.length := by rw [splL_len (by omega)]; simp; omega
            replace hsl := Lib.hid hsl
            rw [hml.out] at O2
            replace O2 := Lib.hid O2
            replace b2 := Lib.hid b2
            clear O1
            generalize (nthM M k).1.id = i0 at *
            generalize (nthM M k).1.rm = i1 at *
            generalize (nthM M k).1.ln = i2 at *
            generalize (nthM M k).2 = i3 at *
            go_wp2_with fail
            go_ret2
            exact ⟨_, g, co, by rw [HV.out]; simp only [hsl.out] <;> rfl, by rw [HV.out]; exact hmp.out, by rw [HV.out]; simp only [hsl.out]; exact O2.out, b2.out⟩
          · have hqb : (q == r) = false := by simp [hq]
            replace hqne := Lib.hid (hqne.out hq)
            have hR := HR.out
            have hR' := HR'.out
            clear hq hmet
            generalize W2 = wr at *
            go_upto_region 13 with fail
            refine region_class (fun u => FrC g (k * 4) ak ck ⟨idk, rmk, lnk, Dk⟩ u ∧ (Four w.heap.size (.int .i64 id) (.bool rm) (.int .i64 ln) (.slice ad D.length cd) w u ∧ Nums ad D u) ∧ Below W0.heap.size W0 u) (by kernel_rfl) (by kernel_rfl) ⟨fa.drew, ⟨fb.drew, hnb.drew⟩, bw.drew⟩ ?_
            clear fa fb hnb bw
            repeat first
              | go_big_quiet_skip
              | (go_big_quiet_want
                 apply Exists.intro
                 refine ⟨fun u hu => ?_, ?_⟩
                 · apply quietAt_val
                   obtain ⟨⟨⟨a0, a1, a2, a3⟩, _⟩, ⟨⟨⟨b0, b1, b2, b3⟩, _⟩, _⟩, _⟩ := hu
                   go_simp
                   rfl
                 simp only [Act.put, List.setIfInBounds_toArray, List.set_cons_zero, List.set_cons_succ]
                 go_big_quiet_on)
              | (go_big_quiet_want
                 apply Exists.intro
                 refine ⟨fun u hu => ?_, ?_⟩
                 · apply quietAt_enter 17 #[frV idk rmk lnk ak Dk.length ck]
                   · go_simp
                   · refine (specRankOf idk rmk lnk ak Dk ck u hu.1.2).mono ?_
                     rintro e w2 ⟨rfl, b2⟩
                     rw [hR]
                     exact ⟨rfl, hu.1.below b2, ⟨hu.2.1.1.below b2, hu.2.1.2.below b2⟩, Below.then2 hu.2.2 b2⟩
                 simp only [Act.put, List.setIfInBounds_toArray, List.set_cons_zero, List.set_cons_succ]
                 go_big_quiet_on)
              | (go_big_quiet_want
                 apply Exists.intro
                 refine ⟨fun u hu => ?_, ?_⟩
                 · apply quietAt_enter 17 #[frV id rm ln ad D.length cd]
                   · go_simp
                   · refine (specRankOf id rm ln ad D cd u hu.2.1.2).mono ?_
                     rintro e w2 ⟨rfl, b2⟩
                     rw [hR']
                     exact ⟨rfl, hu.1.below b2, ⟨hu.2.1.1.below b2, hu.2.1.2.below b2⟩, Below.then2 hu.2.2 b2⟩
                 simp only [Act.put, List.setIfInBounds_toArray, List.set_cons_zero, List.set_cons_succ]
                 go_big_quiet_on)
            refine wpQuiet_nil ?_
            intro W2 L2
            obtain ⟨fa, ⟨fb, hnb⟩, bw⟩ := L2
            clear hR hR' HR fa fb hnb
            by_cases hl : q < r
            · replace hpy := Lib.hid (hpy.out hl)
              go_wp2_with fail
              go_roundw
              case rel => exact ⟨k + 1, by omega, by go_num, by rw [hpy.out] <;> go_num, hqne.out, bw⟩
              case measure => simp [intOf]; omega
            · replace hpn := Lib.hid (hpn.out hl)
              go_wp2_with fail
              go_roundw
              case rel => exact ⟨k + 1, by omega, by go_num, by rw [hpn.out] <;> rfl, hqne.out, bw⟩
              case measure => simp [intOf]; omega
        · obtain rfl : k = L.length := by omega
          have hP := pos_at (r := r) hB.out
          have hm : metB L r (posN L r L.length) = false := by
            cases hmm : metB L r (posN L r L.length) with
            | false => rfl
            | true => exact absurd (metB_yes.1 hmm).2 (hne.out _ (metB_yes.1 hmm).1)
          have hpl := posN_le L r L.length
          generalize posN L r L.length = p at *
          have O1 := O.below bw
          have hn1 := hn.below bw
          replace f0 := f0.below bw
          have bb := f0.2
          clear O hn hne hF HR' bw
          by_cases hge : 16 ≤ L.length
          · have HV := Lib.hid (putV_full (f := ⟨id, rm, ln, D⟩) hb.out (by have := hr0.out; rw [hrf.out]; omega) (by rw [hrf.out]; exact hP) (by rw [hrf.out]; exact hm) hge)
            have hgi : (16 : Int) ≤ (L.length : Int) := by omega
            clear hP hm
            go_wp2_with fail
            go_ret2
            exact ⟨M, g, co, by rw [HV.out] <;> rfl, by rw [HV.out]; exact hM.out, by rw [HV.out]; exact O1, bb⟩
          · have HV := Lib.hid (putV_new (f := ⟨id, rm, ln, D⟩) hb.out (by have := hr0.out; rw [hrf.out]; omega) (by rw [hrf.out]; exact hP) (by rw [hrf.out]; exact hm) hge)
            have hgi : ¬ (16 : Int) ≤ (L.length : Int) := by omega
            clear hP hm hb hB hr0 hrf
            have hco := O1.len.2
            rw [← hml.out] at O1
            have hpm : p ≤ M.length := by rw [hml.out]; exact hpl
            have hdl : (M.drop p).length = L.length - p := by rw [List.length_drop, hml.out]
            have hcell : ∀ (W : World), OwnF w.heap.size M (.slice (some ⟨g, 0, none⟩) M.length co) W → ∀ j u, (flatF (M.drop p))[j]? = some u → W.cell? ((⟨g, p * 4, none⟩ : Addr).add j) = some u := by
              intro W hO j u hu
              have h1 := flatF_drop hpm hu
              have h2 := (List.getElem?_eq_some_iff.1 h1).1
              rw [flatF_len] at h2
              rw [add_lit, hO.1.cellAt _ (by omega), h1]
            have hmap2 : ∀ dv : Value, ((M.take p ++ [((⟨id, rm, ln, D⟩ : Frm), dv)] ++ M.drop p).map fun m => m.1) = splL L p p [⟨id, rm, ln, D⟩] := by
              intro dv
              rw [List.append_assoc]; exact map_take_drop hM.out p p _
            have hsl : (splL L p p [⟨id, rm, ln, D⟩]).length = p + 1 + (L.length - p) := by rw [splL_len hpl]; simp; omega
            have hOt := fun (W : World) (h : OwnF w.heap.size M (.slice (some ⟨g, 0, none⟩) M.length co) W) => h.take hpm
            have hal : (M.take p).length = p := by simp; omega
            replace hmap2 := Lib.hid hmap2
            replace hsl := Lib.hid hsl
            replace hcell := Lib.hid hcell
            replace hOt := Lib.hid hOt
            have hgw : g < wr.heap.size := (O1.1.lt g rfl).2
            have hgb : w.heap.size ≤ g := (O1.1.lt g rfl).1
            have kb : Below wr.heap.size wr (wr.alloc (.cells #[] 26)) := (Below.refl _ _).alloc (Nat.le_refl _) _
            have own0 : RowOf wr.heap.size (.slice (some ⟨wr.heap.size, 0, none⟩) 0 0) [] (wr.alloc (.cells #[] 26)) := (own_made wr (Nat.le_refl _)).1
            have hDn : Dat [] wr := fun m hm => by cases hm
            have hDd : Dat (M.drop p) wr := fun m hm => by
              obtain ⟨ad, c, e, h⟩ := (O1.2 m (List.mem_of_mem_drop hm)).nums
              exact ⟨ad, c, e, h⟩
            have hnw := hcell.out _ (O1.below kb)
            replace hnw := Lib.hid hnw
            by_cases hcp : co = p
            · have hX0 : M.drop p = [] := List.eq_nil_of_length_eq_zero (by omega)
              replace hX0 := Lib.hid hX0
              have hcp' : p = co := hcp.symm
              subst hcp'
              have hL0 : L.length - p = 0 := by omega
              rw [hL0] at hdl
              rw [hL0] at hsl
              clear hcp hL0
              go_wp2_with (at_builtin; go_loud (refine wpList_ownF rfl _ _ rfl wr.heap.size [] (M.drop p) (.slice (some ⟨wr.heap.size, 0, none⟩) 0 0) rfl own0 ⟨g, 0, none⟩ _ _ hdl rfl (fun j u hu => by rw [hX0.out] at hu; cases hu) wr (Nat.le_refl _) kb.size kb hDn hDd (by first | omega | (simp; omega) | simp) ?_))
              intro vr W5 R5 D5 b5 hnr
              have O5 := O1.below b5
              have n5 := (hn1.alloc (.cells #[] 26))
              replace n5 := hn1.below b5
              replace f0 := f0.below b5
              obtain ⟨⟨x0, x1, x2, x3⟩, bb⟩ := f0
              have hR5 : ∃ gr cr, vr = .slice (some ⟨gr, 0, none⟩) 0 cr ∧ wr.heap.size ≤ gr ∧ W5.ownsRow wr.heap.size 26 4 (.slice (some ⟨gr, 0, none⟩) 0 cr) 0 (flatF (M.drop p)) := by
                rcases R5.2 with ⟨e, -⟩ | ⟨gr, cap, cur, e, hb, -⟩
                · exact absurd (hnr e) (by simp)
                · rw [hdl] at e
                  subst e
                  refine ⟨gr, cap, rfl, hb, ?_⟩
                  have h := R5
                  unfold RowOf at h
                  rw [hdl] at h
                  exact h
              obtain ⟨gr, cr, rfl, hgr, R⟩ := hR5
              clear R5 D5 hnr own0 kb hDn O1 hn1 b5
              generalize wr.heap.size = hw at *
              have hpco : p ≤ p := by omega
              have hneg : g ≠ gr := by omega
              have hne7 := Lib.hid (show (Value.slice (some (⟨gr, 0, none⟩ : Addr)) 0 cr).ownBlock ≠ (Value.slice (some (⟨g, 0, none⟩ : Addr)) p p).ownBlock by simp [Value.ownBlock]; omega)
              have hlow := Lib.hid (show ∀ q, (Value.slice (some (⟨g, 0, none⟩ : Addr)) p p).ownBlock = some q → w.heap.size ≤ q from fun q e => by simp [Value.ownBlock] at e; subst e; exact hgb)
              have hszw : w.heap.size ≤ W5.heap.size := bb.size
              go_upto_region 18 with fail
              go_region_law (first
                | (go_simp
                   go_at_call 60
                   refine (copyFr id rm ln ad D cd _ n5.drew (by omega)).mono ?_
                   rintro e w6 ⟨av, cv, rfl, oA, g6⟩
                   have g6' := grown_of_drew g6
                   have O6 := O5.stay g6'
                   have R6 := R.kept g6' (by simp [Value.ownBlock])
                   have b6 := bb.trans ((below_new g6').mono hszw)
                   replace oA := oA.mono (B' := w.heap.size) hszw
                   have hs6 : Hid (w.heap.size ≤ (w6.alloc (.cells #[.int .i64 id, .bool rm, .int .i64 ln, .slice av D.length cv] 26)).heap.size) := Lib.hid (below_more b6 _).size)
                | (refine step_appX rfl (.tmp 61) (.tmp 64) rfl w.heap.size (M.take p) [(⟨id, rm, ln, D⟩, .slice av D.length cv)] (.slice (some ⟨g, 0, none⟩) p p) ?_ ?_ ⟨w6.heap.size, 0, none⟩ 1 1 ?_ ?_ ?_ ?_ ?_ ?_ hs6.out ?_
                   · simp [Act.eval, Act.put]
                   · exact hOt.out _ (O6.stay (World.grownBy_alloc w6 _ none))
                   · simp [Act.eval, Act.put]
                   · rfl
                   · intro j u hu
                     rw [add_lit, Nat.zero_add]
                     match j, hu with
                     | 0, hu => simp [flatF] at hu; subst hu; exact World.cell?_alloc_at _ _ _ _ rfl
                     | 1, hu => simp [flatF] at hu; subst hu; exact World.cell?_alloc_at _ _ _ _ rfl
                     | 2, hu => simp [flatF] at hu; subst hu; exact World.cell?_alloc_at _ _ _ _ rfl
                     | 3, hu => simp [flatF] at hu; subst hu; exact World.cell?_alloc_at _ _ _ _ rfl
                   · intro x hx
                     simp at hx
                     subst hx
                     exact oA.stay (World.grownBy_alloc w6 _ none)
                   · intro e
                     cases e
                   · omega
                   intro g7 c7 w7 O7 k7
                   have hl7 : (M.take p ++ [((⟨id, rm, ln, D⟩ : Frm), (Value.slice av D.length cv))]).length = p + 1 := by
                     rw [List.length_append, hal]
                     rfl
                   have R7 := (R6.kept (World.grownBy_alloc w6 (.cells #[.int .i64 id, .bool rm, .int .i64 ln, .slice av D.length cv] 26) none) (Classical.em _)).kept k7 (.inr hne7.out)
                   have b7 := (below_more b6 (.cells #[.int .i64 id, .bool rm, .int .i64 ln, .slice av D.length cv] 26)).grown k7 hs6.out hlow.out
                   have X7 : ∀ x ∈ M.drop p, OwnI w.heap.size x.1.D x.2 w7 := fun x hx =>
                     have h6 := hOt.out _ (O6.stay (World.grownBy_alloc w6 (.cells #[.int .i64 id, .bool rm, .int .i64 ln, .slice av D.length cv] 26) none))
                     have h7 := (O6.stay (World.grownBy_alloc w6 (.cells #[.int .i64 id, .bool rm, .int .i64 ln, .slice av D.length cv] 26) none)).2 x (List.mem_of_mem_drop hx)
                     h7.kept k7 (OwnI.ne_row h6 h7)
                   have hs7 : Hid (w.heap.size ≤ w7.heap.size) := Lib.hid (Nat.le_trans hs6.out k7.size))
                | (refine step_appX rfl (.tmp 65) (.tmp 66) rfl w.heap.size (M.take p ++ [(⟨id, rm, ln, D⟩, .slice av D.length cv)]) (M.drop p) (.slice (some ⟨g7, 0, none⟩) (p + 1) c7) ?_ ?_ ⟨gr, 0, none⟩ 0 cr ?_ hdl ?_ X7 ?_ ?_ hs7.out ?_
                   · simp [Act.eval, Act.put, hal]
                   · have h := O7
                     rw [hal] at h
                     exact h
                   · simp [Act.eval, Act.put]
                   · intro j u hu
                     have h2 := (List.getElem?_eq_some_iff.1 hu).1
                     have h3 := R7.1
                     rw [add_lit, Nat.zero_add, R7.cellAt _ (by omega)]
                     exact hu
                   · intro e
                     cases e
                   · omega
                   intro g8 c8 w8 O8 k8))
              rw [hl7] at O8
              have b8 := b7.grown k8 hs7.out (fun q e => by simp [Value.ownBlock] at e; subst e; exact (O7.1.lt g7 rfl).1)
              have hmp := Lib.hid (hmap2.out (.slice av D.length cv))
              replace O8 := Lib.hid O8
              clear O5 O6 O7 R R6 R7 X7 k7 k8 b6 b7 oA g6 g6' bb x0 x1 x2 x3 n5 hdl hl7
              go_wp2_with fail
              go_ret2
              exact ⟨_, g8, c8, by rw [HV.out]; simp only [hsl.out] <;> rfl, by rw [HV.out]; exact hmp.out, by rw [HV.out]; simp only [hsl.out]; exact O8.out, b8⟩
            · skip
              go_wp2_with (at_builtin; go_loud (refine wpList_ownF rfl _ _ rfl wr.heap.size [] (M.drop p) (.slice (some ⟨wr.heap.size, 0, none⟩) 0 0) rfl own0 ⟨g, p * 4, none⟩ _ _ hdl rfl hnw.out wr (Nat.le_refl _) kb.size kb hDn hDd (by first | omega | (simp; omega) | simp) ?_))
              intro vr W5 R5 D5 b5 hnr
              have O5 := O1.below b5
              have n5 := (hn1.alloc (.cells #[] 26))
              replace n5 := hn1.below b5
              replace f0 := f0.below b5
              obtain ⟨⟨x0, x1, x2, x3⟩, bb⟩ := f0
              have hR5 : ∃ gr cr, vr = .slice (some ⟨gr, 0, none⟩) (L.length - p) cr ∧ wr.heap.size ≤ gr ∧ W5.ownsRow wr.heap.size 26 4 (.slice (some ⟨gr, 0, none⟩) (L.length - p) cr) (L.length - p) (flatF (M.drop p)) := by
                rcases R5.2 with ⟨e, -⟩ | ⟨gr, cap, cur, e, hb, -⟩
                · exact absurd (hnr e) (by simp)
                · rw [hdl] at e
                  subst e
                  refine ⟨gr, cap, rfl, hb, ?_⟩
                  have h := R5
                  unfold RowOf at h
                  rw [hdl] at h
                  exact h
              obtain ⟨gr, cr, rfl, hgr, R⟩ := hR5
              clear R5 D5 hnr own0 kb hDn O1 hn1 b5
              generalize wr.heap.size = hw at *
              have hpco : p ≤ co := by omega
              have hneg : g ≠ gr := by omega
              have hne7 := Lib.hid (show (Value.slice (some (⟨gr, 0, none⟩ : Addr)) (L.length - p) cr).ownBlock ≠ (Value.slice (some (⟨g, 0, none⟩ : Addr)) p co).ownBlock by simp [Value.ownBlock]; omega)
              have hlow := Lib.hid (show ∀ q, (Value.slice (some (⟨g, 0, none⟩ : Addr)) p co).ownBlock = some q → w.heap.size ≤ q from fun q e => by simp [Value.ownBlock] at e; subst e; exact hgb)
              have hszw : w.heap.size ≤ W5.heap.size := bb.size
              go_upto_region 18 with fail
              go_region_law (first
                | (go_simp
                   go_at_call 60
                   refine (copyFr id rm ln ad D cd _ n5.drew (by omega)).mono ?_
                   rintro e w6 ⟨av, cv, rfl, oA, g6⟩
                   have g6' := grown_of_drew g6
                   have O6 := O5.stay g6'
                   have R6 := R.kept g6' (by simp [Value.ownBlock])
                   have b6 := bb.trans ((below_new g6').mono hszw)
                   replace oA := oA.mono (B' := w.heap.size) hszw
                   have hs6 : Hid (w.heap.size ≤ (w6.alloc (.cells #[.int .i64 id, .bool rm, .int .i64 ln, .slice av D.length cv] 26)).heap.size) := Lib.hid (below_more b6 _).size)
                | (refine step_appX rfl (.tmp 61) (.tmp 64) rfl w.heap.size (M.take p) [(⟨id, rm, ln, D⟩, .slice av D.length cv)] (.slice (some ⟨g, 0, none⟩) p co) ?_ ?_ ⟨w6.heap.size, 0, none⟩ 1 1 ?_ ?_ ?_ ?_ ?_ ?_ hs6.out ?_
                   · simp [Act.eval, Act.put]
                   · exact hOt.out _ (O6.stay (World.grownBy_alloc w6 _ none))
                   · simp [Act.eval, Act.put]
                   · rfl
                   · intro j u hu
                     rw [add_lit, Nat.zero_add]
                     match j, hu with
                     | 0, hu => simp [flatF] at hu; subst hu; exact World.cell?_alloc_at _ _ _ _ rfl
                     | 1, hu => simp [flatF] at hu; subst hu; exact World.cell?_alloc_at _ _ _ _ rfl
                     | 2, hu => simp [flatF] at hu; subst hu; exact World.cell?_alloc_at _ _ _ _ rfl
                     | 3, hu => simp [flatF] at hu; subst hu; exact World.cell?_alloc_at _ _ _ _ rfl
                   · intro x hx
                     simp at hx
                     subst hx
                     exact oA.stay (World.grownBy_alloc w6 _ none)
                   · intro e
                     cases e
                   · omega
                   intro g7 c7 w7 O7 k7
                   have hl7 : (M.take p ++ [((⟨id, rm, ln, D⟩ : Frm), (Value.slice av D.length cv))]).length = p + 1 := by
                     rw [List.length_append, hal]
                     rfl
                   have R7 := (R6.kept (World.grownBy_alloc w6 (.cells #[.int .i64 id, .bool rm, .int .i64 ln, .slice av D.length cv] 26) none) (Classical.em _)).kept k7 (.inr hne7.out)
                   have b7 := (below_more b6 (.cells #[.int .i64 id, .bool rm, .int .i64 ln, .slice av D.length cv] 26)).grown k7 hs6.out hlow.out
                   have X7 : ∀ x ∈ M.drop p, OwnI w.heap.size x.1.D x.2 w7 := fun x hx =>
                     have h6 := hOt.out _ (O6.stay (World.grownBy_alloc w6 (.cells #[.int .i64 id, .bool rm, .int .i64 ln, .slice av D.length cv] 26) none))
                     have h7 := (O6.stay (World.grownBy_alloc w6 (.cells #[.int .i64 id, .bool rm, .int .i64 ln, .slice av D.length cv] 26) none)).2 x (List.mem_of_mem_drop hx)
                     h7.kept k7 (OwnI.ne_row h6 h7)
                   have hs7 : Hid (w.heap.size ≤ w7.heap.size) := Lib.hid (Nat.le_trans hs6.out k7.size))
                | (refine step_appX rfl (.tmp 65) (.tmp 66) rfl w.heap.size (M.take p ++ [(⟨id, rm, ln, D⟩, .slice av D.length cv)]) (M.drop p) (.slice (some ⟨g7, 0, none⟩) (p + 1) c7) ?_ ?_ ⟨gr, 0, none⟩ (L.length - p) cr ?_ hdl ?_ X7 ?_ ?_ hs7.out ?_
                   · simp [Act.eval, Act.put, hal]
                   · have h := O7
                     rw [hal] at h
                     exact h
                   · simp [Act.eval, Act.put]
                   · intro j u hu
                     have h2 := (List.getElem?_eq_some_iff.1 hu).1
                     have h3 := R7.1
                     rw [add_lit, Nat.zero_add, R7.cellAt _ (by omega)]
                     exact hu
                   · intro e
                     cases e
                   · omega
                   intro g8 c8 w8 O8 k8))
              rw [hl7] at O8
              have b8 := b7.grown k8 hs7.out (fun q e => by simp [Value.ownBlock] at e; subst e; exact (O7.1.lt g7 rfl).1)
              have hmp := Lib.hid (hmap2.out (.slice av D.length cv))
              replace O8 := Lib.hid O8
              clear O5 O6 O7 R R6 R7 X7 k7 k8 b6 b7 oA g6 g6' bb x0 x1 x2 x3 n5 hdl hl7
              go_wp2_with fail
              go_ret2
              exact ⟨_, g8, c8, by rw [HV.out]; simp only [hsl.out] <;> rfl, by rw [HV.out]; exact hmp.out, by rw [HV.out]; simp only [hsl.out]; exact O8.out, b8⟩
end Go.Proofs.Ytcciabalbdnakab
