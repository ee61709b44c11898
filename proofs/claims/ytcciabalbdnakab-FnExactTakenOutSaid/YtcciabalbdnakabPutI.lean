/- impl.PutIn and impl.TakenOut: their answers' frames stand in rows of their own. -/
import Derived.Test.YtcciabalbdnakabSplice
import Derived.Test.YtcciabalbdnakabSearch
import Derived.Test.YtcciabalbdnakabBoxOk
set_option linter.unusedVariables false
set_option linter.unusedSimpArgs false
set_option maxRecDepth 20000
namespace Go.Proofs.Ytcciabalbdnakab
open Go.RowKit

/-- The slice is nil, or it has an address of a row. -/
def Addressed (a : Option Addr) (c : Nat) : Prop := (a = none ∧ c = 0) ∨ ∃ g o, a = some ⟨g, o, none⟩
/-- What PutIn leaves. -/
def PutGot (R : List Frm × Int) (w : World) (e : Ending) (w' : World) : Prop :=
  ∃ (M : List (Frm × Value)) (a : Option Addr) (c : Nat), e = .returned (.tuple #[.slice a R.1.length c, .int .i64 R.2]) ∧ (M.map fun m => m.1) = R.1 ∧ OwnF w.heap.size M (.slice a R.1.length c) w' ∧ Far M ∧ Below w.heap.size w w'
theorem far_nil : Far [] := fun i j hi => by simp at hi
theorem own_nil (B : Nat) (w : World) : OwnF B [] (.slice none 0 0) w := ⟨World.ownsRow_nil w B _ 4, fun m hm => by cases hm⟩
theorem Addressed.nil {c : Nat} {L : List Frm} {w : World} (h : Frs none L w) (hc : L.length ≤ c) (ha : Addressed none c) : L = [] ∧ c = 0 := by
  have hc0 : c = 0 := by
    rcases ha with ⟨-, h0⟩ | ⟨g, o, e⟩
    · exact h0
    · cases e
  exact ⟨List.eq_nil_of_length_eq_zero (by omega), hc0⟩

set_option maxHeartbeats 2000000 in
/-- impl.PutIn. -/
theorem implPutIn (a : Option Addr) (L : List Frm) (c : Nat) (id : Int) (rm : Bool) (ln : Int) (ad : Option Addr) (D : List Int) (cd : Nat) (w : World) (hd : Frs a L w) (hc : L.length ≤ c) (ha : Addressed a c) (hn : Nums ad D w) :
    Calls Try.prog 28 #[.slice a L.length c, frV id rm ln ad D.length cd] w (PutGot (putV L ⟨id, rm, ln, D⟩) w) := by
  have f0 := Four.made (.int .i64 id) (.bool rm) (.int .i64 ln) (.slice ad D.length cd) 26 (Below.refl w.heap.size w)
  have hrk : rkF ⟨id, rm, ln, D⟩ = rankV id rm ln D := rfl
  replace hrk := Lib.hid hrk
  go_enter Try.func28, Try.ntmps28
  go_upto_region 1 with fail
  replace hd := hd.below f0.2
  replace hn := hn.below f0.2
  generalize w.alloc (.cells #[.int .i64 id, .bool rm, .int .i64 ln, .slice ad D.length cd] 26) = W at *
  have hgw : w.heap.size ≤ w.heap.size := Nat.le_refl _
  go_wp2_with fail
  refine (implBoxOk a L c W hd).mono ?_
  rintro e w1 ⟨he, b1⟩
  replace hd := hd.below b1
  replace hn := hn.below b1
  replace f0 := f0.below b1
  clear b1 W
  cases hb : boxB L with
  | false =>
    rw [hb] at he
    subst he
    have HV := Lib.hid (putV_bad (f := ⟨id, rm, ln, D⟩) hb)
    clear hb
    have bw := f0.2
    go_wp2_with fail
    go_ret2
    refine ⟨[], none, 0, by rw [HV.out] <;> rfl, by rw [HV.out] <;> rfl, by rw [HV.out]; exact own_nil _ _, far_nil, bw⟩
  | true =>
    rw [hb] at he
    subst he
    have hB := boxB_iff.1 hb
    have h8 : ∀ j, j < L.length → (nthF L j).D.length ≤ 8 := fun j hj => hB.2.short hj
    have h16 := hB.1
    have hsh := Lib.hid (show ∀ j, j < L.length → (nthF L j).D.length ≤ 1048576 from fun j hj => by have := h8 j hj; omega)
    replace h8 := Lib.hid h8
    replace hB := Lib.hid hB.2
    replace hb := Lib.hid hb
    obtain ⟨⟨x0, x1, x2, x3⟩, bw⟩ := f0
    have f0 : Four w.heap.size (.int .i64 id) (.bool rm) (.int .i64 ln) (.slice ad D.length cd) w w1 := ⟨⟨x0, x1, x2, x3⟩, bw⟩
    go_wp2_with fail
    refine (implFrameOk id rm ln ad D cd w1 hn).mono ?_
    rintro e w2 ⟨he, b1⟩
    replace hd := hd.below b1
    replace hn := hn.below b1
    replace f0 := f0.below b1
    clear b1 x0 x1 x2 x3 bw
    cases hok : frOk id rm ln D with
    | false =>
      rw [hok] at he
      subst he
      have HV := Lib.hid (putV_no (f := ⟨id, rm, ln, D⟩) hb.out (by rw [hrk.out]; exact rankV_neg.2 hok))
      clear hok
      have bw := f0.2
      go_wp2_with fail
      refine (copiedFrames a L c w2 hd (by omega) hsh.out).mono ?_
      rintro e w3 G3
      replace G3 := GotF.mono G3 bw
      obtain ⟨M3, a3, c3, rfl, G3⟩ := G3
      replace G3 := Lib.hid G3
      go_wp2_with fail
      go_ret2
      exact ⟨M3, a3, c3, by rw [HV.out] <;> rfl, by rw [HV.out]; exact G3.out⟩
    | true =>
      rw [hok] at he
      subst he
      have hr0 : ¬ rkF ⟨id, rm, ln, D⟩ < 0 := fun h => by rw [hrk.out] at h; rw [rankV_neg.1 h] at hok; cases hok
      have hf8 := frOk_len hok
      replace hr0 := Lib.hid hr0
      clear hok
      obtain ⟨⟨x0, x1, x2, x3⟩, bw⟩ := f0
      have f0 : Four w.heap.size (.int .i64 id) (.bool rm) (.int .i64 ln) (.slice ad D.length cd) w w2 := ⟨⟨x0, x1, x2, x3⟩, bw⟩
      go_wp2_with fail
      refine (implRankOf id rm ln ad D cd w2 hn).mono ?_
      rintro e w3 ⟨he, b1⟩
      rw [← hrk.out] at he
      subst he
      replace hd := hd.below b1
      replace hn := hn.below b1
      replace f0 := f0.below b1
      clear b1 x0 x1 x2 x3 bw
      generalize hfr : (⟨id, rm, ln, D⟩ : Frm) = f at *
      go_wp2_with fail
      refine (placeIn a L c (rkF f) w3 hd h16 hB.out).mono ?_
      rintro e w4 ⟨p, rfl, hP, b1⟩
      replace hd := hd.below b1
      replace hn := hn.below b1
      replace f0 := f0.below b1
      clear b1
      have hpl := hP.1
      replace hP := Lib.hid hP
      obtain ⟨⟨x0, x1, x2, x3⟩, bw⟩ := f0
      have hFC : FrC w4.heap.size 0 ad cd ⟨id, rm, ln, D⟩ (w4.alloc (.cells #[.int .i64 id, .bool rm, .int .i64 ln, .slice ad D.length cd] 26)) :=
        ⟨⟨World.cell?_alloc_at _ _ _ _ rfl, World.cell?_alloc_at _ _ _ _ rfl, World.cell?_alloc_at _ _ _ _ rfl, World.cell?_alloc_at _ _ _ _ rfl⟩, hn.alloc _⟩
      rw [hfr] at hFC
      replace hFC := Lib.hid hFC
      have hf8' : f.D.length ≤ 8 := by rw [← hfr]; exact hf8
      clear hfr
      have bx : Below w.heap.size w (w4.alloc (.cells #[.int .i64 id, .bool rm, .int .i64 ln, .slice ad D.length cd] 26)) := below_more bw _
      cases hm : metB L (rkF f) p with
      | true =>
        have hml := (metB_yes.1 hm).1
        have HV := Lib.hid (putV_over hb.out (by have := hr0.out; omega) hP.out hm)
        clear hm
        cases a with
        | none => have := (Addressed.nil hd hc ha).1; subst this; simp at hml
        | some A =>
          obtain ⟨g, o, e⟩ : ∃ g o, A = ⟨g, o, none⟩ := by
            rcases ha with ⟨e, _⟩ | ⟨g, o, e⟩
            · cases e
            · cases e; exact ⟨g, o, rfl⟩
          subst e
          go_wp2_with fail
          refine (splicedOne g o L c p (p + 1) f w4.heap.size 1 ad cd _ (hd.alloc _) hc hFC.out (by omega) (by omega) h16 h8.out hf8').mono ?_
          intro e w5 G3
          replace G3 := GotF.mono G3 bx
          obtain ⟨M3, a3, c3, rfl, G3⟩ := G3
          replace G3 := Lib.hid G3
          go_wp2_with fail
          go_ret2
          exact ⟨M3, a3, c3, by rw [HV.out] <;> rfl, by rw [HV.out]; exact G3.out⟩
      | false =>
        by_cases hfull : 16 ≤ L.length
        · have HV := Lib.hid (putV_full hb.out (by have := hr0.out; omega) hP.out hm hfull)
          clear hm
          have hlen : L.length = 16 := by omega
          have hcp := copiedFrames a L c w4 hd (by omega) hsh.out
          rw [hlen] at hcp
          go_wp2_with fail
          refine hcp.mono ?_
          intro e w5 G3
          replace G3 := GotF.mono G3 bw
          obtain ⟨M3, a3, c3, rfl, G3⟩ := G3
          replace G3 := Lib.hid G3
          go_wp2_with fail
          go_ret2
          exact ⟨M3, a3, c3, by rw [HV.out]; simp only [hlen] <;> rfl, by rw [HV.out]; exact G3.out⟩
        · have HV := Lib.hid (putV_new hb.out (by have := hr0.out; omega) hP.out hm hfull)
          clear hm
          have hlen : ¬ (L.length : Int) = 16 := by omega
          cases a with
          | none =>
            obtain ⟨rfl, rfl⟩ := Addressed.nil hd hc ha
            obtain rfl : p = 0 := by simpa using hpl
            go_wp2_with fail
            refine (splicedNil f w4.heap.size 1 ad cd _ hFC.out hf8').mono ?_
            intro e w5 G3
            replace G3 := GotF.mono G3 bx
            obtain ⟨M3, a3, c3, rfl, G3⟩ := G3
            replace G3 := Lib.hid G3
            go_wp2_with fail
            go_ret2
            exact ⟨M3, a3, c3, by rw [HV.out] <;> rfl, by rw [HV.out]; exact G3.out⟩
          | some A =>
            obtain ⟨g, o, e⟩ : ∃ g o, A = ⟨g, o, none⟩ := by
              rcases ha with ⟨e, _⟩ | ⟨g, o, e⟩
              · cases e
              · cases e; exact ⟨g, o, rfl⟩
            subst e
            go_wp2_with fail
            refine (splicedOne g o L c p p f w4.heap.size 1 ad cd _ (hd.alloc _) hc hFC.out (by omega) (by omega) h16 h8.out hf8').mono ?_
            intro e w5 G3
            replace G3 := GotF.mono G3 bx
            obtain ⟨M3, a3, c3, rfl, G3⟩ := G3
            replace G3 := Lib.hid G3
            go_wp2_with fail
            go_ret2
            exact ⟨M3, a3, c3, by rw [HV.out] <;> rfl, by rw [HV.out]; exact G3.out⟩
set_option maxHeartbeats 2000000 in
/-- impl.TakenOut. -/
theorem implTakenOut (a : Option Addr) (L : List Frm) (c : Nat) (r : Int) (w : World) (hd : Frs a L w) (hc : L.length ≤ c) (ha : Addressed a c) :
    Calls Try.prog 34 #[.slice a L.length c, .int .i64 r] w (GotF (outV L r) w) := by
  go_enter Try.func34, Try.ntmps34
  go_wp2_with fail
  refine (implBoxOk a L c w hd).mono ?_
  rintro e w1 ⟨he, bw⟩
  replace hd := hd.below bw
  cases hb : boxB L with
  | false =>
    rw [hb] at he
    subst he
    have HV := Lib.hid (outV_bad r hb)
    clear hb
    go_wp2_with fail
    go_ret
    exact ⟨[], none, 0, by rw [HV.out] <;> rfl, by rw [HV.out] <;> rfl, by rw [HV.out]; exact own_nil _ _, far_nil, bw⟩
  | true =>
    rw [hb] at he
    subst he
    have hB := boxB_iff.1 hb
    have h8 : ∀ j, j < L.length → (nthF L j).D.length ≤ 8 := fun j hj => hB.2.short hj
    have h16 := hB.1
    have hsh := Lib.hid (show ∀ j, j < L.length → (nthF L j).D.length ≤ 1048576 from fun j hj => by have := h8 j hj; omega)
    replace h8 := Lib.hid h8
    replace hB := Lib.hid hB.2
    replace hb := Lib.hid hb
    go_wp2_with fail
    refine (placeIn a L c r w1 hd h16 hB.out).mono ?_
    rintro e w4 ⟨p, rfl, hP, b1⟩
    replace hd := hd.below b1
    replace bw := Below.then2 bw b1
    clear b1
    replace hP := Lib.hid hP
    cases hm : metB L r p with
    | true =>
      have hml := (metB_yes.1 hm).1
      have HV := Lib.hid (outV_met hb.out hP.out hm)
      clear hm
      cases a with
      | none => have := (Addressed.nil hd hc ha).1; subst this; simp at hml
      | some A =>
        obtain ⟨g, o, e⟩ : ∃ g o, A = ⟨g, o, none⟩ := by
          rcases ha with ⟨e, _⟩ | ⟨g, o, e⟩
          · cases e
          · cases e; exact ⟨g, o, rfl⟩
        subst e
        go_wp2_with fail
        refine (splicedNone g o L c p (p + 1) w4 hd hc (by omega) (by omega) h16 h8.out).mono ?_
        intro e w5 G3
        replace G3 := GotF.mono G3 bw
        obtain ⟨M3, a3, c3, rfl, G3⟩ := G3
        replace G3 := Lib.hid G3
        go_wp2_with fail
        go_ret
        exact ⟨M3, a3, c3, by rw [HV.out] <;> rfl, by rw [HV.out]; exact G3.out⟩
    | false =>
      have HV := Lib.hid (outV_not hb.out hP.out hm)
      clear hm
      go_wp2_with fail
      refine (copiedFrames a L c w4 hd (by omega) hsh.out).mono ?_
      intro e w5 G3
      replace G3 := GotF.mono G3 bw
      obtain ⟨M3, a3, c3, rfl, G3⟩ := G3
      replace G3 := Lib.hid G3
      go_wp2_with fail
      go_ret
      exact ⟨M3, a3, c3, by rw [HV.out] <;> rfl, by rw [HV.out]; exact G3.out⟩
end Go.Proofs.Ytcciabalbdnakab
