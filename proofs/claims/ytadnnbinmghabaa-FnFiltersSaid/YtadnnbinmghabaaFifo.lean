/- impl.PushedIn and spec.PushedIn: their answers' frames stand in rows of their own. -/
import Derived.Test.YtadnnbinmghabaaSizes
set_option linter.unusedVariables false
set_option linter.unusedSimpArgs false
set_option maxRecDepth 20000
namespace Go.Proofs.Ytadnnbinmghabaa
open Go.RowKit

/-- What PushedIn answers. -/
def pushV (L : List Frm) (f : Frm) : List Frm × Bool := if 32 ≤ L.length ∨ frOk f.id f.rm f.ln f.D = false then (L, false) else (L ++ [f], true)
theorem pushV_full {L : List Frm} {f : Frm} (h : 32 ≤ L.length) : pushV L f = (L, false) := if_pos (.inl h)
theorem pushV_no {L : List Frm} {f : Frm} (h : frOk f.id f.rm f.ln f.D = false) : pushV L f = (L, false) := if_pos (.inr h)
theorem pushV_new {L : List Frm} {f : Frm} (h : ¬ 32 ≤ L.length) (k : frOk f.id f.rm f.ln f.D = true) : pushV L f = (L ++ [f], true) := if_neg (by simp [h, k])
theorem room_snoc (L : List Frm) (f : Frm) : room (L ++ [f]) (L ++ [f]).length = room L L.length + f.D.length := by
  simp only [room, List.take_length, List.map_append, List.sum_append]
  simp
theorem pushV_room (L : List Frm) (f : Frm) : (pushV L f).1.length + room (pushV L f).1 (pushV L f).1.length ≤ L.length + room L L.length + f.D.length + 1 := by
  unfold pushV
  split
  · simp only; omega
  · simp only; rw [room_snoc]; simp; omega
theorem splL_end (L : List Frm) (f : Frm) : splL L L.length L.length [f] = L ++ [f] := by simp [splL]
theorem short_of_room {L : List Frm} {n : Nat} (h : L.length + room L L.length ≤ n) : ∀ j, j < L.length → (nthF L j).D.length ≤ n := by
  intro j hj
  have h1 := room_succ L j hj
  have h2 := room_le L (show j + 1 ≤ L.length by omega)
  omega
/-- What PushedIn leaves. -/
def PushGot (X : List Frm) (k : Bool) (w : World) (e : Ending) (w' : World) : Prop :=
  ∃ (M : List (Frm × Value)) (a : Option Addr) (c : Nat), e = .returned (.tuple #[.slice a X.length c, .bool k]) ∧ (M.map fun m => m.1) = X ∧ OwnF w.heap.size M (.slice a X.length c) w' ∧ Far M ∧ Below w.heap.size w w'
def PushO (X : List Frm) (k : Bool) (w : World) (e : Ending) (w' : World) : Prop :=
  ∃ (M : List (Frm × Value)) (g c : Nat), e = .returned (.tuple #[.slice (some ⟨g, 0, none⟩) X.length c, .bool k]) ∧ (M.map fun m => m.1) = X ∧ OwnF w.heap.size M (.slice (some ⟨g, 0, none⟩) X.length c) w' ∧ Below w.heap.size w w'

set_option maxHeartbeats 2000000 in
/-- impl.PushedIn. -/
theorem implPushedIn (a : Option Addr) (L : List Frm) (c : Nat) (id : Int) (rm : Bool) (ln : Int) (ad : Option Addr) (D : List Int) (cd : Nat) (w : World) (hd : Frs a L w) (hc : L.length ≤ c) (ha : Addressed a c) (hn : Nums ad D w) (hL : L.length ≤ 1048576) (hs : ∀ j, j < L.length → (nthF L j).D.length ≤ 1048576) :
    Calls Try.prog 11 #[.slice a L.length c, frV id rm ln ad D.length cd] w (PushGot (pushV L ⟨id, rm, ln, D⟩).1 (pushV L ⟨id, rm, ln, D⟩).2 w) := by
  have f0 := Four.made (.int .i64 id) (.bool rm) (.int .i64 ln) (.slice ad D.length cd) 34 (Below.refl w.heap.size w)
  replace hs := Lib.hid hs
  go_enter Try.func11, Try.ntmps11
  go_upto_region 1 with fail
  replace hd := hd.below f0.2
  replace hn := hn.below f0.2
  generalize w.alloc (.cells #[.int .i64 id, .bool rm, .int .i64 ln, .slice ad D.length cd] 34) = W at *
  by_cases h32 : 32 ≤ L.length
  · have HV := Lib.hid (pushV_full (f := ⟨id, rm, ln, D⟩) h32)
    have bw := f0.2
    go_wp2_with fail
    refine (copiedFramesB a L c W hd hL hs.out).mono ?_
    intro e w5 G3
    replace G3 := GotF.mono G3 bw
    obtain ⟨M3, a3, c3, rfl, G3⟩ := G3
    replace G3 := Lib.hid G3
    go_wp2_with fail
    go_ret2
    rw [HV.out]
    exact ⟨M3, a3, c3, rfl, G3.out⟩
  · obtain ⟨⟨x0, x1, x2, x3⟩, bw⟩ := f0
    have f0 : Four w.heap.size (.int .i64 id) (.bool rm) (.int .i64 ln) (.slice ad D.length cd) w W := ⟨⟨x0, x1, x2, x3⟩, bw⟩
    go_wp2_with fail
    refine (implFrameOk id rm ln ad D cd W hn).mono ?_
    rintro e w2 ⟨he, b1⟩
    replace hd := hd.below b1
    replace hn := hn.below b1
    replace f0 := f0.below b1
    clear b1 x0 x1 x2 x3 bw
    cases hok : frOk id rm ln D with
    | false =>
      rw [hok] at he
      subst he
      have HV := Lib.hid (pushV_no (L := L) (f := ⟨id, rm, ln, D⟩) hok)
      clear hok
      have bw := f0.2
      go_wp2_with fail
      refine (copiedFramesB a L c w2 hd hL hs.out).mono ?_
      intro e w3 G3
      replace G3 := GotF.mono G3 bw
      obtain ⟨M3, a3, c3, rfl, G3⟩ := G3
      replace G3 := Lib.hid G3
      go_wp2_with fail
      go_ret2
      rw [HV.out]
      exact ⟨M3, a3, c3, rfl, G3.out⟩
    | true =>
      rw [hok] at he
      subst he
      have HV := Lib.hid (pushV_new (L := L) (f := ⟨id, rm, ln, D⟩) h32 hok)
      have hf8 := frOk_len hok
      clear hok
      generalize hfr : (⟨id, rm, ln, D⟩ : Frm) = f at *
      have hf8' : f.D.length ≤ 8 := by rw [← hfr]; exact hf8
      have hFC : FrC w2.heap.size 0 ad cd ⟨id, rm, ln, D⟩ (w2.alloc (.cells #[.int .i64 id, .bool rm, .int .i64 ln, .slice ad D.length cd] 34)) :=
        ⟨⟨World.cell?_alloc_at _ _ _ _ rfl, World.cell?_alloc_at _ _ _ _ rfl, World.cell?_alloc_at _ _ _ _ rfl, World.cell?_alloc_at _ _ _ _ rfl⟩, hn.alloc _⟩
      rw [hfr] at hFC
      replace hFC := Lib.hid hFC
      clear hfr
      obtain ⟨⟨x0, x1, x2, x3⟩, bw⟩ := f0
      have bx : Below w.heap.size w (w2.alloc (.cells #[.int .i64 id, .bool rm, .int .i64 ln, .slice ad D.length cd] 34)) := below_more bw _
      cases a with
      | none =>
        obtain ⟨rfl, rfl⟩ := Addressed.nil hd hc ha
        go_wp2_with fail
        refine (splicedNil f w2.heap.size 1 ad cd _ hFC.out hf8').mono ?_
        intro e w5 G3
        replace G3 := GotF.mono G3 bx
        obtain ⟨M3, a3, c3, rfl, G3⟩ := G3
        replace G3 := Lib.hid G3
        go_wp2_with fail
        go_ret2
        rw [HV.out]
        exact ⟨M3, a3, c3, rfl, G3.out⟩
      | some A =>
        obtain ⟨g, o, e⟩ : ∃ g o, A = ⟨g, o, none⟩ := by
          rcases ha with ⟨e, _⟩ | ⟨g, o, e⟩
          · cases e
          · cases e; exact ⟨g, o, rfl⟩
        subst e
        have HS := splicedOneB g o L c L.length L.length f w2.heap.size 1 ad cd _ (hd.alloc (.cells #[.int .i64 id, .bool rm, .int .i64 ln, .slice ad D.length cd] 34)) hc hFC.out (Nat.le_refl _) (Nat.le_refl _) (by omega) hs.out hf8'
        rw [splL_end] at HS
        replace HS := Lib.hid HS
        go_wp2_with fail
        refine HS.out.mono ?_
        intro e w5 G3
        replace G3 := GotF.mono G3 bx
        obtain ⟨M3, a3, c3, rfl, G3⟩ := G3
        replace G3 := Lib.hid G3
        go_wp2_with fail
        go_ret2
        rw [HV.out]
        exact ⟨M3, a3, c3, by simp only [List.length_append, List.length_singleton] <;> rfl, G3.out⟩
set_option maxHeartbeats 2000000 in
/-- spec.PushedIn. -/
theorem specPushedIn (a : Option Addr) (L : List Frm) (c : Nat) (id : Int) (rm : Bool) (ln : Int) (ad : Option Addr) (D : List Int) (cd : Nat) (w : World) (hd : Frs a L w) (hn : Nums ad D w) (hL : L.length ≤ 1048576) (hs : ∀ j, j < L.length → (nthF L j).D.length ≤ 1048576) :
    Calls Try.prog 12 #[.slice a L.length c, frV id rm ln ad D.length cd] w (PushO (pushV L ⟨id, rm, ln, D⟩).1 (pushV L ⟨id, rm, ln, D⟩).2 w) := by
  have f0 := Four.made (.int .i64 id) (.bool rm) (.int .i64 ln) (.slice ad D.length cd) 34 (Below.refl w.heap.size w)
  replace hs := Lib.hid hs
  go_enter Try.func12, Try.ntmps12
  go_upto_region 1 with fail
  replace hd := hd.below f0.2
  replace hn := hn.below f0.2
  generalize w.alloc (.cells #[.int .i64 id, .bool rm, .int .i64 ln, .slice ad D.length cd] 34) = W at *
  have bW := f0.2.size
  go_wp2_with fail
  refine (copyAllB a L c W hd hL hs.out).mono ?_
  rintro e w1 ⟨M, g, c1, rfl, hM, O, b1⟩
  replace O := O.mono bW
  replace hn := hn.below b1
  replace f0 := f0.below b1
  have hml : M.length = L.length := by rw [← hM]; simp
  replace hM := Lib.hid hM
  clear hd b1 bW W
  by_cases h32 : 32 ≤ L.length
  · have HV := Lib.hid (pushV_full (f := ⟨id, rm, ln, D⟩) h32)
    have bw := f0.2
    go_wp2_with fail
    go_ret2
    rw [HV.out]
    exact ⟨M, g, c1, rfl, hM.out, O, bw⟩
  · obtain ⟨⟨x0, x1, x2, x3⟩, bw⟩ := f0
    have f0 : Four w.heap.size (.int .i64 id) (.bool rm) (.int .i64 ln) (.slice ad D.length cd) w w1 := ⟨⟨x0, x1, x2, x3⟩, bw⟩
    go_wp2_with fail
    refine (specFrameOk id rm ln ad D cd w1 hn).mono ?_
    rintro e w2 ⟨he, b1⟩
    replace O := O.below b1
    replace hn := hn.below b1
    replace f0 := f0.below b1
    clear b1 x0 x1 x2 x3 bw
    cases hok : frOk id rm ln D with
    | false =>
      rw [hok] at he
      subst he
      have HV := Lib.hid (pushV_no (L := L) (f := ⟨id, rm, ln, D⟩) hok)
      clear hok
      have bw := f0.2
      go_wp2_with fail
      go_ret2
      rw [HV.out]
      exact ⟨M, g, c1, rfl, hM.out, O, bw⟩
    | true =>
      rw [hok] at he
      subst he
      have HV := Lib.hid (pushV_new (L := L) (f := ⟨id, rm, ln, D⟩) h32 hok)
      have hf8 := frOk_len hok
      clear hok
      obtain ⟨⟨x0, x1, x2, x3⟩, b⟩ := f0
      go_wp2_with fail
      refine (copyFr id rm ln ad D cd w2 hn (by omega)).mono ?_
      rintro e w3 ⟨av, cv, rfl, oA, g2⟩
      replace oA := oA.mono b.size
      replace O := O.stay g2
      replace b := b.trans ((below_new g2).mono b.size)
      clear g2 hn x0 x1 x2 x3
      have O1 := O.stay (World.grownBy_alloc w3 (.cells #[.int .i64 id, .bool rm, .int .i64 ln, .slice av D.length cv] 34) none)
      have o1 := oA.stay (World.grownBy_alloc w3 (.cells #[.int .i64 id, .bool rm, .int .i64 ln, .slice av D.length cv] 34) none)
      have b1 := below_more b (.cells #[.int .i64 id, .bool rm, .int .i64 ln, .slice av D.length cv] 34)
      have hsz1 := b1.size
      have hmb : M.length ≤ 2000000 := by omega
      have hmE := Lib.hid hml
      clear O oA b hml
      go_wp2_with (at_builtin; refine wpList_appF rfl _ _ rfl w.heap.size M ⟨id, rm, ln, D⟩ (.slice av D.length cv) _ rfl O1 o1 w3.heap.size 1 rfl (World.cell?_alloc_at _ _ _ _ rfl) (World.cell?_alloc_at _ _ _ _ rfl) (World.cell?_alloc_at _ _ _ _ rfl) (World.cell?_alloc_at _ _ _ _ rfl) hmb hsz1 ?_)
      intro av2 cv2 w4 O4 g4
      have b4 := b1.grown g4 b1.size (fun q e => (O1.1.lt q e).1)
      clear O1 o1 b1 g4
      obtain ⟨gg, rfl, -, -, -, -⟩ := O4.form (by simp)
      go_wp2_with fail
      go_ret2
      rw [HV.out]
      refine ⟨M ++ [(⟨id, rm, ln, D⟩, .slice av D.length cv)], gg, cv2, ?_, map_snoc hM.out, ?_, b4⟩
      · simp only [List.length_append, List.length_singleton, hmE.out] <;> rfl
      · rw [List.length_append, List.length_singleton, ← hmE.out]; exact O4
end Go.Proofs.Ytadnnbinmghabaa
