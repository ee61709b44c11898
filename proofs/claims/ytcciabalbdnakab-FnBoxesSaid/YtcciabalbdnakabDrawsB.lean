/- The model's draws for boxes: DrawPutIn, DrawTakenOut. -/
import Derived.Test.YtcciabalbdnakabDrawBox
set_option linter.unusedVariables false
set_option linter.unusedSimpArgs false
set_option maxRecDepth 20000
namespace Go.Proofs.Ytcciabalbdnakab
open Go.RowKit

/-- What a draw of a box and a frame leaves. -/
def BoxFr (w : World) (e : Ending) (w' : World) : Prop :=
  ∃ (L : List Frm) (a : Option Addr) (c : Nat) (id : Int) (rm : Bool) (ln : Int) (D : List Int) (ad : Option Addr) (cd : Nat),
    e = .returned (.tuple #[.slice a L.length c, frV id rm ln ad D.length cd]) ∧ Frs a L w' ∧ L.length ≤ c ∧ Addressed a c ∧ Nums ad D w' ∧ L.length ≤ 17 ∧ Below w.heap.size w w'
/-- What a draw of a box and a rank leaves. -/
def BoxRk (w : World) (e : Ending) (w' : World) : Prop :=
  ∃ (L : List Frm) (a : Option Addr) (c : Nat) (r : Int), e = .returned (.tuple #[.slice a L.length c, .int .i64 r]) ∧ Frs a L w' ∧ L.length ≤ c ∧ Addressed a c ∧ L.length ≤ 17 ∧ Below w.heap.size w w'

/-- A frame laid in a box of its own. -/
theorem lay_box {ra : Nat} {y0 y1 y2 y3 : Value} {W : World} (rA : Bx ra y0 y1 y2 y3 W) (id : Int) (rm : Bool) (ln : Int) (v : Value) :
    Bx ra (.int .i64 id) (.bool rm) (.int .i64 ln) v ((((W.setCell ⟨ra, 0, none⟩ (.int .i64 id)).setCell ⟨ra, 1, none⟩ (.bool rm)).setCell ⟨ra, 2, none⟩ (.int .i64 ln)).setCell ⟨ra, 3, none⟩ v) ∧
    Mid ra (ra + 1) W ((((W.setCell ⟨ra, 0, none⟩ (.int .i64 id)).setCell ⟨ra, 1, none⟩ (.bool rm)).setCell ⟨ra, 2, none⟩ (.int .i64 ln)).setCell ⟨ra, 3, none⟩ v) := by
  have k := grown_trans (grown_trans (grown_trans (grown_set W ra 0 (.int .i64 id)) (grown_set _ ra 1 (.bool rm))) (grown_set _ ra 2 (.int .i64 ln))) (grown_set _ ra 3 v)
  exact ⟨(((rA.set0 _).set1 _).set2 _).set3 _, (Mid.refl ra (ra + 1) W).grown k fun q e => by cases e; omega⟩
theorem Mid.drew {lo hi : Nat} {w w' : World} (h : Mid lo hi w w') : Mid lo hi w w'.drew := ⟨h.os, h.tape, h.output, h.size, h.block⟩

set_option maxHeartbeats 4000000 in
/-- spec.DrawPutIn. -/
theorem drawPutIn {B : Nat} {a : Option Addr} {len cap : Nat} (w : World) (cd : Code B a len w) (hB : B ≤ w.heap.size) :
    Calls Try.prog 27 #[.slice a len cap] w (BoxFr w) := by
  have rA := Bx.made w (.int .i64 0) (.bool false) (.int .i64 0) (.slice none 0 0)
  have G := World.grownBy_alloc w (.cells #[.int .i64 0, .bool false, .int .i64 0, .slice none 0 0] 26) none
  go_enter Try.func27, Try.ntmps27
  go_upto_region 1 with fail
  generalize w.alloc (.cells #[.int .i64 0, .bool false, .int .i64 0, .slice none 0 0] 26) = W at G rA ⊢
  have cd1 := cd.below (below_new G) hB
  have hla := rA.lt
  go_wp2_with fail
  refine (newAny (B := B) _ cd1 (Nat.le_trans hB G.size)).mono ?_
  rintro e w1 ⟨rfl, g1, s1⟩
  have hlow : w.heap.size ≤ W.heap.size := G.size
  replace rA := rA.kept g1 (by simp)
  replace G := grown_trans G g1
  clear cd1 g1
  generalize hp : W.heap.size = p at *
  clear hp
  go_wp2_with fail
  refine (drawAnyBox (B := B) (a := a) (len := len) (cap := cap) w1 s1).mono ?_
  rintro e w2 ⟨v, rfl, L, M, g, c, rfl, hM, O, hL, h9, g2, s2⟩
  replace rA := rA.kept g2 (by simp; omega)
  have b := (below_new G).grown g2 G.size (fun q e => by cases e; exact hlow)
  replace hM := Lib.hid hM
  replace h9 := Lib.hid h9
  have hcl := O.len.2
  have hae := O.addressed
  have hra : w.heap.size + 1 ≤ w1.heap.size := by have := s1.lt; omega
  have hw2 : w1.heap.size ≤ w2.heap.size := g2.size
  have hpr : w.heap.size ≠ p := by omega
  clear G g2 s1
  by_cases h0 : 0 < L.length
  · go_wp2_with fail
    refine (onceAny (B := B) (a := a) (len := len) (cap := cap) 4 _ (by omega) (by omega) s2).mono ?_
    rintro e w3 ⟨bb, rfl, g3, s3⟩
    replace O := O.cur s2 g3
    replace rA := rA.kept g3 (by simp; omega)
    replace b := b.grown g3 b.size (fun q e => by cases e; exact hlow)
    have hw3 : w2.heap.size ≤ w3.heap.size := g3.size
    clear g3 s2
    cases bb with
    | true =>
      go_wp2_with fail
      refine (belowPos (B := B) (a := a) (len := len) (cap := cap) (L.length : Int) _ (by omega) (by omega) s3).mono ?_
      rintro e w4 ⟨x, x0, x1, rfl, g4, s4⟩
      obtain ⟨k, rfl⟩ := Int.eq_ofNat_of_zero_le x0
      replace O := O.cur s3 g4
      replace rA := rA.kept g4 (by simp; omega)
      replace b := b.grown g4 b.size (fun q e => by cases e; exact hlow)
      have hw4 : w3.heap.size ≤ w4.heap.size := g4.size
      have hkl : k < L.length := by omega
      have F4 := O.frsOf hM.out (by omega)
      obtain ⟨g', o', ak, ck, e, fa⟩ := F4.2 k hkl
      cases e
      rw [Nat.zero_add] at fa
      have hD9 : (nthF L k).D.length ≤ 9 := h9.out _ (by rw [nthF_eq hkl]; exact List.getElem_mem _)
      generalize nthF L k = fk at *
      obtain ⟨id, rm, ln, D⟩ := fk
      obtain ⟨⟨c0, c1, c2, c3⟩, hn⟩ := fa
      simp only at c0 c1 c2 c3 hn hD9
      clear g4 s3 F4 s4
      go_wp2_with fail
      refine (copyFr id rm ln ak D ck w4 hn (by omega)).mono ?_
      rintro e w5 ⟨ad, cd, rfl, oD, g5⟩
      replace O := O.stay g5
      replace rA := rA.kept g5 (by simp)
      replace b := b.trans ((below_new g5).mono b.size)
      have hra2 : w.heap.size + 1 ≤ w4.heap.size := by omega
      clear g5 hn c0 c1 c2 c3
      have h6 := Nat.ne_of_lt rA.lt
      go_upto_region 5 with fail
      have X6 := Bx.made w5 (.int .i64 id) (.bool rm) (.int .i64 ln) (.slice ad D.length cd)
      have k6 := World.grownBy_alloc w5 (.cells #[.int .i64 id, .bool rm, .int .i64 ln, .slice ad D.length cd] 26) none
      replace O := O.stay k6
      replace oD := oD.stay k6
      replace rA := rA.kept k6 (by simp)
      replace b := b.trans ((below_new k6).mono b.size)
      clear k6
      generalize w5.alloc (.cells #[.int .i64 id, .bool rm, .int .i64 ln, .slice ad D.length cd] 26) = W6 at *
      generalize w5.heap.size = g6 at *
      have x0 := X6.c0
      have x1 := X6.c1
      have x2 := X6.c2
      have x3 := X6.c3
      have y0 := rA.c0
      have y1 := rA.c1
      have y2 := rA.c2
      have y3 := rA.c3
      have q0 := rA.free 0
      have q1 := rA.free 1
      have q2 := rA.free 2
      have q3 := rA.free 3
      go_wp2_with fail
      go_region
      all_goals
        go_wp2_with fail
        obtain ⟨dA, kA⟩ := lay_box rA id rm ln (.slice ad D.length cd)
        replace O := O.mid kA hra
        replace oD := oD.mid kA hra2
        replace b := b.trans (kA.below (Nat.le_refl _) b.size)
        generalize (((W6.setCell ⟨w.heap.size, 0, none⟩ (.int .i64 id)).setCell ⟨w.heap.size, 1, none⟩ (.bool rm)).setCell ⟨w.heap.size, 2, none⟩ (.int .i64 ln)).setCell ⟨w.heap.size, 3, none⟩ (.slice ad D.length cd) = Wx at *
        have z0 := dA.c0
        have z1 := dA.c1
        have z2 := dA.c2
        have z3 := dA.c3
        have FF := O.frsOf hM.out (by omega)
        exact bodyPost_ret (v := .tuple #[.slice (some ⟨g, 0, none⟩) L.length c, frV id rm ln ad D.length cd]) (by simp [results, Try.results27, go_sem, z0, z1, z2, z3]) rfl ⟨L, _, c, id, rm, ln, D, ad, cd, rfl, FF.drew, hcl, hae, oD.nums2.drew, hL, b.drew⟩
    | false =>
      go_wp2_with fail
      refine (drawAnyFr (B := B) (a := a) (len := len) (cap := cap) _ s3).mono ?_
      rintro e w5 ⟨id, rm, ln, D, dv, rfl, oD, hD, hi, hl, g5, s5⟩
      replace O := O.cur s3 g5
      replace rA := rA.kept g5 (by simp; omega)
      replace b := b.grown g5 b.size (fun q e => by cases e; exact hlow)
      obtain ⟨ad, cd, rfl, -⟩ := oD.nums
      have hra2 : w.heap.size + 1 ≤ w3.heap.size := by omega
      clear g5 s3
      have y0 := rA.c0
      have y1 := rA.c1
      have y2 := rA.c2
      have y3 := rA.c3
      have q0 := rA.free 0
      have q1 := rA.free 1
      have q2 := rA.free 2
      have q3 := rA.free 3
      go_wp2_with fail
      obtain ⟨dA, kA⟩ := lay_box rA id rm ln (.slice ad D.length cd)
      replace O := O.mid kA hra
      replace oD := oD.mid kA hra2
      replace b := b.trans (kA.below (Nat.le_refl _) b.size)
      generalize (((w5.setCell ⟨w.heap.size, 0, none⟩ (.int .i64 id)).setCell ⟨w.heap.size, 1, none⟩ (.bool rm)).setCell ⟨w.heap.size, 2, none⟩ (.int .i64 ln)).setCell ⟨w.heap.size, 3, none⟩ (.slice ad D.length cd) = Wx at *
      have z0 := dA.c0
      have z1 := dA.c1
      have z2 := dA.c2
      have z3 := dA.c3
      have FF := O.frsOf hM.out (by omega)
      exact bodyPost_ret (v := .tuple #[.slice (some ⟨g, 0, none⟩) L.length c, frV id rm ln ad D.length cd]) (by simp [results, Try.results27, go_sem, z0, z1, z2, z3]) rfl ⟨L, _, c, id, rm, ln, D, ad, cd, rfl, FF, hcl, hae, oD.nums2, hL, b⟩
  · have h0i : ¬ (0 : Int) < (L.length : Int) := by omega
    go_wp2_with fail
    refine (drawAnyFr (B := B) (a := a) (len := len) (cap := cap) _ s2).mono ?_
    rintro e w5 ⟨id, rm, ln, D, dv, rfl, oD, hD, hi, hl, g5, s5⟩
    replace O := O.cur s2 g5
    replace rA := rA.kept g5 (by simp; omega)
    replace b := b.grown g5 b.size (fun q e => by cases e; exact hlow)
    obtain ⟨ad, cd, rfl, -⟩ := oD.nums
    have hra2 : w.heap.size + 1 ≤ w2.heap.size := by omega
    clear g5 s2
    have y0 := rA.c0
    have y1 := rA.c1
    have y2 := rA.c2
    have y3 := rA.c3
    have q0 := rA.free 0
    have q1 := rA.free 1
    have q2 := rA.free 2
    have q3 := rA.free 3
    go_wp2_with fail
    obtain ⟨dA, kA⟩ := lay_box rA id rm ln (.slice ad D.length cd)
    replace O := O.mid kA hra
    replace oD := oD.mid kA hra2
    replace b := b.trans (kA.below (Nat.le_refl _) b.size)
    generalize (((w5.setCell ⟨w.heap.size, 0, none⟩ (.int .i64 id)).setCell ⟨w.heap.size, 1, none⟩ (.bool rm)).setCell ⟨w.heap.size, 2, none⟩ (.int .i64 ln)).setCell ⟨w.heap.size, 3, none⟩ (.slice ad D.length cd) = Wx at *
    have z0 := dA.c0
    have z1 := dA.c1
    have z2 := dA.c2
    have z3 := dA.c3
    have FF := O.frsOf hM.out (by omega)
    exact bodyPost_ret (v := .tuple #[.slice (some ⟨g, 0, none⟩) L.length c, frV id rm ln ad D.length cd]) (by simp [results, Try.results27, go_sem, z0, z1, z2, z3]) rfl ⟨L, _, c, id, rm, ln, D, ad, cd, rfl, FF, hcl, hae, oD.nums2, hL, b⟩
set_option maxHeartbeats 4000000 in
/-- spec.DrawTakenOut. -/
theorem drawTakenOut {B : Nat} {a : Option Addr} {len cap : Nat} (w : World) (cd : Code B a len w) (hB : B ≤ w.heap.size) :
    Calls Try.prog 30 #[.slice a len cap] w (BoxRk w) := by
  go_enter Try.func30, Try.ntmps30
  go_wp2_with fail
  refine (newAny (B := B) w cd hB).mono ?_
  rintro e w1 ⟨rfl, g1, s1⟩
  have b1 := below_new g1
  clear g1
  have hlow : w.heap.size ≤ w.heap.size := Nat.le_refl _
  generalize hp : w.heap.size = p at s1 hlow ⊢
  replace hp := Lib.hid hp
  go_wp2_with fail
  refine (drawAnyBox (B := B) (a := a) (len := len) (cap := cap) w1 s1).mono ?_
  rintro e w2 ⟨v, rfl, L, M, g, c, rfl, hM, O, hL, h9, g2, s2⟩
  have b := b1.grown g2 b1.size (fun q e => by cases e; exact Nat.le_of_eq hp.out)
  replace hM := Lib.hid hM
  have hcl := O.len.2
  have hae := O.addressed
  clear g2 s1 h9 b1
  by_cases h0 : 0 < L.length
  · go_wp2_with fail
    refine (onceAny (B := B) (a := a) (len := len) (cap := cap) 4 _ (by omega) (by omega) s2).mono ?_
    rintro e w3 ⟨bb, rfl, g3, s3⟩
    replace O := O.cur s2 g3
    replace b := b.grown g3 b.size (fun q e => by cases e; exact Nat.le_of_eq hp.out)
    clear g3 s2
    cases bb with
    | false =>
      go_wp2_with fail
      refine (belowPos (B := B) (a := a) (len := len) (cap := cap) (L.length : Int) _ (by omega) (by omega) s3).mono ?_
      rintro e w4 ⟨x, x0, x1, rfl, g4, s4⟩
      obtain ⟨k, rfl⟩ := Int.eq_ofNat_of_zero_le x0
      replace O := O.cur s3 g4
      replace b := b.grown g4 b.size (fun q e => by cases e; exact Nat.le_of_eq hp.out)
      have hkl : k < L.length := by omega
      have F4 := O.frsOf hM.out (by omega)
      obtain ⟨g', o', ak, ck, e, fa⟩ := F4.2 k hkl
      cases e
      rw [Nat.zero_add] at fa
      generalize nthF L k = fk at *
      obtain ⟨id, rm, ln, D⟩ := fk
      obtain ⟨⟨c0, c1, c2, c3⟩, hn⟩ := fa
      simp only at c0 c1 c2 c3 hn
      clear g4 s3 F4 s4
      go_wp2_with fail
      refine (specRankOf id rm ln ak D ck w4 hn).mono ?_
      rintro e w5 ⟨rfl, k5⟩
      replace O := O.below k5
      replace b := b.trans (k5.mono b.size)
      clear k5 hn c0 c1 c2 c3
      have FF := O.frsOf hM.out (by omega)
      go_wp2_with fail
      go_ret2
      exact ⟨L, _, c, _, rfl, FF, hcl, hae, hL, b⟩
    | true =>
      go_wp2_with fail
      refine (fromAny (B := B) (a := a) (len := len) (cap := cap) (-1) 20 _ (by omega) (by omega) (by omega) s3).mono ?_
      rintro e w4 ⟨x, x0, x1, rfl, g4, s4⟩
      replace O := O.cur s3 g4
      replace b := b.grown g4 b.size (fun q e => by cases e; exact Nat.le_of_eq hp.out)
      clear g4 s3 s4
      have FF := O.frsOf hM.out (by omega)
      go_wp2_with fail
      go_ret2
      exact ⟨L, _, c, _, rfl, FF, hcl, hae, hL, b⟩
  · have h0i : ¬ (0 : Int) < (L.length : Int) := by omega
    go_wp2_with fail
    refine (fromAny (B := B) (a := a) (len := len) (cap := cap) (-1) 20 _ (by omega) (by omega) (by omega) s2).mono ?_
    rintro e w4 ⟨x, x0, x1, rfl, g4, s4⟩
    replace O := O.cur s2 g4
    replace b := b.grown g4 b.size (fun q e => by cases e; exact Nat.le_of_eq hp.out)
    clear g4 s2 s4
    have FF := O.frsOf hM.out (by omega)
    go_wp2_with fail
    go_ret2
    exact ⟨L, _, c, _, rfl, FF, hcl, hae, hL, b⟩
end Go.Proofs.Ytcciabalbdnakab
