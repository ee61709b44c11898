/- Contract of the model's draw of two frames (DrawSameFrame): it answers two frames whose data can be read. -/
import Derived.Test.YtcciabalbdnakaaFrAny
import Derived.Test.YtcciabalbdnakaaFrCopy
import Derived.BigRegion
import Derived.Lib.SmallJoins
set_option linter.unusedSimpArgs false
set_option linter.unusedVariables false
set_option maxRecDepth 20000
namespace Go.Proofs.Ytcciabalbdnakaa
open Go.RowKit

/-- What stands ahead of the return. -/
def Fin4 (w0 : World) (ra rb ga gb : Nat) (ia : Int) (xa : Bool) (la : Int) (Da : List Int) (av : Option Addr) (ca : Nat) (wx : World) : Prop :=
  ∃ (ib : Int) (xb : Bool) (lb : Int) (Db : List Int) (bv : Option Addr) (cb : Nat), (Lit.int .i64 ib).wf = true ∧ (Lit.int .i64 lb).wf = true ∧ Db.length ≤ 9 ∧ w0.grownBy wx none ∧
    Bx ra (.int .i64 0) (.bool false) (.int .i64 0) (.slice none 0 0) wx ∧ Bx rb (.int .i64 0) (.bool false) (.int .i64 0) (.slice none 0 0) wx ∧
    Bx ga (.int .i64 ia) (.bool xa) (.int .i64 la) (.slice av Da.length ca) wx ∧ Bx gb (.int .i64 ib) (.bool xb) (.int .i64 lb) (.slice bv Db.length cb) wx ∧
    OwnI w0.heap.size Da (.slice av Da.length ca) wx ∧ OwnI w0.heap.size Db (.slice bv Db.length cb) wx

/-- What a draw of two frames leaves. -/
def Pair (w : World) (e : Ending) (w' : World) : Prop :=
  ∃ (ia : Int) (xa : Bool) (la : Int) (Da : List Int) (av : Option Addr) (ca : Nat) (ib : Int) (xb : Bool) (lb : Int) (Db : List Int) (bv : Option Addr) (cb : Nat),
    e = .returned (.tuple #[frV ia xa la av Da.length ca, frV ib xb lb bv Db.length cb]) ∧ Nums av Da w' ∧ Nums bv Db w' ∧ Da.length ≤ 9 ∧ Db.length ≤ 9 ∧
    (Lit.int .i64 ia).wf = true ∧ (Lit.int .i64 la).wf = true ∧ (Lit.int .i64 ib).wf = true ∧ (Lit.int .i64 lb).wf = true ∧ Below w.heap.size w w'

/-- The same, each frame's data in a row of the call's own. -/
def PairO (w : World) (e : Ending) (w' : World) : Prop :=
  ∃ (ia : Int) (xa : Bool) (la : Int) (Da : List Int) (av : Option Addr) (ca : Nat) (ib : Int) (xb : Bool) (lb : Int) (Db : List Int) (bv : Option Addr) (cb : Nat),
    e = .returned (.tuple #[frV ia xa la av Da.length ca, frV ib xb lb bv Db.length cb]) ∧ OwnI w.heap.size Da (.slice av Da.length ca) w' ∧ OwnI w.heap.size Db (.slice bv Db.length cb) w' ∧ Da.length ≤ 9 ∧ Db.length ≤ 9 ∧
    (Lit.int .i64 ia).wf = true ∧ (Lit.int .i64 la).wf = true ∧ (Lit.int .i64 ib).wf = true ∧ (Lit.int .i64 lb).wf = true ∧ Below w.heap.size w w'
theorem PairO.pair {w w' : World} {e : Ending} (h : PairO w e w') : Pair w e w' := by
  obtain ⟨ia, xa, la, Da, av, ca, ib, xb, lb, Db, bv, cb, he, oa, ob, h⟩ := h
  exact ⟨ia, xa, la, Da, av, ca, ib, xb, lb, Db, bv, cb, he, oa.numsAt.2, ob.numsAt.2, h⟩

set_option maxHeartbeats 4000000 in
/-- spec.DrawSameFrame. -/
theorem drawPairO {B : Nat} {a : Option Addr} {len cap : Nat} (w : World) (cd : Code B a len w) (hB : B ≤ w.heap.size) :
    Calls Try.prog 11 #[.slice a len cap] w (PairO w) := by
  have rA := Bx.made w (.int .i64 0) (.bool false) (.int .i64 0) (.slice none 0 0)
  have k0 := World.grownBy_alloc w (.cells #[.int .i64 0, .bool false, .int .i64 0, .slice none 0 0] 26) none
  have rB := Bx.made (w.alloc (.cells #[.int .i64 0, .bool false, .int .i64 0, .slice none 0 0] 26)) (.int .i64 0) (.bool false) (.int .i64 0) (.slice none 0 0)
  have k1 := World.grownBy_alloc (w.alloc (.cells #[.int .i64 0, .bool false, .int .i64 0, .slice none 0 0] 26)) (.cells #[.int .i64 0, .bool false, .int .i64 0, .slice none 0 0] 26) none
  replace rA := rA.kept k1 (by simp)
  have G := grown_trans k0 k1
  clear k0 k1
  have hsz : (w.alloc (.cells #[.int .i64 0, .bool false, .int .i64 0, .slice none 0 0] 26)).heap.size = w.heap.size + 1 := by simp
  rw [hsz] at rB
  clear hsz
  go_enter Try.func11, Try.ntmps11
  go_upto_region 1 with fail
  generalize (w.alloc (.cells #[.int .i64 0, .bool false, .int .i64 0, .slice none 0 0] 26)).alloc (.cells #[.int .i64 0, .bool false, .int .i64 0, .slice none 0 0] 26) = W at G rA rB ⊢
  have cd1 := cd.below (below_new G) hB
  have hlb := rB.lt
  go_wp2_with fail
  refine (newAny (B := B) _ cd1 (Nat.le_trans hB G.size)).mono ?_
  rintro e w1 ⟨rfl, g1, s1⟩
  have hlow : w.heap.size ≤ W.heap.size := G.size
  replace rA := rA.kept g1 (by simp)
  replace rB := rB.kept g1 (by simp)
  replace G := grown_trans G g1
  clear cd1 g1
  generalize W.heap.size = p at s1 hlow hlb ⊢
  go_wp2_with fail
  refine (drawAnyFr (B := B) (a := a) (len := len) (cap := cap) _ s1).mono ?_
  rintro e w2 ⟨ia, xa, la, Da, v, rfl, oA, hDa, hia, hla, g2, s2⟩
  obtain ⟨av, ca, rfl, _⟩ := oA.nums
  replace oA := oA.mono G.size
  replace rA := rA.kept g2 (rA.ne_cur s1)
  replace rB := rB.kept g2 (rB.ne_cur s1)
  replace G := grown_own G g2 hlow
  clear g2 s1
  go_upto_region 3 with fail
  have k := World.grownBy_alloc w2 (.cells #[.int .i64 ia, .bool xa, .int .i64 la, .slice av Da.length ca] 26) none
  have bA := Bx.made w2 (.int .i64 ia) (.bool xa) (.int .i64 la) (.slice av Da.length ca)
  have hAB := rA.lt
  have hBB := rB.lt
  replace oA := oA.stay k
  replace rA := rA.kept k (by simp)
  replace rB := rB.kept k (by simp)
  replace G := grown_trans G k
  have s3 := s2.alloc (.cells #[.int .i64 ia, .bool xa, .int .i64 la, .slice av Da.length ca] 26)
  clear k s2
  generalize w2.alloc (.cells #[.int .i64 ia, .bool xa, .int .i64 la, .slice av Da.length ca] 26) = W3 at s3 G rA rB oA bA ⊢
  generalize w2.heap.size = ga at bA hAB hBB ⊢
  have c0 := bA.c0
  have c1 := bA.c1
  have c2 := bA.c2
  have c3 := bA.c3
  have hga := bA.lt
  go_wp2_with fail
  clear c0 c1 c2 c3
  refine (copyFr _ _ _ _ _ _ _ oA.numsAt.2 (by omega)).mono ?_
  rintro e w4 ⟨bv, cb, rfl, oB, g4⟩
  have lA := fun k hk => (oA.1.lt k hk).2
  have hM := G.size
  generalize W3.heap.size = M at oB lA hM hga
  replace oA := oA.stay g4
  replace rA := rA.kept g4 (by simp)
  replace rB := rB.kept g4 (by simp)
  replace bA := bA.kept g4 (by simp)
  replace G := grown_trans G g4
  have s4 := s3.step g4 (fun _ e => by cases e)
  clear g4 s3
  go_upto_region 4 with fail
  have k := World.grownBy_alloc w4 (.cells #[.int .i64 ia, .bool xa, .int .i64 la, .slice bv Da.length cb] 26) none
  have bB := Bx.made w4 (.int .i64 ia) (.bool xa) (.int .i64 la) (.slice bv Da.length cb)
  have hgb := bA.lt
  have hgb2 := rB.lt
  have hgb3 := rA.lt
  replace oA := oA.stay k
  replace oB := oB.stay k
  replace rA := rA.kept k (by simp)
  replace rB := rB.kept k (by simp)
  replace bA := bA.kept k (by simp)
  replace G := grown_trans G k
  have s5 := s4.alloc (.cells #[.int .i64 ia, .bool xa, .int .i64 la, .slice bv Da.length cb] 26)
  clear k s4
  generalize w4.alloc (.cells #[.int .i64 ia, .bool xa, .int .i64 la, .slice bv Da.length cb] 26) = W5 at s5 G rA rB oA oB bA bB ⊢
  generalize w4.heap.size = gb at bB hgb hgb2 hgb3 ⊢
  go_wp2_with fail
  refine (onceAny (B := B) (a := a) (len := len) (cap := cap) 2 _ (by omega) (by omega) s5).mono ?_
  rintro e w6 ⟨b, rfl, g6, s6⟩
  replace oA := oA.kept g6 (.inr (oA.ne_cur s5))
  replace oB := oB.kept g6 (.inr (oB.ne_cur s5))
  replace rA := rA.kept g6 (rA.ne_cur s5)
  replace rB := rB.kept g6 (rB.ne_cur s5)
  replace bA := bA.kept g6 (bA.ne_cur s5)
  replace bB := bB.kept g6 (bB.ne_cur s5)
  replace G := grown_own G g6 hlow
  clear g6 s5
  go_upto_if 14 with fail
  go_cut [] (Fin4 w w.heap.size (w.heap.size + 1) ga gb ia xa la Da av ca)
  case first =>
    cases b with
    | false =>
      go_wp2_with fail
      go_meet
      exact ⟨ia, xa, la, Da, bv, cb, hia, hla, hDa, G, rA, rB, bA, bB, oA, oB.mono hM⟩
    | true =>
      go_wp2_with fail
      refine (belowPos (B := B) (a := a) (len := len) (cap := cap) 3 _ (by omega) (by omega) s6).mono ?_
      rintro e w7 ⟨x, x0, x1, rfl, g6, s7⟩
      replace oA := oA.kept g6 (.inr (oA.ne_cur s6))
      replace oB := oB.kept g6 (.inr (oB.ne_cur s6))
      replace rA := rA.kept g6 (rA.ne_cur s6)
      replace rB := rB.kept g6 (rB.ne_cur s6)
      replace bA := bA.kept g6 (bA.ne_cur s6)
      replace bB := bB.kept g6 (bB.ne_cur s6)
      replace G := grown_own G g6 hlow
      clear g6 s6
      have hx : x = 0 ∨ x = 1 ∨ x = 2 := by omega
      rcases hx with rfl | rfl | rfl
      · go_wp2_with fail
        refine (drawAnyFr (B := B) (a := a) (len := len) (cap := cap) _ s7).mono ?_
        rintro e w8 ⟨ib, xb, lb, Db, v, rfl, oC, hDb, hib, hlb', g8, s8⟩
        obtain ⟨bv2, cb2, rfl, _⟩ := oC.nums
        replace oC := oC.mono G.size
        replace oA := oA.kept g8 (.inr (oA.ne_cur s7))
        replace rA := rA.kept g8 (rA.ne_cur s7)
        replace rB := rB.kept g8 (rB.ne_cur s7)
        replace bA := bA.kept g8 (bA.ne_cur s7)
        replace bB := bB.kept g8 (bB.ne_cur s7)
        replace G := grown_own G g8 hlow
        clear g8 s7
        have y0 := bB.c0
        have y1 := bB.c1
        have y2 := bB.c2
        have y3 := bB.c3
        have q0 := bB.free 0
        have q1 := bB.free 1
        have q2 := bB.free 2
        have q3 := bB.free 3
        go_wp2_with fail
        go_meet
        have kk : w8.grownBy ((((w8.setCell ⟨gb, 0, none⟩ (.int .i64 ib)).setCell ⟨gb, 1, none⟩ (.bool xb)).setCell ⟨gb, 2, none⟩ (.int .i64 lb)).setCell ⟨gb, 3, none⟩ (.slice bv2 Db.length cb2)) (some gb) :=
          grown_trans (grown_trans (grown_trans (grown_set _ _ _ _) (grown_set _ _ _ _)) (grown_set _ _ _ _)) (grown_set _ _ _ _)
        exact ⟨ib, xb, lb, Db, bv2, cb2, hib, hlb', hDb, grown_own G kk (by omega), rA.kept kk (by simp; omega), rB.kept kk (by simp; omega), bA.kept kk (by simp; omega), (((bB.set0 _).set1 _).set2 _).set3 _, oA.kept kk (.inr (oA.ne_box bB)), oC.kept kk (.inr (oC.ne_box bB))⟩
      · have y0 := bB.c0
        have q0 := bB.free 0
        go_wp2_with fail
        go_meet
        have kk := grown_set w7 gb 0 (.int .i64 (wrap64 (ia + 1)))
        exact ⟨wrap64 (ia + 1), xa, la, Da, bv, cb, Go.WalkArith.wf_i64 ⟨by unfold wrap64; omega, by unfold wrap64; omega⟩, hla, hDa, grown_own G kk (by omega), rA.kept kk (by simp; omega), rB.kept kk (by simp; omega), bA.kept kk (by simp; omega), bB.set0 _, oA.kept kk (.inr (oA.ne_box bB)), (oB.mono hM).kept kk (.inr (oB.ne_box bB))⟩
      · by_cases h0 : 0 < Da.length
        · obtain ⟨kb, c', e⟩ := Go.Joins.ownsRow_form oB.1 h0
          simp only [Value.slice.injEq, true_and] at e
          obtain ⟨rfl, rfl⟩ := e
          have hz : w7.cell? ⟨kb, 0, none⟩ = some (.int .i64 (nth Da 0)) := by
            rw [oB.1.cellAt 0 (by omega)]
            simp [nth, List.getD_eq_getElem?_getD, List.getElem?_eq_getElem h0]
          have hf := oB.1.frozenAt 0
          have hst := fun u => oB.1.stored 0 u
          generalize nth Da 0 = z at hz
          have hi0 : (0 : Int) < Da.length := by omega
          have hkb := (oB.1.lt kb rfl).1
          have y3 := bB.c3
          go_wp2_with fail
          go_region
          all_goals
            go_wp2_with fail
            go_meet
            obtain ⟨o1, k1⟩ := hst (.int .i64 (wrap64 (z + 1)))
            have kk := grown_drew k1
            have hw : (Lit.int .i64 (wrap64 (z + 1))).wf = true := Go.WalkArith.wf_i64 ⟨by unfold wrap64; omega, by unfold wrap64; omega⟩
            have oB' : OwnI M (Da.set 0 (wrap64 (z + 1))) (.slice (some ⟨kb, 0, none⟩) Da.length cb) (w7.setCell ⟨kb, 0, none⟩ (.int .i64 (wrap64 (z + 1)))).drew := by
              refine ⟨?_, fun y hy => ?_⟩
              · rw [List.length_set, List.map_set]; exact o1
              · rcases List.mem_or_eq_of_mem_set hy with hy | rfl
                · exact oB.2 y hy
                · exact hw
            refine ⟨ia, xa, la, Da.set 0 (wrap64 (z + 1)), some ⟨kb, 0, none⟩, cb, hia, hla, by rw [List.length_set]; exact hDa, grown_own G kk (by omega), rA.kept kk (oB.ne_box rA).symm, rB.kept kk (oB.ne_box rB).symm, bA.kept kk (oB.ne_box bA).symm, ?_, oA.kept kk (.inr fun e => by have := lA _ e; omega), ?_⟩
            · rw [List.length_set]; exact bB.kept kk (oB.ne_box bB).symm
            · rw [List.length_set]; exact oB'.mono hM
        · have y3 := bB.c3
          have hi0 : ¬ (0 : Int) < Da.length := by omega
          go_wp2_with fail
          go_meet
          exact ⟨ia, xa, la, Da, bv, cb, hia, hla, hDa, G, rA, rB, bA, bB, oA, oB.mono hM⟩
  case rest =>
    clear oA oB rA rB bA bB G s6
    obtain ⟨ib, xb, lb, Db, bv, cb, hib, hlb', hDb, G, rA, rB, bA, bB, oA, oB⟩ := hcut
    have a0 := bA.c0
    have a1 := bA.c1
    have a2 := bA.c2
    have a3 := bA.c3
    have b0 := bB.c0
    have b1 := bB.c1
    have b2 := bB.c2
    have b3 := bB.c3
    have y0 := rA.c0
    have y1 := rA.c1
    have y2 := rA.c2
    have y3 := rA.c3
    have q0 := rA.free 0
    have q1 := rA.free 1
    have q2 := rA.free 2
    have q3 := rA.free 3
    have z0 := rB.c0
    have z1 := rB.c1
    have z2 := rB.c2
    have z3 := rB.c3
    have p0 := rB.free 0
    have p1 := rB.free 1
    have p2 := rB.free 2
    have p3 := rB.free 3
    have hgr : w.heap.size ≠ w.heap.size + 1 := by omega
    have hgr2 : w.heap.size ≤ w.heap.size + 1 := by omega
    have hgr3 : w.heap.size ≤ w.heap.size := Nat.le_refl _
    generalize w.heap.size + 1 = rb at *
    generalize hra : w.heap.size = ra at rA y0 y1 y2 y3 q0 q1 q2 q3 hgr hgr3 ⊢
    go_wp2_with fail
    go_region
    all_goals
      go_wp2_with fail
      have ka := grown_trans (grown_trans (grown_trans (grown_set wc ra 0 (.int .i64 ia)) (grown_set _ ra 1 (.bool xa))) (grown_set _ ra 2 (.int .i64 la))) (grown_set _ ra 3 (.slice av Da.length ca))
      have dA := (((rA.set0 (.int .i64 ia)).set1 (.bool xa)).set2 (.int .i64 la)).set3 (.slice av Da.length ca)
      have dB := rB.kept ka (by simp; omega)
      have eA := oA.kept ka (.inr (oA.ne_box rA))
      have eB := oB.kept ka (.inr (oB.ne_box rA))
      have H := grown_own G ka (Nat.le_of_eq hra)
      generalize (((wc.setCell ⟨ra, 0, none⟩ (.int .i64 ia)).setCell ⟨ra, 1, none⟩ (.bool xa)).setCell ⟨ra, 2, none⟩ (.int .i64 la)).setCell ⟨ra, 3, none⟩ (.slice av Da.length ca) = Wa at dA dB eA eB H ⊢
      have kb := grown_trans (grown_trans (grown_trans (grown_set Wa rb 0 (.int .i64 ib)) (grown_set _ rb 1 (.bool xb))) (grown_set _ rb 2 (.int .i64 lb))) (grown_set _ rb 3 (.slice bv Db.length cb))
      have fB := (((dB.set0 (.int .i64 ib)).set1 (.bool xb)).set2 (.int .i64 lb)).set3 (.slice bv Db.length cb)
      have fA := dA.kept kb (by simp; omega)
      have gA := eA.kept kb (.inr (eA.ne_box dB))
      have gB := eB.kept kb (.inr (eB.ne_box dB))
      have I := grown_drew (grown_own H kb hgr2)
      generalize (((Wa.setCell ⟨rb, 0, none⟩ (.int .i64 ib)).setCell ⟨rb, 1, none⟩ (.bool xb)).setCell ⟨rb, 2, none⟩ (.int .i64 lb)).setCell ⟨rb, 3, none⟩ (.slice bv Db.length cb) = Wb at fB fA gA gB I ⊢
      have t0 := fA.c0
      have t1 := fA.c1
      have t2 := fA.c2
      have t3 := fA.c3
      have u0 := fB.c0
      have u1 := fB.c1
      have u2 := fB.c2
      have u3 := fB.c3
      refine bodyPost_ret (v := .tuple #[frV ia xa la av Da.length ca, frV ib xb lb bv Db.length cb]) (by simp [results, Try.results11, go_sem, t0, t1, t2, t3, u0, u1, u2, u3]) rfl
        ⟨ia, xa, la, Da, av, ca, ib, xb, lb, Db, bv, cb, rfl, gA.stay (grown_drew (grown_refl _ _)), gB.stay (grown_drew (grown_refl _ _)), hDa, hDb, hia, hla, hib, hlb', ?_⟩
      exact below_new I
theorem drawPair {B : Nat} {a : Option Addr} {len cap : Nat} (w : World) (cd : Code B a len w) (hB : B ≤ w.heap.size) :
    Calls Try.prog 11 #[.slice a len cap] w (Pair w) := (drawPairO w cd hB).mono fun _ _ h => h.pair
end Go.Proofs.Ytcciabalbdnakaa
