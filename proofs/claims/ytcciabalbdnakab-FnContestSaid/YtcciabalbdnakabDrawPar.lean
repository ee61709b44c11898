/- The model's DrawParesAt: two frames, each one's data in a row of the call's own. -/
import Derived.Test.YtcciabalbdnakabFrPair
set_option linter.unusedVariables false
set_option maxRecDepth 20000
namespace Go.Proofs.Ytcciabalbdnakab
open Go.RowKit

set_option maxHeartbeats 4000000 in
/-- spec.DrawParesAt. -/
theorem drawPares {B : Nat} {a : Option Addr} {len cap : Nat} (w : World) (cd : Code B a len w) (hB : B ≤ w.heap.size) :
    Calls Try.prog 12 #[.slice a len cap] w (Pair w) := by
  have rA := Bx.made w (.int .i64 0) (.bool false) (.int .i64 0) (.slice none 0 0)
  have k0 := World.grownBy_alloc w (.cells #[.int .i64 0, .bool false, .int .i64 0, .slice none 0 0] 26) none
  have rB := Bx.made (w.alloc (.cells #[.int .i64 0, .bool false, .int .i64 0, .slice none 0 0] 26)) (.int .i64 0) (.bool false) (.int .i64 0) (.slice none 0 0)
  have k1 := World.grownBy_alloc (w.alloc (.cells #[.int .i64 0, .bool false, .int .i64 0, .slice none 0 0] 26)) (.cells #[.int .i64 0, .bool false, .int .i64 0, .slice none 0 0] 26) none
  replace rA := rA.kept k1 (by simp)
  have G := grown_trans k0 k1
  clear k0 k1
  have hsz : (w.alloc (.cells #[.int .i64 0, .bool false, .int .i64 0, .slice none 0 0] 26)).heap.size = w.heap.size + 1 := by simp
  rw [hsz] at rB
  clear hsz
  have b0 : Below w.heap.size w ((w.alloc (.cells #[.int .i64 0, .bool false, .int .i64 0, .slice none 0 0] 26)).alloc (.cells #[.int .i64 0, .bool false, .int .i64 0, .slice none 0 0] 26)) :=
    below_more (below_more (Below.refl _ _) _) _
  go_enter Try.func12, Try.ntmps12
  go_upto_region 1 with fail
  generalize (w.alloc (.cells #[.int .i64 0, .bool false, .int .i64 0, .slice none 0 0] 26)).alloc (.cells #[.int .i64 0, .bool false, .int .i64 0, .slice none 0 0] 26) = W at G rA rB b0 ⊢
  have cd1 := cd.below b0 hB
  go_wp2_with fail
  refine (drawPairO (B := B) _ cd1 (Nat.le_trans hB G.size)).mono ?_
  rintro e w1 ⟨ia, xa, la, Da, av, ca, ib, xb, lb, Db, bv, cb, rfl, oA, oB, hDa, hDb, wa, wb, wc, wd, b1⟩
  have kk : W.grownBy w1 none := ⟨b1.os, b1.tape, b1.output, b1.size, fun k hk _ => b1.block k hk⟩
  replace rA := rA.kept kk (by simp)
  replace rB := rB.kept kk (by simp)
  have b := Below.then2 b0 b1
  clear b0 b1 kk cd1 cd G
  have hne : w.heap.size ≠ w.heap.size + 1 := by omega
  have hlow : w.heap.size ≤ w.heap.size + 1 := by omega
  have h0 : w.heap.size ≤ w.heap.size := Nat.le_refl _
  generalize hra : w.heap.size = ra at rA rB hne hlow h0 ⊢
  generalize hrb : ra + 1 = rb at rB hne hlow ⊢
  have hne2 : rb ≠ ra := fun e => hne e.symm
  have y0 := rA.c0
  have y1 := rA.c1
  have y2 := rA.c2
  have y3 := rA.c3
  have q0 := rA.free 0
  have q1 := rA.free 1
  have q2 := rA.free 2
  have q3 := rA.free 3
  have z0 := rB.c0
  have z1 := rB.c1
  have z2 := rB.c2
  have z3 := rB.c3
  have p0 := rB.free 0
  have p1 := rB.free 1
  have p2 := rB.free 2
  have p3 := rB.free 3
  go_wp2_with fail
  have ka := grown_trans (grown_trans (grown_trans (grown_set w1 ra 0 (.int .i64 ia)) (grown_set _ ra 1 (.bool xa))) (grown_set _ ra 2 (.int .i64 la))) (grown_set _ ra 3 (.slice av Da.length ca))
  have dA := (((rA.set0 (.int .i64 ia)).set1 (.bool xa)).set2 (.int .i64 la)).set3 (.slice av Da.length ca)
  have eA := oA.kept ka (.inr (oA.ne_box rA))
  have eB := oB.kept ka (.inr (oB.ne_box rA))
  have rB2 := rB.kept ka (by simpa using hne2)
  have bA : Below w.heap.size w ((((w1.setCell ⟨ra, 0, none⟩ (.int .i64 ia)).setCell ⟨ra, 1, none⟩ (.bool xa)).setCell ⟨ra, 2, none⟩ (.int .i64 la)).setCell ⟨ra, 3, none⟩ (.slice av Da.length ca)) :=
    (((b.setCell (by rw [hra]; exact h0) _).setCell (by rw [hra]; exact h0) _).setCell (by rw [hra]; exact h0) _).setCell (by rw [hra]; exact h0) _
  generalize (((w1.setCell ⟨ra, 0, none⟩ (.int .i64 ia)).setCell ⟨ra, 1, none⟩ (.bool xa)).setCell ⟨ra, 2, none⟩ (.int .i64 la)).setCell ⟨ra, 3, none⟩ (.slice av Da.length ca) = Wa at dA eA eB rB2 bA ⊢
  have kb := grown_trans (grown_trans (grown_trans (grown_set Wa rb 0 (.int .i64 ib)) (grown_set _ rb 1 (.bool xb))) (grown_set _ rb 2 (.int .i64 lb))) (grown_set _ rb 3 (.slice bv Db.length cb))
  have dB := (((rB2.set0 (.int .i64 ib)).set1 (.bool xb)).set2 (.int .i64 lb)).set3 (.slice bv Db.length cb)
  have fA := eA.kept kb (.inr (eA.ne_box rB2))
  have fB := eB.kept kb (.inr (eB.ne_box rB2))
  have dA2 := dA.kept kb (by simpa using hne)
  have bB : Below w.heap.size w ((((Wa.setCell ⟨rb, 0, none⟩ (.int .i64 ib)).setCell ⟨rb, 1, none⟩ (.bool xb)).setCell ⟨rb, 2, none⟩ (.int .i64 lb)).setCell ⟨rb, 3, none⟩ (.slice bv Db.length cb)) :=
    (((bA.setCell (by rw [hra]; exact hlow) _).setCell (by rw [hra]; exact hlow) _).setCell (by rw [hra]; exact hlow) _).setCell (by rw [hra]; exact hlow) _
  generalize (((Wa.setCell ⟨rb, 0, none⟩ (.int .i64 ib)).setCell ⟨rb, 1, none⟩ (.bool xb)).setCell ⟨rb, 2, none⟩ (.int .i64 lb)).setCell ⟨rb, 3, none⟩ (.slice bv Db.length cb) = Wb at dB fA fB dA2 bB ⊢
  have t0 := dA2.c0
  have t1 := dA2.c1
  have t2 := dA2.c2
  have t3 := dA2.c3
  have u0 := dB.c0
  have u1 := dB.c1
  have u2 := dB.c2
  have u3 := dB.c3
  refine bodyPost_ret (v := .tuple #[frV ia xa la av Da.length ca, frV ib xb lb bv Db.length cb]) (by simp [results, Try.results12, go_sem, t0, t1, t2, t3, u0, u1, u2, u3]) rfl
    ⟨ia, xa, la, Da, av, ca, ib, xb, lb, Db, bv, cb, rfl, fA.numsAt.2, fB.numsAt.2, hDa, hDb, wa, wb, wc, wd, bB⟩
end Go.Proofs.Ytcciabalbdnakab
