/- Contracts of the model's draws of one frame (one cursor, one frame of whatever kind): it answers a frame whose data can be read. -/
import Derived.Test.YthhhhfpgmolcmabFrAny
import Derived.Test.YthhhhfpgmolcmabDraws1
set_option linter.unusedSimpArgs false
set_option linter.unusedVariables false
namespace Go.Proofs.Ythhhhfpgmolcmab
open Go.RowKit

/-- What a draw of one frame leaves. -/
def OneF (w : World) (e : Ending) (w' : World) : Prop :=
  ∃ (id : Int) (rm : Bool) (ln : Int) (D : List Int) (av : Option Addr) (ca : Nat), e = .returned (frV id rm ln av D.length ca) ∧ Nums av D w' ∧ D.length ≤ 9 ∧
    (Lit.int .i64 id).wf = true ∧ (Lit.int .i64 ln).wf = true ∧ Below w.heap.size w w'

set_option maxHeartbeats 4000000 in
/-- spec.DrawWireOf. -/
theorem oneDrawWireOf {B : Nat} {a : Option Addr} {len cap : Nat} (w : World) (cd : Code B a len w) (hB : B ≤ w.heap.size) :
    Calls Try.prog 7 #[.slice a len cap] w (OneF w) := by
  have rA := Bx.made w (.int .i64 0) (.bool false) (.int .i64 0) (.slice none 0 0)
  have G := World.grownBy_alloc w (.cells #[.int .i64 0, .bool false, .int .i64 0, .slice none 0 0] 26) none
  go_enter Try.func7, Try.ntmps7
  go_upto_region 1 with fail
  generalize w.alloc (.cells #[.int .i64 0, .bool false, .int .i64 0, .slice none 0 0] 26) = W at G rA ⊢
  have cd1 := cd.below (below_new G) hB
  go_wp2_with fail
  refine (newAny (B := B) _ cd1 (Nat.le_trans hB G.size)).mono ?_
  rintro e w1 ⟨rfl, g1, s1⟩
  have hlow : w.heap.size ≤ W.heap.size := G.size
  replace rA := rA.kept g1 (by simp)
  replace G := grown_trans G g1
  clear cd1 g1
  generalize W.heap.size = p at s1 hlow ⊢
  go_wp2_with fail
  refine (drawAnyFr (B := B) (a := a) (len := len) (cap := cap) _ s1).mono ?_
  rintro e w2 ⟨id, rm, ln, D, v, rfl, oA, hD, hi, hl, g2, s2⟩
  obtain ⟨av, ca, rfl, _⟩ := oA.nums
  replace oA := oA.mono G.size
  replace rA := rA.kept g2 (rA.ne_cur s1)
  replace G := grown_own G g2 hlow
  clear g2 s1 s2
  have y0 := rA.c0
  have y1 := rA.c1
  have y2 := rA.c2
  have y3 := rA.c3
  have q0 := rA.free 0
  have q1 := rA.free 1
  have q2 := rA.free 2
  have q3 := rA.free 3
  have hle : w.heap.size ≤ w.heap.size := Nat.le_refl _
  generalize hra : w.heap.size = ra at rA y0 y1 y2 y3 q0 q1 q2 q3 ⊢
  go_wp2_with fail
  have ka := grown_trans (grown_trans (grown_trans (grown_set w2 ra 0 (.int .i64 id)) (grown_set _ ra 1 (.bool rm))) (grown_set _ ra 2 (.int .i64 ln))) (grown_set _ ra 3 (.slice av D.length ca))
  have dA := (((rA.set0 (.int .i64 id)).set1 (.bool rm)).set2 (.int .i64 ln)).set3 (.slice av D.length ca)
  have eA := oA.kept ka (.inr (oA.ne_box rA))
  have H := grown_own G ka (Nat.le_of_eq hra)
  generalize (((w2.setCell ⟨ra, 0, none⟩ (.int .i64 id)).setCell ⟨ra, 1, none⟩ (.bool rm)).setCell ⟨ra, 2, none⟩ (.int .i64 ln)).setCell ⟨ra, 3, none⟩ (.slice av D.length ca) = Wa at dA eA H ⊢
  have t0 := dA.c0
  have t1 := dA.c1
  have t2 := dA.c2
  have t3 := dA.c3
  refine bodyPost_ret (v := frV id rm ln av D.length ca) (by simp [results, Try.results7, go_sem, t0, t1, t2, t3]) rfl
    ⟨id, rm, ln, D, av, ca, rfl, eA.numsAt.2, hD, hi, hl, ?_⟩
  exact hra ▸ below_new H
end Go.Proofs.Ythhhhfpgmolcmab
