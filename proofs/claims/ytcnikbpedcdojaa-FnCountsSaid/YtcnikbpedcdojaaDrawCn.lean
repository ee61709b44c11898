/- Contracts of l8DrawAny and DrawStateOf: each answers some two numbers, and writes into nothing that was there. -/
import Derived.Test.YtcnikbpedcdojaaDrawCnt
import Derived.Test.YtcnikbpedcdojaaDraws1
import Derived.Deep.CutRange
import Derived.Deep.DeepCutAuto
set_option linter.unusedSimpArgs false
set_option linter.unusedVariables false
namespace Go.Proofs.Ytcnikbpedcdojaa
open Go.RowKit

theorem CS.beside {w0 : World} {B p : Nat} {a : Option Addr} {len cap : Nat} {gr : Nat} {s g : Int} {w : World} (F : CS w0 B p a len cap gr s g w) (gx : Nat) (hne : gr ≠ gx) (hx : w0.heap.size ≤ gx) (k : Nat) (v : Value) : CS w0 B p a len cap gr s g (w.setCell ⟨gx, k, none⟩ v) := by
  have h1 := F.pl; have h2 := F.rl
  have kk := grown_set w gx k v
  exact ⟨F.st.step kk (fun j e => by cases e; omega), grown_own F.grown kk hx, F.res.kept kk (by simpa using hne), h1, h2⟩

set_option maxHeartbeats 4000000 in
/-- spec.l8DrawAny. -/
theorem drawAnyCnt {B p : Nat} {a : Option Addr} {len cap : Nat} (w : World) (st : St B p a len cap w) :
    Calls Try.prog 29 #[.pointer (some ⟨p, 0, none⟩)] w (DrawnC B p a len cap w) := by
  have F := CS.made st
  have hp := st.lt
  have hle : w.heap.size ≤ w.heap.size := Nat.le_refl _
  go_enter Try.func29, Try.ntmps29
  go_upto_region 1 with fail
  generalize hgr : w.heap.size = gr at F ⊢
  generalize w.alloc (.cells #[.int .i64 0, .int .i64 0] 28) = W at F ⊢
  go_wp2_with fail
  refine (drawCnt (B := B) (a := a) (len := len) (cap := cap) _ F.st).mono ?_
  rintro e w1 ⟨s, g, rfl, g1, s1⟩
  replace F := F.step g1 s1
  clear g1 s1
  go_upto_region 2 with fail
  have X := Bc.made w1 (.int .i64 s) (.int .i64 g)
  have hx : p < w1.heap.size := F.st.lt
  have hne : gr ≠ w1.heap.size := Nat.ne_of_lt F.res.lt
  have hxl : w.heap.size ≤ w1.heap.size := F.grown.size
  replace F := F.alloc (.cells #[.int .i64 s, .int .i64 g] 28)
  generalize w1.alloc (.cells #[.int .i64 s, .int .i64 g] 28) = W1 at F X ⊢
  generalize w1.heap.size = gx at X hx hne hxl ⊢
  have hxp : some gx ≠ some p := by simp; omega
  clear hx
  go_wp2_with fail
  refine (onceAny (B := B) (a := a) (len := len) (cap := cap) 6 _ (by omega) (by omega) F.st).mono ?_
  rintro e w2 ⟨b, rfl, g3, s3⟩
  replace F := F.step g3 s3
  replace X := X.kept g3 hxp
  clear g3 s3
  go_upto_if 7 with fail
  go_cut [] (fun wx => ∃ (s g : Int), CS w B p a len cap gr 0 0 wx ∧ Bc gx (.int .i64 s) (.int .i64 g) wx)
  case first =>
    cases b with
    | false =>
      go_wp2_with fail
      go_meet
      exact ⟨s, g, F, X⟩
    | true =>
      go_wp2_with fail
      refine (onceAny (B := B) (a := a) (len := len) (cap := cap) 2 _ (by omega) (by omega) F.st).mono ?_
      rintro e w3 ⟨b2, rfl, g3, s3⟩
      replace F := F.step g3 s3
      replace X := X.kept g3 hxp
      clear g3 s3
      cases b2 with
      | true =>
        go_wp2_with fail
        refine (numAny (B := B) (a := a) (len := len) (cap := cap) 1000 _ (by omega) (by omega) F.st).mono ?_
        rintro e w4 ⟨n, n0, n1, rfl, g4, s4⟩
        replace F := F.step g4 s4
        replace X := X.kept g4 hxp
        clear g4 s4
        have c0 := X.c0
        have f0 := X.free 0
        go_wp2_with fail
        go_meet
        exact ⟨n, g, F.beside gx hne hxl 0 _, X.set0 _⟩
      | false =>
        go_wp2_with fail
        refine (numAny (B := B) (a := a) (len := len) (cap := cap) 1000 _ (by omega) (by omega) F.st).mono ?_
        rintro e w4 ⟨n, n0, n1, rfl, g4, s4⟩
        replace F := F.step g4 s4
        replace X := X.kept g4 hxp
        clear g4 s4
        have c1 := X.c1
        have f1 := X.free 1
        go_wp2_with fail
        go_meet
        exact ⟨s, n, F.beside gx hne hxl 1 _, X.set1 _⟩
  case rest =>
    clear F X
    obtain ⟨s, g, F, X⟩ := hcut
    have r0 := X.c0
    have r1 := X.c1
    have y0 := F.res.c0
    have y1 := F.res.c1
    have q0 := F.res.free 0
    have q1 := F.res.free 1
    go_wp2_with fail
    have H := (F.put0 s).put1 g
    generalize (wc.setCell ⟨gr, 0, none⟩ (.int .i64 s)).setCell ⟨gr, 1, none⟩ (.int .i64 g) = Wz at H ⊢
    have d0 := H.res.c0
    have d1 := H.res.c1
    exact bodyPost_ret (v := cV s g) (by simp [results, Try.results29, go_sem, d0, d1]) rfl ⟨s, g, rfl, H.grown, H.st⟩
/-- What a draw of one counter leaves. -/
def OneC (w : World) (e : Ending) (w' : World) : Prop := ∃ s g, e = .returned (cV s g) ∧ Below w.heap.size w w'
set_option maxHeartbeats 4000000 in
/-- spec.DrawStateOf. -/
theorem drawState {B : Nat} {a : Option Addr} {len cap : Nat} (w : World) (cd : Code B a len w) (hB : B ≤ w.heap.size) :
    Calls Try.prog 15 #[.slice a len cap] w (OneC w) := by
  have rA := Bc.made w (.int .i64 0) (.int .i64 0)
  have G := World.grownBy_alloc w (.cells #[.int .i64 0, .int .i64 0] 28) none
  go_enter Try.func15, Try.ntmps15
  go_upto_region 1 with fail
  generalize w.alloc (.cells #[.int .i64 0, .int .i64 0] 28) = W at G rA ⊢
  have cd1 := cd.below (below_new G) hB
  go_wp2_with fail
  refine (newAny (B := B) _ cd1 (Nat.le_trans hB G.size)).mono ?_
  rintro e w1 ⟨rfl, g1, s1⟩
  have hlow : w.heap.size ≤ W.heap.size := G.size
  have hlt : w.heap.size < W.heap.size := rA.lt
  replace rA := rA.kept g1 (by simp)
  replace G := grown_trans G g1
  clear cd1 g1
  generalize W.heap.size = p at s1 hlow hlt ⊢
  go_wp2_with fail
  refine (drawAnyCnt (B := B) (a := a) (len := len) (cap := cap) _ s1).mono ?_
  rintro e w2 ⟨s, g, rfl, g2, s2⟩
  replace rA := rA.kept g2 (by simp; omega)
  replace G := grown_own G g2 hlow
  clear g2 s1 s2
  have y0 := rA.c0
  have y1 := rA.c1
  have q0 := rA.free 0
  have q1 := rA.free 1
  generalize hra : w.heap.size = ra at rA y0 y1 q0 q1 ⊢
  go_wp2_with fail
  have ka := grown_trans (grown_set w2 ra 0 (.int .i64 s)) (grown_set _ ra 1 (.int .i64 g))
  have dA := (rA.set0 (.int .i64 s)).set1 (.int .i64 g)
  have H := grown_own G ka (Nat.le_of_eq hra)
  generalize (w2.setCell ⟨ra, 0, none⟩ (.int .i64 s)).setCell ⟨ra, 1, none⟩ (.int .i64 g) = Wa at dA H ⊢
  have t0 := dA.c0
  have t1 := dA.c1
  exact bodyPost_ret (v := cV s g) (by simp [results, Try.results15, go_sem, t0, t1]) rfl ⟨s, g, rfl, below_new H⟩
end Go.Proofs.Ytcnikbpedcdojaa
