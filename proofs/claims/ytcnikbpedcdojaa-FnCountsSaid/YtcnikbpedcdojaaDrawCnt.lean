/- Contracts of the model's draws of a counter (l8Draw, l8DrawAny, DrawStateOf): each answers some two numbers, and writes into nothing but its own cursor. -/
import Derived.Test.YtcnikbpedcdojaaCnt
import Derived.Test.YtcnikbpedcdojaaDrawN
import Derived.Test.YtcnikbpedcdojaaRows2
import Derived.Test.YtcnikbpedcdojaaDrawT
import Derived.Deep.CutRange
import Derived.Deep.RegionLaw
set_option linter.unusedSimpArgs false
set_option linter.unusedVariables false
namespace Go.Proofs.Ytcnikbpedcdojaa
open Go.RowKit

/-- Block g is a counter. -/
def Bc (g : Nat) (x0 x1 : Value) (w : World) : Prop := w.heap[g]? = some (.cells #[x0, x1] 28 (0, 0))
section
variable {g : Nat} {x0 x1 : Value} {w : World}
theorem Bc.c0 (h : Bc g x0 x1 w) : w.cell? ⟨g, 0, none⟩ = some x0 := cell_of_row w g 0 _ _ _ h
theorem Bc.c1 (h : Bc g x0 x1 w) : w.cell? ⟨g, 1, none⟩ = some x1 := cell_of_row w g 1 _ _ _ h
theorem Bc.free (h : Bc g x0 x1 w) (k : Nat) : w.frozen? ⟨g, k, none⟩ = false := frozen_of_row w g k _ _ h
theorem Bc.lt (h : Bc g x0 x1 w) : g < w.heap.size := (Array.getElem?_eq_some_iff.1 h).1
theorem Bc.kept {w' : World} {row : Option Nat} (h : Bc g x0 x1 w) (k : w.grownBy w' row) (hne : some g ≠ row) : Bc g x0 x1 w' := (k.block g h.lt hne).trans h
theorem Bc.made (w : World) (x0 x1 : Value) : Bc w.heap.size x0 x1 (w.alloc (.cells #[x0, x1] 28)) := heap_alloc_new w _
theorem Bc.set0 (h : Bc g x0 x1 w) (y : Value) : Bc g y x1 (w.setCell ⟨g, 0, none⟩ y) := heap_setCell_same w g 0 _ _ y h
theorem Bc.set1 (h : Bc g x0 x1 w) (y : Value) : Bc g x0 y (w.setCell ⟨g, 1, none⟩ y) := heap_setCell_same w g 1 _ _ y h
end

/-- What a draw of a counter leaves. -/
def DrawnC (B p : Nat) (a : Option Addr) (len cap : Nat) (w : World) (e : Ending) (w' : World) : Prop :=
  ∃ s g, e = .returned (cV s g) ∧ w.grownBy w' (some p) ∧ St B p a len cap w'

/-- What stands while a counter is drawn: the cursor, the result's box. -/
structure CS (w0 : World) (B p : Nat) (a : Option Addr) (len cap : Nat) (gr : Nat) (s g : Int) (w : World) : Prop where
  st : St B p a len cap w
  grown : w0.grownBy w (some p)
  res : Bc gr (.int .i64 s) (.int .i64 g) w
  pl : p < w0.heap.size
  rl : w0.heap.size ≤ gr
section
variable {w0 : World} {B p : Nat} {a : Option Addr} {len cap : Nat} {gr : Nat} {s g : Int} {w : World}
theorem CS.step {w' : World} (F : CS w0 B p a len cap gr s g w) (k : w.grownBy w' (some p)) (t : St B p a len cap w') : CS w0 B p a len cap gr s g w' := by
  have h1 := F.pl; have h2 := F.rl
  exact ⟨t, grown_trans F.grown k, F.res.kept k (by simp; omega), h1, h2⟩
theorem CS.alloc (F : CS w0 B p a len cap gr s g w) (o : Obj) : CS w0 B p a len cap gr s g (w.alloc o) := F.step (World.grownBy_alloc w o _) (F.st.alloc o)
theorem CS.drew (F : CS w0 B p a len cap gr s g w) : CS w0 B p a len cap gr s g w.drew := F.step (grown_drew (grown_refl w _)) F.st.drew
theorem CS.put0 (F : CS w0 B p a len cap gr s g w) (y : Int) : CS w0 B p a len cap gr y g (w.setCell ⟨gr, 0, none⟩ (.int .i64 y)) := by
  have h1 := F.pl; have h2 := F.rl
  have kk := grown_set w gr 0 (.int .i64 y)
  exact ⟨F.st.step kk (fun j e => by cases e; omega), grown_own F.grown kk h2, F.res.set0 _, h1, h2⟩
theorem CS.put1 (F : CS w0 B p a len cap gr s g w) (y : Int) : CS w0 B p a len cap gr s y (w.setCell ⟨gr, 1, none⟩ (.int .i64 y)) := by
  have h1 := F.pl; have h2 := F.rl
  have kk := grown_set w gr 1 (.int .i64 y)
  exact ⟨F.st.step kk (fun j e => by cases e; omega), grown_own F.grown kk h2, F.res.set1 _, h1, h2⟩
theorem CS.made {w0 : World} (st : St B p a len cap w0) : CS w0 B p a len cap w0.heap.size 0 0 (w0.alloc (.cells #[.int .i64 0, .int .i64 0] 28)) :=
  ⟨st.alloc _, World.grownBy_alloc w0 _ _, Bc.made _ _ _, st.lt, Nat.le_refl _⟩
end
abbrev list8 : Array Value := (#[.int .i64 0, .int .i64 1, .int .i64 120, .int .i64 127, .int .i64 128, .int .i64 248, .int .i64 255, .int .i64 256] : Array Value)
abbrev list7 : Array Value := (#[.int .i64 0, .int .i64 1, .int .i64 2, .int .i64 126, .int .i64 127, .int .i64 128, .int .i64 129] : Array Value)
/-- Block b holds the numbers C. -/
def Has (b : Nat) (C : Array Value) (w : World) : Prop := ∃ T z, w.heap[b]? = some (.cells C T z)
theorem Has.cell {b : Nat} {C : Array Value} {w : World} (h : Has b C w) {k : Nat} {v : Value} (hv : C[k]? = some v) : w.cell? ⟨b, k, none⟩ = some v := by
  obtain ⟨T, z, h⟩ := h
  simp [World.cell?, h, hv]
theorem Has.lt {b : Nat} {C : Array Value} {w : World} (h : Has b C w) : b < w.heap.size := by
  obtain ⟨T, z, h⟩ := h
  exact (Array.getElem?_eq_some_iff.1 h).1
theorem Has.grown {b p : Nat} {C : Array Value} {w w' : World} (h : Has b C w) (g : w.grownBy w' (some p)) (hp : b ≠ p) : Has b C w' := by
  have hl := h.lt
  obtain ⟨T, z, h⟩ := h
  exact ⟨T, z, (g.block b hl (by simpa using hp)).trans h⟩
theorem Has.alloc {b : Nat} {C : Array Value} {w : World} (h : Has b C w) (o : Obj) : Has b C (w.alloc o) := by
  have hl := h.lt
  obtain ⟨T, z, h⟩ := h
  exact ⟨T, z, ((World.grownBy_alloc w o none).block b hl (by simp)).trans h⟩
theorem Has.made (C : Array Value) (T : TypeId) (w : World) : Has w.heap.size C (w.alloc (.cells C T)) := ⟨T, (0, 0), heap_alloc_new w _⟩
theorem Has.madeD (C : Array Value) (T : TypeId) (w : World) : Has w.heap.size C (w.drew.alloc (.cells C T)) := ⟨T, (0, 0), heap_alloc_new w.drew _⟩
theorem Has.made1 (C : Array Value) (T : TypeId) (w : World) (o : Obj) : Has (w.heap.size + 1) C ((w.alloc o).alloc (.cells C T)) := by
  have := Has.made C T (w.alloc o)
  simpa using this
/-- A number of a short list. -/
theorem pick8 {x : Int} (h0 : 0 ≤ x) (h1 : x ≤ 7) : ∃ v : Int, list8[x.toNat]? = some (.int .i64 v) := by
  have hx : x = 0 ∨ x = 1 ∨ x = 2 ∨ x = 3 ∨ x = 4 ∨ x = 5 ∨ x = 6 ∨ x = 7 := by omega
  rcases hx with rfl | rfl | rfl | rfl | rfl | rfl | rfl | rfl <;> exact ⟨_, rfl⟩
theorem pick7 {x : Int} (h0 : 0 ≤ x) (h1 : x ≤ 6) : ∃ v : Int, list7[x.toNat]? = some (.int .i64 v) := by
  have hx : x = 0 ∨ x = 1 ∨ x = 2 ∨ x = 3 ∨ x = 4 ∨ x = 5 ∨ x = 6 := by omega
  rcases hx with rfl | rfl | rfl | rfl | rfl | rfl | rfl <;> exact ⟨_, rfl⟩

set_option maxHeartbeats 8000000 in
/-- spec.l8Draw. -/
theorem drawCnt {B p : Nat} {a : Option Addr} {len cap : Nat} (w : World) (st : St B p a len cap w) :
    Calls Try.prog 33 #[.pointer (some ⟨p, 0, none⟩)] w (DrawnC B p a len cap w) := by
  have F := CS.made st
  have hp := st.lt
  go_enter Try.func33, Try.ntmps33
  go_upto_region 1 with fail
  generalize hgr : w.heap.size = gr at F ⊢
  generalize w.alloc (.cells #[.int .i64 0, .int .i64 0] 28) = W at F ⊢
  go_wp2_with fail
  refine (onceAny (B := B) (a := a) (len := len) (cap := cap) 3 _ (by omega) (by omega) F.st).mono ?_
  rintro e w1 ⟨b, rfl, g1, s1⟩
  replace F := F.step g1 s1
  clear g1 s1
  cases b with
  | true =>
    go_wp2_with fail
    refine (belowPos (B := B) (a := a) (len := len) (cap := cap) 300 _ (by omega) (by omega) F.st).mono ?_
    rintro e w2 ⟨x, x0, x1, rfl, g2, s2⟩
    replace F := F.step g2 s2
    clear g2 s2
    go_wp2_with fail
    refine (belowPos (B := B) (a := a) (len := len) (cap := cap) 200 _ (by omega) (by omega) F.st).mono ?_
    rintro e w3 ⟨y, y0, y1, rfl, g3, s3⟩
    replace F := F.step g3 s3
    clear g3 s3
    have c0 := F.res.c0
    have c1 := F.res.c1
    have f0 := F.res.free 0
    have f1 := F.res.free 1
    go_wp2_with fail
    replace F := (F.put0 x).put1 y
    have d0 := F.res.c0
    have d1 := F.res.c1
    exact bodyPost_ret (v := cV x y) (by simp [results, Try.results33, go_sem, d0, d1]) rfl ⟨x, y, rfl, F.grown, F.st⟩
  | false =>
    have G1 := F.drew
    have c0 := F.res.c0
    have c1 := F.res.c1
    have f0 := F.res.free 0
    have f1 := F.res.free 1
    go_wp2_with fail
    have hsz : w1.drew.heap.size = w1.heap.size := rfl
    go_region_law (first
      | (go_simp
         go_at_call_of 36 (Value.int .i64 8)
         refine (belowPos (B := B) (a := a) (len := len) (cap := cap) 8 _ (by omega) (by omega) ?_).mono ?_
         · first | exact G1.st | exact (G1.alloc _).st | exact ((G1.alloc _).alloc _).st
         rintro e w5 ⟨x, x0, x1, rfl, g5, s5⟩
         have x2 : x < 8 := by omega
         obtain ⟨v, hv⟩ := pick8 x0 (by omega)
         have G5 : CS w B p a len cap gr 0 0 w5 := by first | exact G1.step g5 s5 | exact (G1.alloc _).step g5 s5 | exact ((G1.alloc _).alloc _).step g5 s5
         have hp1 := G1.st.lt
         first
           | (have r1 : Has w1.heap.size list8 w5 := Has.grown (by first | exact Has.madeD _ _ _ | exact (Has.madeD _ _ _).alloc _) g5 (by omega)
              have k1 := r1.cell hv
              have k1a := (r1.alloc (.cells list7 2)).cell hv)
           | (have r1 : Has (w1.heap.size + 1) list8 w5 := Has.grown (Has.made1 _ _ w1.drew _) g5 (by omega)
              have k1 := r1.cell hv
              have k1a := (r1.alloc (.cells list7 2)).cell hv)
           | (have r1 := Has.made list8 2 w5
              have k1 := r1.cell hv
              have k1a := (r1.alloc (.cells list7 2)).cell hv
              have k1b := (Has.made1 list8 2 w5 (.cells list7 2)).cell hv)
         first
           | (have r2 : Has w1.heap.size list7 w5 := Has.grown (by first | exact Has.madeD _ _ _ | exact (Has.madeD _ _ _).alloc _) g5 (by omega))
           | (have r2 : Has (w1.heap.size + 1) list7 w5 := Has.grown (Has.made1 _ _ w1.drew _) g5 (by omega))
           | (have r2 := Has.made list7 2 w5))
      | (go_simp
         go_at_call_of 36 (Value.int .i64 7)
         refine (belowPos (B := B) (a := a) (len := len) (cap := cap) 7 _ (by omega) (by omega) ?_).mono ?_
         · first | exact s5 | exact s5.alloc _ | exact (s5.alloc _).alloc _
         rintro e w6 ⟨y, y0, y1, rfl, g6, s6⟩
         have y2 : y < 7 := by omega
         obtain ⟨u, hu⟩ := pick7 y0 (by omega)
         have hp5 := s5.lt
         have hp6 := s6.lt
         have G6 : CS w B p a len cap gr 0 0 w6 := by first | exact G5.step g6 s6 | exact (G5.alloc _).step g6 s6 | exact ((G5.alloc _).alloc _).step g6 s6
         first
           | (first
                | have q1 := r1.grown g6 (by omega)
                | have q1 := (r1.alloc _).grown g6 (by omega)
                | have q1 := (Has.made1 list8 2 w5 _).grown g6 (by omega)
              have j1 := q1.cell hv
              have j1a := (q1.alloc (.cells list7 2)).cell hv)
           | (have j1 := (Has.made list8 2 w6).cell hv
              have j1a := ((Has.made list8 2 w6).alloc (.cells list7 2)).cell hv
              have j1b := (Has.made1 list8 2 w6 (.cells list7 2)).cell hv)
         first
           | (first
                | have q2 := r2.grown g6 (by omega)
                | have q2 := (r2.alloc _).grown g6 (by omega)
                | have q2 := (Has.made1 list7 2 w5 _).grown g6 (by omega)
              have j2 := q2.cell hu
              have j2a := (q2.alloc (.cells list8 2)).cell hu)
           | (have j2 := (Has.made list7 2 w6).cell hu
              have j2a := ((Has.made list7 2 w6).alloc (.cells list8 2)).cell hu
              have j2b := (Has.made1 list7 2 w6 (.cells list8 2)).cell hu)
         have GA := G6.alloc (.cells list8 2)
         have GB := G6.alloc (.cells list7 2)
         have GAB := GA.alloc (.cells list7 2)
         have GBA := GB.alloc (.cells list8 2)
         have c0G6 := G6.res.c0
         have c1G6 := G6.res.c1
         have f0G6 := G6.res.free 0
         have f1G6 := G6.res.free 1
         have c0GA := GA.res.c0
         have c1GA := GA.res.c1
         have f0GA := GA.res.free 0
         have f1GA := GA.res.free 1
         have c0GB := GB.res.c0
         have c1GB := GB.res.c1
         have f0GB := GB.res.free 0
         have f1GB := GB.res.free 1
         have c0GAB := GAB.res.c0
         have c1GAB := GAB.res.c1
         have f0GAB := GAB.res.free 0
         have f1GAB := GAB.res.free 1
         have c0GBA := GBA.res.c0
         have c1GBA := GBA.res.c1
         have f0GBA := GBA.res.free 0
         have f1GBA := GBA.res.free 1
         skip))
    all_goals first
      | (have H := (G6.put0 v).put1 u
         change Exit.then _ _ _ _ ((w6.setCell ⟨gr, 0, none⟩ (.int .i64 v)).setCell ⟨gr, 1, none⟩ (.int .i64 u))
         generalize (w6.setCell ⟨gr, 0, none⟩ (.int .i64 v)).setCell ⟨gr, 1, none⟩ (.int .i64 u) = Wz at H ⊢)
      | (have H := (GA.put0 v).put1 u
         change Exit.then _ _ _ _ (((w6.alloc (.cells list8 2)).setCell ⟨gr, 0, none⟩ (.int .i64 v)).setCell ⟨gr, 1, none⟩ (.int .i64 u))
         generalize ((w6.alloc (.cells list8 2)).setCell ⟨gr, 0, none⟩ (.int .i64 v)).setCell ⟨gr, 1, none⟩ (.int .i64 u) = Wz at H ⊢)
      | (have H := (GB.put0 v).put1 u
         change Exit.then _ _ _ _ (((w6.alloc (.cells list7 2)).setCell ⟨gr, 0, none⟩ (.int .i64 v)).setCell ⟨gr, 1, none⟩ (.int .i64 u))
         generalize ((w6.alloc (.cells list7 2)).setCell ⟨gr, 0, none⟩ (.int .i64 v)).setCell ⟨gr, 1, none⟩ (.int .i64 u) = Wz at H ⊢)
      | (have H := (GAB.put0 v).put1 u
         change Exit.then _ _ _ _ ((((w6.alloc (.cells list8 2)).alloc (.cells list7 2)).setCell ⟨gr, 0, none⟩ (.int .i64 v)).setCell ⟨gr, 1, none⟩ (.int .i64 u))
         generalize (((w6.alloc (.cells list8 2)).alloc (.cells list7 2)).setCell ⟨gr, 0, none⟩ (.int .i64 v)).setCell ⟨gr, 1, none⟩ (.int .i64 u) = Wz at H ⊢)
      | (have H := (GBA.put0 v).put1 u
         change Exit.then _ _ _ _ ((((w6.alloc (.cells list7 2)).alloc (.cells list8 2)).setCell ⟨gr, 0, none⟩ (.int .i64 v)).setCell ⟨gr, 1, none⟩ (.int .i64 u))
         generalize (((w6.alloc (.cells list7 2)).alloc (.cells list8 2)).setCell ⟨gr, 0, none⟩ (.int .i64 v)).setCell ⟨gr, 1, none⟩ (.int .i64 u) = Wz at H ⊢)
    all_goals
      have d0 := H.res.c0
      have d1 := H.res.c1
      have hg := H.grown
      have hs := H.st
      clear H G5 G6 GA GB GAB GBA G1 F r2 g5 g6 s5 s6 c0 c1 f0 f1 c0G6 c1G6 f0G6 f1G6 c0GA c1GA f0GA f1GA c0GB c1GB f0GB f1GB c0GAB c1GAB f0GAB f1GAB c0GBA c1GBA f0GBA f1GBA
      go_wp2_with fail
      exact bodyPost_ret (v := cV v u) (by simp [results, Try.results33, go_sem, d0, d1]) rfl ⟨v, u, rfl, hg, hs⟩
end Go.Proofs.Ytcnikbpedcdojaa
