/- Contract of the model's l4DrawAny: it answers some frame whose row is its own, and writes into nothing that was there but the cursor. -/
import Derived.Test.YthhhhfpgmolcmabFrDraw
set_option linter.unusedSimpArgs false
set_option linter.unusedVariables false
namespace Go.Proofs.Ythhhhfpgmolcmab
open Go.RowKit

set_option maxHeartbeats 4000000 in
/-- spec.l4DrawAny. -/
theorem drawAnyFr {B p : Nat} {a : Option Addr} {len cap : Nat} (w : World) (st : St B p a len cap w) :
    Calls Try.prog 19 #[.pointer (some ⟨p, 0, none⟩)] w (Drawn B p a len cap 9 w) := by
  have hp := st.lt
  have R0 := Bx.made w (.int .i64 0) (.bool false) (.int .i64 0) (.slice none 0 0)
  have g0 := World.grownBy_alloc w (.cells #[.int .i64 0, .bool false, .int .i64 0, .slice none 0 0] 26) (some p)
  go_enter Try.func19, Try.ntmps19
  go_wp2_with fail
  refine (drawFr (B := B) (a := a) (len := len) (cap := cap) _ (st.alloc _)).mono ?_
  rintro e w1 ⟨id, rm, ln, D, v, rfl, own, hD, hid, hln, g1, s1⟩
  obtain ⟨av, cv, rfl, _⟩ := own.nums
  have hsz := g0.size
  replace R0 := R0.kept g1 (by simp; omega)
  replace own := own.mono hsz
  replace g1 := grown_trans g0 g1
  clear g0 hsz
  go_upto_region 2 with fail
  have F : FS w B p a len cap w.heap.size w1.heap.size id rm ln D (.slice av D.length cv) (w1.alloc (.cells #[.int .i64 id, .bool rm, .int .i64 ln, .slice av D.length cv] 26)) := by
    have k := World.grownBy_alloc w1 (.cells #[.int .i64 id, .bool rm, .int .i64 ln, .slice av D.length cv] 26) (some p)
    have h1 := R0.lt
    exact ⟨s1.alloc _, grown_trans g1 k, R0.kept k (by simp; omega), Bx.made _ _ _ _ _, ⟨own.1.alloc _, own.2⟩, hp, Nat.le_refl _, g1.size, by omega⟩
  generalize w1.alloc (.cells #[.int .i64 id, .bool rm, .int .i64 ln, .slice av D.length cv] 26) = W at F ⊢
  generalize w1.heap.size = gf at F ⊢
  generalize hgr : w.heap.size = gr at F ⊢
  clear R0 s1 g1 own
  go_wp2_with fail
  refine (onceAny (B := B) (a := a) (len := len) (cap := cap) 6 _ (by omega) (by omega) F.st).mono ?_
  rintro e w2 ⟨b, rfl, g3, s3⟩
  replace F := F.step g3 s3
  clear g3 s3
  go_upto_if 7 with fail
  go_cut [] (fun wx => ∃ (id : Int) (rm : Bool) (ln : Int) (D : List Int) (av : Option Addr) (cv : Nat), (Lit.int .i64 id).wf = true ∧ (Lit.int .i64 ln).wf = true ∧ D.length ≤ 9 ∧ FS w B p a len cap gr gf id rm ln D (.slice av D.length cv) wx)
  case first =>
    cases b with
    | false =>
      go_wp2_with fail
      go_meet
      exact ⟨id, rm, ln, D, av, cv, hid, hln, by omega, F⟩
    | true =>
      go_wp2_with fail
      refine (belowPos (B := B) (a := a) (len := len) (cap := cap) 4 _ (by omega) (by omega) F.st).mono ?_
      rintro e w3 ⟨x, x0, x1, rfl, g3, s3⟩
      replace F := F.step g3 s3
      clear g3 s3
      have hx : x = 0 ∨ x = 1 ∨ x = 2 ∨ x = 3 := by omega
      rcases hx with rfl | rfl | rfl | rfl
      · go_wp2_with fail
        refine (numAny (B := B) (a := a) (len := len) (cap := cap) 2047 _ (by omega) (by omega) F.st).mono ?_
        rintro e w4 ⟨n, n0, n1, rfl, g4, s4⟩
        replace F := F.step g4 s4
        have c0 := F.box.c0
        have f0 := F.box.free 0
        go_wp2_with fail
        go_meet
        exact ⟨n, rm, ln, D, av, cv, Go.WalkArith.wf_i64 ⟨by omega, by omega⟩, hln, by omega, F.putId n⟩
      · go_wp2_with fail
        refine (numAny (B := B) (a := a) (len := len) (cap := cap) 8 _ (by omega) (by omega) F.st).mono ?_
        rintro e w4 ⟨n, n0, n1, rfl, g4, s4⟩
        replace F := F.step g4 s4
        have c2 := F.box.c2
        have f2 := F.box.free 2
        go_wp2_with fail
        go_meet
        exact ⟨id, rm, n, D, av, cv, hid, Go.WalkArith.wf_i64 ⟨by omega, by omega⟩, by omega, F.putLn n⟩
      · have G1 := F.drew
        have c3 := F.box.c3
        go_wp2_with fail
        go_region_law (first
          | (go_simp
             go_at_call 35
             refine (numAny (B := B) (a := a) (len := len) (cap := cap) 255 _ (by omega) (by omega) G1.st).mono ?_
             rintro e w5 ⟨z, z0, z1, rfl, g5, s5⟩
             have hzw : (Lit.int .i64 z).wf = true := Go.WalkArith.wf_i64 ⟨by omega, by omega⟩
             have G5 := G1.step g5 s5
             have c5 := G5.box.c3
             have c5b := (G5.alloc (.cells #[.int .i64 z] 2)).box.c3)
          | (refine step_appI rfl (.tmp 23) (.tmp 26) rfl w.heap.size D z (.slice av D.length cv) ?_ ?_ w5.heap.size 1 ?_ ?_ hzw ?_ ?_ ?_
             · simp [Act.eval, Act.put]
             · exact (G5.alloc _).own
             · simp [Act.eval, Act.put]
             · exact World.cell?_alloc_at _ _ _ _ rfl
             · omega
             · have := G5.grown.size
               simp
               try omega
             intro av' cv' w8 own8 g8
             have G7 := G5.alloc (.cells #[.int .i64 z] 2)
             have B8 := G7.box.kept g8 (G7.own.ne_box G7.box).symm
             have c8 := B8.c3
             have f8 := B8.free 3
             have G9 := G7.app own8 g8))
        all_goals
          clear c3 c5 c5b
          go_wp2_with fail
          go_meet
          refine ⟨id, rm, ln, D ++ [z], av', cv', hid, hln, by simp; omega, ?_⟩
          rw [show (D ++ [z]).length = D.length + 1 by simp]
          exact G9
      · have c1 := F.box.c1
        have f1 := F.box.free 1
        go_wp2_with fail
        go_meet
        exact ⟨id, !rm, ln, D, av, cv, hid, hln, by omega, F.putRm (!rm)⟩
  case rest =>
    clear F
    obtain ⟨id, rm, ln, D, av, cv, hid, hln, hD, F⟩ := hcut
    have r0 := F.box.c0
    have r1 := F.box.c1
    have r2 := F.box.c2
    have r3 := F.box.c3
    have y0 := F.res.c0
    have y1 := F.res.c1
    have y2 := F.res.c2
    have y3 := F.res.c3
    have q0 := F.res.free 0
    have q1 := F.res.free 1
    have q2 := F.res.free 2
    have q3 := F.res.free 3
    go_wp2_with fail
    obtain ⟨d0, d1, d2, d3⟩ := F.done
    generalize (((wc.setCell ⟨gr, 0, none⟩ (.int .i64 id)).setCell ⟨gr, 1, none⟩ (.bool rm)).setCell ⟨gr, 2, none⟩ (.int .i64 ln)).setCell ⟨gr, 3, none⟩ (.slice av D.length cv) = Wx at d0 d1 d2 d3 ⊢
    have z0 := d0.c0
    have z1 := d0.c1
    have z2 := d0.c2
    have z3 := d0.c3
    exact bodyPost_ret (v := .agg #[.int .i64 id, .bool rm, .int .i64 ln, .slice av D.length cv]) (by simp [results, Try.results19, go_sem, z0, z1, z2, z3]) rfl ⟨id, rm, ln, D, .slice av D.length cv, rfl, d1, hD, hid, hln, d2, d3⟩
section
variable {Bn B p g : Nat} {a : Option Addr} {len cap : Nat} {D : List Int} {v : Value} {x0 x1 x2 x3 : Value} {w : World}
theorem OwnI.ne_cur (h : OwnI Bn D v w) (s : St B p a len cap w) : v.ownBlock ≠ some p := by
  rcases h.1.2 with ⟨rfl, _⟩ | ⟨g', cap', cur, rfl, _, hg, _⟩
  · simp [Value.ownBlock]
  · intro e
    simp only [Value.ownBlock, Option.some.injEq] at e
    subst e
    obtain ⟨⟨i, h', c⟩, _⟩ := s
    rw [c.block] at hg
    simp at hg
theorem OwnI.stay {w' : World} (h : OwnI Bn D v w) (k : w.grownBy w' none) : OwnI Bn D v w' := h.kept k (Classical.em _)
theorem Bx.ne_cur (h : Bx g x0 x1 x2 x3 w) (s : St B p a len cap w) : some g ≠ some p := by
  intro e
  rw [Option.some.inj e] at h
  obtain ⟨⟨i, h', c⟩, _⟩ := s
  have k := c.block
  rw [show w.heap[p]? = _ from h] at k
  simp at k
theorem OwnI.numsAt {av : Option Addr} {n cv : Nat} (h : OwnI Bn D (.slice av n cv) w) : n = D.length ∧ Nums av D w := by
  obtain ⟨a', c', e, k⟩ := h.nums
  simp only [Value.slice.injEq] at e
  obtain ⟨rfl, rfl, rfl⟩ := e
  exact ⟨rfl, k⟩
end

end Go.Proofs.Ythhhhfpgmolcmab
