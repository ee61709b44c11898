/- The program's brokenOff, its table of steps, and copiedNode. -/
import Derived.Test.YtpenjbpcebfecaaGreatDoorM31
import Derived.Test.YtpenjbpcebfecaaGreatDoorM20
import Derived.Test.YtpenjbpcebfecaaGreatDoorM29
import Derived.Recover

set_option linter.unusedVariables false
set_option linter.unusedSimpArgs false
set_option maxRecDepth 20000
namespace Go.Proofs.YtpenjbpcebfecaaGreatDoor
open Go.RowKit


set_option maxHeartbeats 16000000 in
/-- impl.brokenOff. -/
theorem implBroken (n : Nd) (p : NdP) (w : World) :
    Calls Tryz.prog 44 #[ndV n p] w (Told (brkN n).1 (brkN n).2.1 p w) := by
  rcases Bool.eq_false_or_eq_true n.tx with ht | ht
  · have h1 : badA n = sbA n.cs n.cg := by unfold badA; rw [ht]; first | exact if_pos rfl | exact if_neg (by decide)
    have h2 : badB n = swB n.cs n.cg := by unfold badB; rw [ht]; first | exact if_pos rfl | exact if_neg (by decide)
    unfold brkN
    rw [h1, h2]
    clear h1 h2
    generalize ha : sbA n.cs n.cg = ca at *
    generalize hb : swB n.cs n.cg = cb at *
    replace ha := Lib.hid ha
    replace hb := Lib.hid hb
    replace ht := Lib.hid ht
    by_cases hs2 : stV ca cb = 2
    · rw [if_pos hs2]
      generalize hst : stV ca cb = st at *
      replace hst := Lib.hid hst
      have e2 : (st == 2) = true := beq_iff_eq.2 hs2
      clear hs2
      have X := N3.made (ndC n p) w
      go_enter Tryz.func44, Tryz.ntmps44
      go_upto_region 1 with fail
      generalize World.alloc _ _ = W at X ⊢
      generalize w.heap.size + 1 + 1 = gh at X ⊢
      generalize w.heap.size + 1 = gr at X ⊢
      generalize w.heap.size = g at X ⊢
      have c1 : W.cell? ⟨g, 1, none⟩ = some (.bool n.tx) := X.cell 1
      have c13 : W.cell? ⟨g, 13, none⟩ = some (.int .i64 n.cs) := X.cell 13
      have c14 : W.cell? ⟨g, 14, none⟩ = some (.int .i64 n.cg) := X.cell 14
      rw [ht.out] at c1
      go_wp2_with fail
      refine (implSentBad _ _ _).mono ?_
      rintro e w2 ⟨rfl, b⟩
      rw [ha.out, hb.out]
      replace X := X.below b
      clear b c1 c13 c14
      have c13 : w2.cell? ⟨g, 13, none⟩ = some (.int .i64 n.cs) := X.cell 13
      have c14 : w2.cell? ⟨g, 14, none⟩ = some (.int .i64 n.cg) := X.cell 14
      have f13 := X.free 13
      have f14 := X.free 14
      go_upto_region 4 with fail
      clear c13 c14 f13 f14
      replace X : N3 g gr gh (ndC ({ n with cs := ca, cg := cb }) p) w _ := ((X.set 13 (.int .i64 ca)).set 14 (.int .i64 cb))
      generalize World.setCell _ _ _ = W3 at X ⊢
      go_wp2_with (refine Nx.take ⟨X.blk, X.bel⟩ rfl rfl rfl ?_)
      refine (implUnseen { n with cs := ca, cg := cb } p _).mono ?_
      rintro e w4 ⟨rfl, b⟩
      replace X := X.below b
      clear b
      go_upto_region 5 with (refine wpList_put X.blk rfl rfl rfl rfl rfl ?_)
      replace X : N3 g gr gh (ndC (unN { n with cs := ca, cg := cb }) p) w _ := X.put _
      generalize World.setRow _ _ _ = W5 at X ⊢
      have c3 : W5.cell? ⟨g, 3, none⟩ = some (.bool n.bad) := X.cell 3
      have f3 := X.free 3
      go_upto_region 6 with fail
      clear c3 f3
      replace X : N3 g gr gh (ndC ({ n with cs := ca, cg := cb, got := ⟨#[]⟩, run := 0, last := 0, pos := 0, bad := false }) p) w _ := (X.set 3 (.bool false))
      generalize World.setCell _ _ _ = W6 at X ⊢
      have c13 : W6.cell? ⟨g, 13, none⟩ = some (.int .i64 ca) := X.cell 13
      have c14 : W6.cell? ⟨g, 14, none⟩ = some (.int .i64 cb) := X.cell 14
      go_wp2_with fail
      refine (implStateOf _ _ _).mono ?_
      rintro e w7 ⟨rfl, b⟩
      rw [hst.out]
      replace X := X.below b
      clear b c13 c14
      have c0 : w7.cell? ⟨g, 0, none⟩ = some (.int .i64 n.ph) := X.cell 0
      have c12 : w7.cell? ⟨g, 12, none⟩ = some (.int .i64 n.left) := X.cell 12
      have f0 := X.free 0
      have f12 := X.free 12
      go_upto_region 9 with fail
      clear c0 c12 f0 f12
      replace X : N3 g gr gh (ndC ({ n with cs := ca, cg := cb, got := ⟨#[]⟩, run := 0, last := 0, pos := 0, bad := false, ph := 7, left := 128 }) p) w _ := ((X.set 0 (.int .i64 7)).set 12 (.int .i64 128))
      generalize World.setCell _ _ _ = W8 at X ⊢
      go_wp2_with (first | (refine Nx.take ⟨X.blk, X.bel⟩ rfl rfl rfl ?_) | (refine wpList_put X.res rfl rfl rfl rfl rfl ?_) | (refine wpList_tell (k := 5) (f := zF) (ad := none) (cd := 0) (X.fin (ndC ({ n with cs := ca, cg := cb, got := ⟨#[]⟩, run := 0, last := 0, pos := 0, bad := false, ph := 7, left := 128 }) p) #[]).1 rfl rfl rfl rfl rfl ?_))
      obtain ⟨-, Z1, Z2, Z3⟩ := X.fin (ndC ({ n with cs := ca, cg := cb, got := ⟨#[]⟩, run := 0, last := 0, pos := 0, bad := false, ph := 7, left := 128 }) p) (hpC (5) (zF) (none) (0))
      refine bodyPost_ret (v := .tuple #[ndV ({ n with cs := ca, cg := cb, got := ⟨#[]⟩, run := 0, last := 0, pos := 0, bad := false, ph := 7, left := 128 }) p, hpV (5) (zF) (none) (0)]) ?_ rfl ⟨rfl, Z3⟩
      exact results_both Tryz.results44 _ _ gr gh _ _ rfl rfl Z1 Z2 rfl rfl
    · rw [if_neg hs2]
      by_cases hs1 : stV ca cb = 1
      · rw [decide_eq_true hs1]
        generalize hst : stV ca cb = st at *
        replace hst := Lib.hid hst
        have e2 : (st == 2) = false := beq_eq_false_iff_ne.2 hs2
        have e1 : (st == 1) = true := beq_iff_eq.2 hs1
        clear hs1 hs2
        have X := N3.made (ndC n p) w
        go_enter Tryz.func44, Tryz.ntmps44
        go_upto_region 1 with fail
        generalize World.alloc _ _ = W at X ⊢
        generalize w.heap.size + 1 + 1 = gh at X ⊢
        generalize w.heap.size + 1 = gr at X ⊢
        generalize w.heap.size = g at X ⊢
        have c1 : W.cell? ⟨g, 1, none⟩ = some (.bool n.tx) := X.cell 1
        have c13 : W.cell? ⟨g, 13, none⟩ = some (.int .i64 n.cs) := X.cell 13
        have c14 : W.cell? ⟨g, 14, none⟩ = some (.int .i64 n.cg) := X.cell 14
        rw [ht.out] at c1
        go_wp2_with fail
        refine (implSentBad _ _ _).mono ?_
        rintro e w2 ⟨rfl, b⟩
        rw [ha.out, hb.out]
        replace X := X.below b
        clear b c1 c13 c14
        have c13 : w2.cell? ⟨g, 13, none⟩ = some (.int .i64 n.cs) := X.cell 13
        have c14 : w2.cell? ⟨g, 14, none⟩ = some (.int .i64 n.cg) := X.cell 14
        have f13 := X.free 13
        have f14 := X.free 14
        go_upto_region 4 with fail
        clear c13 c14 f13 f14
        replace X : N3 g gr gh (ndC ({ n with cs := ca, cg := cb }) p) w _ := ((X.set 13 (.int .i64 ca)).set 14 (.int .i64 cb))
        generalize World.setCell _ _ _ = W3 at X ⊢
        go_wp2_with (refine Nx.take ⟨X.blk, X.bel⟩ rfl rfl rfl ?_)
        refine (implUnseen { n with cs := ca, cg := cb } p _).mono ?_
        rintro e w4 ⟨rfl, b⟩
        replace X := X.below b
        clear b
        go_upto_region 5 with (refine wpList_put X.blk rfl rfl rfl rfl rfl ?_)
        replace X : N3 g gr gh (ndC (unN { n with cs := ca, cg := cb }) p) w _ := X.put _
        generalize World.setRow _ _ _ = W5 at X ⊢
        have c3 : W5.cell? ⟨g, 3, none⟩ = some (.bool n.bad) := X.cell 3
        have f3 := X.free 3
        go_upto_region 6 with fail
        clear c3 f3
        replace X : N3 g gr gh (ndC ({ n with cs := ca, cg := cb, got := ⟨#[]⟩, run := 0, last := 0, pos := 0, bad := false }) p) w _ := (X.set 3 (.bool false))
        generalize World.setCell _ _ _ = W6 at X ⊢
        have c13 : W6.cell? ⟨g, 13, none⟩ = some (.int .i64 ca) := X.cell 13
        have c14 : W6.cell? ⟨g, 14, none⟩ = some (.int .i64 cb) := X.cell 14
        go_wp2_with fail
        refine (implStateOf _ _ _).mono ?_
        rintro e w7 ⟨rfl, b⟩
        rw [hst.out]
        replace X := X.below b
        clear b c13 c14
        have c0 : w7.cell? ⟨g, 0, none⟩ = some (.int .i64 n.ph) := X.cell 0
        have c2 : w7.cell? ⟨g, 2, none⟩ = some (.bool n.mild) := X.cell 2
        have c12 : w7.cell? ⟨g, 12, none⟩ = some (.int .i64 n.left) := X.cell 12
        have f0 := X.free 0
        have f2 := X.free 2
        have f12 := X.free 12
        go_upto_region 11 with fail
        clear c0 c2 c12 f0 f2 f12
        replace X : N3 g gr gh (ndC ({ n with cs := ca, cg := cb, got := ⟨#[]⟩, run := 0, last := 0, pos := 0, bad := false, ph := 3, mild := true, left := 6 }) p) w _ := (((X.set 0 (.int .i64 3)).set 12 (.int .i64 6)).set 2 (.bool true))
        generalize World.setCell _ _ _ = W8 at X ⊢
        go_wp2_with (first | (refine Nx.take ⟨X.blk, X.bel⟩ rfl rfl rfl ?_) | (refine wpList_put X.res rfl rfl rfl rfl rfl ?_) | (refine wpList_tell (k := 4) (f := zF) (ad := none) (cd := 0) (X.fin (ndC ({ n with cs := ca, cg := cb, got := ⟨#[]⟩, run := 0, last := 0, pos := 0, bad := false, ph := 3, mild := true, left := 6 }) p) #[]).1 rfl rfl rfl rfl rfl ?_))
        obtain ⟨-, Z1, Z2, Z3⟩ := X.fin (ndC ({ n with cs := ca, cg := cb, got := ⟨#[]⟩, run := 0, last := 0, pos := 0, bad := false, ph := 3, mild := true, left := 6 }) p) (hpC (4) (zF) (none) (0))
        refine bodyPost_ret (v := .tuple #[ndV ({ n with cs := ca, cg := cb, got := ⟨#[]⟩, run := 0, last := 0, pos := 0, bad := false, ph := 3, mild := true, left := 6 }) p, hpV (4) (zF) (none) (0)]) ?_ rfl ⟨rfl, Z3⟩
        exact results_both Tryz.results44 _ _ gr gh _ _ rfl rfl Z1 Z2 rfl rfl
      · rw [decide_eq_false hs1]
        generalize hst : stV ca cb = st at *
        replace hst := Lib.hid hst
        have e2 : (st == 2) = false := beq_eq_false_iff_ne.2 hs2
        have e1 : (st == 1) = false := beq_eq_false_iff_ne.2 hs1
        clear hs1 hs2
        have X := N3.made (ndC n p) w
        go_enter Tryz.func44, Tryz.ntmps44
        go_upto_region 1 with fail
        generalize World.alloc _ _ = W at X ⊢
        generalize w.heap.size + 1 + 1 = gh at X ⊢
        generalize w.heap.size + 1 = gr at X ⊢
        generalize w.heap.size = g at X ⊢
        have c1 : W.cell? ⟨g, 1, none⟩ = some (.bool n.tx) := X.cell 1
        have c13 : W.cell? ⟨g, 13, none⟩ = some (.int .i64 n.cs) := X.cell 13
        have c14 : W.cell? ⟨g, 14, none⟩ = some (.int .i64 n.cg) := X.cell 14
        rw [ht.out] at c1
        go_wp2_with fail
        refine (implSentBad _ _ _).mono ?_
        rintro e w2 ⟨rfl, b⟩
        rw [ha.out, hb.out]
        replace X := X.below b
        clear b c1 c13 c14
        have c13 : w2.cell? ⟨g, 13, none⟩ = some (.int .i64 n.cs) := X.cell 13
        have c14 : w2.cell? ⟨g, 14, none⟩ = some (.int .i64 n.cg) := X.cell 14
        have f13 := X.free 13
        have f14 := X.free 14
        go_upto_region 4 with fail
        clear c13 c14 f13 f14
        replace X : N3 g gr gh (ndC ({ n with cs := ca, cg := cb }) p) w _ := ((X.set 13 (.int .i64 ca)).set 14 (.int .i64 cb))
        generalize World.setCell _ _ _ = W3 at X ⊢
        go_wp2_with (refine Nx.take ⟨X.blk, X.bel⟩ rfl rfl rfl ?_)
        refine (implUnseen { n with cs := ca, cg := cb } p _).mono ?_
        rintro e w4 ⟨rfl, b⟩
        replace X := X.below b
        clear b
        go_upto_region 5 with (refine wpList_put X.blk rfl rfl rfl rfl rfl ?_)
        replace X : N3 g gr gh (ndC (unN { n with cs := ca, cg := cb }) p) w _ := X.put _
        generalize World.setRow _ _ _ = W5 at X ⊢
        have c3 : W5.cell? ⟨g, 3, none⟩ = some (.bool n.bad) := X.cell 3
        have f3 := X.free 3
        go_upto_region 6 with fail
        clear c3 f3
        replace X : N3 g gr gh (ndC ({ n with cs := ca, cg := cb, got := ⟨#[]⟩, run := 0, last := 0, pos := 0, bad := false }) p) w _ := (X.set 3 (.bool false))
        generalize World.setCell _ _ _ = W6 at X ⊢
        have c13 : W6.cell? ⟨g, 13, none⟩ = some (.int .i64 ca) := X.cell 13
        have c14 : W6.cell? ⟨g, 14, none⟩ = some (.int .i64 cb) := X.cell 14
        go_wp2_with fail
        refine (implStateOf _ _ _).mono ?_
        rintro e w7 ⟨rfl, b⟩
        rw [hst.out]
        replace X := X.below b
        clear b c13 c14
        have c0 : w7.cell? ⟨g, 0, none⟩ = some (.int .i64 n.ph) := X.cell 0
        have c2 : w7.cell? ⟨g, 2, none⟩ = some (.bool n.mild) := X.cell 2
        have c12 : w7.cell? ⟨g, 12, none⟩ = some (.int .i64 n.left) := X.cell 12
        have f0 := X.free 0
        have f2 := X.free 2
        have f12 := X.free 12
        go_upto_region 11 with fail
        clear c0 c2 c12 f0 f2 f12
        replace X : N3 g gr gh (ndC ({ n with cs := ca, cg := cb, got := ⟨#[]⟩, run := 0, last := 0, pos := 0, bad := false, ph := 3, mild := false, left := 6 }) p) w _ := (((X.set 0 (.int .i64 3)).set 12 (.int .i64 6)).set 2 (.bool false))
        generalize World.setCell _ _ _ = W8 at X ⊢
        go_wp2_with (first | (refine Nx.take ⟨X.blk, X.bel⟩ rfl rfl rfl ?_) | (refine wpList_put X.res rfl rfl rfl rfl rfl ?_) | (refine wpList_tell (k := 4) (f := zF) (ad := none) (cd := 0) (X.fin (ndC ({ n with cs := ca, cg := cb, got := ⟨#[]⟩, run := 0, last := 0, pos := 0, bad := false, ph := 3, mild := false, left := 6 }) p) #[]).1 rfl rfl rfl rfl rfl ?_))
        obtain ⟨-, Z1, Z2, Z3⟩ := X.fin (ndC ({ n with cs := ca, cg := cb, got := ⟨#[]⟩, run := 0, last := 0, pos := 0, bad := false, ph := 3, mild := false, left := 6 }) p) (hpC (4) (zF) (none) (0))
        refine bodyPost_ret (v := .tuple #[ndV ({ n with cs := ca, cg := cb, got := ⟨#[]⟩, run := 0, last := 0, pos := 0, bad := false, ph := 3, mild := false, left := 6 }) p, hpV (4) (zF) (none) (0)]) ?_ rfl ⟨rfl, Z3⟩
        exact results_both Tryz.results44 _ _ gr gh _ _ rfl rfl Z1 Z2 rfl rfl
  · have h1 : badA n = gwA n.cs n.cg := by unfold badA; rw [ht]; first | exact if_pos rfl | exact if_neg (by decide)
    have h2 : badB n = gbB n.cs n.cg := by unfold badB; rw [ht]; first | exact if_pos rfl | exact if_neg (by decide)
    unfold brkN
    rw [h1, h2]
    clear h1 h2
    generalize ha : gwA n.cs n.cg = ca at *
    generalize hb : gbB n.cs n.cg = cb at *
    replace ha := Lib.hid ha
    replace hb := Lib.hid hb
    replace ht := Lib.hid ht
    by_cases hs2 : stV ca cb = 2
    · rw [if_pos hs2]
      generalize hst : stV ca cb = st at *
      replace hst := Lib.hid hst
      have e2 : (st == 2) = true := beq_iff_eq.2 hs2
      clear hs2
      have X := N3.made (ndC n p) w
      go_enter Tryz.func44, Tryz.ntmps44
      go_upto_region 1 with fail
      generalize World.alloc _ _ = W at X ⊢
      generalize w.heap.size + 1 + 1 = gh at X ⊢
      generalize w.heap.size + 1 = gr at X ⊢
      generalize w.heap.size = g at X ⊢
      have c1 : W.cell? ⟨g, 1, none⟩ = some (.bool n.tx) := X.cell 1
      have c13 : W.cell? ⟨g, 13, none⟩ = some (.int .i64 n.cs) := X.cell 13
      have c14 : W.cell? ⟨g, 14, none⟩ = some (.int .i64 n.cg) := X.cell 14
      rw [ht.out] at c1
      go_wp2_with fail
      refine (implGotBad _ _ _).mono ?_
      rintro e w2 ⟨rfl, b⟩
      rw [ha.out, hb.out]
      replace X := X.below b
      clear b c1 c13 c14
      have c13 : w2.cell? ⟨g, 13, none⟩ = some (.int .i64 n.cs) := X.cell 13
      have c14 : w2.cell? ⟨g, 14, none⟩ = some (.int .i64 n.cg) := X.cell 14
      have f13 := X.free 13
      have f14 := X.free 14
      go_upto_region 4 with fail
      clear c13 c14 f13 f14
      replace X : N3 g gr gh (ndC ({ n with cs := ca, cg := cb }) p) w _ := ((X.set 13 (.int .i64 ca)).set 14 (.int .i64 cb))
      generalize World.setCell _ _ _ = W3 at X ⊢
      go_wp2_with (refine Nx.take ⟨X.blk, X.bel⟩ rfl rfl rfl ?_)
      refine (implUnseen { n with cs := ca, cg := cb } p _).mono ?_
      rintro e w4 ⟨rfl, b⟩
      replace X := X.below b
      clear b
      go_upto_region 5 with (refine wpList_put X.blk rfl rfl rfl rfl rfl ?_)
      replace X : N3 g gr gh (ndC (unN { n with cs := ca, cg := cb }) p) w _ := X.put _
      generalize World.setRow _ _ _ = W5 at X ⊢
      have c3 : W5.cell? ⟨g, 3, none⟩ = some (.bool n.bad) := X.cell 3
      have f3 := X.free 3
      go_upto_region 6 with fail
      clear c3 f3
      replace X : N3 g gr gh (ndC ({ n with cs := ca, cg := cb, got := ⟨#[]⟩, run := 0, last := 0, pos := 0, bad := false }) p) w _ := (X.set 3 (.bool false))
      generalize World.setCell _ _ _ = W6 at X ⊢
      have c13 : W6.cell? ⟨g, 13, none⟩ = some (.int .i64 ca) := X.cell 13
      have c14 : W6.cell? ⟨g, 14, none⟩ = some (.int .i64 cb) := X.cell 14
      go_wp2_with fail
      refine (implStateOf _ _ _).mono ?_
      rintro e w7 ⟨rfl, b⟩
      rw [hst.out]
      replace X := X.below b
      clear b c13 c14
      have c0 : w7.cell? ⟨g, 0, none⟩ = some (.int .i64 n.ph) := X.cell 0
      have c12 : w7.cell? ⟨g, 12, none⟩ = some (.int .i64 n.left) := X.cell 12
      have f0 := X.free 0
      have f12 := X.free 12
      go_upto_region 9 with fail
      clear c0 c12 f0 f12
      replace X : N3 g gr gh (ndC ({ n with cs := ca, cg := cb, got := ⟨#[]⟩, run := 0, last := 0, pos := 0, bad := false, ph := 7, left := 128 }) p) w _ := ((X.set 0 (.int .i64 7)).set 12 (.int .i64 128))
      generalize World.setCell _ _ _ = W8 at X ⊢
      go_wp2_with (first | (refine Nx.take ⟨X.blk, X.bel⟩ rfl rfl rfl ?_) | (refine wpList_put X.res rfl rfl rfl rfl rfl ?_) | (refine wpList_tell (k := 5) (f := zF) (ad := none) (cd := 0) (X.fin (ndC ({ n with cs := ca, cg := cb, got := ⟨#[]⟩, run := 0, last := 0, pos := 0, bad := false, ph := 7, left := 128 }) p) #[]).1 rfl rfl rfl rfl rfl ?_))
      obtain ⟨-, Z1, Z2, Z3⟩ := X.fin (ndC ({ n with cs := ca, cg := cb, got := ⟨#[]⟩, run := 0, last := 0, pos := 0, bad := false, ph := 7, left := 128 }) p) (hpC (5) (zF) (none) (0))
      refine bodyPost_ret (v := .tuple #[ndV ({ n with cs := ca, cg := cb, got := ⟨#[]⟩, run := 0, last := 0, pos := 0, bad := false, ph := 7, left := 128 }) p, hpV (5) (zF) (none) (0)]) ?_ rfl ⟨rfl, Z3⟩
      exact results_both Tryz.results44 _ _ gr gh _ _ rfl rfl Z1 Z2 rfl rfl
    · rw [if_neg hs2]
      by_cases hs1 : stV ca cb = 1
      · rw [decide_eq_true hs1]
        generalize hst : stV ca cb = st at *
        replace hst := Lib.hid hst
        have e2 : (st == 2) = false := beq_eq_false_iff_ne.2 hs2
        have e1 : (st == 1) = true := beq_iff_eq.2 hs1
        clear hs1 hs2
        have X := N3.made (ndC n p) w
        go_enter Tryz.func44, Tryz.ntmps44
        go_upto_region 1 with fail
        generalize World.alloc _ _ = W at X ⊢
        generalize w.heap.size + 1 + 1 = gh at X ⊢
        generalize w.heap.size + 1 = gr at X ⊢
        generalize w.heap.size = g at X ⊢
        have c1 : W.cell? ⟨g, 1, none⟩ = some (.bool n.tx) := X.cell 1
        have c13 : W.cell? ⟨g, 13, none⟩ = some (.int .i64 n.cs) := X.cell 13
        have c14 : W.cell? ⟨g, 14, none⟩ = some (.int .i64 n.cg) := X.cell 14
        rw [ht.out] at c1
        go_wp2_with fail
        refine (implGotBad _ _ _).mono ?_
        rintro e w2 ⟨rfl, b⟩
        rw [ha.out, hb.out]
        replace X := X.below b
        clear b c1 c13 c14
        have c13 : w2.cell? ⟨g, 13, none⟩ = some (.int .i64 n.cs) := X.cell 13
        have c14 : w2.cell? ⟨g, 14, none⟩ = some (.int .i64 n.cg) := X.cell 14
        have f13 := X.free 13
        have f14 := X.free 14
        go_upto_region 4 with fail
        clear c13 c14 f13 f14
        replace X : N3 g gr gh (ndC ({ n with cs := ca, cg := cb }) p) w _ := ((X.set 13 (.int .i64 ca)).set 14 (.int .i64 cb))
        generalize World.setCell _ _ _ = W3 at X ⊢
        go_wp2_with (refine Nx.take ⟨X.blk, X.bel⟩ rfl rfl rfl ?_)
        refine (implUnseen { n with cs := ca, cg := cb } p _).mono ?_
        rintro e w4 ⟨rfl, b⟩
        replace X := X.below b
        clear b
        go_upto_region 5 with (refine wpList_put X.blk rfl rfl rfl rfl rfl ?_)
        replace X : N3 g gr gh (ndC (unN { n with cs := ca, cg := cb }) p) w _ := X.put _
        generalize World.setRow _ _ _ = W5 at X ⊢
        have c3 : W5.cell? ⟨g, 3, none⟩ = some (.bool n.bad) := X.cell 3
        have f3 := X.free 3
        go_upto_region 6 with fail
        clear c3 f3
        replace X : N3 g gr gh (ndC ({ n with cs := ca, cg := cb, got := ⟨#[]⟩, run := 0, last := 0, pos := 0, bad := false }) p) w _ := (X.set 3 (.bool false))
        generalize World.setCell _ _ _ = W6 at X ⊢
        have c13 : W6.cell? ⟨g, 13, none⟩ = some (.int .i64 ca) := X.cell 13
        have c14 : W6.cell? ⟨g, 14, none⟩ = some (.int .i64 cb) := X.cell 14
        go_wp2_with fail
        refine (implStateOf _ _ _).mono ?_
        rintro e w7 ⟨rfl, b⟩
        rw [hst.out]
        replace X := X.below b
        clear b c13 c14
        have c0 : w7.cell? ⟨g, 0, none⟩ = some (.int .i64 n.ph) := X.cell 0
        have c2 : w7.cell? ⟨g, 2, none⟩ = some (.bool n.mild) := X.cell 2
        have c12 : w7.cell? ⟨g, 12, none⟩ = some (.int .i64 n.left) := X.cell 12
        have f0 := X.free 0
        have f2 := X.free 2
        have f12 := X.free 12
        go_upto_region 11 with fail
        clear c0 c2 c12 f0 f2 f12
        replace X : N3 g gr gh (ndC ({ n with cs := ca, cg := cb, got := ⟨#[]⟩, run := 0, last := 0, pos := 0, bad := false, ph := 3, mild := true, left := 6 }) p) w _ := (((X.set 0 (.int .i64 3)).set 12 (.int .i64 6)).set 2 (.bool true))
        generalize World.setCell _ _ _ = W8 at X ⊢
        go_wp2_with (first | (refine Nx.take ⟨X.blk, X.bel⟩ rfl rfl rfl ?_) | (refine wpList_put X.res rfl rfl rfl rfl rfl ?_) | (refine wpList_tell (k := 4) (f := zF) (ad := none) (cd := 0) (X.fin (ndC ({ n with cs := ca, cg := cb, got := ⟨#[]⟩, run := 0, last := 0, pos := 0, bad := false, ph := 3, mild := true, left := 6 }) p) #[]).1 rfl rfl rfl rfl rfl ?_))
        obtain ⟨-, Z1, Z2, Z3⟩ := X.fin (ndC ({ n with cs := ca, cg := cb, got := ⟨#[]⟩, run := 0, last := 0, pos := 0, bad := false, ph := 3, mild := true, left := 6 }) p) (hpC (4) (zF) (none) (0))
        refine bodyPost_ret (v := .tuple #[ndV ({ n with cs := ca, cg := cb, got := ⟨#[]⟩, run := 0, last := 0, pos := 0, bad := false, ph := 3, mild := true, left := 6 }) p, hpV (4) (zF) (none) (0)]) ?_ rfl ⟨rfl, Z3⟩
        exact results_both Tryz.results44 _ _ gr gh _ _ rfl rfl Z1 Z2 rfl rfl
      · rw [decide_eq_false hs1]
        generalize hst : stV ca cb = st at *
        replace hst := Lib.hid hst
        have e2 : (st == 2) = false := beq_eq_false_iff_ne.2 hs2
        have e1 : (st == 1) = false := beq_eq_false_iff_ne.2 hs1
        clear hs1 hs2
        have X := N3.made (ndC n p) w
        go_enter Tryz.func44, Tryz.ntmps44
        go_upto_region 1 with fail
        generalize World.alloc _ _ = W at X ⊢
        generalize w.heap.size + 1 + 1 = gh at X ⊢
        generalize w.heap.size + 1 = gr at X ⊢
        generalize w.heap.size = g at X ⊢
        have c1 : W.cell? ⟨g, 1, none⟩ = some (.bool n.tx) := X.cell 1
        have c13 : W.cell? ⟨g, 13, none⟩ = some (.int .i64 n.cs) := X.cell 13
        have c14 : W.cell? ⟨g, 14, none⟩ = some (.int .i64 n.cg) := X.cell 14
        rw [ht.out] at c1
        go_wp2_with fail
        refine (implGotBad _ _ _).mono ?_
        rintro e w2 ⟨rfl, b⟩
        rw [ha.out, hb.out]
        replace X := X.below b
        clear b c1 c13 c14
        have c13 : w2.cell? ⟨g, 13, none⟩ = some (.int .i64 n.cs) := X.cell 13
        have c14 : w2.cell? ⟨g, 14, none⟩ = some (.int .i64 n.cg) := X.cell 14
        have f13 := X.free 13
        have f14 := X.free 14
        go_upto_region 4 with fail
        clear c13 c14 f13 f14
        replace X : N3 g gr gh (ndC ({ n with cs := ca, cg := cb }) p) w _ := ((X.set 13 (.int .i64 ca)).set 14 (.int .i64 cb))
        generalize World.setCell _ _ _ = W3 at X ⊢
        go_wp2_with (refine Nx.take ⟨X.blk, X.bel⟩ rfl rfl rfl ?_)
        refine (implUnseen { n with cs := ca, cg := cb } p _).mono ?_
        rintro e w4 ⟨rfl, b⟩
        replace X := X.below b
        clear b
        go_upto_region 5 with (refine wpList_put X.blk rfl rfl rfl rfl rfl ?_)
        replace X : N3 g gr gh (ndC (unN { n with cs := ca, cg := cb }) p) w _ := X.put _
        generalize World.setRow _ _ _ = W5 at X ⊢
        have c3 : W5.cell? ⟨g, 3, none⟩ = some (.bool n.bad) := X.cell 3
        have f3 := X.free 3
        go_upto_region 6 with fail
        clear c3 f3
        replace X : N3 g gr gh (ndC ({ n with cs := ca, cg := cb, got := ⟨#[]⟩, run := 0, last := 0, pos := 0, bad := false }) p) w _ := (X.set 3 (.bool false))
        generalize World.setCell _ _ _ = W6 at X ⊢
        have c13 : W6.cell? ⟨g, 13, none⟩ = some (.int .i64 ca) := X.cell 13
        have c14 : W6.cell? ⟨g, 14, none⟩ = some (.int .i64 cb) := X.cell 14
        go_wp2_with fail
        refine (implStateOf _ _ _).mono ?_
        rintro e w7 ⟨rfl, b⟩
        rw [hst.out]
        replace X := X.below b
        clear b c13 c14
        have c0 : w7.cell? ⟨g, 0, none⟩ = some (.int .i64 n.ph) := X.cell 0
        have c2 : w7.cell? ⟨g, 2, none⟩ = some (.bool n.mild) := X.cell 2
        have c12 : w7.cell? ⟨g, 12, none⟩ = some (.int .i64 n.left) := X.cell 12
        have f0 := X.free 0
        have f2 := X.free 2
        have f12 := X.free 12
        go_upto_region 11 with fail
        clear c0 c2 c12 f0 f2 f12
        replace X : N3 g gr gh (ndC ({ n with cs := ca, cg := cb, got := ⟨#[]⟩, run := 0, last := 0, pos := 0, bad := false, ph := 3, mild := false, left := 6 }) p) w _ := (((X.set 0 (.int .i64 3)).set 12 (.int .i64 6)).set 2 (.bool false))
        generalize World.setCell _ _ _ = W8 at X ⊢
        go_wp2_with (first | (refine Nx.take ⟨X.blk, X.bel⟩ rfl rfl rfl ?_) | (refine wpList_put X.res rfl rfl rfl rfl rfl ?_) | (refine wpList_tell (k := 4) (f := zF) (ad := none) (cd := 0) (X.fin (ndC ({ n with cs := ca, cg := cb, got := ⟨#[]⟩, run := 0, last := 0, pos := 0, bad := false, ph := 3, mild := false, left := 6 }) p) #[]).1 rfl rfl rfl rfl rfl ?_))
        obtain ⟨-, Z1, Z2, Z3⟩ := X.fin (ndC ({ n with cs := ca, cg := cb, got := ⟨#[]⟩, run := 0, last := 0, pos := 0, bad := false, ph := 3, mild := false, left := 6 }) p) (hpC (4) (zF) (none) (0))
        refine bodyPost_ret (v := .tuple #[ndV ({ n with cs := ca, cg := cb, got := ⟨#[]⟩, run := 0, last := 0, pos := 0, bad := false, ph := 3, mild := false, left := 6 }) p, hpV (4) (zF) (none) (0)]) ?_ rfl ⟨rfl, Z3⟩
        exact results_both Tryz.results44 _ _ gr gh _ _ rfl rfl Z1 Z2 rfl rfl

abbrev stepsA : Array Value := #[.func (.func 105) #[] #[], .func (.func 106) #[] #[], .func (.func 107) #[] #[], .func (.func 108) #[] #[], .func (.func 109) #[] #[], .func (.func 110) #[] #[], .func (.func 111) #[] #[], .func (.func 112) #[] #[]]
abbrev stepsV : Value := .agg #[.func (.func 105) #[] #[], .func (.func 106) #[] #[], .func (.func 107) #[] #[], .func (.func 108) #[] #[], .func (.func 109) #[] #[], .func (.func 110) #[] #[], .func (.func 111) #[] #[], .func (.func 112) #[] #[]]
theorem implSteps (w : World) :
    Calls Tryz.prog 47 #[] w fun e w' => e = .returned stepsV ∧ Below w.heap.size w w' := by
  have HB : (w.alloc (.cells #[.nilFunc, .nilFunc, .nilFunc, .nilFunc, .nilFunc, .nilFunc, .nilFunc, .nilFunc] 79)).heap[w.heap.size]? = some (.cells #[.nilFunc, .nilFunc, .nilFunc, .nilFunc, .nilFunc, .nilFunc, .nilFunc, .nilFunc] 79 (0, 0)) := heap_alloc_new w _
  have hb : Below w.heap.size w (w.alloc (.cells #[.nilFunc, .nilFunc, .nilFunc, .nilFunc, .nilFunc, .nilFunc, .nilFunc, .nilFunc] 79)) := below_more (Below.refl _ _) _
  go_enter Tryz.func47, Tryz.ntmps47
  go_upto_region 1 with fail
  generalize hg : w.heap.size = g at *
  generalize w.alloc _ = W at HB hb ⊢
  go_wp2_with (refine wpList_store_row rfl 79 _ _ rfl g stepsA rfl rfl 79 _ HB (by kernel_rfl) (by rfl) (by kernel_rfl) ?_)
  refine bodyPost_ret (v := stepsV) ?_ rfl ⟨rfl, by rw [hg]; exact below_setRow hb (Nat.le_refl _) _⟩
  exact results_cell_row Tryz.results47 _ _ g 79 _ (0, 0) _ rfl (setRow_heap _ _ _ _ _ _ HB) Tryz.underlying79 rfl (by kernel_rfl)
theorem stepAt {f : Value} {k : Int} {w : World} (h : (Instr.index 79 stepsV (.int .i64 k)).run Tryz.prog w = .ok f w) {o : Oper} {a : Act} {x y : Operand} (ho : o.op = .index 79 x y) (hx : a.eval x = stepsV) (hy : a.eval y = .int .i64 k) :
    (execOp a.eval o).run Tryz.prog w = .ok (.value f) w := by
  unfold execOp
  simp only [ho, hx, hy, Sem.run_bind, h, Result.andThen_ok]
  rfl
end Go.Proofs.YtpenjbpcebfecaaGreatDoor

/- What the program's Sampled defers: a breach is caught, the answers are copied. -/

set_option linter.unusedVariables false
set_option linter.unusedSimpArgs false
set_option maxRecDepth 20000
namespace Go.Proofs.YtpenjbpcebfecaaGreatDoor
open Go.RowKit

/-- The results' rows. -/
structure K3 (gr gh : Nat) (C E : Array Value) (w0 w : World) : Prop where
  res : w.heap[gr]? = some (.cells C 32 (0, 0))
  hap : w.heap[gh]? = some (.cells E 36 (0, 0))
  bel : Below w0.heap.size w0 w
  hr : w0.heap.size ≤ gr
  hh : w0.heap.size ≤ gh
  rh : gh ≠ gr
section
variable {gr gh : Nat} {C E : Array Value} {w0 w w' : World}
theorem K3.lt (h : K3 gr gh C E w0 w) : gr < w.heap.size ∧ gh < w.heap.size := ⟨(Array.getElem?_eq_some_iff.1 h.res).1, (Array.getElem?_eq_some_iff.1 h.hap).1⟩
theorem K3.below (h : K3 gr gh C E w0 w) (b : Below w.heap.size w w') : K3 gr gh C E w0 w' := ⟨(b.block gr h.lt.1).trans h.res, (b.block gh h.lt.2).trans h.hap, Below.then2 h.bel b, h.hr, h.hh, h.rh⟩
theorem K3.drew' (h : K3 gr gh C E w0 w) : K3 gr gh C E w0 { w with drawn := w.drawn + 1 } := h.below (Below.refl _ _).drew
theorem K3.setR (h : K3 gr gh C E w0 w) (D : Array Value) : K3 gr gh D E w0 (w.setRow gr D) := ⟨setRow_heap _ _ _ _ _ _ h.res, (setRow_other w gr gh D h.rh).trans h.hap, below_setRow h.bel h.hr D, h.hr, h.hh, h.rh⟩
theorem K3.setH (h : K3 gr gh C E w0 w) (D : Array Value) : K3 gr gh C D w0 (w.setRow gh D) := ⟨(setRow_other w gh gr D (Ne.symm h.rh)).trans h.res, setRow_heap _ _ _ _ _ _ h.hap, below_setRow h.bel h.hh D, h.hr, h.hh, h.rh⟩
theorem K3.setK (h : K3 gr gh C E w0 w) (k : Nat) (v : Value) : K3 gr gh C (E.setIfInBounds k v) w0 (w.setCell ⟨gh, k, none⟩ v) :=
  ⟨(heap_setCell_other w ⟨gh, k, none⟩ gr v (Ne.symm h.rh)).trans h.res, heap_setCell_same w gh k _ _ v h.hap, h.bel.setCell h.hh _, h.hr, h.hh, h.rh⟩
theorem K3.cell (h : K3 gr gh C E w0 w) (k : Nat) : w.cell? ⟨gh, k, none⟩ = E[k]? := cell_of_row w gh k _ _ _ h.hap
theorem K3.free (h : K3 gr gh C E w0 w) (k : Nat) : w.frozen? ⟨gh, k, none⟩ = false := frozen_of_row w gh k _ _ h.hap
theorem K3.took {n : Nd} {p : NdP} (h : K3 gr gh (ndC n p) E w0 w) {o : Oper} {a : Act} {x : Operand} (ho : o.op = .load 32 x) (hx : a.eval x = .pointer (some ⟨gr, 0, none⟩)) : (execOp a.eval o).run Tryz.prog w = .ok (.value (ndV n p)) w := Nx.took (g := gr) (w0 := w0) ⟨h.res, h.bel⟩ ho hx
theorem K3.grown4 (w : World) (gh : Nat) (x0 x1 x2 x3 : Value) : w.grownBy ((((w.setCell ⟨gh, 1, none⟩ x0).setCell ⟨gh, 2, none⟩ x1).setCell ⟨gh, 3, none⟩ x2).setCell ⟨gh, 4, none⟩ x3) (some gh) :=
  grown_trans (grown_trans (grown_trans (grown_set w gh 1 x0) (grown_set _ gh 2 x1)) (grown_set _ gh 3 x2)) (grown_set _ gh 4 x3)
end
section
variable {P : Program} {K : Act → World → Prop} {Q : Exit → Act → World → Prop} {o : Oper} {a : Act} {w : World}
theorem op_value (d : Tmp) (v : Value) (hd : o.dst = some d) (hx : (execOp a.eval o).run P w = .ok (.value v) w) (k : K (a.put (some d) v) w) : o.wp P a w K Q := by
  unfold Oper.wp; rw [hx]; rw [← hd] at k; exact k
theorem op_call (d : Tmp) (f : FuncId) (args : Array Value) (hd : o.dst = some d) (hx : (execOp a.eval o).run P w = .ok (.enter f args) w)
    (h : Calls P f args w fun e w' => ∃ v, e = .returned v ∧ K (a.put (some d) v) w') : o.wp P a w K Q := by
  unfold Oper.wp
  rw [hx, Oper.upon_enter]
  exact h.mono fun e w' h' => by
    obtain ⟨v, he, k⟩ := h'
    subst he
    rw [← hd] at k
    exact k
theorem op_skip (w' : World) (hd : o.dst = none) (hx : (execOp a.eval o).run P w = .ok .skip w') (k : K a w') : o.wp P a w K Q := by
  unfold Oper.wp
  rw [hx]
  have e : a.put o.dst undef = a := by rw [hd]; rfl
  show K (a.put o.dst undef) w'
  rw [e]; exact k
theorem held_two {md : Region.Mode} {ops : Array Oper} {S : World → Prop} (i j : Nat) {oi oj : Oper} {fuel : Nat} {listed : Array Bool} (hi : ops[i]? = some oi) (hj : ops[j]? = some oj) (hr : Region.ready md ops listed = [i, j])
    (hwi : Region.wanted oi (yielded ops a.tmps) = true) (hwj : Region.wanted oj (yielded ops a.tmps) = true)
    (h1 : oi.wp P a w (fun a' w' => S w' ∧ wpAnyH P md ops Q S fuel (listed.setIfInBounds i true) a' w') Q)
    (h2 : oj.wp P a w (fun a' w' => S w' ∧ wpAnyH P md ops Q S fuel (listed.setIfInBounds j true) a' w') Q) : wpAnyH P md ops Q S (fuel + 1) listed a w := by
  refine wpAnyH_all hr (by simp) fun q hq => ?_
  rcases (show q = i ∨ q = j by simpa using hq) with rfl | rfl
  · unfold wpOp; simp only [hi]; rw [if_pos hwi]; exact .inl h1
  · unfold wpOp; simp only [hj]; rw [if_pos hwj]; exact .inl h2
end
/-- What it leaves: the results' rows, all copied. -/
def Done (gr gh : Nat) (n : Nd) (k : Int) (f : Frm) (w0 w w' : World) : Prop :=
  ∃ (p : NdP) (ad : Option Addr) (b1 b2 b3 b4 : Nat) (MB MF : List (Frm × Value)), K3 gr gh (ndC n p) (hpC k f ad f.D.length) w0 w' ∧ NdO w.heap.size b1 b2 b3 n p MB MF w' ∧ (∀ q, (Value.slice p.al n.flt.length p.cl).ownBlock = some q → q < b4) ∧ b3 ≤ b4
    ∧ OwnI b4 f.D (.slice ad f.D.length f.D.length) w'
/-- What is small enough to be copied. -/
structure Small (n : Nd) : Prop where
  dat : n.fr.D.length ≤ 1048576
  box : n.box.length ≤ 1000000
  box8 : ∀ j, j < n.box.length → (nthF n.box j).D.length ≤ 1048576
  fifo : n.fifo.length ≤ 1000000
  fifo8 : ∀ j, j < n.fifo.length → (nthF n.fifo j).D.length ≤ 1048576
  flt : n.flt.length ≤ 1048576

theorem NdO.keptG {B b1 b2 b3 g : Nat} {n : Nd} {p : NdP} {MB MF : List (Frm × Value)} {w w' : World} (h : NdO B b1 b2 b3 n p MB MF w) (k : w.grownBy w' (some g)) (hg : g < B) : NdO B b1 b2 b3 n p MB MF w' :=
  ⟨h.dat.kept2 k hg, h.box.kept2 k (by have := h.le; omega), h.fifo.kept2 k (by have := h.le; omega), h.flt.kept2 k (by have := h.le; omega), h.mb, h.mf, h.fb, h.ff, h.ub, h.ux, h.uf, h.le, h.got⟩
theorem NdO.belowO {B b1 b2 b3 : Nat} {n : Nd} {p : NdP} {MB MF : List (Frm × Value)} {w w' : World} (h : NdO B b1 b2 b3 n p MB MF w) (b : Below w.heap.size w w') : NdO B b1 b2 b3 n p MB MF w' :=
  ⟨h.dat.below' b, h.box.below b, h.fifo.below b, h.flt.below b, h.mb, h.mf, h.fb, h.ff, h.ub, h.ux, h.uf, h.le, h.got⟩
theorem NdO.monoB {B B' b1 b2 b3 : Nat} {n : Nd} {p : NdP} {MB MF : List (Frm × Value)} {w : World} (h : NdO B b1 b2 b3 n p MB MF w) (hB : B' ≤ B) : NdO B' b1 b2 b3 n p MB MF w :=
  ⟨h.dat.mono hB, h.box, h.fifo, h.flt, h.mb, h.mf, h.fb, h.ff, h.ub, h.ux, h.uf, ⟨Nat.le_trans hB h.le.1, h.le.2⟩, h.got⟩

set_option maxHeartbeats 16000000 in
/-- impl.Sampled$1, where nothing has been broken off. -/
theorem closBack (g gr gh : Nat) (n : Nd) (p : NdP) (k : Int) (f : Frm) (ad : Option Addr) (cd : Nat) (w0 w : World) (K : K3 gr gh (ndC n p) (hpC k f ad cd) w0 w) (hg0 : gr < w.heap.size) (hg1 : gh < w.heap.size) (hm : NdM n p w) (hN : Nums ad f.D w) (hs : Small n) (hf : f.D.length ≤ 1048576) :
    CallsD Tryz.prog 43 #[.pointer (some ⟨g, 0, none⟩), .pointer (some ⟨gr, 0, none⟩), .pointer (some ⟨gh, 0, none⟩)] .returning w fun e u' w' => e = .returned (.tuple #[]) ∧ u' = .returning ∧ Done gr gh n k f w0 w w' := by
  have hta : ∀ W : World, (Instr.typeAssert (Value.nilIface) 20 74 true).run Tryz.prog W = .ok (.tuple #[.agg #[], .bool false]) W := fun W => by kernel_rfl
  have hz : ∀ x y z : Value, (#[x, y, z] : Array Value) ++ Array.replicate (Tryz.f43.ntmps - (#[x, y, z] : Array Value).size) undef = #[x, y, z, undef, undef, undef, undef, undef, undef, undef, undef, undef, undef, undef, undef, undef, undef, undef, undef, undef, undef, undef] := fun x y z => by rw [Tryz.ntmps43]; rfl
  refine callsD_of_wpS Tryz.func43 rfl fun c₀ cs hu => ?_
  rw [hz]
  clear hz
  apply wpS_seq
  apply wpS_seq
  apply wpS_region
  generalize hQ : Exit.thenS _ _ = Q1
  simp [wpOpsS, go_sem, recoverD, hu, hta]
  subst hQ
  simp only [Exit.thenS]
  have bb := below_more (Below.refl w.heap.size w) (.cells #[] 74)
  replace K := K.below bb
  apply wpS_seq
  apply wpS_region
  generalize hQ : Exit.thenS _ _ = Q1
  simp [wpOpsS, go_sem]
  subst hQ
  simp only [Exit.thenS]
  refine wpS_cond (t := false) (by simp [Act.eval]) ?_
  simp only [Bool.false_eq_true, if_false]
  replace hm := hm.below bb
  replace hN := hN.below bb
  generalize w.alloc _ = W at K hm hN bb ⊢
  have hsW := bb.size
  have hr0 := K.hr
  have hh0 := K.hh
  refine wpS_of_wp ?_
  go_wp2_with fail
  simp only [Exit.thenS]
  refine wpS_of_wp ?_
  refine wp_region_held (S := fun _ => True) (by kernel_rfl) ?_
  replace K := K.drew'
  replace hm : NdM (n) (p) { W with drawn := W.drawn + 1 } := hm.drew
  replace hN : Nums ad (f).D { W with drawn := W.drawn + 1 } := hN.drew
  have hV : w.heap.size ≤ ({ W with drawn := W.drawn + 1 } : World).heap.size := hsW
  generalize ({ W with drawn := W.drawn + 1 } : World) = V at K hm hN hV ⊢
  refine take_at 2 _ (.pointer (some ⟨gh, 1, none⟩)) rfl rfl (by kernel_rfl) (by kernel_rfl) (by kernel_rfl) (fun _ _ _ h => h) (.inl ⟨rfl, fun u hu => by go_simp⟩) trivial ?_
  simp only [Act.put, List.setIfInBounds_toArray, List.set_cons_zero, List.set_cons_succ]
  have d1 : V.cell? ⟨gh, 1, none⟩ = some (.int .i64 (f).id) := K.cell 1
  have d2 : V.cell? ⟨gh, 2, none⟩ = some (.bool (f).rm) := K.cell 2
  have d3 : V.cell? ⟨gh, 3, none⟩ = some (.int .i64 (f).ln) := K.cell 3
  have d4 : V.cell? ⟨gh, 4, none⟩ = some (.slice ad (f).D.length cd) := K.cell 4
  refine held_two 0 3 rfl rfl (by kernel_rfl) rfl rfl (op_value _ (ndV (n) (p)) rfl (K.took rfl rfl) ⟨trivial, ?_⟩) (op_value _ (frV (f).id (f).rm (f).ln ad (f).D.length cd) rfl (by go_simp) ⟨trivial, ?_⟩)
  · simp only [Act.put, List.setIfInBounds_toArray, List.set_cons_zero, List.set_cons_succ]
    refine held_two 1 3 rfl rfl (by kernel_rfl) rfl rfl (op_call _ 45 #[ndV (n) (p)] rfl (by go_simp) ?_) (op_value _ (frV (f).id (f).rm (f).ln ad (f).D.length cd) rfl (by go_simp) ⟨trivial, ?_⟩)
    · clear d1 d2 d3 d4
      refine (implCopied (n) (p) _ hm hs.dat hs.box hs.box8 hs.fifo hs.fifo8 hs.flt).mono ?_
      rintro e W2 ⟨p2, b1, b2, b3, MB, MF, rfl, O, b, hb3⟩
      have hsz := b.size
      replace K := K.below b
      replace hN := hN.below b
      have U2 : ∀ q, (Value.slice p2.al (n).flt.length p2.cl).ownBlock = some q → q < W2.heap.size := fun q hq => (World.ownsRow.lt O.flt q hq).2
      refine ⟨_, rfl, trivial, ?_⟩
      simp only [Act.put, List.setIfInBounds_toArray, List.set_cons_zero, List.set_cons_succ]
      have d1 : W2.cell? ⟨gh, 1, none⟩ = some (.int .i64 (f).id) := K.cell 1
      have d2 : W2.cell? ⟨gh, 2, none⟩ = some (.bool (f).rm) := K.cell 2
      have d3 : W2.cell? ⟨gh, 3, none⟩ = some (.int .i64 (f).ln) := K.cell 3
      have d4 : W2.cell? ⟨gh, 4, none⟩ = some (.slice ad (f).D.length cd) := K.cell 4
      refine held_op 3 rfl (by kernel_rfl) rfl (op_value _ (frV (f).id (f).rm (f).ln ad (f).D.length cd) rfl (by go_simp) ⟨trivial, ?_⟩)
      simp only [Act.put, List.setIfInBounds_toArray, List.set_cons_zero, List.set_cons_succ]
      clear d1 d2 d3 d4
      have hlt := K.lt
      refine call_at 4 _ 46 #[(frV (f).id (f).rm (f).ln ad (f).D.length cd)] rfl rfl (by kernel_rfl) rfl (by go_simp) ?_
      refine (copiedFr (f).id (f).rm (f).ln ad (f).D cd _ hN hf).mono ?_
      rintro e W3 ⟨a3, rfl, O3, b3'⟩
      replace K := K.below b3'
      replace O := O.belowO b3'
      clear b3'
      refine ⟨_, rfl, trivial, ?_⟩
      simp only [Act.put, List.setIfInBounds_toArray, List.set_cons_zero, List.set_cons_succ]
      refine held_row 5 gr (ndC (n) p2) rfl (by kernel_rfl) rfl rfl rfl rfl rfl K.res (by kernel_rfl) rfl (ndC_one _ _) trivial ?_
      replace K := K.setR (ndC (n) p2)
      replace O := O.keptG (grown_row _ gr (ndC (n) p2)) (by omega)
      replace O3 := O3.kept2 (grown_row _ gr (ndC (n) p2)) hlt.1
      generalize World.setRow _ _ _ = W4 at K O O3 ⊢
      refine value_at 6 _ (.pointer (some ⟨gh, 1, none⟩)) rfl rfl (by kernel_rfl) rfl (by go_simp) trivial ?_
      simp only [Act.put, List.setIfInBounds_toArray, List.set_cons_zero, List.set_cons_succ]
      have d1 : W4.cell? ⟨gh, 1, none⟩ = some (.int .i64 (f).id) := K.cell 1
      have d2 : W4.cell? ⟨gh, 2, none⟩ = some (.bool (f).rm) := K.cell 2
      have d3 : W4.cell? ⟨gh, 3, none⟩ = some (.int .i64 (f).ln) := K.cell 3
      have d4 : W4.cell? ⟨gh, 4, none⟩ = some (.slice ad (f).D.length cd) := K.cell 4
      obtain ⟨q1, q2, q3, q4⟩ : _ ∧ _ ∧ _ ∧ _ := ⟨K.free 1, K.free 2, K.free 3, K.free 4⟩
      refine held_op 7 rfl (by kernel_rfl) rfl (op_skip ((((W4.setCell ⟨gh, 1, none⟩ (.int .i64 (f).id)).setCell ⟨gh, 2, none⟩ (.bool (f).rm)).setCell ⟨gh, 3, none⟩ (.int .i64 (f).ln)).setCell ⟨gh, 4, none⟩ (.slice a3 (f).D.length (f).D.length)) rfl (by go_simp) ⟨trivial, ?_⟩)
      replace K : K3 gr gh (ndC (n) p2) (hpC k (f) a3 (f).D.length) w0 _ := (((K.setK 1 (.int .i64 (f).id)).setK 2 (.bool (f).rm)).setK 3 (.int .i64 (f).ln)).setK 4 (.slice a3 (f).D.length (f).D.length)
      replace O := O.keptG (K3.grown4 W4 gh (.int .i64 (f).id) (.bool (f).rm) (.int .i64 (f).ln) (.slice a3 (f).D.length (f).D.length)) (by omega)
      replace O3 := O3.kept2 (K3.grown4 W4 gh (.int .i64 (f).id) (.bool (f).rm) (.int .i64 (f).ln) (.slice a3 (f).D.length (f).D.length)) hlt.2
      clear d1 d2 d3 d4 q1 q2 q3 q4
      generalize World.setCell _ _ _ = W5 at K O O3 ⊢
      refine wpAnyH_done (by kernel_rfl) ?_ _
      refine ⟨rfl, .returning, by rw [← hu], .tuple #[], results_none rfl _ _ _, rfl, rfl, p2, a3, b1, b2, b3, W2.heap.size, MB, MF, K, O.monoB hV, U2, hb3, O3⟩
    · simp only [Act.put, List.setIfInBounds_toArray, List.set_cons_zero, List.set_cons_succ]
      clear d1 d2 d3 d4
      refine call_at 1 _ 45 #[ndV (n) (p)] rfl rfl (by kernel_rfl) rfl (by go_simp) ?_
      refine (implCopied (n) (p) _ hm hs.dat hs.box hs.box8 hs.fifo hs.fifo8 hs.flt).mono ?_
      rintro e W2 ⟨p2, b1, b2, b3, MB, MF, rfl, O, b, hb3⟩
      have hsz := b.size
      replace K := K.below b
      replace hN := hN.below b
      have U2 : ∀ q, (Value.slice p2.al (n).flt.length p2.cl).ownBlock = some q → q < W2.heap.size := fun q hq => (World.ownsRow.lt O.flt q hq).2
      refine ⟨_, rfl, trivial, ?_⟩
      simp only [Act.put, List.setIfInBounds_toArray, List.set_cons_zero, List.set_cons_succ]
      have hlt := K.lt
      refine call_at 4 _ 46 #[(frV (f).id (f).rm (f).ln ad (f).D.length cd)] rfl rfl (by kernel_rfl) rfl (by go_simp) ?_
      refine (copiedFr (f).id (f).rm (f).ln ad (f).D cd _ hN hf).mono ?_
      rintro e W3 ⟨a3, rfl, O3, b3'⟩
      replace K := K.below b3'
      replace O := O.belowO b3'
      clear b3'
      refine ⟨_, rfl, trivial, ?_⟩
      simp only [Act.put, List.setIfInBounds_toArray, List.set_cons_zero, List.set_cons_succ]
      refine held_row 5 gr (ndC (n) p2) rfl (by kernel_rfl) rfl rfl rfl rfl rfl K.res (by kernel_rfl) rfl (ndC_one _ _) trivial ?_
      replace K := K.setR (ndC (n) p2)
      replace O := O.keptG (grown_row _ gr (ndC (n) p2)) (by omega)
      replace O3 := O3.kept2 (grown_row _ gr (ndC (n) p2)) hlt.1
      generalize World.setRow _ _ _ = W4 at K O O3 ⊢
      refine value_at 6 _ (.pointer (some ⟨gh, 1, none⟩)) rfl rfl (by kernel_rfl) rfl (by go_simp) trivial ?_
      simp only [Act.put, List.setIfInBounds_toArray, List.set_cons_zero, List.set_cons_succ]
      have d1 : W4.cell? ⟨gh, 1, none⟩ = some (.int .i64 (f).id) := K.cell 1
      have d2 : W4.cell? ⟨gh, 2, none⟩ = some (.bool (f).rm) := K.cell 2
      have d3 : W4.cell? ⟨gh, 3, none⟩ = some (.int .i64 (f).ln) := K.cell 3
      have d4 : W4.cell? ⟨gh, 4, none⟩ = some (.slice ad (f).D.length cd) := K.cell 4
      obtain ⟨q1, q2, q3, q4⟩ : _ ∧ _ ∧ _ ∧ _ := ⟨K.free 1, K.free 2, K.free 3, K.free 4⟩
      refine held_op 7 rfl (by kernel_rfl) rfl (op_skip ((((W4.setCell ⟨gh, 1, none⟩ (.int .i64 (f).id)).setCell ⟨gh, 2, none⟩ (.bool (f).rm)).setCell ⟨gh, 3, none⟩ (.int .i64 (f).ln)).setCell ⟨gh, 4, none⟩ (.slice a3 (f).D.length (f).D.length)) rfl (by go_simp) ⟨trivial, ?_⟩)
      replace K : K3 gr gh (ndC (n) p2) (hpC k (f) a3 (f).D.length) w0 _ := (((K.setK 1 (.int .i64 (f).id)).setK 2 (.bool (f).rm)).setK 3 (.int .i64 (f).ln)).setK 4 (.slice a3 (f).D.length (f).D.length)
      replace O := O.keptG (K3.grown4 W4 gh (.int .i64 (f).id) (.bool (f).rm) (.int .i64 (f).ln) (.slice a3 (f).D.length (f).D.length)) (by omega)
      replace O3 := O3.kept2 (K3.grown4 W4 gh (.int .i64 (f).id) (.bool (f).rm) (.int .i64 (f).ln) (.slice a3 (f).D.length (f).D.length)) hlt.2
      clear d1 d2 d3 d4 q1 q2 q3 q4
      generalize World.setCell _ _ _ = W5 at K O O3 ⊢
      refine wpAnyH_done (by kernel_rfl) ?_ _
      refine ⟨rfl, .returning, by rw [← hu], .tuple #[], results_none rfl _ _ _, rfl, rfl, p2, a3, b1, b2, b3, W2.heap.size, MB, MF, K, O.monoB hV, U2, hb3, O3⟩
  · simp only [Act.put, List.setIfInBounds_toArray, List.set_cons_zero, List.set_cons_succ]
    clear d1 d2 d3 d4
    refine held_op 0 rfl (by kernel_rfl) rfl (op_value _ (ndV (n) (p)) rfl (K.took rfl rfl) ⟨trivial, ?_⟩)
    simp only [Act.put, List.setIfInBounds_toArray, List.set_cons_zero, List.set_cons_succ]
    refine call_at 1 _ 45 #[ndV (n) (p)] rfl rfl (by kernel_rfl) rfl (by go_simp) ?_
    refine (implCopied (n) (p) _ hm hs.dat hs.box hs.box8 hs.fifo hs.fifo8 hs.flt).mono ?_
    rintro e W2 ⟨p2, b1, b2, b3, MB, MF, rfl, O, b, hb3⟩
    have hsz := b.size
    replace K := K.below b
    replace hN := hN.below b
    have U2 : ∀ q, (Value.slice p2.al (n).flt.length p2.cl).ownBlock = some q → q < W2.heap.size := fun q hq => (World.ownsRow.lt O.flt q hq).2
    refine ⟨_, rfl, trivial, ?_⟩
    simp only [Act.put, List.setIfInBounds_toArray, List.set_cons_zero, List.set_cons_succ]
    have hlt := K.lt
    refine call_at 4 _ 46 #[(frV (f).id (f).rm (f).ln ad (f).D.length cd)] rfl rfl (by kernel_rfl) rfl (by go_simp) ?_
    refine (copiedFr (f).id (f).rm (f).ln ad (f).D cd _ hN hf).mono ?_
    rintro e W3 ⟨a3, rfl, O3, b3'⟩
    replace K := K.below b3'
    replace O := O.belowO b3'
    clear b3'
    refine ⟨_, rfl, trivial, ?_⟩
    simp only [Act.put, List.setIfInBounds_toArray, List.set_cons_zero, List.set_cons_succ]
    refine held_row 5 gr (ndC (n) p2) rfl (by kernel_rfl) rfl rfl rfl rfl rfl K.res (by kernel_rfl) rfl (ndC_one _ _) trivial ?_
    replace K := K.setR (ndC (n) p2)
    replace O := O.keptG (grown_row _ gr (ndC (n) p2)) (by omega)
    replace O3 := O3.kept2 (grown_row _ gr (ndC (n) p2)) hlt.1
    generalize World.setRow _ _ _ = W4 at K O O3 ⊢
    refine value_at 6 _ (.pointer (some ⟨gh, 1, none⟩)) rfl rfl (by kernel_rfl) rfl (by go_simp) trivial ?_
    simp only [Act.put, List.setIfInBounds_toArray, List.set_cons_zero, List.set_cons_succ]
    have d1 : W4.cell? ⟨gh, 1, none⟩ = some (.int .i64 (f).id) := K.cell 1
    have d2 : W4.cell? ⟨gh, 2, none⟩ = some (.bool (f).rm) := K.cell 2
    have d3 : W4.cell? ⟨gh, 3, none⟩ = some (.int .i64 (f).ln) := K.cell 3
    have d4 : W4.cell? ⟨gh, 4, none⟩ = some (.slice ad (f).D.length cd) := K.cell 4
    obtain ⟨q1, q2, q3, q4⟩ : _ ∧ _ ∧ _ ∧ _ := ⟨K.free 1, K.free 2, K.free 3, K.free 4⟩
    refine held_op 7 rfl (by kernel_rfl) rfl (op_skip ((((W4.setCell ⟨gh, 1, none⟩ (.int .i64 (f).id)).setCell ⟨gh, 2, none⟩ (.bool (f).rm)).setCell ⟨gh, 3, none⟩ (.int .i64 (f).ln)).setCell ⟨gh, 4, none⟩ (.slice a3 (f).D.length (f).D.length)) rfl (by go_simp) ⟨trivial, ?_⟩)
    replace K : K3 gr gh (ndC (n) p2) (hpC k (f) a3 (f).D.length) w0 _ := (((K.setK 1 (.int .i64 (f).id)).setK 2 (.bool (f).rm)).setK 3 (.int .i64 (f).ln)).setK 4 (.slice a3 (f).D.length (f).D.length)
    replace O := O.keptG (K3.grown4 W4 gh (.int .i64 (f).id) (.bool (f).rm) (.int .i64 (f).ln) (.slice a3 (f).D.length (f).D.length)) (by omega)
    replace O3 := O3.kept2 (K3.grown4 W4 gh (.int .i64 (f).id) (.bool (f).rm) (.int .i64 (f).ln) (.slice a3 (f).D.length (f).D.length)) hlt.2
    clear d1 d2 d3 d4 q1 q2 q3 q4
    generalize World.setCell _ _ _ = W5 at K O O3 ⊢
    refine wpAnyH_done (by kernel_rfl) ?_ _
    refine ⟨rfl, .returning, by rw [← hu], .tuple #[], results_none rfl _ _ _, rfl, rfl, p2, a3, b1, b2, b3, W2.heap.size, MB, MF, K, O.monoB hV, U2, hb3, O3⟩

theorem brkN_lists (n : Nd) : (brkN n).1.fr = n.fr ∧ (brkN n).1.box = n.box ∧ (brkN n).1.fifo = n.fifo ∧ (brkN n).1.flt = n.flt ∧ (brkN n).1.got.size ≤ maxLen := by
  unfold brkN; split <;> exact ⟨rfl, rfl, rfl, rfl, Nat.zero_le _⟩

set_option maxHeartbeats 16000000 in
/-- impl.Sampled$1, where the node has broken off. -/
theorem closCaught (g gr gh : Nat) (n : Nd) (p : NdP) (a0 w0 w : World) (K : K3 gr gh ndZ hpZ w0 w) (G0 : w.heap[g]? = some (.cells (ndC n p) 32 (0, 0))) (hg0 : gr < w.heap.size) (hg1 : gh < w.heap.size) (h0 : NdM n p a0) (ha0 : Below a0.heap.size a0 w0) (hs : Small (brkN n).1) :
    CallsD Tryz.prog 43 #[.pointer (some ⟨g, 0, none⟩), .pointer (some ⟨gr, 0, none⟩), .pointer (some ⟨gh, 0, none⟩)] (.panicking [{ v := .iface 74 (.agg #[]), recovered := false }]) w fun e u' w' => e = .returned (.tuple #[]) ∧ u' = .panicking [{ v := .iface 74 (.agg #[]), recovered := true }] ∧ Done gr gh (brkN n).1 (brkN n).2.1 zF w0 w w' := by
  have hta : ∀ W : World, (Instr.typeAssert (.iface 74 (.agg #[])) 20 74 true).run Tryz.prog W = .ok (.tuple #[.agg #[], .bool true]) W := fun W => by kernel_rfl
  have hz : ∀ x y z : Value, (#[x, y, z] : Array Value) ++ Array.replicate (Tryz.f43.ntmps - (#[x, y, z] : Array Value).size) undef = #[x, y, z, undef, undef, undef, undef, undef, undef, undef, undef, undef, undef, undef, undef, undef, undef, undef, undef, undef, undef, undef] := fun x y z => by rw [Tryz.ntmps43]; rfl
  refine callsD_of_wpS Tryz.func43 rfl fun c₀ cs hu => ?_
  rw [hz]
  clear hz
  apply wpS_seq
  apply wpS_seq
  apply wpS_region
  generalize hQ : Exit.thenS _ _ = Q1
  simp [wpOpsS, go_sem, recoverD, hu, hta]
  subst hQ
  simp only [Exit.thenS]
  have bb := below_more (Below.refl w.heap.size w) (.cells #[] 74)
  replace K := K.below bb
  apply wpS_seq
  apply wpS_region
  generalize hQ : Exit.thenS _ _ = Q1
  simp [wpOpsS, go_sem]
  subst hQ
  simp only [Exit.thenS]
  refine wpS_cond (t := true) (by simp [Act.eval]) ?_
  simp only [if_true]
  generalize w.alloc _ = W at K bb ⊢
  have hbw := bb
  have G : Nx g n p w W := ⟨(bb.block g (Array.getElem?_eq_some_iff.1 G0).1).trans G0, bb⟩
  have hlt := K.lt
  refine wpS_of_wp ?_
  go_wp2_with (refine Nx.take G rfl rfl rfl ?_)
  refine (implBroken n p _).mono ?_
  rintro e W6 ⟨rfl, b⟩
  have hbw6 := hbw.trans (b.mono hbw.size)
  replace K := K.below b
  clear b
  go_wp2_with (first | (refine wpList_put (n := (brkN n).1) (p := p) K.res rfl rfl rfl rfl rfl ?_) | (refine wpList_tell (k := (brkN n).2.1) (f := zF) (ad := none) (cd := 0) (K.setR (ndC (brkN n).1 p)).hap rfl rfl rfl rfl rfl ?_))
  replace K := (K.setR (ndC (brkN n).1 p)).setH (hpC (brkN n).2.1 zF none 0)
  have hsW : w.heap.size ≤ ((W6.setRow gr (ndC (brkN n).1 p)).setRow gh (hpC (brkN n).2.1 zF none 0)).heap.size := by simpa using hbw6.size
  generalize World.setRow _ _ _ = W7 at K hsW ⊢
  obtain ⟨l1, l2, l3, l4, l5⟩ := brkN_lists n
  have hm : NdM (brkN n).1 p W7 := (h0.below (from0 ha0 K.bel)).lists l1 l2 l3 l4 l5
  have hN : Nums none zF.D W7 := Nums.nil _
  have hf : zF.D.length ≤ 1048576 := by decide
  generalize (brkN n).1 = m at *
  generalize (brkN n).2.1 = k at *
  generalize zF = f at *
  simp only [Exit.thenS]
  refine wpS_of_wp ?_
  refine wp_region_held (S := fun _ => True) (by kernel_rfl) ?_
  replace K := K.drew'
  replace hm : NdM (m) (p) { W7 with drawn := W7.drawn + 1 } := hm.drew
  replace hN : Nums none (f).D { W7 with drawn := W7.drawn + 1 } := hN.drew
  have hV : w.heap.size ≤ ({ W7 with drawn := W7.drawn + 1 } : World).heap.size := hsW
  generalize ({ W7 with drawn := W7.drawn + 1 } : World) = V at K hm hN hV ⊢
  refine take_at 2 _ (.pointer (some ⟨gh, 1, none⟩)) rfl rfl (by kernel_rfl) (by kernel_rfl) (by kernel_rfl) (fun _ _ _ h => h) (.inl ⟨rfl, fun u hu => by go_simp⟩) trivial ?_
  simp only [Act.put, List.setIfInBounds_toArray, List.set_cons_zero, List.set_cons_succ]
  have d1 : V.cell? ⟨gh, 1, none⟩ = some (.int .i64 (f).id) := K.cell 1
  have d2 : V.cell? ⟨gh, 2, none⟩ = some (.bool (f).rm) := K.cell 2
  have d3 : V.cell? ⟨gh, 3, none⟩ = some (.int .i64 (f).ln) := K.cell 3
  have d4 : V.cell? ⟨gh, 4, none⟩ = some (.slice none (f).D.length 0) := K.cell 4
  refine held_two 0 3 rfl rfl (by kernel_rfl) rfl rfl (op_value _ (ndV (m) (p)) rfl (K.took rfl rfl) ⟨trivial, ?_⟩) (op_value _ (frV (f).id (f).rm (f).ln none (f).D.length 0) rfl (by go_simp) ⟨trivial, ?_⟩)
  · simp only [Act.put, List.setIfInBounds_toArray, List.set_cons_zero, List.set_cons_succ]
    refine held_two 1 3 rfl rfl (by kernel_rfl) rfl rfl (op_call _ 45 #[ndV (m) (p)] rfl (by go_simp) ?_) (op_value _ (frV (f).id (f).rm (f).ln none (f).D.length 0) rfl (by go_simp) ⟨trivial, ?_⟩)
    · clear d1 d2 d3 d4
      refine (implCopied (m) (p) _ hm hs.dat hs.box hs.box8 hs.fifo hs.fifo8 hs.flt).mono ?_
      rintro e W2 ⟨p2, b1, b2, b3, MB, MF, rfl, O, b, hb3⟩
      have hsz := b.size
      replace K := K.below b
      replace hN := hN.below b
      have U2 : ∀ q, (Value.slice p2.al (m).flt.length p2.cl).ownBlock = some q → q < W2.heap.size := fun q hq => (World.ownsRow.lt O.flt q hq).2
      refine ⟨_, rfl, trivial, ?_⟩
      simp only [Act.put, List.setIfInBounds_toArray, List.set_cons_zero, List.set_cons_succ]
      have d1 : W2.cell? ⟨gh, 1, none⟩ = some (.int .i64 (f).id) := K.cell 1
      have d2 : W2.cell? ⟨gh, 2, none⟩ = some (.bool (f).rm) := K.cell 2
      have d3 : W2.cell? ⟨gh, 3, none⟩ = some (.int .i64 (f).ln) := K.cell 3
      have d4 : W2.cell? ⟨gh, 4, none⟩ = some (.slice none (f).D.length 0) := K.cell 4
      refine held_op 3 rfl (by kernel_rfl) rfl (op_value _ (frV (f).id (f).rm (f).ln none (f).D.length 0) rfl (by go_simp) ⟨trivial, ?_⟩)
      simp only [Act.put, List.setIfInBounds_toArray, List.set_cons_zero, List.set_cons_succ]
      clear d1 d2 d3 d4
      have hlt := K.lt
      refine call_at 4 _ 46 #[(frV (f).id (f).rm (f).ln none (f).D.length 0)] rfl rfl (by kernel_rfl) rfl (by go_simp) ?_
      refine (copiedFr (f).id (f).rm (f).ln none (f).D 0 _ hN hf).mono ?_
      rintro e W3 ⟨a3, rfl, O3, b3'⟩
      replace K := K.below b3'
      replace O := O.belowO b3'
      clear b3'
      refine ⟨_, rfl, trivial, ?_⟩
      simp only [Act.put, List.setIfInBounds_toArray, List.set_cons_zero, List.set_cons_succ]
      refine held_row 5 gr (ndC (m) p2) rfl (by kernel_rfl) rfl rfl rfl rfl rfl K.res (by kernel_rfl) rfl (ndC_one _ _) trivial ?_
      replace K := K.setR (ndC (m) p2)
      replace O := O.keptG (grown_row _ gr (ndC (m) p2)) (by omega)
      replace O3 := O3.kept2 (grown_row _ gr (ndC (m) p2)) hlt.1
      generalize World.setRow _ _ _ = W4 at K O O3 ⊢
      refine value_at 6 _ (.pointer (some ⟨gh, 1, none⟩)) rfl rfl (by kernel_rfl) rfl (by go_simp) trivial ?_
      simp only [Act.put, List.setIfInBounds_toArray, List.set_cons_zero, List.set_cons_succ]
      have d1 : W4.cell? ⟨gh, 1, none⟩ = some (.int .i64 (f).id) := K.cell 1
      have d2 : W4.cell? ⟨gh, 2, none⟩ = some (.bool (f).rm) := K.cell 2
      have d3 : W4.cell? ⟨gh, 3, none⟩ = some (.int .i64 (f).ln) := K.cell 3
      have d4 : W4.cell? ⟨gh, 4, none⟩ = some (.slice none (f).D.length 0) := K.cell 4
      obtain ⟨q1, q2, q3, q4⟩ : _ ∧ _ ∧ _ ∧ _ := ⟨K.free 1, K.free 2, K.free 3, K.free 4⟩
      refine held_op 7 rfl (by kernel_rfl) rfl (op_skip ((((W4.setCell ⟨gh, 1, none⟩ (.int .i64 (f).id)).setCell ⟨gh, 2, none⟩ (.bool (f).rm)).setCell ⟨gh, 3, none⟩ (.int .i64 (f).ln)).setCell ⟨gh, 4, none⟩ (.slice a3 (f).D.length (f).D.length)) rfl (by go_simp) ⟨trivial, ?_⟩)
      replace K : K3 gr gh (ndC (m) p2) (hpC k (f) a3 (f).D.length) w0 _ := (((K.setK 1 (.int .i64 (f).id)).setK 2 (.bool (f).rm)).setK 3 (.int .i64 (f).ln)).setK 4 (.slice a3 (f).D.length (f).D.length)
      replace O := O.keptG (K3.grown4 W4 gh (.int .i64 (f).id) (.bool (f).rm) (.int .i64 (f).ln) (.slice a3 (f).D.length (f).D.length)) (by omega)
      replace O3 := O3.kept2 (K3.grown4 W4 gh (.int .i64 (f).id) (.bool (f).rm) (.int .i64 (f).ln) (.slice a3 (f).D.length (f).D.length)) hlt.2
      clear d1 d2 d3 d4 q1 q2 q3 q4
      generalize World.setCell _ _ _ = W5 at K O O3 ⊢
      refine wpAnyH_done (by kernel_rfl) ?_ _
      refine ⟨rfl, .panicking [{ v := .iface 74 (.agg #[]), recovered := true }], rfl, .tuple #[], results_none rfl _ _ _, rfl, rfl, p2, a3, b1, b2, b3, W2.heap.size, MB, MF, K, O.monoB hV, U2, hb3, O3⟩
    · simp only [Act.put, List.setIfInBounds_toArray, List.set_cons_zero, List.set_cons_succ]
      clear d1 d2 d3 d4
      refine call_at 1 _ 45 #[ndV (m) (p)] rfl rfl (by kernel_rfl) rfl (by go_simp) ?_
      refine (implCopied (m) (p) _ hm hs.dat hs.box hs.box8 hs.fifo hs.fifo8 hs.flt).mono ?_
      rintro e W2 ⟨p2, b1, b2, b3, MB, MF, rfl, O, b, hb3⟩
      have hsz := b.size
      replace K := K.below b
      replace hN := hN.below b
      have U2 : ∀ q, (Value.slice p2.al (m).flt.length p2.cl).ownBlock = some q → q < W2.heap.size := fun q hq => (World.ownsRow.lt O.flt q hq).2
      refine ⟨_, rfl, trivial, ?_⟩
      simp only [Act.put, List.setIfInBounds_toArray, List.set_cons_zero, List.set_cons_succ]
      have hlt := K.lt
      refine call_at 4 _ 46 #[(frV (f).id (f).rm (f).ln none (f).D.length 0)] rfl rfl (by kernel_rfl) rfl (by go_simp) ?_
      refine (copiedFr (f).id (f).rm (f).ln none (f).D 0 _ hN hf).mono ?_
      rintro e W3 ⟨a3, rfl, O3, b3'⟩
      replace K := K.below b3'
      replace O := O.belowO b3'
      clear b3'
      refine ⟨_, rfl, trivial, ?_⟩
      simp only [Act.put, List.setIfInBounds_toArray, List.set_cons_zero, List.set_cons_succ]
      refine held_row 5 gr (ndC (m) p2) rfl (by kernel_rfl) rfl rfl rfl rfl rfl K.res (by kernel_rfl) rfl (ndC_one _ _) trivial ?_
      replace K := K.setR (ndC (m) p2)
      replace O := O.keptG (grown_row _ gr (ndC (m) p2)) (by omega)
      replace O3 := O3.kept2 (grown_row _ gr (ndC (m) p2)) hlt.1
      generalize World.setRow _ _ _ = W4 at K O O3 ⊢
      refine value_at 6 _ (.pointer (some ⟨gh, 1, none⟩)) rfl rfl (by kernel_rfl) rfl (by go_simp) trivial ?_
      simp only [Act.put, List.setIfInBounds_toArray, List.set_cons_zero, List.set_cons_succ]
      have d1 : W4.cell? ⟨gh, 1, none⟩ = some (.int .i64 (f).id) := K.cell 1
      have d2 : W4.cell? ⟨gh, 2, none⟩ = some (.bool (f).rm) := K.cell 2
      have d3 : W4.cell? ⟨gh, 3, none⟩ = some (.int .i64 (f).ln) := K.cell 3
      have d4 : W4.cell? ⟨gh, 4, none⟩ = some (.slice none (f).D.length 0) := K.cell 4
      obtain ⟨q1, q2, q3, q4⟩ : _ ∧ _ ∧ _ ∧ _ := ⟨K.free 1, K.free 2, K.free 3, K.free 4⟩
      refine held_op 7 rfl (by kernel_rfl) rfl (op_skip ((((W4.setCell ⟨gh, 1, none⟩ (.int .i64 (f).id)).setCell ⟨gh, 2, none⟩ (.bool (f).rm)).setCell ⟨gh, 3, none⟩ (.int .i64 (f).ln)).setCell ⟨gh, 4, none⟩ (.slice a3 (f).D.length (f).D.length)) rfl (by go_simp) ⟨trivial, ?_⟩)
      replace K : K3 gr gh (ndC (m) p2) (hpC k (f) a3 (f).D.length) w0 _ := (((K.setK 1 (.int .i64 (f).id)).setK 2 (.bool (f).rm)).setK 3 (.int .i64 (f).ln)).setK 4 (.slice a3 (f).D.length (f).D.length)
      replace O := O.keptG (K3.grown4 W4 gh (.int .i64 (f).id) (.bool (f).rm) (.int .i64 (f).ln) (.slice a3 (f).D.length (f).D.length)) (by omega)
      replace O3 := O3.kept2 (K3.grown4 W4 gh (.int .i64 (f).id) (.bool (f).rm) (.int .i64 (f).ln) (.slice a3 (f).D.length (f).D.length)) hlt.2
      clear d1 d2 d3 d4 q1 q2 q3 q4
      generalize World.setCell _ _ _ = W5 at K O O3 ⊢
      refine wpAnyH_done (by kernel_rfl) ?_ _
      refine ⟨rfl, .panicking [{ v := .iface 74 (.agg #[]), recovered := true }], rfl, .tuple #[], results_none rfl _ _ _, rfl, rfl, p2, a3, b1, b2, b3, W2.heap.size, MB, MF, K, O.monoB hV, U2, hb3, O3⟩
  · simp only [Act.put, List.setIfInBounds_toArray, List.set_cons_zero, List.set_cons_succ]
    clear d1 d2 d3 d4
    refine held_op 0 rfl (by kernel_rfl) rfl (op_value _ (ndV (m) (p)) rfl (K.took rfl rfl) ⟨trivial, ?_⟩)
    simp only [Act.put, List.setIfInBounds_toArray, List.set_cons_zero, List.set_cons_succ]
    refine call_at 1 _ 45 #[ndV (m) (p)] rfl rfl (by kernel_rfl) rfl (by go_simp) ?_
    refine (implCopied (m) (p) _ hm hs.dat hs.box hs.box8 hs.fifo hs.fifo8 hs.flt).mono ?_
    rintro e W2 ⟨p2, b1, b2, b3, MB, MF, rfl, O, b, hb3⟩
    have hsz := b.size
    replace K := K.below b
    replace hN := hN.below b
    have U2 : ∀ q, (Value.slice p2.al (m).flt.length p2.cl).ownBlock = some q → q < W2.heap.size := fun q hq => (World.ownsRow.lt O.flt q hq).2
    refine ⟨_, rfl, trivial, ?_⟩
    simp only [Act.put, List.setIfInBounds_toArray, List.set_cons_zero, List.set_cons_succ]
    have hlt := K.lt
    refine call_at 4 _ 46 #[(frV (f).id (f).rm (f).ln none (f).D.length 0)] rfl rfl (by kernel_rfl) rfl (by go_simp) ?_
    refine (copiedFr (f).id (f).rm (f).ln none (f).D 0 _ hN hf).mono ?_
    rintro e W3 ⟨a3, rfl, O3, b3'⟩
    replace K := K.below b3'
    replace O := O.belowO b3'
    clear b3'
    refine ⟨_, rfl, trivial, ?_⟩
    simp only [Act.put, List.setIfInBounds_toArray, List.set_cons_zero, List.set_cons_succ]
    refine held_row 5 gr (ndC (m) p2) rfl (by kernel_rfl) rfl rfl rfl rfl rfl K.res (by kernel_rfl) rfl (ndC_one _ _) trivial ?_
    replace K := K.setR (ndC (m) p2)
    replace O := O.keptG (grown_row _ gr (ndC (m) p2)) (by omega)
    replace O3 := O3.kept2 (grown_row _ gr (ndC (m) p2)) hlt.1
    generalize World.setRow _ _ _ = W4 at K O O3 ⊢
    refine value_at 6 _ (.pointer (some ⟨gh, 1, none⟩)) rfl rfl (by kernel_rfl) rfl (by go_simp) trivial ?_
    simp only [Act.put, List.setIfInBounds_toArray, List.set_cons_zero, List.set_cons_succ]
    have d1 : W4.cell? ⟨gh, 1, none⟩ = some (.int .i64 (f).id) := K.cell 1
    have d2 : W4.cell? ⟨gh, 2, none⟩ = some (.bool (f).rm) := K.cell 2
    have d3 : W4.cell? ⟨gh, 3, none⟩ = some (.int .i64 (f).ln) := K.cell 3
    have d4 : W4.cell? ⟨gh, 4, none⟩ = some (.slice none (f).D.length 0) := K.cell 4
    obtain ⟨q1, q2, q3, q4⟩ : _ ∧ _ ∧ _ ∧ _ := ⟨K.free 1, K.free 2, K.free 3, K.free 4⟩
    refine held_op 7 rfl (by kernel_rfl) rfl (op_skip ((((W4.setCell ⟨gh, 1, none⟩ (.int .i64 (f).id)).setCell ⟨gh, 2, none⟩ (.bool (f).rm)).setCell ⟨gh, 3, none⟩ (.int .i64 (f).ln)).setCell ⟨gh, 4, none⟩ (.slice a3 (f).D.length (f).D.length)) rfl (by go_simp) ⟨trivial, ?_⟩)
    replace K : K3 gr gh (ndC (m) p2) (hpC k (f) a3 (f).D.length) w0 _ := (((K.setK 1 (.int .i64 (f).id)).setK 2 (.bool (f).rm)).setK 3 (.int .i64 (f).ln)).setK 4 (.slice a3 (f).D.length (f).D.length)
    replace O := O.keptG (K3.grown4 W4 gh (.int .i64 (f).id) (.bool (f).rm) (.int .i64 (f).ln) (.slice a3 (f).D.length (f).D.length)) (by omega)
    replace O3 := O3.kept2 (K3.grown4 W4 gh (.int .i64 (f).id) (.bool (f).rm) (.int .i64 (f).ln) (.slice a3 (f).D.length (f).D.length)) hlt.2
    clear d1 d2 d3 d4 q1 q2 q3 q4
    generalize World.setCell _ _ _ = W5 at K O O3 ⊢
    refine wpAnyH_done (by kernel_rfl) ?_ _
    refine ⟨rfl, .panicking [{ v := .iface 74 (.agg #[]), recovered := true }], rfl, .tuple #[], results_none rfl _ _ _, rfl, rfl, p2, a3, b1, b2, b3, W2.heap.size, MB, MF, K, O.monoB hV, U2, hb3, O3⟩
end Go.Proofs.YtpenjbpcebfecaaGreatDoor

/- The program's inBody. -/

set_option linter.unusedVariables false
set_option linter.unusedSimpArgs false
set_option maxRecDepth 20000
namespace Go.Proofs.YtpenjbpcebfecaaGreatDoor
open Go.RowKit


set_option maxHeartbeats 16000000 in
/-- impl.inBody, behind five alike. -/
theorem implBodyFive (n : Nd) (p : NdP) (l : Int) (w : World) (a0 : World) (h0 : NdM n p a0) (ha0 : Below a0.heap.size a0 w) (hE : ErrHeld w) (hl : l = 0 ∨ l = 1) (h5r : n.run = 5) (hne : l ≠ n.last) :
    Calls Tryz.prog 106 #[ndV n p, .int .i64 l] w (SampX a0 (wholeN { n with run := 1, last := l }, 0, zF) w) := by
  have hm := h0.below ha0
  replace h5r := Lib.hid h5r
  have hn' : (l == n.last) = false := beq_eq_false_iff_ne.2 hne
  clear hne
  have X := N3.made (ndC n p) w
  go_enter Tryz.func106, Tryz.ntmps106
  go_upto_region 1 with fail
  generalize World.alloc _ _ = W at X ⊢
  generalize w.heap.size + 1 + 1 = gh at X ⊢
  generalize w.heap.size + 1 = gr at X ⊢
  generalize w.heap.size = g at X ⊢
  have c9 : W.cell? ⟨g, 9, none⟩ = some (.int .i64 5) := (X.cell 9).trans (by rw [← h5r.out]; rfl)
  have c10 : W.cell? ⟨g, 10, none⟩ = some (.int .i64 n.last) := X.cell 10
  go_wp2_with fail
  refine (implNoBreak _).mono ?_
  rintro e w3 ⟨rfl, b⟩
  replace X := X.below b
  clear b c9 c10
  have c9 : w3.cell? ⟨g, 9, none⟩ = some (.int .i64 n.run) := X.cell 9
  have c10 : w3.cell? ⟨g, 10, none⟩ = some (.int .i64 n.last) := X.cell 10
  have f9 := X.free 9
  have f10 := X.free 10
  go_upto_region 5 with fail
  clear c9 c10 f9 f10
  replace X : N3 g gr gh (ndC ({ n with run := 1, last := l }) p) w _ := ((X.set 9 (.int .i64 1)).set 10 (.int .i64 l))
  generalize World.setCell _ _ _ = W5 at X ⊢
  obtain ⟨m, hm1⟩ : ∃ m : Nd, m = ({ n with run := 1, last := l }) := ⟨_, rfl⟩
  rw [← hm1] at X
  have hL : m.fr = n.fr ∧ m.box = n.box ∧ m.fifo = n.fifo ∧ m.flt = n.flt ∧ m.got.size ≤ maxLen := by rw [hm1]; exact ⟨rfl, rfl, rfl, rfl, hm.size⟩
  replace hm1 := Lib.hid hm1
  replace hL := Lib.hid hL
  by_cases h5 : m.run = 5
  · have e := Lib.hid (show wholeN ({ n with run := 1, last := l }) = m from by rw [← hm1.out]; unfold wholeN; rw [if_neg (fun k => k.2 h5)])
    have c9 : W5.cell? ⟨g, 9, none⟩ = some (.int .i64 5) := (X.cell 9).trans (by rw [← h5]; rfl)
    clear h5
    go_upto_region 6 with fail
    clear c9
    go_wp2_with (first | (refine Nx.take ⟨X.blk, X.bel⟩ rfl rfl rfl ?_) | (refine wpList_put X.res rfl rfl rfl rfl rfl ?_) | (refine wpList_tell (k := 0) (f := zF) (ad := none) (cd := 0) (X.fin (ndC (m) p) #[]).1 rfl rfl rfl rfl rfl ?_))
    obtain ⟨-, Z1, Z2, Z3⟩ := X.fin (ndC (m) p) (hpC (0) (zF) (none) (0))
    refine bodyPost_ret (v := .tuple #[ndV (m) p, hpV (0) (zF) (none) (0)]) ?_ rfl ⟨p, none, 0, by rw [e.out], by rw [e.out]; exact fun u k => ⟨(h0.below (fromM ha0 Z3 k)).lists hL.out.1 hL.out.2.1 hL.out.2.2.1 hL.out.2.2.2.1 hL.out.2.2.2.2, Nums.nil _⟩, Z3⟩
    exact results_both Tryz.results106 _ _ gr gh _ _ rfl rfl Z1 Z2 rfl rfl
  · have h5' : (m.run == 5) = false := beq_eq_false_iff_ne.2 h5
    replace h5 := Lib.hid h5
    have c9 : W5.cell? ⟨g, 9, none⟩ = some (.int .i64 m.run) := X.cell 9
    have c8 : W5.cell? ⟨g, 8, none⟩ = some (.string m.got) := X.cell 8
    go_wp2_with fail
    refine (implWhole m.got _ hL.out.2.2.2.2).mono ?_
    rintro e w6 ⟨rfl, b⟩
    replace X := X.below b
    clear b c8 c9
    cases hw : wholeB m.got
    · have e := Lib.hid (show wholeN ({ n with run := 1, last := l }) = m from by rw [← hm1.out]; unfold wholeN; rw [if_neg (fun k => by rw [hw] at k; exact absurd k.1 (by decide))])
      clear hw
      go_upto_region 6 with fail
      go_wp2_with (first | (refine Nx.take ⟨X.blk, X.bel⟩ rfl rfl rfl ?_) | (refine wpList_put X.res rfl rfl rfl rfl rfl ?_) | (refine wpList_tell (k := 0) (f := zF) (ad := none) (cd := 0) (X.fin (ndC (m) p) #[]).1 rfl rfl rfl rfl rfl ?_))
      obtain ⟨-, Z1, Z2, Z3⟩ := X.fin (ndC (m) p) (hpC (0) (zF) (none) (0))
      refine bodyPost_ret (v := .tuple #[ndV (m) p, hpV (0) (zF) (none) (0)]) ?_ rfl ⟨p, none, 0, by rw [e.out], by rw [e.out]; exact fun u k => ⟨(h0.below (fromM ha0 Z3 k)).lists hL.out.1 hL.out.2.1 hL.out.2.2.1 hL.out.2.2.2.1 hL.out.2.2.2.2, Nums.nil _⟩, Z3⟩
      exact results_both Tryz.results106 _ _ gr gh _ _ rfl rfl Z1 Z2 rfl rfl
    · have e0 := Lib.hid (show wholeN ({ n with run := 1, last := l }) = { m with ph := 2, pos := 0, left := 0, bad := !m.tx && decide (rdCode m.got ≠ 0) } from by rw [← hm1.out]; unfold wholeN; rw [if_pos ⟨hw, h5.out⟩])
      clear hw
      have c8 : w6.cell? ⟨g, 8, none⟩ = some (.string m.got) := X.cell 8
      go_wp2_with fail
      refine (implRead m.got _ hL.out.2.2.2.2 (hE.below X.bel)).mono ?_
      rintro e w7 ⟨v, rfl, O, b⟩
      obtain ⟨av, cv, rfl, -⟩ := O.nums
      replace X := X.below b
      clear b c8 O
      have bb := below_more (Below.refl w7.heap.size w7) (.cells #[.int .i64 (rdId m.got), .bool (rdRm m.got), .int .i64 (rdLn m.got), .slice av (rdD m.got).length cv] 26)
      replace X := X.below bb
      clear bb
      go_upto_region 8 with fail
      generalize w7.alloc _ = W8 at X ⊢
      have c0 : W8.cell? ⟨g, 0, none⟩ = some (.int .i64 m.ph) := X.cell 0
      have c3 : W8.cell? ⟨g, 3, none⟩ = some (.bool m.bad) := X.cell 3
      have c11 : W8.cell? ⟨g, 11, none⟩ = some (.int .i64 m.pos) := X.cell 11
      have c12 : W8.cell? ⟨g, 12, none⟩ = some (.int .i64 m.left) := X.cell 12
      have f0 := X.free 0
      have f3 := X.free 3
      have f11 := X.free 11
      have f12 := X.free 12
      have c1 : W8.cell? ⟨g, 1, none⟩ = some (.bool m.tx) := X.cell 1
      rcases (Bool.eq_false_or_eq_true m.tx).symm with ht | ht
      · by_cases hc : rdCode m.got = 0
        · have hc' : (rdCode m.got != 0) = false := by rw [hc]; rfl
          have e := Lib.hid (e0.out.trans (show _ = { m with ph := 2, pos := 0, left := 0, bad := false } from by rw [ht, decide_eq_false (fun k => k hc)]; rfl))
          rw [ht] at c1
          clear ht hc e0
          go_upto_region 9 with fail
          clear c0 c1 c3 c11 c12 f0 f3 f11 f12
          replace X : N3 g gr gh (ndC ({ m with ph := 2, pos := 0, left := 0, bad := false }) p) w _ := ((((X.set 0 (.int .i64 2)).set 11 (.int .i64 0)).set 12 (.int .i64 0)).set 3 (.bool false))
          generalize World.setCell _ _ _ = W9 at X ⊢
          go_wp2_with (first | (refine Nx.take ⟨X.blk, X.bel⟩ rfl rfl rfl ?_) | (refine wpList_put X.res rfl rfl rfl rfl rfl ?_) | (refine wpList_tell (k := 0) (f := zF) (ad := none) (cd := 0) (X.fin (ndC ({ m with ph := 2, pos := 0, left := 0, bad := false }) p) #[]).1 rfl rfl rfl rfl rfl ?_))
          obtain ⟨-, Z1, Z2, Z3⟩ := X.fin (ndC ({ m with ph := 2, pos := 0, left := 0, bad := false }) p) (hpC (0) (zF) (none) (0))
          refine bodyPost_ret (v := .tuple #[ndV ({ m with ph := 2, pos := 0, left := 0, bad := false }) p, hpV (0) (zF) (none) (0)]) ?_ rfl ⟨p, none, 0, by rw [e.out], by rw [e.out]; exact fun u k => ⟨(h0.below (fromM ha0 Z3 k)).lists hL.out.1 hL.out.2.1 hL.out.2.2.1 hL.out.2.2.2.1 hL.out.2.2.2.2, Nums.nil _⟩, Z3⟩
          exact results_both Tryz.results106 _ _ gr gh _ _ rfl rfl Z1 Z2 rfl rfl
        · have hc' : (rdCode m.got != 0) = true := bne_iff_ne.2 hc
          have e := Lib.hid (e0.out.trans (show _ = { m with ph := 2, pos := 0, left := 0, bad := true } from by rw [ht, decide_eq_true hc]; rfl))
          rw [ht] at c1
          clear ht hc e0
          go_upto_region 9 with fail
          clear c0 c1 c3 c11 c12 f0 f3 f11 f12
          replace X : N3 g gr gh (ndC ({ m with ph := 2, pos := 0, left := 0, bad := true }) p) w _ := ((((X.set 0 (.int .i64 2)).set 11 (.int .i64 0)).set 12 (.int .i64 0)).set 3 (.bool true))
          generalize World.setCell _ _ _ = W9 at X ⊢
          go_wp2_with (first | (refine Nx.take ⟨X.blk, X.bel⟩ rfl rfl rfl ?_) | (refine wpList_put X.res rfl rfl rfl rfl rfl ?_) | (refine wpList_tell (k := 0) (f := zF) (ad := none) (cd := 0) (X.fin (ndC ({ m with ph := 2, pos := 0, left := 0, bad := true }) p) #[]).1 rfl rfl rfl rfl rfl ?_))
          obtain ⟨-, Z1, Z2, Z3⟩ := X.fin (ndC ({ m with ph := 2, pos := 0, left := 0, bad := true }) p) (hpC (0) (zF) (none) (0))
          refine bodyPost_ret (v := .tuple #[ndV ({ m with ph := 2, pos := 0, left := 0, bad := true }) p, hpV (0) (zF) (none) (0)]) ?_ rfl ⟨p, none, 0, by rw [e.out], by rw [e.out]; exact fun u k => ⟨(h0.below (fromM ha0 Z3 k)).lists hL.out.1 hL.out.2.1 hL.out.2.2.1 hL.out.2.2.2.1 hL.out.2.2.2.2, Nums.nil _⟩, Z3⟩
          exact results_both Tryz.results106 _ _ gr gh _ _ rfl rfl Z1 Z2 rfl rfl
      · have e := Lib.hid (e0.out.trans (show _ = { m with ph := 2, pos := 0, left := 0, bad := false } from by rw [ht]; rfl))
        rw [ht] at c1
        clear ht e0
        go_upto_region 9 with fail
        clear c0 c1 c3 c11 c12 f0 f3 f11 f12
        replace X : N3 g gr gh (ndC ({ m with ph := 2, pos := 0, left := 0, bad := false }) p) w _ := ((((X.set 0 (.int .i64 2)).set 11 (.int .i64 0)).set 12 (.int .i64 0)).set 3 (.bool false))
        generalize World.setCell _ _ _ = W9 at X ⊢
        go_wp2_with (first | (refine Nx.take ⟨X.blk, X.bel⟩ rfl rfl rfl ?_) | (refine wpList_put X.res rfl rfl rfl rfl rfl ?_) | (refine wpList_tell (k := 0) (f := zF) (ad := none) (cd := 0) (X.fin (ndC ({ m with ph := 2, pos := 0, left := 0, bad := false }) p) #[]).1 rfl rfl rfl rfl rfl ?_))
        obtain ⟨-, Z1, Z2, Z3⟩ := X.fin (ndC ({ m with ph := 2, pos := 0, left := 0, bad := false }) p) (hpC (0) (zF) (none) (0))
        refine bodyPost_ret (v := .tuple #[ndV ({ m with ph := 2, pos := 0, left := 0, bad := false }) p, hpV (0) (zF) (none) (0)]) ?_ rfl ⟨p, none, 0, by rw [e.out], by rw [e.out]; exact fun u k => ⟨(h0.below (fromM ha0 Z3 k)).lists hL.out.1 hL.out.2.1 hL.out.2.2.1 hL.out.2.2.2.1 hL.out.2.2.2.2, Nums.nil _⟩, Z3⟩
        exact results_both Tryz.results106 _ _ gr gh _ _ rfl rfl Z1 Z2 rfl rfl

set_option maxHeartbeats 4000000 in
/-- impl.inBody, six alike. -/
theorem implBodySix (n : Nd) (p : NdP) (l : Int) (w : World) (h5r : n.run = 5) (hne : l = n.last) :
    Calls Tryz.prog 106 #[ndV n p, .int .i64 l] w (Broke w) := by
  replace h5r := Lib.hid h5r
  have hn' : (l == n.last) = true := beq_iff_eq.2 hne
  clear hne
  have X := N3.made (ndC n p) w
  go_enter Tryz.func106, Tryz.ntmps106
  go_upto_region 1 with fail
  generalize World.alloc _ _ = W at X ⊢
  generalize w.heap.size + 1 + 1 = gh at X ⊢
  generalize w.heap.size + 1 = gr at X ⊢
  generalize w.heap.size = g at X ⊢
  have c9 : W.cell? ⟨g, 9, none⟩ = some (.int .i64 5) := (X.cell 9).trans (by rw [← h5r.out]; rfl)
  have c10 : W.cell? ⟨g, 10, none⟩ = some (.int .i64 n.last) := X.cell 10
  go_wp2_with fail
  refine (implBreak _).mono ?_
  rintro e w3 ⟨rfl, b⟩
  exact ⟨rfl, rfl, Below.then2 X.bel b⟩

set_option maxHeartbeats 4000000 in
/-- impl.inBody, where it parts. -/
theorem implBodyPart (n : Nd) (p : NdP) (l : Int) (w : World) (hm : NdM n p w) (hok : nodeB n = true) (h5r : n.run ≠ 5) (htx : n.tx = true) (hk : l ≠ nextV n) (hl2 : l = 1 ∨ 12 < n.got.size) (hs : n.got.size ≤ 98) :
    Calls Tryz.prog 106 #[ndV n p, .int .i64 l] w (Broke w) := by
  replace htx := Lib.hid htx
  replace hk := Lib.hid hk
  replace hl2 := Lib.hid hl2
  have h5' : (n.run == 5) = false := beq_eq_false_iff_ne.2 h5r
  clear h5r
  have X := N3.made (ndC n p) w
  go_enter Tryz.func106, Tryz.ntmps106
  go_upto_region 1 with fail
  generalize World.alloc _ _ = W at X ⊢
  generalize w.heap.size + 1 + 1 = gh at X ⊢
  generalize w.heap.size + 1 = gr at X ⊢
  generalize w.heap.size = g at X ⊢
  have c9 : W.cell? ⟨g, 9, none⟩ = some (.int .i64 n.run) := X.cell 9
  go_wp2_with (refine Nx.take ⟨X.blk, X.bel⟩ rfl rfl rfl ?_)
  refine (implPart n p l _ (hm.below X.bel) hok htx.out hk.out hl2.out hs).mono ?_
  rintro e w3 ⟨rfl, b⟩
  exact ⟨rfl, rfl, Below.then2 X.bel b⟩

theorem hear_size (n : Nd) (l : Int) : (hearN n l).got.size = n.got.size + 1 := by show (n.got ++ bitS l).size = _; rw [ByteArray.size_append, bitS_size]

set_option maxHeartbeats 16000000 in
/-- impl.inBody of one that goes on. -/
theorem implBodyKeep (n : Nd) (p : NdP) (l : Int) (w : World) (a0 : World) (h0 : NdM n p a0) (ha0 : Below a0.heap.size a0 w) (hE : ErrHeld w) (hok : nodeB n = true) (hl : l = 0 ∨ l = 1) (h5r : n.run ≠ 5) (hr : 0 ≤ n.run ∧ n.run ≤ 11) (hs : n.got.size ≤ 98) (hk : n.tx = false ∨ l = nextV n) :
    Calls Tryz.prog 106 #[ndV n p, .int .i64 l] w (SampX a0 (wholeN (hearN (n) l), 0, zF) w) := by
  have hm := h0.below ha0
  replace hk := Lib.hid hk
  have h5' : (n.run == 5) = false := beq_eq_false_iff_ne.2 h5r
  clear h5r
  have X := N3.made (ndC n p) w
  go_enter Tryz.func106, Tryz.ntmps106
  go_upto_region 1 with fail
  generalize World.alloc _ _ = W at X ⊢
  generalize w.heap.size + 1 + 1 = gh at X ⊢
  generalize w.heap.size + 1 = gr at X ⊢
  generalize w.heap.size = g at X ⊢
  have c9 : W.cell? ⟨g, 9, none⟩ = some (.int .i64 n.run) := X.cell 9
  go_wp2_with (refine Nx.take ⟨X.blk, X.bel⟩ rfl rfl rfl ?_)
  clear c9
  refine (implKeep n p l _ (hm.below X.bel) hok hk.out).mono ?_
  rintro e w2 ⟨rfl, b⟩
  replace X := X.below b
  clear b
  go_wp2_with fail
  refine (implHear (n) p l _ hl hr hs).mono ?_
  rintro e w3 ⟨rfl, b⟩
  replace X := X.below b
  clear b
  go_upto_region 5 with (refine wpList_put X.blk rfl rfl rfl rfl rfl ?_)
  replace X : N3 g gr gh (ndC (hearN (n) l) p) w _ := X.put _
  generalize World.setRow _ _ _ = W5 at X ⊢
  have hsz1 : (hearN (n) l).got.size ≤ maxLen := by have := hear_size (n) l; have h2 : n.got.size ≤ 98 := hs; have h3 : (hearN (n) l).got.size = n.got.size + 1 := this; unfold maxLen; omega
  obtain ⟨m, hm1⟩ : ∃ m : Nd, m = (hearN (n) l) := ⟨_, rfl⟩
  rw [← hm1] at X
  have hL : m.fr = n.fr ∧ m.box = n.box ∧ m.fifo = n.fifo ∧ m.flt = n.flt ∧ m.got.size ≤ maxLen := by rw [hm1]; exact ⟨rfl, rfl, rfl, rfl, hsz1⟩
  replace hm1 := Lib.hid hm1
  replace hL := Lib.hid hL
  by_cases h5 : m.run = 5
  · have e := Lib.hid (show wholeN (hearN (n) l) = m from by rw [← hm1.out]; unfold wholeN; rw [if_neg (fun k => k.2 h5)])
    have c9 : W5.cell? ⟨g, 9, none⟩ = some (.int .i64 5) := (X.cell 9).trans (by rw [← h5]; rfl)
    clear h5
    go_upto_region 6 with fail
    clear c9
    go_wp2_with (first | (refine Nx.take ⟨X.blk, X.bel⟩ rfl rfl rfl ?_) | (refine wpList_put X.res rfl rfl rfl rfl rfl ?_) | (refine wpList_tell (k := 0) (f := zF) (ad := none) (cd := 0) (X.fin (ndC (m) p) #[]).1 rfl rfl rfl rfl rfl ?_))
    obtain ⟨-, Z1, Z2, Z3⟩ := X.fin (ndC (m) p) (hpC (0) (zF) (none) (0))
    refine bodyPost_ret (v := .tuple #[ndV (m) p, hpV (0) (zF) (none) (0)]) ?_ rfl ⟨p, none, 0, by rw [e.out], by rw [e.out]; exact fun u k => ⟨(h0.below (fromM ha0 Z3 k)).lists hL.out.1 hL.out.2.1 hL.out.2.2.1 hL.out.2.2.2.1 hL.out.2.2.2.2, Nums.nil _⟩, Z3⟩
    exact results_both Tryz.results106 _ _ gr gh _ _ rfl rfl Z1 Z2 rfl rfl
  · have h5' : (m.run == 5) = false := beq_eq_false_iff_ne.2 h5
    replace h5 := Lib.hid h5
    have c9 : W5.cell? ⟨g, 9, none⟩ = some (.int .i64 m.run) := X.cell 9
    have c8 : W5.cell? ⟨g, 8, none⟩ = some (.string m.got) := X.cell 8
    go_wp2_with fail
    refine (implWhole m.got _ hL.out.2.2.2.2).mono ?_
    rintro e w6 ⟨rfl, b⟩
    replace X := X.below b
    clear b c8 c9
    cases hw : wholeB m.got
    · have e := Lib.hid (show wholeN (hearN (n) l) = m from by rw [← hm1.out]; unfold wholeN; rw [if_neg (fun k => by rw [hw] at k; exact absurd k.1 (by decide))])
      clear hw
      go_upto_region 6 with fail
      go_wp2_with (first | (refine Nx.take ⟨X.blk, X.bel⟩ rfl rfl rfl ?_) | (refine wpList_put X.res rfl rfl rfl rfl rfl ?_) | (refine wpList_tell (k := 0) (f := zF) (ad := none) (cd := 0) (X.fin (ndC (m) p) #[]).1 rfl rfl rfl rfl rfl ?_))
      obtain ⟨-, Z1, Z2, Z3⟩ := X.fin (ndC (m) p) (hpC (0) (zF) (none) (0))
      refine bodyPost_ret (v := .tuple #[ndV (m) p, hpV (0) (zF) (none) (0)]) ?_ rfl ⟨p, none, 0, by rw [e.out], by rw [e.out]; exact fun u k => ⟨(h0.below (fromM ha0 Z3 k)).lists hL.out.1 hL.out.2.1 hL.out.2.2.1 hL.out.2.2.2.1 hL.out.2.2.2.2, Nums.nil _⟩, Z3⟩
      exact results_both Tryz.results106 _ _ gr gh _ _ rfl rfl Z1 Z2 rfl rfl
    · have e0 := Lib.hid (show wholeN (hearN (n) l) = { m with ph := 2, pos := 0, left := 0, bad := !m.tx && decide (rdCode m.got ≠ 0) } from by rw [← hm1.out]; unfold wholeN; rw [if_pos ⟨hw, h5.out⟩])
      clear hw
      have c8 : w6.cell? ⟨g, 8, none⟩ = some (.string m.got) := X.cell 8
      go_wp2_with fail
      refine (implRead m.got _ hL.out.2.2.2.2 (hE.below X.bel)).mono ?_
      rintro e w7 ⟨v, rfl, O, b⟩
      obtain ⟨av, cv, rfl, -⟩ := O.nums
      replace X := X.below b
      clear b c8 O
      have bb := below_more (Below.refl w7.heap.size w7) (.cells #[.int .i64 (rdId m.got), .bool (rdRm m.got), .int .i64 (rdLn m.got), .slice av (rdD m.got).length cv] 26)
      replace X := X.below bb
      clear bb
      go_upto_region 8 with fail
      generalize w7.alloc _ = W8 at X ⊢
      have c0 : W8.cell? ⟨g, 0, none⟩ = some (.int .i64 m.ph) := X.cell 0
      have c3 : W8.cell? ⟨g, 3, none⟩ = some (.bool m.bad) := X.cell 3
      have c11 : W8.cell? ⟨g, 11, none⟩ = some (.int .i64 m.pos) := X.cell 11
      have c12 : W8.cell? ⟨g, 12, none⟩ = some (.int .i64 m.left) := X.cell 12
      have f0 := X.free 0
      have f3 := X.free 3
      have f11 := X.free 11
      have f12 := X.free 12
      have c1 : W8.cell? ⟨g, 1, none⟩ = some (.bool m.tx) := X.cell 1
      rcases (Bool.eq_false_or_eq_true m.tx).symm with ht | ht
      · by_cases hc : rdCode m.got = 0
        · have hc' : (rdCode m.got != 0) = false := by rw [hc]; rfl
          have e := Lib.hid (e0.out.trans (show _ = { m with ph := 2, pos := 0, left := 0, bad := false } from by rw [ht, decide_eq_false (fun k => k hc)]; rfl))
          rw [ht] at c1
          clear ht hc e0
          go_upto_region 9 with fail
          clear c0 c1 c3 c11 c12 f0 f3 f11 f12
          replace X : N3 g gr gh (ndC ({ m with ph := 2, pos := 0, left := 0, bad := false }) p) w _ := ((((X.set 0 (.int .i64 2)).set 11 (.int .i64 0)).set 12 (.int .i64 0)).set 3 (.bool false))
          generalize World.setCell _ _ _ = W9 at X ⊢
          go_wp2_with (first | (refine Nx.take ⟨X.blk, X.bel⟩ rfl rfl rfl ?_) | (refine wpList_put X.res rfl rfl rfl rfl rfl ?_) | (refine wpList_tell (k := 0) (f := zF) (ad := none) (cd := 0) (X.fin (ndC ({ m with ph := 2, pos := 0, left := 0, bad := false }) p) #[]).1 rfl rfl rfl rfl rfl ?_))
          obtain ⟨-, Z1, Z2, Z3⟩ := X.fin (ndC ({ m with ph := 2, pos := 0, left := 0, bad := false }) p) (hpC (0) (zF) (none) (0))
          refine bodyPost_ret (v := .tuple #[ndV ({ m with ph := 2, pos := 0, left := 0, bad := false }) p, hpV (0) (zF) (none) (0)]) ?_ rfl ⟨p, none, 0, by rw [e.out], by rw [e.out]; exact fun u k => ⟨(h0.below (fromM ha0 Z3 k)).lists hL.out.1 hL.out.2.1 hL.out.2.2.1 hL.out.2.2.2.1 hL.out.2.2.2.2, Nums.nil _⟩, Z3⟩
          exact results_both Tryz.results106 _ _ gr gh _ _ rfl rfl Z1 Z2 rfl rfl
        · have hc' : (rdCode m.got != 0) = true := bne_iff_ne.2 hc
          have e := Lib.hid (e0.out.trans (show _ = { m with ph := 2, pos := 0, left := 0, bad := true } from by rw [ht, decide_eq_true hc]; rfl))
          rw [ht] at c1
          clear ht hc e0
          go_upto_region 9 with fail
          clear c0 c1 c3 c11 c12 f0 f3 f11 f12
          replace X : N3 g gr gh (ndC ({ m with ph := 2, pos := 0, left := 0, bad := true }) p) w _ := ((((X.set 0 (.int .i64 2)).set 11 (.int .i64 0)).set 12 (.int .i64 0)).set 3 (.bool true))
          generalize World.setCell _ _ _ = W9 at X ⊢
          go_wp2_with (first | (refine Nx.take ⟨X.blk, X.bel⟩ rfl rfl rfl ?_) | (refine wpList_put X.res rfl rfl rfl rfl rfl ?_) | (refine wpList_tell (k := 0) (f := zF) (ad := none) (cd := 0) (X.fin (ndC ({ m with ph := 2, pos := 0, left := 0, bad := true }) p) #[]).1 rfl rfl rfl rfl rfl ?_))
          obtain ⟨-, Z1, Z2, Z3⟩ := X.fin (ndC ({ m with ph := 2, pos := 0, left := 0, bad := true }) p) (hpC (0) (zF) (none) (0))
          refine bodyPost_ret (v := .tuple #[ndV ({ m with ph := 2, pos := 0, left := 0, bad := true }) p, hpV (0) (zF) (none) (0)]) ?_ rfl ⟨p, none, 0, by rw [e.out], by rw [e.out]; exact fun u k => ⟨(h0.below (fromM ha0 Z3 k)).lists hL.out.1 hL.out.2.1 hL.out.2.2.1 hL.out.2.2.2.1 hL.out.2.2.2.2, Nums.nil _⟩, Z3⟩
          exact results_both Tryz.results106 _ _ gr gh _ _ rfl rfl Z1 Z2 rfl rfl
      · have e := Lib.hid (e0.out.trans (show _ = { m with ph := 2, pos := 0, left := 0, bad := false } from by rw [ht]; rfl))
        rw [ht] at c1
        clear ht e0
        go_upto_region 9 with fail
        clear c0 c1 c3 c11 c12 f0 f3 f11 f12
        replace X : N3 g gr gh (ndC ({ m with ph := 2, pos := 0, left := 0, bad := false }) p) w _ := ((((X.set 0 (.int .i64 2)).set 11 (.int .i64 0)).set 12 (.int .i64 0)).set 3 (.bool false))
        generalize World.setCell _ _ _ = W9 at X ⊢
        go_wp2_with (first | (refine Nx.take ⟨X.blk, X.bel⟩ rfl rfl rfl ?_) | (refine wpList_put X.res rfl rfl rfl rfl rfl ?_) | (refine wpList_tell (k := 0) (f := zF) (ad := none) (cd := 0) (X.fin (ndC ({ m with ph := 2, pos := 0, left := 0, bad := false }) p) #[]).1 rfl rfl rfl rfl rfl ?_))
        obtain ⟨-, Z1, Z2, Z3⟩ := X.fin (ndC ({ m with ph := 2, pos := 0, left := 0, bad := false }) p) (hpC (0) (zF) (none) (0))
        refine bodyPost_ret (v := .tuple #[ndV ({ m with ph := 2, pos := 0, left := 0, bad := false }) p, hpV (0) (zF) (none) (0)]) ?_ rfl ⟨p, none, 0, by rw [e.out], by rw [e.out]; exact fun u k => ⟨(h0.below (fromM ha0 Z3 k)).lists hL.out.1 hL.out.2.1 hL.out.2.2.1 hL.out.2.2.2.1 hL.out.2.2.2.2, Nums.nil _⟩, Z3⟩
        exact results_both Tryz.results106 _ _ gr gh _ _ rfl rfl Z1 Z2 rfl rfl

set_option maxHeartbeats 16000000 in
/-- impl.inBody of one that falls silent. -/
theorem implBodyLose (n : Nd) (p : NdP) (l : Int) (w : World) (a0 : World) (h0 : NdM n p a0) (ha0 : Below a0.heap.size a0 w) (hE : ErrHeld w) (hok : nodeB n = true) (hl : l = 0 ∨ l = 1) (h5r : n.run ≠ 5) (hr : 0 ≤ n.run ∧ n.run ≤ 11) (hs : n.got.size ≤ 98) (htx : n.tx = true) (hk : l ≠ nextV n) (hl2 : l = 0 ∧ n.got.size ≤ 12) :
    Calls Tryz.prog 106 #[ndV n p, .int .i64 l] w (SampX a0 (wholeN (hearN ({ n with tx := false }) l), 0, zF) w) := by
  have hm := h0.below ha0
  replace htx := Lib.hid htx
  replace hk := Lib.hid hk
  replace hl2 := Lib.hid hl2
  have h5' : (n.run == 5) = false := beq_eq_false_iff_ne.2 h5r
  clear h5r
  have X := N3.made (ndC n p) w
  go_enter Tryz.func106, Tryz.ntmps106
  go_upto_region 1 with fail
  generalize World.alloc _ _ = W at X ⊢
  generalize w.heap.size + 1 + 1 = gh at X ⊢
  generalize w.heap.size + 1 = gr at X ⊢
  generalize w.heap.size = g at X ⊢
  have c9 : W.cell? ⟨g, 9, none⟩ = some (.int .i64 n.run) := X.cell 9
  go_wp2_with (refine Nx.take ⟨X.blk, X.bel⟩ rfl rfl rfl ?_)
  clear c9
  refine (implLose n p l _ (hm.below X.bel) hok htx.out hk.out hl2.out.1 hl2.out.2).mono ?_
  rintro e w2 ⟨rfl, b⟩
  replace X := X.below b
  clear b
  go_wp2_with fail
  refine (implHear ({ n with tx := false }) p l _ hl hr hs).mono ?_
  rintro e w3 ⟨rfl, b⟩
  replace X := X.below b
  clear b
  go_upto_region 5 with (refine wpList_put X.blk rfl rfl rfl rfl rfl ?_)
  replace X : N3 g gr gh (ndC (hearN ({ n with tx := false }) l) p) w _ := X.put _
  generalize World.setRow _ _ _ = W5 at X ⊢
  have hsz1 : (hearN ({ n with tx := false }) l).got.size ≤ maxLen := by have := hear_size ({ n with tx := false }) l; have h2 : n.got.size ≤ 98 := hs; have h3 : (hearN ({ n with tx := false }) l).got.size = n.got.size + 1 := this; unfold maxLen; omega
  obtain ⟨m, hm1⟩ : ∃ m : Nd, m = (hearN ({ n with tx := false }) l) := ⟨_, rfl⟩
  rw [← hm1] at X
  have hL : m.fr = n.fr ∧ m.box = n.box ∧ m.fifo = n.fifo ∧ m.flt = n.flt ∧ m.got.size ≤ maxLen := by rw [hm1]; exact ⟨rfl, rfl, rfl, rfl, hsz1⟩
  replace hm1 := Lib.hid hm1
  replace hL := Lib.hid hL
  by_cases h5 : m.run = 5
  · have e := Lib.hid (show wholeN (hearN ({ n with tx := false }) l) = m from by rw [← hm1.out]; unfold wholeN; rw [if_neg (fun k => k.2 h5)])
    have c9 : W5.cell? ⟨g, 9, none⟩ = some (.int .i64 5) := (X.cell 9).trans (by rw [← h5]; rfl)
    clear h5
    go_upto_region 6 with fail
    clear c9
    go_wp2_with (first | (refine Nx.take ⟨X.blk, X.bel⟩ rfl rfl rfl ?_) | (refine wpList_put X.res rfl rfl rfl rfl rfl ?_) | (refine wpList_tell (k := 0) (f := zF) (ad := none) (cd := 0) (X.fin (ndC (m) p) #[]).1 rfl rfl rfl rfl rfl ?_))
    obtain ⟨-, Z1, Z2, Z3⟩ := X.fin (ndC (m) p) (hpC (0) (zF) (none) (0))
    refine bodyPost_ret (v := .tuple #[ndV (m) p, hpV (0) (zF) (none) (0)]) ?_ rfl ⟨p, none, 0, by rw [e.out], by rw [e.out]; exact fun u k => ⟨(h0.below (fromM ha0 Z3 k)).lists hL.out.1 hL.out.2.1 hL.out.2.2.1 hL.out.2.2.2.1 hL.out.2.2.2.2, Nums.nil _⟩, Z3⟩
    exact results_both Tryz.results106 _ _ gr gh _ _ rfl rfl Z1 Z2 rfl rfl
  · have h5' : (m.run == 5) = false := beq_eq_false_iff_ne.2 h5
    replace h5 := Lib.hid h5
    have c9 : W5.cell? ⟨g, 9, none⟩ = some (.int .i64 m.run) := X.cell 9
    have c8 : W5.cell? ⟨g, 8, none⟩ = some (.string m.got) := X.cell 8
    go_wp2_with fail
    refine (implWhole m.got _ hL.out.2.2.2.2).mono ?_
    rintro e w6 ⟨rfl, b⟩
    replace X := X.below b
    clear b c8 c9
    cases hw : wholeB m.got
    · have e := Lib.hid (show wholeN (hearN ({ n with tx := false }) l) = m from by rw [← hm1.out]; unfold wholeN; rw [if_neg (fun k => by rw [hw] at k; exact absurd k.1 (by decide))])
      clear hw
      go_upto_region 6 with fail
      go_wp2_with (first | (refine Nx.take ⟨X.blk, X.bel⟩ rfl rfl rfl ?_) | (refine wpList_put X.res rfl rfl rfl rfl rfl ?_) | (refine wpList_tell (k := 0) (f := zF) (ad := none) (cd := 0) (X.fin (ndC (m) p) #[]).1 rfl rfl rfl rfl rfl ?_))
      obtain ⟨-, Z1, Z2, Z3⟩ := X.fin (ndC (m) p) (hpC (0) (zF) (none) (0))
      refine bodyPost_ret (v := .tuple #[ndV (m) p, hpV (0) (zF) (none) (0)]) ?_ rfl ⟨p, none, 0, by rw [e.out], by rw [e.out]; exact fun u k => ⟨(h0.below (fromM ha0 Z3 k)).lists hL.out.1 hL.out.2.1 hL.out.2.2.1 hL.out.2.2.2.1 hL.out.2.2.2.2, Nums.nil _⟩, Z3⟩
      exact results_both Tryz.results106 _ _ gr gh _ _ rfl rfl Z1 Z2 rfl rfl
    · have e0 := Lib.hid (show wholeN (hearN ({ n with tx := false }) l) = { m with ph := 2, pos := 0, left := 0, bad := !m.tx && decide (rdCode m.got ≠ 0) } from by rw [← hm1.out]; unfold wholeN; rw [if_pos ⟨hw, h5.out⟩])
      clear hw
      have c8 : w6.cell? ⟨g, 8, none⟩ = some (.string m.got) := X.cell 8
      go_wp2_with fail
      refine (implRead m.got _ hL.out.2.2.2.2 (hE.below X.bel)).mono ?_
      rintro e w7 ⟨v, rfl, O, b⟩
      obtain ⟨av, cv, rfl, -⟩ := O.nums
      replace X := X.below b
      clear b c8 O
      have bb := below_more (Below.refl w7.heap.size w7) (.cells #[.int .i64 (rdId m.got), .bool (rdRm m.got), .int .i64 (rdLn m.got), .slice av (rdD m.got).length cv] 26)
      replace X := X.below bb
      clear bb
      go_upto_region 8 with fail
      generalize w7.alloc _ = W8 at X ⊢
      have c0 : W8.cell? ⟨g, 0, none⟩ = some (.int .i64 m.ph) := X.cell 0
      have c3 : W8.cell? ⟨g, 3, none⟩ = some (.bool m.bad) := X.cell 3
      have c11 : W8.cell? ⟨g, 11, none⟩ = some (.int .i64 m.pos) := X.cell 11
      have c12 : W8.cell? ⟨g, 12, none⟩ = some (.int .i64 m.left) := X.cell 12
      have f0 := X.free 0
      have f3 := X.free 3
      have f11 := X.free 11
      have f12 := X.free 12
      have c1 : W8.cell? ⟨g, 1, none⟩ = some (.bool m.tx) := X.cell 1
      rcases (Bool.eq_false_or_eq_true m.tx).symm with ht | ht
      · by_cases hc : rdCode m.got = 0
        · have hc' : (rdCode m.got != 0) = false := by rw [hc]; rfl
          have e := Lib.hid (e0.out.trans (show _ = { m with ph := 2, pos := 0, left := 0, bad := false } from by rw [ht, decide_eq_false (fun k => k hc)]; rfl))
          rw [ht] at c1
          clear ht hc e0
          go_upto_region 9 with fail
          clear c0 c1 c3 c11 c12 f0 f3 f11 f12
          replace X : N3 g gr gh (ndC ({ m with ph := 2, pos := 0, left := 0, bad := false }) p) w _ := ((((X.set 0 (.int .i64 2)).set 11 (.int .i64 0)).set 12 (.int .i64 0)).set 3 (.bool false))
          generalize World.setCell _ _ _ = W9 at X ⊢
          go_wp2_with (first | (refine Nx.take ⟨X.blk, X.bel⟩ rfl rfl rfl ?_) | (refine wpList_put X.res rfl rfl rfl rfl rfl ?_) | (refine wpList_tell (k := 0) (f := zF) (ad := none) (cd := 0) (X.fin (ndC ({ m with ph := 2, pos := 0, left := 0, bad := false }) p) #[]).1 rfl rfl rfl rfl rfl ?_))
          obtain ⟨-, Z1, Z2, Z3⟩ := X.fin (ndC ({ m with ph := 2, pos := 0, left := 0, bad := false }) p) (hpC (0) (zF) (none) (0))
          refine bodyPost_ret (v := .tuple #[ndV ({ m with ph := 2, pos := 0, left := 0, bad := false }) p, hpV (0) (zF) (none) (0)]) ?_ rfl ⟨p, none, 0, by rw [e.out], by rw [e.out]; exact fun u k => ⟨(h0.below (fromM ha0 Z3 k)).lists hL.out.1 hL.out.2.1 hL.out.2.2.1 hL.out.2.2.2.1 hL.out.2.2.2.2, Nums.nil _⟩, Z3⟩
          exact results_both Tryz.results106 _ _ gr gh _ _ rfl rfl Z1 Z2 rfl rfl
        · have hc' : (rdCode m.got != 0) = true := bne_iff_ne.2 hc
          have e := Lib.hid (e0.out.trans (show _ = { m with ph := 2, pos := 0, left := 0, bad := true } from by rw [ht, decide_eq_true hc]; rfl))
          rw [ht] at c1
          clear ht hc e0
          go_upto_region 9 with fail
          clear c0 c1 c3 c11 c12 f0 f3 f11 f12
          replace X : N3 g gr gh (ndC ({ m with ph := 2, pos := 0, left := 0, bad := true }) p) w _ := ((((X.set 0 (.int .i64 2)).set 11 (.int .i64 0)).set 12 (.int .i64 0)).set 3 (.bool true))
          generalize World.setCell _ _ _ = W9 at X ⊢
          go_wp2_with (first | (refine Nx.take ⟨X.blk, X.bel⟩ rfl rfl rfl ?_) | (refine wpList_put X.res rfl rfl rfl rfl rfl ?_) | (refine wpList_tell (k := 0) (f := zF) (ad := none) (cd := 0) (X.fin (ndC ({ m with ph := 2, pos := 0, left := 0, bad := true }) p) #[]).1 rfl rfl rfl rfl rfl ?_))
          obtain ⟨-, Z1, Z2, Z3⟩ := X.fin (ndC ({ m with ph := 2, pos := 0, left := 0, bad := true }) p) (hpC (0) (zF) (none) (0))
          refine bodyPost_ret (v := .tuple #[ndV ({ m with ph := 2, pos := 0, left := 0, bad := true }) p, hpV (0) (zF) (none) (0)]) ?_ rfl ⟨p, none, 0, by rw [e.out], by rw [e.out]; exact fun u k => ⟨(h0.below (fromM ha0 Z3 k)).lists hL.out.1 hL.out.2.1 hL.out.2.2.1 hL.out.2.2.2.1 hL.out.2.2.2.2, Nums.nil _⟩, Z3⟩
          exact results_both Tryz.results106 _ _ gr gh _ _ rfl rfl Z1 Z2 rfl rfl
      · have e := Lib.hid (e0.out.trans (show _ = { m with ph := 2, pos := 0, left := 0, bad := false } from by rw [ht]; rfl))
        rw [ht] at c1
        clear ht e0
        go_upto_region 9 with fail
        clear c0 c1 c3 c11 c12 f0 f3 f11 f12
        replace X : N3 g gr gh (ndC ({ m with ph := 2, pos := 0, left := 0, bad := false }) p) w _ := ((((X.set 0 (.int .i64 2)).set 11 (.int .i64 0)).set 12 (.int .i64 0)).set 3 (.bool false))
        generalize World.setCell _ _ _ = W9 at X ⊢
        go_wp2_with (first | (refine Nx.take ⟨X.blk, X.bel⟩ rfl rfl rfl ?_) | (refine wpList_put X.res rfl rfl rfl rfl rfl ?_) | (refine wpList_tell (k := 0) (f := zF) (ad := none) (cd := 0) (X.fin (ndC ({ m with ph := 2, pos := 0, left := 0, bad := false }) p) #[]).1 rfl rfl rfl rfl rfl ?_))
        obtain ⟨-, Z1, Z2, Z3⟩ := X.fin (ndC ({ m with ph := 2, pos := 0, left := 0, bad := false }) p) (hpC (0) (zF) (none) (0))
        refine bodyPost_ret (v := .tuple #[ndV ({ m with ph := 2, pos := 0, left := 0, bad := false }) p, hpV (0) (zF) (none) (0)]) ?_ rfl ⟨p, none, 0, by rw [e.out], by rw [e.out]; exact fun u k => ⟨(h0.below (fromM ha0 Z3 k)).lists hL.out.1 hL.out.2.1 hL.out.2.2.1 hL.out.2.2.2.1 hL.out.2.2.2.2, Nums.nil _⟩, Z3⟩
        exact results_both Tryz.results106 _ _ gr gh _ _ rfl rfl Z1 Z2 rfl rfl
end Go.Proofs.YtpenjbpcebfecaaGreatDoor
