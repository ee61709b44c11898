/- The program's brokenOff, its table of steps, and copiedNode. -/
import Derived.Test.YtngcekegngmedaaGreatDoorM40
import Derived.Test.YtngcekegngmedaaGreatDoorM29
import Derived.Recover
import Derived.Test.YtngcekegngmedaaGreatDoorM35
import Derived.Test.YtngcekegngmedaaGreatDoorM38
import Derived.Test.YtngcekegngmedaaGreatDoorM9
import Derived.Test.YtngcekegngmedaaGreatDoorM31

set_option linter.unusedVariables false
set_option linter.unusedSimpArgs false
set_option maxRecDepth 20000
namespace Go.Proofs.YtngcekegngmedaaGreatDoor
open Go.RowKit


set_option maxHeartbeats 16000000 in
/-- impl.brokenOff. -/
theorem implBroken (n : Nd) (p : NdP) (w : World) :
    Calls Tryz.prog 154 #[ndV n p] w (Told (brkN n).1 (brkN n).2.1 p w) := by
  rcases Bool.eq_false_or_eq_true n.tx with ht | ht
  · have h1 : badA n = sbA n.cs n.cg := by unfold badA; rw [ht]; first | exact if_pos rfl | exact if_neg (by decide)
    have h2 : badB n = swB n.cs n.cg := by unfold badB; rw [ht]; first | exact if_pos rfl | exact if_neg (by decide)
    unfold brkN
    rw [h1, h2]
    clear h1 h2
    generalize ha : sbA n.cs n.cg = ca at *
    generalize hb : swB n.cs n.cg = cb at *
    replace ha := Lib.hid ha
    replace hb := Lib.hid hb
    replace ht := Lib.hid ht
    by_cases hs2 : stV ca cb = 2
    · rw [if_pos hs2]
      generalize hst : stV ca cb = st at *
      replace hst := Lib.hid hst
      have e2 : (st == 2) = true := beq_iff_eq.2 hs2
      clear hs2
      have X := N3.made (ndC n p) w
      go_enter Tryz.func154, Tryz.ntmps154
      go_upto_region 1 with fail
      generalize World.alloc _ _ = W at X ⊢
      generalize w.heap.size + 1 + 1 = gh at X ⊢
      generalize w.heap.size + 1 = gr at X ⊢
      generalize w.heap.size = g at X ⊢
      have c1 : W.cell? ⟨g, 1, none⟩ = some (.bool n.tx) := X.cell 1
      have c13 : W.cell? ⟨g, 13, none⟩ = some (.int .i64 n.cs) := X.cell 13
      have c14 : W.cell? ⟨g, 14, none⟩ = some (.int .i64 n.cg) := X.cell 14
      rw [ht.out] at c1
      go_wp2_with fail
      refine (implSentBad _ _ _).mono ?_
      rintro e w2 ⟨rfl, b⟩
      rw [ha.out, hb.out]
      replace X := X.below b
      clear b c1 c13 c14
      have c13 : w2.cell? ⟨g, 13, none⟩ = some (.int .i64 n.cs) := X.cell 13
      have c14 : w2.cell? ⟨g, 14, none⟩ = some (.int .i64 n.cg) := X.cell 14
      have f13 := X.free 13
      have f14 := X.free 14
      go_upto_region 4 with fail
      clear c13 c14 f13 f14
      replace X : N3 g gr gh (ndC ({ n with cs := ca, cg := cb }) p) w _ := ((X.set 13 (.int .i64 ca)).set 14 (.int .i64 cb))
      generalize World.setCell _ _ _ = W3 at X ⊢
      go_wp2_with (refine Nx.take ⟨X.blk, X.bel⟩ rfl rfl rfl ?_)
      refine (implUnseen { n with cs := ca, cg := cb } p _).mono ?_
      rintro e w4 ⟨rfl, b⟩
      replace X := X.below b
      clear b
      go_upto_region 5 with (refine wpList_put X.blk rfl rfl rfl rfl rfl ?_)
      replace X : N3 g gr gh (ndC (unN { n with cs := ca, cg := cb }) p) w _ := X.put _
      generalize World.setRow _ _ _ = W5 at X ⊢
      have c3 : W5.cell? ⟨g, 3, none⟩ = some (.bool n.bad) := X.cell 3
      have f3 := X.free 3
      go_upto_region 6 with fail
      clear c3 f3
      replace X : N3 g gr gh (ndC ({ n with cs := ca, cg := cb, got := ⟨#[]⟩, run := 0, last := 0, pos := 0, bad := false }) p) w _ := (X.set 3 (.bool false))
      generalize World.setCell _ _ _ = W6 at X ⊢
      have c13 : W6.cell? ⟨g, 13, none⟩ = some (.int .i64 ca) := X.cell 13
      have c14 : W6.cell? ⟨g, 14, none⟩ = some (.int .i64 cb) := X.cell 14
      go_wp2_with fail
      refine (implStateOf _ _ _).mono ?_
      rintro e w7 ⟨rfl, b⟩
      rw [hst.out]
      replace X := X.below b
      clear b c13 c14
      have c0 : w7.cell? ⟨g, 0, none⟩ = some (.int .i64 n.ph) := X.cell 0
      have c12 : w7.cell? ⟨g, 12, none⟩ = some (.int .i64 n.left) := X.cell 12
      have f0 := X.free 0
      have f12 := X.free 12
      go_upto_region 9 with fail
      clear c0 c12 f0 f12
      replace X : N3 g gr gh (ndC ({ n with cs := ca, cg := cb, got := ⟨#[]⟩, run := 0, last := 0, pos := 0, bad := false, ph := 7, left := 128 }) p) w _ := ((X.set 0 (.int .i64 7)).set 12 (.int .i64 128))
      generalize World.setCell _ _ _ = W8 at X ⊢
      go_wp2_with (first | (refine Nx.take ⟨X.blk, X.bel⟩ rfl rfl rfl ?_) | (refine wpList_put X.res rfl rfl rfl rfl rfl ?_) | (refine wpList_tell (k := 5) (f := zF) (ad := none) (cd := 0) (X.fin (ndC ({ n with cs := ca, cg := cb, got := ⟨#[]⟩, run := 0, last := 0, pos := 0, bad := false, ph := 7, left := 128 }) p) #[]).1 rfl rfl rfl rfl rfl ?_))
      obtain ⟨-, Z1, Z2, Z3⟩ := X.fin (ndC ({ n with cs := ca, cg := cb, got := ⟨#[]⟩, run := 0, last := 0, pos := 0, bad := false, ph := 7, left := 128 }) p) (hpC (5) (zF) (none) (0))
      refine bodyPost_ret (v := .tuple #[ndV ({ n with cs := ca, cg := cb, got := ⟨#[]⟩, run := 0, last := 0, pos := 0, bad := false, ph := 7, left := 128 }) p, hpV (5) (zF) (none) (0)]) ?_ rfl ⟨rfl, Z3⟩
      exact results_both Tryz.results154 _ _ gr gh _ _ rfl rfl Z1 Z2 rfl rfl
    · rw [if_neg hs2]
      by_cases hs1 : stV ca cb = 1
      · rw [decide_eq_true hs1]
        generalize hst : stV ca cb = st at *
        replace hst := Lib.hid hst
        have e2 : (st == 2) = false := beq_eq_false_iff_ne.2 hs2
        have e1 : (st == 1) = true := beq_iff_eq.2 hs1
        clear hs1 hs2
        have X := N3.made (ndC n p) w
        go_enter Tryz.func154, Tryz.ntmps154
        go_upto_region 1 with fail
        generalize World.alloc _ _ = W at X ⊢
        generalize w.heap.size + 1 + 1 = gh at X ⊢
        generalize w.heap.size + 1 = gr at X ⊢
        generalize w.heap.size = g at X ⊢
        have c1 : W.cell? ⟨g, 1, none⟩ = some (.bool n.tx) := X.cell 1
        have c13 : W.cell? ⟨g, 13, none⟩ = some (.int .i64 n.cs) := X.cell 13
        have c14 : W.cell? ⟨g, 14, none⟩ = some (.int .i64 n.cg) := X.cell 14
        rw [ht.out] at c1
        go_wp2_with fail
        refine (implSentBad _ _ _).mono ?_
        rintro e w2 ⟨rfl, b⟩
        rw [ha.out, hb.out]
        replace X := X.below b
        clear b c1 c13 c14
        have c13 : w2.cell? ⟨g, 13, none⟩ = some (.int .i64 n.cs) := X.cell 13
        have c14 : w2.cell? ⟨g, 14, none⟩ = some (.int .i64 n.cg) := X.cell 14
        have f13 := X.free 13
        have f14 := X.free 14
        go_upto_region 4 with fail
        clear c13 c14 f13 f14
        replace X : N3 g gr gh (ndC ({ n with cs := ca, cg := cb }) p) w _ := ((X.set 13 (.int .i64 ca)).set 14 (.int .i64 cb))
        generalize World.setCell _ _ _ = W3 at X ⊢
        go_wp2_with (refine Nx.take ⟨X.blk, X.bel⟩ rfl rfl rfl ?_)
        refine (implUnseen { n with cs := ca, cg := cb } p _).mono ?_
        rintro e w4 ⟨rfl, b⟩
        replace X := X.below b
        clear b
        go_upto_region 5 with (refine wpList_put X.blk rfl rfl rfl rfl rfl ?_)
        replace X : N3 g gr gh (ndC (unN { n with cs := ca, cg := cb }) p) w _ := X.put _
        generalize World.setRow _ _ _ = W5 at X ⊢
        have c3 : W5.cell? ⟨g, 3, none⟩ = some (.bool n.bad) := X.cell 3
        have f3 := X.free 3
        go_upto_region 6 with fail
        clear c3 f3
        replace X : N3 g gr gh (ndC ({ n with cs := ca, cg := cb, got := ⟨#[]⟩, run := 0, last := 0, pos := 0, bad := false }) p) w _ := (X.set 3 (.bool false))
        generalize World.setCell _ _ _ = W6 at X ⊢
        have c13 : W6.cell? ⟨g, 13, none⟩ = some (.int .i64 ca) := X.cell 13
        have c14 : W6.cell? ⟨g, 14, none⟩ = some (.int .i64 cb) := X.cell 14
        go_wp2_with fail
        refine (implStateOf _ _ _).mono ?_
        rintro e w7 ⟨rfl, b⟩
        rw [hst.out]
        replace X := X.below b
        clear b c13 c14
        have c0 : w7.cell? ⟨g, 0, none⟩ = some (.int .i64 n.ph) := X.cell 0
        have c2 : w7.cell? ⟨g, 2, none⟩ = some (.bool n.mild) := X.cell 2
        have c12 : w7.cell? ⟨g, 12, none⟩ = some (.int .i64 n.left) := X.cell 12
        have f0 := X.free 0
        have f2 := X.free 2
        have f12 := X.free 12
        go_upto_region 11 with fail
        clear c0 c2 c12 f0 f2 f12
        replace X : N3 g gr gh (ndC ({ n with cs := ca, cg := cb, got := ⟨#[]⟩, run := 0, last := 0, pos := 0, bad := false, ph := 3, mild := true, left := 6 }) p) w _ := (((X.set 0 (.int .i64 3)).set 12 (.int .i64 6)).set 2 (.bool true))
        generalize World.setCell _ _ _ = W8 at X ⊢
        go_wp2_with (first | (refine Nx.take ⟨X.blk, X.bel⟩ rfl rfl rfl ?_) | (refine wpList_put X.res rfl rfl rfl rfl rfl ?_) | (refine wpList_tell (k := 4) (f := zF) (ad := none) (cd := 0) (X.fin (ndC ({ n with cs := ca, cg := cb, got := ⟨#[]⟩, run := 0, last := 0, pos := 0, bad := false, ph := 3, mild := true, left := 6 }) p) #[]).1 rfl rfl rfl rfl rfl ?_))
        obtain ⟨-, Z1, Z2, Z3⟩ := X.fin (ndC ({ n with cs := ca, cg := cb, got := ⟨#[]⟩, run := 0, last := 0, pos := 0, bad := false, ph := 3, mild := true, left := 6 }) p) (hpC (4) (zF) (none) (0))
        refine bodyPost_ret (v := .tuple #[ndV ({ n with cs := ca, cg := cb, got := ⟨#[]⟩, run := 0, last := 0, pos := 0, bad := false, ph := 3, mild := true, left := 6 }) p, hpV (4) (zF) (none) (0)]) ?_ rfl ⟨rfl, Z3⟩
        exact results_both Tryz.results154 _ _ gr gh _ _ rfl rfl Z1 Z2 rfl rfl
      · rw [decide_eq_false hs1]
        generalize hst : stV ca cb = st at *
        replace hst := Lib.hid hst
        have e2 : (st == 2) = false := beq_eq_false_iff_ne.2 hs2
        have e1 : (st == 1) = false := beq_eq_false_iff_ne.2 hs1
        clear hs1 hs2
        have X := N3.made (ndC n p) w
        go_enter Tryz.func154, Tryz.ntmps154
        go_upto_region 1 with fail
        generalize World.alloc _ _ = W at X ⊢
        generalize w.heap.size + 1 + 1 = gh at X ⊢
        generalize w.heap.size + 1 = gr at X ⊢
        generalize w.heap.size = g at X ⊢
        have c1 : W.cell? ⟨g, 1, none⟩ = some (.bool n.tx) := X.cell 1
        have c13 : W.cell? ⟨g, 13, none⟩ = some (.int .i64 n.cs) := X.cell 13
        have c14 : W.cell? ⟨g, 14, none⟩ = some (.int .i64 n.cg) := X.cell 14
        rw [ht.out] at c1
        go_wp2_with fail
        refine (implSentBad _ _ _).mono ?_
        rintro e w2 ⟨rfl, b⟩
        rw [ha.out, hb.out]
        replace X := X.below b
        clear b c1 c13 c14
        have c13 : w2.cell? ⟨g, 13, none⟩ = some (.int .i64 n.cs) := X.cell 13
        have c14 : w2.cell? ⟨g, 14, none⟩ = some (.int .i64 n.cg) := X.cell 14
        have f13 := X.free 13
        have f14 := X.free 14
        go_upto_region 4 with fail
        clear c13 c14 f13 f14
        replace X : N3 g gr gh (ndC ({ n with cs := ca, cg := cb }) p) w _ := ((X.set 13 (.int .i64 ca)).set 14 (.int .i64 cb))
        generalize World.setCell _ _ _ = W3 at X ⊢
        go_wp2_with (refine Nx.take ⟨X.blk, X.bel⟩ rfl rfl rfl ?_)
        refine (implUnseen { n with cs := ca, cg := cb } p _).mono ?_
        rintro e w4 ⟨rfl, b⟩
        replace X := X.below b
        clear b
        go_upto_region 5 with (refine wpList_put X.blk rfl rfl rfl rfl rfl ?_)
        replace X : N3 g gr gh (ndC (unN { n with cs := ca, cg := cb }) p) w _ := X.put _
        generalize World.setRow _ _ _ = W5 at X ⊢
        have c3 : W5.cell? ⟨g, 3, none⟩ = some (.bool n.bad) := X.cell 3
        have f3 := X.free 3
        go_upto_region 6 with fail
        clear c3 f3
        replace X : N3 g gr gh (ndC ({ n with cs := ca, cg := cb, got := ⟨#[]⟩, run := 0, last := 0, pos := 0, bad := false }) p) w _ := (X.set 3 (.bool false))
        generalize World.setCell _ _ _ = W6 at X ⊢
        have c13 : W6.cell? ⟨g, 13, none⟩ = some (.int .i64 ca) := X.cell 13
        have c14 : W6.cell? ⟨g, 14, none⟩ = some (.int .i64 cb) := X.cell 14
        go_wp2_with fail
        refine (implStateOf _ _ _).mono ?_
        rintro e w7 ⟨rfl, b⟩
        rw [hst.out]
        replace X := X.below b
        clear b c13 c14
        have c0 : w7.cell? ⟨g, 0, none⟩ = some (.int .i64 n.ph) := X.cell 0
        have c2 : w7.cell? ⟨g, 2, none⟩ = some (.bool n.mild) := X.cell 2
        have c12 : w7.cell? ⟨g, 12, none⟩ = some (.int .i64 n.left) := X.cell 12
        have f0 := X.free 0
        have f2 := X.free 2
        have f12 := X.free 12
        go_upto_region 11 with fail
        clear c0 c2 c12 f0 f2 f12
        replace X : N3 g gr gh (ndC ({ n with cs := ca, cg := cb, got := ⟨#[]⟩, run := 0, last := 0, pos := 0, bad := false, ph := 3, mild := false, left := 6 }) p) w _ := (((X.set 0 (.int .i64 3)).set 12 (.int .i64 6)).set 2 (.bool false))
        generalize World.setCell _ _ _ = W8 at X ⊢
        go_wp2_with (first | (refine Nx.take ⟨X.blk, X.bel⟩ rfl rfl rfl ?_) | (refine wpList_put X.res rfl rfl rfl rfl rfl ?_) | (refine wpList_tell (k := 4) (f := zF) (ad := none) (cd := 0) (X.fin (ndC ({ n with cs := ca, cg := cb, got := ⟨#[]⟩, run := 0, last := 0, pos := 0, bad := false, ph := 3, mild := false, left := 6 }) p) #[]).1 rfl rfl rfl rfl rfl ?_))
        obtain ⟨-, Z1, Z2, Z3⟩ := X.fin (ndC ({ n with cs := ca, cg := cb, got := ⟨#[]⟩, run := 0, last := 0, pos := 0, bad := false, ph := 3, mild := false, left := 6 }) p) (hpC (4) (zF) (none) (0))
        refine bodyPost_ret (v := .tuple #[ndV ({ n with cs := ca, cg := cb, got := ⟨#[]⟩, run := 0, last := 0, pos := 0, bad := false, ph := 3, mild := false, left := 6 }) p, hpV (4) (zF) (none) (0)]) ?_ rfl ⟨rfl, Z3⟩
        exact results_both Tryz.results154 _ _ gr gh _ _ rfl rfl Z1 Z2 rfl rfl
  · have h1 : badA n = gwA n.cs n.cg := by unfold badA; rw [ht]; first | exact if_pos rfl | exact if_neg (by decide)
    have h2 : badB n = gbB n.cs n.cg := by unfold badB; rw [ht]; first | exact if_pos rfl | exact if_neg (by decide)
    unfold brkN
    rw [h1, h2]
    clear h1 h2
    generalize ha : gwA n.cs n.cg = ca at *
    generalize hb : gbB n.cs n.cg = cb at *
    replace ha := Lib.hid ha
    replace hb := Lib.hid hb
    replace ht := Lib.hid ht
    by_cases hs2 : stV ca cb = 2
    · rw [if_pos hs2]
      generalize hst : stV ca cb = st at *
      replace hst := Lib.hid hst
      have e2 : (st == 2) = true := beq_iff_eq.2 hs2
      clear hs2
      have X := N3.made (ndC n p) w
      go_enter Tryz.func154, Tryz.ntmps154
      go_upto_region 1 with fail
      generalize World.alloc _ _ = W at X ⊢
      generalize w.heap.size + 1 + 1 = gh at X ⊢
      generalize w.heap.size + 1 = gr at X ⊢
      generalize w.heap.size = g at X ⊢
      have c1 : W.cell? ⟨g, 1, none⟩ = some (.bool n.tx) := X.cell 1
      have c13 : W.cell? ⟨g, 13, none⟩ = some (.int .i64 n.cs) := X.cell 13
      have c14 : W.cell? ⟨g, 14, none⟩ = some (.int .i64 n.cg) := X.cell 14
      rw [ht.out] at c1
      go_wp2_with fail
      refine (implGotBad _ _ _).mono ?_
      rintro e w2 ⟨rfl, b⟩
      rw [ha.out, hb.out]
      replace X := X.below b
      clear b c1 c13 c14
      have c13 : w2.cell? ⟨g, 13, none⟩ = some (.int .i64 n.cs) := X.cell 13
      have c14 : w2.cell? ⟨g, 14, none⟩ = some (.int .i64 n.cg) := X.cell 14
      have f13 := X.free 13
      have f14 := X.free 14
      go_upto_region 4 with fail
      clear c13 c14 f13 f14
      replace X : N3 g gr gh (ndC ({ n with cs := ca, cg := cb }) p) w _ := ((X.set 13 (.int .i64 ca)).set 14 (.int .i64 cb))
      generalize World.setCell _ _ _ = W3 at X ⊢
      go_wp2_with (refine Nx.take ⟨X.blk, X.bel⟩ rfl rfl rfl ?_)
      refine (implUnseen { n with cs := ca, cg := cb } p _).mono ?_
      rintro e w4 ⟨rfl, b⟩
      replace X := X.below b
      clear b
      go_upto_region 5 with (refine wpList_put X.blk rfl rfl rfl rfl rfl ?_)
      replace X : N3 g gr gh (ndC (unN { n with cs := ca, cg := cb }) p) w _ := X.put _
      generalize World.setRow _ _ _ = W5 at X ⊢
      have c3 : W5.cell? ⟨g, 3, none⟩ = some (.bool n.bad) := X.cell 3
      have f3 := X.free 3
      go_upto_region 6 with fail
      clear c3 f3
      replace X : N3 g gr gh (ndC ({ n with cs := ca, cg := cb, got := ⟨#[]⟩, run := 0, last := 0, pos := 0, bad := false }) p) w _ := (X.set 3 (.bool false))
      generalize World.setCell _ _ _ = W6 at X ⊢
      have c13 : W6.cell? ⟨g, 13, none⟩ = some (.int .i64 ca) := X.cell 13
      have c14 : W6.cell? ⟨g, 14, none⟩ = some (.int .i64 cb) := X.cell 14
      go_wp2_with fail
      refine (implStateOf _ _ _).mono ?_
      rintro e w7 ⟨rfl, b⟩
      rw [hst.out]
      replace X := X.below b
      clear b c13 c14
      have c0 : w7.cell? ⟨g, 0, none⟩ = some (.int .i64 n.ph) := X.cell 0
      have c12 : w7.cell? ⟨g, 12, none⟩ = some (.int .i64 n.left) := X.cell 12
      have f0 := X.free 0
      have f12 := X.free 12
      go_upto_region 9 with fail
      clear c0 c12 f0 f12
      replace X : N3 g gr gh (ndC ({ n with cs := ca, cg := cb, got := ⟨#[]⟩, run := 0, last := 0, pos := 0, bad := false, ph := 7, left := 128 }) p) w _ := ((X.set 0 (.int .i64 7)).set 12 (.int .i64 128))
      generalize World.setCell _ _ _ = W8 at X ⊢
      go_wp2_with (first | (refine Nx.take ⟨X.blk, X.bel⟩ rfl rfl rfl ?_) | (refine wpList_put X.res rfl rfl rfl rfl rfl ?_) | (refine wpList_tell (k := 5) (f := zF) (ad := none) (cd := 0) (X.fin (ndC ({ n with cs := ca, cg := cb, got := ⟨#[]⟩, run := 0, last := 0, pos := 0, bad := false, ph := 7, left := 128 }) p) #[]).1 rfl rfl rfl rfl rfl ?_))
      obtain ⟨-, Z1, Z2, Z3⟩ := X.fin (ndC ({ n with cs := ca, cg := cb, got := ⟨#[]⟩, run := 0, last := 0, pos := 0, bad := false, ph := 7, left := 128 }) p) (hpC (5) (zF) (none) (0))
      refine bodyPost_ret (v := .tuple #[ndV ({ n with cs := ca, cg := cb, got := ⟨#[]⟩, run := 0, last := 0, pos := 0, bad := false, ph := 7, left := 128 }) p, hpV (5) (zF) (none) (0)]) ?_ rfl ⟨rfl, Z3⟩
      exact results_both Tryz.results154 _ _ gr gh _ _ rfl rfl Z1 Z2 rfl rfl
    · rw [if_neg hs2]
      by_cases hs1 : stV ca cb = 1
      · rw [decide_eq_true hs1]
        generalize hst : stV ca cb = st at *
        replace hst := Lib.hid hst
        have e2 : (st == 2) = false := beq_eq_false_iff_ne.2 hs2
        have e1 : (st == 1) = true := beq_iff_eq.2 hs1
        clear hs1 hs2
        have X := N3.made (ndC n p) w
        go_enter Tryz.func154, Tryz.ntmps154
        go_upto_region 1 with fail
        generalize World.alloc _ _ = W at X ⊢
        generalize w.heap.size + 1 + 1 = gh at X ⊢
        generalize w.heap.size + 1 = gr at X ⊢
        generalize w.heap.size = g at X ⊢
        have c1 : W.cell? ⟨g, 1, none⟩ = some (.bool n.tx) := X.cell 1
        have c13 : W.cell? ⟨g, 13, none⟩ = some (.int .i64 n.cs) := X.cell 13
        have c14 : W.cell? ⟨g, 14, none⟩ = some (.int .i64 n.cg) := X.cell 14
        rw [ht.out] at c1
        go_wp2_with fail
        refine (implGotBad _ _ _).mono ?_
        rintro e w2 ⟨rfl, b⟩
        rw [ha.out, hb.out]
        replace X := X.below b
        clear b c1 c13 c14
        have c13 : w2.cell? ⟨g, 13, none⟩ = some (.int .i64 n.cs) := X.cell 13
        have c14 : w2.cell? ⟨g, 14, none⟩ = some (.int .i64 n.cg) := X.cell 14
        have f13 := X.free 13
        have f14 := X.free 14
        go_upto_region 4 with fail
        clear c13 c14 f13 f14
        replace X : N3 g gr gh (ndC ({ n with cs := ca, cg := cb }) p) w _ := ((X.set 13 (.int .i64 ca)).set 14 (.int .i64 cb))
        generalize World.setCell _ _ _ = W3 at X ⊢
        go_wp2_with (refine Nx.take ⟨X.blk, X.bel⟩ rfl rfl rfl ?_)
        refine (implUnseen { n with cs := ca, cg := cb } p _).mono ?_
        rintro e w4 ⟨rfl, b⟩
        replace X := X.below b
        clear b
        go_upto_region 5 with (refine wpList_put X.blk rfl rfl rfl rfl rfl ?_)
        replace X : N3 g gr gh (ndC (unN { n with cs := ca, cg := cb }) p) w _ := X.put _
        generalize World.setRow _ _ _ = W5 at X ⊢
        have c3 : W5.cell? ⟨g, 3, none⟩ = some (.bool n.bad) := X.cell 3
        have f3 := X.free 3
        go_upto_region 6 with fail
        clear c3 f3
        replace X : N3 g gr gh (ndC ({ n with cs := ca, cg := cb, got := ⟨#[]⟩, run := 0, last := 0, pos := 0, bad := false }) p) w _ := (X.set 3 (.bool false))
        generalize World.setCell _ _ _ = W6 at X ⊢
        have c13 : W6.cell? ⟨g, 13, none⟩ = some (.int .i64 ca) := X.cell 13
        have c14 : W6.cell? ⟨g, 14, none⟩ = some (.int .i64 cb) := X.cell 14
        go_wp2_with fail
        refine (implStateOf _ _ _).mono ?_
        rintro e w7 ⟨rfl, b⟩
        rw [hst.out]
        replace X := X.below b
        clear b c13 c14
        have c0 : w7.cell? ⟨g, 0, none⟩ = some (.int .i64 n.ph) := X.cell 0
        have c2 : w7.cell? ⟨g, 2, none⟩ = some (.bool n.mild) := X.cell 2
        have c12 : w7.cell? ⟨g, 12, none⟩ = some (.int .i64 n.left) := X.cell 12
        have f0 := X.free 0
        have f2 := X.free 2
        have f12 := X.free 12
        go_upto_region 11 with fail
        clear c0 c2 c12 f0 f2 f12
        replace X : N3 g gr gh (ndC ({ n with cs := ca, cg := cb, got := ⟨#[]⟩, run := 0, last := 0, pos := 0, bad := false, ph := 3, mild := true, left := 6 }) p) w _ := (((X.set 0 (.int .i64 3)).set 12 (.int .i64 6)).set 2 (.bool true))
        generalize World.setCell _ _ _ = W8 at X ⊢
        go_wp2_with (first | (refine Nx.take ⟨X.blk, X.bel⟩ rfl rfl rfl ?_) | (refine wpList_put X.res rfl rfl rfl rfl rfl ?_) | (refine wpList_tell (k := 4) (f := zF) (ad := none) (cd := 0) (X.fin (ndC ({ n with cs := ca, cg := cb, got := ⟨#[]⟩, run := 0, last := 0, pos := 0, bad := false, ph := 3, mild := true, left := 6 }) p) #[]).1 rfl rfl rfl rfl rfl ?_))
        obtain ⟨-, Z1, Z2, Z3⟩ := X.fin (ndC ({ n with cs := ca, cg := cb, got := ⟨#[]⟩, run := 0, last := 0, pos := 0, bad := false, ph := 3, mild := true, left := 6 }) p) (hpC (4) (zF) (none) (0))
        refine bodyPost_ret (v := .tuple #[ndV ({ n with cs := ca, cg := cb, got := ⟨#[]⟩, run := 0, last := 0, pos := 0, bad := false, ph := 3, mild := true, left := 6 }) p, hpV (4) (zF) (none) (0)]) ?_ rfl ⟨rfl, Z3⟩
        exact results_both Tryz.results154 _ _ gr gh _ _ rfl rfl Z1 Z2 rfl rfl
      · rw [decide_eq_false hs1]
        generalize hst : stV ca cb = st at *
        replace hst := Lib.hid hst
        have e2 : (st == 2) = false := beq_eq_false_iff_ne.2 hs2
        have e1 : (st == 1) = false := beq_eq_false_iff_ne.2 hs1
        clear hs1 hs2
        have X := N3.made (ndC n p) w
        go_enter Tryz.func154, Tryz.ntmps154
        go_upto_region 1 with fail
        generalize World.alloc _ _ = W at X ⊢
        generalize w.heap.size + 1 + 1 = gh at X ⊢
        generalize w.heap.size + 1 = gr at X ⊢
        generalize w.heap.size = g at X ⊢
        have c1 : W.cell? ⟨g, 1, none⟩ = some (.bool n.tx) := X.cell 1
        have c13 : W.cell? ⟨g, 13, none⟩ = some (.int .i64 n.cs) := X.cell 13
        have c14 : W.cell? ⟨g, 14, none⟩ = some (.int .i64 n.cg) := X.cell 14
        rw [ht.out] at c1
        go_wp2_with fail
        refine (implGotBad _ _ _).mono ?_
        rintro e w2 ⟨rfl, b⟩
        rw [ha.out, hb.out]
        replace X := X.below b
        clear b c1 c13 c14
        have c13 : w2.cell? ⟨g, 13, none⟩ = some (.int .i64 n.cs) := X.cell 13
        have c14 : w2.cell? ⟨g, 14, none⟩ = some (.int .i64 n.cg) := X.cell 14
        have f13 := X.free 13
        have f14 := X.free 14
        go_upto_region 4 with fail
        clear c13 c14 f13 f14
        replace X : N3 g gr gh (ndC ({ n with cs := ca, cg := cb }) p) w _ := ((X.set 13 (.int .i64 ca)).set 14 (.int .i64 cb))
        generalize World.setCell _ _ _ = W3 at X ⊢
        go_wp2_with (refine Nx.take ⟨X.blk, X.bel⟩ rfl rfl rfl ?_)
        refine (implUnseen { n with cs := ca, cg := cb } p _).mono ?_
        rintro e w4 ⟨rfl, b⟩
        replace X := X.below b
        clear b
        go_upto_region 5 with (refine wpList_put X.blk rfl rfl rfl rfl rfl ?_)
        replace X : N3 g gr gh (ndC (unN { n with cs := ca, cg := cb }) p) w _ := X.put _
        generalize World.setRow _ _ _ = W5 at X ⊢
        have c3 : W5.cell? ⟨g, 3, none⟩ = some (.bool n.bad) := X.cell 3
        have f3 := X.free 3
        go_upto_region 6 with fail
        clear c3 f3
        replace X : N3 g gr gh (ndC ({ n with cs := ca, cg := cb, got := ⟨#[]⟩, run := 0, last := 0, pos := 0, bad := false }) p) w _ := (X.set 3 (.bool false))
        generalize World.setCell _ _ _ = W6 at X ⊢
        have c13 : W6.cell? ⟨g, 13, none⟩ = some (.int .i64 ca) := X.cell 13
        have c14 : W6.cell? ⟨g, 14, none⟩ = some (.int .i64 cb) := X.cell 14
        go_wp2_with fail
        refine (implStateOf _ _ _).mono ?_
        rintro e w7 ⟨rfl, b⟩
        rw [hst.out]
        replace X := X.below b
        clear b c13 c14
        have c0 : w7.cell? ⟨g, 0, none⟩ = some (.int .i64 n.ph) := X.cell 0
        have c2 : w7.cell? ⟨g, 2, none⟩ = some (.bool n.mild) := X.cell 2
        have c12 : w7.cell? ⟨g, 12, none⟩ = some (.int .i64 n.left) := X.cell 12
        have f0 := X.free 0
        have f2 := X.free 2
        have f12 := X.free 12
        go_upto_region 11 with fail
        clear c0 c2 c12 f0 f2 f12
        replace X : N3 g gr gh (ndC ({ n with cs := ca, cg := cb, got := ⟨#[]⟩, run := 0, last := 0, pos := 0, bad := false, ph := 3, mild := false, left := 6 }) p) w _ := (((X.set 0 (.int .i64 3)).set 12 (.int .i64 6)).set 2 (.bool false))
        generalize World.setCell _ _ _ = W8 at X ⊢
        go_wp2_with (first | (refine Nx.take ⟨X.blk, X.bel⟩ rfl rfl rfl ?_) | (refine wpList_put X.res rfl rfl rfl rfl rfl ?_) | (refine wpList_tell (k := 4) (f := zF) (ad := none) (cd := 0) (X.fin (ndC ({ n with cs := ca, cg := cb, got := ⟨#[]⟩, run := 0, last := 0, pos := 0, bad := false, ph := 3, mild := false, left := 6 }) p) #[]).1 rfl rfl rfl rfl rfl ?_))
        obtain ⟨-, Z1, Z2, Z3⟩ := X.fin (ndC ({ n with cs := ca, cg := cb, got := ⟨#[]⟩, run := 0, last := 0, pos := 0, bad := false, ph := 3, mild := false, left := 6 }) p) (hpC (4) (zF) (none) (0))
        refine bodyPost_ret (v := .tuple #[ndV ({ n with cs := ca, cg := cb, got := ⟨#[]⟩, run := 0, last := 0, pos := 0, bad := false, ph := 3, mild := false, left := 6 }) p, hpV (4) (zF) (none) (0)]) ?_ rfl ⟨rfl, Z3⟩
        exact results_both Tryz.results154 _ _ gr gh _ _ rfl rfl Z1 Z2 rfl rfl

abbrev stepsA : Array Value := #[.func (.func 202) #[] #[], .func (.func 203) #[] #[], .func (.func 204) #[] #[], .func (.func 205) #[] #[], .func (.func 206) #[] #[], .func (.func 207) #[] #[], .func (.func 208) #[] #[], .func (.func 209) #[] #[]]
abbrev stepsV : Value := .agg #[.func (.func 202) #[] #[], .func (.func 203) #[] #[], .func (.func 204) #[] #[], .func (.func 205) #[] #[], .func (.func 206) #[] #[], .func (.func 207) #[] #[], .func (.func 208) #[] #[], .func (.func 209) #[] #[]]
theorem implSteps (w : World) :
    Calls Tryz.prog 155 #[] w fun e w' => e = .returned stepsV ∧ Below w.heap.size w w' := by
  have HB : (w.alloc (.cells #[.nilFunc, .nilFunc, .nilFunc, .nilFunc, .nilFunc, .nilFunc, .nilFunc, .nilFunc] 167)).heap[w.heap.size]? = some (.cells #[.nilFunc, .nilFunc, .nilFunc, .nilFunc, .nilFunc, .nilFunc, .nilFunc, .nilFunc] 167 (0, 0)) := heap_alloc_new w _
  have hb : Below w.heap.size w (w.alloc (.cells #[.nilFunc, .nilFunc, .nilFunc, .nilFunc, .nilFunc, .nilFunc, .nilFunc, .nilFunc] 167)) := below_more (Below.refl _ _) _
  go_enter Tryz.func155, Tryz.ntmps155
  go_upto_region 1 with fail
  generalize hg : w.heap.size = g at *
  generalize w.alloc _ = W at HB hb ⊢
  go_wp2_with (refine wpList_store_row rfl 167 _ _ rfl g stepsA rfl rfl 167 _ HB (by kernel_rfl) (by rfl) (by kernel_rfl) ?_)
  refine bodyPost_ret (v := stepsV) ?_ rfl ⟨rfl, by rw [hg]; exact below_setRow hb (Nat.le_refl _) _⟩
  exact results_cell_row Tryz.results155 _ _ g 167 _ (0, 0) _ rfl (setRow_heap _ _ _ _ _ _ HB) Tryz.underlying167 rfl (by kernel_rfl)
theorem stepAt {f : Value} {k : Int} {w : World} (h : (Instr.index 167 stepsV (.int .i64 k)).run Tryz.prog w = .ok f w) {o : Oper} {a : Act} {x y : Operand} (ho : o.op = .index 167 x y) (hx : a.eval x = stepsV) (hy : a.eval y = .int .i64 k) :
    (execOp a.eval o).run Tryz.prog w = .ok (.value f) w := by
  unfold execOp
  simp only [ho, hx, hy, Sem.run_bind, h, Result.andThen_ok]
  rfl
end Go.Proofs.YtngcekegngmedaaGreatDoor

/- What the program's sampled defers: a breach is caught. -/

set_option linter.unusedVariables false
set_option linter.unusedSimpArgs false
set_option maxRecDepth 20000
namespace Go.Proofs.YtngcekegngmedaaGreatDoor
open Go.RowKit

/-- The results' rows. -/
structure K3 (gr gh : Nat) (C E : Array Value) (w0 w : World) : Prop where
  res : w.heap[gr]? = some (.cells C 32 (0, 0))
  hap : w.heap[gh]? = some (.cells E 36 (0, 0))
  bel : Below w0.heap.size w0 w
  hr : w0.heap.size ≤ gr
  hh : w0.heap.size ≤ gh
  rh : gh ≠ gr
section
variable {gr gh : Nat} {C E : Array Value} {w0 w w' : World}
theorem K3.lt (h : K3 gr gh C E w0 w) : gr < w.heap.size ∧ gh < w.heap.size := ⟨(Array.getElem?_eq_some_iff.1 h.res).1, (Array.getElem?_eq_some_iff.1 h.hap).1⟩
theorem K3.below (h : K3 gr gh C E w0 w) (b : Below w.heap.size w w') : K3 gr gh C E w0 w' := ⟨(b.block gr h.lt.1).trans h.res, (b.block gh h.lt.2).trans h.hap, Below.then2 h.bel b, h.hr, h.hh, h.rh⟩
theorem K3.drew' (h : K3 gr gh C E w0 w) : K3 gr gh C E w0 { w with drawn := w.drawn + 1 } := h.below (Below.refl _ _).drew
theorem K3.setR (h : K3 gr gh C E w0 w) (D : Array Value) : K3 gr gh D E w0 (w.setRow gr D) := ⟨setRow_heap _ _ _ _ _ _ h.res, (setRow_other w gr gh D h.rh).trans h.hap, below_setRow h.bel h.hr D, h.hr, h.hh, h.rh⟩
theorem K3.setH (h : K3 gr gh C E w0 w) (D : Array Value) : K3 gr gh C D w0 (w.setRow gh D) := ⟨(setRow_other w gh gr D (Ne.symm h.rh)).trans h.res, setRow_heap _ _ _ _ _ _ h.hap, below_setRow h.bel h.hh D, h.hr, h.hh, h.rh⟩
theorem K3.setK (h : K3 gr gh C E w0 w) (k : Nat) (v : Value) : K3 gr gh C (E.setIfInBounds k v) w0 (w.setCell ⟨gh, k, none⟩ v) :=
  ⟨(heap_setCell_other w ⟨gh, k, none⟩ gr v (Ne.symm h.rh)).trans h.res, heap_setCell_same w gh k _ _ v h.hap, h.bel.setCell h.hh _, h.hr, h.hh, h.rh⟩
theorem K3.cell (h : K3 gr gh C E w0 w) (k : Nat) : w.cell? ⟨gh, k, none⟩ = E[k]? := cell_of_row w gh k _ _ _ h.hap
theorem K3.free (h : K3 gr gh C E w0 w) (k : Nat) : w.frozen? ⟨gh, k, none⟩ = false := frozen_of_row w gh k _ _ h.hap
theorem K3.took {n : Nd} {p : NdP} (h : K3 gr gh (ndC n p) E w0 w) {o : Oper} {a : Act} {x : Operand} (ho : o.op = .load 32 x) (hx : a.eval x = .pointer (some ⟨gr, 0, none⟩)) : (execOp a.eval o).run Tryz.prog w = .ok (.value (ndV n p)) w := Nx.took (g := gr) (w0 := w0) ⟨h.res, h.bel⟩ ho hx
theorem K3.grown4 (w : World) (gh : Nat) (x0 x1 x2 x3 : Value) : w.grownBy ((((w.setCell ⟨gh, 1, none⟩ x0).setCell ⟨gh, 2, none⟩ x1).setCell ⟨gh, 3, none⟩ x2).setCell ⟨gh, 4, none⟩ x3) (some gh) :=
  grown_trans (grown_trans (grown_trans (grown_set w gh 1 x0) (grown_set _ gh 2 x1)) (grown_set _ gh 3 x2)) (grown_set _ gh 4 x3)
end
section
variable {P : Program} {K : Act → World → Prop} {Q : Exit → Act → World → Prop} {o : Oper} {a : Act} {w : World}
theorem op_value (d : Tmp) (v : Value) (hd : o.dst = some d) (hx : (execOp a.eval o).run P w = .ok (.value v) w) (k : K (a.put (some d) v) w) : o.wp P a w K Q := by
  unfold Oper.wp; rw [hx]; rw [← hd] at k; exact k
theorem op_call (d : Tmp) (f : FuncId) (args : Array Value) (hd : o.dst = some d) (hx : (execOp a.eval o).run P w = .ok (.enter f args) w)
    (h : Calls P f args w fun e w' => ∃ v, e = .returned v ∧ K (a.put (some d) v) w') : o.wp P a w K Q := by
  unfold Oper.wp
  rw [hx, Oper.upon_enter]
  exact h.mono fun e w' h' => by
    obtain ⟨v, he, k⟩ := h'
    subst he
    rw [← hd] at k
    exact k
theorem op_skip (w' : World) (hd : o.dst = none) (hx : (execOp a.eval o).run P w = .ok .skip w') (k : K a w') : o.wp P a w K Q := by
  unfold Oper.wp
  rw [hx]
  have e : a.put o.dst undef = a := by rw [hd]; rfl
  show K (a.put o.dst undef) w'
  rw [e]; exact k
theorem held_two {md : Region.Mode} {ops : Array Oper} {S : World → Prop} (i j : Nat) {oi oj : Oper} {fuel : Nat} {listed : Array Bool} (hi : ops[i]? = some oi) (hj : ops[j]? = some oj) (hr : Region.ready md ops listed = [i, j])
    (hwi : Region.wanted oi (yielded ops a.tmps) = true) (hwj : Region.wanted oj (yielded ops a.tmps) = true)
    (h1 : oi.wp P a w (fun a' w' => S w' ∧ wpAnyH P md ops Q S fuel (listed.setIfInBounds i true) a' w') Q)
    (h2 : oj.wp P a w (fun a' w' => S w' ∧ wpAnyH P md ops Q S fuel (listed.setIfInBounds j true) a' w') Q) : wpAnyH P md ops Q S (fuel + 1) listed a w := by
  refine wpAnyH_all hr (by simp) fun q hq => ?_
  rcases (show q = i ∨ q = j by simpa using hq) with rfl | rfl
  · unfold wpOp; simp only [hi]; rw [if_pos hwi]; exact .inl h1
  · unfold wpOp; simp only [hj]; rw [if_pos hwj]; exact .inl h2
end
/-- What is small enough to be copied. -/
structure Small (n : Nd) : Prop where
  dat : n.fr.D.length ≤ 1048576
  box : n.box.length ≤ 1000000
  box8 : ∀ j, j < n.box.length → (nthF n.box j).D.length ≤ 1048576
  fifo : n.fifo.length ≤ 1000000
  fifo8 : ∀ j, j < n.fifo.length → (nthF n.fifo j).D.length ≤ 1048576
  flt : n.flt.length ≤ 1048576

theorem NdO.keptG {B b1 b2 b3 g : Nat} {n : Nd} {p : NdP} {MB MF : List (Frm × Value)} {w w' : World} (h : NdO B b1 b2 b3 n p MB MF w) (k : w.grownBy w' (some g)) (hg : g < B) : NdO B b1 b2 b3 n p MB MF w' :=
  ⟨h.dat.kept2 k hg, h.box.kept2 k (by have := h.le; omega), h.fifo.kept2 k (by have := h.le; omega), h.flt.kept2 k (by have := h.le; omega), h.mb, h.mf, h.fb, h.ff, h.ub, h.ux, h.uf, h.le, h.got⟩
theorem NdO.belowO {B b1 b2 b3 : Nat} {n : Nd} {p : NdP} {MB MF : List (Frm × Value)} {w w' : World} (h : NdO B b1 b2 b3 n p MB MF w) (b : Below w.heap.size w w') : NdO B b1 b2 b3 n p MB MF w' :=
  ⟨h.dat.below' b, h.box.below b, h.fifo.below b, h.flt.below b, h.mb, h.mf, h.fb, h.ff, h.ub, h.ux, h.uf, h.le, h.got⟩
theorem NdO.monoB {B B' b1 b2 b3 : Nat} {n : Nd} {p : NdP} {MB MF : List (Frm × Value)} {w : World} (h : NdO B b1 b2 b3 n p MB MF w) (hB : B' ≤ B) : NdO B' b1 b2 b3 n p MB MF w :=
  ⟨h.dat.mono hB, h.box, h.fifo, h.flt, h.mb, h.mf, h.fb, h.ff, h.ub, h.ux, h.uf, ⟨Nat.le_trans hB h.le.1, h.le.2⟩, h.got⟩


theorem brkN_lists (n : Nd) : (brkN n).1.fr = n.fr ∧ (brkN n).1.box = n.box ∧ (brkN n).1.fifo = n.fifo ∧ (brkN n).1.flt = n.flt ∧ (brkN n).1.got.size ≤ maxLen := by
  unfold brkN; split <;> exact ⟨rfl, rfl, rfl, rfl, Nat.zero_le _⟩

set_option maxHeartbeats 4000000 in
/-- impl.sampled$1, where nothing has been broken off. -/
theorem closBack (g gr gh : Nat) (w : World) :
    CallsD Tryz.prog 153 #[.pointer (some ⟨g, 0, none⟩), .pointer (some ⟨gr, 0, none⟩), .pointer (some ⟨gh, 0, none⟩)] .returning w fun e u' w' => e = .returned (.tuple #[]) ∧ u' = .returning ∧ Below w.heap.size w w' := by
  have hta : ∀ W : World, (Instr.typeAssert (Value.nilIface) 20 164 true).run Tryz.prog W = .ok (.tuple #[.agg #[], .bool false]) W := fun W => by kernel_rfl
  have hz : ∀ x y z : Value, (#[x, y, z] : Array Value) ++ Array.replicate (Tryz.f153.ntmps - (#[x, y, z] : Array Value).size) undef = #[x, y, z, undef, undef, undef, undef, undef, undef, undef, undef, undef, undef, undef, undef, undef] := fun x y z => by rw [Tryz.ntmps153]; rfl
  refine callsD_of_wpS Tryz.func153 rfl fun c₀ cs hu => ?_
  rw [hz]
  clear hz
  apply wpS_seq
  apply wpS_region
  generalize hQ : Exit.thenS _ _ = Q1
  simp [wpOpsS, go_sem, recoverD, hu, hta]
  subst hQ
  simp only [Exit.thenS]
  have bb := below_more (Below.refl w.heap.size w) (.cells #[] 164)
  apply wpS_seq
  apply wpS_region
  generalize hQ : Exit.thenS _ _ = Q1
  simp [wpOpsS, go_sem]
  subst hQ
  simp only [Exit.thenS]
  refine wpS_cond (t := false) (by simp [Act.eval]) ?_
  simp only [Bool.false_eq_true, if_false]
  refine wpS_of_wp ?_
  go_wp2_with fail
  exact ⟨rfl, .returning, by rw [← hu], .tuple #[], results_none rfl _ _ _, rfl, rfl, bb⟩
set_option maxHeartbeats 4000000 in
/-- impl.sampled$1, where the node breaks off. -/
theorem closCaught (g gr gh : Nat) (n : Nd) (p : NdP) (w0 w : World) (K : K3 gr gh ndZ hpZ w0 w) (G0 : w.heap[g]? = some (.cells (ndC n p) 32 (0, 0))) :
    CallsD Tryz.prog 153 #[.pointer (some ⟨g, 0, none⟩), .pointer (some ⟨gr, 0, none⟩), .pointer (some ⟨gh, 0, none⟩)] (.panicking [{ v := .iface 164 (.agg #[]), recovered := false }]) w fun e u' w' => e = .returned (.tuple #[]) ∧ u' = .panicking [{ v := .iface 164 (.agg #[]), recovered := true }] ∧ K3 gr gh (ndC (brkN n).1 p) (hpC (brkN n).2.1 zF none 0) w0 w' := by
  have hta : ∀ W : World, (Instr.typeAssert (.iface 164 (.agg #[])) 20 164 true).run Tryz.prog W = .ok (.tuple #[.agg #[], .bool true]) W := fun W => by kernel_rfl
  have hz : ∀ x y z : Value, (#[x, y, z] : Array Value) ++ Array.replicate (Tryz.f153.ntmps - (#[x, y, z] : Array Value).size) undef = #[x, y, z, undef, undef, undef, undef, undef, undef, undef, undef, undef, undef, undef, undef, undef] := fun x y z => by rw [Tryz.ntmps153]; rfl
  refine callsD_of_wpS Tryz.func153 rfl fun c₀ cs hu => ?_
  rw [hz]
  clear hz
  apply wpS_seq
  apply wpS_region
  generalize hQ : Exit.thenS _ _ = Q1
  simp [wpOpsS, go_sem, recoverD, hu, hta]
  subst hQ
  simp only [Exit.thenS]
  have bb := below_more (Below.refl w.heap.size w) (.cells #[] 164)
  replace K := K.below bb
  apply wpS_seq
  apply wpS_region
  generalize hQ : Exit.thenS _ _ = Q1
  simp [wpOpsS, go_sem]
  subst hQ
  simp only [Exit.thenS]
  refine wpS_cond (t := true) (by simp [Act.eval]) ?_
  simp only [if_true]
  generalize w.alloc _ = W at K bb ⊢
  have hbw := bb
  have G : Nx g n p w W := ⟨(bb.block g (Array.getElem?_eq_some_iff.1 G0).1).trans G0, bb⟩
  refine wpS_of_wp ?_
  go_wp2_with (refine Nx.take G rfl rfl rfl ?_)
  refine (implBroken n p _).mono ?_
  rintro e W6 ⟨rfl, b⟩
  replace K := K.below b
  clear b
  go_wp2_with (first | (refine wpList_put (n := (brkN n).1) (p := p) K.res rfl rfl rfl rfl rfl ?_) | (refine wpList_tell (k := (brkN n).2.1) (f := zF) (ad := none) (cd := 0) (K.setR (ndC (brkN n).1 p)).hap rfl rfl rfl rfl rfl ?_))
  replace K := (K.setR (ndC (brkN n).1 p)).setH (hpC (brkN n).2.1 zF none 0)
  generalize World.setRow _ _ _ = W7 at K ⊢
  exact ⟨rfl, .panicking [{ v := .iface 164 (.agg #[]), recovered := true }], rfl, .tuple #[], results_none rfl _ _ _, rfl, rfl, K⟩
end Go.Proofs.YtngcekegngmedaaGreatDoor

/- The program's inBody. -/

set_option linter.unusedVariables false
set_option linter.unusedSimpArgs false
set_option maxRecDepth 20000
namespace Go.Proofs.YtngcekegngmedaaGreatDoor
open Go.RowKit


set_option maxHeartbeats 16000000 in
/-- impl.inBody, behind five alike. -/
theorem implBodyFive (n : Nd) (p : NdP) (l : Int) (w : World) (a0 : World) (h0 : NdM n p a0) (ha0 : Below a0.heap.size a0 w) (hE : ErrHeld w) (hl : l = 0 ∨ l = 1) (h5r : n.run = 5) (hne : l ≠ n.last) :
    Calls Tryz.prog 203 #[ndV n p, .int .i64 l] w (SampX a0 (NdA n p) (wholeN { n with run := 1, last := l }, 0, zF) w) := by
  have hm := h0.below ha0
  replace h5r := Lib.hid h5r
  have hn' : (l == n.last) = false := beq_eq_false_iff_ne.2 hne
  clear hne
  have X := N3.made (ndC n p) w
  go_enter Tryz.func203, Tryz.ntmps203
  go_upto_region 1 with fail
  generalize World.alloc _ _ = W at X ⊢
  generalize w.heap.size + 1 + 1 = gh at X ⊢
  generalize w.heap.size + 1 = gr at X ⊢
  generalize w.heap.size = g at X ⊢
  have c9 : W.cell? ⟨g, 9, none⟩ = some (.int .i64 5) := (X.cell 9).trans (by rw [← h5r.out]; rfl)
  have c10 : W.cell? ⟨g, 10, none⟩ = some (.int .i64 n.last) := X.cell 10
  go_wp2_with fail
  refine (implNoBreak _).mono ?_
  rintro e w3 ⟨rfl, b⟩
  replace X := X.below b
  clear b c9 c10
  have c9 : w3.cell? ⟨g, 9, none⟩ = some (.int .i64 n.run) := X.cell 9
  have c10 : w3.cell? ⟨g, 10, none⟩ = some (.int .i64 n.last) := X.cell 10
  have f9 := X.free 9
  have f10 := X.free 10
  go_upto_region 5 with fail
  clear c9 c10 f9 f10
  replace X : N3 g gr gh (ndC ({ n with run := 1, last := l }) p) w _ := ((X.set 9 (.int .i64 1)).set 10 (.int .i64 l))
  generalize World.setCell _ _ _ = W5 at X ⊢
  obtain ⟨m, hm1⟩ : ∃ m : Nd, m = ({ n with run := 1, last := l }) := ⟨_, rfl⟩
  rw [← hm1] at X
  have hL : m.fr = n.fr ∧ m.box = n.box ∧ m.fifo = n.fifo ∧ m.flt = n.flt ∧ m.got.size ≤ maxLen := by rw [hm1]; exact ⟨rfl, rfl, rfl, rfl, hm.size⟩
  replace hm1 := Lib.hid hm1
  replace hL := Lib.hid hL
  by_cases h5 : m.run = 5
  · have e := Lib.hid (show wholeN ({ n with run := 1, last := l }) = m from by rw [← hm1.out]; unfold wholeN; rw [if_neg (fun k => k.2 h5)])
    have c9 : W5.cell? ⟨g, 9, none⟩ = some (.int .i64 5) := (X.cell 9).trans (by rw [← h5]; rfl)
    clear h5
    go_upto_region 6 with fail
    clear c9
    go_wp2_with (first | (refine Nx.take ⟨X.blk, X.bel⟩ rfl rfl rfl ?_) | (refine wpList_put X.res rfl rfl rfl rfl rfl ?_) | (refine wpList_tell (k := 0) (f := zF) (ad := none) (cd := 0) (X.fin (ndC (m) p) #[]).1 rfl rfl rfl rfl rfl ?_))
    obtain ⟨-, Z1, Z2, Z3⟩ := X.fin (ndC (m) p) (hpC (0) (zF) (none) (0))
    refine bodyPost_ret (v := .tuple #[ndV (m) p, hpV (0) (zF) (none) (0)]) ?_ rfl ⟨p, none, 0, by rw [e.out], by rw [e.out]; exact fun u k => ⟨(h0.below (fromM ha0 Z3 k)).lists hL.out.1 hL.out.2.1 hL.out.2.2.1 hL.out.2.2.2.1 hL.out.2.2.2.2, Nums.nil _, fun h => ⟨(by rw [show _ = n.box from hL.out.2.1]; exact h.box), (by rw [show _ = n.fifo from hL.out.2.2.1]; exact h.fifo)⟩⟩, Z3⟩
    exact results_both Tryz.results203 _ _ gr gh _ _ rfl rfl Z1 Z2 rfl rfl
  · have h5' : (m.run == 5) = false := beq_eq_false_iff_ne.2 h5
    replace h5 := Lib.hid h5
    have c9 : W5.cell? ⟨g, 9, none⟩ = some (.int .i64 m.run) := X.cell 9
    have c8 : W5.cell? ⟨g, 8, none⟩ = some (.string m.got) := X.cell 8
    go_wp2_with fail
    refine (implWhole m.got _ hL.out.2.2.2.2).mono ?_
    rintro e w6 ⟨rfl, b⟩
    replace X := X.below b
    clear b c8 c9
    cases hw : wholeB m.got
    · have e := Lib.hid (show wholeN ({ n with run := 1, last := l }) = m from by rw [← hm1.out]; unfold wholeN; rw [if_neg (fun k => by rw [hw] at k; exact absurd k.1 (by decide))])
      clear hw
      go_upto_region 6 with fail
      go_wp2_with (first | (refine Nx.take ⟨X.blk, X.bel⟩ rfl rfl rfl ?_) | (refine wpList_put X.res rfl rfl rfl rfl rfl ?_) | (refine wpList_tell (k := 0) (f := zF) (ad := none) (cd := 0) (X.fin (ndC (m) p) #[]).1 rfl rfl rfl rfl rfl ?_))
      obtain ⟨-, Z1, Z2, Z3⟩ := X.fin (ndC (m) p) (hpC (0) (zF) (none) (0))
      refine bodyPost_ret (v := .tuple #[ndV (m) p, hpV (0) (zF) (none) (0)]) ?_ rfl ⟨p, none, 0, by rw [e.out], by rw [e.out]; exact fun u k => ⟨(h0.below (fromM ha0 Z3 k)).lists hL.out.1 hL.out.2.1 hL.out.2.2.1 hL.out.2.2.2.1 hL.out.2.2.2.2, Nums.nil _, fun h => ⟨(by rw [show _ = n.box from hL.out.2.1]; exact h.box), (by rw [show _ = n.fifo from hL.out.2.2.1]; exact h.fifo)⟩⟩, Z3⟩
      exact results_both Tryz.results203 _ _ gr gh _ _ rfl rfl Z1 Z2 rfl rfl
    · have e0 := Lib.hid (show wholeN ({ n with run := 1, last := l }) = { m with ph := 2, pos := 0, left := 0, bad := !m.tx && decide (rdCode m.got ≠ 0) } from by rw [← hm1.out]; unfold wholeN; rw [if_pos ⟨hw, h5.out⟩])
      clear hw
      have c8 : w6.cell? ⟨g, 8, none⟩ = some (.string m.got) := X.cell 8
      go_wp2_with fail
      refine (implRead m.got _ hL.out.2.2.2.2 (hE.below X.bel)).mono ?_
      rintro e w7 ⟨v, rfl, O, b⟩
      obtain ⟨av, cv, rfl, -⟩ := O.nums
      replace X := X.below b
      clear b c8 O
      have bb := below_more (Below.refl w7.heap.size w7) (.cells #[.int .i64 (rdId m.got), .bool (rdRm m.got), .int .i64 (rdLn m.got), .slice av (rdD m.got).length cv] 26)
      replace X := X.below bb
      clear bb
      go_upto_region 8 with fail
      generalize w7.alloc _ = W8 at X ⊢
      have c0 : W8.cell? ⟨g, 0, none⟩ = some (.int .i64 m.ph) := X.cell 0
      have c3 : W8.cell? ⟨g, 3, none⟩ = some (.bool m.bad) := X.cell 3
      have c11 : W8.cell? ⟨g, 11, none⟩ = some (.int .i64 m.pos) := X.cell 11
      have c12 : W8.cell? ⟨g, 12, none⟩ = some (.int .i64 m.left) := X.cell 12
      have f0 := X.free 0
      have f3 := X.free 3
      have f11 := X.free 11
      have f12 := X.free 12
      have c1 : W8.cell? ⟨g, 1, none⟩ = some (.bool m.tx) := X.cell 1
      rcases (Bool.eq_false_or_eq_true m.tx).symm with ht | ht
      · by_cases hc : rdCode m.got = 0
        · have hc' : (rdCode m.got != 0) = false := by rw [hc]; rfl
          have e := Lib.hid (e0.out.trans (show _ = { m with ph := 2, pos := 0, left := 0, bad := false } from by rw [ht, decide_eq_false (fun k => k hc)]; rfl))
          rw [ht] at c1
          clear ht hc e0
          go_upto_region 9 with fail
          clear c0 c1 c3 c11 c12 f0 f3 f11 f12
          replace X : N3 g gr gh (ndC ({ m with ph := 2, pos := 0, left := 0, bad := false }) p) w _ := ((((X.set 0 (.int .i64 2)).set 11 (.int .i64 0)).set 12 (.int .i64 0)).set 3 (.bool false))
          generalize World.setCell _ _ _ = W9 at X ⊢
          go_wp2_with (first | (refine Nx.take ⟨X.blk, X.bel⟩ rfl rfl rfl ?_) | (refine wpList_put X.res rfl rfl rfl rfl rfl ?_) | (refine wpList_tell (k := 0) (f := zF) (ad := none) (cd := 0) (X.fin (ndC ({ m with ph := 2, pos := 0, left := 0, bad := false }) p) #[]).1 rfl rfl rfl rfl rfl ?_))
          obtain ⟨-, Z1, Z2, Z3⟩ := X.fin (ndC ({ m with ph := 2, pos := 0, left := 0, bad := false }) p) (hpC (0) (zF) (none) (0))
          refine bodyPost_ret (v := .tuple #[ndV ({ m with ph := 2, pos := 0, left := 0, bad := false }) p, hpV (0) (zF) (none) (0)]) ?_ rfl ⟨p, none, 0, by rw [e.out], by rw [e.out]; exact fun u k => ⟨(h0.below (fromM ha0 Z3 k)).lists hL.out.1 hL.out.2.1 hL.out.2.2.1 hL.out.2.2.2.1 hL.out.2.2.2.2, Nums.nil _, fun h => ⟨(by rw [show _ = n.box from hL.out.2.1]; exact h.box), (by rw [show _ = n.fifo from hL.out.2.2.1]; exact h.fifo)⟩⟩, Z3⟩
          exact results_both Tryz.results203 _ _ gr gh _ _ rfl rfl Z1 Z2 rfl rfl
        · have hc' : (rdCode m.got != 0) = true := bne_iff_ne.2 hc
          have e := Lib.hid (e0.out.trans (show _ = { m with ph := 2, pos := 0, left := 0, bad := true } from by rw [ht, decide_eq_true hc]; rfl))
          rw [ht] at c1
          clear ht hc e0
          go_upto_region 9 with fail
          clear c0 c1 c3 c11 c12 f0 f3 f11 f12
          replace X : N3 g gr gh (ndC ({ m with ph := 2, pos := 0, left := 0, bad := true }) p) w _ := ((((X.set 0 (.int .i64 2)).set 11 (.int .i64 0)).set 12 (.int .i64 0)).set 3 (.bool true))
          generalize World.setCell _ _ _ = W9 at X ⊢
          go_wp2_with (first | (refine Nx.take ⟨X.blk, X.bel⟩ rfl rfl rfl ?_) | (refine wpList_put X.res rfl rfl rfl rfl rfl ?_) | (refine wpList_tell (k := 0) (f := zF) (ad := none) (cd := 0) (X.fin (ndC ({ m with ph := 2, pos := 0, left := 0, bad := true }) p) #[]).1 rfl rfl rfl rfl rfl ?_))
          obtain ⟨-, Z1, Z2, Z3⟩ := X.fin (ndC ({ m with ph := 2, pos := 0, left := 0, bad := true }) p) (hpC (0) (zF) (none) (0))
          refine bodyPost_ret (v := .tuple #[ndV ({ m with ph := 2, pos := 0, left := 0, bad := true }) p, hpV (0) (zF) (none) (0)]) ?_ rfl ⟨p, none, 0, by rw [e.out], by rw [e.out]; exact fun u k => ⟨(h0.below (fromM ha0 Z3 k)).lists hL.out.1 hL.out.2.1 hL.out.2.2.1 hL.out.2.2.2.1 hL.out.2.2.2.2, Nums.nil _, fun h => ⟨(by rw [show _ = n.box from hL.out.2.1]; exact h.box), (by rw [show _ = n.fifo from hL.out.2.2.1]; exact h.fifo)⟩⟩, Z3⟩
          exact results_both Tryz.results203 _ _ gr gh _ _ rfl rfl Z1 Z2 rfl rfl
      · have e := Lib.hid (e0.out.trans (show _ = { m with ph := 2, pos := 0, left := 0, bad := false } from by rw [ht]; rfl))
        rw [ht] at c1
        clear ht e0
        go_upto_region 9 with fail
        clear c0 c1 c3 c11 c12 f0 f3 f11 f12
        replace X : N3 g gr gh (ndC ({ m with ph := 2, pos := 0, left := 0, bad := false }) p) w _ := ((((X.set 0 (.int .i64 2)).set 11 (.int .i64 0)).set 12 (.int .i64 0)).set 3 (.bool false))
        generalize World.setCell _ _ _ = W9 at X ⊢
        go_wp2_with (first | (refine Nx.take ⟨X.blk, X.bel⟩ rfl rfl rfl ?_) | (refine wpList_put X.res rfl rfl rfl rfl rfl ?_) | (refine wpList_tell (k := 0) (f := zF) (ad := none) (cd := 0) (X.fin (ndC ({ m with ph := 2, pos := 0, left := 0, bad := false }) p) #[]).1 rfl rfl rfl rfl rfl ?_))
        obtain ⟨-, Z1, Z2, Z3⟩ := X.fin (ndC ({ m with ph := 2, pos := 0, left := 0, bad := false }) p) (hpC (0) (zF) (none) (0))
        refine bodyPost_ret (v := .tuple #[ndV ({ m with ph := 2, pos := 0, left := 0, bad := false }) p, hpV (0) (zF) (none) (0)]) ?_ rfl ⟨p, none, 0, by rw [e.out], by rw [e.out]; exact fun u k => ⟨(h0.below (fromM ha0 Z3 k)).lists hL.out.1 hL.out.2.1 hL.out.2.2.1 hL.out.2.2.2.1 hL.out.2.2.2.2, Nums.nil _, fun h => ⟨(by rw [show _ = n.box from hL.out.2.1]; exact h.box), (by rw [show _ = n.fifo from hL.out.2.2.1]; exact h.fifo)⟩⟩, Z3⟩
        exact results_both Tryz.results203 _ _ gr gh _ _ rfl rfl Z1 Z2 rfl rfl

set_option maxHeartbeats 4000000 in
/-- impl.inBody, six alike. -/
theorem implBodySix (n : Nd) (p : NdP) (l : Int) (w : World) (h5r : n.run = 5) (hne : l = n.last) :
    Calls Tryz.prog 203 #[ndV n p, .int .i64 l] w (Broke w) := by
  replace h5r := Lib.hid h5r
  have hn' : (l == n.last) = true := beq_iff_eq.2 hne
  clear hne
  have X := N3.made (ndC n p) w
  go_enter Tryz.func203, Tryz.ntmps203
  go_upto_region 1 with fail
  generalize World.alloc _ _ = W at X ⊢
  generalize w.heap.size + 1 + 1 = gh at X ⊢
  generalize w.heap.size + 1 = gr at X ⊢
  generalize w.heap.size = g at X ⊢
  have c9 : W.cell? ⟨g, 9, none⟩ = some (.int .i64 5) := (X.cell 9).trans (by rw [← h5r.out]; rfl)
  have c10 : W.cell? ⟨g, 10, none⟩ = some (.int .i64 n.last) := X.cell 10
  go_wp2_with fail
  refine (implBreak _).mono ?_
  rintro e w3 ⟨rfl, b⟩
  exact ⟨rfl, rfl, Below.then2 X.bel b⟩

set_option maxHeartbeats 4000000 in
/-- impl.inBody, where it parts. -/
theorem implBodyPart (n : Nd) (p : NdP) (l : Int) (w : World) (hm : NdM n p w) (hok : nodeB n = true) (h5r : n.run ≠ 5) (htx : n.tx = true) (hk : l ≠ nextV n) (hl2 : l = 1 ∨ 12 < n.got.size) (hs : n.got.size ≤ 98) :
    Calls Tryz.prog 203 #[ndV n p, .int .i64 l] w (Broke w) := by
  replace htx := Lib.hid htx
  replace hk := Lib.hid hk
  replace hl2 := Lib.hid hl2
  have h5' : (n.run == 5) = false := beq_eq_false_iff_ne.2 h5r
  clear h5r
  have X := N3.made (ndC n p) w
  go_enter Tryz.func203, Tryz.ntmps203
  go_upto_region 1 with fail
  generalize World.alloc _ _ = W at X ⊢
  generalize w.heap.size + 1 + 1 = gh at X ⊢
  generalize w.heap.size + 1 = gr at X ⊢
  generalize w.heap.size = g at X ⊢
  have c9 : W.cell? ⟨g, 9, none⟩ = some (.int .i64 n.run) := X.cell 9
  go_wp2_with (refine Nx.take ⟨X.blk, X.bel⟩ rfl rfl rfl ?_)
  refine (implPart n p l _ (hm.below X.bel) hok htx.out hk.out hl2.out hs).mono ?_
  rintro e w3 ⟨rfl, b⟩
  exact ⟨rfl, rfl, Below.then2 X.bel b⟩

theorem hear_size (n : Nd) (l : Int) : (hearN n l).got.size = n.got.size + 1 := by show (n.got ++ bitS l).size = _; rw [ByteArray.size_append, bitS_size]

set_option maxHeartbeats 16000000 in
/-- impl.inBody of one that goes on. -/
theorem implBodyKeep (n : Nd) (p : NdP) (l : Int) (w : World) (a0 : World) (h0 : NdM n p a0) (ha0 : Below a0.heap.size a0 w) (hE : ErrHeld w) (hok : nodeB n = true) (hl : l = 0 ∨ l = 1) (h5r : n.run ≠ 5) (hr : 0 ≤ n.run ∧ n.run ≤ 11) (hs : n.got.size ≤ 98) (hk : n.tx = false ∨ l = nextV n) :
    Calls Tryz.prog 203 #[ndV n p, .int .i64 l] w (SampX a0 (NdA n p) (wholeN (hearN (n) l), 0, zF) w) := by
  have hm := h0.below ha0
  replace hk := Lib.hid hk
  have h5' : (n.run == 5) = false := beq_eq_false_iff_ne.2 h5r
  clear h5r
  have X := N3.made (ndC n p) w
  go_enter Tryz.func203, Tryz.ntmps203
  go_upto_region 1 with fail
  generalize World.alloc _ _ = W at X ⊢
  generalize w.heap.size + 1 + 1 = gh at X ⊢
  generalize w.heap.size + 1 = gr at X ⊢
  generalize w.heap.size = g at X ⊢
  have c9 : W.cell? ⟨g, 9, none⟩ = some (.int .i64 n.run) := X.cell 9
  go_wp2_with (refine Nx.take ⟨X.blk, X.bel⟩ rfl rfl rfl ?_)
  clear c9
  refine (implKeep n p l _ (hm.below X.bel) hok hk.out).mono ?_
  rintro e w2 ⟨rfl, b⟩
  replace X := X.below b
  clear b
  go_wp2_with fail
  refine (implHear (n) p l _ hl hr hs).mono ?_
  rintro e w3 ⟨rfl, b⟩
  replace X := X.below b
  clear b
  go_upto_region 5 with (refine wpList_put X.blk rfl rfl rfl rfl rfl ?_)
  replace X : N3 g gr gh (ndC (hearN (n) l) p) w _ := X.put _
  generalize World.setRow _ _ _ = W5 at X ⊢
  have hsz1 : (hearN (n) l).got.size ≤ maxLen := by have := hear_size (n) l; have h2 : n.got.size ≤ 98 := hs; have h3 : (hearN (n) l).got.size = n.got.size + 1 := this; unfold maxLen; omega
  obtain ⟨m, hm1⟩ : ∃ m : Nd, m = (hearN (n) l) := ⟨_, rfl⟩
  rw [← hm1] at X
  have hL : m.fr = n.fr ∧ m.box = n.box ∧ m.fifo = n.fifo ∧ m.flt = n.flt ∧ m.got.size ≤ maxLen := by rw [hm1]; exact ⟨rfl, rfl, rfl, rfl, hsz1⟩
  replace hm1 := Lib.hid hm1
  replace hL := Lib.hid hL
  by_cases h5 : m.run = 5
  · have e := Lib.hid (show wholeN (hearN (n) l) = m from by rw [← hm1.out]; unfold wholeN; rw [if_neg (fun k => k.2 h5)])
    have c9 : W5.cell? ⟨g, 9, none⟩ = some (.int .i64 5) := (X.cell 9).trans (by rw [← h5]; rfl)
    clear h5
    go_upto_region 6 with fail
    clear c9
    go_wp2_with (first | (refine Nx.take ⟨X.blk, X.bel⟩ rfl rfl rfl ?_) | (refine wpList_put X.res rfl rfl rfl rfl rfl ?_) | (refine wpList_tell (k := 0) (f := zF) (ad := none) (cd := 0) (X.fin (ndC (m) p) #[]).1 rfl rfl rfl rfl rfl ?_))
    obtain ⟨-, Z1, Z2, Z3⟩ := X.fin (ndC (m) p) (hpC (0) (zF) (none) (0))
    refine bodyPost_ret (v := .tuple #[ndV (m) p, hpV (0) (zF) (none) (0)]) ?_ rfl ⟨p, none, 0, by rw [e.out], by rw [e.out]; exact fun u k => ⟨(h0.below (fromM ha0 Z3 k)).lists hL.out.1 hL.out.2.1 hL.out.2.2.1 hL.out.2.2.2.1 hL.out.2.2.2.2, Nums.nil _, fun h => ⟨(by rw [show _ = n.box from hL.out.2.1]; exact h.box), (by rw [show _ = n.fifo from hL.out.2.2.1]; exact h.fifo)⟩⟩, Z3⟩
    exact results_both Tryz.results203 _ _ gr gh _ _ rfl rfl Z1 Z2 rfl rfl
  · have h5' : (m.run == 5) = false := beq_eq_false_iff_ne.2 h5
    replace h5 := Lib.hid h5
    have c9 : W5.cell? ⟨g, 9, none⟩ = some (.int .i64 m.run) := X.cell 9
    have c8 : W5.cell? ⟨g, 8, none⟩ = some (.string m.got) := X.cell 8
    go_wp2_with fail
    refine (implWhole m.got _ hL.out.2.2.2.2).mono ?_
    rintro e w6 ⟨rfl, b⟩
    replace X := X.below b
    clear b c8 c9
    cases hw : wholeB m.got
    · have e := Lib.hid (show wholeN (hearN (n) l) = m from by rw [← hm1.out]; unfold wholeN; rw [if_neg (fun k => by rw [hw] at k; exact absurd k.1 (by decide))])
      clear hw
      go_upto_region 6 with fail
      go_wp2_with (first | (refine Nx.take ⟨X.blk, X.bel⟩ rfl rfl rfl ?_) | (refine wpList_put X.res rfl rfl rfl rfl rfl ?_) | (refine wpList_tell (k := 0) (f := zF) (ad := none) (cd := 0) (X.fin (ndC (m) p) #[]).1 rfl rfl rfl rfl rfl ?_))
      obtain ⟨-, Z1, Z2, Z3⟩ := X.fin (ndC (m) p) (hpC (0) (zF) (none) (0))
      refine bodyPost_ret (v := .tuple #[ndV (m) p, hpV (0) (zF) (none) (0)]) ?_ rfl ⟨p, none, 0, by rw [e.out], by rw [e.out]; exact fun u k => ⟨(h0.below (fromM ha0 Z3 k)).lists hL.out.1 hL.out.2.1 hL.out.2.2.1 hL.out.2.2.2.1 hL.out.2.2.2.2, Nums.nil _, fun h => ⟨(by rw [show _ = n.box from hL.out.2.1]; exact h.box), (by rw [show _ = n.fifo from hL.out.2.2.1]; exact h.fifo)⟩⟩, Z3⟩
      exact results_both Tryz.results203 _ _ gr gh _ _ rfl rfl Z1 Z2 rfl rfl
    · have e0 := Lib.hid (show wholeN (hearN (n) l) = { m with ph := 2, pos := 0, left := 0, bad := !m.tx && decide (rdCode m.got ≠ 0) } from by rw [← hm1.out]; unfold wholeN; rw [if_pos ⟨hw, h5.out⟩])
      clear hw
      have c8 : w6.cell? ⟨g, 8, none⟩ = some (.string m.got) := X.cell 8
      go_wp2_with fail
      refine (implRead m.got _ hL.out.2.2.2.2 (hE.below X.bel)).mono ?_
      rintro e w7 ⟨v, rfl, O, b⟩
      obtain ⟨av, cv, rfl, -⟩ := O.nums
      replace X := X.below b
      clear b c8 O
      have bb := below_more (Below.refl w7.heap.size w7) (.cells #[.int .i64 (rdId m.got), .bool (rdRm m.got), .int .i64 (rdLn m.got), .slice av (rdD m.got).length cv] 26)
      replace X := X.below bb
      clear bb
      go_upto_region 8 with fail
      generalize w7.alloc _ = W8 at X ⊢
      have c0 : W8.cell? ⟨g, 0, none⟩ = some (.int .i64 m.ph) := X.cell 0
      have c3 : W8.cell? ⟨g, 3, none⟩ = some (.bool m.bad) := X.cell 3
      have c11 : W8.cell? ⟨g, 11, none⟩ = some (.int .i64 m.pos) := X.cell 11
      have c12 : W8.cell? ⟨g, 12, none⟩ = some (.int .i64 m.left) := X.cell 12
      have f0 := X.free 0
      have f3 := X.free 3
      have f11 := X.free 11
      have f12 := X.free 12
      have c1 : W8.cell? ⟨g, 1, none⟩ = some (.bool m.tx) := X.cell 1
      rcases (Bool.eq_false_or_eq_true m.tx).symm with ht | ht
      · by_cases hc : rdCode m.got = 0
        · have hc' : (rdCode m.got != 0) = false := by rw [hc]; rfl
          have e := Lib.hid (e0.out.trans (show _ = { m with ph := 2, pos := 0, left := 0, bad := false } from by rw [ht, decide_eq_false (fun k => k hc)]; rfl))
          rw [ht] at c1
          clear ht hc e0
          go_upto_region 9 with fail
          clear c0 c1 c3 c11 c12 f0 f3 f11 f12
          replace X : N3 g gr gh (ndC ({ m with ph := 2, pos := 0, left := 0, bad := false }) p) w _ := ((((X.set 0 (.int .i64 2)).set 11 (.int .i64 0)).set 12 (.int .i64 0)).set 3 (.bool false))
          generalize World.setCell _ _ _ = W9 at X ⊢
          go_wp2_with (first | (refine Nx.take ⟨X.blk, X.bel⟩ rfl rfl rfl ?_) | (refine wpList_put X.res rfl rfl rfl rfl rfl ?_) | (refine wpList_tell (k := 0) (f := zF) (ad := none) (cd := 0) (X.fin (ndC ({ m with ph := 2, pos := 0, left := 0, bad := false }) p) #[]).1 rfl rfl rfl rfl rfl ?_))
          obtain ⟨-, Z1, Z2, Z3⟩ := X.fin (ndC ({ m with ph := 2, pos := 0, left := 0, bad := false }) p) (hpC (0) (zF) (none) (0))
          refine bodyPost_ret (v := .tuple #[ndV ({ m with ph := 2, pos := 0, left := 0, bad := false }) p, hpV (0) (zF) (none) (0)]) ?_ rfl ⟨p, none, 0, by rw [e.out], by rw [e.out]; exact fun u k => ⟨(h0.below (fromM ha0 Z3 k)).lists hL.out.1 hL.out.2.1 hL.out.2.2.1 hL.out.2.2.2.1 hL.out.2.2.2.2, Nums.nil _, fun h => ⟨(by rw [show _ = n.box from hL.out.2.1]; exact h.box), (by rw [show _ = n.fifo from hL.out.2.2.1]; exact h.fifo)⟩⟩, Z3⟩
          exact results_both Tryz.results203 _ _ gr gh _ _ rfl rfl Z1 Z2 rfl rfl
        · have hc' : (rdCode m.got != 0) = true := bne_iff_ne.2 hc
          have e := Lib.hid (e0.out.trans (show _ = { m with ph := 2, pos := 0, left := 0, bad := true } from by rw [ht, decide_eq_true hc]; rfl))
          rw [ht] at c1
          clear ht hc e0
          go_upto_region 9 with fail
          clear c0 c1 c3 c11 c12 f0 f3 f11 f12
          replace X : N3 g gr gh (ndC ({ m with ph := 2, pos := 0, left := 0, bad := true }) p) w _ := ((((X.set 0 (.int .i64 2)).set 11 (.int .i64 0)).set 12 (.int .i64 0)).set 3 (.bool true))
          generalize World.setCell _ _ _ = W9 at X ⊢
          go_wp2_with (first | (refine Nx.take ⟨X.blk, X.bel⟩ rfl rfl rfl ?_) | (refine wpList_put X.res rfl rfl rfl rfl rfl ?_) | (refine wpList_tell (k := 0) (f := zF) (ad := none) (cd := 0) (X.fin (ndC ({ m with ph := 2, pos := 0, left := 0, bad := true }) p) #[]).1 rfl rfl rfl rfl rfl ?_))
          obtain ⟨-, Z1, Z2, Z3⟩ := X.fin (ndC ({ m with ph := 2, pos := 0, left := 0, bad := true }) p) (hpC (0) (zF) (none) (0))
          refine bodyPost_ret (v := .tuple #[ndV ({ m with ph := 2, pos := 0, left := 0, bad := true }) p, hpV (0) (zF) (none) (0)]) ?_ rfl ⟨p, none, 0, by rw [e.out], by rw [e.out]; exact fun u k => ⟨(h0.below (fromM ha0 Z3 k)).lists hL.out.1 hL.out.2.1 hL.out.2.2.1 hL.out.2.2.2.1 hL.out.2.2.2.2, Nums.nil _, fun h => ⟨(by rw [show _ = n.box from hL.out.2.1]; exact h.box), (by rw [show _ = n.fifo from hL.out.2.2.1]; exact h.fifo)⟩⟩, Z3⟩
          exact results_both Tryz.results203 _ _ gr gh _ _ rfl rfl Z1 Z2 rfl rfl
      · have e := Lib.hid (e0.out.trans (show _ = { m with ph := 2, pos := 0, left := 0, bad := false } from by rw [ht]; rfl))
        rw [ht] at c1
        clear ht e0
        go_upto_region 9 with fail
        clear c0 c1 c3 c11 c12 f0 f3 f11 f12
        replace X : N3 g gr gh (ndC ({ m with ph := 2, pos := 0, left := 0, bad := false }) p) w _ := ((((X.set 0 (.int .i64 2)).set 11 (.int .i64 0)).set 12 (.int .i64 0)).set 3 (.bool false))
        generalize World.setCell _ _ _ = W9 at X ⊢
        go_wp2_with (first | (refine Nx.take ⟨X.blk, X.bel⟩ rfl rfl rfl ?_) | (refine wpList_put X.res rfl rfl rfl rfl rfl ?_) | (refine wpList_tell (k := 0) (f := zF) (ad := none) (cd := 0) (X.fin (ndC ({ m with ph := 2, pos := 0, left := 0, bad := false }) p) #[]).1 rfl rfl rfl rfl rfl ?_))
        obtain ⟨-, Z1, Z2, Z3⟩ := X.fin (ndC ({ m with ph := 2, pos := 0, left := 0, bad := false }) p) (hpC (0) (zF) (none) (0))
        refine bodyPost_ret (v := .tuple #[ndV ({ m with ph := 2, pos := 0, left := 0, bad := false }) p, hpV (0) (zF) (none) (0)]) ?_ rfl ⟨p, none, 0, by rw [e.out], by rw [e.out]; exact fun u k => ⟨(h0.below (fromM ha0 Z3 k)).lists hL.out.1 hL.out.2.1 hL.out.2.2.1 hL.out.2.2.2.1 hL.out.2.2.2.2, Nums.nil _, fun h => ⟨(by rw [show _ = n.box from hL.out.2.1]; exact h.box), (by rw [show _ = n.fifo from hL.out.2.2.1]; exact h.fifo)⟩⟩, Z3⟩
        exact results_both Tryz.results203 _ _ gr gh _ _ rfl rfl Z1 Z2 rfl rfl

set_option maxHeartbeats 16000000 in
/-- impl.inBody of one that falls silent. -/
theorem implBodyLose (n : Nd) (p : NdP) (l : Int) (w : World) (a0 : World) (h0 : NdM n p a0) (ha0 : Below a0.heap.size a0 w) (hE : ErrHeld w) (hok : nodeB n = true) (hl : l = 0 ∨ l = 1) (h5r : n.run ≠ 5) (hr : 0 ≤ n.run ∧ n.run ≤ 11) (hs : n.got.size ≤ 98) (htx : n.tx = true) (hk : l ≠ nextV n) (hl2 : l = 0 ∧ n.got.size ≤ 12) :
    Calls Tryz.prog 203 #[ndV n p, .int .i64 l] w (SampX a0 (NdA n p) (wholeN (hearN ({ n with tx := false }) l), 0, zF) w) := by
  have hm := h0.below ha0
  replace htx := Lib.hid htx
  replace hk := Lib.hid hk
  replace hl2 := Lib.hid hl2
  have h5' : (n.run == 5) = false := beq_eq_false_iff_ne.2 h5r
  clear h5r
  have X := N3.made (ndC n p) w
  go_enter Tryz.func203, Tryz.ntmps203
  go_upto_region 1 with fail
  generalize World.alloc _ _ = W at X ⊢
  generalize w.heap.size + 1 + 1 = gh at X ⊢
  generalize w.heap.size + 1 = gr at X ⊢
  generalize w.heap.size = g at X ⊢
  have c9 : W.cell? ⟨g, 9, none⟩ = some (.int .i64 n.run) := X.cell 9
  go_wp2_with (refine Nx.take ⟨X.blk, X.bel⟩ rfl rfl rfl ?_)
  clear c9
  refine (implLose n p l _ (hm.below X.bel) hok htx.out hk.out hl2.out.1 hl2.out.2).mono ?_
  rintro e w2 ⟨rfl, b⟩
  replace X := X.below b
  clear b
  go_wp2_with fail
  refine (implHear ({ n with tx := false }) p l _ hl hr hs).mono ?_
  rintro e w3 ⟨rfl, b⟩
  replace X := X.below b
  clear b
  go_upto_region 5 with (refine wpList_put X.blk rfl rfl rfl rfl rfl ?_)
  replace X : N3 g gr gh (ndC (hearN ({ n with tx := false }) l) p) w _ := X.put _
  generalize World.setRow _ _ _ = W5 at X ⊢
  have hsz1 : (hearN ({ n with tx := false }) l).got.size ≤ maxLen := by have := hear_size ({ n with tx := false }) l; have h2 : n.got.size ≤ 98 := hs; have h3 : (hearN ({ n with tx := false }) l).got.size = n.got.size + 1 := this; unfold maxLen; omega
  obtain ⟨m, hm1⟩ : ∃ m : Nd, m = (hearN ({ n with tx := false }) l) := ⟨_, rfl⟩
  rw [← hm1] at X
  have hL : m.fr = n.fr ∧ m.box = n.box ∧ m.fifo = n.fifo ∧ m.flt = n.flt ∧ m.got.size ≤ maxLen := by rw [hm1]; exact ⟨rfl, rfl, rfl, rfl, hsz1⟩
  replace hm1 := Lib.hid hm1
  replace hL := Lib.hid hL
  by_cases h5 : m.run = 5
  · have e := Lib.hid (show wholeN (hearN ({ n with tx := false }) l) = m from by rw [← hm1.out]; unfold wholeN; rw [if_neg (fun k => k.2 h5)])
    have c9 : W5.cell? ⟨g, 9, none⟩ = some (.int .i64 5) := (X.cell 9).trans (by rw [← h5]; rfl)
    clear h5
    go_upto_region 6 with fail
    clear c9
    go_wp2_with (first | (refine Nx.take ⟨X.blk, X.bel⟩ rfl rfl rfl ?_) | (refine wpList_put X.res rfl rfl rfl rfl rfl ?_) | (refine wpList_tell (k := 0) (f := zF) (ad := none) (cd := 0) (X.fin (ndC (m) p) #[]).1 rfl rfl rfl rfl rfl ?_))
    obtain ⟨-, Z1, Z2, Z3⟩ := X.fin (ndC (m) p) (hpC (0) (zF) (none) (0))
    refine bodyPost_ret (v := .tuple #[ndV (m) p, hpV (0) (zF) (none) (0)]) ?_ rfl ⟨p, none, 0, by rw [e.out], by rw [e.out]; exact fun u k => ⟨(h0.below (fromM ha0 Z3 k)).lists hL.out.1 hL.out.2.1 hL.out.2.2.1 hL.out.2.2.2.1 hL.out.2.2.2.2, Nums.nil _, fun h => ⟨(by rw [show _ = n.box from hL.out.2.1]; exact h.box), (by rw [show _ = n.fifo from hL.out.2.2.1]; exact h.fifo)⟩⟩, Z3⟩
    exact results_both Tryz.results203 _ _ gr gh _ _ rfl rfl Z1 Z2 rfl rfl
  · have h5' : (m.run == 5) = false := beq_eq_false_iff_ne.2 h5
    replace h5 := Lib.hid h5
    have c9 : W5.cell? ⟨g, 9, none⟩ = some (.int .i64 m.run) := X.cell 9
    have c8 : W5.cell? ⟨g, 8, none⟩ = some (.string m.got) := X.cell 8
    go_wp2_with fail
    refine (implWhole m.got _ hL.out.2.2.2.2).mono ?_
    rintro e w6 ⟨rfl, b⟩
    replace X := X.below b
    clear b c8 c9
    cases hw : wholeB m.got
    · have e := Lib.hid (show wholeN (hearN ({ n with tx := false }) l) = m from by rw [← hm1.out]; unfold wholeN; rw [if_neg (fun k => by rw [hw] at k; exact absurd k.1 (by decide))])
      clear hw
      go_upto_region 6 with fail
      go_wp2_with (first | (refine Nx.take ⟨X.blk, X.bel⟩ rfl rfl rfl ?_) | (refine wpList_put X.res rfl rfl rfl rfl rfl ?_) | (refine wpList_tell (k := 0) (f := zF) (ad := none) (cd := 0) (X.fin (ndC (m) p) #[]).1 rfl rfl rfl rfl rfl ?_))
      obtain ⟨-, Z1, Z2, Z3⟩ := X.fin (ndC (m) p) (hpC (0) (zF) (none) (0))
      refine bodyPost_ret (v := .tuple #[ndV (m) p, hpV (0) (zF) (none) (0)]) ?_ rfl ⟨p, none, 0, by rw [e.out], by rw [e.out]; exact fun u k => ⟨(h0.below (fromM ha0 Z3 k)).lists hL.out.1 hL.out.2.1 hL.out.2.2.1 hL.out.2.2.2.1 hL.out.2.2.2.2, Nums.nil _, fun h => ⟨(by rw [show _ = n.box from hL.out.2.1]; exact h.box), (by rw [show _ = n.fifo from hL.out.2.2.1]; exact h.fifo)⟩⟩, Z3⟩
      exact results_both Tryz.results203 _ _ gr gh _ _ rfl rfl Z1 Z2 rfl rfl
    · have e0 := Lib.hid (show wholeN (hearN ({ n with tx := false }) l) = { m with ph := 2, pos := 0, left := 0, bad := !m.tx && decide (rdCode m.got ≠ 0) } from by rw [← hm1.out]; unfold wholeN; rw [if_pos ⟨hw, h5.out⟩])
      clear hw
      have c8 : w6.cell? ⟨g, 8, none⟩ = some (.string m.got) := X.cell 8
      go_wp2_with fail
      refine (implRead m.got _ hL.out.2.2.2.2 (hE.below X.bel)).mono ?_
      rintro e w7 ⟨v, rfl, O, b⟩
      obtain ⟨av, cv, rfl, -⟩ := O.nums
      replace X := X.below b
      clear b c8 O
      have bb := below_more (Below.refl w7.heap.size w7) (.cells #[.int .i64 (rdId m.got), .bool (rdRm m.got), .int .i64 (rdLn m.got), .slice av (rdD m.got).length cv] 26)
      replace X := X.below bb
      clear bb
      go_upto_region 8 with fail
      generalize w7.alloc _ = W8 at X ⊢
      have c0 : W8.cell? ⟨g, 0, none⟩ = some (.int .i64 m.ph) := X.cell 0
      have c3 : W8.cell? ⟨g, 3, none⟩ = some (.bool m.bad) := X.cell 3
      have c11 : W8.cell? ⟨g, 11, none⟩ = some (.int .i64 m.pos) := X.cell 11
      have c12 : W8.cell? ⟨g, 12, none⟩ = some (.int .i64 m.left) := X.cell 12
      have f0 := X.free 0
      have f3 := X.free 3
      have f11 := X.free 11
      have f12 := X.free 12
      have c1 : W8.cell? ⟨g, 1, none⟩ = some (.bool m.tx) := X.cell 1
      rcases (Bool.eq_false_or_eq_true m.tx).symm with ht | ht
      · by_cases hc : rdCode m.got = 0
        · have hc' : (rdCode m.got != 0) = false := by rw [hc]; rfl
          have e := Lib.hid (e0.out.trans (show _ = { m with ph := 2, pos := 0, left := 0, bad := false } from by rw [ht, decide_eq_false (fun k => k hc)]; rfl))
          rw [ht] at c1
          clear ht hc e0
          go_upto_region 9 with fail
          clear c0 c1 c3 c11 c12 f0 f3 f11 f12
          replace X : N3 g gr gh (ndC ({ m with ph := 2, pos := 0, left := 0, bad := false }) p) w _ := ((((X.set 0 (.int .i64 2)).set 11 (.int .i64 0)).set 12 (.int .i64 0)).set 3 (.bool false))
          generalize World.setCell _ _ _ = W9 at X ⊢
          go_wp2_with (first | (refine Nx.take ⟨X.blk, X.bel⟩ rfl rfl rfl ?_) | (refine wpList_put X.res rfl rfl rfl rfl rfl ?_) | (refine wpList_tell (k := 0) (f := zF) (ad := none) (cd := 0) (X.fin (ndC ({ m with ph := 2, pos := 0, left := 0, bad := false }) p) #[]).1 rfl rfl rfl rfl rfl ?_))
          obtain ⟨-, Z1, Z2, Z3⟩ := X.fin (ndC ({ m with ph := 2, pos := 0, left := 0, bad := false }) p) (hpC (0) (zF) (none) (0))
          refine bodyPost_ret (v := .tuple #[ndV ({ m with ph := 2, pos := 0, left := 0, bad := false }) p, hpV (0) (zF) (none) (0)]) ?_ rfl ⟨p, none, 0, by rw [e.out], by rw [e.out]; exact fun u k => ⟨(h0.below (fromM ha0 Z3 k)).lists hL.out.1 hL.out.2.1 hL.out.2.2.1 hL.out.2.2.2.1 hL.out.2.2.2.2, Nums.nil _, fun h => ⟨(by rw [show _ = n.box from hL.out.2.1]; exact h.box), (by rw [show _ = n.fifo from hL.out.2.2.1]; exact h.fifo)⟩⟩, Z3⟩
          exact results_both Tryz.results203 _ _ gr gh _ _ rfl rfl Z1 Z2 rfl rfl
        · have hc' : (rdCode m.got != 0) = true := bne_iff_ne.2 hc
          have e := Lib.hid (e0.out.trans (show _ = { m with ph := 2, pos := 0, left := 0, bad := true } from by rw [ht, decide_eq_true hc]; rfl))
          rw [ht] at c1
          clear ht hc e0
          go_upto_region 9 with fail
          clear c0 c1 c3 c11 c12 f0 f3 f11 f12
          replace X : N3 g gr gh (ndC ({ m with ph := 2, pos := 0, left := 0, bad := true }) p) w _ := ((((X.set 0 (.int .i64 2)).set 11 (.int .i64 0)).set 12 (.int .i64 0)).set 3 (.bool true))
          generalize World.setCell _ _ _ = W9 at X ⊢
          go_wp2_with (first | (refine Nx.take ⟨X.blk, X.bel⟩ rfl rfl rfl ?_) | (refine wpList_put X.res rfl rfl rfl rfl rfl ?_) | (refine wpList_tell (k := 0) (f := zF) (ad := none) (cd := 0) (X.fin (ndC ({ m with ph := 2, pos := 0, left := 0, bad := true }) p) #[]).1 rfl rfl rfl rfl rfl ?_))
          obtain ⟨-, Z1, Z2, Z3⟩ := X.fin (ndC ({ m with ph := 2, pos := 0, left := 0, bad := true }) p) (hpC (0) (zF) (none) (0))
          refine bodyPost_ret (v := .tuple #[ndV ({ m with ph := 2, pos := 0, left := 0, bad := true }) p, hpV (0) (zF) (none) (0)]) ?_ rfl ⟨p, none, 0, by rw [e.out], by rw [e.out]; exact fun u k => ⟨(h0.below (fromM ha0 Z3 k)).lists hL.out.1 hL.out.2.1 hL.out.2.2.1 hL.out.2.2.2.1 hL.out.2.2.2.2, Nums.nil _, fun h => ⟨(by rw [show _ = n.box from hL.out.2.1]; exact h.box), (by rw [show _ = n.fifo from hL.out.2.2.1]; exact h.fifo)⟩⟩, Z3⟩
          exact results_both Tryz.results203 _ _ gr gh _ _ rfl rfl Z1 Z2 rfl rfl
      · have e := Lib.hid (e0.out.trans (show _ = { m with ph := 2, pos := 0, left := 0, bad := false } from by rw [ht]; rfl))
        rw [ht] at c1
        clear ht e0
        go_upto_region 9 with fail
        clear c0 c1 c3 c11 c12 f0 f3 f11 f12
        replace X : N3 g gr gh (ndC ({ m with ph := 2, pos := 0, left := 0, bad := false }) p) w _ := ((((X.set 0 (.int .i64 2)).set 11 (.int .i64 0)).set 12 (.int .i64 0)).set 3 (.bool false))
        generalize World.setCell _ _ _ = W9 at X ⊢
        go_wp2_with (first | (refine Nx.take ⟨X.blk, X.bel⟩ rfl rfl rfl ?_) | (refine wpList_put X.res rfl rfl rfl rfl rfl ?_) | (refine wpList_tell (k := 0) (f := zF) (ad := none) (cd := 0) (X.fin (ndC ({ m with ph := 2, pos := 0, left := 0, bad := false }) p) #[]).1 rfl rfl rfl rfl rfl ?_))
        obtain ⟨-, Z1, Z2, Z3⟩ := X.fin (ndC ({ m with ph := 2, pos := 0, left := 0, bad := false }) p) (hpC (0) (zF) (none) (0))
        refine bodyPost_ret (v := .tuple #[ndV ({ m with ph := 2, pos := 0, left := 0, bad := false }) p, hpV (0) (zF) (none) (0)]) ?_ rfl ⟨p, none, 0, by rw [e.out], by rw [e.out]; exact fun u k => ⟨(h0.below (fromM ha0 Z3 k)).lists hL.out.1 hL.out.2.1 hL.out.2.2.1 hL.out.2.2.2.1 hL.out.2.2.2.2, Nums.nil _, fun h => ⟨(by rw [show _ = n.box from hL.out.2.1]; exact h.box), (by rw [show _ = n.fifo from hL.out.2.2.1]; exact h.fifo)⟩⟩, Z3⟩
        exact results_both Tryz.results203 _ _ gr gh _ _ rfl rfl Z1 Z2 rfl rfl
end Go.Proofs.YtngcekegngmedaaGreatDoor

/- Each phase's step of the program answers what sampN tells, or breaks off. -/

set_option linter.unusedVariables false
set_option linter.unusedSimpArgs false
set_option maxRecDepth 20000
namespace Go.Proofs.YtngcekegngmedaaGreatDoor
open Go.RowKit

section
variable {n r : Nd} {p : NdP} {k : Int} {a0 w w' : World} {e : Ending}
theorem Told.x (h : Told r k p w e w') (h0 : NdM n p a0) (ha0 : Below a0.heap.size a0 w) (e1 : r.fr = n.fr) (e2 : r.box = n.box) (e3 : r.fifo = n.fifo) (e4 : r.flt = n.flt) (hs : r.got.size ≤ maxLen) : SampX a0 (NdA n p) (r, k, zF) w e w' :=
  ⟨p, none, 0, h.1, fun u km => ⟨(h0.below (fromM ha0 h.2 km)).lists e1 e2 e3 e4 hs, Nums.nil _, fun h => ⟨by rw [e2]; exact h.box, by rw [e3]; exact h.fifo⟩⟩, h.2⟩
theorem TellF.x (h : TellF r k n p w e w') (h0 : NdM n p a0) (ha0 : Below a0.heap.size a0 w) (e2 : r.box = n.box) (e3 : r.fifo = n.fifo) (e4 : r.flt = n.flt) (hs : r.got.size ≤ maxLen) : SampX a0 (NdA n p) (r, k, zF) w e w' := by
  obtain ⟨q, ht, h | h⟩ := h
  · obtain ⟨e1, rfl⟩ := h
    exact ht.x h0 ha0 e1 e2 e3 e4 hs
  · obtain ⟨e1, rfl⟩ := h
    refine ⟨_, none, 0, ht.1, fun u km => ⟨?_, Nums.nil _, fun h => ⟨by rw [e2]; exact h.box, by rw [e3]; exact h.fifo⟩⟩, ht.2⟩
    have M := h0.below (fromM ha0 ht.2 km)
    exact ⟨by rw [e1]; exact Nums.nil _, by rw [e2]; exact M.box, by rw [e3]; exact M.fifo, by rw [e4]; exact M.flt, hs⟩
end
theorem cdN_lists (n : Nd) (a b : Int) : (cdN n a b).fr = n.fr ∧ (cdN n a b).box = n.box ∧ (cdN n a b).fifo = n.fifo ∧ (cdN n a b).flt = n.flt ∧ (cdN n a b).got = n.got := by unfold cdN; split <;> exact ⟨rfl, rfl, rfl, rfl, rfl⟩
theorem offN_lists (n : Nd) (l : Int) : (offN n l).1.box = n.box ∧ (offN n l).1.fifo = n.fifo ∧ (offN n l).1.flt = n.flt ∧ (offN n l).1.got = n.got ∧ (offN n l).2.2 = zF := by
  unfold offN
  by_cases h1 : l = 0
  · simp only [if_pos h1, and_self]
  · by_cases h2 : n.run + 1 < 11
    · simp only [if_neg h1, if_pos h2, and_self]
    · by_cases h3 : 0 < n.left - 1
      · simp only [if_neg h1, if_neg h2, if_pos h3, and_self]
      · simp only [if_neg h1, if_neg h2, if_neg h3, and_self]
/-- Which function a phase's step is; what it answers. -/
def StepsTo (n : Nd) (p : NdP) (l : Int) (a0 : World) (f : FuncId) : Prop :=
  (∀ W : World, (Instr.index 167 stepsV (.int .i64 n.ph)).run Tryz.prog W = .ok (.func (.func f) #[] #[]) W) ∧ (∀ (args : Array Value) (W : World), (callFunc f args).run Tryz.prog W = .ok (.enter f args) W) ∧
  ((∀ w, Below a0.heap.size a0 w → Calls Tryz.prog f #[ndV n p, .int .i64 l] w (SampX a0 (NdA n p) (sampN n l) w)) ∨ (sampN n l = brkN n ∧ ∀ w, Below a0.heap.size a0 w → Calls Tryz.prog f #[ndV n p, .int .i64 l] w (Broke w)))

theorem steps0 (n : Nd) (p : NdP) (l : Int) (a0 : World) (h0 : NdM n p a0) (hok : nodeB n = true) (hl : l = 0 ∨ l = 1) (hp : n.ph = 0) : StepsTo n p l a0 202 := by
  obtain ⟨R, W1⟩ := right_iff.1 hok
  have e : sampN n l = (if l = 1 then (n, 0, zF) else ({ begN n (decide (0 < n.box.length)) with fr := if 0 < n.box.length then nthF n.box 0 else zF }, 0, zF)) := by unfold sampN; rw [if_pos hp]
  exact ⟨fun W => by rw [hp]; kernel_rfl, fun _ _ => by kernel_rfl, .inl fun w ha => by rw [e]; exact implInIdle n p l w a0 h0 ha hl⟩

theorem steps3 (n : Nd) (p : NdP) (l : Int) (a0 : World) (h0 : NdM n p a0) (hok : nodeB n = true) (hl : l = 0 ∨ l = 1) (hp : n.ph = 3) : StepsTo n p l a0 205 := by
  obtain ⟨R, W1⟩ := right_iff.1 hok
  have e : sampN n l = (cdN n 4 8, 0, zF) := by unfold sampN; rw [if_neg (by rw [hp]; decide)]; rw [if_neg (by rw [hp]; decide)]; rw [if_neg (by rw [hp]; decide)]; rw [if_neg (by rw [hp]; decide)]; unfold pauseN; rw [if_pos hp]; rfl
  obtain ⟨e1, e2, e3, e4, e5⟩ := cdN_lists n 4 8
  exact ⟨fun W => by rw [hp]; kernel_rfl, fun _ _ => by kernel_rfl, .inl fun w ha => by rw [e]; exact (implInFlag n p l w R.left).mono fun _ _ h => h.x h0 ha e1 e2 e3 e4 (by rw [e5]; exact h0.size)⟩

theorem steps4 (n : Nd) (p : NdP) (l : Int) (a0 : World) (h0 : NdM n p a0) (hok : nodeB n = true) (hl : l = 0 ∨ l = 1) (hp : n.ph = 4) : StepsTo n p l a0 206 := by
  obtain ⟨R, W1⟩ := right_iff.1 hok
  have e : sampN n l = (if l = 0 then { n with left := 8 } else cdN n 5 3, 0, zF) := by unfold sampN; rw [if_neg (by rw [hp]; decide)]; rw [if_neg (by rw [hp]; decide)]; rw [if_neg (by rw [hp]; decide)]; rw [if_neg (by rw [hp]; decide)]; unfold pauseN; rw [if_neg (by rw [hp]; decide)]; rw [if_pos hp]; rfl
  obtain ⟨e1, e2, e3, e4, e5⟩ := cdN_lists n 5 3
  refine ⟨fun W => by rw [hp]; kernel_rfl, fun _ _ => by kernel_rfl, .inl fun w ha => ?_⟩
  rw [e]
  refine (implInDelim n p l w hl R.left).mono fun _ _ h => h.x h0 ha ?_ ?_ ?_ ?_ ?_
  · split; rfl; exact e1
  · split; rfl; exact e2
  · split; rfl; exact e3
  · split; rfl; exact e4
  · split; exact h0.size; rw [e5]; exact h0.size

theorem steps5 (n : Nd) (p : NdP) (l : Int) (a0 : World) (h0 : NdM n p a0) (hok : nodeB n = true) (hl : l = 0 ∨ l = 1) (hp : n.ph = 5) : StepsTo n p l a0 207 := by
  obtain ⟨R, W1⟩ := right_iff.1 hok
  have e : sampN n l = ((if n.tx = true ∧ stV n.cs n.cg = 1 then (if lessV n.left = 0 then { n with ph := 6, left := 8, tx := false, fr := zF } else { n with left := lessV n.left }) else (if lessV n.left = 0 then { n with ph := 0, left := 0, tx := false, fr := zF } else { n with left := lessV n.left })), 0, zF) := by unfold sampN; rw [if_neg (by rw [hp]; decide)]; rw [if_neg (by rw [hp]; decide)]; rw [if_neg (by rw [hp]; decide)]; rw [if_neg (by rw [hp]; decide)]; unfold pauseN; rw [if_neg (by rw [hp]; decide)]; rw [if_neg (by rw [hp]; decide)]; rw [if_pos hp]; (repeat' split) <;> rfl
  refine ⟨fun W => by rw [hp]; kernel_rfl, fun _ _ => by kernel_rfl, .inl fun w ha => ?_⟩
  rw [e]
  refine (implInInter n p l w R.left hp).mono fun _ _ h => h.x h0 ha ?_ ?_ ?_ ?_
  · (repeat' split) <;> rfl
  · (repeat' split) <;> rfl
  · (repeat' split) <;> rfl
  · (repeat' split) <;> exact h0.size

theorem steps6 (n : Nd) (p : NdP) (l : Int) (a0 : World) (h0 : NdM n p a0) (hok : nodeB n = true) (hl : l = 0 ∨ l = 1) (hp : n.ph = 6) : StepsTo n p l a0 208 := by
  obtain ⟨R, W1⟩ := right_iff.1 hok
  have e : sampN n l = (if l = 0 then begN n false else cdN n 0 0, 0, zF) := by unfold sampN; rw [if_neg (by rw [hp]; decide)]; rw [if_neg (by rw [hp]; decide)]; rw [if_neg (by rw [hp]; decide)]; rw [if_neg (by rw [hp]; decide)]; unfold pauseN; rw [if_neg (by rw [hp]; decide)]; rw [if_neg (by rw [hp]; decide)]; rw [if_neg (by rw [hp]; decide)]; rw [if_pos hp]; rfl
  obtain ⟨e1, e2, e3, e4, e5⟩ := cdN_lists n 0 0
  refine ⟨fun W => by rw [hp]; kernel_rfl, fun _ _ => by kernel_rfl, .inl fun w ha => ?_⟩
  rw [e]
  refine (implInWait n p l w hl R.left).mono fun _ _ h => h.x h0 ha ?_ ?_ ?_ ?_ ?_
  · split; rfl; exact e1
  · split; rfl; exact e2
  · split; rfl; exact e3
  · split; rfl; exact e4
  · split; exact one_le_max; rw [e5]; exact h0.size

theorem steps7 (n : Nd) (p : NdP) (l : Int) (a0 : World) (h0 : NdM n p a0) (hok : nodeB n = true) (hl : l = 0 ∨ l = 1) (hp : n.ph = 7) : StepsTo n p l a0 209 := by
  obtain ⟨R, W1⟩ := right_iff.1 hok
  have e : sampN n l = offN n l := by unfold sampN; rw [if_neg (by rw [hp]; decide)]; rw [if_neg (by rw [hp]; decide)]; rw [if_neg (by rw [hp]; decide)]; rw [if_pos hp]
  obtain ⟨e2, e3, e4, e5, e6⟩ := offN_lists n l
  have e7 : offN n l = ((offN n l).1, (offN n l).2.1, zF) := by rw [← e6]
  exact ⟨fun W => by rw [hp]; kernel_rfl, fun _ _ => by kernel_rfl, .inl fun w ha => by rw [e, e7]; exact (implInOff n p l w hl R.left R.run hp).mono fun _ _ h => h.x h0 ha e2 e3 e4 (by rw [e5]; exact h0.size)⟩

theorem steps1 (n : Nd) (p : NdP) (l : Int) (a0 : World) (h0 : NdM n p a0) (hok : nodeB n = true) (hl : l = 0 ∨ l = 1) (hE : ErrHeld a0) (hp : n.ph = 1) : StepsTo n p l a0 203 := by
  obtain ⟨R, W1⟩ := right_iff.1 hok
  have e : sampN n l = bodyN n l := by unfold sampN; rw [if_neg (by rw [hp]; decide)]; rw [if_pos hp]
  have W := W1 hp
  have nb := nextV_bd hok
  refine ⟨fun W => by rw [hp]; kernel_rfl, fun _ _ => by kernel_rfl, ?_⟩
  by_cases h5 : n.run = 5
  · by_cases hne : l = n.last
    · exact .inr ⟨by rw [e]; unfold bodyN; rw [if_pos h5, if_pos hne], fun w ha => implBodySix n p l w h5 hne⟩
    · exact .inl fun w ha => by rw [e]; unfold bodyN; rw [if_pos h5, if_neg hne]; exact implBodyFive n p l w a0 h0 ha (hE.below (ha.mono (Nat.le_refl _))) hl h5 hne
  · by_cases hk : n.tx = true ∧ l ≠ nextV n
    · by_cases h2 : nextV n = 0 ∨ 12 < n.got.size
      · exact .inr ⟨by rw [e]; unfold bodyN; rw [if_neg h5, if_pos hk, if_pos h2], fun w ha => implBodyPart n p l w (h0.below ha) hok h5 hk.1 hk.2 (by rcases h2 with h2 | h2; left; omega; right; exact h2) R.size⟩
      · exact .inl fun w ha => by rw [e]; unfold bodyN; rw [if_neg h5, if_pos hk, if_neg h2]; exact implBodyLose n p l w a0 h0 ha (hE.below (ha.mono (Nat.le_refl _))) hok hl h5 R.run R.size hk.1 hk.2 ⟨by omega, by omega⟩
    · exact .inl fun w ha => by rw [e]; unfold bodyN; rw [if_neg h5, if_neg hk]; exact implBodyKeep n p l w a0 h0 ha (hE.below (ha.mono (Nat.le_refl _))) hok hl h5 R.run R.size (by cases ht : n.tx; exact .inl rfl; exact .inr (Classical.byContradiction fun k => hk ⟨ht, k⟩))

theorem steps2 (n : Nd) (p : NdP) (l : Int) (a0 : World) (h0 : NdM n p a0) (hok : nodeB n = true) (hl : l = 0 ∨ l = 1) (hE : ErrHeld a0) (hA : NdA n p) (hp : n.ph = 2) : StepsTo n p l a0 204 := by
  obtain ⟨R, W1⟩ := right_iff.1 hok
  have e : sampN n l = tailN n l := by unfold sampN; rw [if_neg (by rw [hp]; decide)]; rw [if_neg (by rw [hp]; decide)]; rw [if_pos hp]
  have hpos := R.pos
  refine ⟨fun W => by rw [hp]; kernel_rfl, fun _ _ => by kernel_rfl, ?_⟩
  cases ht : tailB n l
  · refine .inl fun w ha => ?_
    rw [e]
    unfold tailN
    rw [if_neg (by rw [ht]; decide)]
    by_cases h9 : n.pos < 9
    · rw [if_pos h9]
      by_cases h8 : n.pos = 8
      · rcases (Bool.eq_false_or_eq_true n.tx).symm with htx | htx
        · rw [if_pos ⟨h8, htx⟩]
          exact implTailHeard n p l w a0 h0 ha (hE.below (ha.mono (Nat.le_refl _))) hl ht h8 htx hA R.flt.1 (fifo_32 R.fifo) (fifo_short R.fifo)
        · rw [if_neg (fun k => by rw [htx] at k; cases k.2), h8]
          exact implTailEight n p l w a0 h0 ha hl ht h8 htx
      · rw [if_neg (fun k => h8 k.1)]
        exact implTailOn n p l w a0 h0 ha hl ht ⟨hpos.1, by omega⟩
    · rw [if_neg h9]
      have h9' : n.pos = 9 := by omega
      rcases (Bool.eq_false_or_eq_true n.tx).symm with htx | htx
      · rw [if_neg (by rw [htx]; decide)]
        exact implTailLast n p l w a0 h0 ha hl ht h9' htx
      · rw [if_pos htx]
        exact implTailSent n p l w a0 h0 ha hl ht h9' htx hA R.box
  · exact .inr ⟨by rw [e]; unfold tailN; rw [if_pos ht], fun w ha => implTailBreak n p l w hl ht⟩

theorem stepsTo (n : Nd) (p : NdP) (l : Int) (a0 : World) (h0 : NdM n p a0) (hok : nodeB n = true) (hl : l = 0 ∨ l = 1) (hE : ErrHeld a0) (hA : NdA n p) : ∃ f, StepsTo n p l a0 f := by
  have hp := (nodeB_parts hok).1
  rcases (show n.ph = 0 ∨ n.ph = 1 ∨ n.ph = 2 ∨ n.ph = 3 ∨ n.ph = 4 ∨ n.ph = 5 ∨ n.ph = 6 ∨ n.ph = 7 by omega) with h | h | h | h | h | h | h | h
  · exact ⟨_, steps0 n p l a0 h0 hok hl h⟩
  · exact ⟨_, steps1 n p l a0 h0 hok hl hE h⟩
  · exact ⟨_, steps2 n p l a0 h0 hok hl hE hA h⟩
  · exact ⟨_, steps3 n p l a0 h0 hok hl h⟩
  · exact ⟨_, steps4 n p l a0 h0 hok hl h⟩
  · exact ⟨_, steps5 n p l a0 h0 hok hl h⟩
  · exact ⟨_, steps6 n p l a0 h0 hok hl h⟩
  · exact ⟨_, steps7 n p l a0 h0 hok hl h⟩
end Go.Proofs.YtngcekegngmedaaGreatDoor

/- A region that draws its order, one operation after another: each operation is told as it is written (out of the list of operations: out of the array it stays unread, and all that follows grows slow). -/

set_option linter.unusedVariables false
set_option linter.unusedSimpArgs false
set_option maxRecDepth 20000
namespace Go.Proofs.YtngcekegngmedaaGreatDoor
open Go.RowKit
section
variable {P : Program} {md : Region.Mode} {ops : Array Oper} {Q : Exit → Act → World → Prop} {S : World → Prop} {fuel : Nat} {listed : Array Bool} {a : Act} {w : World} {oi : Oper}
theorem op_at {i : Nat} (hi : ops.toList[i]? = some oi) : ops[i]? = some oi := by rw [← Array.getElem?_toList]; exact hi
theorem h_take (i d : Nat) (v : Value) (hi : ops.toList[i]? = some oi) (hd : oi.dst = some d) (hs : Region.noSelect ops = true) (hf : Region.free md ops listed i = true) (hr : (Region.ready md ops listed).contains i = true)
    (hQ : ∀ c a w, Q (.panic c) (a.put (some d) v) w → Q (.panic c) a w) (hw : Region.wanted oi (yielded ops a.tmps) = true) (hx : ∀ u, S u → (execOp a.eval oi).run P u = .ok (.value v) u) (hS : S w)
    (h : wpAnyH P md ops Q S fuel (listed.setIfInBounds i true) (a.put (some d) v) w) : wpAnyH P md ops Q S (fuel + 1) listed a w :=
  wpAnyH_take (op_at hi) hs hf hr (by rw [hd]; exact hQ) (.inl ⟨hw, hx⟩) hS (by rw [hd]; exact h)
theorem h_call (i d : Nat) (f : FuncId) (args : Array Value) (hi : ops.toList[i]? = some oi) (hd : oi.dst = some d) (hr : Region.ready md ops listed = [i]) (hw : Region.wanted oi (yielded ops a.tmps) = true) (hx : (execOp a.eval oi).run P w = .ok (.enter f args) w)
    (h : Calls P f args w fun e w' => ∃ v, e = .returned v ∧ S w' ∧ wpAnyH P md ops Q S fuel (listed.setIfInBounds i true) (a.put (some d) v) w') : wpAnyH P md ops Q S (fuel + 1) listed a w :=
  held_call i f args (op_at hi) hr hw hx (by rw [hd]; exact h)
theorem h_new (i d : Nat) (v : Value) (w2 : World) (hi : ops.toList[i]? = some oi) (hd : oi.dst = some d) (hr : Region.ready md ops listed = [i]) (hw : Region.wanted oi (yielded ops a.tmps) = true) (hx : (execOp a.eval oi).run P w = .ok (.value v) w2)
    (k : S w2 ∧ wpAnyH P md ops Q S fuel (listed.setIfInBounds i true) (a.put (some d) v) w2) : wpAnyH P md ops Q S (fuel + 1) listed a w := by
  refine held_op i (op_at hi) hr hw ?_
  unfold Oper.wp
  rw [hx]
  rw [← hd] at k
  exact k
theorem h_value (i d : Nat) (v : Value) (hi : ops.toList[i]? = some oi) (hd : oi.dst = some d) (hr : Region.ready md ops listed = [i]) (hw : Region.wanted oi (yielded ops a.tmps) = true) (hx : (execOp a.eval oi).run P w = .ok (.value v) w) (hS : S w)
    (k : wpAnyH P md ops Q S fuel (listed.setIfInBounds i true) (a.put (some d) v) w) : wpAnyH P md ops Q S (fuel + 1) listed a w := h_new i d v w hi hd hr hw hx ⟨hS, k⟩
theorem h_store (i : Nat) (w2 : World) (hi : ops.toList[i]? = some oi) (hd : oi.dst = none) (hr : Region.ready md ops listed = [i]) (hw : Region.wanted oi (yielded ops a.tmps) = true) (hx : (execOp a.eval oi).run P w = .ok .skip w2)
    (k : S w2 ∧ wpAnyH P md ops Q S fuel (listed.setIfInBounds i true) a w2) : wpAnyH P md ops Q S (fuel + 1) listed a w := by
  refine held_op i (op_at hi) hr hw ?_
  unfold Oper.wp
  rw [hx]
  show S w2 ∧ wpAnyH P md ops Q S fuel (listed.setIfInBounds i true) (a.put oi.dst undef) w2
  rw [hd]
  exact k
end
end Go.Proofs.YtngcekegngmedaaGreatDoor

/- The model's copy of a node. -/

set_option linter.unusedVariables false
set_option linter.unusedSimpArgs false
set_option maxRecDepth 20000
namespace Go.Proofs.YtngcekegngmedaaGreatDoor
open Go.RowKit

theorem OwnI.keptHi {B G : Nat} {D : List Int} {v : Value} {w w' : World} (h : OwnI B D v w) (k : w.grownBy w' (some G)) (hu : ∀ q, v.ownBlock = some q → q < G) : OwnI B D v w' := by
  refine h.kept k ?_
  cases e : v.ownBlock with
  | none => exact .inl rfl
  | some q => exact .inr fun h2 => by cases h2; have := hu _ e; omega
theorem OwnF.keptHi {B G : Nat} {M : List (Frm × Value)} {v : Value} {w w' : World} (h : OwnF B M v w) (k : w.grownBy w' (some G)) (hu : Under G M v) : OwnF B M v w' := by
  refine h.kept k ?_ fun m hm => ?_
  · cases e : v.ownBlock with
    | none => exact .inl rfl
    | some q => exact .inr fun h2 => by cases h2; have := hu.1 _ e; omega
  · cases e : m.2.ownBlock with
    | none => exact .inl rfl
    | some q => exact .inr fun h2 => by cases h2; have := hu.2 m hm _ e; omega
theorem bare_of {B n c : Nat} {M : List (Int × Int)} {a : Option Addr} {w : World} (h : OwnP B M (.slice a n c) w) : a = none → c = 0 := by
  intro e
  rcases h.2 with ⟨k, _⟩ | ⟨g, cap, cur, k, _⟩
  · cases k; rfl
  · subst e; cases k
theorem OwnP.up {B lo : Nat} {M : List (Int × Int)} {v : Value} {w u : World} (h : OwnP B M v w) (k : Up lo w u) (hB : lo ≤ B) : OwnP B M v u := by
  rcases h.2 with e | ⟨g, cap, cur, e, hb, hg, r⟩
  · exact ⟨h.1, .inl e⟩
  · exact ⟨h.1, .inr ⟨g, cap, cur, e, hb, (k.block g (by omega) (Array.getElem?_eq_some_iff.1 hg).1).trans hg, r⟩⟩

set_option maxHeartbeats 16000000 in
/-- spec.l11Copy. -/
theorem specCopy (n : Nd) (p : NdP) (w : World) (hm : NdM n p w) (hal : p.al = none → p.cl = 0) (hD : n.fr.D.length ≤ 1000) (hB : n.box.length ≤ 1000) (hB8 : ∀ j, j < n.box.length → (nthF n.box j).D.length ≤ 1000) (hF : n.fifo.length ≤ 1000) (hF8 : ∀ j, j < n.fifo.length → (nthF n.fifo j).D.length ≤ 1000) (hL : n.flt.length ≤ 1000) :
    Calls Tryz.prog 83 #[ndV n p] w fun e w' => ∃ p' : NdP, e = .returned (ndV n p') ∧ ((∀ u, Up w.heap.size w' u → NdM n p' u) ∧ (p'.al = none → p'.cl = 0)) ∧ Below w.heap.size w w' := by
  have X := N2.made2 (ndC n p) w
  go_enter Tryz.func83, Tryz.ntmps83
  go_upto_region 1 with fail
  generalize World.alloc _ _ = W at X ⊢
  generalize w.heap.size + 1 = gr at X ⊢
  generalize w.heap.size = g at X ⊢
  have c4 : W.cell? ⟨g, 4, none⟩ = some (.int .i64 n.fr.id) := X.cell 4
  have c5 : W.cell? ⟨g, 5, none⟩ = some (.bool n.fr.rm) := X.cell 5
  have c6 : W.cell? ⟨g, 6, none⟩ = some (.int .i64 n.fr.ln) := X.cell 6
  have c7 : W.cell? ⟨g, 7, none⟩ = some (.slice p.ad n.fr.D.length p.cd) := X.cell 7
  have l1 := X.lt
  have z1 := X.bel.size
  go_wp2_with fail
  refine (copyFr n.fr.id n.fr.rm n.fr.ln p.ad n.fr.D p.cd _ (hm.below X.bel).nums hD).mono ?_
  rintro e w2 ⟨ad, cd, rfl, OD, gg⟩
  have b := below_new gg
  replace X := X.below b
  clear b gg c4 c5 c6 c7
  have c4 : w2.cell? ⟨g, 4, none⟩ = some (.int .i64 n.fr.id) := X.cell 4
  have c5 : w2.cell? ⟨g, 5, none⟩ = some (.bool n.fr.rm) := X.cell 5
  have c6 : w2.cell? ⟨g, 6, none⟩ = some (.int .i64 n.fr.ln) := X.cell 6
  have c7 : w2.cell? ⟨g, 7, none⟩ = some (.slice p.ad n.fr.D.length p.cd) := X.cell 7
  have f4 := X.free 4
  have f5 := X.free 5
  have f6 := X.free 6
  have f7 := X.free 7
  go_upto_region 2 with fail
  clear c4 c5 c6 c7 f4 f5 f6 f7
  replace OD := OD.kept2 (grown_at_cell _ g 4 (.int .i64 n.fr.id)) l1.1
  replace OD := OD.kept2 (grown_at_cell _ g 5 (.bool n.fr.rm)) l1.1
  replace OD := OD.kept2 (grown_at_cell _ g 6 (.int .i64 n.fr.ln)) l1.1
  replace OD := OD.kept2 (grown_at_cell _ g 7 (.slice ad n.fr.D.length cd)) l1.1
  replace X : N2 g gr (ndC (n) { p with ad := ad, cd := cd }) w _ := ((((X.set 4 (.int .i64 n.fr.id)).set 5 (.bool n.fr.rm)).set 6 (.int .i64 n.fr.ln)).set 7 (.slice ad n.fr.D.length cd))
  generalize World.setCell _ _ _ = W3 at X OD ⊢
  have c15 : W3.cell? ⟨g, 15, none⟩ = some (.slice p.ab n.box.length p.cb) := X.cell 15
  have l3 := X.lt
  have z3 := X.bel.size
  go_wp2_with fail
  refine (copyAll p.ab n.box p.cb _ (hm.below X.bel).box hB hB8).mono ?_
  rintro e w4 ⟨MB, gb, cb, rfl, hMB, OB, b⟩
  replace X := X.below b
  replace OD := OD.below' b
  clear b c15
  have c15 : w4.cell? ⟨g, 15, none⟩ = some (.slice p.ab n.box.length p.cb) := X.cell 15
  have f15 := X.free 15
  go_upto_region 3 with fail
  clear c15 f15
  replace OD := OD.kept2 (grown_at_cell _ g 15 (.slice (some ⟨gb, 0, none⟩) n.box.length cb)) l1.1
  replace OB := OB.kept2 (grown_at_cell _ g 15 (.slice (some ⟨gb, 0, none⟩) n.box.length cb)) l3.1
  replace X : N2 g gr (ndC (n) { p with ad := ad, cd := cd, ab := some ⟨gb, 0, none⟩, cb := cb }) w _ := (X.set 15 (.slice (some ⟨gb, 0, none⟩) n.box.length cb))
  generalize World.setCell _ _ _ = W5 at X OD OB ⊢
  have c16 : W5.cell? ⟨g, 16, none⟩ = some (.slice p.af n.fifo.length p.cf) := X.cell 16
  have l5 := X.lt
  have z5 := X.bel.size
  go_wp2_with fail
  refine (copyAll p.af n.fifo p.cf _ (hm.below X.bel).fifo hF hF8).mono ?_
  rintro e w6 ⟨MF, gf, cf, rfl, hMF, OF, b⟩
  replace X := X.below b
  replace OD := OD.below' b
  replace OB := OB.below b
  clear b c16
  have c16 : w6.cell? ⟨g, 16, none⟩ = some (.slice p.af n.fifo.length p.cf) := X.cell 16
  have f16 := X.free 16
  go_upto_region 4 with fail
  clear c16 f16
  replace OD := OD.kept2 (grown_at_cell _ g 16 (.slice (some ⟨gf, 0, none⟩) n.fifo.length cf)) l1.1
  replace OB := OB.kept2 (grown_at_cell _ g 16 (.slice (some ⟨gf, 0, none⟩) n.fifo.length cf)) l3.1
  replace OF := OF.kept2 (grown_at_cell _ g 16 (.slice (some ⟨gf, 0, none⟩) n.fifo.length cf)) l5.1
  replace X : N2 g gr (ndC (n) { p with ad := ad, cd := cd, ab := some ⟨gb, 0, none⟩, cb := cb, af := some ⟨gf, 0, none⟩, cf := cf }) w _ := (X.set 16 (.slice (some ⟨gf, 0, none⟩) n.fifo.length cf))
  generalize World.setCell _ _ _ = W7 at X OD OB OF ⊢
  have l7 := X.lt
  have z7 := X.bel.size
  have uD := fun q hq => (OD.1.lt q hq).2
  have uB := OB.under
  have uF := OF.under
  have HG := heap_alloc_new W7 (.cells #[] 175)
  have bb := below_more (Below.refl W7.heap.size W7) (.cells #[] 175)
  have hG8 : W7.heap.size < (W7.alloc (.cells #[] 175)).heap.size := by simp
  replace X := X.below bb
  replace OD := OD.below' bb
  replace OB := OB.below bb
  replace OF := OF.below bb
  clear bb
  have HFl := (hm.below X.bel).flt
  have c17 : (W7.alloc (.cells #[] 175)).cell? ⟨g, 17, none⟩ = some (.slice p.al n.flt.length p.cl) := X.cell 17
  go_wp2_with (at_builtin; skip; refine wpList_newP _ _ (by rfl) (by rfl) W7.heap.size (by rfl) p.al n.flt p.cl (by rfl) HG HFl hal (by omega) ?_)
  intro al cl w8 OL gk
  clear c17 HG HFl
  have hz7 : W7.heap.size < (W7.alloc (.cells #[] 175)).heap.size := hG8
  replace X : N2 g gr (ndC n ({ p with ad := ad, cd := cd, ab := some ⟨gb, 0, none⟩, cb := cb, af := some ⟨gf, 0, none⟩, cf := cf })) w w8 := ⟨(gk.block g X.lt.1 (fun e => by cases e; omega)).trans X.blk, (gk.block gr X.lt.2 (fun e => by cases e; omega)).trans X.res, X.bel.grown gk X.bel.size (fun q e => by cases e; omega), X.hg, X.hr, X.nr⟩
  replace OD := OD.keptHi gk uD
  replace OB := OB.keptHi gk uB
  replace OF := OF.keptHi gk uF
  clear gk hG8 hz7 uD uB uF
  generalize W7.heap.size = g7 at *
  have c17 : w8.cell? ⟨g, 17, none⟩ = some (.slice p.al n.flt.length p.cl) := X.cell 17
  have f17 := X.free 17
  go_upto_region 5 with fail
  clear c17 f17
  replace OD := OD.kept2 (grown_at_cell _ g 17 (.slice al n.flt.length cl)) l1.1
  replace OB := OB.kept2 (grown_at_cell _ g 17 (.slice al n.flt.length cl)) l3.1
  replace OF := OF.kept2 (grown_at_cell _ g 17 (.slice al n.flt.length cl)) l5.1
  replace OL := OL.kept2 (grown_at_cell _ g 17 (.slice al n.flt.length cl)) l7.1
  replace X : N2 g gr (ndC (n) ⟨ad, cd, some ⟨gb, 0, none⟩, cb, some ⟨gf, 0, none⟩, cf, al, cl⟩) w _ := (X.set 17 (.slice al n.flt.length cl))
  generalize World.setCell _ _ _ = W9 at X OD OB OF OL ⊢
  obtain ⟨Z1, Z2, Z3⟩ := X.fin (ndC n (⟨ad, cd, some ⟨gb, 0, none⟩, cb, some ⟨gf, 0, none⟩, cf, al, cl⟩))
  replace OD := OD.kept2 Z2 l1.2
  replace OB := OB.kept2 Z2 l3.2
  replace OF := OF.kept2 Z2 l5.2
  replace OL := OL.kept2 Z2 l7.2
  clear Z2
  go_wp2_with (first | (refine Nx.take ⟨X.blk, X.bel⟩ rfl rfl rfl ?_) | (refine wpList_put X.res rfl rfl rfl rfl rfl ?_))
  refine bodyPost_ret (v := ndV n (⟨ad, cd, some ⟨gb, 0, none⟩, cb, some ⟨gf, 0, none⟩, cf, al, cl⟩)) ?_ rfl ⟨⟨ad, cd, some ⟨gb, 0, none⟩, cb, some ⟨gf, 0, none⟩, cf, al, cl⟩, rfl, ⟨fun u ku => ⟨(OD.up ku z1).nums2, (OB.up ku z3).frsOf hMB (by omega), (OF.up ku z5).frsOf hMF (by omega), ((OL.up ku z7).flsAt (by omega)).2, hm.size⟩, bare_of OL⟩, Z3⟩
  exact results_one Tryz.results83 _ _ gr _ rfl Z1 rfl
end Go.Proofs.YtngcekegngmedaaGreatDoor
