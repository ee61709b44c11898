/- The model's steps of a node: breaking off, the pauses, being off. -/
import Derived.Test.YtpenjbpcebfecaaGreatDoorM27
import Derived.Test.YtpenjbpcebfecaaGreatDoorM19
import Derived.Recover
import Derived.Test.YtpenjbpcebfecaaGreatDoorM24
import Derived.Test.YtpenjbpcebfecaaGreatDoorM9
import Derived.Test.YtpenjbpcebfecaaGreatDoorM21

set_option linter.unusedVariables false
set_option linter.unusedSimpArgs false
set_option maxRecDepth 20000
namespace Go.Proofs.YtpenjbpcebfecaaGreatDoor
open Go.RowKit


set_option maxHeartbeats 16000000 in
/-- spec.l12Break. -/
theorem specBreak (n : Nd) (p : NdP) (w : World) :
    Calls Tryz.prog 169 #[ndV n p] w (Told (brkN n).1 (brkN n).2.1 p w) := by
  rcases Bool.eq_false_or_eq_true n.tx with ht | ht
  · have h1 : badA n = sbA n.cs n.cg := by unfold badA; rw [ht]; first | exact if_pos rfl | exact if_neg (by decide)
    have h2 : badB n = swB n.cs n.cg := by unfold badB; rw [ht]; first | exact if_pos rfl | exact if_neg (by decide)
    unfold brkN
    rw [h1, h2]
    clear h1 h2
    generalize ha : sbA n.cs n.cg = ca at *
    generalize hb : swB n.cs n.cg = cb at *
    replace ha := Lib.hid ha
    replace hb := Lib.hid hb
    replace ht := Lib.hid ht
    by_cases hs2 : stV ca cb = 2
    · rw [if_pos hs2]
      generalize hst : stV ca cb = st at *
      replace hst := Lib.hid hst
      have e2 : (st == 2) = true := beq_iff_eq.2 hs2
      clear hs2
      have X := N3.made (ndC n p) w
      go_enter Tryz.func169, Tryz.ntmps169
      go_upto_region 1 with fail
      generalize World.alloc _ _ = W at X ⊢
      generalize w.heap.size + 1 + 1 = gh at X ⊢
      generalize w.heap.size + 1 = gr at X ⊢
      generalize w.heap.size = g at X ⊢
      have c1 : W.cell? ⟨g, 1, none⟩ = some (.bool n.tx) := X.cell 1
      have c13 : W.cell? ⟨g, 13, none⟩ = some (.int .i64 n.cs) := X.cell 13
      have c14 : W.cell? ⟨g, 14, none⟩ = some (.int .i64 n.cg) := X.cell 14
      rw [ht.out] at c1
      go_wp2_with fail
      refine (specSentBad _ _ _).mono ?_
      rintro e w2 ⟨rfl, b⟩
      rw [ha.out, hb.out]
      replace X := X.below b
      clear b c1 c13 c14
      have c3 : w2.cell? ⟨g, 3, none⟩ = some (.bool n.bad) := X.cell 3
      have c8 : w2.cell? ⟨g, 8, none⟩ = some (.string n.got) := X.cell 8
      have c9 : w2.cell? ⟨g, 9, none⟩ = some (.int .i64 n.run) := X.cell 9
      have c10 : w2.cell? ⟨g, 10, none⟩ = some (.int .i64 n.last) := X.cell 10
      have c11 : w2.cell? ⟨g, 11, none⟩ = some (.int .i64 n.pos) := X.cell 11
      have c13 : w2.cell? ⟨g, 13, none⟩ = some (.int .i64 n.cs) := X.cell 13
      have c14 : w2.cell? ⟨g, 14, none⟩ = some (.int .i64 n.cg) := X.cell 14
      have f3 := X.free 3
      have f8 := X.free 8
      have f9 := X.free 9
      have f10 := X.free 10
      have f11 := X.free 11
      have f13 := X.free 13
      have f14 := X.free 14
      go_upto_region 9 with fail
      clear c3 c8 c9 c10 c11 c13 c14 f3 f8 f9 f10 f11 f13 f14
      replace X : N3 g gr gh (ndC ({ n with cs := ca, cg := cb, got := ⟨#[]⟩, run := 0 }) p) w _ := ((((X.set 13 (.int .i64 ca)).set 14 (.int .i64 cb)).set 8 (.string ⟨#[]⟩)).set 9 (.int .i64 0))
      replace X : N3 g gr gh (ndC ({ n with cs := ca, cg := cb, got := ⟨#[]⟩, run := 0, last := 0, pos := 0, bad := false }) p) w _ := (((X.set 10 (.int .i64 0)).set 11 (.int .i64 0)).set 3 (.bool false))
      generalize World.setCell _ _ _ = W6 at X ⊢
      have c13 : W6.cell? ⟨g, 13, none⟩ = some (.int .i64 ca) := X.cell 13
      have c14 : W6.cell? ⟨g, 14, none⟩ = some (.int .i64 cb) := X.cell 14
      go_wp2_with fail
      refine (specStateOf _ _ _).mono ?_
      rintro e w7 ⟨rfl, b⟩
      rw [hst.out]
      replace X := X.below b
      clear b c13 c14
      have c0 : w7.cell? ⟨g, 0, none⟩ = some (.int .i64 n.ph) := X.cell 0
      have c12 : w7.cell? ⟨g, 12, none⟩ = some (.int .i64 n.left) := X.cell 12
      have f0 := X.free 0
      have f12 := X.free 12
      go_upto_region 12 with fail
      clear c0 c12 f0 f12
      replace X : N3 g gr gh (ndC ({ n with cs := ca, cg := cb, got := ⟨#[]⟩, run := 0, last := 0, pos := 0, bad := false, ph := 7, left := 128 }) p) w _ := ((X.set 0 (.int .i64 7)).set 12 (.int .i64 128))
      generalize World.setCell _ _ _ = W8 at X ⊢
      refine wp_region_held (S := fun u => Nx g ({ n with cs := ca, cg := cb, got := ⟨#[]⟩, run := 0, last := 0, pos := 0, bad := false, ph := 7, left := 128 }) (p) w u) (by kernel_rfl) ?_
      replace X := X.drew'
      generalize ({ W8 with drawn := W8.drawn + 1 } : World) = V at X ⊢
      refine take_at 0 _ (ndV ({ n with cs := ca, cg := cb, got := ⟨#[]⟩, run := 0, last := 0, pos := 0, bad := false, ph := 7, left := 128 }) (p)) rfl rfl (by kernel_rfl) (by kernel_rfl) (by kernel_rfl) (fun _ _ _ h => h) (.inl ⟨rfl, fun u hu => hu.took rfl rfl⟩) X.nx ?_
      simp only [Act.put, List.setIfInBounds_toArray, List.set_cons_zero, List.set_cons_succ]
      refine call_at 1 _ 113 #[.int .i64 5] rfl rfl (by kernel_rfl) rfl (by go_simp) ?_
      refine (specHappen 5 _).mono ?_
      rintro e wh ⟨rfl, b⟩
      replace X := X.below b
      clear b
      refine ⟨_, rfl, X.nx, ?_⟩
      simp only [Act.put, List.setIfInBounds_toArray, List.set_cons_zero, List.set_cons_succ]
      refine held_row 2 gr (ndC ({ n with cs := ca, cg := cb, got := ⟨#[]⟩, run := 0, last := 0, pos := 0, bad := false, ph := 7, left := 128 }) (p)) rfl (by kernel_rfl) rfl rfl rfl rfl rfl X.res (by kernel_rfl) rfl (ndC_one _ _) (X.nxR _) ?_
      refine held_row 3 gh (hpC 5 zF none 0) rfl (by kernel_rfl) rfl rfl rfl rfl rfl (X.fin _ #[]).1 (by kernel_rfl) rfl (hpC_one _ _ _ _) (X.nxH _ _) ?_
      refine wpAnyH_done (by kernel_rfl) ?_ _
      obtain ⟨-, Z1, Z2, Z3⟩ := X.fin (ndC ({ n with cs := ca, cg := cb, got := ⟨#[]⟩, run := 0, last := 0, pos := 0, bad := false, ph := 7, left := 128 }) (p)) (hpC 5 zF none 0)
      go_wp2_with fail
      refine bodyPost_ret (v := .tuple #[ndV ({ n with cs := ca, cg := cb, got := ⟨#[]⟩, run := 0, last := 0, pos := 0, bad := false, ph := 7, left := 128 }) (p), hpV 5 zF none 0]) ?_ rfl ⟨rfl, Z3⟩
      exact results_both Tryz.results169 _ _ gr gh _ _ rfl rfl Z1 Z2 rfl rfl
    · rw [if_neg hs2]
      by_cases hs1 : stV ca cb = 1
      · rw [decide_eq_true hs1]
        generalize hst : stV ca cb = st at *
        replace hst := Lib.hid hst
        have e2 : (st == 2) = false := beq_eq_false_iff_ne.2 hs2
        have e1 : (st == 1) = true := beq_iff_eq.2 hs1
        clear hs1 hs2
        have X := N3.made (ndC n p) w
        go_enter Tryz.func169, Tryz.ntmps169
        go_upto_region 1 with fail
        generalize World.alloc _ _ = W at X ⊢
        generalize w.heap.size + 1 + 1 = gh at X ⊢
        generalize w.heap.size + 1 = gr at X ⊢
        generalize w.heap.size = g at X ⊢
        have c1 : W.cell? ⟨g, 1, none⟩ = some (.bool n.tx) := X.cell 1
        have c13 : W.cell? ⟨g, 13, none⟩ = some (.int .i64 n.cs) := X.cell 13
        have c14 : W.cell? ⟨g, 14, none⟩ = some (.int .i64 n.cg) := X.cell 14
        rw [ht.out] at c1
        go_wp2_with fail
        refine (specSentBad _ _ _).mono ?_
        rintro e w2 ⟨rfl, b⟩
        rw [ha.out, hb.out]
        replace X := X.below b
        clear b c1 c13 c14
        have c3 : w2.cell? ⟨g, 3, none⟩ = some (.bool n.bad) := X.cell 3
        have c8 : w2.cell? ⟨g, 8, none⟩ = some (.string n.got) := X.cell 8
        have c9 : w2.cell? ⟨g, 9, none⟩ = some (.int .i64 n.run) := X.cell 9
        have c10 : w2.cell? ⟨g, 10, none⟩ = some (.int .i64 n.last) := X.cell 10
        have c11 : w2.cell? ⟨g, 11, none⟩ = some (.int .i64 n.pos) := X.cell 11
        have c13 : w2.cell? ⟨g, 13, none⟩ = some (.int .i64 n.cs) := X.cell 13
        have c14 : w2.cell? ⟨g, 14, none⟩ = some (.int .i64 n.cg) := X.cell 14
        have f3 := X.free 3
        have f8 := X.free 8
        have f9 := X.free 9
        have f10 := X.free 10
        have f11 := X.free 11
        have f13 := X.free 13
        have f14 := X.free 14
        go_upto_region 9 with fail
        clear c3 c8 c9 c10 c11 c13 c14 f3 f8 f9 f10 f11 f13 f14
        replace X : N3 g gr gh (ndC ({ n with cs := ca, cg := cb, got := ⟨#[]⟩, run := 0 }) p) w _ := ((((X.set 13 (.int .i64 ca)).set 14 (.int .i64 cb)).set 8 (.string ⟨#[]⟩)).set 9 (.int .i64 0))
        replace X : N3 g gr gh (ndC ({ n with cs := ca, cg := cb, got := ⟨#[]⟩, run := 0, last := 0, pos := 0, bad := false }) p) w _ := (((X.set 10 (.int .i64 0)).set 11 (.int .i64 0)).set 3 (.bool false))
        generalize World.setCell _ _ _ = W6 at X ⊢
        have c13 : W6.cell? ⟨g, 13, none⟩ = some (.int .i64 ca) := X.cell 13
        have c14 : W6.cell? ⟨g, 14, none⟩ = some (.int .i64 cb) := X.cell 14
        go_wp2_with fail
        refine (specStateOf _ _ _).mono ?_
        rintro e w7 ⟨rfl, b⟩
        rw [hst.out]
        replace X := X.below b
        clear b c13 c14
        have c0 : w7.cell? ⟨g, 0, none⟩ = some (.int .i64 n.ph) := X.cell 0
        have f0 := X.free 0
        go_upto_region 14 with fail
        clear c0 f0
        replace X : N3 g gr gh (ndC ({ n with cs := ca, cg := cb, got := ⟨#[]⟩, run := 0, last := 0, pos := 0, bad := false, ph := 3 }) p) w _ := (X.set 0 (.int .i64 3))
        generalize World.setCell _ _ _ = W8 at X ⊢
        have c13 : W8.cell? ⟨g, 13, none⟩ = some (.int .i64 ca) := X.cell 13
        have c14 : W8.cell? ⟨g, 14, none⟩ = some (.int .i64 cb) := X.cell 14
        go_wp2_with fail
        refine (specStateOf _ _ _).mono ?_
        rintro e w9 ⟨rfl, b⟩
        rw [hst.out]
        replace X := X.below b
        clear b c13 c14
        have c2 : w9.cell? ⟨g, 2, none⟩ = some (.bool n.mild) := X.cell 2
        have c12 : w9.cell? ⟨g, 12, none⟩ = some (.int .i64 n.left) := X.cell 12
        have f2 := X.free 2
        have f12 := X.free 12
        go_upto_region 16 with fail
        clear c2 c12 f2 f12
        replace X : N3 g gr gh (ndC ({ n with cs := ca, cg := cb, got := ⟨#[]⟩, run := 0, last := 0, pos := 0, bad := false, ph := 3, mild := true, left := 6 }) p) w _ := ((X.set 2 (.bool true)).set 12 (.int .i64 6))
        generalize World.setCell _ _ _ = W10 at X ⊢
        refine wp_region_held (S := fun u => Nx g ({ n with cs := ca, cg := cb, got := ⟨#[]⟩, run := 0, last := 0, pos := 0, bad := false, ph := 3, mild := true, left := 6 }) (p) w u) (by kernel_rfl) ?_
        replace X := X.drew'
        generalize ({ W10 with drawn := W10.drawn + 1 } : World) = V at X ⊢
        refine take_at 0 _ (ndV ({ n with cs := ca, cg := cb, got := ⟨#[]⟩, run := 0, last := 0, pos := 0, bad := false, ph := 3, mild := true, left := 6 }) (p)) rfl rfl (by kernel_rfl) (by kernel_rfl) (by kernel_rfl) (fun _ _ _ h => h) (.inl ⟨rfl, fun u hu => hu.took rfl rfl⟩) X.nx ?_
        simp only [Act.put, List.setIfInBounds_toArray, List.set_cons_zero, List.set_cons_succ]
        refine call_at 1 _ 113 #[.int .i64 4] rfl rfl (by kernel_rfl) rfl (by go_simp) ?_
        refine (specHappen 4 _).mono ?_
        rintro e wh ⟨rfl, b⟩
        replace X := X.below b
        clear b
        refine ⟨_, rfl, X.nx, ?_⟩
        simp only [Act.put, List.setIfInBounds_toArray, List.set_cons_zero, List.set_cons_succ]
        refine held_row 2 gr (ndC ({ n with cs := ca, cg := cb, got := ⟨#[]⟩, run := 0, last := 0, pos := 0, bad := false, ph := 3, mild := true, left := 6 }) (p)) rfl (by kernel_rfl) rfl rfl rfl rfl rfl X.res (by kernel_rfl) rfl (ndC_one _ _) (X.nxR _) ?_
        refine held_row 3 gh (hpC 4 zF none 0) rfl (by kernel_rfl) rfl rfl rfl rfl rfl (X.fin _ #[]).1 (by kernel_rfl) rfl (hpC_one _ _ _ _) (X.nxH _ _) ?_
        refine wpAnyH_done (by kernel_rfl) ?_ _
        obtain ⟨-, Z1, Z2, Z3⟩ := X.fin (ndC ({ n with cs := ca, cg := cb, got := ⟨#[]⟩, run := 0, last := 0, pos := 0, bad := false, ph := 3, mild := true, left := 6 }) (p)) (hpC 4 zF none 0)
        go_wp2_with fail
        refine bodyPost_ret (v := .tuple #[ndV ({ n with cs := ca, cg := cb, got := ⟨#[]⟩, run := 0, last := 0, pos := 0, bad := false, ph := 3, mild := true, left := 6 }) (p), hpV 4 zF none 0]) ?_ rfl ⟨rfl, Z3⟩
        exact results_both Tryz.results169 _ _ gr gh _ _ rfl rfl Z1 Z2 rfl rfl
      · rw [decide_eq_false hs1]
        generalize hst : stV ca cb = st at *
        replace hst := Lib.hid hst
        have e2 : (st == 2) = false := beq_eq_false_iff_ne.2 hs2
        have e1 : (st == 1) = false := beq_eq_false_iff_ne.2 hs1
        clear hs1 hs2
        have X := N3.made (ndC n p) w
        go_enter Tryz.func169, Tryz.ntmps169
        go_upto_region 1 with fail
        generalize World.alloc _ _ = W at X ⊢
        generalize w.heap.size + 1 + 1 = gh at X ⊢
        generalize w.heap.size + 1 = gr at X ⊢
        generalize w.heap.size = g at X ⊢
        have c1 : W.cell? ⟨g, 1, none⟩ = some (.bool n.tx) := X.cell 1
        have c13 : W.cell? ⟨g, 13, none⟩ = some (.int .i64 n.cs) := X.cell 13
        have c14 : W.cell? ⟨g, 14, none⟩ = some (.int .i64 n.cg) := X.cell 14
        rw [ht.out] at c1
        go_wp2_with fail
        refine (specSentBad _ _ _).mono ?_
        rintro e w2 ⟨rfl, b⟩
        rw [ha.out, hb.out]
        replace X := X.below b
        clear b c1 c13 c14
        have c3 : w2.cell? ⟨g, 3, none⟩ = some (.bool n.bad) := X.cell 3
        have c8 : w2.cell? ⟨g, 8, none⟩ = some (.string n.got) := X.cell 8
        have c9 : w2.cell? ⟨g, 9, none⟩ = some (.int .i64 n.run) := X.cell 9
        have c10 : w2.cell? ⟨g, 10, none⟩ = some (.int .i64 n.last) := X.cell 10
        have c11 : w2.cell? ⟨g, 11, none⟩ = some (.int .i64 n.pos) := X.cell 11
        have c13 : w2.cell? ⟨g, 13, none⟩ = some (.int .i64 n.cs) := X.cell 13
        have c14 : w2.cell? ⟨g, 14, none⟩ = some (.int .i64 n.cg) := X.cell 14
        have f3 := X.free 3
        have f8 := X.free 8
        have f9 := X.free 9
        have f10 := X.free 10
        have f11 := X.free 11
        have f13 := X.free 13
        have f14 := X.free 14
        go_upto_region 9 with fail
        clear c3 c8 c9 c10 c11 c13 c14 f3 f8 f9 f10 f11 f13 f14
        replace X : N3 g gr gh (ndC ({ n with cs := ca, cg := cb, got := ⟨#[]⟩, run := 0 }) p) w _ := ((((X.set 13 (.int .i64 ca)).set 14 (.int .i64 cb)).set 8 (.string ⟨#[]⟩)).set 9 (.int .i64 0))
        replace X : N3 g gr gh (ndC ({ n with cs := ca, cg := cb, got := ⟨#[]⟩, run := 0, last := 0, pos := 0, bad := false }) p) w _ := (((X.set 10 (.int .i64 0)).set 11 (.int .i64 0)).set 3 (.bool false))
        generalize World.setCell _ _ _ = W6 at X ⊢
        have c13 : W6.cell? ⟨g, 13, none⟩ = some (.int .i64 ca) := X.cell 13
        have c14 : W6.cell? ⟨g, 14, none⟩ = some (.int .i64 cb) := X.cell 14
        go_wp2_with fail
        refine (specStateOf _ _ _).mono ?_
        rintro e w7 ⟨rfl, b⟩
        rw [hst.out]
        replace X := X.below b
        clear b c13 c14
        have c0 : w7.cell? ⟨g, 0, none⟩ = some (.int .i64 n.ph) := X.cell 0
        have f0 := X.free 0
        go_upto_region 14 with fail
        clear c0 f0
        replace X : N3 g gr gh (ndC ({ n with cs := ca, cg := cb, got := ⟨#[]⟩, run := 0, last := 0, pos := 0, bad := false, ph := 3 }) p) w _ := (X.set 0 (.int .i64 3))
        generalize World.setCell _ _ _ = W8 at X ⊢
        have c13 : W8.cell? ⟨g, 13, none⟩ = some (.int .i64 ca) := X.cell 13
        have c14 : W8.cell? ⟨g, 14, none⟩ = some (.int .i64 cb) := X.cell 14
        go_wp2_with fail
        refine (specStateOf _ _ _).mono ?_
        rintro e w9 ⟨rfl, b⟩
        rw [hst.out]
        replace X := X.below b
        clear b c13 c14
        have c2 : w9.cell? ⟨g, 2, none⟩ = some (.bool n.mild) := X.cell 2
        have c12 : w9.cell? ⟨g, 12, none⟩ = some (.int .i64 n.left) := X.cell 12
        have f2 := X.free 2
        have f12 := X.free 12
        go_upto_region 16 with fail
        clear c2 c12 f2 f12
        replace X : N3 g gr gh (ndC ({ n with cs := ca, cg := cb, got := ⟨#[]⟩, run := 0, last := 0, pos := 0, bad := false, ph := 3, mild := false, left := 6 }) p) w _ := ((X.set 2 (.bool false)).set 12 (.int .i64 6))
        generalize World.setCell _ _ _ = W10 at X ⊢
        refine wp_region_held (S := fun u => Nx g ({ n with cs := ca, cg := cb, got := ⟨#[]⟩, run := 0, last := 0, pos := 0, bad := false, ph := 3, mild := false, left := 6 }) (p) w u) (by kernel_rfl) ?_
        replace X := X.drew'
        generalize ({ W10 with drawn := W10.drawn + 1 } : World) = V at X ⊢
        refine take_at 0 _ (ndV ({ n with cs := ca, cg := cb, got := ⟨#[]⟩, run := 0, last := 0, pos := 0, bad := false, ph := 3, mild := false, left := 6 }) (p)) rfl rfl (by kernel_rfl) (by kernel_rfl) (by kernel_rfl) (fun _ _ _ h => h) (.inl ⟨rfl, fun u hu => hu.took rfl rfl⟩) X.nx ?_
        simp only [Act.put, List.setIfInBounds_toArray, List.set_cons_zero, List.set_cons_succ]
        refine call_at 1 _ 113 #[.int .i64 4] rfl rfl (by kernel_rfl) rfl (by go_simp) ?_
        refine (specHappen 4 _).mono ?_
        rintro e wh ⟨rfl, b⟩
        replace X := X.below b
        clear b
        refine ⟨_, rfl, X.nx, ?_⟩
        simp only [Act.put, List.setIfInBounds_toArray, List.set_cons_zero, List.set_cons_succ]
        refine held_row 2 gr (ndC ({ n with cs := ca, cg := cb, got := ⟨#[]⟩, run := 0, last := 0, pos := 0, bad := false, ph := 3, mild := false, left := 6 }) (p)) rfl (by kernel_rfl) rfl rfl rfl rfl rfl X.res (by kernel_rfl) rfl (ndC_one _ _) (X.nxR _) ?_
        refine held_row 3 gh (hpC 4 zF none 0) rfl (by kernel_rfl) rfl rfl rfl rfl rfl (X.fin _ #[]).1 (by kernel_rfl) rfl (hpC_one _ _ _ _) (X.nxH _ _) ?_
        refine wpAnyH_done (by kernel_rfl) ?_ _
        obtain ⟨-, Z1, Z2, Z3⟩ := X.fin (ndC ({ n with cs := ca, cg := cb, got := ⟨#[]⟩, run := 0, last := 0, pos := 0, bad := false, ph := 3, mild := false, left := 6 }) (p)) (hpC 4 zF none 0)
        go_wp2_with fail
        refine bodyPost_ret (v := .tuple #[ndV ({ n with cs := ca, cg := cb, got := ⟨#[]⟩, run := 0, last := 0, pos := 0, bad := false, ph := 3, mild := false, left := 6 }) (p), hpV 4 zF none 0]) ?_ rfl ⟨rfl, Z3⟩
        exact results_both Tryz.results169 _ _ gr gh _ _ rfl rfl Z1 Z2 rfl rfl
  · have h1 : badA n = gwA n.cs n.cg := by unfold badA; rw [ht]; first | exact if_pos rfl | exact if_neg (by decide)
    have h2 : badB n = gbB n.cs n.cg := by unfold badB; rw [ht]; first | exact if_pos rfl | exact if_neg (by decide)
    unfold brkN
    rw [h1, h2]
    clear h1 h2
    generalize ha : gwA n.cs n.cg = ca at *
    generalize hb : gbB n.cs n.cg = cb at *
    replace ha := Lib.hid ha
    replace hb := Lib.hid hb
    replace ht := Lib.hid ht
    by_cases hs2 : stV ca cb = 2
    · rw [if_pos hs2]
      generalize hst : stV ca cb = st at *
      replace hst := Lib.hid hst
      have e2 : (st == 2) = true := beq_iff_eq.2 hs2
      clear hs2
      have X := N3.made (ndC n p) w
      go_enter Tryz.func169, Tryz.ntmps169
      go_upto_region 1 with fail
      generalize World.alloc _ _ = W at X ⊢
      generalize w.heap.size + 1 + 1 = gh at X ⊢
      generalize w.heap.size + 1 = gr at X ⊢
      generalize w.heap.size = g at X ⊢
      have c1 : W.cell? ⟨g, 1, none⟩ = some (.bool n.tx) := X.cell 1
      have c13 : W.cell? ⟨g, 13, none⟩ = some (.int .i64 n.cs) := X.cell 13
      have c14 : W.cell? ⟨g, 14, none⟩ = some (.int .i64 n.cg) := X.cell 14
      rw [ht.out] at c1
      go_wp2_with fail
      refine (specGotBad _ _ _).mono ?_
      rintro e w2 ⟨rfl, b⟩
      rw [ha.out, hb.out]
      replace X := X.below b
      clear b c1 c13 c14
      have c3 : w2.cell? ⟨g, 3, none⟩ = some (.bool n.bad) := X.cell 3
      have c8 : w2.cell? ⟨g, 8, none⟩ = some (.string n.got) := X.cell 8
      have c9 : w2.cell? ⟨g, 9, none⟩ = some (.int .i64 n.run) := X.cell 9
      have c10 : w2.cell? ⟨g, 10, none⟩ = some (.int .i64 n.last) := X.cell 10
      have c11 : w2.cell? ⟨g, 11, none⟩ = some (.int .i64 n.pos) := X.cell 11
      have c13 : w2.cell? ⟨g, 13, none⟩ = some (.int .i64 n.cs) := X.cell 13
      have c14 : w2.cell? ⟨g, 14, none⟩ = some (.int .i64 n.cg) := X.cell 14
      have f3 := X.free 3
      have f8 := X.free 8
      have f9 := X.free 9
      have f10 := X.free 10
      have f11 := X.free 11
      have f13 := X.free 13
      have f14 := X.free 14
      go_upto_region 9 with fail
      clear c3 c8 c9 c10 c11 c13 c14 f3 f8 f9 f10 f11 f13 f14
      replace X : N3 g gr gh (ndC ({ n with cs := ca, cg := cb, got := ⟨#[]⟩, run := 0 }) p) w _ := ((((X.set 13 (.int .i64 ca)).set 14 (.int .i64 cb)).set 8 (.string ⟨#[]⟩)).set 9 (.int .i64 0))
      replace X : N3 g gr gh (ndC ({ n with cs := ca, cg := cb, got := ⟨#[]⟩, run := 0, last := 0, pos := 0, bad := false }) p) w _ := (((X.set 10 (.int .i64 0)).set 11 (.int .i64 0)).set 3 (.bool false))
      generalize World.setCell _ _ _ = W6 at X ⊢
      have c13 : W6.cell? ⟨g, 13, none⟩ = some (.int .i64 ca) := X.cell 13
      have c14 : W6.cell? ⟨g, 14, none⟩ = some (.int .i64 cb) := X.cell 14
      go_wp2_with fail
      refine (specStateOf _ _ _).mono ?_
      rintro e w7 ⟨rfl, b⟩
      rw [hst.out]
      replace X := X.below b
      clear b c13 c14
      have c0 : w7.cell? ⟨g, 0, none⟩ = some (.int .i64 n.ph) := X.cell 0
      have c12 : w7.cell? ⟨g, 12, none⟩ = some (.int .i64 n.left) := X.cell 12
      have f0 := X.free 0
      have f12 := X.free 12
      go_upto_region 12 with fail
      clear c0 c12 f0 f12
      replace X : N3 g gr gh (ndC ({ n with cs := ca, cg := cb, got := ⟨#[]⟩, run := 0, last := 0, pos := 0, bad := false, ph := 7, left := 128 }) p) w _ := ((X.set 0 (.int .i64 7)).set 12 (.int .i64 128))
      generalize World.setCell _ _ _ = W8 at X ⊢
      refine wp_region_held (S := fun u => Nx g ({ n with cs := ca, cg := cb, got := ⟨#[]⟩, run := 0, last := 0, pos := 0, bad := false, ph := 7, left := 128 }) (p) w u) (by kernel_rfl) ?_
      replace X := X.drew'
      generalize ({ W8 with drawn := W8.drawn + 1 } : World) = V at X ⊢
      refine take_at 0 _ (ndV ({ n with cs := ca, cg := cb, got := ⟨#[]⟩, run := 0, last := 0, pos := 0, bad := false, ph := 7, left := 128 }) (p)) rfl rfl (by kernel_rfl) (by kernel_rfl) (by kernel_rfl) (fun _ _ _ h => h) (.inl ⟨rfl, fun u hu => hu.took rfl rfl⟩) X.nx ?_
      simp only [Act.put, List.setIfInBounds_toArray, List.set_cons_zero, List.set_cons_succ]
      refine call_at 1 _ 113 #[.int .i64 5] rfl rfl (by kernel_rfl) rfl (by go_simp) ?_
      refine (specHappen 5 _).mono ?_
      rintro e wh ⟨rfl, b⟩
      replace X := X.below b
      clear b
      refine ⟨_, rfl, X.nx, ?_⟩
      simp only [Act.put, List.setIfInBounds_toArray, List.set_cons_zero, List.set_cons_succ]
      refine held_row 2 gr (ndC ({ n with cs := ca, cg := cb, got := ⟨#[]⟩, run := 0, last := 0, pos := 0, bad := false, ph := 7, left := 128 }) (p)) rfl (by kernel_rfl) rfl rfl rfl rfl rfl X.res (by kernel_rfl) rfl (ndC_one _ _) (X.nxR _) ?_
      refine held_row 3 gh (hpC 5 zF none 0) rfl (by kernel_rfl) rfl rfl rfl rfl rfl (X.fin _ #[]).1 (by kernel_rfl) rfl (hpC_one _ _ _ _) (X.nxH _ _) ?_
      refine wpAnyH_done (by kernel_rfl) ?_ _
      obtain ⟨-, Z1, Z2, Z3⟩ := X.fin (ndC ({ n with cs := ca, cg := cb, got := ⟨#[]⟩, run := 0, last := 0, pos := 0, bad := false, ph := 7, left := 128 }) (p)) (hpC 5 zF none 0)
      go_wp2_with fail
      refine bodyPost_ret (v := .tuple #[ndV ({ n with cs := ca, cg := cb, got := ⟨#[]⟩, run := 0, last := 0, pos := 0, bad := false, ph := 7, left := 128 }) (p), hpV 5 zF none 0]) ?_ rfl ⟨rfl, Z3⟩
      exact results_both Tryz.results169 _ _ gr gh _ _ rfl rfl Z1 Z2 rfl rfl
    · rw [if_neg hs2]
      by_cases hs1 : stV ca cb = 1
      · rw [decide_eq_true hs1]
        generalize hst : stV ca cb = st at *
        replace hst := Lib.hid hst
        have e2 : (st == 2) = false := beq_eq_false_iff_ne.2 hs2
        have e1 : (st == 1) = true := beq_iff_eq.2 hs1
        clear hs1 hs2
        have X := N3.made (ndC n p) w
        go_enter Tryz.func169, Tryz.ntmps169
        go_upto_region 1 with fail
        generalize World.alloc _ _ = W at X ⊢
        generalize w.heap.size + 1 + 1 = gh at X ⊢
        generalize w.heap.size + 1 = gr at X ⊢
        generalize w.heap.size = g at X ⊢
        have c1 : W.cell? ⟨g, 1, none⟩ = some (.bool n.tx) := X.cell 1
        have c13 : W.cell? ⟨g, 13, none⟩ = some (.int .i64 n.cs) := X.cell 13
        have c14 : W.cell? ⟨g, 14, none⟩ = some (.int .i64 n.cg) := X.cell 14
        rw [ht.out] at c1
        go_wp2_with fail
        refine (specGotBad _ _ _).mono ?_
        rintro e w2 ⟨rfl, b⟩
        rw [ha.out, hb.out]
        replace X := X.below b
        clear b c1 c13 c14
        have c3 : w2.cell? ⟨g, 3, none⟩ = some (.bool n.bad) := X.cell 3
        have c8 : w2.cell? ⟨g, 8, none⟩ = some (.string n.got) := X.cell 8
        have c9 : w2.cell? ⟨g, 9, none⟩ = some (.int .i64 n.run) := X.cell 9
        have c10 : w2.cell? ⟨g, 10, none⟩ = some (.int .i64 n.last) := X.cell 10
        have c11 : w2.cell? ⟨g, 11, none⟩ = some (.int .i64 n.pos) := X.cell 11
        have c13 : w2.cell? ⟨g, 13, none⟩ = some (.int .i64 n.cs) := X.cell 13
        have c14 : w2.cell? ⟨g, 14, none⟩ = some (.int .i64 n.cg) := X.cell 14
        have f3 := X.free 3
        have f8 := X.free 8
        have f9 := X.free 9
        have f10 := X.free 10
        have f11 := X.free 11
        have f13 := X.free 13
        have f14 := X.free 14
        go_upto_region 9 with fail
        clear c3 c8 c9 c10 c11 c13 c14 f3 f8 f9 f10 f11 f13 f14
        replace X : N3 g gr gh (ndC ({ n with cs := ca, cg := cb, got := ⟨#[]⟩, run := 0 }) p) w _ := ((((X.set 13 (.int .i64 ca)).set 14 (.int .i64 cb)).set 8 (.string ⟨#[]⟩)).set 9 (.int .i64 0))
        replace X : N3 g gr gh (ndC ({ n with cs := ca, cg := cb, got := ⟨#[]⟩, run := 0, last := 0, pos := 0, bad := false }) p) w _ := (((X.set 10 (.int .i64 0)).set 11 (.int .i64 0)).set 3 (.bool false))
        generalize World.setCell _ _ _ = W6 at X ⊢
        have c13 : W6.cell? ⟨g, 13, none⟩ = some (.int .i64 ca) := X.cell 13
        have c14 : W6.cell? ⟨g, 14, none⟩ = some (.int .i64 cb) := X.cell 14
        go_wp2_with fail
        refine (specStateOf _ _ _).mono ?_
        rintro e w7 ⟨rfl, b⟩
        rw [hst.out]
        replace X := X.below b
        clear b c13 c14
        have c0 : w7.cell? ⟨g, 0, none⟩ = some (.int .i64 n.ph) := X.cell 0
        have f0 := X.free 0
        go_upto_region 14 with fail
        clear c0 f0
        replace X : N3 g gr gh (ndC ({ n with cs := ca, cg := cb, got := ⟨#[]⟩, run := 0, last := 0, pos := 0, bad := false, ph := 3 }) p) w _ := (X.set 0 (.int .i64 3))
        generalize World.setCell _ _ _ = W8 at X ⊢
        have c13 : W8.cell? ⟨g, 13, none⟩ = some (.int .i64 ca) := X.cell 13
        have c14 : W8.cell? ⟨g, 14, none⟩ = some (.int .i64 cb) := X.cell 14
        go_wp2_with fail
        refine (specStateOf _ _ _).mono ?_
        rintro e w9 ⟨rfl, b⟩
        rw [hst.out]
        replace X := X.below b
        clear b c13 c14
        have c2 : w9.cell? ⟨g, 2, none⟩ = some (.bool n.mild) := X.cell 2
        have c12 : w9.cell? ⟨g, 12, none⟩ = some (.int .i64 n.left) := X.cell 12
        have f2 := X.free 2
        have f12 := X.free 12
        go_upto_region 16 with fail
        clear c2 c12 f2 f12
        replace X : N3 g gr gh (ndC ({ n with cs := ca, cg := cb, got := ⟨#[]⟩, run := 0, last := 0, pos := 0, bad := false, ph := 3, mild := true, left := 6 }) p) w _ := ((X.set 2 (.bool true)).set 12 (.int .i64 6))
        generalize World.setCell _ _ _ = W10 at X ⊢
        refine wp_region_held (S := fun u => Nx g ({ n with cs := ca, cg := cb, got := ⟨#[]⟩, run := 0, last := 0, pos := 0, bad := false, ph := 3, mild := true, left := 6 }) (p) w u) (by kernel_rfl) ?_
        replace X := X.drew'
        generalize ({ W10 with drawn := W10.drawn + 1 } : World) = V at X ⊢
        refine take_at 0 _ (ndV ({ n with cs := ca, cg := cb, got := ⟨#[]⟩, run := 0, last := 0, pos := 0, bad := false, ph := 3, mild := true, left := 6 }) (p)) rfl rfl (by kernel_rfl) (by kernel_rfl) (by kernel_rfl) (fun _ _ _ h => h) (.inl ⟨rfl, fun u hu => hu.took rfl rfl⟩) X.nx ?_
        simp only [Act.put, List.setIfInBounds_toArray, List.set_cons_zero, List.set_cons_succ]
        refine call_at 1 _ 113 #[.int .i64 4] rfl rfl (by kernel_rfl) rfl (by go_simp) ?_
        refine (specHappen 4 _).mono ?_
        rintro e wh ⟨rfl, b⟩
        replace X := X.below b
        clear b
        refine ⟨_, rfl, X.nx, ?_⟩
        simp only [Act.put, List.setIfInBounds_toArray, List.set_cons_zero, List.set_cons_succ]
        refine held_row 2 gr (ndC ({ n with cs := ca, cg := cb, got := ⟨#[]⟩, run := 0, last := 0, pos := 0, bad := false, ph := 3, mild := true, left := 6 }) (p)) rfl (by kernel_rfl) rfl rfl rfl rfl rfl X.res (by kernel_rfl) rfl (ndC_one _ _) (X.nxR _) ?_
        refine held_row 3 gh (hpC 4 zF none 0) rfl (by kernel_rfl) rfl rfl rfl rfl rfl (X.fin _ #[]).1 (by kernel_rfl) rfl (hpC_one _ _ _ _) (X.nxH _ _) ?_
        refine wpAnyH_done (by kernel_rfl) ?_ _
        obtain ⟨-, Z1, Z2, Z3⟩ := X.fin (ndC ({ n with cs := ca, cg := cb, got := ⟨#[]⟩, run := 0, last := 0, pos := 0, bad := false, ph := 3, mild := true, left := 6 }) (p)) (hpC 4 zF none 0)
        go_wp2_with fail
        refine bodyPost_ret (v := .tuple #[ndV ({ n with cs := ca, cg := cb, got := ⟨#[]⟩, run := 0, last := 0, pos := 0, bad := false, ph := 3, mild := true, left := 6 }) (p), hpV 4 zF none 0]) ?_ rfl ⟨rfl, Z3⟩
        exact results_both Tryz.results169 _ _ gr gh _ _ rfl rfl Z1 Z2 rfl rfl
      · rw [decide_eq_false hs1]
        generalize hst : stV ca cb = st at *
        replace hst := Lib.hid hst
        have e2 : (st == 2) = false := beq_eq_false_iff_ne.2 hs2
        have e1 : (st == 1) = false := beq_eq_false_iff_ne.2 hs1
        clear hs1 hs2
        have X := N3.made (ndC n p) w
        go_enter Tryz.func169, Tryz.ntmps169
        go_upto_region 1 with fail
        generalize World.alloc _ _ = W at X ⊢
        generalize w.heap.size + 1 + 1 = gh at X ⊢
        generalize w.heap.size + 1 = gr at X ⊢
        generalize w.heap.size = g at X ⊢
        have c1 : W.cell? ⟨g, 1, none⟩ = some (.bool n.tx) := X.cell 1
        have c13 : W.cell? ⟨g, 13, none⟩ = some (.int .i64 n.cs) := X.cell 13
        have c14 : W.cell? ⟨g, 14, none⟩ = some (.int .i64 n.cg) := X.cell 14
        rw [ht.out] at c1
        go_wp2_with fail
        refine (specGotBad _ _ _).mono ?_
        rintro e w2 ⟨rfl, b⟩
        rw [ha.out, hb.out]
        replace X := X.below b
        clear b c1 c13 c14
        have c3 : w2.cell? ⟨g, 3, none⟩ = some (.bool n.bad) := X.cell 3
        have c8 : w2.cell? ⟨g, 8, none⟩ = some (.string n.got) := X.cell 8
        have c9 : w2.cell? ⟨g, 9, none⟩ = some (.int .i64 n.run) := X.cell 9
        have c10 : w2.cell? ⟨g, 10, none⟩ = some (.int .i64 n.last) := X.cell 10
        have c11 : w2.cell? ⟨g, 11, none⟩ = some (.int .i64 n.pos) := X.cell 11
        have c13 : w2.cell? ⟨g, 13, none⟩ = some (.int .i64 n.cs) := X.cell 13
        have c14 : w2.cell? ⟨g, 14, none⟩ = some (.int .i64 n.cg) := X.cell 14
        have f3 := X.free 3
        have f8 := X.free 8
        have f9 := X.free 9
        have f10 := X.free 10
        have f11 := X.free 11
        have f13 := X.free 13
        have f14 := X.free 14
        go_upto_region 9 with fail
        clear c3 c8 c9 c10 c11 c13 c14 f3 f8 f9 f10 f11 f13 f14
        replace X : N3 g gr gh (ndC ({ n with cs := ca, cg := cb, got := ⟨#[]⟩, run := 0 }) p) w _ := ((((X.set 13 (.int .i64 ca)).set 14 (.int .i64 cb)).set 8 (.string ⟨#[]⟩)).set 9 (.int .i64 0))
        replace X : N3 g gr gh (ndC ({ n with cs := ca, cg := cb, got := ⟨#[]⟩, run := 0, last := 0, pos := 0, bad := false }) p) w _ := (((X.set 10 (.int .i64 0)).set 11 (.int .i64 0)).set 3 (.bool false))
        generalize World.setCell _ _ _ = W6 at X ⊢
        have c13 : W6.cell? ⟨g, 13, none⟩ = some (.int .i64 ca) := X.cell 13
        have c14 : W6.cell? ⟨g, 14, none⟩ = some (.int .i64 cb) := X.cell 14
        go_wp2_with fail
        refine (specStateOf _ _ _).mono ?_
        rintro e w7 ⟨rfl, b⟩
        rw [hst.out]
        replace X := X.below b
        clear b c13 c14
        have c0 : w7.cell? ⟨g, 0, none⟩ = some (.int .i64 n.ph) := X.cell 0
        have f0 := X.free 0
        go_upto_region 14 with fail
        clear c0 f0
        replace X : N3 g gr gh (ndC ({ n with cs := ca, cg := cb, got := ⟨#[]⟩, run := 0, last := 0, pos := 0, bad := false, ph := 3 }) p) w _ := (X.set 0 (.int .i64 3))
        generalize World.setCell _ _ _ = W8 at X ⊢
        have c13 : W8.cell? ⟨g, 13, none⟩ = some (.int .i64 ca) := X.cell 13
        have c14 : W8.cell? ⟨g, 14, none⟩ = some (.int .i64 cb) := X.cell 14
        go_wp2_with fail
        refine (specStateOf _ _ _).mono ?_
        rintro e w9 ⟨rfl, b⟩
        rw [hst.out]
        replace X := X.below b
        clear b c13 c14
        have c2 : w9.cell? ⟨g, 2, none⟩ = some (.bool n.mild) := X.cell 2
        have c12 : w9.cell? ⟨g, 12, none⟩ = some (.int .i64 n.left) := X.cell 12
        have f2 := X.free 2
        have f12 := X.free 12
        go_upto_region 16 with fail
        clear c2 c12 f2 f12
        replace X : N3 g gr gh (ndC ({ n with cs := ca, cg := cb, got := ⟨#[]⟩, run := 0, last := 0, pos := 0, bad := false, ph := 3, mild := false, left := 6 }) p) w _ := ((X.set 2 (.bool false)).set 12 (.int .i64 6))
        generalize World.setCell _ _ _ = W10 at X ⊢
        refine wp_region_held (S := fun u => Nx g ({ n with cs := ca, cg := cb, got := ⟨#[]⟩, run := 0, last := 0, pos := 0, bad := false, ph := 3, mild := false, left := 6 }) (p) w u) (by kernel_rfl) ?_
        replace X := X.drew'
        generalize ({ W10 with drawn := W10.drawn + 1 } : World) = V at X ⊢
        refine take_at 0 _ (ndV ({ n with cs := ca, cg := cb, got := ⟨#[]⟩, run := 0, last := 0, pos := 0, bad := false, ph := 3, mild := false, left := 6 }) (p)) rfl rfl (by kernel_rfl) (by kernel_rfl) (by kernel_rfl) (fun _ _ _ h => h) (.inl ⟨rfl, fun u hu => hu.took rfl rfl⟩) X.nx ?_
        simp only [Act.put, List.setIfInBounds_toArray, List.set_cons_zero, List.set_cons_succ]
        refine call_at 1 _ 113 #[.int .i64 4] rfl rfl (by kernel_rfl) rfl (by go_simp) ?_
        refine (specHappen 4 _).mono ?_
        rintro e wh ⟨rfl, b⟩
        replace X := X.below b
        clear b
        refine ⟨_, rfl, X.nx, ?_⟩
        simp only [Act.put, List.setIfInBounds_toArray, List.set_cons_zero, List.set_cons_succ]
        refine held_row 2 gr (ndC ({ n with cs := ca, cg := cb, got := ⟨#[]⟩, run := 0, last := 0, pos := 0, bad := false, ph := 3, mild := false, left := 6 }) (p)) rfl (by kernel_rfl) rfl rfl rfl rfl rfl X.res (by kernel_rfl) rfl (ndC_one _ _) (X.nxR _) ?_
        refine held_row 3 gh (hpC 4 zF none 0) rfl (by kernel_rfl) rfl rfl rfl rfl rfl (X.fin _ #[]).1 (by kernel_rfl) rfl (hpC_one _ _ _ _) (X.nxH _ _) ?_
        refine wpAnyH_done (by kernel_rfl) ?_ _
        obtain ⟨-, Z1, Z2, Z3⟩ := X.fin (ndC ({ n with cs := ca, cg := cb, got := ⟨#[]⟩, run := 0, last := 0, pos := 0, bad := false, ph := 3, mild := false, left := 6 }) (p)) (hpC 4 zF none 0)
        go_wp2_with fail
        refine bodyPost_ret (v := .tuple #[ndV ({ n with cs := ca, cg := cb, got := ⟨#[]⟩, run := 0, last := 0, pos := 0, bad := false, ph := 3, mild := false, left := 6 }) (p), hpV 4 zF none 0]) ?_ rfl ⟨rfl, Z3⟩
        exact results_both Tryz.results169 _ _ gr gh _ _ rfl rfl Z1 Z2 rfl rfl

/-- A node alone as an answer; its lists are as they were, its frame too, or it is the zero frame. -/
def Paused (r n : Nd) (p : NdP) (w : World) (e : Ending) (w' : World) : Prop := ∃ p' : NdP, (e = .returned (ndV r p') ∧ Below w.heap.size w w') ∧ ((r.fr = n.fr ∧ p' = p) ∨ (r.fr = zF ∧ p' = { p with ad := none, cd := 0 }))

set_option maxHeartbeats 16000000 in
/-- spec.l12Pause. -/
theorem specPause3 (n : Nd) (p : NdP) (l : Int) (w : World) (hl : l = 0 ∨ l = 1) (hl0 : 0 ≤ n.left ∧ n.left ≤ 128) (hp : n.ph = 3) :
    Calls Tryz.prog 118 #[ndV n p, .int .i64 l] w (Paused (pauseN n l) n p w) := by
  replace hp := Lib.hid hp
  by_cases hv : lessV n.left = 0
  · have hd := Lib.hid (decide_eq_true hv)
    rw [show pauseN n l = { n with ph := 4, left := 8 } from by unfold pauseN; rw [if_pos hp.out]; rw [if_pos hv]]
    have hv0 := Lib.hid hv
    clear hv
    have X := N2.made2 (ndC n p) w
    go_enter Tryz.func118, Tryz.ntmps118
    go_upto_region 1 with fail
    generalize World.alloc _ _ = W at X ⊢
    generalize w.heap.size + 1 = gr at X ⊢
    generalize w.heap.size = g at X ⊢
    have c0 : W.cell? ⟨g, 0, none⟩ = some (.int .i64 3) := (X.cell 0).trans (by rw [← hp.out]; rfl)
    go_wp2_with (refine Nx.take ⟨X.blk, X.bel⟩ rfl rfl rfl ?_)
    clear c0
    refine (specLess n p _ hl0).mono ?_
    rintro e w2 ⟨rfl, b⟩
    replace X := X.below b
    clear b
    rw [hd.out]
    go_upto_region 6 with (refine wpList_put X.blk rfl rfl rfl rfl rfl ?_)
    replace X : N2 g gr (ndC { n with left := lessV n.left } p) w _ := X.put _
    generalize World.setRow _ _ _ = W4 at X ⊢
    have c0 : W4.cell? ⟨g, 0, none⟩ = some (.int .i64 n.ph) := X.cell 0
    have c12 : W4.cell? ⟨g, 12, none⟩ = some (.int .i64 (lessV n.left)) := X.cell 12
    have f0 := X.free 0
    have f12 := X.free 12
    go_upto_region 32 with fail
    clear c0 c12 f0 f12
    replace X : N2 g gr (ndC ({ n with ph := 4, left := 8 }) p) w _ := ((X.set 0 (.int .i64 4)).set 12 (.int .i64 8))
    generalize World.setCell _ _ _ = W5 at X ⊢
    go_wp2_with (first | (refine Nx.take ⟨X.blk, X.bel⟩ rfl rfl rfl ?_) | (refine wpList_put X.res rfl rfl rfl rfl rfl ?_))
    refine bodyPost_ret (v := ndV ({ n with ph := 4, left := 8 }) (p)) ?_ rfl ⟨_, ⟨rfl, (X.fin _).2.2⟩, .inl ⟨rfl, rfl⟩⟩
    exact results_one Tryz.results118 _ _ gr _ rfl (X.fin (ndC ({ n with ph := 4, left := 8 }) (p))).1 rfl
  · have hd := Lib.hid (decide_eq_false hv)
    rw [show pauseN n l = { n with left := lessV n.left } from by unfold pauseN; rw [if_pos hp.out]; rw [if_neg hv]]
    clear hv
    have X := N2.made2 (ndC n p) w
    go_enter Tryz.func118, Tryz.ntmps118
    go_upto_region 1 with fail
    generalize World.alloc _ _ = W at X ⊢
    generalize w.heap.size + 1 = gr at X ⊢
    generalize w.heap.size = g at X ⊢
    have c0 : W.cell? ⟨g, 0, none⟩ = some (.int .i64 3) := (X.cell 0).trans (by rw [← hp.out]; rfl)
    go_wp2_with (refine Nx.take ⟨X.blk, X.bel⟩ rfl rfl rfl ?_)
    clear c0
    refine (specLess n p _ hl0).mono ?_
    rintro e w2 ⟨rfl, b⟩
    replace X := X.below b
    clear b
    rw [hd.out]
    go_upto_region 32 with (refine wpList_put X.blk rfl rfl rfl rfl rfl ?_)
    replace X : N2 g gr (ndC { n with left := lessV n.left } p) w _ := X.put _
    generalize World.setRow _ _ _ = W4 at X ⊢
    go_wp2_with (first | (refine Nx.take ⟨X.blk, X.bel⟩ rfl rfl rfl ?_) | (refine wpList_put X.res rfl rfl rfl rfl rfl ?_))
    refine bodyPost_ret (v := ndV ({ n with left := lessV n.left }) (p)) ?_ rfl ⟨_, ⟨rfl, (X.fin _).2.2⟩, .inl ⟨rfl, rfl⟩⟩
    exact results_one Tryz.results118 _ _ gr _ rfl (X.fin (ndC ({ n with left := lessV n.left }) (p))).1 rfl

set_option maxHeartbeats 16000000 in
/-- spec.l12Pause. -/
theorem specPause4 (n : Nd) (p : NdP) (l : Int) (w : World) (hl : l = 0 ∨ l = 1) (hl0 : 0 ≤ n.left ∧ n.left ≤ 128) (hp : n.ph = 4) :
    Calls Tryz.prog 118 #[ndV n p, .int .i64 l] w (Paused (pauseN n l) n p w) := by
  replace hp := Lib.hid hp
  rcases hl with rfl | rfl
  · rw [show pauseN n 0 = { n with left := 8 } from by unfold pauseN; rw [if_neg (by rw [hp.out]; decide)]; rw [if_pos hp.out]; rw [if_pos rfl]]
    have X := N2.made2 (ndC n p) w
    go_enter Tryz.func118, Tryz.ntmps118
    go_upto_region 1 with fail
    generalize World.alloc _ _ = W at X ⊢
    generalize w.heap.size + 1 = gr at X ⊢
    generalize w.heap.size = g at X ⊢
    have c0 : W.cell? ⟨g, 0, none⟩ = some (.int .i64 4) := (X.cell 0).trans (by rw [← hp.out]; rfl)
    have c12 : W.cell? ⟨g, 12, none⟩ = some (.int .i64 n.left) := X.cell 12
    have f12 := X.free 12
    go_upto_region 11 with fail
    clear c0
    clear c12 f12
    replace X : N2 g gr (ndC ({ n with left := 8 }) p) w _ := (X.set 12 (.int .i64 8))
    generalize World.setCell _ _ _ = W5 at X ⊢
    go_wp2_with (first | (refine Nx.take ⟨X.blk, X.bel⟩ rfl rfl rfl ?_) | (refine wpList_put X.res rfl rfl rfl rfl rfl ?_))
    refine bodyPost_ret (v := ndV ({ n with left := 8 }) (p)) ?_ rfl ⟨_, ⟨rfl, (X.fin _).2.2⟩, .inl ⟨rfl, rfl⟩⟩
    exact results_one Tryz.results118 _ _ gr _ rfl (X.fin (ndC ({ n with left := 8 }) (p))).1 rfl
  · by_cases hv : lessV n.left = 0
    · have hd := Lib.hid (decide_eq_true hv)
      rw [show pauseN n 1 = { n with ph := 5, left := 3 } from by unfold pauseN; rw [if_neg (by rw [hp.out]; decide)]; rw [if_pos hp.out]; rw [if_neg (by decide)]; rw [if_pos hv]]
      have hv0 := Lib.hid hv
      clear hv
      have X := N2.made2 (ndC n p) w
      go_enter Tryz.func118, Tryz.ntmps118
      go_upto_region 1 with fail
      generalize World.alloc _ _ = W at X ⊢
      generalize w.heap.size + 1 = gr at X ⊢
      generalize w.heap.size = g at X ⊢
      have c0 : W.cell? ⟨g, 0, none⟩ = some (.int .i64 4) := (X.cell 0).trans (by rw [← hp.out]; rfl)
      go_wp2_with (refine Nx.take ⟨X.blk, X.bel⟩ rfl rfl rfl ?_)
      clear c0
      refine (specLess n p _ hl0).mono ?_
      rintro e w2 ⟨rfl, b⟩
      replace X := X.below b
      clear b
      rw [hd.out]
      go_upto_region 14 with (refine wpList_put X.blk rfl rfl rfl rfl rfl ?_)
      replace X : N2 g gr (ndC { n with left := lessV n.left } p) w _ := X.put _
      generalize World.setRow _ _ _ = W4 at X ⊢
      have c0 : W4.cell? ⟨g, 0, none⟩ = some (.int .i64 n.ph) := X.cell 0
      have c12 : W4.cell? ⟨g, 12, none⟩ = some (.int .i64 (lessV n.left)) := X.cell 12
      have f0 := X.free 0
      have f12 := X.free 12
      go_upto_region 32 with fail
      clear c0 c12 f0 f12
      replace X : N2 g gr (ndC ({ n with ph := 5, left := 3 }) p) w _ := ((X.set 0 (.int .i64 5)).set 12 (.int .i64 3))
      generalize World.setCell _ _ _ = W5 at X ⊢
      go_wp2_with (first | (refine Nx.take ⟨X.blk, X.bel⟩ rfl rfl rfl ?_) | (refine wpList_put X.res rfl rfl rfl rfl rfl ?_))
      refine bodyPost_ret (v := ndV ({ n with ph := 5, left := 3 }) (p)) ?_ rfl ⟨_, ⟨rfl, (X.fin _).2.2⟩, .inl ⟨rfl, rfl⟩⟩
      exact results_one Tryz.results118 _ _ gr _ rfl (X.fin (ndC ({ n with ph := 5, left := 3 }) (p))).1 rfl
    · have hd := Lib.hid (decide_eq_false hv)
      rw [show pauseN n 1 = { n with left := lessV n.left } from by unfold pauseN; rw [if_neg (by rw [hp.out]; decide)]; rw [if_pos hp.out]; rw [if_neg (by decide)]; rw [if_neg hv]]
      clear hv
      have X := N2.made2 (ndC n p) w
      go_enter Tryz.func118, Tryz.ntmps118
      go_upto_region 1 with fail
      generalize World.alloc _ _ = W at X ⊢
      generalize w.heap.size + 1 = gr at X ⊢
      generalize w.heap.size = g at X ⊢
      have c0 : W.cell? ⟨g, 0, none⟩ = some (.int .i64 4) := (X.cell 0).trans (by rw [← hp.out]; rfl)
      go_wp2_with (refine Nx.take ⟨X.blk, X.bel⟩ rfl rfl rfl ?_)
      clear c0
      refine (specLess n p _ hl0).mono ?_
      rintro e w2 ⟨rfl, b⟩
      replace X := X.below b
      clear b
      rw [hd.out]
      go_upto_region 32 with (refine wpList_put X.blk rfl rfl rfl rfl rfl ?_)
      replace X : N2 g gr (ndC { n with left := lessV n.left } p) w _ := X.put _
      generalize World.setRow _ _ _ = W4 at X ⊢
      go_wp2_with (first | (refine Nx.take ⟨X.blk, X.bel⟩ rfl rfl rfl ?_) | (refine wpList_put X.res rfl rfl rfl rfl rfl ?_))
      refine bodyPost_ret (v := ndV ({ n with left := lessV n.left }) (p)) ?_ rfl ⟨_, ⟨rfl, (X.fin _).2.2⟩, .inl ⟨rfl, rfl⟩⟩
      exact results_one Tryz.results118 _ _ gr _ rfl (X.fin (ndC ({ n with left := lessV n.left }) (p))).1 rfl

set_option maxHeartbeats 16000000 in
/-- spec.l12Pause. -/
theorem specPause6 (n : Nd) (p : NdP) (l : Int) (w : World) (hl : l = 0 ∨ l = 1) (hl0 : 0 ≤ n.left ∧ n.left ≤ 128) (hp : n.ph = 6) :
    Calls Tryz.prog 118 #[ndV n p, .int .i64 l] w (Paused (pauseN n l) n p w) := by
  replace hp := Lib.hid hp
  rcases hl with rfl | rfl
  · rw [show pauseN n 0 = begN n false from by unfold pauseN; rw [if_neg (by rw [hp.out]; decide)]; rw [if_neg (by rw [hp.out]; decide)]; rw [if_neg (by rw [hp.out]; decide)]; rw [if_pos hp.out]; rw [if_pos rfl]]
    have X := N2.made2 (ndC n p) w
    go_enter Tryz.func118, Tryz.ntmps118
    go_upto_region 1 with fail
    generalize World.alloc _ _ = W at X ⊢
    generalize w.heap.size + 1 = gr at X ⊢
    generalize w.heap.size = g at X ⊢
    have c0 : W.cell? ⟨g, 0, none⟩ = some (.int .i64 6) := (X.cell 0).trans (by rw [← hp.out]; rfl)
    go_wp2_with (refine Nx.take ⟨X.blk, X.bel⟩ rfl rfl rfl ?_)
    clear c0
    refine (specBegin n p false _).mono ?_
    rintro e w2 ⟨rfl, b⟩
    replace X := X.below b
    clear b
    go_wp2_with (first | (refine Nx.take ⟨X.blk, X.bel⟩ rfl rfl rfl ?_) | (refine wpList_put X.res rfl rfl rfl rfl rfl ?_))
    refine bodyPost_ret (v := ndV (begN n false) (p)) ?_ rfl ⟨_, ⟨rfl, (X.fin _).2.2⟩, .inl ⟨rfl, rfl⟩⟩
    exact results_one Tryz.results118 _ _ gr _ rfl (X.fin (ndC (begN n false) (p))).1 rfl
  · by_cases hv : lessV n.left = 0
    · have hd := Lib.hid (decide_eq_true hv)
      rw [show pauseN n 1 = { n with left := 0, ph := 0 } from by unfold pauseN; rw [if_neg (by rw [hp.out]; decide)]; rw [if_neg (by rw [hp.out]; decide)]; rw [if_neg (by rw [hp.out]; decide)]; rw [if_pos hp.out]; rw [if_neg (by decide)]; rw [if_pos hv]]
      have hv0 := Lib.hid hv
      clear hv
      have X := N2.made2 (ndC n p) w
      go_enter Tryz.func118, Tryz.ntmps118
      go_upto_region 1 with fail
      generalize World.alloc _ _ = W at X ⊢
      generalize w.heap.size + 1 = gr at X ⊢
      generalize w.heap.size = g at X ⊢
      have c0 : W.cell? ⟨g, 0, none⟩ = some (.int .i64 6) := (X.cell 0).trans (by rw [← hp.out]; rfl)
      go_wp2_with (refine Nx.take ⟨X.blk, X.bel⟩ rfl rfl rfl ?_)
      clear c0
      refine (specLess n p _ hl0).mono ?_
      rintro e w2 ⟨rfl, b⟩
      replace X := X.below b
      clear b
      rw [hd.out]
      go_upto_region 31 with (refine wpList_put X.blk rfl rfl rfl rfl rfl ?_)
      replace X : N2 g gr (ndC { n with left := lessV n.left } p) w _ := X.put _
      generalize World.setRow _ _ _ = W4 at X ⊢
      replace X : N2 g gr (ndC { n with left := 0 } p) w W4 := by have := X; rw [hv0.out] at this; exact this
      have c0 : W4.cell? ⟨g, 0, none⟩ = some (.int .i64 n.ph) := X.cell 0
      have f0 := X.free 0
      go_upto_region 32 with fail
      clear c0 f0
      replace X : N2 g gr (ndC ({ n with left := 0, ph := 0 }) p) w _ := (X.set 0 (.int .i64 0))
      generalize World.setCell _ _ _ = W5 at X ⊢
      go_wp2_with (first | (refine Nx.take ⟨X.blk, X.bel⟩ rfl rfl rfl ?_) | (refine wpList_put X.res rfl rfl rfl rfl rfl ?_))
      refine bodyPost_ret (v := ndV ({ n with left := 0, ph := 0 }) (p)) ?_ rfl ⟨_, ⟨rfl, (X.fin _).2.2⟩, .inl ⟨rfl, rfl⟩⟩
      exact results_one Tryz.results118 _ _ gr _ rfl (X.fin (ndC ({ n with left := 0, ph := 0 }) (p))).1 rfl
    · have hd := Lib.hid (decide_eq_false hv)
      rw [show pauseN n 1 = { n with left := lessV n.left } from by unfold pauseN; rw [if_neg (by rw [hp.out]; decide)]; rw [if_neg (by rw [hp.out]; decide)]; rw [if_neg (by rw [hp.out]; decide)]; rw [if_pos hp.out]; rw [if_neg (by decide)]; rw [if_neg hv]]
      clear hv
      have X := N2.made2 (ndC n p) w
      go_enter Tryz.func118, Tryz.ntmps118
      go_upto_region 1 with fail
      generalize World.alloc _ _ = W at X ⊢
      generalize w.heap.size + 1 = gr at X ⊢
      generalize w.heap.size = g at X ⊢
      have c0 : W.cell? ⟨g, 0, none⟩ = some (.int .i64 6) := (X.cell 0).trans (by rw [← hp.out]; rfl)
      go_wp2_with (refine Nx.take ⟨X.blk, X.bel⟩ rfl rfl rfl ?_)
      clear c0
      refine (specLess n p _ hl0).mono ?_
      rintro e w2 ⟨rfl, b⟩
      replace X := X.below b
      clear b
      rw [hd.out]
      go_upto_region 32 with (refine wpList_put X.blk rfl rfl rfl rfl rfl ?_)
      replace X : N2 g gr (ndC { n with left := lessV n.left } p) w _ := X.put _
      generalize World.setRow _ _ _ = W4 at X ⊢
      go_wp2_with (first | (refine Nx.take ⟨X.blk, X.bel⟩ rfl rfl rfl ?_) | (refine wpList_put X.res rfl rfl rfl rfl rfl ?_))
      refine bodyPost_ret (v := ndV ({ n with left := lessV n.left }) (p)) ?_ rfl ⟨_, ⟨rfl, (X.fin _).2.2⟩, .inl ⟨rfl, rfl⟩⟩
      exact results_one Tryz.results118 _ _ gr _ rfl (X.fin (ndC ({ n with left := lessV n.left }) (p))).1 rfl

set_option maxHeartbeats 16000000 in
/-- spec.l12Pause. -/
theorem specPause5 (n : Nd) (p : NdP) (l : Int) (w : World) (hl : l = 0 ∨ l = 1) (hl0 : 0 ≤ n.left ∧ n.left ≤ 128) (hp : n.ph = 5) :
    Calls Tryz.prog 118 #[ndV n p, .int .i64 l] w (Paused (pauseN n l) n p w) := by
  replace hp := Lib.hid hp
  by_cases hv : lessV n.left = 0
  · have hd := Lib.hid (decide_eq_true hv)
    by_cases hs : n.tx = true ∧ stV n.cs n.cg = 1
    · have ht := Lib.hid hs.1
      have e1 : (stV n.cs n.cg == 1) = true := beq_iff_eq.2 hs.2
      have hst : Hid (stV n.cs n.cg = stV n.cs n.cg) := Lib.hid rfl
      rw [show pauseN n l = { n with left := 8, ph := 6, tx := false, fr := zF } from by unfold pauseN; rw [if_neg (by rw [hp.out]; decide)]; rw [if_neg (by rw [hp.out]; decide)]; rw [if_pos hp.out]; rw [if_pos hv, if_pos hs]]
      have hv0 := Lib.hid hv
      clear hv hs
      have X := N2.made2 (ndC n p) w
      go_enter Tryz.func118, Tryz.ntmps118
      go_upto_region 1 with fail
      generalize World.alloc _ _ = W at X ⊢
      generalize w.heap.size + 1 = gr at X ⊢
      generalize w.heap.size = g at X ⊢
      have c0 : W.cell? ⟨g, 0, none⟩ = some (.int .i64 5) := (X.cell 0).trans (by rw [← hp.out]; rfl)
      go_wp2_with (refine Nx.take ⟨X.blk, X.bel⟩ rfl rfl rfl ?_)
      clear c0
      refine (specLess n p _ hl0).mono ?_
      rintro e w2 ⟨rfl, b⟩
      replace X := X.below b
      clear b
      rw [hd.out]
      go_upto_region 20 with (refine wpList_put X.blk rfl rfl rfl rfl rfl ?_)
      replace X : N2 g gr (ndC { n with left := lessV n.left } p) w _ := X.put _
      generalize World.setRow _ _ _ = W4 at X ⊢
      have c0 : W4.cell? ⟨g, 0, none⟩ = some (.int .i64 n.ph) := X.cell 0
      have f0 := X.free 0
      go_upto_region 21 with fail
      clear c0 f0
      replace X : N2 g gr (ndC ({ n with left := lessV n.left, ph := 0 }) p) w _ := (X.set 0 (.int .i64 0))
      generalize World.setCell _ _ _ = W5 at X ⊢
      have c1 : W5.cell? ⟨g, 1, none⟩ = some (.bool n.tx) := X.cell 1
      have c13 : W5.cell? ⟨g, 13, none⟩ = some (.int .i64 n.cs) := X.cell 13
      have c14 : W5.cell? ⟨g, 14, none⟩ = some (.int .i64 n.cg) := X.cell 14
      rw [ht.out] at c1
      go_wp2_with fail
      refine (specStateOf _ _ _).mono ?_
      rintro e w6 ⟨rfl, b⟩
      replace X := X.below b
      clear b c1 c13 c14
      have c0 : w6.cell? ⟨g, 0, none⟩ = some (.int .i64 0) := X.cell 0
      have f0 := X.free 0
      have c12 : w6.cell? ⟨g, 12, none⟩ = some (.int .i64 (lessV n.left)) := X.cell 12
      have f12 := X.free 12
      go_upto_region 24 with fail
      clear c0 f0 c12 f12
      replace X : N2 g gr (ndC ({ n with left := 8, ph := 6 }) p) w _ := ((X.set 0 (.int .i64 6)).set 12 (.int .i64 8))
      generalize World.setCell _ _ _ = W7 at X ⊢
      have c1 : W7.cell? ⟨g, 1, none⟩ = some (.bool n.tx) := X.cell 1
      have c4 : W7.cell? ⟨g, 4, none⟩ = some (.int .i64 n.fr.id) := X.cell 4
      have c5 : W7.cell? ⟨g, 5, none⟩ = some (.bool n.fr.rm) := X.cell 5
      have c6 : W7.cell? ⟨g, 6, none⟩ = some (.int .i64 n.fr.ln) := X.cell 6
      have c7 : W7.cell? ⟨g, 7, none⟩ = some (.slice p.ad n.fr.D.length p.cd) := X.cell 7
      have f1 := X.free 1
      have f4 := X.free 4
      have f5 := X.free 5
      have f6 := X.free 6
      have f7 := X.free 7
      go_upto_region 32 with fail
      clear c1 c4 c5 c6 c7 f1 f4 f5 f6 f7
      replace X : N2 g gr (ndC ({ n with left := 8, ph := 6, tx := false, fr := zF }) { p with ad := none, cd := 0 }) w _ := (((((X.set 1 (.bool false)).set 4 (.int .i64 0)).set 5 (.bool false)).set 6 (.int .i64 0)).set 7 (.slice none 0 0))
      generalize World.setCell _ _ _ = W9 at X ⊢
      go_wp2_with (first | (refine Nx.take ⟨X.blk, X.bel⟩ rfl rfl rfl ?_) | (refine wpList_put X.res rfl rfl rfl rfl rfl ?_))
      refine bodyPost_ret (v := ndV ({ n with left := 8, ph := 6, tx := false, fr := zF }) ({ p with ad := none, cd := 0 })) ?_ rfl ⟨_, ⟨rfl, (X.fin _).2.2⟩, .inr ⟨rfl, rfl⟩⟩
      exact results_one Tryz.results118 _ _ gr _ rfl (X.fin (ndC ({ n with left := 8, ph := 6, tx := false, fr := zF }) ({ p with ad := none, cd := 0 }))).1 rfl
    · rcases (Bool.eq_false_or_eq_true n.tx).symm with ht | ht
      · replace ht := Lib.hid ht
        rw [show pauseN n l = { n with left := 0, ph := 0, tx := false, fr := zF } from by unfold pauseN; rw [if_neg (by rw [hp.out]; decide)]; rw [if_neg (by rw [hp.out]; decide)]; rw [if_pos hp.out]; rw [if_pos hv, if_neg hs]]
        have hv0 := Lib.hid hv
        clear hv hs
        have X := N2.made2 (ndC n p) w
        go_enter Tryz.func118, Tryz.ntmps118
        go_upto_region 1 with fail
        generalize World.alloc _ _ = W at X ⊢
        generalize w.heap.size + 1 = gr at X ⊢
        generalize w.heap.size = g at X ⊢
        have c0 : W.cell? ⟨g, 0, none⟩ = some (.int .i64 5) := (X.cell 0).trans (by rw [← hp.out]; rfl)
        go_wp2_with (refine Nx.take ⟨X.blk, X.bel⟩ rfl rfl rfl ?_)
        clear c0
        refine (specLess n p _ hl0).mono ?_
        rintro e w2 ⟨rfl, b⟩
        replace X := X.below b
        clear b
        rw [hd.out]
        go_upto_region 20 with (refine wpList_put X.blk rfl rfl rfl rfl rfl ?_)
        replace X : N2 g gr (ndC { n with left := lessV n.left } p) w _ := X.put _
        generalize World.setRow _ _ _ = W4 at X ⊢
        have c0 : W4.cell? ⟨g, 0, none⟩ = some (.int .i64 n.ph) := X.cell 0
        have f0 := X.free 0
        go_upto_region 21 with fail
        clear c0 f0
        replace X : N2 g gr (ndC ({ n with left := lessV n.left, ph := 0 }) p) w _ := (X.set 0 (.int .i64 0))
        generalize World.setCell _ _ _ = W5 at X ⊢
        have c1 : W5.cell? ⟨g, 1, none⟩ = some (.bool n.tx) := X.cell 1
        have c13 : W5.cell? ⟨g, 13, none⟩ = some (.int .i64 n.cs) := X.cell 13
        have c14 : W5.cell? ⟨g, 14, none⟩ = some (.int .i64 n.cg) := X.cell 14
        rw [ht.out] at c1
        go_upto_region 24 with fail
        clear c1 c13 c14
        replace X : N2 g gr (ndC { n with left := 0, ph := 0 } p) w W5 := by have := X; rw [hv0.out] at this; exact this
        have c1 : W5.cell? ⟨g, 1, none⟩ = some (.bool n.tx) := X.cell 1
        have c4 : W5.cell? ⟨g, 4, none⟩ = some (.int .i64 n.fr.id) := X.cell 4
        have c5 : W5.cell? ⟨g, 5, none⟩ = some (.bool n.fr.rm) := X.cell 5
        have c6 : W5.cell? ⟨g, 6, none⟩ = some (.int .i64 n.fr.ln) := X.cell 6
        have c7 : W5.cell? ⟨g, 7, none⟩ = some (.slice p.ad n.fr.D.length p.cd) := X.cell 7
        have f1 := X.free 1
        have f4 := X.free 4
        have f5 := X.free 5
        have f6 := X.free 6
        have f7 := X.free 7
        go_upto_region 32 with fail
        clear c1 c4 c5 c6 c7 f1 f4 f5 f6 f7
        replace X : N2 g gr (ndC ({ n with left := 0, ph := 0, tx := false, fr := zF }) { p with ad := none, cd := 0 }) w _ := (((((X.set 1 (.bool false)).set 4 (.int .i64 0)).set 5 (.bool false)).set 6 (.int .i64 0)).set 7 (.slice none 0 0))
        generalize World.setCell _ _ _ = W9 at X ⊢
        go_wp2_with (first | (refine Nx.take ⟨X.blk, X.bel⟩ rfl rfl rfl ?_) | (refine wpList_put X.res rfl rfl rfl rfl rfl ?_))
        refine bodyPost_ret (v := ndV ({ n with left := 0, ph := 0, tx := false, fr := zF }) ({ p with ad := none, cd := 0 })) ?_ rfl ⟨_, ⟨rfl, (X.fin _).2.2⟩, .inr ⟨rfl, rfl⟩⟩
        exact results_one Tryz.results118 _ _ gr _ rfl (X.fin (ndC ({ n with left := 0, ph := 0, tx := false, fr := zF }) ({ p with ad := none, cd := 0 }))).1 rfl
      · have e1 : (stV n.cs n.cg == 1) = false := beq_eq_false_iff_ne.2 (fun k => hs ⟨ht, k⟩)
        replace ht := Lib.hid ht
        have hst : Hid (stV n.cs n.cg = stV n.cs n.cg) := Lib.hid rfl
        rw [show pauseN n l = { n with left := 0, ph := 0, tx := false, fr := zF } from by unfold pauseN; rw [if_neg (by rw [hp.out]; decide)]; rw [if_neg (by rw [hp.out]; decide)]; rw [if_pos hp.out]; rw [if_pos hv, if_neg hs]]
        have hv0 := Lib.hid hv
        clear hv hs
        have X := N2.made2 (ndC n p) w
        go_enter Tryz.func118, Tryz.ntmps118
        go_upto_region 1 with fail
        generalize World.alloc _ _ = W at X ⊢
        generalize w.heap.size + 1 = gr at X ⊢
        generalize w.heap.size = g at X ⊢
        have c0 : W.cell? ⟨g, 0, none⟩ = some (.int .i64 5) := (X.cell 0).trans (by rw [← hp.out]; rfl)
        go_wp2_with (refine Nx.take ⟨X.blk, X.bel⟩ rfl rfl rfl ?_)
        clear c0
        refine (specLess n p _ hl0).mono ?_
        rintro e w2 ⟨rfl, b⟩
        replace X := X.below b
        clear b
        rw [hd.out]
        go_upto_region 20 with (refine wpList_put X.blk rfl rfl rfl rfl rfl ?_)
        replace X : N2 g gr (ndC { n with left := lessV n.left } p) w _ := X.put _
        generalize World.setRow _ _ _ = W4 at X ⊢
        have c0 : W4.cell? ⟨g, 0, none⟩ = some (.int .i64 n.ph) := X.cell 0
        have f0 := X.free 0
        go_upto_region 21 with fail
        clear c0 f0
        replace X : N2 g gr (ndC ({ n with left := lessV n.left, ph := 0 }) p) w _ := (X.set 0 (.int .i64 0))
        generalize World.setCell _ _ _ = W5 at X ⊢
        have c1 : W5.cell? ⟨g, 1, none⟩ = some (.bool n.tx) := X.cell 1
        have c13 : W5.cell? ⟨g, 13, none⟩ = some (.int .i64 n.cs) := X.cell 13
        have c14 : W5.cell? ⟨g, 14, none⟩ = some (.int .i64 n.cg) := X.cell 14
        rw [ht.out] at c1
        go_wp2_with fail
        refine (specStateOf _ _ _).mono ?_
        rintro e w6 ⟨rfl, b⟩
        replace X := X.below b
        clear b c1 c13 c14
        go_upto_region 24 with fail
        replace X : N2 g gr (ndC { n with left := 0, ph := 0 } p) w w6 := by have := X; rw [hv0.out] at this; exact this
        have c1 : w6.cell? ⟨g, 1, none⟩ = some (.bool n.tx) := X.cell 1
        have c4 : w6.cell? ⟨g, 4, none⟩ = some (.int .i64 n.fr.id) := X.cell 4
        have c5 : w6.cell? ⟨g, 5, none⟩ = some (.bool n.fr.rm) := X.cell 5
        have c6 : w6.cell? ⟨g, 6, none⟩ = some (.int .i64 n.fr.ln) := X.cell 6
        have c7 : w6.cell? ⟨g, 7, none⟩ = some (.slice p.ad n.fr.D.length p.cd) := X.cell 7
        have f1 := X.free 1
        have f4 := X.free 4
        have f5 := X.free 5
        have f6 := X.free 6
        have f7 := X.free 7
        go_upto_region 32 with fail
        clear c1 c4 c5 c6 c7 f1 f4 f5 f6 f7
        replace X : N2 g gr (ndC ({ n with left := 0, ph := 0, tx := false, fr := zF }) { p with ad := none, cd := 0 }) w _ := (((((X.set 1 (.bool false)).set 4 (.int .i64 0)).set 5 (.bool false)).set 6 (.int .i64 0)).set 7 (.slice none 0 0))
        generalize World.setCell _ _ _ = W9 at X ⊢
        go_wp2_with (first | (refine Nx.take ⟨X.blk, X.bel⟩ rfl rfl rfl ?_) | (refine wpList_put X.res rfl rfl rfl rfl rfl ?_))
        refine bodyPost_ret (v := ndV ({ n with left := 0, ph := 0, tx := false, fr := zF }) ({ p with ad := none, cd := 0 })) ?_ rfl ⟨_, ⟨rfl, (X.fin _).2.2⟩, .inr ⟨rfl, rfl⟩⟩
        exact results_one Tryz.results118 _ _ gr _ rfl (X.fin (ndC ({ n with left := 0, ph := 0, tx := false, fr := zF }) ({ p with ad := none, cd := 0 }))).1 rfl
  · have hd := Lib.hid (decide_eq_false hv)
    rw [show pauseN n l = { n with left := lessV n.left } from by unfold pauseN; rw [if_neg (by rw [hp.out]; decide)]; rw [if_neg (by rw [hp.out]; decide)]; rw [if_pos hp.out]; rw [if_neg hv]]
    clear hv
    have X := N2.made2 (ndC n p) w
    go_enter Tryz.func118, Tryz.ntmps118
    go_upto_region 1 with fail
    generalize World.alloc _ _ = W at X ⊢
    generalize w.heap.size + 1 = gr at X ⊢
    generalize w.heap.size = g at X ⊢
    have c0 : W.cell? ⟨g, 0, none⟩ = some (.int .i64 5) := (X.cell 0).trans (by rw [← hp.out]; rfl)
    go_wp2_with (refine Nx.take ⟨X.blk, X.bel⟩ rfl rfl rfl ?_)
    clear c0
    refine (specLess n p _ hl0).mono ?_
    rintro e w2 ⟨rfl, b⟩
    replace X := X.below b
    clear b
    rw [hd.out]
    go_upto_region 19 with (refine wpList_put X.blk rfl rfl rfl rfl rfl ?_)
    replace X : N2 g gr (ndC { n with left := lessV n.left } p) w _ := X.put _
    generalize World.setRow _ _ _ = W4 at X ⊢
    go_wp2_with (first | (refine Nx.take ⟨X.blk, X.bel⟩ rfl rfl rfl ?_) | (refine wpList_put X.res rfl rfl rfl rfl rfl ?_))
    refine bodyPost_ret (v := ndV ({ n with left := lessV n.left }) (p)) ?_ rfl ⟨_, ⟨rfl, (X.fin _).2.2⟩, .inl ⟨rfl, rfl⟩⟩
    exact results_one Tryz.results118 _ _ gr _ rfl (X.fin (ndC ({ n with left := lessV n.left }) (p))).1 rfl

set_option maxHeartbeats 16000000 in
/-- spec.l12Off. -/
theorem specOff (n : Nd) (p : NdP) (l : Int) (w : World) (hl : l = 0 ∨ l = 1) (hl0 : 0 ≤ n.left ∧ n.left ≤ 128) (hr : 0 ≤ n.run ∧ n.run ≤ 11) :
    Calls Tryz.prog 117 #[ndV n p, .int .i64 l] w (TellF (offN n l).1 (offN n l).2.1 n p w) := by
  have hrw : IntKind.i64.wrap (n.run + 1) = n.run + 1 := IntWalk.i64_in _ (by omega)
  have hlw : IntKind.i64.wrap (n.left - 1) = n.left - 1 := IntWalk.i64_in _ (by omega)
  rcases hl with rfl | rfl
  · have e : offN n 0 = ({ n with run := 0 }, 0, zF) := by unfold offN; rw [if_pos rfl]
    rw [e]
    clear e
    have X := N3.made (ndC n p) w
    go_enter Tryz.func117, Tryz.ntmps117
    go_upto_region 1 with fail
    generalize World.alloc _ _ = W at X ⊢
    generalize w.heap.size + 1 + 1 = gh at X ⊢
    generalize w.heap.size + 1 = gr at X ⊢
    generalize w.heap.size = g at X ⊢
    have c9 : W.cell? ⟨g, 9, none⟩ = some (.int .i64 n.run) := X.cell 9
    have f9 := X.free 9
    go_upto_region 3 with fail
    clear c9 f9
    replace X : N3 g gr gh (ndC ({ n with run := 0 }) p) w _ := (X.set 9 (.int .i64 0))
    generalize World.setCell _ _ _ = W1 at X ⊢
    refine wp_region_held (S := fun u => Nx g ({ n with run := 0 }) (p) w u) (by kernel_rfl) ?_
    replace X := X.drew'
    generalize ({ W1 with drawn := W1.drawn + 1 } : World) = V at X ⊢
    refine take_at 0 _ (ndV ({ n with run := 0 }) (p)) rfl rfl (by kernel_rfl) (by kernel_rfl) (by kernel_rfl) (fun _ _ _ h => h) (.inl ⟨rfl, fun u hu => hu.took rfl rfl⟩) X.nx ?_
    simp only [Act.put, List.setIfInBounds_toArray, List.set_cons_zero, List.set_cons_succ]
    refine call_at 1 _ 113 #[.int .i64 0] rfl rfl (by kernel_rfl) rfl (by go_simp) ?_
    refine (specHappen 0 _).mono ?_
    rintro e wh ⟨rfl, b⟩
    replace X := X.below b
    clear b
    refine ⟨_, rfl, X.nx, ?_⟩
    simp only [Act.put, List.setIfInBounds_toArray, List.set_cons_zero, List.set_cons_succ]
    refine held_row 2 gr (ndC ({ n with run := 0 }) (p)) rfl (by kernel_rfl) rfl rfl rfl rfl rfl X.res (by kernel_rfl) rfl (ndC_one _ _) (X.nxR _) ?_
    refine held_row 3 gh (hpC 0 zF none 0) rfl (by kernel_rfl) rfl rfl rfl rfl rfl (X.fin _ #[]).1 (by kernel_rfl) rfl (hpC_one _ _ _ _) (X.nxH _ _) ?_
    refine wpAnyH_done (by kernel_rfl) ?_ _
    obtain ⟨-, Z1, Z2, Z3⟩ := X.fin (ndC ({ n with run := 0 }) (p)) (hpC 0 zF none 0)
    go_wp2_with fail
    refine bodyPost_ret (v := .tuple #[ndV ({ n with run := 0 }) (p), hpV 0 zF none 0]) ?_ rfl ⟨_, ⟨rfl, Z3⟩, .inl ⟨rfl, rfl⟩⟩
    exact results_both Tryz.results117 _ _ gr gh _ _ rfl rfl Z1 Z2 rfl rfl
  by_cases h11 : n.run + 1 < 11
  · have e : offN n 1 = ({ n with run := n.run + 1 }, 0, zF) := by unfold offN; rw [if_neg (by decide), if_pos h11]
    rw [e]
    clear e
    have hd : decide (n.run + 1 < 11) = true := decide_eq_true h11
    have X := N3.made (ndC n p) w
    go_enter Tryz.func117, Tryz.ntmps117
    go_upto_region 1 with fail
    generalize World.alloc _ _ = W at X ⊢
    generalize w.heap.size + 1 + 1 = gh at X ⊢
    generalize w.heap.size + 1 = gr at X ⊢
    generalize w.heap.size = g at X ⊢
    have c9 : W.cell? ⟨g, 9, none⟩ = some (.int .i64 n.run) := X.cell 9
    have f9 := X.free 9
    go_upto_region 6 with fail
    clear c9 f9
    replace X : N3 g gr gh (ndC ({ n with run := n.run + 1 }) p) w _ := (X.set 9 (.int .i64 (n.run + 1)))
    generalize World.setCell _ _ _ = W1 at X ⊢
    refine wp_region_held (S := fun u => Nx g ({ n with run := n.run + 1 }) (p) w u) (by kernel_rfl) ?_
    replace X := X.drew'
    generalize ({ W1 with drawn := W1.drawn + 1 } : World) = V at X ⊢
    refine take_at 0 _ (ndV ({ n with run := n.run + 1 }) (p)) rfl rfl (by kernel_rfl) (by kernel_rfl) (by kernel_rfl) (fun _ _ _ h => h) (.inl ⟨rfl, fun u hu => hu.took rfl rfl⟩) X.nx ?_
    simp only [Act.put, List.setIfInBounds_toArray, List.set_cons_zero, List.set_cons_succ]
    refine call_at 1 _ 113 #[.int .i64 0] rfl rfl (by kernel_rfl) rfl (by go_simp) ?_
    refine (specHappen 0 _).mono ?_
    rintro e wh ⟨rfl, b⟩
    replace X := X.below b
    clear b
    refine ⟨_, rfl, X.nx, ?_⟩
    simp only [Act.put, List.setIfInBounds_toArray, List.set_cons_zero, List.set_cons_succ]
    refine held_row 2 gr (ndC ({ n with run := n.run + 1 }) (p)) rfl (by kernel_rfl) rfl rfl rfl rfl rfl X.res (by kernel_rfl) rfl (ndC_one _ _) (X.nxR _) ?_
    refine held_row 3 gh (hpC 0 zF none 0) rfl (by kernel_rfl) rfl rfl rfl rfl rfl (X.fin _ #[]).1 (by kernel_rfl) rfl (hpC_one _ _ _ _) (X.nxH _ _) ?_
    refine wpAnyH_done (by kernel_rfl) ?_ _
    obtain ⟨-, Z1, Z2, Z3⟩ := X.fin (ndC ({ n with run := n.run + 1 }) (p)) (hpC 0 zF none 0)
    go_wp2_with fail
    refine bodyPost_ret (v := .tuple #[ndV ({ n with run := n.run + 1 }) (p), hpV 0 zF none 0]) ?_ rfl ⟨_, ⟨rfl, Z3⟩, .inl ⟨rfl, rfl⟩⟩
    exact results_both Tryz.results117 _ _ gr gh _ _ rfl rfl Z1 Z2 rfl rfl
  have hd : decide (n.run + 1 < 11) = false := decide_eq_false h11
  by_cases hp : 0 < n.left - 1
  · have e : offN n 1 = ({ n with run := 0, left := n.left - 1 }, 0, zF) := by unfold offN; rw [if_neg (by decide), if_neg h11, if_pos hp]
    rw [e]
    clear e
    have hd2 : decide (0 < n.left - 1) = true := decide_eq_true hp
    have X := N3.made (ndC n p) w
    go_enter Tryz.func117, Tryz.ntmps117
    go_upto_region 1 with fail
    generalize World.alloc _ _ = W at X ⊢
    generalize w.heap.size + 1 + 1 = gh at X ⊢
    generalize w.heap.size + 1 = gr at X ⊢
    generalize w.heap.size = g at X ⊢
    have c9 : W.cell? ⟨g, 9, none⟩ = some (.int .i64 n.run) := X.cell 9
    have c12 : W.cell? ⟨g, 12, none⟩ = some (.int .i64 n.left) := X.cell 12
    have f9 := X.free 9
    have f12 := X.free 12
    go_upto_region 10 with fail
    clear c9 c12 f9 f12
    replace X : N3 g gr gh (ndC ({ n with run := 0, left := n.left - 1 }) p) w _ := (((X.set 9 (.int .i64 (n.run + 1))).set 9 (.int .i64 0)).set 12 (.int .i64 (n.left - 1)))
    generalize World.setCell _ _ _ = W1 at X ⊢
    refine wp_region_held (S := fun u => Nx g ({ n with run := 0, left := n.left - 1 }) (p) w u) (by kernel_rfl) ?_
    replace X := X.drew'
    generalize ({ W1 with drawn := W1.drawn + 1 } : World) = V at X ⊢
    refine take_at 0 _ (ndV ({ n with run := 0, left := n.left - 1 }) (p)) rfl rfl (by kernel_rfl) (by kernel_rfl) (by kernel_rfl) (fun _ _ _ h => h) (.inl ⟨rfl, fun u hu => hu.took rfl rfl⟩) X.nx ?_
    simp only [Act.put, List.setIfInBounds_toArray, List.set_cons_zero, List.set_cons_succ]
    refine call_at 1 _ 113 #[.int .i64 0] rfl rfl (by kernel_rfl) rfl (by go_simp) ?_
    refine (specHappen 0 _).mono ?_
    rintro e wh ⟨rfl, b⟩
    replace X := X.below b
    clear b
    refine ⟨_, rfl, X.nx, ?_⟩
    simp only [Act.put, List.setIfInBounds_toArray, List.set_cons_zero, List.set_cons_succ]
    refine held_row 2 gr (ndC ({ n with run := 0, left := n.left - 1 }) (p)) rfl (by kernel_rfl) rfl rfl rfl rfl rfl X.res (by kernel_rfl) rfl (ndC_one _ _) (X.nxR _) ?_
    refine held_row 3 gh (hpC 0 zF none 0) rfl (by kernel_rfl) rfl rfl rfl rfl rfl (X.fin _ #[]).1 (by kernel_rfl) rfl (hpC_one _ _ _ _) (X.nxH _ _) ?_
    refine wpAnyH_done (by kernel_rfl) ?_ _
    obtain ⟨-, Z1, Z2, Z3⟩ := X.fin (ndC ({ n with run := 0, left := n.left - 1 }) (p)) (hpC 0 zF none 0)
    go_wp2_with fail
    refine bodyPost_ret (v := .tuple #[ndV ({ n with run := 0, left := n.left - 1 }) (p), hpV 0 zF none 0]) ?_ rfl ⟨_, ⟨rfl, Z3⟩, .inl ⟨rfl, rfl⟩⟩
    exact results_both Tryz.results117 _ _ gr gh _ _ rfl rfl Z1 Z2 rfl rfl
  · have e : offN n 1 = ({ n with run := 0, left := 0, cs := 0, cg := 0, ph := 0, tx := false, mild := false, fr := zF }, 6, zF) := by unfold offN; rw [if_neg (by decide), if_neg h11, if_neg hp]
    rw [e]
    clear e
    have hd2 : decide (0 < n.left - 1) = false := decide_eq_false hp
    have X := N3.made (ndC n p) w
    go_enter Tryz.func117, Tryz.ntmps117
    go_upto_region 1 with fail
    generalize World.alloc _ _ = W at X ⊢
    generalize w.heap.size + 1 + 1 = gh at X ⊢
    generalize w.heap.size + 1 = gr at X ⊢
    generalize w.heap.size = g at X ⊢
    have c0 : W.cell? ⟨g, 0, none⟩ = some (.int .i64 n.ph) := X.cell 0
    have c1 : W.cell? ⟨g, 1, none⟩ = some (.bool n.tx) := X.cell 1
    have c2 : W.cell? ⟨g, 2, none⟩ = some (.bool n.mild) := X.cell 2
    have c4 : W.cell? ⟨g, 4, none⟩ = some (.int .i64 n.fr.id) := X.cell 4
    have c5 : W.cell? ⟨g, 5, none⟩ = some (.bool n.fr.rm) := X.cell 5
    have c6 : W.cell? ⟨g, 6, none⟩ = some (.int .i64 n.fr.ln) := X.cell 6
    have c7 : W.cell? ⟨g, 7, none⟩ = some (.slice p.ad n.fr.D.length p.cd) := X.cell 7
    have c9 : W.cell? ⟨g, 9, none⟩ = some (.int .i64 n.run) := X.cell 9
    have c12 : W.cell? ⟨g, 12, none⟩ = some (.int .i64 n.left) := X.cell 12
    have c13 : W.cell? ⟨g, 13, none⟩ = some (.int .i64 n.cs) := X.cell 13
    have c14 : W.cell? ⟨g, 14, none⟩ = some (.int .i64 n.cg) := X.cell 14
    have f0 := X.free 0
    have f1 := X.free 1
    have f2 := X.free 2
    have f4 := X.free 4
    have f5 := X.free 5
    have f6 := X.free 6
    have f7 := X.free 7
    have f9 := X.free 9
    have f12 := X.free 12
    have f13 := X.free 13
    have f14 := X.free 14
    go_upto_region 17 with fail
    clear c0 c1 c2 c4 c5 c6 c7 c9 c12 c13 c14 f0 f1 f2 f4 f5 f6 f7 f9 f12 f13 f14
    replace X : N3 g gr gh (ndC ({ n with run := 0, left := 0 }) p) w _ := ((((X.set 9 (.int .i64 (n.run + 1))).set 9 (.int .i64 0)).set 12 (.int .i64 (n.left - 1))).set 12 (.int .i64 0))
    replace X : N3 g gr gh (ndC ({ n with run := 0, left := 0, cs := 0, cg := 0, ph := 0, tx := false }) p) w _ := ((((X.set 13 (.int .i64 0)).set 14 (.int .i64 0)).set 0 (.int .i64 0)).set 1 (.bool false))
    replace X : N3 g gr gh (ndC ({ n with run := 0, left := 0, cs := 0, cg := 0, ph := 0, tx := false, mild := false, fr := zF }) { p with ad := none, cd := 0 }) w _ := (((((X.set 2 (.bool false)).set 4 (.int .i64 0)).set 5 (.bool false)).set 6 (.int .i64 0)).set 7 (.slice none 0 0))
    generalize World.setCell _ _ _ = W1 at X ⊢
    refine wp_region_held (S := fun u => Nx g ({ n with run := 0, left := 0, cs := 0, cg := 0, ph := 0, tx := false, mild := false, fr := zF }) ({ p with ad := none, cd := 0 }) w u) (by kernel_rfl) ?_
    replace X := X.drew'
    generalize ({ W1 with drawn := W1.drawn + 1 } : World) = V at X ⊢
    refine take_at 0 _ (ndV ({ n with run := 0, left := 0, cs := 0, cg := 0, ph := 0, tx := false, mild := false, fr := zF }) ({ p with ad := none, cd := 0 })) rfl rfl (by kernel_rfl) (by kernel_rfl) (by kernel_rfl) (fun _ _ _ h => h) (.inl ⟨rfl, fun u hu => hu.took rfl rfl⟩) X.nx ?_
    simp only [Act.put, List.setIfInBounds_toArray, List.set_cons_zero, List.set_cons_succ]
    refine call_at 1 _ 113 #[.int .i64 6] rfl rfl (by kernel_rfl) rfl (by go_simp) ?_
    refine (specHappen 6 _).mono ?_
    rintro e wh ⟨rfl, b⟩
    replace X := X.below b
    clear b
    refine ⟨_, rfl, X.nx, ?_⟩
    simp only [Act.put, List.setIfInBounds_toArray, List.set_cons_zero, List.set_cons_succ]
    refine held_row 2 gr (ndC ({ n with run := 0, left := 0, cs := 0, cg := 0, ph := 0, tx := false, mild := false, fr := zF }) ({ p with ad := none, cd := 0 })) rfl (by kernel_rfl) rfl rfl rfl rfl rfl X.res (by kernel_rfl) rfl (ndC_one _ _) (X.nxR _) ?_
    refine held_row 3 gh (hpC 6 zF none 0) rfl (by kernel_rfl) rfl rfl rfl rfl rfl (X.fin _ #[]).1 (by kernel_rfl) rfl (hpC_one _ _ _ _) (X.nxH _ _) ?_
    refine wpAnyH_done (by kernel_rfl) ?_ _
    obtain ⟨-, Z1, Z2, Z3⟩ := X.fin (ndC ({ n with run := 0, left := 0, cs := 0, cg := 0, ph := 0, tx := false, mild := false, fr := zF }) ({ p with ad := none, cd := 0 })) (hpC 6 zF none 0)
    go_wp2_with fail
    refine bodyPost_ret (v := .tuple #[ndV ({ n with run := 0, left := 0, cs := 0, cg := 0, ph := 0, tx := false, mild := false, fr := zF }) ({ p with ad := none, cd := 0 }), hpV 6 zF none 0]) ?_ rfl ⟨_, ⟨rfl, Z3⟩, .inr ⟨rfl, rfl⟩⟩
    exact results_both Tryz.results117 _ _ gr gh _ _ rfl rfl Z1 Z2 rfl rfl
end Go.Proofs.YtpenjbpcebfecaaGreatDoor

/- The model's steps of a node: what is heard, the tail, the body. -/

set_option linter.unusedVariables false
set_option linter.unusedSimpArgs false
set_option maxRecDepth 20000
namespace Go.Proofs.YtpenjbpcebfecaaGreatDoor
open Go.RowKit


/-- What a step of the model answers: it stands wherever what has been made since stands, and the argument. -/
def SampY (n : Nd) (p : NdP) (r : Nd × Int × Frm) (w : World) (e : Ending) (w' : World) : Prop :=
  ∃ (p' : NdP) (ad : Option Addr) (cd : Nat), e = .returned (.tuple #[ndV r.1 p', hpV r.2.1 r.2.2 ad cd]) ∧ (∀ u, Up w.heap.size w' u → NdM n p u → NdM r.1 p' u ∧ Nums ad r.2.2.D u) ∧ Below w.heap.size w w'

set_option maxHeartbeats 16000000 in
/-- spec.l12Heard. -/
theorem specHeard (n : Nd) (p : NdP) (w : World) (hm : NdM n p w) (h9 : n.pos = 9) (h32 : n.fifo.length ≤ 32) (hs8 : ∀ j, j < n.fifo.length → (nthF n.fifo j).D.length ≤ 1048576) :
    Calls Tryz.prog 172 #[ndV n p] w (SampY n p (heardN n) w) := by
  replace h9 := Lib.hid h9
  generalize hca : gwA n.cs n.cg = ca at *
  generalize hcb : gwB n.cs n.cg = cb at *
  replace hca := Lib.hid hca
  replace hcb := Lib.hid hcb
  have X := N3.made (ndC n p) w
  go_enter Tryz.func172, Tryz.ntmps172
  go_upto_region 1 with fail
  generalize World.alloc _ _ = W at X ⊢
  generalize w.heap.size + 1 + 1 = gh at X ⊢
  generalize w.heap.size + 1 = gr at X ⊢
  generalize w.heap.size = g at X ⊢
  have c13 : W.cell? ⟨g, 13, none⟩ = some (.int .i64 n.cs) := X.cell 13
  have c14 : W.cell? ⟨g, 14, none⟩ = some (.int .i64 n.cg) := X.cell 14
  go_wp2_with fail
  refine (specGotWell _ _ _).mono ?_
  rintro e w2 ⟨rfl, b⟩
  rw [hca.out, hcb.out]
  replace X := X.below b
  clear b c13 c14
  have c13 : w2.cell? ⟨g, 13, none⟩ = some (.int .i64 n.cs) := X.cell 13
  have c14 : w2.cell? ⟨g, 14, none⟩ = some (.int .i64 n.cg) := X.cell 14
  have f13 := X.free 13
  have f14 := X.free 14
  go_upto_region 2 with fail
  clear c13 c14 f13 f14
  replace X : N3 g gr gh (ndC ({ n with cs := ca, cg := cb }) p) w _ := ((X.set 13 (.int .i64 ca)).set 14 (.int .i64 cb))
  generalize World.setCell _ _ _ = W3 at X ⊢
  have c8 : W3.cell? ⟨g, 8, none⟩ = some (.string n.got) := X.cell 8
  have hB := X.lt
  have hs3 := X.bel.size
  go_wp2_with fail
  refine (specRead n.got _ hm.size).mono ?_
  rintro e w4 ⟨v, rfl, O, b⟩
  obtain ⟨av, cv, rfl, -⟩ := O.nums
  replace X := X.below b
  clear b c8
  have hgf : w4.heap.size ≠ g ∧ w4.heap.size ≠ gr ∧ w4.heap.size ≠ gh := by have := X.lt; omega
  have BF := Bx.made w4 (.int .i64 (rdId n.got)) (.bool (rdRm n.got)) (.int .i64 (rdLn n.got)) (.slice av (rdD n.got).length cv)
  have bb := below_more (Below.refl w4.heap.size w4) (.cells #[.int .i64 (rdId n.got), .bool (rdRm n.got), .int .i64 (rdLn n.got), .slice av (rdD n.got).length cv] 26)
  replace X := X.below bb
  replace O := O.below' bb
  clear bb
  go_upto_region 3 with fail
  generalize w4.alloc _ = W6 at X BF O ⊢
  generalize w4.heap.size = gf at hgf BF ⊢
  have d0 := BF.c0
  have c17 : W6.cell? ⟨g, 17, none⟩ = some (.slice p.al n.flt.length p.cl) := X.cell 17
  go_wp2_with fail
  refine (specPasses p.al n.flt p.cl (rdId n.got) _ (hm.below X.bel).flt).mono ?_
  rintro e w7 ⟨rfl, b⟩
  replace X := X.below b
  replace BF := BF.below b
  replace O := O.below' b
  clear b c17 d0
  cases hp : passV n.flt (rdId n.got)
  · have e : heardN n = ({ n with cs := ca, cg := cb }, 0, zF) := by unfold heardN; rw [if_neg (by rw [show (rdF n.got).id = rdId n.got from rfl, hp]; decide), hca.out, hcb.out, ← h9.out]
    replace e := Lib.hid e
    clear hp
    go_upto_region 4 with fail
    refine wp_region_held (S := fun u => Nx g ({ n with cs := ca, cg := cb }) (p) w u) (by kernel_rfl) ?_
    replace X := X.drew'
    generalize ({ w7 with drawn := w7.drawn + 1 } : World) = V at X ⊢
    refine take_at 0 _ (ndV ({ n with cs := ca, cg := cb }) (p)) rfl rfl (by kernel_rfl) (by kernel_rfl) (by kernel_rfl) (fun _ _ _ h => h) (.inl ⟨rfl, fun u hu => hu.took rfl rfl⟩) X.nx ?_
    simp only [Act.put, List.setIfInBounds_toArray, List.set_cons_zero, List.set_cons_succ]
    refine call_at 1 _ 113 #[.int .i64 0] rfl rfl (by kernel_rfl) rfl (by go_simp) ?_
    refine (specHappen 0 _).mono ?_
    rintro e wh ⟨rfl, b⟩
    replace X := X.below b
    clear b
    refine ⟨_, rfl, X.nx, ?_⟩
    simp only [Act.put, List.setIfInBounds_toArray, List.set_cons_zero, List.set_cons_succ]
    refine held_row 2 gr (ndC ({ n with cs := ca, cg := cb }) (p)) rfl (by kernel_rfl) rfl rfl rfl rfl rfl X.res (by kernel_rfl) rfl (ndC_one _ _) (X.nxR _) ?_
    refine held_row 3 gh (hpC 0 zF none 0) rfl (by kernel_rfl) rfl rfl rfl rfl rfl (X.fin _ #[]).1 (by kernel_rfl) rfl (hpC_one _ _ _ _) (X.nxH _ _) ?_
    refine wpAnyH_done (by kernel_rfl) ?_ _
    obtain ⟨-, Z1, Z2, Z3⟩ := X.fin (ndC ({ n with cs := ca, cg := cb }) (p)) (hpC 0 zF none 0)
    go_wp2_with fail
    refine bodyPost_ret (v := .tuple #[ndV ({ n with cs := ca, cg := cb }) (p), hpV 0 zF none 0]) ?_ rfl ⟨p, none, 0, by rw [e.out], by rw [e.out]; exact fun u k kn => ⟨kn.lists rfl rfl rfl rfl hm.size, Nums.nil _⟩, Z3⟩
    exact results_both Tryz.results172 _ _ gr gh _ _ rfl rfl Z1 Z2 rfl rfl
  · have c16 : w7.cell? ⟨g, 16, none⟩ = some (.slice p.af n.fifo.length p.cf) := X.cell 16
    obtain ⟨d0, d1, d2, d3⟩ : _ ∧ _ ∧ _ ∧ _ := ⟨BF.c0, BF.c1, BF.c2, BF.c3⟩
    replace hp := Lib.hid hp
    have hB7 := X.lt
    have hs7 := X.bel.size
    go_wp2_with fail
    refine (specPushedIn p.af n.fifo p.cf (rdId n.got) (rdRm n.got) (rdLn n.got) av (rdD n.got) cv _ (hm.below X.bel).fifo O.nums2 (by omega) hs8).mono ?_
    intro e w8 h8
    obtain ⟨M, a6, c6, he, hM, O6, b⟩ := h8
    replace X := X.below b
    replace BF := BF.below b
    replace O := O.below' b
    clear b c16 d0 d1 d2 d3
    obtain ⟨pf, pk, hq⟩ : ∃ pf pk, pushV n.fifo ⟨rdId n.got, rdRm n.got, rdLn n.got, rdD n.got⟩ = (pf, pk) := ⟨_, _, rfl⟩
    rw [hq] at he hM O6
    dsimp only at he hM O6
    subst he
    have hpl : pf.length ≤ 2000000 := by have := pushV_more n.fifo ⟨rdId n.got, rdRm n.got, rdLn n.got, rdD n.got⟩; rw [hq] at this; dsimp only at this; omega
    have c16 : w8.cell? ⟨g, 16, none⟩ = some (.slice p.af n.fifo.length p.cf) := X.cell 16
    have f16 := X.free 16
    go_upto_region 7 with fail
    clear c16 f16
    replace BF := BF.cellSet (j := 16) (.slice (some ⟨a6, 0, none⟩) pf.length c6) hgf.1
    replace O := O.kept2 (grown_at_cell w8 g 16 (.slice (some ⟨a6, 0, none⟩) pf.length c6)) hB.1
    replace O6 := O6.kept2 (grown_at_cell w8 g 16 (.slice (some ⟨a6, 0, none⟩) pf.length c6)) hB7.1
    replace X : N3 g gr gh (ndC { n with cs := ca, cg := cb, fifo := pf } { p with af := some ⟨a6, 0, none⟩, cf := c6 }) w _ := X.set 16 (.slice (some ⟨a6, 0, none⟩) pf.length c6)
    generalize World.setCell _ _ _ = W9 at X BF O O6 ⊢
    have hdr : Below W9.heap.size W9 ({ W9 with drawn := W9.drawn + 1 } : World) := (Below.refl _ _).drew
    replace O := O.below' hdr
    replace O6 := O6.below hdr
    clear hdr
    cases pk
    · have e : heardN n = ({ n with cs := ca, cg := cb, fifo := pf }, 3, rdF n.got) := by unfold heardN; rw [if_pos (by rw [show (rdF n.got).id = rdId n.got from rfl, hp.out]), hca.out, hcb.out, show pushV n.fifo (rdF n.got) = (pf, false) from hq, ← h9.out]; rfl
      replace e := Lib.hid e
      go_upto_region 8 with fail
      refine wp_region_held (S := fun u => Nx g ({ n with cs := ca, cg := cb, fifo := pf }) ({ p with af := some ⟨a6, 0, none⟩, cf := c6 }) w u ∧ Bx gf (.int .i64 (rdF n.got).id) (.bool (rdF n.got).rm) (.int .i64 (rdF n.got).ln) (.slice av (rdF n.got).D.length cv) u) (by kernel_rfl) ?_
      replace X := X.drew'
      replace BF : Bx gf (.int .i64 (rdF n.got).id) (.bool (rdF n.got).rm) (.int .i64 (rdF n.got).ln) (.slice av (rdF n.got).D.length cv) { W9 with drawn := W9.drawn + 1 } := BF
      generalize ({ W9 with drawn := W9.drawn + 1 } : World) = W at *
      refine take_at 0 _ (ndV ({ n with cs := ca, cg := cb, fifo := pf }) ({ p with af := some ⟨a6, 0, none⟩, cf := c6 })) rfl rfl (by kernel_rfl) (by kernel_rfl) (by kernel_rfl) (fun _ _ _ h => h) (.inl ⟨rfl, fun u hu => hu.1.took rfl rfl⟩) ⟨X.nx, BF⟩ ?_
      refine take_at 1 _ (.agg #[.int .i64 (rdF n.got).id, .bool (rdF n.got).rm, .int .i64 (rdF n.got).ln, .slice av (rdF n.got).D.length cv]) rfl rfl (by kernel_rfl) (by kernel_rfl) (by kernel_rfl) (fun _ _ _ h => h) (.inl ⟨rfl, fun u hu => hu.2.took rfl rfl⟩) ⟨X.nx, BF⟩ ?_
      simp only [Act.put, List.setIfInBounds_toArray, List.set_cons_zero, List.set_cons_succ]
      refine take_at 2 _ (hpV 3 (rdF n.got) av cv) rfl rfl (by kernel_rfl) (by kernel_rfl) (by kernel_rfl) (fun _ _ _ h => h) (.inl ⟨rfl, fun u hu => by go_simp⟩) ⟨X.nx, BF⟩ ?_
      simp only [Act.put, List.setIfInBounds_toArray, List.set_cons_zero, List.set_cons_succ]
      refine held_row 3 gr (ndC ({ n with cs := ca, cg := cb, fifo := pf }) ({ p with af := some ⟨a6, 0, none⟩, cf := c6 })) rfl (by kernel_rfl) rfl rfl rfl rfl rfl X.res (by kernel_rfl) rfl (ndC_one _ _) ⟨X.nxR _, BF.row _ hgf.2.1⟩ ?_
      refine held_row 4 gh (hpC 3 (rdF n.got) av cv) rfl (by kernel_rfl) rfl rfl rfl rfl rfl (X.fin _ #[]).1 (by kernel_rfl) rfl (hpC_one _ _ _ _) ⟨X.nxH _ _, (BF.row _ hgf.2.1).row _ hgf.2.2⟩ ?_
      refine wpAnyH_done (by kernel_rfl) ?_ _
      obtain ⟨-, Z1, Z2, Z3⟩ := X.fin (ndC ({ n with cs := ca, cg := cb, fifo := pf }) ({ p with af := some ⟨a6, 0, none⟩, cf := c6 })) (hpC 3 (rdF n.got) av cv)
      go_wp2_with fail
      refine bodyPost_ret (v := .tuple #[ndV ({ n with cs := ca, cg := cb, fifo := pf }) ({ p with af := some ⟨a6, 0, none⟩, cf := c6 }), hpV 3 (rdF n.got) av cv]) ?_ rfl ⟨{ p with af := some ⟨a6, 0, none⟩, cf := c6 }, av, cv, by rw [e.out], by rw [e.out]; exact fun u k kn => ⟨⟨kn.nums, kn.box, (((O6.kept2 (grown_row _ gr _) hB7.2.1).kept2 (grown_row _ gh _) hB7.2.2).up k hs7).frsOf hM hpl, kn.flt, hm.size⟩, (((O.kept2 (grown_row _ gr _) hB.2.1).kept2 (grown_row _ gh _) hB.2.2).up k hs3).nums2⟩, Z3⟩
      exact results_both Tryz.results172 _ _ gr gh _ _ rfl rfl Z1 Z2 rfl rfl
    · have e : heardN n = ({ n with cs := ca, cg := cb, fifo := pf }, 2, rdF n.got) := by unfold heardN; rw [if_pos (by rw [show (rdF n.got).id = rdId n.got from rfl, hp.out]), hca.out, hcb.out, show pushV n.fifo (rdF n.got) = (pf, true) from hq, ← h9.out]; rfl
      replace e := Lib.hid e
      go_upto_region 9 with fail
      refine wp_region_held (S := fun u => Nx g ({ n with cs := ca, cg := cb, fifo := pf }) ({ p with af := some ⟨a6, 0, none⟩, cf := c6 }) w u ∧ Bx gf (.int .i64 (rdF n.got).id) (.bool (rdF n.got).rm) (.int .i64 (rdF n.got).ln) (.slice av (rdF n.got).D.length cv) u) (by kernel_rfl) ?_
      replace X := X.drew'
      replace BF : Bx gf (.int .i64 (rdF n.got).id) (.bool (rdF n.got).rm) (.int .i64 (rdF n.got).ln) (.slice av (rdF n.got).D.length cv) { W9 with drawn := W9.drawn + 1 } := BF
      generalize ({ W9 with drawn := W9.drawn + 1 } : World) = W at *
      refine take_at 0 _ (ndV ({ n with cs := ca, cg := cb, fifo := pf }) ({ p with af := some ⟨a6, 0, none⟩, cf := c6 })) rfl rfl (by kernel_rfl) (by kernel_rfl) (by kernel_rfl) (fun _ _ _ h => h) (.inl ⟨rfl, fun u hu => hu.1.took rfl rfl⟩) ⟨X.nx, BF⟩ ?_
      refine take_at 1 _ (.agg #[.int .i64 (rdF n.got).id, .bool (rdF n.got).rm, .int .i64 (rdF n.got).ln, .slice av (rdF n.got).D.length cv]) rfl rfl (by kernel_rfl) (by kernel_rfl) (by kernel_rfl) (fun _ _ _ h => h) (.inl ⟨rfl, fun u hu => hu.2.took rfl rfl⟩) ⟨X.nx, BF⟩ ?_
      simp only [Act.put, List.setIfInBounds_toArray, List.set_cons_zero, List.set_cons_succ]
      refine take_at 2 _ (hpV 2 (rdF n.got) av cv) rfl rfl (by kernel_rfl) (by kernel_rfl) (by kernel_rfl) (fun _ _ _ h => h) (.inl ⟨rfl, fun u hu => by go_simp⟩) ⟨X.nx, BF⟩ ?_
      simp only [Act.put, List.setIfInBounds_toArray, List.set_cons_zero, List.set_cons_succ]
      refine held_row 3 gr (ndC ({ n with cs := ca, cg := cb, fifo := pf }) ({ p with af := some ⟨a6, 0, none⟩, cf := c6 })) rfl (by kernel_rfl) rfl rfl rfl rfl rfl X.res (by kernel_rfl) rfl (ndC_one _ _) ⟨X.nxR _, BF.row _ hgf.2.1⟩ ?_
      refine held_row 4 gh (hpC 2 (rdF n.got) av cv) rfl (by kernel_rfl) rfl rfl rfl rfl rfl (X.fin _ #[]).1 (by kernel_rfl) rfl (hpC_one _ _ _ _) ⟨X.nxH _ _, (BF.row _ hgf.2.1).row _ hgf.2.2⟩ ?_
      refine wpAnyH_done (by kernel_rfl) ?_ _
      obtain ⟨-, Z1, Z2, Z3⟩ := X.fin (ndC ({ n with cs := ca, cg := cb, fifo := pf }) ({ p with af := some ⟨a6, 0, none⟩, cf := c6 })) (hpC 2 (rdF n.got) av cv)
      go_wp2_with fail
      refine bodyPost_ret (v := .tuple #[ndV ({ n with cs := ca, cg := cb, fifo := pf }) ({ p with af := some ⟨a6, 0, none⟩, cf := c6 }), hpV 2 (rdF n.got) av cv]) ?_ rfl ⟨{ p with af := some ⟨a6, 0, none⟩, cf := c6 }, av, cv, by rw [e.out], by rw [e.out]; exact fun u k kn => ⟨⟨kn.nums, kn.box, (((O6.kept2 (grown_row _ gr _) hB7.2.1).kept2 (grown_row _ gh _) hB7.2.2).up k hs7).frsOf hM hpl, kn.flt, hm.size⟩, (((O.kept2 (grown_row _ gr _) hB.2.1).kept2 (grown_row _ gh _) hB.2.2).up k hs3).nums2⟩, Z3⟩
      exact results_both Tryz.results172 _ _ gr gh _ _ rfl rfl Z1 Z2 rfl rfl
end Go.Proofs.YtpenjbpcebfecaaGreatDoor

/- The model's steps of a node: the tail. -/

set_option linter.unusedVariables false
set_option linter.unusedSimpArgs false
set_option maxRecDepth 20000
namespace Go.Proofs.YtpenjbpcebfecaaGreatDoor
open Go.RowKit


set_option maxHeartbeats 8000000 in
/-- spec.l12Tail, where it breaks off. -/
theorem specTailB0 (n : Nd) (p : NdP) (w : World) (hq : n.pos = 1) (htx : n.tx = true) :
    Calls Tryz.prog 116 #[ndV n p, .int .i64 1] w (Told (brkN n).1 (brkN n).2.1 p w) := by
  have d1 : (n.pos == 1) = true := beq_iff_eq.2 hq
  have d2 : (n.pos == 2) = false := beq_eq_false_iff_ne.2 (by omega)
  have d9 : (n.pos == 9) = false := beq_eq_false_iff_ne.2 (by omega)
  replace htx := Lib.hid htx
  replace hq := Lib.hid hq
  have X := N3.made (ndC n p) w
  go_enter Tryz.func116, Tryz.ntmps116
  go_upto_region 1 with fail
  generalize World.alloc _ _ = W at X ⊢
  generalize w.heap.size + 1 + 1 = gh at X ⊢
  generalize w.heap.size + 1 = gr at X ⊢
  generalize w.heap.size = g at X ⊢
  have c1 : W.cell? ⟨g, 1, none⟩ = some (.bool n.tx) := X.cell 1
  have c3 : W.cell? ⟨g, 3, none⟩ = some (.bool n.bad) := X.cell 3
  have c11 : W.cell? ⟨g, 11, none⟩ = some (.int .i64 n.pos) := X.cell 11
  have f11 := X.free 11
  rw [htx.out] at c1
  go_wp2_with (refine Nx.take ⟨X.blk, X.bel⟩ rfl rfl rfl ?_)
  clear c1 c3 c11 f11
  refine (specBreak n p _).mono ?_
  rintro e w2 ⟨rfl, b⟩
  replace X := X.below b
  clear b
  go_wp2_with (first | (refine Nx.take ⟨X.blk, X.bel⟩ rfl rfl rfl ?_) | (refine wpList_put X.res rfl rfl rfl rfl rfl ?_) | (refine wpList_tell (k := (brkN n).2.1) (f := zF) (ad := none) (cd := 0) (X.fin (ndC ((brkN n).1) p) #[]).1 rfl rfl rfl rfl rfl ?_))
  obtain ⟨-, Z1, Z2, Z3⟩ := X.fin (ndC ((brkN n).1) p) (hpC ((brkN n).2.1) (zF) (none) (0))
  refine bodyPost_ret (v := .tuple #[ndV ((brkN n).1) p, hpV ((brkN n).2.1) (zF) (none) (0)]) ?_ rfl ⟨rfl, Z3⟩
  exact results_both Tryz.results116 _ _ gr gh _ _ rfl rfl Z1 Z2 rfl rfl

set_option maxHeartbeats 8000000 in
/-- spec.l12Tail, where it breaks off. -/
theorem specTailB1 (n : Nd) (p : NdP) (w : World) (hq : n.pos = 2) :
    Calls Tryz.prog 116 #[ndV n p, .int .i64 0] w (Told (brkN n).1 (brkN n).2.1 p w) := by
  have d1 : (n.pos == 1) = false := beq_eq_false_iff_ne.2 (by omega)
  have d2 : (n.pos == 2) = true := beq_iff_eq.2 hq
  have d9 : (n.pos == 9) = false := beq_eq_false_iff_ne.2 (by omega)
  replace hq := Lib.hid hq
  have X := N3.made (ndC n p) w
  go_enter Tryz.func116, Tryz.ntmps116
  go_upto_region 1 with fail
  generalize World.alloc _ _ = W at X ⊢
  generalize w.heap.size + 1 + 1 = gh at X ⊢
  generalize w.heap.size + 1 = gr at X ⊢
  generalize w.heap.size = g at X ⊢
  have c1 : W.cell? ⟨g, 1, none⟩ = some (.bool n.tx) := X.cell 1
  have c3 : W.cell? ⟨g, 3, none⟩ = some (.bool n.bad) := X.cell 3
  have c11 : W.cell? ⟨g, 11, none⟩ = some (.int .i64 n.pos) := X.cell 11
  have f11 := X.free 11
  go_wp2_with (refine Nx.take ⟨X.blk, X.bel⟩ rfl rfl rfl ?_)
  clear c1 c3 c11 f11
  refine (specBreak n p _).mono ?_
  rintro e w2 ⟨rfl, b⟩
  replace X := X.below b
  clear b
  go_wp2_with (first | (refine Nx.take ⟨X.blk, X.bel⟩ rfl rfl rfl ?_) | (refine wpList_put X.res rfl rfl rfl rfl rfl ?_) | (refine wpList_tell (k := (brkN n).2.1) (f := zF) (ad := none) (cd := 0) (X.fin (ndC ((brkN n).1) p) #[]).1 rfl rfl rfl rfl rfl ?_))
  obtain ⟨-, Z1, Z2, Z3⟩ := X.fin (ndC ((brkN n).1) p) (hpC ((brkN n).2.1) (zF) (none) (0))
  refine bodyPost_ret (v := .tuple #[ndV ((brkN n).1) p, hpV ((brkN n).2.1) (zF) (none) (0)]) ?_ rfl ⟨rfl, Z3⟩
  exact results_both Tryz.results116 _ _ gr gh _ _ rfl rfl Z1 Z2 rfl rfl

set_option maxHeartbeats 8000000 in
/-- spec.l12Tail, where it breaks off. -/
theorem specTailB2 (n : Nd) (p : NdP) (w : World) (hq : n.pos = 2) (hbd : n.bad = true) :
    Calls Tryz.prog 116 #[ndV n p, .int .i64 1] w (Told (brkN n).1 (brkN n).2.1 p w) := by
  have d1 : (n.pos == 1) = false := beq_eq_false_iff_ne.2 (by omega)
  have d2 : (n.pos == 2) = true := beq_iff_eq.2 hq
  have d9 : (n.pos == 9) = false := beq_eq_false_iff_ne.2 (by omega)
  replace hbd := Lib.hid hbd
  replace hq := Lib.hid hq
  have X := N3.made (ndC n p) w
  go_enter Tryz.func116, Tryz.ntmps116
  go_upto_region 1 with fail
  generalize World.alloc _ _ = W at X ⊢
  generalize w.heap.size + 1 + 1 = gh at X ⊢
  generalize w.heap.size + 1 = gr at X ⊢
  generalize w.heap.size = g at X ⊢
  have c1 : W.cell? ⟨g, 1, none⟩ = some (.bool n.tx) := X.cell 1
  have c3 : W.cell? ⟨g, 3, none⟩ = some (.bool n.bad) := X.cell 3
  have c11 : W.cell? ⟨g, 11, none⟩ = some (.int .i64 n.pos) := X.cell 11
  have f11 := X.free 11
  rw [hbd.out] at c3
  go_wp2_with (refine Nx.take ⟨X.blk, X.bel⟩ rfl rfl rfl ?_)
  clear c1 c3 c11 f11
  refine (specBreak n p _).mono ?_
  rintro e w2 ⟨rfl, b⟩
  replace X := X.below b
  clear b
  go_wp2_with (first | (refine Nx.take ⟨X.blk, X.bel⟩ rfl rfl rfl ?_) | (refine wpList_put X.res rfl rfl rfl rfl rfl ?_) | (refine wpList_tell (k := (brkN n).2.1) (f := zF) (ad := none) (cd := 0) (X.fin (ndC ((brkN n).1) p) #[]).1 rfl rfl rfl rfl rfl ?_))
  obtain ⟨-, Z1, Z2, Z3⟩ := X.fin (ndC ((brkN n).1) p) (hpC ((brkN n).2.1) (zF) (none) (0))
  refine bodyPost_ret (v := .tuple #[ndV ((brkN n).1) p, hpV ((brkN n).2.1) (zF) (none) (0)]) ?_ rfl ⟨rfl, Z3⟩
  exact results_both Tryz.results116 _ _ gr gh _ _ rfl rfl Z1 Z2 rfl rfl

set_option maxHeartbeats 8000000 in
/-- spec.l12Tail, where it breaks off. -/
theorem specTailB3 (n : Nd) (p : NdP) (w : World) (hq : n.pos = 9) (htx : n.tx = true) :
    Calls Tryz.prog 116 #[ndV n p, .int .i64 0] w (Told (brkN n).1 (brkN n).2.1 p w) := by
  have d1 : (n.pos == 1) = false := beq_eq_false_iff_ne.2 (by omega)
  have d2 : (n.pos == 2) = false := beq_eq_false_iff_ne.2 (by omega)
  have d9 : (n.pos == 9) = true := beq_iff_eq.2 hq
  replace htx := Lib.hid htx
  replace hq := Lib.hid hq
  have X := N3.made (ndC n p) w
  go_enter Tryz.func116, Tryz.ntmps116
  go_upto_region 1 with fail
  generalize World.alloc _ _ = W at X ⊢
  generalize w.heap.size + 1 + 1 = gh at X ⊢
  generalize w.heap.size + 1 = gr at X ⊢
  generalize w.heap.size = g at X ⊢
  have c1 : W.cell? ⟨g, 1, none⟩ = some (.bool n.tx) := X.cell 1
  have c3 : W.cell? ⟨g, 3, none⟩ = some (.bool n.bad) := X.cell 3
  have c11 : W.cell? ⟨g, 11, none⟩ = some (.int .i64 n.pos) := X.cell 11
  have f11 := X.free 11
  rw [htx.out] at c1
  go_wp2_with (refine Nx.take ⟨X.blk, X.bel⟩ rfl rfl rfl ?_)
  clear c1 c3 c11 f11
  refine (specBreak n p _).mono ?_
  rintro e w2 ⟨rfl, b⟩
  replace X := X.below b
  clear b
  go_wp2_with (first | (refine Nx.take ⟨X.blk, X.bel⟩ rfl rfl rfl ?_) | (refine wpList_put X.res rfl rfl rfl rfl rfl ?_) | (refine wpList_tell (k := (brkN n).2.1) (f := zF) (ad := none) (cd := 0) (X.fin (ndC ((brkN n).1) p) #[]).1 rfl rfl rfl rfl rfl ?_))
  obtain ⟨-, Z1, Z2, Z3⟩ := X.fin (ndC ((brkN n).1) p) (hpC ((brkN n).2.1) (zF) (none) (0))
  refine bodyPost_ret (v := .tuple #[ndV ((brkN n).1) p, hpV ((brkN n).2.1) (zF) (none) (0)]) ?_ rfl ⟨rfl, Z3⟩
  exact results_both Tryz.results116 _ _ gr gh _ _ rfl rfl Z1 Z2 rfl rfl

set_option maxHeartbeats 8000000 in
/-- spec.l12Tail, where it breaks off. -/
theorem specTailB4 (n : Nd) (p : NdP) (w : World) (hq : (0 ≤ n.pos ∧ n.pos ≤ 9) ∧ n.pos ≠ 1 ∧ n.pos ≠ 2 ∧ n.pos ≠ 9) :
    Calls Tryz.prog 116 #[ndV n p, .int .i64 0] w (Told (brkN n).1 (brkN n).2.1 p w) := by
  have d1 : (n.pos == 1) = false := beq_eq_false_iff_ne.2 (by omega)
  have d2 : (n.pos == 2) = false := beq_eq_false_iff_ne.2 (by omega)
  have d9 : (n.pos == 9) = false := beq_eq_false_iff_ne.2 (by omega)
  replace hq := Lib.hid hq
  have X := N3.made (ndC n p) w
  go_enter Tryz.func116, Tryz.ntmps116
  go_upto_region 1 with fail
  generalize World.alloc _ _ = W at X ⊢
  generalize w.heap.size + 1 + 1 = gh at X ⊢
  generalize w.heap.size + 1 = gr at X ⊢
  generalize w.heap.size = g at X ⊢
  have c1 : W.cell? ⟨g, 1, none⟩ = some (.bool n.tx) := X.cell 1
  have c3 : W.cell? ⟨g, 3, none⟩ = some (.bool n.bad) := X.cell 3
  have c11 : W.cell? ⟨g, 11, none⟩ = some (.int .i64 n.pos) := X.cell 11
  have f11 := X.free 11
  go_wp2_with (refine Nx.take ⟨X.blk, X.bel⟩ rfl rfl rfl ?_)
  clear c1 c3 c11 f11
  refine (specBreak n p _).mono ?_
  rintro e w2 ⟨rfl, b⟩
  replace X := X.below b
  clear b
  go_wp2_with (first | (refine Nx.take ⟨X.blk, X.bel⟩ rfl rfl rfl ?_) | (refine wpList_put X.res rfl rfl rfl rfl rfl ?_) | (refine wpList_tell (k := (brkN n).2.1) (f := zF) (ad := none) (cd := 0) (X.fin (ndC ((brkN n).1) p) #[]).1 rfl rfl rfl rfl rfl ?_))
  obtain ⟨-, Z1, Z2, Z3⟩ := X.fin (ndC ((brkN n).1) p) (hpC ((brkN n).2.1) (zF) (none) (0))
  refine bodyPost_ret (v := .tuple #[ndV ((brkN n).1) p, hpV ((brkN n).2.1) (zF) (none) (0)]) ?_ rfl ⟨rfl, Z3⟩
  exact results_both Tryz.results116 _ _ gr gh _ _ rfl rfl Z1 Z2 rfl rfl

set_option maxHeartbeats 8000000 in
/-- spec.l12Tail, one bit on. -/
theorem specTailO0 (n : Nd) (p : NdP) (l : Int) (w : World) (hm : NdM n p w) (hq : n.pos = 1) (htx : n.tx = false) (hl : l = 0 ∨ l = 1) :
    Calls Tryz.prog 116 #[ndV n p, .int .i64 l] w (SampY n p ({ n with pos := n.pos + 1 }, 0, zF) w) := by
  have hpw : IntKind.i64.wrap (n.pos + 1) = n.pos + 1 := IntWalk.i64_in _ (by omega)
  have dlt : decide (n.pos < 9) = true := decide_eq_true (by omega)
  have e9 : (n.pos + 1 == 9) = false := beq_eq_false_iff_ne.2 (by omega)
  have d1 : (n.pos == 1) = true := beq_iff_eq.2 hq
  have d2 : (n.pos == 2) = false := beq_eq_false_iff_ne.2 (by omega)
  have d9 : (n.pos == 9) = false := beq_eq_false_iff_ne.2 (by omega)
  replace htx := Lib.hid htx
  replace hq := Lib.hid hq
  have X := N3.made (ndC n p) w
  go_enter Tryz.func116, Tryz.ntmps116
  go_upto_region 1 with fail
  generalize World.alloc _ _ = W at X ⊢
  generalize w.heap.size + 1 + 1 = gh at X ⊢
  generalize w.heap.size + 1 = gr at X ⊢
  generalize w.heap.size = g at X ⊢
  have c1 : W.cell? ⟨g, 1, none⟩ = some (.bool n.tx) := X.cell 1
  have c3 : W.cell? ⟨g, 3, none⟩ = some (.bool n.bad) := X.cell 3
  have c11 : W.cell? ⟨g, 11, none⟩ = some (.int .i64 n.pos) := X.cell 11
  have f11 := X.free 11
  rw [htx.out] at c1
  go_upto_region 13 with fail
  clear c1 c3 c11 f11
  replace X : N3 g gr gh (ndC ({ n with pos := n.pos + 1 }) p) w _ := (X.set 11 (.int .i64 (n.pos + 1)))
  generalize World.setCell _ _ _ = W1 at X ⊢
  have c11 : W1.cell? ⟨g, 11, none⟩ = some (.int .i64 (n.pos + 1)) := X.cell 11
  have c1 : W1.cell? ⟨g, 1, none⟩ = some (.bool n.tx) := X.cell 1
  go_upto_region 15 with fail
  clear c11 c1
  refine wp_region_held (S := fun u => Nx g ({ n with pos := n.pos + 1 }) (p) w u) (by kernel_rfl) ?_
  replace X := X.drew'
  generalize ({ W1 with drawn := W1.drawn + 1 } : World) = V at X ⊢
  refine take_at 0 _ (ndV ({ n with pos := n.pos + 1 }) (p)) rfl rfl (by kernel_rfl) (by kernel_rfl) (by kernel_rfl) (fun _ _ _ h => h) (.inl ⟨rfl, fun u hu => hu.took rfl rfl⟩) X.nx ?_
  simp only [Act.put, List.setIfInBounds_toArray, List.set_cons_zero, List.set_cons_succ]
  refine call_at 1 _ 113 #[.int .i64 0] rfl rfl (by kernel_rfl) rfl (by go_simp) ?_
  refine (specHappen 0 _).mono ?_
  rintro e wh ⟨rfl, b⟩
  replace X := X.below b
  clear b
  refine ⟨_, rfl, X.nx, ?_⟩
  simp only [Act.put, List.setIfInBounds_toArray, List.set_cons_zero, List.set_cons_succ]
  refine held_row 2 gr (ndC ({ n with pos := n.pos + 1 }) (p)) rfl (by kernel_rfl) rfl rfl rfl rfl rfl X.res (by kernel_rfl) rfl (ndC_one _ _) (X.nxR _) ?_
  refine held_row 3 gh (hpC 0 zF none 0) rfl (by kernel_rfl) rfl rfl rfl rfl rfl (X.fin _ #[]).1 (by kernel_rfl) rfl (hpC_one _ _ _ _) (X.nxH _ _) ?_
  refine wpAnyH_done (by kernel_rfl) ?_ _
  obtain ⟨-, Z1, Z2, Z3⟩ := X.fin (ndC ({ n with pos := n.pos + 1 }) (p)) (hpC 0 zF none 0)
  go_wp2_with fail
  refine bodyPost_ret (v := .tuple #[ndV ({ n with pos := n.pos + 1 }) (p), hpV 0 zF none 0]) ?_ rfl ⟨p, none, 0, rfl, fun u k kn => ⟨kn.lists rfl rfl rfl rfl hm.size, Nums.nil _⟩, Z3⟩
  exact results_both Tryz.results116 _ _ gr gh _ _ rfl rfl Z1 Z2 rfl rfl

set_option maxHeartbeats 8000000 in
/-- spec.l12Tail, one bit on. -/
theorem specTailO1 (n : Nd) (p : NdP) (w : World) (hm : NdM n p w) (hq : n.pos = 1) (htx : n.tx = true) :
    Calls Tryz.prog 116 #[ndV n p, .int .i64 0] w (SampY n p ({ n with pos := n.pos + 1 }, 0, zF) w) := by
  have hpw : IntKind.i64.wrap (n.pos + 1) = n.pos + 1 := IntWalk.i64_in _ (by omega)
  have dlt : decide (n.pos < 9) = true := decide_eq_true (by omega)
  have e9 : (n.pos + 1 == 9) = false := beq_eq_false_iff_ne.2 (by omega)
  have d1 : (n.pos == 1) = true := beq_iff_eq.2 hq
  have d2 : (n.pos == 2) = false := beq_eq_false_iff_ne.2 (by omega)
  have d9 : (n.pos == 9) = false := beq_eq_false_iff_ne.2 (by omega)
  replace htx := Lib.hid htx
  replace hq := Lib.hid hq
  have X := N3.made (ndC n p) w
  go_enter Tryz.func116, Tryz.ntmps116
  go_upto_region 1 with fail
  generalize World.alloc _ _ = W at X ⊢
  generalize w.heap.size + 1 + 1 = gh at X ⊢
  generalize w.heap.size + 1 = gr at X ⊢
  generalize w.heap.size = g at X ⊢
  have c1 : W.cell? ⟨g, 1, none⟩ = some (.bool n.tx) := X.cell 1
  have c3 : W.cell? ⟨g, 3, none⟩ = some (.bool n.bad) := X.cell 3
  have c11 : W.cell? ⟨g, 11, none⟩ = some (.int .i64 n.pos) := X.cell 11
  have f11 := X.free 11
  rw [htx.out] at c1
  go_upto_region 13 with fail
  clear c1 c3 c11 f11
  replace X : N3 g gr gh (ndC ({ n with pos := n.pos + 1 }) p) w _ := (X.set 11 (.int .i64 (n.pos + 1)))
  generalize World.setCell _ _ _ = W1 at X ⊢
  have c11 : W1.cell? ⟨g, 11, none⟩ = some (.int .i64 (n.pos + 1)) := X.cell 11
  have c1 : W1.cell? ⟨g, 1, none⟩ = some (.bool n.tx) := X.cell 1
  go_upto_region 15 with fail
  clear c11 c1
  refine wp_region_held (S := fun u => Nx g ({ n with pos := n.pos + 1 }) (p) w u) (by kernel_rfl) ?_
  replace X := X.drew'
  generalize ({ W1 with drawn := W1.drawn + 1 } : World) = V at X ⊢
  refine take_at 0 _ (ndV ({ n with pos := n.pos + 1 }) (p)) rfl rfl (by kernel_rfl) (by kernel_rfl) (by kernel_rfl) (fun _ _ _ h => h) (.inl ⟨rfl, fun u hu => hu.took rfl rfl⟩) X.nx ?_
  simp only [Act.put, List.setIfInBounds_toArray, List.set_cons_zero, List.set_cons_succ]
  refine call_at 1 _ 113 #[.int .i64 0] rfl rfl (by kernel_rfl) rfl (by go_simp) ?_
  refine (specHappen 0 _).mono ?_
  rintro e wh ⟨rfl, b⟩
  replace X := X.below b
  clear b
  refine ⟨_, rfl, X.nx, ?_⟩
  simp only [Act.put, List.setIfInBounds_toArray, List.set_cons_zero, List.set_cons_succ]
  refine held_row 2 gr (ndC ({ n with pos := n.pos + 1 }) (p)) rfl (by kernel_rfl) rfl rfl rfl rfl rfl X.res (by kernel_rfl) rfl (ndC_one _ _) (X.nxR _) ?_
  refine held_row 3 gh (hpC 0 zF none 0) rfl (by kernel_rfl) rfl rfl rfl rfl rfl (X.fin _ #[]).1 (by kernel_rfl) rfl (hpC_one _ _ _ _) (X.nxH _ _) ?_
  refine wpAnyH_done (by kernel_rfl) ?_ _
  obtain ⟨-, Z1, Z2, Z3⟩ := X.fin (ndC ({ n with pos := n.pos + 1 }) (p)) (hpC 0 zF none 0)
  go_wp2_with fail
  refine bodyPost_ret (v := .tuple #[ndV ({ n with pos := n.pos + 1 }) (p), hpV 0 zF none 0]) ?_ rfl ⟨p, none, 0, rfl, fun u k kn => ⟨kn.lists rfl rfl rfl rfl hm.size, Nums.nil _⟩, Z3⟩
  exact results_both Tryz.results116 _ _ gr gh _ _ rfl rfl Z1 Z2 rfl rfl

set_option maxHeartbeats 8000000 in
/-- spec.l12Tail, one bit on. -/
theorem specTailO2 (n : Nd) (p : NdP) (w : World) (hm : NdM n p w) (hq : n.pos = 2) (hbd : n.bad = false) :
    Calls Tryz.prog 116 #[ndV n p, .int .i64 1] w (SampY n p ({ n with pos := n.pos + 1 }, 0, zF) w) := by
  have hpw : IntKind.i64.wrap (n.pos + 1) = n.pos + 1 := IntWalk.i64_in _ (by omega)
  have dlt : decide (n.pos < 9) = true := decide_eq_true (by omega)
  have e9 : (n.pos + 1 == 9) = false := beq_eq_false_iff_ne.2 (by omega)
  have d1 : (n.pos == 1) = false := beq_eq_false_iff_ne.2 (by omega)
  have d2 : (n.pos == 2) = true := beq_iff_eq.2 hq
  have d9 : (n.pos == 9) = false := beq_eq_false_iff_ne.2 (by omega)
  replace hbd := Lib.hid hbd
  replace hq := Lib.hid hq
  have X := N3.made (ndC n p) w
  go_enter Tryz.func116, Tryz.ntmps116
  go_upto_region 1 with fail
  generalize World.alloc _ _ = W at X ⊢
  generalize w.heap.size + 1 + 1 = gh at X ⊢
  generalize w.heap.size + 1 = gr at X ⊢
  generalize w.heap.size = g at X ⊢
  have c1 : W.cell? ⟨g, 1, none⟩ = some (.bool n.tx) := X.cell 1
  have c3 : W.cell? ⟨g, 3, none⟩ = some (.bool n.bad) := X.cell 3
  have c11 : W.cell? ⟨g, 11, none⟩ = some (.int .i64 n.pos) := X.cell 11
  have f11 := X.free 11
  rw [hbd.out] at c3
  go_upto_region 13 with fail
  clear c1 c3 c11 f11
  replace X : N3 g gr gh (ndC ({ n with pos := n.pos + 1 }) p) w _ := (X.set 11 (.int .i64 (n.pos + 1)))
  generalize World.setCell _ _ _ = W1 at X ⊢
  have c11 : W1.cell? ⟨g, 11, none⟩ = some (.int .i64 (n.pos + 1)) := X.cell 11
  have c1 : W1.cell? ⟨g, 1, none⟩ = some (.bool n.tx) := X.cell 1
  go_upto_region 15 with fail
  clear c11 c1
  refine wp_region_held (S := fun u => Nx g ({ n with pos := n.pos + 1 }) (p) w u) (by kernel_rfl) ?_
  replace X := X.drew'
  generalize ({ W1 with drawn := W1.drawn + 1 } : World) = V at X ⊢
  refine take_at 0 _ (ndV ({ n with pos := n.pos + 1 }) (p)) rfl rfl (by kernel_rfl) (by kernel_rfl) (by kernel_rfl) (fun _ _ _ h => h) (.inl ⟨rfl, fun u hu => hu.took rfl rfl⟩) X.nx ?_
  simp only [Act.put, List.setIfInBounds_toArray, List.set_cons_zero, List.set_cons_succ]
  refine call_at 1 _ 113 #[.int .i64 0] rfl rfl (by kernel_rfl) rfl (by go_simp) ?_
  refine (specHappen 0 _).mono ?_
  rintro e wh ⟨rfl, b⟩
  replace X := X.below b
  clear b
  refine ⟨_, rfl, X.nx, ?_⟩
  simp only [Act.put, List.setIfInBounds_toArray, List.set_cons_zero, List.set_cons_succ]
  refine held_row 2 gr (ndC ({ n with pos := n.pos + 1 }) (p)) rfl (by kernel_rfl) rfl rfl rfl rfl rfl X.res (by kernel_rfl) rfl (ndC_one _ _) (X.nxR _) ?_
  refine held_row 3 gh (hpC 0 zF none 0) rfl (by kernel_rfl) rfl rfl rfl rfl rfl (X.fin _ #[]).1 (by kernel_rfl) rfl (hpC_one _ _ _ _) (X.nxH _ _) ?_
  refine wpAnyH_done (by kernel_rfl) ?_ _
  obtain ⟨-, Z1, Z2, Z3⟩ := X.fin (ndC ({ n with pos := n.pos + 1 }) (p)) (hpC 0 zF none 0)
  go_wp2_with fail
  refine bodyPost_ret (v := .tuple #[ndV ({ n with pos := n.pos + 1 }) (p), hpV 0 zF none 0]) ?_ rfl ⟨p, none, 0, rfl, fun u k kn => ⟨kn.lists rfl rfl rfl rfl hm.size, Nums.nil _⟩, Z3⟩
  exact results_both Tryz.results116 _ _ gr gh _ _ rfl rfl Z1 Z2 rfl rfl

set_option maxHeartbeats 8000000 in
/-- spec.l12Tail, one bit on. -/
theorem specTailO3 (n : Nd) (p : NdP) (w : World) (hm : NdM n p w) (hq : (0 ≤ n.pos ∧ n.pos < 8) ∧ n.pos ≠ 1 ∧ n.pos ≠ 2) :
    Calls Tryz.prog 116 #[ndV n p, .int .i64 1] w (SampY n p ({ n with pos := n.pos + 1 }, 0, zF) w) := by
  have hpw : IntKind.i64.wrap (n.pos + 1) = n.pos + 1 := IntWalk.i64_in _ (by omega)
  have dlt : decide (n.pos < 9) = true := decide_eq_true (by omega)
  have e9 : (n.pos + 1 == 9) = false := beq_eq_false_iff_ne.2 (by omega)
  have d1 : (n.pos == 1) = false := beq_eq_false_iff_ne.2 (by omega)
  have d2 : (n.pos == 2) = false := beq_eq_false_iff_ne.2 (by omega)
  have d9 : (n.pos == 9) = false := beq_eq_false_iff_ne.2 (by omega)
  replace hq := Lib.hid hq
  have X := N3.made (ndC n p) w
  go_enter Tryz.func116, Tryz.ntmps116
  go_upto_region 1 with fail
  generalize World.alloc _ _ = W at X ⊢
  generalize w.heap.size + 1 + 1 = gh at X ⊢
  generalize w.heap.size + 1 = gr at X ⊢
  generalize w.heap.size = g at X ⊢
  have c1 : W.cell? ⟨g, 1, none⟩ = some (.bool n.tx) := X.cell 1
  have c3 : W.cell? ⟨g, 3, none⟩ = some (.bool n.bad) := X.cell 3
  have c11 : W.cell? ⟨g, 11, none⟩ = some (.int .i64 n.pos) := X.cell 11
  have f11 := X.free 11
  go_upto_region 13 with fail
  clear c1 c3 c11 f11
  replace X : N3 g gr gh (ndC ({ n with pos := n.pos + 1 }) p) w _ := (X.set 11 (.int .i64 (n.pos + 1)))
  generalize World.setCell _ _ _ = W1 at X ⊢
  have c11 : W1.cell? ⟨g, 11, none⟩ = some (.int .i64 (n.pos + 1)) := X.cell 11
  have c1 : W1.cell? ⟨g, 1, none⟩ = some (.bool n.tx) := X.cell 1
  go_upto_region 15 with fail
  clear c11 c1
  refine wp_region_held (S := fun u => Nx g ({ n with pos := n.pos + 1 }) (p) w u) (by kernel_rfl) ?_
  replace X := X.drew'
  generalize ({ W1 with drawn := W1.drawn + 1 } : World) = V at X ⊢
  refine take_at 0 _ (ndV ({ n with pos := n.pos + 1 }) (p)) rfl rfl (by kernel_rfl) (by kernel_rfl) (by kernel_rfl) (fun _ _ _ h => h) (.inl ⟨rfl, fun u hu => hu.took rfl rfl⟩) X.nx ?_
  simp only [Act.put, List.setIfInBounds_toArray, List.set_cons_zero, List.set_cons_succ]
  refine call_at 1 _ 113 #[.int .i64 0] rfl rfl (by kernel_rfl) rfl (by go_simp) ?_
  refine (specHappen 0 _).mono ?_
  rintro e wh ⟨rfl, b⟩
  replace X := X.below b
  clear b
  refine ⟨_, rfl, X.nx, ?_⟩
  simp only [Act.put, List.setIfInBounds_toArray, List.set_cons_zero, List.set_cons_succ]
  refine held_row 2 gr (ndC ({ n with pos := n.pos + 1 }) (p)) rfl (by kernel_rfl) rfl rfl rfl rfl rfl X.res (by kernel_rfl) rfl (ndC_one _ _) (X.nxR _) ?_
  refine held_row 3 gh (hpC 0 zF none 0) rfl (by kernel_rfl) rfl rfl rfl rfl rfl (X.fin _ #[]).1 (by kernel_rfl) rfl (hpC_one _ _ _ _) (X.nxH _ _) ?_
  refine wpAnyH_done (by kernel_rfl) ?_ _
  obtain ⟨-, Z1, Z2, Z3⟩ := X.fin (ndC ({ n with pos := n.pos + 1 }) (p)) (hpC 0 zF none 0)
  go_wp2_with fail
  refine bodyPost_ret (v := .tuple #[ndV ({ n with pos := n.pos + 1 }) (p), hpV 0 zF none 0]) ?_ rfl ⟨p, none, 0, rfl, fun u k kn => ⟨kn.lists rfl rfl rfl rfl hm.size, Nums.nil _⟩, Z3⟩
  exact results_both Tryz.results116 _ _ gr gh _ _ rfl rfl Z1 Z2 rfl rfl

set_option maxHeartbeats 8000000 in
/-- spec.l12Tail, where a frame is heard. -/
theorem specTailHeard (n : Nd) (p : NdP) (w : World) (hm : NdM n p w) (hq : n.pos = 8) (htx : n.tx = false) (h32 : n.fifo.length ≤ 32) (hs8 : ∀ j, j < n.fifo.length → (nthF n.fifo j).D.length ≤ 1048576) :
    Calls Tryz.prog 116 #[ndV n p, .int .i64 1] w (SampY n p (heardN n) w) := by
  have hpw : IntKind.i64.wrap (n.pos + 1) = n.pos + 1 := IntWalk.i64_in _ (by omega)
  have dlt : decide (n.pos < 9) = true := decide_eq_true (by omega)
  have hp9 := Lib.hid (show n.pos + 1 = 9 by omega)
  have d1 : (n.pos == 1) = false := beq_eq_false_iff_ne.2 (by omega)
  have d2 : (n.pos == 2) = false := beq_eq_false_iff_ne.2 (by omega)
  have d9 : (n.pos == 9) = false := beq_eq_false_iff_ne.2 (by omega)
  replace htx := Lib.hid htx
  replace hq := Lib.hid hq
  have X := N3.made (ndC n p) w
  go_enter Tryz.func116, Tryz.ntmps116
  go_upto_region 1 with fail
  generalize World.alloc _ _ = W at X ⊢
  generalize w.heap.size + 1 + 1 = gh at X ⊢
  generalize w.heap.size + 1 = gr at X ⊢
  generalize w.heap.size = g at X ⊢
  have c1 : W.cell? ⟨g, 1, none⟩ = some (.bool n.tx) := X.cell 1
  have c3 : W.cell? ⟨g, 3, none⟩ = some (.bool n.bad) := X.cell 3
  have c11 : W.cell? ⟨g, 11, none⟩ = some (.int .i64 n.pos) := X.cell 11
  have f11 := X.free 11
  rw [htx.out] at c1
  go_upto_region 13 with fail
  clear c1 c3 c11 f11
  replace X : N3 g gr gh (ndC ({ n with pos := n.pos + 1 }) p) w _ := (X.set 11 (.int .i64 (n.pos + 1)))
  generalize World.setCell _ _ _ = W1 at X ⊢
  replace X : N3 g gr gh (ndC { n with pos := 9 } p) w W1 := by have := X; rw [hp9.out] at this; exact this
  have c11 : W1.cell? ⟨g, 11, none⟩ = some (.int .i64 9) := X.cell 11
  have c1 : W1.cell? ⟨g, 1, none⟩ = some (.bool n.tx) := X.cell 1
  rw [htx.out] at c1
  go_wp2_with (refine Nx.take ⟨X.blk, X.bel⟩ rfl rfl rfl ?_)
  have hlt := X.lt
  have hsz := X.bel.size
  refine (specHeard { n with pos := 9 } p W1 ⟨(hm.below X.bel).nums, (hm.below X.bel).box, (hm.below X.bel).fifo, (hm.below X.bel).flt, hm.size⟩ rfl h32 hs8).mono ?_
  rintro e w5 ⟨p5, ad5, cd5, rfl, hk5, b⟩
  replace X := X.below b
  clear b
  go_wp2_with (first | (refine wpList_put (n := (heardN n).1) (p := p5) X.res rfl rfl rfl rfl rfl ?_) | (refine wpList_tell (k := (heardN n).2.1) (f := (heardN n).2.2) (ad := ad5) (cd := cd5) (X.fin (ndC (heardN n).1 p5) #[]).1 rfl rfl rfl rfl rfl ?_))
  have hmf := X.upFin (ndC (heardN n).1 p5) (hpC (heardN n).2.1 (heardN n).2.2 ad5 cd5) hlt.2.1 hlt.2.2
  obtain ⟨-, Z1, Z2, Z3⟩ := X.fin (ndC (heardN n).1 p5) (hpC (heardN n).2.1 (heardN n).2.2 ad5 cd5)
  refine bodyPost_ret (v := .tuple #[ndV (heardN n).1 p5, hpV (heardN n).2.1 (heardN n).2.2 ad5 cd5]) ?_ rfl ⟨p5, ad5, cd5, rfl, fun u k kn => hk5 u (hmf.trans (k.higher hsz)) ⟨kn.nums, kn.box, kn.fifo, kn.flt, kn.size⟩, Z3⟩
  exact results_both Tryz.results116 _ _ gr gh _ _ rfl rfl Z1 Z2 rfl rfl

set_option maxHeartbeats 8000000 in
/-- spec.l12Tail, one ahead of the last, of one that sends. -/
theorem specTailEight (n : Nd) (p : NdP) (w : World) (hm : NdM n p w) (hq : n.pos = 8) (htx : n.tx = true) :
    Calls Tryz.prog 116 #[ndV n p, .int .i64 1] w (SampY n p ({ n with pos := 9 }, 0, zF) w) := by
  have hpw : IntKind.i64.wrap (n.pos + 1) = n.pos + 1 := IntWalk.i64_in _ (by omega)
  have dlt : decide (n.pos < 9) = true := decide_eq_true (by omega)
  have hp9 := Lib.hid (show n.pos + 1 = 9 by omega)
  have d1 : (n.pos == 1) = false := beq_eq_false_iff_ne.2 (by omega)
  have d2 : (n.pos == 2) = false := beq_eq_false_iff_ne.2 (by omega)
  have d9 : (n.pos == 9) = false := beq_eq_false_iff_ne.2 (by omega)
  replace htx := Lib.hid htx
  replace hq := Lib.hid hq
  have X := N3.made (ndC n p) w
  go_enter Tryz.func116, Tryz.ntmps116
  go_upto_region 1 with fail
  generalize World.alloc _ _ = W at X ⊢
  generalize w.heap.size + 1 + 1 = gh at X ⊢
  generalize w.heap.size + 1 = gr at X ⊢
  generalize w.heap.size = g at X ⊢
  have c1 : W.cell? ⟨g, 1, none⟩ = some (.bool n.tx) := X.cell 1
  have c3 : W.cell? ⟨g, 3, none⟩ = some (.bool n.bad) := X.cell 3
  have c11 : W.cell? ⟨g, 11, none⟩ = some (.int .i64 n.pos) := X.cell 11
  have f11 := X.free 11
  rw [htx.out] at c1
  go_upto_region 13 with fail
  clear c1 c3 c11 f11
  replace X : N3 g gr gh (ndC ({ n with pos := n.pos + 1 }) p) w _ := (X.set 11 (.int .i64 (n.pos + 1)))
  generalize World.setCell _ _ _ = W1 at X ⊢
  replace X : N3 g gr gh (ndC { n with pos := 9 } p) w W1 := by have := X; rw [hp9.out] at this; exact this
  have c11 : W1.cell? ⟨g, 11, none⟩ = some (.int .i64 9) := X.cell 11
  have c1 : W1.cell? ⟨g, 1, none⟩ = some (.bool n.tx) := X.cell 1
  rw [htx.out] at c1
  go_upto_region 15 with fail
  clear c1 c11
  refine wp_region_held (S := fun u => Nx g ({ n with pos := 9 }) (p) w u) (by kernel_rfl) ?_
  replace X := X.drew'
  generalize ({ W1 with drawn := W1.drawn + 1 } : World) = V at X ⊢
  refine take_at 0 _ (ndV ({ n with pos := 9 }) (p)) rfl rfl (by kernel_rfl) (by kernel_rfl) (by kernel_rfl) (fun _ _ _ h => h) (.inl ⟨rfl, fun u hu => hu.took rfl rfl⟩) X.nx ?_
  simp only [Act.put, List.setIfInBounds_toArray, List.set_cons_zero, List.set_cons_succ]
  refine call_at 1 _ 113 #[.int .i64 0] rfl rfl (by kernel_rfl) rfl (by go_simp) ?_
  refine (specHappen 0 _).mono ?_
  rintro e wh ⟨rfl, b⟩
  replace X := X.below b
  clear b
  refine ⟨_, rfl, X.nx, ?_⟩
  simp only [Act.put, List.setIfInBounds_toArray, List.set_cons_zero, List.set_cons_succ]
  refine held_row 2 gr (ndC ({ n with pos := 9 }) (p)) rfl (by kernel_rfl) rfl rfl rfl rfl rfl X.res (by kernel_rfl) rfl (ndC_one _ _) (X.nxR _) ?_
  refine held_row 3 gh (hpC 0 zF none 0) rfl (by kernel_rfl) rfl rfl rfl rfl rfl (X.fin _ #[]).1 (by kernel_rfl) rfl (hpC_one _ _ _ _) (X.nxH _ _) ?_
  refine wpAnyH_done (by kernel_rfl) ?_ _
  obtain ⟨-, Z1, Z2, Z3⟩ := X.fin (ndC ({ n with pos := 9 }) (p)) (hpC 0 zF none 0)
  go_wp2_with fail
  refine bodyPost_ret (v := .tuple #[ndV ({ n with pos := 9 }) (p), hpV 0 zF none 0]) ?_ rfl ⟨p, none, 0, rfl, fun u k kn => ⟨kn.lists rfl rfl rfl rfl hm.size, Nums.nil _⟩, Z3⟩
  exact results_both Tryz.results116 _ _ gr gh _ _ rfl rfl Z1 Z2 rfl rfl

set_option maxHeartbeats 8000000 in
/-- spec.l12Tail, the last bit. -/
theorem specTailLast (n : Nd) (p : NdP) (l : Int) (w : World) (hm : NdM n p w) (hq : n.pos = 9) (htx : n.tx = false) (hl : l = 0 ∨ l = 1) :
    Calls Tryz.prog 116 #[ndV n p, .int .i64 l] w (SampY n p ({ n with ph := 5, left := 3, got := ⟨#[]⟩, run := 0, last := 0, pos := 0 }, 0, zF) w) := by
  have dlt : decide (n.pos < 9) = false := decide_eq_false (by omega)
  have d1 : (n.pos == 1) = false := beq_eq_false_iff_ne.2 (by omega)
  have d2 : (n.pos == 2) = false := beq_eq_false_iff_ne.2 (by omega)
  have d9 : (n.pos == 9) = true := beq_iff_eq.2 hq
  replace htx := Lib.hid htx
  replace hq := Lib.hid hq
  have X := N3.made (ndC n p) w
  go_enter Tryz.func116, Tryz.ntmps116
  go_upto_region 1 with fail
  generalize World.alloc _ _ = W at X ⊢
  generalize w.heap.size + 1 + 1 = gh at X ⊢
  generalize w.heap.size + 1 = gr at X ⊢
  generalize w.heap.size = g at X ⊢
  have c1 : W.cell? ⟨g, 1, none⟩ = some (.bool n.tx) := X.cell 1
  have c3 : W.cell? ⟨g, 3, none⟩ = some (.bool n.bad) := X.cell 3
  have c11 : W.cell? ⟨g, 11, none⟩ = some (.int .i64 n.pos) := X.cell 11
  have f11 := X.free 11
  rw [htx.out] at c1
  have c0 : W.cell? ⟨g, 0, none⟩ = some (.int .i64 n.ph) := X.cell 0
  have c8 : W.cell? ⟨g, 8, none⟩ = some (.string n.got) := X.cell 8
  have c9 : W.cell? ⟨g, 9, none⟩ = some (.int .i64 n.run) := X.cell 9
  have c10 : W.cell? ⟨g, 10, none⟩ = some (.int .i64 n.last) := X.cell 10
  have c12 : W.cell? ⟨g, 12, none⟩ = some (.int .i64 n.left) := X.cell 12
  have f0 := X.free 0
  have f8 := X.free 8
  have f9 := X.free 9
  have f10 := X.free 10
  have f12 := X.free 12
  go_upto_region 22 with fail
  clear c1 c3 c11 f11
  clear c0 c8 c9 c10 c12 f0 f8 f9 f10 f12
  replace X : N3 g gr gh (ndC ({ n with ph := 5, left := 3, got := ⟨#[]⟩ }) p) w _ := (((X.set 0 (.int .i64 5)).set 12 (.int .i64 3)).set 8 (.string ⟨#[]⟩))
  replace X : N3 g gr gh (ndC ({ n with ph := 5, left := 3, got := ⟨#[]⟩, run := 0, last := 0, pos := 0 }) p) w _ := (((X.set 9 (.int .i64 0)).set 10 (.int .i64 0)).set 11 (.int .i64 0))
  generalize World.setCell _ _ _ = W1 at X ⊢
  have c1 : W1.cell? ⟨g, 1, none⟩ = some (.bool n.tx) := X.cell 1
  rw [htx.out] at c1
  go_upto_region 23 with fail
  clear c1
  refine wp_region_held (S := fun u => Nx g ({ n with ph := 5, left := 3, got := ⟨#[]⟩, run := 0, last := 0, pos := 0 }) (p) w u) (by kernel_rfl) ?_
  replace X := X.drew'
  generalize ({ W1 with drawn := W1.drawn + 1 } : World) = V at X ⊢
  refine take_at 0 _ (ndV ({ n with ph := 5, left := 3, got := ⟨#[]⟩, run := 0, last := 0, pos := 0 }) (p)) rfl rfl (by kernel_rfl) (by kernel_rfl) (by kernel_rfl) (fun _ _ _ h => h) (.inl ⟨rfl, fun u hu => hu.took rfl rfl⟩) X.nx ?_
  simp only [Act.put, List.setIfInBounds_toArray, List.set_cons_zero, List.set_cons_succ]
  refine call_at 1 _ 113 #[.int .i64 0] rfl rfl (by kernel_rfl) rfl (by go_simp) ?_
  refine (specHappen 0 _).mono ?_
  rintro e wh ⟨rfl, b⟩
  replace X := X.below b
  clear b
  refine ⟨_, rfl, X.nx, ?_⟩
  simp only [Act.put, List.setIfInBounds_toArray, List.set_cons_zero, List.set_cons_succ]
  refine held_row 2 gr (ndC ({ n with ph := 5, left := 3, got := ⟨#[]⟩, run := 0, last := 0, pos := 0 }) (p)) rfl (by kernel_rfl) rfl rfl rfl rfl rfl X.res (by kernel_rfl) rfl (ndC_one _ _) (X.nxR _) ?_
  refine held_row 3 gh (hpC 0 zF none 0) rfl (by kernel_rfl) rfl rfl rfl rfl rfl (X.fin _ #[]).1 (by kernel_rfl) rfl (hpC_one _ _ _ _) (X.nxH _ _) ?_
  refine wpAnyH_done (by kernel_rfl) ?_ _
  obtain ⟨-, Z1, Z2, Z3⟩ := X.fin (ndC ({ n with ph := 5, left := 3, got := ⟨#[]⟩, run := 0, last := 0, pos := 0 }) (p)) (hpC 0 zF none 0)
  go_wp2_with fail
  refine bodyPost_ret (v := .tuple #[ndV ({ n with ph := 5, left := 3, got := ⟨#[]⟩, run := 0, last := 0, pos := 0 }) (p), hpV 0 zF none 0]) ?_ rfl ⟨p, none, 0, rfl, fun u k kn => ⟨kn.lists rfl rfl rfl rfl (Nat.zero_le _), Nums.nil _⟩, Z3⟩
  exact results_both Tryz.results116 _ _ gr gh _ _ rfl rfl Z1 Z2 rfl rfl

set_option maxHeartbeats 16000000 in
/-- spec.l12Tail, the last bit of one that sends. -/
theorem specTailSent (n : Nd) (p : NdP) (w : World) (hm : NdM n p w) (hq : n.pos = 9) (htx : n.tx = true) (hbB : boxB n.box = true) (hD : n.fr.D.length ≤ 1000) :
    Calls Tryz.prog 116 #[ndV n p, .int .i64 1] w (SampY n p ({ n with ph := 5, left := 3, got := ⟨#[]⟩, run := 0, last := 0, pos := 0, cs := swA n.cs n.cg, cg := swB n.cs n.cg, box := outV n.box (rkF n.fr) }, 1, n.fr) w) := by
  generalize hca : swA n.cs n.cg = ca at *
  generalize hcb : swB n.cs n.cg = cb at *
  replace hca := Lib.hid hca
  replace hcb := Lib.hid hcb
  have hbl : (outV n.box (rkF n.fr)).length ≤ 2000000 := by have := (boxB_iff.1 (out_ok (r := rkF n.fr) hbB)).1; omega
  generalize hbx : outV n.box (rkF n.fr) = bx at *
  replace hbx := Lib.hid hbx
  have dlt : decide (n.pos < 9) = false := decide_eq_false (by omega)
  have d1 : (n.pos == 1) = false := beq_eq_false_iff_ne.2 (by omega)
  have d2 : (n.pos == 2) = false := beq_eq_false_iff_ne.2 (by omega)
  have d9 : (n.pos == 9) = true := beq_iff_eq.2 hq
  replace htx := Lib.hid htx
  replace hq := Lib.hid hq
  have X := N3.made (ndC n p) w
  go_enter Tryz.func116, Tryz.ntmps116
  go_upto_region 1 with fail
  generalize World.alloc _ _ = W at X ⊢
  generalize w.heap.size + 1 + 1 = gh at X ⊢
  generalize w.heap.size + 1 = gr at X ⊢
  generalize w.heap.size = g at X ⊢
  have c1 : W.cell? ⟨g, 1, none⟩ = some (.bool n.tx) := X.cell 1
  have c3 : W.cell? ⟨g, 3, none⟩ = some (.bool n.bad) := X.cell 3
  have c11 : W.cell? ⟨g, 11, none⟩ = some (.int .i64 n.pos) := X.cell 11
  have f11 := X.free 11
  rw [htx.out] at c1
  have c0 : W.cell? ⟨g, 0, none⟩ = some (.int .i64 n.ph) := X.cell 0
  have c8 : W.cell? ⟨g, 8, none⟩ = some (.string n.got) := X.cell 8
  have c9 : W.cell? ⟨g, 9, none⟩ = some (.int .i64 n.run) := X.cell 9
  have c10 : W.cell? ⟨g, 10, none⟩ = some (.int .i64 n.last) := X.cell 10
  have c12 : W.cell? ⟨g, 12, none⟩ = some (.int .i64 n.left) := X.cell 12
  have f0 := X.free 0
  have f8 := X.free 8
  have f9 := X.free 9
  have f10 := X.free 10
  have f12 := X.free 12
  go_upto_region 22 with fail
  clear c1 c3 c11 f11
  clear c0 c8 c9 c10 c12 f0 f8 f9 f10 f12
  replace X : N3 g gr gh (ndC ({ n with ph := 5, left := 3, got := ⟨#[]⟩ }) p) w _ := (((X.set 0 (.int .i64 5)).set 12 (.int .i64 3)).set 8 (.string ⟨#[]⟩))
  replace X : N3 g gr gh (ndC ({ n with ph := 5, left := 3, got := ⟨#[]⟩, run := 0, last := 0, pos := 0 }) p) w _ := (((X.set 9 (.int .i64 0)).set 10 (.int .i64 0)).set 11 (.int .i64 0))
  generalize World.setCell _ _ _ = W1 at X ⊢
  have c1 : W1.cell? ⟨g, 1, none⟩ = some (.bool n.tx) := X.cell 1
  rw [htx.out] at c1
  have c13 : W1.cell? ⟨g, 13, none⟩ = some (.int .i64 n.cs) := X.cell 13
  have c14 : W1.cell? ⟨g, 14, none⟩ = some (.int .i64 n.cg) := X.cell 14
  go_wp2_with fail
  refine (specSentWell _ _ _).mono ?_
  rintro e w4 ⟨rfl, b⟩
  rw [hca.out, hcb.out]
  replace X := X.below b
  clear b c1 c13 c14
  have c13 : w4.cell? ⟨g, 13, none⟩ = some (.int .i64 n.cs) := X.cell 13
  have c14 : w4.cell? ⟨g, 14, none⟩ = some (.int .i64 n.cg) := X.cell 14
  have f13 := X.free 13
  have f14 := X.free 14
  go_upto_region 25 with fail
  clear c13 c14 f13 f14
  replace X : N3 g gr gh (ndC ({ n with ph := 5, left := 3, got := ⟨#[]⟩, run := 0, last := 0, pos := 0, cs := ca, cg := cb }) p) w _ := ((X.set 13 (.int .i64 ca)).set 14 (.int .i64 cb))
  generalize World.setCell _ _ _ = W5 at X ⊢
  have hmd := (hm.below X.bel).drew
  replace X := X.drew
  have c4 : W5.drew.cell? ⟨g, 4, none⟩ = some (.int .i64 n.fr.id) := X.cell 4
  have c5 : W5.drew.cell? ⟨g, 5, none⟩ = some (.bool n.fr.rm) := X.cell 5
  have c6 : W5.drew.cell? ⟨g, 6, none⟩ = some (.int .i64 n.fr.ln) := X.cell 6
  have c7 : W5.drew.cell? ⟨g, 7, none⟩ = some (.slice p.ad n.fr.D.length p.cd) := X.cell 7
  have c15 : W5.drew.cell? ⟨g, 15, none⟩ = some (.slice p.ab n.box.length p.cb) := X.cell 15
  have f15 := X.free 15
  go_region_law (first
    | (go_simp
       go_at_call 74
       refine (specRankOf n.fr.id n.fr.rm n.fr.ln p.ad n.fr.D p.cd _ hmd.nums).mono ?_
       rintro e w6 ⟨rfl, b6⟩
       have X6 := X.below b6
       have m6 := hmd.below b6
       have hB6 := X6.lt
       have hs6 := X6.bel.size
       have e15 : w6.cell? ⟨g, 15, none⟩ = some (.slice p.ab n.box.length p.cb) := X6.cell 15
       clear b6)
    | (go_simp
       go_at_call 174
       refine (specTakenOut p.ab n.box p.cb (rkF n.fr) _ m6.box).mono ?_
       intro e w7 h7
       obtain ⟨M, a7, c7, he, hM, O7, b7⟩ := h7
       rw [hbx.out] at he hM O7
       subst he
       have X7 := X6.below b7
       have g15 : w7.cell? ⟨g, 15, none⟩ = some (.slice p.ab n.box.length p.cb) := X7.cell 15
       have k15 : w7.frozen? ⟨g, 15, none⟩ = false := X7.free 15
       clear b7))
  all_goals
    replace O7 := O7.kept2 (grown_at_cell w7 g 15 (.slice (some ⟨a7, 0, none⟩) bx.length c7)) hB6.1
    have X8 : N3 g gr gh (ndC ({ n with ph := 5, left := 3, got := ⟨#[]⟩, run := 0, last := 0, pos := 0, cs := ca, cg := cb, box := bx }) ({ p with ab := some ⟨a7, 0, none⟩, cb := c7 })) w _ := X7.set 15 (.slice (some ⟨a7, 0, none⟩) bx.length c7)
    clear X X6 X7 g15 k15 e15 m6 hmd c4 c5 c6 c15 f15
    have X := X8
    clear X8
    generalize World.setCell _ _ _ = W9 at X O7 ⊢
    have hdr : Below W9.heap.size W9 ({ W9 with drawn := W9.drawn + 1 } : World) := (Below.refl _ _).drew
    replace O7 := O7.below hdr
    clear hdr
    go_upto_region 26 with fail
    refine wp_region_held (S := fun u => Nx g ({ n with ph := 5, left := 3, got := ⟨#[]⟩, run := 0, last := 0, pos := 0, cs := ca, cg := cb, box := bx }) ({ p with ab := some ⟨a7, 0, none⟩, cb := c7 }) w u) (by kernel_rfl) ?_
    replace X := X.drew'
    generalize ({ W9 with drawn := W9.drawn + 1 } : World) = W at *
    refine take_at 0 _ (ndV ({ n with ph := 5, left := 3, got := ⟨#[]⟩, run := 0, last := 0, pos := 0, cs := ca, cg := cb, box := bx }) ({ p with ab := some ⟨a7, 0, none⟩, cb := c7 })) rfl rfl (by kernel_rfl) (by kernel_rfl) (by kernel_rfl) (fun _ _ _ h => h) (.inl ⟨rfl, fun u hu => hu.took rfl rfl⟩) X.nx ?_
    simp only [Act.put, List.setIfInBounds_toArray, List.set_cons_zero, List.set_cons_succ]
    refine take_at 1 _ (.pointer (some ⟨g, 4, none⟩)) rfl rfl (by kernel_rfl) (by kernel_rfl) (by kernel_rfl) (fun _ _ _ h => h) (.inl ⟨rfl, fun u hu => by go_simp⟩) X.nx ?_
    simp only [Act.put, List.setIfInBounds_toArray, List.set_cons_zero, List.set_cons_succ]
    refine take_at 2 _ (frV n.fr.id n.fr.rm n.fr.ln p.ad n.fr.D.length p.cd) rfl rfl (by kernel_rfl) (by kernel_rfl) (by kernel_rfl) (fun _ _ _ h => h) (.inl ⟨rfl, fun u hu => by obtain ⟨d4, d5, d6, d7⟩ := hu.cellsTook; go_simp⟩) X.nx ?_
    simp only [Act.put, List.setIfInBounds_toArray, List.set_cons_zero, List.set_cons_succ]
    have hB9 := X.lt
    have hs9 := X.bel.size
    refine call_at 3 _ 70 #[(frV n.fr.id n.fr.rm n.fr.ln p.ad n.fr.D.length p.cd)] rfl rfl (by kernel_rfl) rfl (by go_simp) ?_
    refine (copyFr n.fr.id n.fr.rm n.fr.ln p.ad n.fr.D p.cd _ (hm.below X.bel).nums hD).mono ?_
    rintro e w10 ⟨av, cv, rfl, O10, gg⟩
    have b := below_new gg
    replace X := X.below b
    replace O7 := O7.below b
    clear b gg
    refine ⟨_, rfl, X.nx, ?_⟩
    simp only [Act.put, List.setIfInBounds_toArray, List.set_cons_zero, List.set_cons_succ]
    refine take_at 4 _ (hpV 1 n.fr av cv) rfl rfl (by kernel_rfl) (by kernel_rfl) (by kernel_rfl) (fun _ _ _ h => h) (.inl ⟨rfl, fun u hu => by go_simp⟩) X.nx ?_
    simp only [Act.put, List.setIfInBounds_toArray, List.set_cons_zero, List.set_cons_succ]
    refine held_row 5 gr (ndC ({ n with ph := 5, left := 3, got := ⟨#[]⟩, run := 0, last := 0, pos := 0, cs := ca, cg := cb, box := bx }) ({ p with ab := some ⟨a7, 0, none⟩, cb := c7 })) rfl (by kernel_rfl) rfl rfl rfl rfl rfl X.res (by kernel_rfl) rfl (ndC_one _ _) (X.nxR _) ?_
    refine held_row 6 gh (hpC 1 n.fr av cv) rfl (by kernel_rfl) rfl rfl rfl rfl rfl (X.fin _ #[]).1 (by kernel_rfl) rfl (hpC_one _ _ _ _) (X.nxH _ _) ?_
    refine wpAnyH_done (by kernel_rfl) ?_ _
    obtain ⟨-, Z1, Z2, Z3⟩ := X.fin (ndC ({ n with ph := 5, left := 3, got := ⟨#[]⟩, run := 0, last := 0, pos := 0, cs := ca, cg := cb, box := bx }) ({ p with ab := some ⟨a7, 0, none⟩, cb := c7 })) (hpC 1 n.fr av cv)
    go_wp2_with fail
    refine bodyPost_ret (v := .tuple #[ndV ({ n with ph := 5, left := 3, got := ⟨#[]⟩, run := 0, last := 0, pos := 0, cs := ca, cg := cb, box := bx }) ({ p with ab := some ⟨a7, 0, none⟩, cb := c7 }), hpV 1 n.fr av cv]) ?_ rfl ⟨{ p with ab := some ⟨a7, 0, none⟩, cb := c7 }, av, cv, rfl, fun u k kn => ⟨⟨kn.nums, (((O7.kept2 (grown_row _ gr _) hB6.2.1).kept2 (grown_row _ gh _) hB6.2.2).up k hs6).frsOf hM hbl, kn.fifo, kn.flt, Nat.zero_le _⟩, (((O10.kept2 (grown_row _ gr _) hB9.2.1).kept2 (grown_row _ gh _) hB9.2.2).up k hs9).nums2⟩, Z3⟩
    exact results_both Tryz.results116 _ _ gr gh _ _ rfl rfl Z1 Z2 rfl rfl
end Go.Proofs.YtpenjbpcebfecaaGreatDoor

/- The model's steps of a node: the body. -/

set_option linter.unusedVariables false
set_option linter.unusedSimpArgs false
set_option maxRecDepth 20000
namespace Go.Proofs.YtpenjbpcebfecaaGreatDoor
open Go.RowKit


theorem wholeN_lists (n : Nd) : (wholeN n).fr = n.fr ∧ (wholeN n).box = n.box ∧ (wholeN n).fifo = n.fifo ∧ (wholeN n).flt = n.flt ∧ (wholeN n).got = n.got := by unfold wholeN; split <;> exact ⟨rfl, rfl, rfl, rfl, rfl⟩
theorem drv_tx {n : Nd} (hp : n.ph = 1) (hok : nodeB n = true) (htx : n.tx = true) : drvP n = nextV n := by rw [drvP_1 hp hok, if_pos htx]; unfold nextP; rw [if_pos hp]

set_option maxHeartbeats 8000000 in
/-- spec.l12Body, six alike. -/
theorem specBodySix (n : Nd) (p : NdP) (l : Int) (w : World) (h5 : n.run = 5) (hne : l = n.last) :
    Calls Tryz.prog 115 #[ndV n p, .int .i64 l] w (Told (brkN n).1 (brkN n).2.1 p w) := by
  have d5 : (n.run == 5) = true := beq_iff_eq.2 h5
  have dl : (l == n.last) = true := beq_iff_eq.2 hne
  clear hne
  replace h5 := Lib.hid h5
  have X := N3.made (ndC n p) w
  go_enter Tryz.func115, Tryz.ntmps115
  go_upto_region 1 with fail
  generalize World.alloc _ _ = W at X ⊢
  generalize w.heap.size + 1 + 1 = gh at X ⊢
  generalize w.heap.size + 1 = gr at X ⊢
  generalize w.heap.size = g at X ⊢
  have c9 : W.cell? ⟨g, 9, none⟩ = some (.int .i64 n.run) := X.cell 9
  have c10 : W.cell? ⟨g, 10, none⟩ = some (.int .i64 n.last) := X.cell 10
  have f9 := X.free 9
  have f10 := X.free 10
  go_wp2_with (refine Nx.take ⟨X.blk, X.bel⟩ rfl rfl rfl ?_)
  clear c9 c10 f9 f10
  refine (specBreak n p _).mono ?_
  rintro e wq ⟨rfl, b⟩
  replace X := X.below b
  clear b
  go_wp2_with (first | (refine Nx.take ⟨X.blk, X.bel⟩ rfl rfl rfl ?_) | (refine wpList_put X.res rfl rfl rfl rfl rfl ?_) | (refine wpList_tell (k := (brkN n).2.1) (f := zF) (ad := none) (cd := 0) (X.fin (ndC ((brkN n).1) p) #[]).1 rfl rfl rfl rfl rfl ?_))
  obtain ⟨-, Z1, Z2, Z3⟩ := X.fin (ndC ((brkN n).1) p) (hpC ((brkN n).2.1) (zF) (none) (0))
  refine bodyPost_ret (v := .tuple #[ndV ((brkN n).1) p, hpV ((brkN n).2.1) (zF) (none) (0)]) ?_ rfl ⟨rfl, Z3⟩
  exact results_both Tryz.results115 _ _ gr gh _ _ rfl rfl Z1 Z2 rfl rfl

set_option maxHeartbeats 8000000 in
/-- spec.l12Body, behind five alike. -/
theorem specBodyFive (n : Nd) (p : NdP) (l : Int) (w : World) (hm : NdM n p w) (h5 : n.run = 5) (hne : l ≠ n.last) :
    Calls Tryz.prog 115 #[ndV n p, .int .i64 l] w (SampY n p (wholeN { n with run := 1, last := l }, 0, zF) w) := by
  have d5 : (n.run == 5) = true := beq_iff_eq.2 h5
  have dl : (l == n.last) = false := beq_eq_false_iff_ne.2 hne
  clear hne
  replace h5 := Lib.hid h5
  have X := N3.made (ndC n p) w
  go_enter Tryz.func115, Tryz.ntmps115
  go_upto_region 1 with fail
  generalize World.alloc _ _ = W at X ⊢
  generalize w.heap.size + 1 + 1 = gh at X ⊢
  generalize w.heap.size + 1 = gr at X ⊢
  generalize w.heap.size = g at X ⊢
  have c9 : W.cell? ⟨g, 9, none⟩ = some (.int .i64 n.run) := X.cell 9
  have c10 : W.cell? ⟨g, 10, none⟩ = some (.int .i64 n.last) := X.cell 10
  have f9 := X.free 9
  have f10 := X.free 10
  go_upto_region 6 with fail
  clear c9 c10 f9 f10
  replace X : N3 g gr gh (ndC ({ n with run := 1, last := l }) p) w _ := ((X.set 9 (.int .i64 1)).set 10 (.int .i64 l))
  generalize World.setCell _ _ _ = W1 at X ⊢
  go_wp2_with (refine Nx.take ⟨X.blk, X.bel⟩ rfl rfl rfl ?_)
  refine (specWhole ({ n with run := 1, last := l }) p _ hm.size).mono ?_
  rintro e wq ⟨rfl, b⟩
  replace X := X.below b
  clear b
  go_wp2_with fail
  refine (specHappen 0 _).mono ?_
  rintro e wr ⟨rfl, b⟩
  replace X := X.below b
  clear b
  obtain ⟨l1, l2, l3, l4, l5⟩ := wholeN_lists ({ n with run := 1, last := l })
  have hsW : (wholeN ({ n with run := 1, last := l })).got.size ≤ maxLen := by rw [l5]; exact hm.size
  clear l5
  replace l1 := Lib.hid l1
  replace l2 := Lib.hid l2
  replace l3 := Lib.hid l3
  replace l4 := Lib.hid l4
  go_wp2_with (first | (refine Nx.take ⟨X.blk, X.bel⟩ rfl rfl rfl ?_) | (refine wpList_put X.res rfl rfl rfl rfl rfl ?_) | (refine wpList_tell (k := 0) (f := zF) (ad := none) (cd := 0) (X.fin (ndC (wholeN ({ n with run := 1, last := l })) p) #[]).1 rfl rfl rfl rfl rfl ?_))
  obtain ⟨-, Z1, Z2, Z3⟩ := X.fin (ndC (wholeN ({ n with run := 1, last := l })) p) (hpC (0) (zF) (none) (0))
  refine bodyPost_ret (v := .tuple #[ndV (wholeN ({ n with run := 1, last := l })) p, hpV (0) (zF) (none) (0)]) ?_ rfl ⟨p, none, 0, rfl, fun u k kn => ⟨kn.lists (l1.out.trans rfl) (l2.out.trans rfl) (l3.out.trans rfl) (l4.out.trans rfl) hsW, Nums.nil _⟩, Z3⟩
  exact results_both Tryz.results115 _ _ gr gh _ _ rfl rfl Z1 Z2 rfl rfl

set_option maxHeartbeats 8000000 in
/-- spec.l12Body, of one that does not send. -/
theorem specBodyStill (n : Nd) (p : NdP) (l : Int) (w : World) (hm : NdM n p w) (hok : nodeB n = true) (h5 : n.run ≠ 5) (hl : l = 0 ∨ l = 1) (hr : 0 ≤ n.run ∧ n.run ≤ 11) (hs : n.got.size ≤ 98) (htx : n.tx = false) :
    Calls Tryz.prog 115 #[ndV n p, .int .i64 l] w (SampY n p (wholeN (hearN n l), 0, zF) w) := by
  replace htx := Lib.hid htx
  have d5 : (n.run == 5) = false := beq_eq_false_iff_ne.2 h5
  clear h5
  have X := N3.made (ndC n p) w
  go_enter Tryz.func115, Tryz.ntmps115
  go_upto_region 1 with fail
  generalize World.alloc _ _ = W at X ⊢
  generalize w.heap.size + 1 + 1 = gh at X ⊢
  generalize w.heap.size + 1 = gr at X ⊢
  generalize w.heap.size = g at X ⊢
  have c9 : W.cell? ⟨g, 9, none⟩ = some (.int .i64 n.run) := X.cell 9
  go_wp2_with (refine Nx.take ⟨X.blk, X.bel⟩ rfl rfl rfl ?_)
  clear c9
  refine (specDrv n p _ (hm.below X.bel) hok).mono ?_
  rintro e w2 ⟨rfl, b⟩
  replace X := X.below b
  clear b
  have c1 : w2.cell? ⟨g, 1, none⟩ = some (.bool n.tx) := X.cell 1
  have c8 : w2.cell? ⟨g, 8, none⟩ = some (.string n.got) := X.cell 8
  have f1 := X.free 1
  rw [htx.out] at c1
  go_wp2_with (refine Nx.take ⟨X.blk, X.bel⟩ rfl rfl rfl ?_)
  clear c1 c8 f1
  refine (specHear (n) p l _ hl hr hs).mono ?_
  rintro e w5 ⟨rfl, b⟩
  replace X := X.below b
  clear b
  have hsz1 : (hearN (n) l).got.size ≤ maxLen := by have := hear_size (n) l; have h2 : n.got.size ≤ 98 := hs; have h3 : (hearN (n) l).got.size = n.got.size + 1 := this; unfold maxLen; omega
  go_wp2_with fail
  refine (specWhole (hearN (n) l) p _ hsz1).mono ?_
  rintro e wq ⟨rfl, b⟩
  replace X := X.below b
  clear b
  go_wp2_with fail
  refine (specHappen 0 _).mono ?_
  rintro e wr ⟨rfl, b⟩
  replace X := X.below b
  clear b
  obtain ⟨l1, l2, l3, l4, l5⟩ := wholeN_lists (hearN (n) l)
  have hsW : (wholeN (hearN (n) l)).got.size ≤ maxLen := by rw [l5]; exact hsz1
  clear l5
  replace l1 := Lib.hid l1
  replace l2 := Lib.hid l2
  replace l3 := Lib.hid l3
  replace l4 := Lib.hid l4
  go_wp2_with (first | (refine Nx.take ⟨X.blk, X.bel⟩ rfl rfl rfl ?_) | (refine wpList_put X.res rfl rfl rfl rfl rfl ?_) | (refine wpList_tell (k := 0) (f := zF) (ad := none) (cd := 0) (X.fin (ndC (wholeN (hearN (n) l)) p) #[]).1 rfl rfl rfl rfl rfl ?_))
  obtain ⟨-, Z1, Z2, Z3⟩ := X.fin (ndC (wholeN (hearN (n) l)) p) (hpC (0) (zF) (none) (0))
  refine bodyPost_ret (v := .tuple #[ndV (wholeN (hearN (n) l)) p, hpV (0) (zF) (none) (0)]) ?_ rfl ⟨p, none, 0, rfl, fun u k kn => ⟨kn.lists (l1.out.trans rfl) (l2.out.trans rfl) (l3.out.trans rfl) (l4.out.trans rfl) hsW, Nums.nil _⟩, Z3⟩
  exact results_both Tryz.results115 _ _ gr gh _ _ rfl rfl Z1 Z2 rfl rfl

set_option maxHeartbeats 8000000 in
/-- spec.l12Body, of one that goes on. -/
theorem specBodyKeep (n : Nd) (p : NdP) (l : Int) (w : World) (hm : NdM n p w) (hok : nodeB n = true) (h5 : n.run ≠ 5) (hl : l = 0 ∨ l = 1) (hr : 0 ≤ n.run ∧ n.run ≤ 11) (hs : n.got.size ≤ 98) (htx : n.tx = true) (hp1 : n.ph = 1) (hk : l = nextV n) :
    Calls Tryz.prog 115 #[ndV n p, .int .i64 l] w (SampY n p (wholeN (hearN n l), 0, zF) w) := by
  have dq : (l == drvP n) = true := beq_iff_eq.2 (hk.trans (drv_tx hp1 hok htx).symm)
  replace htx := Lib.hid htx
  replace hk := Lib.hid hk
  replace hp1 := Lib.hid hp1
  have d5 : (n.run == 5) = false := beq_eq_false_iff_ne.2 h5
  clear h5
  have X := N3.made (ndC n p) w
  go_enter Tryz.func115, Tryz.ntmps115
  go_upto_region 1 with fail
  generalize World.alloc _ _ = W at X ⊢
  generalize w.heap.size + 1 + 1 = gh at X ⊢
  generalize w.heap.size + 1 = gr at X ⊢
  generalize w.heap.size = g at X ⊢
  have c9 : W.cell? ⟨g, 9, none⟩ = some (.int .i64 n.run) := X.cell 9
  go_wp2_with (refine Nx.take ⟨X.blk, X.bel⟩ rfl rfl rfl ?_)
  clear c9
  refine (specDrv n p _ (hm.below X.bel) hok).mono ?_
  rintro e w2 ⟨rfl, b⟩
  replace X := X.below b
  clear b
  have c1 : w2.cell? ⟨g, 1, none⟩ = some (.bool n.tx) := X.cell 1
  have c8 : w2.cell? ⟨g, 8, none⟩ = some (.string n.got) := X.cell 8
  have f1 := X.free 1
  rw [htx.out] at c1
  generalize drvP n = q at *
  go_wp2_with (refine Nx.take ⟨X.blk, X.bel⟩ rfl rfl rfl ?_)
  clear c1 c8 f1
  refine (specHear (n) p l _ hl hr hs).mono ?_
  rintro e w5 ⟨rfl, b⟩
  replace X := X.below b
  clear b
  have hsz1 : (hearN (n) l).got.size ≤ maxLen := by have := hear_size (n) l; have h2 : n.got.size ≤ 98 := hs; have h3 : (hearN (n) l).got.size = n.got.size + 1 := this; unfold maxLen; omega
  go_wp2_with fail
  refine (specWhole (hearN (n) l) p _ hsz1).mono ?_
  rintro e wq ⟨rfl, b⟩
  replace X := X.below b
  clear b
  go_wp2_with fail
  refine (specHappen 0 _).mono ?_
  rintro e wr ⟨rfl, b⟩
  replace X := X.below b
  clear b
  obtain ⟨l1, l2, l3, l4, l5⟩ := wholeN_lists (hearN (n) l)
  have hsW : (wholeN (hearN (n) l)).got.size ≤ maxLen := by rw [l5]; exact hsz1
  clear l5
  replace l1 := Lib.hid l1
  replace l2 := Lib.hid l2
  replace l3 := Lib.hid l3
  replace l4 := Lib.hid l4
  go_wp2_with (first | (refine Nx.take ⟨X.blk, X.bel⟩ rfl rfl rfl ?_) | (refine wpList_put X.res rfl rfl rfl rfl rfl ?_) | (refine wpList_tell (k := 0) (f := zF) (ad := none) (cd := 0) (X.fin (ndC (wholeN (hearN (n) l)) p) #[]).1 rfl rfl rfl rfl rfl ?_))
  obtain ⟨-, Z1, Z2, Z3⟩ := X.fin (ndC (wholeN (hearN (n) l)) p) (hpC (0) (zF) (none) (0))
  refine bodyPost_ret (v := .tuple #[ndV (wholeN (hearN (n) l)) p, hpV (0) (zF) (none) (0)]) ?_ rfl ⟨p, none, 0, rfl, fun u k kn => ⟨kn.lists (l1.out.trans rfl) (l2.out.trans rfl) (l3.out.trans rfl) (l4.out.trans rfl) hsW, Nums.nil _⟩, Z3⟩
  exact results_both Tryz.results115 _ _ gr gh _ _ rfl rfl Z1 Z2 rfl rfl

set_option maxHeartbeats 8000000 in
/-- spec.l12Body, of one that falls silent. -/
theorem specBodyLose (n : Nd) (p : NdP) (l : Int) (w : World) (hm : NdM n p w) (hok : nodeB n = true) (h5 : n.run ≠ 5) (hl : l = 0 ∨ l = 1) (hr : 0 ≤ n.run ∧ n.run ≤ 11) (hs : n.got.size ≤ 98) (htx : n.tx = true) (hp1 : n.ph = 1) (hk : l ≠ nextV n) (h2 : ¬ (nextV n = 0 ∨ 12 < n.got.size)) :
    Calls Tryz.prog 115 #[ndV n p, .int .i64 l] w (SampY n p (wholeN (hearN { n with tx := false } l), 0, zF) w) := by
  have hdr := drv_tx hp1 hok htx
  have dq : (l == drvP n) = false := beq_eq_false_iff_ne.2 (fun k => hk (k.trans hdr))
  replace htx := Lib.hid htx
  replace hk := Lib.hid hk
  replace hp1 := Lib.hid hp1
  have dz : (drvP n == 0) = false := beq_eq_false_iff_ne.2 (by rw [hdr]; exact fun k => h2 (.inl k))
  have d12 : decide (12 < (n.got.size : Int)) = false := decide_eq_false (by have := fun k => h2 (.inr k); omega)
  clear h2 hdr
  have d5 : (n.run == 5) = false := beq_eq_false_iff_ne.2 h5
  clear h5
  have X := N3.made (ndC n p) w
  go_enter Tryz.func115, Tryz.ntmps115
  go_upto_region 1 with fail
  generalize World.alloc _ _ = W at X ⊢
  generalize w.heap.size + 1 + 1 = gh at X ⊢
  generalize w.heap.size + 1 = gr at X ⊢
  generalize w.heap.size = g at X ⊢
  have c9 : W.cell? ⟨g, 9, none⟩ = some (.int .i64 n.run) := X.cell 9
  go_wp2_with (refine Nx.take ⟨X.blk, X.bel⟩ rfl rfl rfl ?_)
  clear c9
  refine (specDrv n p _ (hm.below X.bel) hok).mono ?_
  rintro e w2 ⟨rfl, b⟩
  replace X := X.below b
  clear b
  have c1 : w2.cell? ⟨g, 1, none⟩ = some (.bool n.tx) := X.cell 1
  have c8 : w2.cell? ⟨g, 8, none⟩ = some (.string n.got) := X.cell 8
  have f1 := X.free 1
  rw [htx.out] at c1
  generalize drvP n = q at *
  go_upto_region 12 with fail
  clear c1 c8 f1
  replace X : N3 g gr gh (ndC ({ n with tx := false }) p) w _ := (X.set 1 (.bool false))
  generalize World.setCell _ _ _ = W3 at X ⊢
  go_wp2_with (refine Nx.take ⟨X.blk, X.bel⟩ rfl rfl rfl ?_)
  refine (specHear ({ n with tx := false }) p l _ hl hr hs).mono ?_
  rintro e w5 ⟨rfl, b⟩
  replace X := X.below b
  clear b
  have hsz1 : (hearN ({ n with tx := false }) l).got.size ≤ maxLen := by have := hear_size ({ n with tx := false }) l; have h2 : n.got.size ≤ 98 := hs; have h3 : (hearN ({ n with tx := false }) l).got.size = n.got.size + 1 := this; unfold maxLen; omega
  go_wp2_with fail
  refine (specWhole (hearN ({ n with tx := false }) l) p _ hsz1).mono ?_
  rintro e wq ⟨rfl, b⟩
  replace X := X.below b
  clear b
  go_wp2_with fail
  refine (specHappen 0 _).mono ?_
  rintro e wr ⟨rfl, b⟩
  replace X := X.below b
  clear b
  obtain ⟨l1, l2, l3, l4, l5⟩ := wholeN_lists (hearN ({ n with tx := false }) l)
  have hsW : (wholeN (hearN ({ n with tx := false }) l)).got.size ≤ maxLen := by rw [l5]; exact hsz1
  clear l5
  replace l1 := Lib.hid l1
  replace l2 := Lib.hid l2
  replace l3 := Lib.hid l3
  replace l4 := Lib.hid l4
  go_wp2_with (first | (refine Nx.take ⟨X.blk, X.bel⟩ rfl rfl rfl ?_) | (refine wpList_put X.res rfl rfl rfl rfl rfl ?_) | (refine wpList_tell (k := 0) (f := zF) (ad := none) (cd := 0) (X.fin (ndC (wholeN (hearN ({ n with tx := false }) l)) p) #[]).1 rfl rfl rfl rfl rfl ?_))
  obtain ⟨-, Z1, Z2, Z3⟩ := X.fin (ndC (wholeN (hearN ({ n with tx := false }) l)) p) (hpC (0) (zF) (none) (0))
  refine bodyPost_ret (v := .tuple #[ndV (wholeN (hearN ({ n with tx := false }) l)) p, hpV (0) (zF) (none) (0)]) ?_ rfl ⟨p, none, 0, rfl, fun u k kn => ⟨kn.lists (l1.out.trans rfl) (l2.out.trans rfl) (l3.out.trans rfl) (l4.out.trans rfl) hsW, Nums.nil _⟩, Z3⟩
  exact results_both Tryz.results115 _ _ gr gh _ _ rfl rfl Z1 Z2 rfl rfl

set_option maxHeartbeats 8000000 in
/-- spec.l12Body, where it parts. -/
theorem specBodyPart (n : Nd) (p : NdP) (l : Int) (w : World) (hm : NdM n p w) (hok : nodeB n = true) (h5 : n.run ≠ 5) (htx : n.tx = true) (hp1 : n.ph = 1) (hk : l ≠ nextV n) (h2 : nextV n = 0 ∨ 12 < n.got.size) :
    Calls Tryz.prog 115 #[ndV n p, .int .i64 l] w (Told (brkN n).1 (brkN n).2.1 p w) := by
  have hdr := drv_tx hp1 hok htx
  have dq : (l == drvP n) = false := beq_eq_false_iff_ne.2 (fun k => hk (k.trans hdr))
  replace htx := Lib.hid htx
  replace hk := Lib.hid hk
  replace hp1 := Lib.hid hp1
  by_cases hz : nextV n = 0
  · have dz : (drvP n == 0) = true := beq_iff_eq.2 (hdr.trans hz)
    clear h2 hdr hz
    have d5 : (n.run == 5) = false := beq_eq_false_iff_ne.2 h5
    clear h5
    have X := N3.made (ndC n p) w
    go_enter Tryz.func115, Tryz.ntmps115
    go_upto_region 1 with fail
    generalize World.alloc _ _ = W at X ⊢
    generalize w.heap.size + 1 + 1 = gh at X ⊢
    generalize w.heap.size + 1 = gr at X ⊢
    generalize w.heap.size = g at X ⊢
    have c9 : W.cell? ⟨g, 9, none⟩ = some (.int .i64 n.run) := X.cell 9
    go_wp2_with (refine Nx.take ⟨X.blk, X.bel⟩ rfl rfl rfl ?_)
    clear c9
    refine (specDrv n p _ (hm.below X.bel) hok).mono ?_
    rintro e w2 ⟨rfl, b⟩
    replace X := X.below b
    clear b
    have c1 : w2.cell? ⟨g, 1, none⟩ = some (.bool n.tx) := X.cell 1
    have c8 : w2.cell? ⟨g, 8, none⟩ = some (.string n.got) := X.cell 8
    have f1 := X.free 1
    rw [htx.out] at c1
    generalize drvP n = q at *
    go_wp2_with (refine Nx.take ⟨X.blk, X.bel⟩ rfl rfl rfl ?_)
    clear c1 c8 f1
    refine (specBreak n p _).mono ?_
    rintro e wq ⟨rfl, b⟩
    replace X := X.below b
    clear b
    go_wp2_with (first | (refine Nx.take ⟨X.blk, X.bel⟩ rfl rfl rfl ?_) | (refine wpList_put X.res rfl rfl rfl rfl rfl ?_) | (refine wpList_tell (k := (brkN n).2.1) (f := zF) (ad := none) (cd := 0) (X.fin (ndC ((brkN n).1) p) #[]).1 rfl rfl rfl rfl rfl ?_))
    obtain ⟨-, Z1, Z2, Z3⟩ := X.fin (ndC ((brkN n).1) p) (hpC ((brkN n).2.1) (zF) (none) (0))
    refine bodyPost_ret (v := .tuple #[ndV ((brkN n).1) p, hpV ((brkN n).2.1) (zF) (none) (0)]) ?_ rfl ⟨rfl, Z3⟩
    exact results_both Tryz.results115 _ _ gr gh _ _ rfl rfl Z1 Z2 rfl rfl
  · have dz : (drvP n == 0) = false := beq_eq_false_iff_ne.2 (by rw [hdr]; exact hz)
    have d12 : decide (12 < (n.got.size : Int)) = true := decide_eq_true (by rcases h2 with h2 | h2; exact absurd h2 hz; omega)
    clear h2 hdr hz
    have d5 : (n.run == 5) = false := beq_eq_false_iff_ne.2 h5
    clear h5
    have X := N3.made (ndC n p) w
    go_enter Tryz.func115, Tryz.ntmps115
    go_upto_region 1 with fail
    generalize World.alloc _ _ = W at X ⊢
    generalize w.heap.size + 1 + 1 = gh at X ⊢
    generalize w.heap.size + 1 = gr at X ⊢
    generalize w.heap.size = g at X ⊢
    have c9 : W.cell? ⟨g, 9, none⟩ = some (.int .i64 n.run) := X.cell 9
    go_wp2_with (refine Nx.take ⟨X.blk, X.bel⟩ rfl rfl rfl ?_)
    clear c9
    refine (specDrv n p _ (hm.below X.bel) hok).mono ?_
    rintro e w2 ⟨rfl, b⟩
    replace X := X.below b
    clear b
    have c1 : w2.cell? ⟨g, 1, none⟩ = some (.bool n.tx) := X.cell 1
    have c8 : w2.cell? ⟨g, 8, none⟩ = some (.string n.got) := X.cell 8
    have f1 := X.free 1
    rw [htx.out] at c1
    generalize drvP n = q at *
    go_wp2_with (refine Nx.take ⟨X.blk, X.bel⟩ rfl rfl rfl ?_)
    clear c1 c8 f1
    refine (specBreak n p _).mono ?_
    rintro e wq ⟨rfl, b⟩
    replace X := X.below b
    clear b
    go_wp2_with (first | (refine Nx.take ⟨X.blk, X.bel⟩ rfl rfl rfl ?_) | (refine wpList_put X.res rfl rfl rfl rfl rfl ?_) | (refine wpList_tell (k := (brkN n).2.1) (f := zF) (ad := none) (cd := 0) (X.fin (ndC ((brkN n).1) p) #[]).1 rfl rfl rfl rfl rfl ?_))
    obtain ⟨-, Z1, Z2, Z3⟩ := X.fin (ndC ((brkN n).1) p) (hpC ((brkN n).2.1) (zF) (none) (0))
    refine bodyPost_ret (v := .tuple #[ndV ((brkN n).1) p, hpV ((brkN n).2.1) (zF) (none) (0)]) ?_ rfl ⟨rfl, Z3⟩
    exact results_both Tryz.results115 _ _ gr gh _ _ rfl rfl Z1 Z2 rfl rfl
end Go.Proofs.YtpenjbpcebfecaaGreatDoor

/- What the program's Sampled defers: a breach is caught, the answers are copied. -/

set_option linter.unusedVariables false
set_option linter.unusedSimpArgs false
set_option maxRecDepth 20000
namespace Go.Proofs.YtpenjbpcebfecaaGreatDoor
open Go.RowKit

/-- The results' rows. -/
structure K3 (gr gh : Nat) (C E : Array Value) (w0 w : World) : Prop where
  res : w.heap[gr]? = some (.cells C 32 (0, 0))
  hap : w.heap[gh]? = some (.cells E 36 (0, 0))
  bel : Below w0.heap.size w0 w
  hr : w0.heap.size ≤ gr
  hh : w0.heap.size ≤ gh
  rh : gh ≠ gr
section
variable {gr gh : Nat} {C E : Array Value} {w0 w w' : World}
theorem K3.lt (h : K3 gr gh C E w0 w) : gr < w.heap.size ∧ gh < w.heap.size := ⟨(Array.getElem?_eq_some_iff.1 h.res).1, (Array.getElem?_eq_some_iff.1 h.hap).1⟩
theorem K3.below (h : K3 gr gh C E w0 w) (b : Below w.heap.size w w') : K3 gr gh C E w0 w' := ⟨(b.block gr h.lt.1).trans h.res, (b.block gh h.lt.2).trans h.hap, Below.then2 h.bel b, h.hr, h.hh, h.rh⟩
theorem K3.drew' (h : K3 gr gh C E w0 w) : K3 gr gh C E w0 { w with drawn := w.drawn + 1 } := h.below (Below.refl _ _).drew
theorem K3.setR (h : K3 gr gh C E w0 w) (D : Array Value) : K3 gr gh D E w0 (w.setRow gr D) := ⟨setRow_heap _ _ _ _ _ _ h.res, (setRow_other w gr gh D h.rh).trans h.hap, below_setRow h.bel h.hr D, h.hr, h.hh, h.rh⟩
theorem K3.setH (h : K3 gr gh C E w0 w) (D : Array Value) : K3 gr gh C D w0 (w.setRow gh D) := ⟨(setRow_other w gh gr D (Ne.symm h.rh)).trans h.res, setRow_heap _ _ _ _ _ _ h.hap, below_setRow h.bel h.hh D, h.hr, h.hh, h.rh⟩
theorem K3.setK (h : K3 gr gh C E w0 w) (k : Nat) (v : Value) : K3 gr gh C (E.setIfInBounds k v) w0 (w.setCell ⟨gh, k, none⟩ v) :=
  ⟨(heap_setCell_other w ⟨gh, k, none⟩ gr v (Ne.symm h.rh)).trans h.res, heap_setCell_same w gh k _ _ v h.hap, h.bel.setCell h.hh _, h.hr, h.hh, h.rh⟩
theorem K3.cell (h : K3 gr gh C E w0 w) (k : Nat) : w.cell? ⟨gh, k, none⟩ = E[k]? := cell_of_row w gh k _ _ _ h.hap
theorem K3.free (h : K3 gr gh C E w0 w) (k : Nat) : w.frozen? ⟨gh, k, none⟩ = false := frozen_of_row w gh k _ _ h.hap
theorem K3.took {n : Nd} {p : NdP} (h : K3 gr gh (ndC n p) E w0 w) {o : Oper} {a : Act} {x : Operand} (ho : o.op = .load 32 x) (hx : a.eval x = .pointer (some ⟨gr, 0, none⟩)) : (execOp a.eval o).run Tryz.prog w = .ok (.value (ndV n p)) w := Nx.took (g := gr) (w0 := w0) ⟨h.res, h.bel⟩ ho hx
theorem K3.grown4 (w : World) (gh : Nat) (x0 x1 x2 x3 : Value) : w.grownBy ((((w.setCell ⟨gh, 1, none⟩ x0).setCell ⟨gh, 2, none⟩ x1).setCell ⟨gh, 3, none⟩ x2).setCell ⟨gh, 4, none⟩ x3) (some gh) :=
  grown_trans (grown_trans (grown_trans (grown_set w gh 1 x0) (grown_set _ gh 2 x1)) (grown_set _ gh 3 x2)) (grown_set _ gh 4 x3)
end
section
variable {P : Program} {K : Act → World → Prop} {Q : Exit → Act → World → Prop} {o : Oper} {a : Act} {w : World}
theorem op_value (d : Tmp) (v : Value) (hd : o.dst = some d) (hx : (execOp a.eval o).run P w = .ok (.value v) w) (k : K (a.put (some d) v) w) : o.wp P a w K Q := by
  unfold Oper.wp; rw [hx]; rw [← hd] at k; exact k
theorem op_call (d : Tmp) (f : FuncId) (args : Array Value) (hd : o.dst = some d) (hx : (execOp a.eval o).run P w = .ok (.enter f args) w)
    (h : Calls P f args w fun e w' => ∃ v, e = .returned v ∧ K (a.put (some d) v) w') : o.wp P a w K Q := by
  unfold Oper.wp
  rw [hx, Oper.upon_enter]
  exact h.mono fun e w' h' => by
    obtain ⟨v, he, k⟩ := h'
    subst he
    rw [← hd] at k
    exact k
theorem op_skip (w' : World) (hd : o.dst = none) (hx : (execOp a.eval o).run P w = .ok .skip w') (k : K a w') : o.wp P a w K Q := by
  unfold Oper.wp
  rw [hx]
  have e : a.put o.dst undef = a := by rw [hd]; rfl
  show K (a.put o.dst undef) w'
  rw [e]; exact k
theorem held_two {md : Region.Mode} {ops : Array Oper} {S : World → Prop} (i j : Nat) {oi oj : Oper} {fuel : Nat} {listed : Array Bool} (hi : ops[i]? = some oi) (hj : ops[j]? = some oj) (hr : Region.ready md ops listed = [i, j])
    (hwi : Region.wanted oi (yielded ops a.tmps) = true) (hwj : Region.wanted oj (yielded ops a.tmps) = true)
    (h1 : oi.wp P a w (fun a' w' => S w' ∧ wpAnyH P md ops Q S fuel (listed.setIfInBounds i true) a' w') Q)
    (h2 : oj.wp P a w (fun a' w' => S w' ∧ wpAnyH P md ops Q S fuel (listed.setIfInBounds j true) a' w') Q) : wpAnyH P md ops Q S (fuel + 1) listed a w := by
  refine wpAnyH_all hr (by simp) fun q hq => ?_
  rcases (show q = i ∨ q = j by simpa using hq) with rfl | rfl
  · unfold wpOp; simp only [hi]; rw [if_pos hwi]; exact .inl h1
  · unfold wpOp; simp only [hj]; rw [if_pos hwj]; exact .inl h2
end
/-- What it leaves: the results' rows, all copied. -/
def Done (gr gh : Nat) (n : Nd) (k : Int) (f : Frm) (w0 w w' : World) : Prop :=
  ∃ (p : NdP) (ad : Option Addr) (b1 b2 b3 b4 : Nat) (MB MF : List (Frm × Value)), K3 gr gh (ndC n p) (hpC k f ad f.D.length) w0 w' ∧ NdO w.heap.size b1 b2 b3 n p MB MF w' ∧ (∀ q, (Value.slice p.al n.flt.length p.cl).ownBlock = some q → q < b4) ∧ b3 ≤ b4
    ∧ OwnI b4 f.D (.slice ad f.D.length f.D.length) w'
/-- What is small enough to be copied. -/
structure Small (n : Nd) : Prop where
  dat : n.fr.D.length ≤ 1048576
  box : n.box.length ≤ 1000000
  box8 : ∀ j, j < n.box.length → (nthF n.box j).D.length ≤ 1048576
  fifo : n.fifo.length ≤ 1000000
  fifo8 : ∀ j, j < n.fifo.length → (nthF n.fifo j).D.length ≤ 1048576
  flt : n.flt.length ≤ 1048576

theorem NdO.keptG {B b1 b2 b3 g : Nat} {n : Nd} {p : NdP} {MB MF : List (Frm × Value)} {w w' : World} (h : NdO B b1 b2 b3 n p MB MF w) (k : w.grownBy w' (some g)) (hg : g < B) : NdO B b1 b2 b3 n p MB MF w' :=
  ⟨h.dat.kept2 k hg, h.box.kept2 k (by have := h.le; omega), h.fifo.kept2 k (by have := h.le; omega), h.flt.kept2 k (by have := h.le; omega), h.mb, h.mf, h.fb, h.ff, h.ub, h.ux, h.uf, h.le, h.got⟩
theorem NdO.belowO {B b1 b2 b3 : Nat} {n : Nd} {p : NdP} {MB MF : List (Frm × Value)} {w w' : World} (h : NdO B b1 b2 b3 n p MB MF w) (b : Below w.heap.size w w') : NdO B b1 b2 b3 n p MB MF w' :=
  ⟨h.dat.below' b, h.box.below b, h.fifo.below b, h.flt.below b, h.mb, h.mf, h.fb, h.ff, h.ub, h.ux, h.uf, h.le, h.got⟩
theorem NdO.monoB {B B' b1 b2 b3 : Nat} {n : Nd} {p : NdP} {MB MF : List (Frm × Value)} {w : World} (h : NdO B b1 b2 b3 n p MB MF w) (hB : B' ≤ B) : NdO B' b1 b2 b3 n p MB MF w :=
  ⟨h.dat.mono hB, h.box, h.fifo, h.flt, h.mb, h.mf, h.fb, h.ff, h.ub, h.ux, h.uf, ⟨Nat.le_trans hB h.le.1, h.le.2⟩, h.got⟩

set_option maxHeartbeats 16000000 in
/-- impl.Sampled$1, where nothing has been broken off. -/
theorem closBack (g gr gh : Nat) (n : Nd) (p : NdP) (k : Int) (f : Frm) (ad : Option Addr) (cd : Nat) (w0 w : World) (K : K3 gr gh (ndC n p) (hpC k f ad cd) w0 w) (hg0 : gr < w.heap.size) (hg1 : gh < w.heap.size) (hm : NdM n p w) (hN : Nums ad f.D w) (hs : Small n) (hf : f.D.length ≤ 1048576) :
    CallsD Tryz.prog 43 #[.pointer (some ⟨g, 0, none⟩), .pointer (some ⟨gr, 0, none⟩), .pointer (some ⟨gh, 0, none⟩)] .returning w fun e u' w' => e = .returned (.tuple #[]) ∧ u' = .returning ∧ Done gr gh n k f w0 w w' := by
  have hta : ∀ W : World, (Instr.typeAssert (Value.nilIface) 20 74 true).run Tryz.prog W = .ok (.tuple #[.agg #[], .bool false]) W := fun W => by kernel_rfl
  have hz : ∀ x y z : Value, (#[x, y, z] : Array Value) ++ Array.replicate (Tryz.f43.ntmps - (#[x, y, z] : Array Value).size) undef = #[x, y, z, undef, undef, undef, undef, undef, undef, undef, undef, undef, undef, undef, undef, undef, undef, undef, undef, undef, undef, undef] := fun x y z => by rw [Tryz.ntmps43]; rfl
  refine callsD_of_wpS Tryz.func43 rfl fun c₀ cs hu => ?_
  rw [hz]
  clear hz
  apply wpS_seq
  apply wpS_seq
  apply wpS_region
  generalize hQ : Exit.thenS _ _ = Q1
  simp [wpOpsS, go_sem, recoverD, hu, hta]
  subst hQ
  simp only [Exit.thenS]
  have bb := below_more (Below.refl w.heap.size w) (.cells #[] 74)
  replace K := K.below bb
  apply wpS_seq
  apply wpS_region
  generalize hQ : Exit.thenS _ _ = Q1
  simp [wpOpsS, go_sem]
  subst hQ
  simp only [Exit.thenS]
  refine wpS_cond (t := false) (by simp [Act.eval]) ?_
  simp only [Bool.false_eq_true, if_false]
  replace hm := hm.below bb
  replace hN := hN.below bb
  generalize w.alloc _ = W at K hm hN bb ⊢
  have hsW := bb.size
  have hr0 := K.hr
  have hh0 := K.hh
  refine wpS_of_wp ?_
  go_wp2_with fail
  simp only [Exit.thenS]
  refine wpS_of_wp ?_
  refine wp_region_held (S := fun _ => True) (by kernel_rfl) ?_
  replace K := K.drew'
  replace hm : NdM (n) (p) { W with drawn := W.drawn + 1 } := hm.drew
  replace hN : Nums ad (f).D { W with drawn := W.drawn + 1 } := hN.drew
  have hV : w.heap.size ≤ ({ W with drawn := W.drawn + 1 } : World).heap.size := hsW
  generalize ({ W with drawn := W.drawn + 1 } : World) = V at K hm hN hV ⊢
  refine take_at 2 _ (.pointer (some ⟨gh, 1, none⟩)) rfl rfl (by kernel_rfl) (by kernel_rfl) (by kernel_rfl) (fun _ _ _ h => h) (.inl ⟨rfl, fun u hu => by go_simp⟩) trivial ?_
  simp only [Act.put, List.setIfInBounds_toArray, List.set_cons_zero, List.set_cons_succ]
  have d1 : V.cell? ⟨gh, 1, none⟩ = some (.int .i64 (f).id) := K.cell 1
  have d2 : V.cell? ⟨gh, 2, none⟩ = some (.bool (f).rm) := K.cell 2
  have d3 : V.cell? ⟨gh, 3, none⟩ = some (.int .i64 (f).ln) := K.cell 3
  have d4 : V.cell? ⟨gh, 4, none⟩ = some (.slice ad (f).D.length cd) := K.cell 4
  refine held_two 0 3 rfl rfl (by kernel_rfl) rfl rfl (op_value _ (ndV (n) (p)) rfl (K.took rfl rfl) ⟨trivial, ?_⟩) (op_value _ (frV (f).id (f).rm (f).ln ad (f).D.length cd) rfl (by go_simp) ⟨trivial, ?_⟩)
  · simp only [Act.put, List.setIfInBounds_toArray, List.set_cons_zero, List.set_cons_succ]
    refine held_two 1 3 rfl rfl (by kernel_rfl) rfl rfl (op_call _ 45 #[ndV (n) (p)] rfl (by go_simp) ?_) (op_value _ (frV (f).id (f).rm (f).ln ad (f).D.length cd) rfl (by go_simp) ⟨trivial, ?_⟩)
    · clear d1 d2 d3 d4
      refine (implCopied (n) (p) _ hm hs.dat hs.box hs.box8 hs.fifo hs.fifo8 hs.flt).mono ?_
      rintro e W2 ⟨p2, b1, b2, b3, MB, MF, rfl, O, b, hb3⟩
      have hsz := b.size
      replace K := K.below b
      replace hN := hN.below b
      have U2 : ∀ q, (Value.slice p2.al (n).flt.length p2.cl).ownBlock = some q → q < W2.heap.size := fun q hq => (World.ownsRow.lt O.flt q hq).2
      refine ⟨_, rfl, trivial, ?_⟩
      simp only [Act.put, List.setIfInBounds_toArray, List.set_cons_zero, List.set_cons_succ]
      have d1 : W2.cell? ⟨gh, 1, none⟩ = some (.int .i64 (f).id) := K.cell 1
      have d2 : W2.cell? ⟨gh, 2, none⟩ = some (.bool (f).rm) := K.cell 2
      have d3 : W2.cell? ⟨gh, 3, none⟩ = some (.int .i64 (f).ln) := K.cell 3
      have d4 : W2.cell? ⟨gh, 4, none⟩ = some (.slice ad (f).D.length cd) := K.cell 4
      refine held_op 3 rfl (by kernel_rfl) rfl (op_value _ (frV (f).id (f).rm (f).ln ad (f).D.length cd) rfl (by go_simp) ⟨trivial, ?_⟩)
      simp only [Act.put, List.setIfInBounds_toArray, List.set_cons_zero, List.set_cons_succ]
      clear d1 d2 d3 d4
      have hlt := K.lt
      refine call_at 4 _ 46 #[(frV (f).id (f).rm (f).ln ad (f).D.length cd)] rfl rfl (by kernel_rfl) rfl (by go_simp) ?_
      refine (copiedFr (f).id (f).rm (f).ln ad (f).D cd _ hN hf).mono ?_
      rintro e W3 ⟨a3, rfl, O3, b3'⟩
      replace K := K.below b3'
      replace O := O.belowO b3'
      clear b3'
      refine ⟨_, rfl, trivial, ?_⟩
      simp only [Act.put, List.setIfInBounds_toArray, List.set_cons_zero, List.set_cons_succ]
      refine held_row 5 gr (ndC (n) p2) rfl (by kernel_rfl) rfl rfl rfl rfl rfl K.res (by kernel_rfl) rfl (ndC_one _ _) trivial ?_
      replace K := K.setR (ndC (n) p2)
      replace O := O.keptG (grown_row _ gr (ndC (n) p2)) (by omega)
      replace O3 := O3.kept2 (grown_row _ gr (ndC (n) p2)) hlt.1
      generalize World.setRow _ _ _ = W4 at K O O3 ⊢
      refine value_at 6 _ (.pointer (some ⟨gh, 1, none⟩)) rfl rfl (by kernel_rfl) rfl (by go_simp) trivial ?_
      simp only [Act.put, List.setIfInBounds_toArray, List.set_cons_zero, List.set_cons_succ]
      have d1 : W4.cell? ⟨gh, 1, none⟩ = some (.int .i64 (f).id) := K.cell 1
      have d2 : W4.cell? ⟨gh, 2, none⟩ = some (.bool (f).rm) := K.cell 2
      have d3 : W4.cell? ⟨gh, 3, none⟩ = some (.int .i64 (f).ln) := K.cell 3
      have d4 : W4.cell? ⟨gh, 4, none⟩ = some (.slice ad (f).D.length cd) := K.cell 4
      obtain ⟨q1, q2, q3, q4⟩ : _ ∧ _ ∧ _ ∧ _ := ⟨K.free 1, K.free 2, K.free 3, K.free 4⟩
      refine held_op 7 rfl (by kernel_rfl) rfl (op_skip ((((W4.setCell ⟨gh, 1, none⟩ (.int .i64 (f).id)).setCell ⟨gh, 2, none⟩ (.bool (f).rm)).setCell ⟨gh, 3, none⟩ (.int .i64 (f).ln)).setCell ⟨gh, 4, none⟩ (.slice a3 (f).D.length (f).D.length)) rfl (by go_simp) ⟨trivial, ?_⟩)
      replace K : K3 gr gh (ndC (n) p2) (hpC k (f) a3 (f).D.length) w0 _ := (((K.setK 1 (.int .i64 (f).id)).setK 2 (.bool (f).rm)).setK 3 (.int .i64 (f).ln)).setK 4 (.slice a3 (f).D.length (f).D.length)
      replace O := O.keptG (K3.grown4 W4 gh (.int .i64 (f).id) (.bool (f).rm) (.int .i64 (f).ln) (.slice a3 (f).D.length (f).D.length)) (by omega)
      replace O3 := O3.kept2 (K3.grown4 W4 gh (.int .i64 (f).id) (.bool (f).rm) (.int .i64 (f).ln) (.slice a3 (f).D.length (f).D.length)) hlt.2
      clear d1 d2 d3 d4 q1 q2 q3 q4
      generalize World.setCell _ _ _ = W5 at K O O3 ⊢
      refine wpAnyH_done (by kernel_rfl) ?_ _
      refine ⟨rfl, .returning, by rw [← hu], .tuple #[], results_none rfl _ _ _, rfl, rfl, p2, a3, b1, b2, b3, W2.heap.size, MB, MF, K, O.monoB hV, U2, hb3, O3⟩
    · simp only [Act.put, List.setIfInBounds_toArray, List.set_cons_zero, List.set_cons_succ]
      clear d1 d2 d3 d4
      refine call_at 1 _ 45 #[ndV (n) (p)] rfl rfl (by kernel_rfl) rfl (by go_simp) ?_
      refine (implCopied (n) (p) _ hm hs.dat hs.box hs.box8 hs.fifo hs.fifo8 hs.flt).mono ?_
      rintro e W2 ⟨p2, b1, b2, b3, MB, MF, rfl, O, b, hb3⟩
      have hsz := b.size
      replace K := K.below b
      replace hN := hN.below b
      have U2 : ∀ q, (Value.slice p2.al (n).flt.length p2.cl).ownBlock = some q → q < W2.heap.size := fun q hq => (World.ownsRow.lt O.flt q hq).2
      refine ⟨_, rfl, trivial, ?_⟩
      simp only [Act.put, List.setIfInBounds_toArray, List.set_cons_zero, List.set_cons_succ]
      have hlt := K.lt
      refine call_at 4 _ 46 #[(frV (f).id (f).rm (f).ln ad (f).D.length cd)] rfl rfl (by kernel_rfl) rfl (by go_simp) ?_
      refine (copiedFr (f).id (f).rm (f).ln ad (f).D cd _ hN hf).mono ?_
      rintro e W3 ⟨a3, rfl, O3, b3'⟩
      replace K := K.below b3'
      replace O := O.belowO b3'
      clear b3'
      refine ⟨_, rfl, trivial, ?_⟩
      simp only [Act.put, List.setIfInBounds_toArray, List.set_cons_zero, List.set_cons_succ]
      refine held_row 5 gr (ndC (n) p2) rfl (by kernel_rfl) rfl rfl rfl rfl rfl K.res (by kernel_rfl) rfl (ndC_one _ _) trivial ?_
      replace K := K.setR (ndC (n) p2)
      replace O := O.keptG (grown_row _ gr (ndC (n) p2)) (by omega)
      replace O3 := O3.kept2 (grown_row _ gr (ndC (n) p2)) hlt.1
      generalize World.setRow _ _ _ = W4 at K O O3 ⊢
      refine value_at 6 _ (.pointer (some ⟨gh, 1, none⟩)) rfl rfl (by kernel_rfl) rfl (by go_simp) trivial ?_
      simp only [Act.put, List.setIfInBounds_toArray, List.set_cons_zero, List.set_cons_succ]
      have d1 : W4.cell? ⟨gh, 1, none⟩ = some (.int .i64 (f).id) := K.cell 1
      have d2 : W4.cell? ⟨gh, 2, none⟩ = some (.bool (f).rm) := K.cell 2
      have d3 : W4.cell? ⟨gh, 3, none⟩ = some (.int .i64 (f).ln) := K.cell 3
      have d4 : W4.cell? ⟨gh, 4, none⟩ = some (.slice ad (f).D.length cd) := K.cell 4
      obtain ⟨q1, q2, q3, q4⟩ : _ ∧ _ ∧ _ ∧ _ := ⟨K.free 1, K.free 2, K.free 3, K.free 4⟩
      refine held_op 7 rfl (by kernel_rfl) rfl (op_skip ((((W4.setCell ⟨gh, 1, none⟩ (.int .i64 (f).id)).setCell ⟨gh, 2, none⟩ (.bool (f).rm)).setCell ⟨gh, 3, none⟩ (.int .i64 (f).ln)).setCell ⟨gh, 4, none⟩ (.slice a3 (f).D.length (f).D.length)) rfl (by go_simp) ⟨trivial, ?_⟩)
      replace K : K3 gr gh (ndC (n) p2) (hpC k (f) a3 (f).D.length) w0 _ := (((K.setK 1 (.int .i64 (f).id)).setK 2 (.bool (f).rm)).setK 3 (.int .i64 (f).ln)).setK 4 (.slice a3 (f).D.length (f).D.length)
      replace O := O.keptG (K3.grown4 W4 gh (.int .i64 (f).id) (.bool (f).rm) (.int .i64 (f).ln) (.slice a3 (f).D.length (f).D.length)) (by omega)
      replace O3 := O3.kept2 (K3.grown4 W4 gh (.int .i64 (f).id) (.bool (f).rm) (.int .i64 (f).ln) (.slice a3 (f).D.length (f).D.length)) hlt.2
      clear d1 d2 d3 d4 q1 q2 q3 q4
      generalize World.setCell _ _ _ = W5 at K O O3 ⊢
      refine wpAnyH_done (by kernel_rfl) ?_ _
      refine ⟨rfl, .returning, by rw [← hu], .tuple #[], results_none rfl _ _ _, rfl, rfl, p2, a3, b1, b2, b3, W2.heap.size, MB, MF, K, O.monoB hV, U2, hb3, O3⟩
  · simp only [Act.put, List.setIfInBounds_toArray, List.set_cons_zero, List.set_cons_succ]
    clear d1 d2 d3 d4
    refine held_op 0 rfl (by kernel_rfl) rfl (op_value _ (ndV (n) (p)) rfl (K.took rfl rfl) ⟨trivial, ?_⟩)
    simp only [Act.put, List.setIfInBounds_toArray, List.set_cons_zero, List.set_cons_succ]
    refine call_at 1 _ 45 #[ndV (n) (p)] rfl rfl (by kernel_rfl) rfl (by go_simp) ?_
    refine (implCopied (n) (p) _ hm hs.dat hs.box hs.box8 hs.fifo hs.fifo8 hs.flt).mono ?_
    rintro e W2 ⟨p2, b1, b2, b3, MB, MF, rfl, O, b, hb3⟩
    have hsz := b.size
    replace K := K.below b
    replace hN := hN.below b
    have U2 : ∀ q, (Value.slice p2.al (n).flt.length p2.cl).ownBlock = some q → q < W2.heap.size := fun q hq => (World.ownsRow.lt O.flt q hq).2
    refine ⟨_, rfl, trivial, ?_⟩
    simp only [Act.put, List.setIfInBounds_toArray, List.set_cons_zero, List.set_cons_succ]
    have hlt := K.lt
    refine call_at 4 _ 46 #[(frV (f).id (f).rm (f).ln ad (f).D.length cd)] rfl rfl (by kernel_rfl) rfl (by go_simp) ?_
    refine (copiedFr (f).id (f).rm (f).ln ad (f).D cd _ hN hf).mono ?_
    rintro e W3 ⟨a3, rfl, O3, b3'⟩
    replace K := K.below b3'
    replace O := O.belowO b3'
    clear b3'
    refine ⟨_, rfl, trivial, ?_⟩
    simp only [Act.put, List.setIfInBounds_toArray, List.set_cons_zero, List.set_cons_succ]
    refine held_row 5 gr (ndC (n) p2) rfl (by kernel_rfl) rfl rfl rfl rfl rfl K.res (by kernel_rfl) rfl (ndC_one _ _) trivial ?_
    replace K := K.setR (ndC (n) p2)
    replace O := O.keptG (grown_row _ gr (ndC (n) p2)) (by omega)
    replace O3 := O3.kept2 (grown_row _ gr (ndC (n) p2)) hlt.1
    generalize World.setRow _ _ _ = W4 at K O O3 ⊢
    refine value_at 6 _ (.pointer (some ⟨gh, 1, none⟩)) rfl rfl (by kernel_rfl) rfl (by go_simp) trivial ?_
    simp only [Act.put, List.setIfInBounds_toArray, List.set_cons_zero, List.set_cons_succ]
    have d1 : W4.cell? ⟨gh, 1, none⟩ = some (.int .i64 (f).id) := K.cell 1
    have d2 : W4.cell? ⟨gh, 2, none⟩ = some (.bool (f).rm) := K.cell 2
    have d3 : W4.cell? ⟨gh, 3, none⟩ = some (.int .i64 (f).ln) := K.cell 3
    have d4 : W4.cell? ⟨gh, 4, none⟩ = some (.slice ad (f).D.length cd) := K.cell 4
    obtain ⟨q1, q2, q3, q4⟩ : _ ∧ _ ∧ _ ∧ _ := ⟨K.free 1, K.free 2, K.free 3, K.free 4⟩
    refine held_op 7 rfl (by kernel_rfl) rfl (op_skip ((((W4.setCell ⟨gh, 1, none⟩ (.int .i64 (f).id)).setCell ⟨gh, 2, none⟩ (.bool (f).rm)).setCell ⟨gh, 3, none⟩ (.int .i64 (f).ln)).setCell ⟨gh, 4, none⟩ (.slice a3 (f).D.length (f).D.length)) rfl (by go_simp) ⟨trivial, ?_⟩)
    replace K : K3 gr gh (ndC (n) p2) (hpC k (f) a3 (f).D.length) w0 _ := (((K.setK 1 (.int .i64 (f).id)).setK 2 (.bool (f).rm)).setK 3 (.int .i64 (f).ln)).setK 4 (.slice a3 (f).D.length (f).D.length)
    replace O := O.keptG (K3.grown4 W4 gh (.int .i64 (f).id) (.bool (f).rm) (.int .i64 (f).ln) (.slice a3 (f).D.length (f).D.length)) (by omega)
    replace O3 := O3.kept2 (K3.grown4 W4 gh (.int .i64 (f).id) (.bool (f).rm) (.int .i64 (f).ln) (.slice a3 (f).D.length (f).D.length)) hlt.2
    clear d1 d2 d3 d4 q1 q2 q3 q4
    generalize World.setCell _ _ _ = W5 at K O O3 ⊢
    refine wpAnyH_done (by kernel_rfl) ?_ _
    refine ⟨rfl, .returning, by rw [← hu], .tuple #[], results_none rfl _ _ _, rfl, rfl, p2, a3, b1, b2, b3, W2.heap.size, MB, MF, K, O.monoB hV, U2, hb3, O3⟩

theorem brkN_lists (n : Nd) : (brkN n).1.fr = n.fr ∧ (brkN n).1.box = n.box ∧ (brkN n).1.fifo = n.fifo ∧ (brkN n).1.flt = n.flt ∧ (brkN n).1.got.size ≤ maxLen := by
  unfold brkN; split <;> exact ⟨rfl, rfl, rfl, rfl, Nat.zero_le _⟩

set_option maxHeartbeats 16000000 in
/-- impl.Sampled$1, where the node has broken off. -/
theorem closCaught (g gr gh : Nat) (n : Nd) (p : NdP) (a0 w0 w : World) (K : K3 gr gh ndZ hpZ w0 w) (G0 : w.heap[g]? = some (.cells (ndC n p) 32 (0, 0))) (hg0 : gr < w.heap.size) (hg1 : gh < w.heap.size) (h0 : NdM n p a0) (ha0 : Below a0.heap.size a0 w0) (hs : Small (brkN n).1) :
    CallsD Tryz.prog 43 #[.pointer (some ⟨g, 0, none⟩), .pointer (some ⟨gr, 0, none⟩), .pointer (some ⟨gh, 0, none⟩)] (.panicking [{ v := .iface 74 (.agg #[]), recovered := false }]) w fun e u' w' => e = .returned (.tuple #[]) ∧ u' = .panicking [{ v := .iface 74 (.agg #[]), recovered := true }] ∧ Done gr gh (brkN n).1 (brkN n).2.1 zF w0 w w' := by
  have hta : ∀ W : World, (Instr.typeAssert (.iface 74 (.agg #[])) 20 74 true).run Tryz.prog W = .ok (.tuple #[.agg #[], .bool true]) W := fun W => by kernel_rfl
  have hz : ∀ x y z : Value, (#[x, y, z] : Array Value) ++ Array.replicate (Tryz.f43.ntmps - (#[x, y, z] : Array Value).size) undef = #[x, y, z, undef, undef, undef, undef, undef, undef, undef, undef, undef, undef, undef, undef, undef, undef, undef, undef, undef, undef, undef] := fun x y z => by rw [Tryz.ntmps43]; rfl
  refine callsD_of_wpS Tryz.func43 rfl fun c₀ cs hu => ?_
  rw [hz]
  clear hz
  apply wpS_seq
  apply wpS_seq
  apply wpS_region
  generalize hQ : Exit.thenS _ _ = Q1
  simp [wpOpsS, go_sem, recoverD, hu, hta]
  subst hQ
  simp only [Exit.thenS]
  have bb := below_more (Below.refl w.heap.size w) (.cells #[] 74)
  replace K := K.below bb
  apply wpS_seq
  apply wpS_region
  generalize hQ : Exit.thenS _ _ = Q1
  simp [wpOpsS, go_sem]
  subst hQ
  simp only [Exit.thenS]
  refine wpS_cond (t := true) (by simp [Act.eval]) ?_
  simp only [if_true]
  generalize w.alloc _ = W at K bb ⊢
  have hbw := bb
  have G : Nx g n p w W := ⟨(bb.block g (Array.getElem?_eq_some_iff.1 G0).1).trans G0, bb⟩
  have hlt := K.lt
  refine wpS_of_wp ?_
  go_wp2_with (refine Nx.take G rfl rfl rfl ?_)
  refine (implBroken n p _).mono ?_
  rintro e W6 ⟨rfl, b⟩
  have hbw6 := hbw.trans (b.mono hbw.size)
  replace K := K.below b
  clear b
  go_wp2_with (first | (refine wpList_put (n := (brkN n).1) (p := p) K.res rfl rfl rfl rfl rfl ?_) | (refine wpList_tell (k := (brkN n).2.1) (f := zF) (ad := none) (cd := 0) (K.setR (ndC (brkN n).1 p)).hap rfl rfl rfl rfl rfl ?_))
  replace K := (K.setR (ndC (brkN n).1 p)).setH (hpC (brkN n).2.1 zF none 0)
  have hsW : w.heap.size ≤ ((W6.setRow gr (ndC (brkN n).1 p)).setRow gh (hpC (brkN n).2.1 zF none 0)).heap.size := by simpa using hbw6.size
  generalize World.setRow _ _ _ = W7 at K hsW ⊢
  obtain ⟨l1, l2, l3, l4, l5⟩ := brkN_lists n
  have hm : NdM (brkN n).1 p W7 := (h0.below (from0 ha0 K.bel)).lists l1 l2 l3 l4 l5
  have hN : Nums none zF.D W7 := Nums.nil _
  have hf : zF.D.length ≤ 1048576 := by decide
  generalize (brkN n).1 = m at *
  generalize (brkN n).2.1 = k at *
  generalize zF = f at *
  simp only [Exit.thenS]
  refine wpS_of_wp ?_
  refine wp_region_held (S := fun _ => True) (by kernel_rfl) ?_
  replace K := K.drew'
  replace hm : NdM (m) (p) { W7 with drawn := W7.drawn + 1 } := hm.drew
  replace hN : Nums none (f).D { W7 with drawn := W7.drawn + 1 } := hN.drew
  have hV : w.heap.size ≤ ({ W7 with drawn := W7.drawn + 1 } : World).heap.size := hsW
  generalize ({ W7 with drawn := W7.drawn + 1 } : World) = V at K hm hN hV ⊢
  refine take_at 2 _ (.pointer (some ⟨gh, 1, none⟩)) rfl rfl (by kernel_rfl) (by kernel_rfl) (by kernel_rfl) (fun _ _ _ h => h) (.inl ⟨rfl, fun u hu => by go_simp⟩) trivial ?_
  simp only [Act.put, List.setIfInBounds_toArray, List.set_cons_zero, List.set_cons_succ]
  have d1 : V.cell? ⟨gh, 1, none⟩ = some (.int .i64 (f).id) := K.cell 1
  have d2 : V.cell? ⟨gh, 2, none⟩ = some (.bool (f).rm) := K.cell 2
  have d3 : V.cell? ⟨gh, 3, none⟩ = some (.int .i64 (f).ln) := K.cell 3
  have d4 : V.cell? ⟨gh, 4, none⟩ = some (.slice none (f).D.length 0) := K.cell 4
  refine held_two 0 3 rfl rfl (by kernel_rfl) rfl rfl (op_value _ (ndV (m) (p)) rfl (K.took rfl rfl) ⟨trivial, ?_⟩) (op_value _ (frV (f).id (f).rm (f).ln none (f).D.length 0) rfl (by go_simp) ⟨trivial, ?_⟩)
  · simp only [Act.put, List.setIfInBounds_toArray, List.set_cons_zero, List.set_cons_succ]
    refine held_two 1 3 rfl rfl (by kernel_rfl) rfl rfl (op_call _ 45 #[ndV (m) (p)] rfl (by go_simp) ?_) (op_value _ (frV (f).id (f).rm (f).ln none (f).D.length 0) rfl (by go_simp) ⟨trivial, ?_⟩)
    · clear d1 d2 d3 d4
      refine (implCopied (m) (p) _ hm hs.dat hs.box hs.box8 hs.fifo hs.fifo8 hs.flt).mono ?_
      rintro e W2 ⟨p2, b1, b2, b3, MB, MF, rfl, O, b, hb3⟩
      have hsz := b.size
      replace K := K.below b
      replace hN := hN.below b
      have U2 : ∀ q, (Value.slice p2.al (m).flt.length p2.cl).ownBlock = some q → q < W2.heap.size := fun q hq => (World.ownsRow.lt O.flt q hq).2
      refine ⟨_, rfl, trivial, ?_⟩
      simp only [Act.put, List.setIfInBounds_toArray, List.set_cons_zero, List.set_cons_succ]
      have d1 : W2.cell? ⟨gh, 1, none⟩ = some (.int .i64 (f).id) := K.cell 1
      have d2 : W2.cell? ⟨gh, 2, none⟩ = some (.bool (f).rm) := K.cell 2
      have d3 : W2.cell? ⟨gh, 3, none⟩ = some (.int .i64 (f).ln) := K.cell 3
      have d4 : W2.cell? ⟨gh, 4, none⟩ = some (.slice none (f).D.length 0) := K.cell 4
      refine held_op 3 rfl (by kernel_rfl) rfl (op_value _ (frV (f).id (f).rm (f).ln none (f).D.length 0) rfl (by go_simp) ⟨trivial, ?_⟩)
      simp only [Act.put, List.setIfInBounds_toArray, List.set_cons_zero, List.set_cons_succ]
      clear d1 d2 d3 d4
      have hlt := K.lt
      refine call_at 4 _ 46 #[(frV (f).id (f).rm (f).ln none (f).D.length 0)] rfl rfl (by kernel_rfl) rfl (by go_simp) ?_
      refine (copiedFr (f).id (f).rm (f).ln none (f).D 0 _ hN hf).mono ?_
      rintro e W3 ⟨a3, rfl, O3, b3'⟩
      replace K := K.below b3'
      replace O := O.belowO b3'
      clear b3'
      refine ⟨_, rfl, trivial, ?_⟩
      simp only [Act.put, List.setIfInBounds_toArray, List.set_cons_zero, List.set_cons_succ]
      refine held_row 5 gr (ndC (m) p2) rfl (by kernel_rfl) rfl rfl rfl rfl rfl K.res (by kernel_rfl) rfl (ndC_one _ _) trivial ?_
      replace K := K.setR (ndC (m) p2)
      replace O := O.keptG (grown_row _ gr (ndC (m) p2)) (by omega)
      replace O3 := O3.kept2 (grown_row _ gr (ndC (m) p2)) hlt.1
      generalize World.setRow _ _ _ = W4 at K O O3 ⊢
      refine value_at 6 _ (.pointer (some ⟨gh, 1, none⟩)) rfl rfl (by kernel_rfl) rfl (by go_simp) trivial ?_
      simp only [Act.put, List.setIfInBounds_toArray, List.set_cons_zero, List.set_cons_succ]
      have d1 : W4.cell? ⟨gh, 1, none⟩ = some (.int .i64 (f).id) := K.cell 1
      have d2 : W4.cell? ⟨gh, 2, none⟩ = some (.bool (f).rm) := K.cell 2
      have d3 : W4.cell? ⟨gh, 3, none⟩ = some (.int .i64 (f).ln) := K.cell 3
      have d4 : W4.cell? ⟨gh, 4, none⟩ = some (.slice none (f).D.length 0) := K.cell 4
      obtain ⟨q1, q2, q3, q4⟩ : _ ∧ _ ∧ _ ∧ _ := ⟨K.free 1, K.free 2, K.free 3, K.free 4⟩
      refine held_op 7 rfl (by kernel_rfl) rfl (op_skip ((((W4.setCell ⟨gh, 1, none⟩ (.int .i64 (f).id)).setCell ⟨gh, 2, none⟩ (.bool (f).rm)).setCell ⟨gh, 3, none⟩ (.int .i64 (f).ln)).setCell ⟨gh, 4, none⟩ (.slice a3 (f).D.length (f).D.length)) rfl (by go_simp) ⟨trivial, ?_⟩)
      replace K : K3 gr gh (ndC (m) p2) (hpC k (f) a3 (f).D.length) w0 _ := (((K.setK 1 (.int .i64 (f).id)).setK 2 (.bool (f).rm)).setK 3 (.int .i64 (f).ln)).setK 4 (.slice a3 (f).D.length (f).D.length)
      replace O := O.keptG (K3.grown4 W4 gh (.int .i64 (f).id) (.bool (f).rm) (.int .i64 (f).ln) (.slice a3 (f).D.length (f).D.length)) (by omega)
      replace O3 := O3.kept2 (K3.grown4 W4 gh (.int .i64 (f).id) (.bool (f).rm) (.int .i64 (f).ln) (.slice a3 (f).D.length (f).D.length)) hlt.2
      clear d1 d2 d3 d4 q1 q2 q3 q4
      generalize World.setCell _ _ _ = W5 at K O O3 ⊢
      refine wpAnyH_done (by kernel_rfl) ?_ _
      refine ⟨rfl, .panicking [{ v := .iface 74 (.agg #[]), recovered := true }], rfl, .tuple #[], results_none rfl _ _ _, rfl, rfl, p2, a3, b1, b2, b3, W2.heap.size, MB, MF, K, O.monoB hV, U2, hb3, O3⟩
    · simp only [Act.put, List.setIfInBounds_toArray, List.set_cons_zero, List.set_cons_succ]
      clear d1 d2 d3 d4
      refine call_at 1 _ 45 #[ndV (m) (p)] rfl rfl (by kernel_rfl) rfl (by go_simp) ?_
      refine (implCopied (m) (p) _ hm hs.dat hs.box hs.box8 hs.fifo hs.fifo8 hs.flt).mono ?_
      rintro e W2 ⟨p2, b1, b2, b3, MB, MF, rfl, O, b, hb3⟩
      have hsz := b.size
      replace K := K.below b
      replace hN := hN.below b
      have U2 : ∀ q, (Value.slice p2.al (m).flt.length p2.cl).ownBlock = some q → q < W2.heap.size := fun q hq => (World.ownsRow.lt O.flt q hq).2
      refine ⟨_, rfl, trivial, ?_⟩
      simp only [Act.put, List.setIfInBounds_toArray, List.set_cons_zero, List.set_cons_succ]
      have hlt := K.lt
      refine call_at 4 _ 46 #[(frV (f).id (f).rm (f).ln none (f).D.length 0)] rfl rfl (by kernel_rfl) rfl (by go_simp) ?_
      refine (copiedFr (f).id (f).rm (f).ln none (f).D 0 _ hN hf).mono ?_
      rintro e W3 ⟨a3, rfl, O3, b3'⟩
      replace K := K.below b3'
      replace O := O.belowO b3'
      clear b3'
      refine ⟨_, rfl, trivial, ?_⟩
      simp only [Act.put, List.setIfInBounds_toArray, List.set_cons_zero, List.set_cons_succ]
      refine held_row 5 gr (ndC (m) p2) rfl (by kernel_rfl) rfl rfl rfl rfl rfl K.res (by kernel_rfl) rfl (ndC_one _ _) trivial ?_
      replace K := K.setR (ndC (m) p2)
      replace O := O.keptG (grown_row _ gr (ndC (m) p2)) (by omega)
      replace O3 := O3.kept2 (grown_row _ gr (ndC (m) p2)) hlt.1
      generalize World.setRow _ _ _ = W4 at K O O3 ⊢
      refine value_at 6 _ (.pointer (some ⟨gh, 1, none⟩)) rfl rfl (by kernel_rfl) rfl (by go_simp) trivial ?_
      simp only [Act.put, List.setIfInBounds_toArray, List.set_cons_zero, List.set_cons_succ]
      have d1 : W4.cell? ⟨gh, 1, none⟩ = some (.int .i64 (f).id) := K.cell 1
      have d2 : W4.cell? ⟨gh, 2, none⟩ = some (.bool (f).rm) := K.cell 2
      have d3 : W4.cell? ⟨gh, 3, none⟩ = some (.int .i64 (f).ln) := K.cell 3
      have d4 : W4.cell? ⟨gh, 4, none⟩ = some (.slice none (f).D.length 0) := K.cell 4
      obtain ⟨q1, q2, q3, q4⟩ : _ ∧ _ ∧ _ ∧ _ := ⟨K.free 1, K.free 2, K.free 3, K.free 4⟩
      refine held_op 7 rfl (by kernel_rfl) rfl (op_skip ((((W4.setCell ⟨gh, 1, none⟩ (.int .i64 (f).id)).setCell ⟨gh, 2, none⟩ (.bool (f).rm)).setCell ⟨gh, 3, none⟩ (.int .i64 (f).ln)).setCell ⟨gh, 4, none⟩ (.slice a3 (f).D.length (f).D.length)) rfl (by go_simp) ⟨trivial, ?_⟩)
      replace K : K3 gr gh (ndC (m) p2) (hpC k (f) a3 (f).D.length) w0 _ := (((K.setK 1 (.int .i64 (f).id)).setK 2 (.bool (f).rm)).setK 3 (.int .i64 (f).ln)).setK 4 (.slice a3 (f).D.length (f).D.length)
      replace O := O.keptG (K3.grown4 W4 gh (.int .i64 (f).id) (.bool (f).rm) (.int .i64 (f).ln) (.slice a3 (f).D.length (f).D.length)) (by omega)
      replace O3 := O3.kept2 (K3.grown4 W4 gh (.int .i64 (f).id) (.bool (f).rm) (.int .i64 (f).ln) (.slice a3 (f).D.length (f).D.length)) hlt.2
      clear d1 d2 d3 d4 q1 q2 q3 q4
      generalize World.setCell _ _ _ = W5 at K O O3 ⊢
      refine wpAnyH_done (by kernel_rfl) ?_ _
      refine ⟨rfl, .panicking [{ v := .iface 74 (.agg #[]), recovered := true }], rfl, .tuple #[], results_none rfl _ _ _, rfl, rfl, p2, a3, b1, b2, b3, W2.heap.size, MB, MF, K, O.monoB hV, U2, hb3, O3⟩
  · simp only [Act.put, List.setIfInBounds_toArray, List.set_cons_zero, List.set_cons_succ]
    clear d1 d2 d3 d4
    refine held_op 0 rfl (by kernel_rfl) rfl (op_value _ (ndV (m) (p)) rfl (K.took rfl rfl) ⟨trivial, ?_⟩)
    simp only [Act.put, List.setIfInBounds_toArray, List.set_cons_zero, List.set_cons_succ]
    refine call_at 1 _ 45 #[ndV (m) (p)] rfl rfl (by kernel_rfl) rfl (by go_simp) ?_
    refine (implCopied (m) (p) _ hm hs.dat hs.box hs.box8 hs.fifo hs.fifo8 hs.flt).mono ?_
    rintro e W2 ⟨p2, b1, b2, b3, MB, MF, rfl, O, b, hb3⟩
    have hsz := b.size
    replace K := K.below b
    replace hN := hN.below b
    have U2 : ∀ q, (Value.slice p2.al (m).flt.length p2.cl).ownBlock = some q → q < W2.heap.size := fun q hq => (World.ownsRow.lt O.flt q hq).2
    refine ⟨_, rfl, trivial, ?_⟩
    simp only [Act.put, List.setIfInBounds_toArray, List.set_cons_zero, List.set_cons_succ]
    have hlt := K.lt
    refine call_at 4 _ 46 #[(frV (f).id (f).rm (f).ln none (f).D.length 0)] rfl rfl (by kernel_rfl) rfl (by go_simp) ?_
    refine (copiedFr (f).id (f).rm (f).ln none (f).D 0 _ hN hf).mono ?_
    rintro e W3 ⟨a3, rfl, O3, b3'⟩
    replace K := K.below b3'
    replace O := O.belowO b3'
    clear b3'
    refine ⟨_, rfl, trivial, ?_⟩
    simp only [Act.put, List.setIfInBounds_toArray, List.set_cons_zero, List.set_cons_succ]
    refine held_row 5 gr (ndC (m) p2) rfl (by kernel_rfl) rfl rfl rfl rfl rfl K.res (by kernel_rfl) rfl (ndC_one _ _) trivial ?_
    replace K := K.setR (ndC (m) p2)
    replace O := O.keptG (grown_row _ gr (ndC (m) p2)) (by omega)
    replace O3 := O3.kept2 (grown_row _ gr (ndC (m) p2)) hlt.1
    generalize World.setRow _ _ _ = W4 at K O O3 ⊢
    refine value_at 6 _ (.pointer (some ⟨gh, 1, none⟩)) rfl rfl (by kernel_rfl) rfl (by go_simp) trivial ?_
    simp only [Act.put, List.setIfInBounds_toArray, List.set_cons_zero, List.set_cons_succ]
    have d1 : W4.cell? ⟨gh, 1, none⟩ = some (.int .i64 (f).id) := K.cell 1
    have d2 : W4.cell? ⟨gh, 2, none⟩ = some (.bool (f).rm) := K.cell 2
    have d3 : W4.cell? ⟨gh, 3, none⟩ = some (.int .i64 (f).ln) := K.cell 3
    have d4 : W4.cell? ⟨gh, 4, none⟩ = some (.slice none (f).D.length 0) := K.cell 4
    obtain ⟨q1, q2, q3, q4⟩ : _ ∧ _ ∧ _ ∧ _ := ⟨K.free 1, K.free 2, K.free 3, K.free 4⟩
    refine held_op 7 rfl (by kernel_rfl) rfl (op_skip ((((W4.setCell ⟨gh, 1, none⟩ (.int .i64 (f).id)).setCell ⟨gh, 2, none⟩ (.bool (f).rm)).setCell ⟨gh, 3, none⟩ (.int .i64 (f).ln)).setCell ⟨gh, 4, none⟩ (.slice a3 (f).D.length (f).D.length)) rfl (by go_simp) ⟨trivial, ?_⟩)
    replace K : K3 gr gh (ndC (m) p2) (hpC k (f) a3 (f).D.length) w0 _ := (((K.setK 1 (.int .i64 (f).id)).setK 2 (.bool (f).rm)).setK 3 (.int .i64 (f).ln)).setK 4 (.slice a3 (f).D.length (f).D.length)
    replace O := O.keptG (K3.grown4 W4 gh (.int .i64 (f).id) (.bool (f).rm) (.int .i64 (f).ln) (.slice a3 (f).D.length (f).D.length)) (by omega)
    replace O3 := O3.kept2 (K3.grown4 W4 gh (.int .i64 (f).id) (.bool (f).rm) (.int .i64 (f).ln) (.slice a3 (f).D.length (f).D.length)) hlt.2
    clear d1 d2 d3 d4 q1 q2 q3 q4
    generalize World.setCell _ _ _ = W5 at K O O3 ⊢
    refine wpAnyH_done (by kernel_rfl) ?_ _
    refine ⟨rfl, .panicking [{ v := .iface 74 (.agg #[]), recovered := true }], rfl, .tuple #[], results_none rfl _ _ _, rfl, rfl, p2, a3, b1, b2, b3, W2.heap.size, MB, MF, K, O.monoB hV, U2, hb3, O3⟩
end Go.Proofs.YtpenjbpcebfecaaGreatDoor

/- Each phase's step of the program answers what sampN tells, or breaks off. -/

set_option linter.unusedVariables false
set_option linter.unusedSimpArgs false
set_option maxRecDepth 20000
namespace Go.Proofs.YtpenjbpcebfecaaGreatDoor
open Go.RowKit

section
variable {n r : Nd} {p : NdP} {k : Int} {a0 w w' : World} {e : Ending}
theorem Told.x (h : Told r k p w e w') (h0 : NdM n p a0) (ha0 : Below a0.heap.size a0 w) (e1 : r.fr = n.fr) (e2 : r.box = n.box) (e3 : r.fifo = n.fifo) (e4 : r.flt = n.flt) (hs : r.got.size ≤ maxLen) : SampX a0 (r, k, zF) w e w' :=
  ⟨p, none, 0, h.1, fun u km => ⟨(h0.below (fromM ha0 h.2 km)).lists e1 e2 e3 e4 hs, Nums.nil _⟩, h.2⟩
theorem TellF.x (h : TellF r k n p w e w') (h0 : NdM n p a0) (ha0 : Below a0.heap.size a0 w) (e2 : r.box = n.box) (e3 : r.fifo = n.fifo) (e4 : r.flt = n.flt) (hs : r.got.size ≤ maxLen) : SampX a0 (r, k, zF) w e w' := by
  obtain ⟨q, ht, h | h⟩ := h
  · obtain ⟨e1, rfl⟩ := h
    exact ht.x h0 ha0 e1 e2 e3 e4 hs
  · obtain ⟨e1, rfl⟩ := h
    refine ⟨_, none, 0, ht.1, fun u km => ⟨?_, Nums.nil _⟩, ht.2⟩
    have M := h0.below (fromM ha0 ht.2 km)
    exact ⟨by rw [e1]; exact Nums.nil _, by rw [e2]; exact M.box, by rw [e3]; exact M.fifo, by rw [e4]; exact M.flt, hs⟩
end
theorem cdN_lists (n : Nd) (a b : Int) : (cdN n a b).fr = n.fr ∧ (cdN n a b).box = n.box ∧ (cdN n a b).fifo = n.fifo ∧ (cdN n a b).flt = n.flt ∧ (cdN n a b).got = n.got := by unfold cdN; split <;> exact ⟨rfl, rfl, rfl, rfl, rfl⟩
theorem offN_lists (n : Nd) (l : Int) : (offN n l).1.box = n.box ∧ (offN n l).1.fifo = n.fifo ∧ (offN n l).1.flt = n.flt ∧ (offN n l).1.got = n.got ∧ (offN n l).2.2 = zF := by
  unfold offN
  by_cases h1 : l = 0
  · simp only [if_pos h1, and_self]
  · by_cases h2 : n.run + 1 < 11
    · simp only [if_neg h1, if_pos h2, and_self]
    · by_cases h3 : 0 < n.left - 1
      · simp only [if_neg h1, if_neg h2, if_pos h3, and_self]
      · simp only [if_neg h1, if_neg h2, if_neg h3, and_self]
/-- Which function a phase's step is; what it answers. -/
def StepsTo (n : Nd) (p : NdP) (l : Int) (a0 : World) (f : FuncId) : Prop :=
  (∀ W : World, (Instr.index 79 stepsV (.int .i64 n.ph)).run Tryz.prog W = .ok (.func (.func f) #[] #[]) W) ∧ (∀ (args : Array Value) (W : World), (callFunc f args).run Tryz.prog W = .ok (.enter f args) W) ∧
  ((∀ w, Below a0.heap.size a0 w → Calls Tryz.prog f #[ndV n p, .int .i64 l] w (SampX a0 (sampN n l) w)) ∨ (sampN n l = brkN n ∧ ∀ w, Below a0.heap.size a0 w → Calls Tryz.prog f #[ndV n p, .int .i64 l] w (Broke w)))

theorem steps0 (n : Nd) (p : NdP) (l : Int) (a0 : World) (h0 : NdM n p a0) (hok : nodeB n = true) (hl : l = 0 ∨ l = 1) (hp : n.ph = 0) : StepsTo n p l a0 105 := by
  obtain ⟨R, W1⟩ := right_iff.1 hok
  have e : sampN n l = (if l = 1 then (n, 0, zF) else ({ begN n (decide (0 < n.box.length)) with fr := if 0 < n.box.length then nthF n.box 0 else zF }, 0, zF)) := by unfold sampN; rw [if_pos hp]
  exact ⟨fun W => by rw [hp]; kernel_rfl, fun _ _ => by kernel_rfl, .inl fun w ha => by rw [e]; exact implInIdle n p l w a0 h0 ha hl⟩

theorem steps3 (n : Nd) (p : NdP) (l : Int) (a0 : World) (h0 : NdM n p a0) (hok : nodeB n = true) (hl : l = 0 ∨ l = 1) (hp : n.ph = 3) : StepsTo n p l a0 108 := by
  obtain ⟨R, W1⟩ := right_iff.1 hok
  have e : sampN n l = (cdN n 4 8, 0, zF) := by unfold sampN; rw [if_neg (by rw [hp]; decide)]; rw [if_neg (by rw [hp]; decide)]; rw [if_neg (by rw [hp]; decide)]; rw [if_neg (by rw [hp]; decide)]; unfold pauseN; rw [if_pos hp]; rfl
  obtain ⟨e1, e2, e3, e4, e5⟩ := cdN_lists n 4 8
  exact ⟨fun W => by rw [hp]; kernel_rfl, fun _ _ => by kernel_rfl, .inl fun w ha => by rw [e]; exact (implInFlag n p l w R.left).mono fun _ _ h => h.x h0 ha e1 e2 e3 e4 (by rw [e5]; exact h0.size)⟩

theorem steps4 (n : Nd) (p : NdP) (l : Int) (a0 : World) (h0 : NdM n p a0) (hok : nodeB n = true) (hl : l = 0 ∨ l = 1) (hp : n.ph = 4) : StepsTo n p l a0 109 := by
  obtain ⟨R, W1⟩ := right_iff.1 hok
  have e : sampN n l = (if l = 0 then { n with left := 8 } else cdN n 5 3, 0, zF) := by unfold sampN; rw [if_neg (by rw [hp]; decide)]; rw [if_neg (by rw [hp]; decide)]; rw [if_neg (by rw [hp]; decide)]; rw [if_neg (by rw [hp]; decide)]; unfold pauseN; rw [if_neg (by rw [hp]; decide)]; rw [if_pos hp]; rfl
  obtain ⟨e1, e2, e3, e4, e5⟩ := cdN_lists n 5 3
  refine ⟨fun W => by rw [hp]; kernel_rfl, fun _ _ => by kernel_rfl, .inl fun w ha => ?_⟩
  rw [e]
  refine (implInDelim n p l w hl R.left).mono fun _ _ h => h.x h0 ha ?_ ?_ ?_ ?_ ?_
  · split; rfl; exact e1
  · split; rfl; exact e2
  · split; rfl; exact e3
  · split; rfl; exact e4
  · split; exact h0.size; rw [e5]; exact h0.size

theorem steps5 (n : Nd) (p : NdP) (l : Int) (a0 : World) (h0 : NdM n p a0) (hok : nodeB n = true) (hl : l = 0 ∨ l = 1) (hp : n.ph = 5) : StepsTo n p l a0 110 := by
  obtain ⟨R, W1⟩ := right_iff.1 hok
  have e : sampN n l = ((if n.tx = true ∧ stV n.cs n.cg = 1 then (if lessV n.left = 0 then { n with ph := 6, left := 8, tx := false, fr := zF } else { n with left := lessV n.left }) else (if lessV n.left = 0 then { n with ph := 0, left := 0, tx := false, fr := zF } else { n with left := lessV n.left })), 0, zF) := by unfold sampN; rw [if_neg (by rw [hp]; decide)]; rw [if_neg (by rw [hp]; decide)]; rw [if_neg (by rw [hp]; decide)]; rw [if_neg (by rw [hp]; decide)]; unfold pauseN; rw [if_neg (by rw [hp]; decide)]; rw [if_neg (by rw [hp]; decide)]; rw [if_pos hp]; (repeat' split) <;> rfl
  refine ⟨fun W => by rw [hp]; kernel_rfl, fun _ _ => by kernel_rfl, .inl fun w ha => ?_⟩
  rw [e]
  refine (implInInter n p l w R.left hp).mono fun _ _ h => h.x h0 ha ?_ ?_ ?_ ?_
  · (repeat' split) <;> rfl
  · (repeat' split) <;> rfl
  · (repeat' split) <;> rfl
  · (repeat' split) <;> exact h0.size

theorem steps6 (n : Nd) (p : NdP) (l : Int) (a0 : World) (h0 : NdM n p a0) (hok : nodeB n = true) (hl : l = 0 ∨ l = 1) (hp : n.ph = 6) : StepsTo n p l a0 111 := by
  obtain ⟨R, W1⟩ := right_iff.1 hok
  have e : sampN n l = (if l = 0 then begN n false else cdN n 0 0, 0, zF) := by unfold sampN; rw [if_neg (by rw [hp]; decide)]; rw [if_neg (by rw [hp]; decide)]; rw [if_neg (by rw [hp]; decide)]; rw [if_neg (by rw [hp]; decide)]; unfold pauseN; rw [if_neg (by rw [hp]; decide)]; rw [if_neg (by rw [hp]; decide)]; rw [if_neg (by rw [hp]; decide)]; rw [if_pos hp]; rfl
  obtain ⟨e1, e2, e3, e4, e5⟩ := cdN_lists n 0 0
  refine ⟨fun W => by rw [hp]; kernel_rfl, fun _ _ => by kernel_rfl, .inl fun w ha => ?_⟩
  rw [e]
  refine (implInWait n p l w hl R.left).mono fun _ _ h => h.x h0 ha ?_ ?_ ?_ ?_ ?_
  · split; rfl; exact e1
  · split; rfl; exact e2
  · split; rfl; exact e3
  · split; rfl; exact e4
  · split; exact one_le_max; rw [e5]; exact h0.size

theorem steps7 (n : Nd) (p : NdP) (l : Int) (a0 : World) (h0 : NdM n p a0) (hok : nodeB n = true) (hl : l = 0 ∨ l = 1) (hp : n.ph = 7) : StepsTo n p l a0 112 := by
  obtain ⟨R, W1⟩ := right_iff.1 hok
  have e : sampN n l = offN n l := by unfold sampN; rw [if_neg (by rw [hp]; decide)]; rw [if_neg (by rw [hp]; decide)]; rw [if_neg (by rw [hp]; decide)]; rw [if_pos hp]
  obtain ⟨e2, e3, e4, e5, e6⟩ := offN_lists n l
  have e7 : offN n l = ((offN n l).1, (offN n l).2.1, zF) := by rw [← e6]
  exact ⟨fun W => by rw [hp]; kernel_rfl, fun _ _ => by kernel_rfl, .inl fun w ha => by rw [e, e7]; exact (implInOff n p l w hl R.left R.run hp).mono fun _ _ h => h.x h0 ha e2 e3 e4 (by rw [e5]; exact h0.size)⟩

theorem steps1 (n : Nd) (p : NdP) (l : Int) (a0 : World) (h0 : NdM n p a0) (hok : nodeB n = true) (hl : l = 0 ∨ l = 1) (hE : ErrHeld a0) (hp : n.ph = 1) : StepsTo n p l a0 106 := by
  obtain ⟨R, W1⟩ := right_iff.1 hok
  have e : sampN n l = bodyN n l := by unfold sampN; rw [if_neg (by rw [hp]; decide)]; rw [if_pos hp]
  have W := W1 hp
  have nb := nextV_bd hok
  refine ⟨fun W => by rw [hp]; kernel_rfl, fun _ _ => by kernel_rfl, ?_⟩
  by_cases h5 : n.run = 5
  · by_cases hne : l = n.last
    · exact .inr ⟨by rw [e]; unfold bodyN; rw [if_pos h5, if_pos hne], fun w ha => implBodySix n p l w h5 hne⟩
    · exact .inl fun w ha => by rw [e]; unfold bodyN; rw [if_pos h5, if_neg hne]; exact implBodyFive n p l w a0 h0 ha (hE.below (ha.mono (Nat.le_refl _))) hl h5 hne
  · by_cases hk : n.tx = true ∧ l ≠ nextV n
    · by_cases h2 : nextV n = 0 ∨ 12 < n.got.size
      · exact .inr ⟨by rw [e]; unfold bodyN; rw [if_neg h5, if_pos hk, if_pos h2], fun w ha => implBodyPart n p l w (h0.below ha) hok h5 hk.1 hk.2 (by rcases h2 with h2 | h2; left; omega; right; exact h2) R.size⟩
      · exact .inl fun w ha => by rw [e]; unfold bodyN; rw [if_neg h5, if_pos hk, if_neg h2]; exact implBodyLose n p l w a0 h0 ha (hE.below (ha.mono (Nat.le_refl _))) hok hl h5 R.run R.size hk.1 hk.2 ⟨by omega, by omega⟩
    · exact .inl fun w ha => by rw [e]; unfold bodyN; rw [if_neg h5, if_neg hk]; exact implBodyKeep n p l w a0 h0 ha (hE.below (ha.mono (Nat.le_refl _))) hok hl h5 R.run R.size (by cases ht : n.tx; exact .inl rfl; exact .inr (Classical.byContradiction fun k => hk ⟨ht, k⟩))

theorem steps2 (n : Nd) (p : NdP) (l : Int) (a0 : World) (h0 : NdM n p a0) (hok : nodeB n = true) (hl : l = 0 ∨ l = 1) (hE : ErrHeld a0) (hA : NdA n p) (hp : n.ph = 2) : StepsTo n p l a0 107 := by
  obtain ⟨R, W1⟩ := right_iff.1 hok
  have e : sampN n l = tailN n l := by unfold sampN; rw [if_neg (by rw [hp]; decide)]; rw [if_neg (by rw [hp]; decide)]; rw [if_pos hp]
  have hpos := R.pos
  refine ⟨fun W => by rw [hp]; kernel_rfl, fun _ _ => by kernel_rfl, ?_⟩
  cases ht : tailB n l
  · refine .inl fun w ha => ?_
    rw [e]
    unfold tailN
    rw [if_neg (by rw [ht]; decide)]
    by_cases h9 : n.pos < 9
    · rw [if_pos h9]
      by_cases h8 : n.pos = 8
      · rcases (Bool.eq_false_or_eq_true n.tx).symm with htx | htx
        · rw [if_pos ⟨h8, htx⟩]
          exact implTailHeard n p l w a0 h0 ha (hE.below (ha.mono (Nat.le_refl _))) hl ht h8 htx hA R.flt.1 (fifo_32 R.fifo) (fifo_short R.fifo)
        · rw [if_neg (fun k => by rw [htx] at k; cases k.2), h8]
          exact implTailEight n p l w a0 h0 ha hl ht h8 htx
      · rw [if_neg (fun k => h8 k.1)]
        exact implTailOn n p l w a0 h0 ha hl ht ⟨hpos.1, by omega⟩
    · rw [if_neg h9]
      have h9' : n.pos = 9 := by omega
      rcases (Bool.eq_false_or_eq_true n.tx).symm with htx | htx
      · rw [if_neg (by rw [htx]; decide)]
        exact implTailLast n p l w a0 h0 ha hl ht h9' htx
      · rw [if_pos htx]
        exact implTailSent n p l w a0 h0 ha hl ht h9' htx hA R.box
  · exact .inr ⟨by rw [e]; unfold tailN; rw [if_pos ht], fun w ha => implTailBreak n p l w hl ht⟩

theorem stepsTo (n : Nd) (p : NdP) (l : Int) (a0 : World) (h0 : NdM n p a0) (hok : nodeB n = true) (hl : l = 0 ∨ l = 1) (hE : ErrHeld a0) (hA : NdA n p) : ∃ f, StepsTo n p l a0 f := by
  have hp := (nodeB_parts hok).1
  rcases (show n.ph = 0 ∨ n.ph = 1 ∨ n.ph = 2 ∨ n.ph = 3 ∨ n.ph = 4 ∨ n.ph = 5 ∨ n.ph = 6 ∨ n.ph = 7 by omega) with h | h | h | h | h | h | h | h
  · exact ⟨_, steps0 n p l a0 h0 hok hl h⟩
  · exact ⟨_, steps1 n p l a0 h0 hok hl hE h⟩
  · exact ⟨_, steps2 n p l a0 h0 hok hl hE hA h⟩
  · exact ⟨_, steps3 n p l a0 h0 hok hl h⟩
  · exact ⟨_, steps4 n p l a0 h0 hok hl h⟩
  · exact ⟨_, steps5 n p l a0 h0 hok hl h⟩
  · exact ⟨_, steps6 n p l a0 h0 hok hl h⟩
  · exact ⟨_, steps7 n p l a0 h0 hok hl h⟩
end Go.Proofs.YtpenjbpcebfecaaGreatDoor

/- The program's Sampled: what sampN tells, its lists and its frame in rows of their own. -/

set_option linter.unusedVariables false
set_option linter.unusedSimpArgs false
set_option maxRecDepth 20000
namespace Go.Proofs.YtpenjbpcebfecaaGreatDoor
open Go.RowKit

/-- What Sampled answers. -/
def sampA (n : Nd) (l : Int) : Nd × Int × Frm := if (nodeB n && rng l 0 1) = true then sampN n l else (znd [], 0, zF)
def SampO (r : Nd × Int × Frm) (w : World) (e : Ending) (w' : World) : Prop :=
  ∃ (p : NdP) (ad : Option Addr) (cd : Nat) (b1 b2 b3 b4 : Nat) (MB MF : List (Frm × Value)), e = .returned (.tuple #[ndV r.1 p, hpV r.2.1 r.2.2 ad cd]) ∧ NdO w.heap.size b1 b2 b3 r.1 p MB MF w'
    ∧ (∀ q, (Value.slice p.al r.1.flt.length p.cl).ownBlock = some q → q < b4) ∧ b3 ≤ b4 ∧ OwnI b4 r.2.2.D (.slice ad r.2.2.D.length cd) w' ∧ Below w.heap.size w w'
theorem ownI_nil (B : Nat) (w : World) : OwnI B [] (.slice none 0 0) w := ⟨⟨rfl, .inl ⟨rfl, rfl⟩⟩, by simp⟩
theorem ownF_nil (B : Nat) (w : World) : OwnF B [] (.slice none 0 0) w := ⟨⟨rfl, .inl ⟨rfl, rfl⟩⟩, fun m hm => by cases hm⟩
theorem ndO_zero (B : Nat) (w : World) : NdO B B B B (znd []) (zp none 0) [] [] w :=
  ⟨ownI_nil _ _, ownF_nil _ _, ownF_nil _ _, ownP_nil _ _, rfl, rfl, fun i j hi => absurd hi (by simp), fun i j hi => absurd hi (by simp), (fun q hq => by cases hq), ⟨(fun q hq => by cases hq), (fun m hm => by cases hm)⟩, ⟨(fun q hq => by cases hq), (fun m hm => by cases hm)⟩, ⟨Nat.le_refl _, Nat.le_refl _, Nat.le_refl _⟩, Nat.zero_le _⟩
theorem small_right {n : Nd} (h : nodeB n = true) : Small n := by
  obtain ⟨R, -⟩ := right_iff.1 h
  have hb := boxB_iff.1 R.box
  refine ⟨frB_short R.fr, by omega, fun j hj => frB_short ?_, by have := fifo_32 R.fifo; omega, fifo_short R.fifo, by have := R.flt.1; omega⟩
  cases h2 : frB (nthF n.box j) with
  | true => rfl
  | false => have h3 := rk_neg h2; have h4 := (hb.2 j hj).1; omega
theorem leaves_same {P : Program} {fn : Func} {tmps tmps' : Array Value} {R : Ending → World → Prop} (h : results fn tmps = results fn tmps') : ∀ (ds : List Deferred) (u : FrameMode) (w : World), Leaves P fn tmps R ds u w → Leaves P fn tmps' R ds u w := by
  intro ds
  induction ds with
  | nil =>
    intro u w hl
    cases u with
    | run => exact hl
    | returning => obtain ⟨v, hv, hR⟩ := hl; exact ⟨v, by rw [← h]; exact hv, hR⟩
    | panicking c => exact hl
  | cons d ds ih =>
    intro u w hl
    obtain ⟨h1, fv, cap, f, args, h2, h3, h4⟩ := hl
    refine ⟨h1, fv, cap, f, args, h2, h3, h4.mono ?_⟩
    intro e u' w' k
    cases e with
    | returned v => exact ih _ _ k
    | panicked c => exact ih _ _ k
    | outgrown => exact k
theorem results_put {a : Act} {d : Tmp} {v : Value} (h4 : d ≠ 4) (h5 : d ≠ 5) : results Tryz.f8 (a.put (some d) v).tmps = results Tryz.f8 a.tmps := by
  simp [results, Tryz.results8, Act.put, Array.getElem?_setIfInBounds, h4, h5]
theorem brkN_fr (n : Nd) : (brkN n).2.2 = zF := by unfold brkN; split <;> rfl
theorem samp_fr {n : Nd} (l : Int) (h : frB n.fr = true) : frB (sampN n l).2.2 = true := by
  have hz := zF_ok
  have hb : frB (brkN n).2.2 = true := by rw [brkN_fr]; exact hz
  unfold sampN
  split
  · split <;> exact hz
  split
  · unfold bodyN
    split
    · split
      · exact hb
      · exact hz
    · split
      · split
        · exact hb
        · exact hz
      · exact hz
  split
  · unfold tailN
    split
    · exact hb
    · split
      · split
        · unfold heardN
          split
          · exact rdF_ok _
          · exact hz
        · exact hz
      · split
        · exact h
        · exact hz
  split
  · rw [(offN_lists n l).2.2.2.2]; exact hz
  · exact hz
theorem Small.lists {n m : Nd} (h : Small n) (e1 : m.fr = n.fr) (e2 : m.box = n.box) (e3 : m.fifo = n.fifo) (e4 : m.flt = n.flt) : Small m :=
  ⟨by rw [e1]; exact h.dat, by rw [e2]; exact h.box, by rw [e2]; exact h.box8, by rw [e3]; exact h.fifo, by rw [e3]; exact h.fifo8, by rw [e4]; exact h.flt⟩
theorem op_panic {P : Program} {K : Act → World → Prop} {Q : Exit → Act → World → Prop} {o : Oper} {a : Act} {w : World} (f : FuncId) (args : Array Value) (hx : (execOp a.eval o).run P w = .ok (.enter f args) w)
    (h : Calls P f args w fun e w' => ∃ ch, e = .panicked ch ∧ Q (.panic ch) a w') : o.wp P a w K Q := by
  unfold Oper.wp
  rw [hx, Oper.upon_enter]
  exact h.mono fun e w' h' => by
    obtain ⟨ch, he, k⟩ := h'
    subst he
    exact k

set_option maxHeartbeats 16000000 in
/-- impl.Sampled. -/
theorem implSampled (n : Nd) (p : NdP) (l : Int) (w : World) (hm : NdM n p w) (hE : ErrHeld w) (hNA : NdA n p) :
    Calls Tryz.prog 8 #[ndV n p, .int .i64 l] w (SampO (sampA n l) w) := by
  have hmf : ∀ (fn : Fn) (first cap : Array Value) (w : World), (Instr.makeFunc fn first cap).run Tryz.prog w = .ok (.func fn first cap) w := fun _ _ _ _ => rfl
  have X := N3.made (ndC n p) w
  go_enter_defers Tryz.func8, Tryz.ntmps8
  go_upto_region 1 with fail
  generalize World.alloc _ _ = W at X ⊢
  generalize w.heap.size + 1 + 1 = gh at X ⊢
  generalize w.heap.size + 1 = gr at X ⊢
  generalize w.heap.size = g at X ⊢
  go_wp2_with (refine Nx.take ⟨X.blk, X.bel⟩ rfl rfl rfl ?_)
  refine (implNodeOk n p _ (hm.below X.bel)).mono ?_
  rintro e w2 ⟨rfl, b⟩
  replace X := X.below b
  clear b
  cases hok : nodeB n
  · have hA := Lib.hid (show sampA n l = (znd [], 0, zF) from if_neg (by rw [hok, Bool.false_and]; exact Bool.false_ne_true))
    clear hok
    go_wp2_with (first | (refine wpList_put (n := znd []) (p := zp none 0) X.res rfl rfl rfl rfl rfl ?_) | (refine wpList_tell (k := 0) (f := zF) (ad := none) (cd := 0) (X.fin (ndC (znd []) (zp none 0)) #[]).1 rfl rfl rfl rfl rfl ?_))
    obtain ⟨-, Z1, Z2, Z3⟩ := X.fin (ndC (znd []) (zp none 0)) (hpC 0 zF none 0)
    refine ⟨.tuple #[ndV (znd []) (zp none 0), hpV 0 zF none 0], results_both Tryz.results8 _ _ gr gh _ _ rfl rfl Z1 Z2 rfl rfl, ?_⟩
    rw [hA.out]
    exact ⟨zp none 0, none, 0, w.heap.size, w.heap.size, w.heap.size, w.heap.size, [], [], rfl, ndO_zero _ _, fun q hq => (by cases hq), Nat.le_refl _, ownI_nil _ _, Z3⟩
  · replace hok := Lib.hid hok
    go_wp2_with fail
    refine (implWithin l 0 1 _).mono ?_
    rintro e w3 ⟨rfl, rfl⟩
    cases hr : rng l 0 1
    · have hA := Lib.hid (show sampA n l = (znd [], 0, zF) from if_neg (by rw [hr, Bool.and_false]; exact Bool.false_ne_true))
      clear hr
      go_wp2_with (first | (refine wpList_put (n := znd []) (p := zp none 0) X.res rfl rfl rfl rfl rfl ?_) | (refine wpList_tell (k := 0) (f := zF) (ad := none) (cd := 0) (X.fin (ndC (znd []) (zp none 0)) #[]).1 rfl rfl rfl rfl rfl ?_))
      obtain ⟨-, Z1, Z2, Z3⟩ := X.fin (ndC (znd []) (zp none 0)) (hpC 0 zF none 0)
      refine ⟨.tuple #[ndV (znd []) (zp none 0), hpV 0 zF none 0], results_both Tryz.results8 _ _ gr gh _ _ rfl rfl Z1 Z2 rfl rfl, ?_⟩
      rw [hA.out]
      exact ⟨zp none 0, none, 0, w.heap.size, w.heap.size, w.heap.size, w.heap.size, [], [], rfl, ndO_zero _ _, fun q hq => (by cases hq), Nat.le_refl _, ownI_nil _ _, Z3⟩
    · have hA := Lib.hid (show sampA n l = sampN n l from if_pos (by rw [hr, hok.out]; rfl))
      have hl : l = 0 ∨ l = 1 := by have := rng_iff.1 hr; omega
      clear hr
      obtain ⟨f, hf1, hf3, hf2⟩ := stepsTo n p l w hm hok.out hl hE hNA
      replace hf1 := Lib.hid hf1
      replace hf3 := Lib.hid hf3
      replace hf2 := Lib.hid hf2
      go_upto_region 4 with fail
      refine wp_region_held (S := fun u => Nx g n p w u) (by kernel_rfl) ?_
      replace X := X.drew'
      generalize ({ w2 with drawn := w2.drawn + 1 } : World) = V at X ⊢
      refine take_at 1 _ (.pointer (some ⟨g, 0, none⟩)) rfl rfl (by kernel_rfl) (by kernel_rfl) (by kernel_rfl) (fun c a w h => leaves_same (results_put (by decide) (by decide)) _ _ _ h) (.inl ⟨rfl, fun u hu => by go_simp⟩) X.nx ?_
      simp only [Act.put, List.setIfInBounds_toArray, List.set_cons_zero, List.set_cons_succ]
      refine take_at 2 _ (.int .i64 n.ph) rfl rfl (by kernel_rfl) (by kernel_rfl) (by kernel_rfl) (fun c a w h => leaves_same (results_put (by decide) (by decide)) _ _ _ h) (.inl ⟨rfl, fun u hu => by have d := hu.cells.1; go_simp⟩) X.nx ?_
      simp only [Act.put, List.setIfInBounds_toArray, List.set_cons_zero, List.set_cons_succ]
      refine take_at 4 _ (ndV n p) rfl rfl (by kernel_rfl) (by kernel_rfl) (by kernel_rfl) (fun c a w h => leaves_same (results_put (by decide) (by decide)) _ _ _ h) (.inl ⟨rfl, fun u hu => hu.took rfl rfl⟩) X.nx ?_
      simp only [Act.put, List.setIfInBounds_toArray, List.set_cons_zero, List.set_cons_succ]
      refine take_at 5 _ (.int .i64 l) rfl rfl (by kernel_rfl) (by kernel_rfl) (by kernel_rfl) (fun c a w h => leaves_same (results_put (by decide) (by decide)) _ _ _ h) (.inl ⟨rfl, fun u hu => by go_simp⟩) X.nx ?_
      simp only [Act.put, List.setIfInBounds_toArray, List.set_cons_zero, List.set_cons_succ]
      refine call_at 0 _ 47 #[] rfl rfl (by kernel_rfl) rfl (by go_simp) ?_
      refine (implSteps _).mono ?_
      rintro e w5 ⟨rfl, b⟩
      replace X := X.below b
      clear b
      refine ⟨_, rfl, X.nx, ?_⟩
      simp only [Act.put, List.setIfInBounds_toArray, List.set_cons_zero, List.set_cons_succ]
      refine value_at 3 _ (.func (.func f) #[] #[]) rfl rfl (by kernel_rfl) rfl (stepAt (hf1.out _) rfl rfl rfl) X.nx ?_
      simp only [Act.put, List.setIfInBounds_toArray, List.set_cons_zero, List.set_cons_succ]
      rcases hf2.out with hok2 | ⟨hbk, hok2⟩
      · refine call_at 6 _ f #[ndV n p, .int .i64 l] rfl rfl (by kernel_rfl) rfl (by have h3 := hf3.out; go_simp) ?_
        have hlt := X.lt
        refine (hok2 _ X.bel).mono ?_
        rintro e w6 ⟨p5, ad5, cd5, rfl, hk5, b⟩
        replace X := X.below b
        clear b
        refine ⟨_, rfl, X.nx, ?_⟩
        simp only [Act.put, List.setIfInBounds_toArray, List.set_cons_zero, List.set_cons_succ]
        rw [hA.out]
        have hn6 := small_right (samp_right hok.out hl)
        have hf6 := frB_short (samp_fr l (right_iff.1 hok.out).1.fr)
        generalize hr6 : sampN n l = r at hk5 hn6 hf6 ⊢
        replace hr6 := Lib.hid hr6
        obtain ⟨n6, k6, f6⟩ := r
        dsimp only at hk5 hn6 hf6 ⊢
        refine take_at 7 _ (ndV n6 p5) rfl rfl (by kernel_rfl) (by kernel_rfl) (by kernel_rfl) (fun c a w h => leaves_same (results_put (by decide) (by decide)) _ _ _ h) (.inl ⟨rfl, fun u hu => by go_simp⟩) X.nx ?_
        simp only [Act.put, List.setIfInBounds_toArray, List.set_cons_zero, List.set_cons_succ]
        refine take_at 8 _ (hpV k6 f6 ad5 cd5) rfl rfl (by kernel_rfl) (by kernel_rfl) (by kernel_rfl) (fun c a w h => leaves_same (results_put (by decide) (by decide)) _ _ _ h) (.inl ⟨rfl, fun u hu => by go_simp⟩) X.nx ?_
        simp only [Act.put, List.setIfInBounds_toArray, List.set_cons_zero, List.set_cons_succ]
        refine held_row 9 gr (ndC n6 p5) rfl (by kernel_rfl) rfl rfl rfl rfl rfl X.res (by kernel_rfl) rfl (ndC_one _ _) (X.nxR _) ?_
        refine held_row 10 gh (hpC k6 f6 ad5 cd5) rfl (by kernel_rfl) rfl rfl rfl rfl rfl (X.fin _ #[]).1 (by kernel_rfl) rfl (hpC_one _ _ _ _) (X.nxH _ _) ?_
        refine wpAnyH_done (by kernel_rfl) ?_ _
        have hmid := X.midFin (a0 := w) (ndC n6 p5) (hpC k6 f6 ad5 cd5) (Nat.le_refl _) hlt.2.1 hlt.2.2
        obtain ⟨M6, N6⟩ := hk5 _ hmid
        have K : K3 gr gh (ndC n6 p5) (hpC k6 f6 ad5 cd5) w ((w6.setRow gr (ndC n6 p5)).setRow gh (hpC k6 f6 ad5 cd5)) := ((K3.mk X.res X.hap X.bel X.hr X.hh X.rh).setR _).setH _
        clear hmid hk5 X
        generalize World.setRow _ _ _ = w7 at K M6 N6 ⊢
        have hl7 := K.lt
        have hsz := K.bel.size
        go_wp2_with fail
        refine leaves_cons (f := 43) (args := #[.pointer (some ⟨g, 0, none⟩), .pointer (some ⟨gr, 0, none⟩), .pointer (some ⟨gh, 0, none⟩)]) (by simp) (by simp [go_sem]) ?_
        refine (closBack g gr gh n6 p5 k6 f6 ad5 cd5 w w7 K hl7.1 hl7.2 M6 N6 hn6 hf6).mono ?_
        rintro e u' w8 ⟨rfl, rfl, p9, ad9, b1, b2, b3, b4, MB, MF, K9, O9, U9, hb34, I9⟩
        refine (show Leaves _ _ _ _ [] .returning _ from ⟨.tuple #[ndV n6 p9, hpV k6 f6 ad9 f6.D.length], results_both Tryz.results8 _ _ gr gh _ _ rfl rfl K9.res K9.hap rfl rfl, ?_⟩)
        rw [hA.out, hr6.out]
        exact ⟨p9, ad9, f6.D.length, b1, b2, b3, b4, MB, MF, rfl, O9.monoB hsz, U9, hb34, I9, K9.bel⟩
      · refine held_op 6 rfl (by kernel_rfl) rfl (op_panic f #[ndV n p, .int .i64 l] (by have h3 := hf3.out; go_simp) ?_)
        refine (hok2 _ X.bel).mono ?_
        rintro e w6 ⟨rfl, b⟩
        replace X := X.below b
        clear b
        refine ⟨_, rfl, ?_⟩
        rw [hA.out, hbk]
        have hlt := X.lt
        have hsz := X.bel.size
        obtain ⟨l1, l2, l3, l4, -⟩ := brkN_lists n
        have hsm := (small_right hok.out).lists l1 l2 l3 l4
        refine leaves_cons (f := 43) (args := #[.pointer (some ⟨g, 0, none⟩), .pointer (some ⟨gr, 0, none⟩), .pointer (some ⟨gh, 0, none⟩)]) (by simp) (by simp [go_sem]) ?_
        refine (closCaught g gr gh n p w w w6 ⟨X.res, X.hap, X.bel, X.hr, X.hh, X.rh⟩ X.blk hlt.2.1 hlt.2.2 hm (Below.refl _ _) hsm).mono ?_
        rintro e u' w8 ⟨rfl, rfl, p9, ad9, b1, b2, b3, b4, MB, MF, K9, O9, U9, hb34, I9⟩
        have hfz := brkN_fr n
        generalize brkN n = r at *
        obtain ⟨n6, k6, f6⟩ := r
        dsimp only at *
        subst hfz
        refine (show Leaves _ _ _ _ [] .returning _ from ⟨.tuple #[ndV n6 p9, hpV k6 zF ad9 zF.D.length], results_both Tryz.results8 _ _ gr gh _ _ rfl rfl K9.res K9.hap rfl rfl, ?_⟩)
        exact ⟨p9, ad9, zF.D.length, b1, b2, b3, b4, MB, MF, rfl, O9.monoB hsz, U9, hb34, I9, K9.bel⟩
end Go.Proofs.YtpenjbpcebfecaaGreatDoor

/- The model's steps of a node: a right node's. -/

set_option linter.unusedVariables false
set_option linter.unusedSimpArgs false
set_option maxRecDepth 20000
namespace Go.Proofs.YtpenjbpcebfecaaGreatDoor
open Go.RowKit


section
variable {n r : Nd} {p : NdP} {k : Int} {w w' : World} {e : Ending}
theorem Told.y (h : Told r k p w e w') (e1 : r.fr = n.fr) (e2 : r.box = n.box) (e3 : r.fifo = n.fifo) (e4 : r.flt = n.flt) (hs : r.got.size ≤ maxLen) : SampY n p (r, k, zF) w e w' :=
  ⟨p, none, 0, h.1, fun u km kn => ⟨kn.lists e1 e2 e3 e4 hs, Nums.nil _⟩, h.2⟩
theorem lists_zero {m : Nd} {u : World} (kn : NdM n p u) (e1 : m.fr = zF) (e2 : m.box = n.box) (e3 : m.fifo = n.fifo) (e4 : m.flt = n.flt) (hs : m.got.size ≤ maxLen) : NdM m { p with ad := none, cd := 0 } u :=
  ⟨by rw [e1]; exact Nums.nil _, by rw [e2]; exact kn.box, by rw [e3]; exact kn.fifo, by rw [e4]; exact kn.flt, hs⟩
theorem TellF.y (h : TellF r k n p w e w') (e2 : r.box = n.box) (e3 : r.fifo = n.fifo) (e4 : r.flt = n.flt) (hs : r.got.size ≤ maxLen) : SampY n p (r, k, zF) w e w' := by
  obtain ⟨q, ht, h | h⟩ := h
  · obtain ⟨e1, rfl⟩ := h
    exact ht.y e1 e2 e3 e4 hs
  · obtain ⟨e1, rfl⟩ := h
    exact ⟨_, none, 0, ht.1, fun u km kn => ⟨lists_zero kn e1 e2 e3 e4 hs, Nums.nil _⟩, ht.2⟩
end
theorem brkY {n : Nd} {p : NdP} {w w' : World} {e : Ending} (h : Told (brkN n).1 (brkN n).2.1 p w e w') : SampY n p (brkN n) w e w' := by
  obtain ⟨l1, l2, l3, l4, l5⟩ := brkN_lists n
  have := h.y l1 l2 l3 l4 l5
  have e2 := brkN_fr n
  rw [← e2] at this
  exact this
theorem specBodyY (n : Nd) (p : NdP) (l : Int) (w : World) (hm : NdM n p w) (hok : nodeB n = true) (hp : n.ph = 1) (hl : l = 0 ∨ l = 1) : Calls Tryz.prog 115 #[ndV n p, .int .i64 l] w (SampY n p (bodyN n l) w) := by
  obtain ⟨R, W1⟩ := right_iff.1 hok
  unfold bodyN
  by_cases h5 : n.run = 5
  · rw [if_pos h5]
    by_cases hne : l = n.last
    · rw [if_pos hne]; exact (specBodySix n p l w h5 hne).mono fun _ _ h => brkY h
    · rw [if_neg hne]; exact specBodyFive n p l w hm h5 hne
  · rw [if_neg h5]
    by_cases hk : n.tx = true ∧ l ≠ nextV n
    · rw [if_pos hk]
      by_cases h2 : nextV n = 0 ∨ 12 < n.got.size
      · rw [if_pos h2]; exact (specBodyPart n p l w hm hok h5 hk.1 hp hk.2 h2).mono fun _ _ h => brkY h
      · rw [if_neg h2]; exact specBodyLose n p l w hm hok h5 hl R.run R.size hk.1 hp hk.2 h2
    · rw [if_neg hk]
      rcases (Bool.eq_false_or_eq_true n.tx).symm with ht | ht
      · exact specBodyStill n p l w hm hok h5 hl R.run R.size ht
      · exact specBodyKeep n p l w hm hok h5 hl R.run R.size ht hp (Classical.byContradiction fun k => hk ⟨ht, k⟩)
theorem specTailY (n : Nd) (p : NdP) (l : Int) (w : World) (hm : NdM n p w) (hok : nodeB n = true) (hl : l = 0 ∨ l = 1) : Calls Tryz.prog 116 #[ndV n p, .int .i64 l] w (SampY n p (tailN n l) w) := by
  obtain ⟨R, W1⟩ := right_iff.1 hok
  have hpos := R.pos
  have hD : n.fr.D.length ≤ 1000 := by have := frOk_max (show frOk n.fr.id n.fr.rm n.fr.ln n.fr.D = true from R.fr); omega
  unfold tailN
  cases ht : tailB n l
  · rw [if_neg (by decide)]
    unfold tailB at ht
    by_cases h1 : n.pos = 1
    · rw [if_pos h1] at ht
      rw [if_pos (by omega), if_neg (fun k => by omega)]
      rcases (Bool.eq_false_or_eq_true n.tx).symm with htx | htx
      · exact specTailO0 n p l w hm h1 htx hl
      · rw [htx, Bool.true_and, decide_eq_false_iff_not] at ht
        obtain rfl : l = 0 := by omega
        exact specTailO1 n p w hm h1 htx
    rw [if_neg h1] at ht
    by_cases h2 : n.pos = 2
    · rw [if_pos h2, Bool.or_eq_false_iff, decide_eq_false_iff_not] at ht
      rw [if_pos (by omega), if_neg (fun k => by omega)]
      obtain rfl : l = 1 := by omega
      exact specTailO2 n p w hm h2 ht.2
    rw [if_neg h2] at ht
    by_cases h9 : n.pos = 9
    · rw [if_neg (by omega)]
      rcases (Bool.eq_false_or_eq_true n.tx).symm with htx | htx
      · rw [if_neg (by rw [htx]; decide)]
        exact specTailLast n p l w hm h9 htx hl
      · rw [if_pos h9, htx, Bool.true_and, decide_eq_false_iff_not] at ht
        rw [if_pos htx]
        obtain rfl : l = 1 := by omega
        exact specTailSent n p w hm h9 htx R.box hD
    rw [if_neg h9, decide_eq_false_iff_not] at ht
    obtain rfl : l = 1 := by omega
    rw [if_pos (by omega)]
    by_cases h8 : n.pos = 8
    · rcases (Bool.eq_false_or_eq_true n.tx).symm with htx | htx
      · rw [if_pos ⟨h8, htx⟩]
        exact specTailHeard n p w hm h8 htx (fifo_32 R.fifo) (fifo_short R.fifo)
      · rw [if_neg (fun k => by rw [htx] at k; cases k.2), h8]
        exact specTailEight n p w hm h8 htx
    · rw [if_neg (fun k => h8 k.1)]
      exact specTailO3 n p w hm ⟨⟨hpos.1, by omega⟩, h1, h2⟩
  · rw [if_pos rfl]
    unfold tailB at ht
    by_cases h1 : n.pos = 1
    · rw [if_pos h1, Bool.and_eq_true, decide_eq_true_eq] at ht
      obtain ⟨htx, rfl⟩ := ht
      exact (specTailB0 n p w h1 htx).mono fun _ _ h => brkY h
    rw [if_neg h1] at ht
    by_cases h2 : n.pos = 2
    · rw [if_pos h2, Bool.or_eq_true, decide_eq_true_eq] at ht
      rcases hl with rfl | rfl
      · exact (specTailB1 n p w h2).mono fun _ _ h => brkY h
      · exact (specTailB2 n p w h2 (by rcases ht with h | h; cases h; exact h)).mono fun _ _ h => brkY h
    rw [if_neg h2] at ht
    by_cases h9 : n.pos = 9
    · rw [if_pos h9, Bool.and_eq_true, decide_eq_true_eq] at ht
      obtain ⟨htx, rfl⟩ := ht
      exact (specTailB3 n p w h9 htx).mono fun _ _ h => brkY h
    rw [if_neg h9, decide_eq_true_eq] at ht
    subst ht
    exact (specTailB4 n p w ⟨hpos, h1, h2, h9⟩).mono fun _ _ h => brkY h

set_option maxHeartbeats 8000000 in
/-- spec.l12Sample in PhBody. -/
theorem specSample1 (n : Nd) (p : NdP) (l : Int) (w : World) (hm : NdM n p w) (hok : nodeB n = true) (hl : l = 0 ∨ l = 1) (hp : n.ph = 1) :
    Calls Tryz.prog 49 #[ndV n p, .int .i64 l] w (SampY n p (bodyN n l) w) := by
  have hp' := Lib.hid hp
  replace hp := Lib.hid hp
  have X := N3.made (ndC n p) w
  go_enter Tryz.func49, Tryz.ntmps49
  go_upto_region 1 with fail
  generalize World.alloc _ _ = W at X ⊢
  generalize w.heap.size + 1 + 1 = gh at X ⊢
  generalize w.heap.size + 1 = gr at X ⊢
  generalize w.heap.size = g at X ⊢
  have c0 : W.cell? ⟨g, 0, none⟩ = some (.int .i64 1) := (X.cell 0).trans (by rw [← hp.out]; rfl)
  go_wp2_with (refine Nx.take ⟨X.blk, X.bel⟩ rfl rfl rfl ?_)
  clear c0
  have hlt := X.lt
  have hsz := X.bel.size
  refine (specBodyY n p l _ (hm.below X.bel) hok hp'.out hl).mono ?_
  rintro e w5 ⟨p5, ad5, cd5, rfl, hk5, b⟩
  replace X := X.below b
  clear b
  go_wp2_with (first | (refine wpList_put (n := (bodyN n l).1) (p := p5) X.res rfl rfl rfl rfl rfl ?_) | (refine wpList_tell (k := (bodyN n l).2.1) (f := (bodyN n l).2.2) (ad := ad5) (cd := cd5) (X.fin (ndC (bodyN n l).1 p5) #[]).1 rfl rfl rfl rfl rfl ?_))
  have hmf := X.upFin (ndC (bodyN n l).1 p5) (hpC (bodyN n l).2.1 (bodyN n l).2.2 ad5 cd5) hlt.2.1 hlt.2.2
  obtain ⟨-, Z1, Z2, Z3⟩ := X.fin (ndC (bodyN n l).1 p5) (hpC (bodyN n l).2.1 (bodyN n l).2.2 ad5 cd5)
  refine bodyPost_ret (v := .tuple #[ndV (bodyN n l).1 p5, hpV (bodyN n l).2.1 (bodyN n l).2.2 ad5 cd5]) ?_ rfl ⟨p5, ad5, cd5, rfl, fun u k kn => hk5 u (hmf.trans (k.higher hsz)) kn, Z3⟩
  exact results_both Tryz.results49 _ _ gr gh _ _ rfl rfl Z1 Z2 rfl rfl

set_option maxHeartbeats 8000000 in
/-- spec.l12Sample in PhTail. -/
theorem specSample2 (n : Nd) (p : NdP) (l : Int) (w : World) (hm : NdM n p w) (hok : nodeB n = true) (hl : l = 0 ∨ l = 1) (hp : n.ph = 2) :
    Calls Tryz.prog 49 #[ndV n p, .int .i64 l] w (SampY n p (tailN n l) w) := by
  replace hp := Lib.hid hp
  have X := N3.made (ndC n p) w
  go_enter Tryz.func49, Tryz.ntmps49
  go_upto_region 1 with fail
  generalize World.alloc _ _ = W at X ⊢
  generalize w.heap.size + 1 + 1 = gh at X ⊢
  generalize w.heap.size + 1 = gr at X ⊢
  generalize w.heap.size = g at X ⊢
  have c0 : W.cell? ⟨g, 0, none⟩ = some (.int .i64 2) := (X.cell 0).trans (by rw [← hp.out]; rfl)
  go_wp2_with (refine Nx.take ⟨X.blk, X.bel⟩ rfl rfl rfl ?_)
  clear c0
  have hlt := X.lt
  have hsz := X.bel.size
  refine (specTailY n p l _ (hm.below X.bel) hok hl).mono ?_
  rintro e w5 ⟨p5, ad5, cd5, rfl, hk5, b⟩
  replace X := X.below b
  clear b
  go_wp2_with (first | (refine wpList_put (n := (tailN n l).1) (p := p5) X.res rfl rfl rfl rfl rfl ?_) | (refine wpList_tell (k := (tailN n l).2.1) (f := (tailN n l).2.2) (ad := ad5) (cd := cd5) (X.fin (ndC (tailN n l).1 p5) #[]).1 rfl rfl rfl rfl rfl ?_))
  have hmf := X.upFin (ndC (tailN n l).1 p5) (hpC (tailN n l).2.1 (tailN n l).2.2 ad5 cd5) hlt.2.1 hlt.2.2
  obtain ⟨-, Z1, Z2, Z3⟩ := X.fin (ndC (tailN n l).1 p5) (hpC (tailN n l).2.1 (tailN n l).2.2 ad5 cd5)
  refine bodyPost_ret (v := .tuple #[ndV (tailN n l).1 p5, hpV (tailN n l).2.1 (tailN n l).2.2 ad5 cd5]) ?_ rfl ⟨p5, ad5, cd5, rfl, fun u k kn => hk5 u (hmf.trans (k.higher hsz)) kn, Z3⟩
  exact results_both Tryz.results49 _ _ gr gh _ _ rfl rfl Z1 Z2 rfl rfl

theorem offY {n : Nd} {p : NdP} {l : Int} {w w' : World} {e : Ending} (hs : n.got.size ≤ maxLen) (h : TellF (offN n l).1 (offN n l).2.1 n p w e w') : SampY n p (offN n l) w e w' := by
  obtain ⟨e2, e3, e4, e5, e6⟩ := offN_lists n l
  have := h.y e2 e3 e4 (by rw [e5]; exact hs)
  rw [← e6] at this
  exact this

set_option maxHeartbeats 8000000 in
/-- spec.l12Sample in PhOff. -/
theorem specSample7 (n : Nd) (p : NdP) (l : Int) (w : World) (hm : NdM n p w) (hok : nodeB n = true) (hl : l = 0 ∨ l = 1) (hp : n.ph = 7) :
    Calls Tryz.prog 49 #[ndV n p, .int .i64 l] w (SampY n p (offN n l) w) := by
  obtain ⟨R, -⟩ := right_iff.1 hok
  have hRl := R.left
  have hRr := R.run
  clear R
  replace hp := Lib.hid hp
  have X := N3.made (ndC n p) w
  go_enter Tryz.func49, Tryz.ntmps49
  go_upto_region 1 with fail
  generalize World.alloc _ _ = W at X ⊢
  generalize w.heap.size + 1 + 1 = gh at X ⊢
  generalize w.heap.size + 1 = gr at X ⊢
  generalize w.heap.size = g at X ⊢
  have c0 : W.cell? ⟨g, 0, none⟩ = some (.int .i64 7) := (X.cell 0).trans (by rw [← hp.out]; rfl)
  go_wp2_with (refine Nx.take ⟨X.blk, X.bel⟩ rfl rfl rfl ?_)
  clear c0
  have hlt := X.lt
  have hsz := X.bel.size
  refine ((specOff n p l _ hl hRl hRr).mono fun _ _ h => offY hm.size h).mono ?_
  rintro e w5 ⟨p5, ad5, cd5, rfl, hk5, b⟩
  replace X := X.below b
  clear b
  go_wp2_with (first | (refine wpList_put (n := (offN n l).1) (p := p5) X.res rfl rfl rfl rfl rfl ?_) | (refine wpList_tell (k := (offN n l).2.1) (f := (offN n l).2.2) (ad := ad5) (cd := cd5) (X.fin (ndC (offN n l).1 p5) #[]).1 rfl rfl rfl rfl rfl ?_))
  have hmf := X.upFin (ndC (offN n l).1 p5) (hpC (offN n l).2.1 (offN n l).2.2 ad5 cd5) hlt.2.1 hlt.2.2
  obtain ⟨-, Z1, Z2, Z3⟩ := X.fin (ndC (offN n l).1 p5) (hpC (offN n l).2.1 (offN n l).2.2 ad5 cd5)
  refine bodyPost_ret (v := .tuple #[ndV (offN n l).1 p5, hpV (offN n l).2.1 (offN n l).2.2 ad5 cd5]) ?_ rfl ⟨p5, ad5, cd5, rfl, fun u k kn => hk5 u (hmf.trans (k.higher hsz)) kn, Z3⟩
  exact results_both Tryz.results49 _ _ gr gh _ _ rfl rfl Z1 Z2 rfl rfl

theorem pauseN_lists (n : Nd) (l : Int) : (pauseN n l).box = n.box ∧ (pauseN n l).fifo = n.fifo ∧ (pauseN n l).flt = n.flt ∧ ((pauseN n l).got = n.got ∨ (pauseN n l).got = ⟨#[48]⟩) := by
  unfold pauseN
  split
  · split <;> exact ⟨rfl, rfl, rfl, .inl rfl⟩
  split
  · split
    · exact ⟨rfl, rfl, rfl, .inl rfl⟩
    · split <;> exact ⟨rfl, rfl, rfl, .inl rfl⟩
  split
  · split
    · split <;> exact ⟨rfl, rfl, rfl, .inl rfl⟩
    · exact ⟨rfl, rfl, rfl, .inl rfl⟩
  split
  · split
    · exact ⟨rfl, rfl, rfl, .inr rfl⟩
    · split <;> exact ⟨rfl, rfl, rfl, .inl rfl⟩
  · exact ⟨rfl, rfl, rfl, .inl rfl⟩

set_option maxHeartbeats 8000000 in
/-- spec.l12Sample in a pause. -/
theorem specSample3 (n : Nd) (p : NdP) (l : Int) (w : World) (hm : NdM n p w) (hok : nodeB n = true) (hl : l = 0 ∨ l = 1) (hp : n.ph = 3) :
    Calls Tryz.prog 49 #[ndV n p, .int .i64 l] w (SampY n p (pauseN n l, 0, zF) w) := by
  have hpa := Lib.hid (pauseN_lists n l)
  have hp' := Lib.hid hp
  obtain ⟨R, -⟩ := right_iff.1 hok
  have hRl := R.left
  clear R
  replace hp := Lib.hid hp
  have X := N3.made (ndC n p) w
  go_enter Tryz.func49, Tryz.ntmps49
  go_upto_region 1 with fail
  generalize World.alloc _ _ = W at X ⊢
  generalize w.heap.size + 1 + 1 = gh at X ⊢
  generalize w.heap.size + 1 = gr at X ⊢
  generalize w.heap.size = g at X ⊢
  have c0 : W.cell? ⟨g, 0, none⟩ = some (.int .i64 3) := (X.cell 0).trans (by rw [← hp.out]; rfl)
  go_wp2_with (refine Nx.take ⟨X.blk, X.bel⟩ rfl rfl rfl ?_)
  clear c0
  refine (specPause3 n p l _ hl hRl hp'.out).mono ?_
  rintro e w5 ⟨p5, ⟨rfl, b⟩, hL⟩
  replace X := X.below b
  clear b
  go_wp2_with fail
  refine (specHappen 0 _).mono ?_
  rintro e w6 ⟨rfl, b⟩
  replace X := X.below b
  clear b
  have hfin : ∀ u, NdM n p u → NdM (pauseN n l) p5 u := fun u kn => by
    obtain ⟨e2, e3, e4, e5⟩ := hpa.out
    have hs : (pauseN n l).got.size ≤ maxLen := by rcases e5 with e5 | e5 <;> rw [e5]; exact hm.size; exact one_le_max
    rcases hL with ⟨e1, rfl⟩ | ⟨e1, rfl⟩
    · exact kn.lists e1 e2 e3 e4 hs
    · exact lists_zero kn e1 e2 e3 e4 hs
  clear hL hpa
  go_wp2_with (first | (refine Nx.take ⟨X.blk, X.bel⟩ rfl rfl rfl ?_) | (refine wpList_put X.res rfl rfl rfl rfl rfl ?_) | (refine wpList_tell (k := 0) (f := zF) (ad := none) (cd := 0) (X.fin (ndC (pauseN n l) p5) #[]).1 rfl rfl rfl rfl rfl ?_))
  obtain ⟨-, Z1, Z2, Z3⟩ := X.fin (ndC (pauseN n l) p5) (hpC (0) (zF) (none) (0))
  refine bodyPost_ret (v := .tuple #[ndV (pauseN n l) p5, hpV (0) (zF) (none) (0)]) ?_ rfl ⟨p5, none, 0, rfl, fun u k kn => ⟨hfin u kn, Nums.nil _⟩, Z3⟩
  exact results_both Tryz.results49 _ _ gr gh _ _ rfl rfl Z1 Z2 rfl rfl

set_option maxHeartbeats 8000000 in
/-- spec.l12Sample in a pause. -/
theorem specSample4 (n : Nd) (p : NdP) (l : Int) (w : World) (hm : NdM n p w) (hok : nodeB n = true) (hl : l = 0 ∨ l = 1) (hp : n.ph = 4) :
    Calls Tryz.prog 49 #[ndV n p, .int .i64 l] w (SampY n p (pauseN n l, 0, zF) w) := by
  have hpa := Lib.hid (pauseN_lists n l)
  have hp' := Lib.hid hp
  obtain ⟨R, -⟩ := right_iff.1 hok
  have hRl := R.left
  clear R
  replace hp := Lib.hid hp
  have X := N3.made (ndC n p) w
  go_enter Tryz.func49, Tryz.ntmps49
  go_upto_region 1 with fail
  generalize World.alloc _ _ = W at X ⊢
  generalize w.heap.size + 1 + 1 = gh at X ⊢
  generalize w.heap.size + 1 = gr at X ⊢
  generalize w.heap.size = g at X ⊢
  have c0 : W.cell? ⟨g, 0, none⟩ = some (.int .i64 4) := (X.cell 0).trans (by rw [← hp.out]; rfl)
  go_wp2_with (refine Nx.take ⟨X.blk, X.bel⟩ rfl rfl rfl ?_)
  clear c0
  refine (specPause4 n p l _ hl hRl hp'.out).mono ?_
  rintro e w5 ⟨p5, ⟨rfl, b⟩, hL⟩
  replace X := X.below b
  clear b
  go_wp2_with fail
  refine (specHappen 0 _).mono ?_
  rintro e w6 ⟨rfl, b⟩
  replace X := X.below b
  clear b
  have hfin : ∀ u, NdM n p u → NdM (pauseN n l) p5 u := fun u kn => by
    obtain ⟨e2, e3, e4, e5⟩ := hpa.out
    have hs : (pauseN n l).got.size ≤ maxLen := by rcases e5 with e5 | e5 <;> rw [e5]; exact hm.size; exact one_le_max
    rcases hL with ⟨e1, rfl⟩ | ⟨e1, rfl⟩
    · exact kn.lists e1 e2 e3 e4 hs
    · exact lists_zero kn e1 e2 e3 e4 hs
  clear hL hpa
  go_wp2_with (first | (refine Nx.take ⟨X.blk, X.bel⟩ rfl rfl rfl ?_) | (refine wpList_put X.res rfl rfl rfl rfl rfl ?_) | (refine wpList_tell (k := 0) (f := zF) (ad := none) (cd := 0) (X.fin (ndC (pauseN n l) p5) #[]).1 rfl rfl rfl rfl rfl ?_))
  obtain ⟨-, Z1, Z2, Z3⟩ := X.fin (ndC (pauseN n l) p5) (hpC (0) (zF) (none) (0))
  refine bodyPost_ret (v := .tuple #[ndV (pauseN n l) p5, hpV (0) (zF) (none) (0)]) ?_ rfl ⟨p5, none, 0, rfl, fun u k kn => ⟨hfin u kn, Nums.nil _⟩, Z3⟩
  exact results_both Tryz.results49 _ _ gr gh _ _ rfl rfl Z1 Z2 rfl rfl

set_option maxHeartbeats 8000000 in
/-- spec.l12Sample in a pause. -/
theorem specSample5 (n : Nd) (p : NdP) (l : Int) (w : World) (hm : NdM n p w) (hok : nodeB n = true) (hl : l = 0 ∨ l = 1) (hp : n.ph = 5) :
    Calls Tryz.prog 49 #[ndV n p, .int .i64 l] w (SampY n p (pauseN n l, 0, zF) w) := by
  have hpa := Lib.hid (pauseN_lists n l)
  have hp' := Lib.hid hp
  obtain ⟨R, -⟩ := right_iff.1 hok
  have hRl := R.left
  clear R
  replace hp := Lib.hid hp
  have X := N3.made (ndC n p) w
  go_enter Tryz.func49, Tryz.ntmps49
  go_upto_region 1 with fail
  generalize World.alloc _ _ = W at X ⊢
  generalize w.heap.size + 1 + 1 = gh at X ⊢
  generalize w.heap.size + 1 = gr at X ⊢
  generalize w.heap.size = g at X ⊢
  have c0 : W.cell? ⟨g, 0, none⟩ = some (.int .i64 5) := (X.cell 0).trans (by rw [← hp.out]; rfl)
  go_wp2_with (refine Nx.take ⟨X.blk, X.bel⟩ rfl rfl rfl ?_)
  clear c0
  refine (specPause5 n p l _ hl hRl hp'.out).mono ?_
  rintro e w5 ⟨p5, ⟨rfl, b⟩, hL⟩
  replace X := X.below b
  clear b
  go_wp2_with fail
  refine (specHappen 0 _).mono ?_
  rintro e w6 ⟨rfl, b⟩
  replace X := X.below b
  clear b
  have hfin : ∀ u, NdM n p u → NdM (pauseN n l) p5 u := fun u kn => by
    obtain ⟨e2, e3, e4, e5⟩ := hpa.out
    have hs : (pauseN n l).got.size ≤ maxLen := by rcases e5 with e5 | e5 <;> rw [e5]; exact hm.size; exact one_le_max
    rcases hL with ⟨e1, rfl⟩ | ⟨e1, rfl⟩
    · exact kn.lists e1 e2 e3 e4 hs
    · exact lists_zero kn e1 e2 e3 e4 hs
  clear hL hpa
  go_wp2_with (first | (refine Nx.take ⟨X.blk, X.bel⟩ rfl rfl rfl ?_) | (refine wpList_put X.res rfl rfl rfl rfl rfl ?_) | (refine wpList_tell (k := 0) (f := zF) (ad := none) (cd := 0) (X.fin (ndC (pauseN n l) p5) #[]).1 rfl rfl rfl rfl rfl ?_))
  obtain ⟨-, Z1, Z2, Z3⟩ := X.fin (ndC (pauseN n l) p5) (hpC (0) (zF) (none) (0))
  refine bodyPost_ret (v := .tuple #[ndV (pauseN n l) p5, hpV (0) (zF) (none) (0)]) ?_ rfl ⟨p5, none, 0, rfl, fun u k kn => ⟨hfin u kn, Nums.nil _⟩, Z3⟩
  exact results_both Tryz.results49 _ _ gr gh _ _ rfl rfl Z1 Z2 rfl rfl

set_option maxHeartbeats 8000000 in
/-- spec.l12Sample in a pause. -/
theorem specSample6 (n : Nd) (p : NdP) (l : Int) (w : World) (hm : NdM n p w) (hok : nodeB n = true) (hl : l = 0 ∨ l = 1) (hp : n.ph = 6) :
    Calls Tryz.prog 49 #[ndV n p, .int .i64 l] w (SampY n p (pauseN n l, 0, zF) w) := by
  have hpa := Lib.hid (pauseN_lists n l)
  have hp' := Lib.hid hp
  obtain ⟨R, -⟩ := right_iff.1 hok
  have hRl := R.left
  clear R
  replace hp := Lib.hid hp
  have X := N3.made (ndC n p) w
  go_enter Tryz.func49, Tryz.ntmps49
  go_upto_region 1 with fail
  generalize World.alloc _ _ = W at X ⊢
  generalize w.heap.size + 1 + 1 = gh at X ⊢
  generalize w.heap.size + 1 = gr at X ⊢
  generalize w.heap.size = g at X ⊢
  have c0 : W.cell? ⟨g, 0, none⟩ = some (.int .i64 6) := (X.cell 0).trans (by rw [← hp.out]; rfl)
  go_wp2_with (refine Nx.take ⟨X.blk, X.bel⟩ rfl rfl rfl ?_)
  clear c0
  refine (specPause6 n p l _ hl hRl hp'.out).mono ?_
  rintro e w5 ⟨p5, ⟨rfl, b⟩, hL⟩
  replace X := X.below b
  clear b
  go_wp2_with fail
  refine (specHappen 0 _).mono ?_
  rintro e w6 ⟨rfl, b⟩
  replace X := X.below b
  clear b
  have hfin : ∀ u, NdM n p u → NdM (pauseN n l) p5 u := fun u kn => by
    obtain ⟨e2, e3, e4, e5⟩ := hpa.out
    have hs : (pauseN n l).got.size ≤ maxLen := by rcases e5 with e5 | e5 <;> rw [e5]; exact hm.size; exact one_le_max
    rcases hL with ⟨e1, rfl⟩ | ⟨e1, rfl⟩
    · exact kn.lists e1 e2 e3 e4 hs
    · exact lists_zero kn e1 e2 e3 e4 hs
  clear hL hpa
  go_wp2_with (first | (refine Nx.take ⟨X.blk, X.bel⟩ rfl rfl rfl ?_) | (refine wpList_put X.res rfl rfl rfl rfl rfl ?_) | (refine wpList_tell (k := 0) (f := zF) (ad := none) (cd := 0) (X.fin (ndC (pauseN n l) p5) #[]).1 rfl rfl rfl rfl rfl ?_))
  obtain ⟨-, Z1, Z2, Z3⟩ := X.fin (ndC (pauseN n l) p5) (hpC (0) (zF) (none) (0))
  refine bodyPost_ret (v := .tuple #[ndV (pauseN n l) p5, hpV (0) (zF) (none) (0)]) ?_ rfl ⟨p5, none, 0, rfl, fun u k kn => ⟨hfin u kn, Nums.nil _⟩, Z3⟩
  exact results_both Tryz.results49 _ _ gr gh _ _ rfl rfl Z1 Z2 rfl rfl

theorem N3.far {g gr gh gx : Nat} {C : Array Value} {w0 w : World} (h : N3 g gr gh C w0 w) (k : Nat) (v : Value) (h1 : g ≠ gx) (h2 : gr ≠ gx) (h3 : gh ≠ gx) (hx : w0.heap.size ≤ gx) : N3 g gr gh C w0 (w.setCell ⟨gx, k, none⟩ v) :=
  ⟨(heap_setCell_other w ⟨gx, k, none⟩ g v h1).trans h.blk, (heap_setCell_other w ⟨gx, k, none⟩ gr v h2).trans h.res, (heap_setCell_other w ⟨gx, k, none⟩ gh v h3).trans h.hap, h.bel.setCell hx _, h.hg, h.hr, h.hh, h.nr, h.nh, h.rh⟩

set_option maxHeartbeats 16000000 in
/-- spec.l12Sample in PhIdle. -/
theorem specSample0 (n : Nd) (p : NdP) (l : Int) (w : World) (hm : NdM n p w) (hl : l = 0 ∨ l = 1) (hp : n.ph = 0) (hbD : 0 < n.box.length → (nthF n.box 0).D.length ≤ 1000) :
    Calls Tryz.prog 49 #[ndV n p, .int .i64 l] w (SampY n p (if l = 1 then (n, 0, zF) else ({ begN n (decide (0 < n.box.length)) with fr := if 0 < n.box.length then nthF n.box 0 else zF }, 0, zF)) w) := by
  rcases hl with rfl | rfl
  · rw [if_neg (by decide)]
    by_cases hb : 0 < n.box.length
    · have hd : decide (0 < n.box.length) = true := decide_eq_true hb
      rw [if_pos hb, decide_eq_true hb]
      have HF0 := Lib.hid (hm.box.2 0 hb)
      have hD8 := Lib.hid (hbD hb)
      replace hb := Lib.hid hb
      replace hp := Lib.hid hp
      have X := N3.made (ndC n p) w
      go_enter Tryz.func49, Tryz.ntmps49
      go_upto_region 1 with fail
      generalize World.alloc _ _ = W at X ⊢
      generalize w.heap.size + 1 + 1 = gh at X ⊢
      generalize w.heap.size + 1 = gr at X ⊢
      generalize w.heap.size = g at X ⊢
      have c0 : W.cell? ⟨g, 0, none⟩ = some (.int .i64 0) := (X.cell 0).trans (by rw [← hp.out]; rfl)
      have c15 : W.cell? ⟨g, 15, none⟩ = some (.slice p.ab n.box.length p.cb) := X.cell 15
      go_wp2_with (refine Nx.take ⟨X.blk, X.bel⟩ rfl rfl rfl ?_)
      refine (specBegin n p true _).mono ?_
      rintro e w3 ⟨rfl, b⟩
      replace X := X.below b
      clear b c0 c15
      have hlx := X.lt
      have bx := below_more (Below.refl w3.heap.size w3) (.cells (ndC (begN n true) p) 32)
      have HX := heap_alloc_new w3 (.cells (ndC (begN n true) p) 32)
      go_upto_region 6 with (refine wpList_lay (w := w3) (n := begN n true) (p := p) (C := ndZ) (by rfl) (by rfl) (by rfl) (by rfl) (by rfl) (by rfl) ?_)
      replace X := X.below bx
      have Y : N3 w3.heap.size gr gh (ndC (begN n true) p) w _ := ⟨HX, X.res, X.hap, X.bel, Nat.le_trans X.hg (Nat.le_of_lt hlx.1), X.hr, X.hh, by omega, by omega, X.rh⟩
      clear bx HX
      generalize w3.alloc _ = W4 at X Y ⊢
      have hgx : g ≠ w3.heap.size := by omega
      generalize w3.heap.size = gx at Y hgx ⊢
      have y4 : W4.cell? ⟨gx, 4, none⟩ = some (.int .i64 n.fr.id) := Y.cell 4
      have y5 : W4.cell? ⟨gx, 5, none⟩ = some (.bool n.fr.rm) := Y.cell 5
      have y6 : W4.cell? ⟨gx, 6, none⟩ = some (.int .i64 n.fr.ln) := Y.cell 6
      have y7 : W4.cell? ⟨gx, 7, none⟩ = some (.slice p.ad n.fr.D.length p.cd) := Y.cell 7
      have q4 := Y.free 4
      have q5 := Y.free 5
      have q6 := Y.free 6
      have q7 := Y.free 7
      go_upto_region 7 with fail
      clear y4 y5 y6 y7 q4 q5 q6 q7
      replace X := ((((X.far 4 (.int .i64 0) hgx Y.nr Y.nh Y.hg).far 5 (.bool false) hgx Y.nr Y.nh Y.hg).far 6 (.int .i64 0) hgx Y.nr Y.nh Y.hg).far 7 (.slice none 0 0) hgx Y.nr Y.nh Y.hg)
      replace Y : N3 gx gr gh (ndC { begN n true with fr := zF } { p with ad := none, cd := 0 }) w _ := ((((Y.set 4 (.int .i64 0)).set 5 (.bool false)).set 6 (.int .i64 0)).set 7 (.slice none 0 0))
      generalize World.setCell _ _ _ = W5 at X Y ⊢
      have y1 : W5.cell? ⟨gx, 1, none⟩ = some (.bool true) := Y.cell 1
      obtain ⟨gb, o, ad, cc, ha, HF⟩ := HF0.out
      rw [Nat.zero_mul, Nat.add_zero] at HF
      have hD9 := hD8.out
      generalize nthF n.box 0 = f at *
      replace HF := HF.below X.bel
      obtain ⟨⟨z0, z1, z2, z3⟩, hn⟩ := HF
      have hlen : (0 : Int) < (n.box.length : Int) := by have := hb.out; omega
      have c15 : W5.cell? ⟨g, 15, none⟩ = some (.slice (some ⟨gb, o, none⟩) n.box.length p.cb) := (X.cell 15).trans (by rw [← ha]; rfl)
      replace ha := Lib.hid ha
      have hlY := Y.lt
      have hsY := Y.bel.size
      go_wp2_with fail
      refine (copyFr f.id f.rm f.ln ad f.D cc _ hn hD9).mono ?_
      rintro e w6 ⟨av, cv, rfl, O, gg⟩
      have b := below_new gg
      replace Y := Y.below b
      clear b gg y1 c15 z0 z1 z2 z3 hn X
      have y4 : w6.cell? ⟨gx, 4, none⟩ = some (.int .i64 0) := Y.cell 4
      have y5 : w6.cell? ⟨gx, 5, none⟩ = some (.bool false) := Y.cell 5
      have y6 : w6.cell? ⟨gx, 6, none⟩ = some (.int .i64 0) := Y.cell 6
      have y7 : w6.cell? ⟨gx, 7, none⟩ = some (.slice none 0 0) := Y.cell 7
      have q4 := Y.free 4
      have q5 := Y.free 5
      have q6 := Y.free 6
      have q7 := Y.free 7
      go_upto_region 9 with fail
      clear y4 y5 y6 y7 q4 q5 q6 q7
      replace O := (((O.kept2 (grown_at_cell w6 gx 4 (.int .i64 f.id)) hlY.1).kept2 (grown_at_cell _ gx 5 (.bool f.rm)) hlY.1).kept2 (grown_at_cell _ gx 6 (.int .i64 f.ln)) hlY.1).kept2 (grown_at_cell _ gx 7 (.slice av f.D.length cv)) hlY.1
      replace Y : N3 gx gr gh (ndC { begN n true with fr := f } { p with ad := av, cd := cv }) w _ := (((Y.set 4 (.int .i64 f.id)).set 5 (.bool f.rm)).set 6 (.int .i64 f.ln)).set 7 (.slice av f.D.length cv)
      generalize World.setCell _ _ _ = W7 at Y O ⊢
      refine wp_region_held (S := fun u => Nx gx ({ begN n true with fr := f }) ({ p with ad := av, cd := cv }) w u) (by kernel_rfl) ?_
      replace Y := Y.drew'
      have hdr : Below W7.heap.size W7 ({ W7 with drawn := W7.drawn + 1 } : World) := (Below.refl _ _).drew
      replace O := O.below' hdr
      clear hdr
      generalize ({ W7 with drawn := W7.drawn + 1 } : World) = V at Y O ⊢
      refine take_at 0 _ (ndV ({ begN n true with fr := f }) ({ p with ad := av, cd := cv })) rfl rfl (by kernel_rfl) (by kernel_rfl) (by kernel_rfl) (fun _ _ _ h => h) (.inl ⟨rfl, fun u hu => hu.took rfl rfl⟩) Y.nx ?_
      simp only [Act.put, List.setIfInBounds_toArray, List.set_cons_zero, List.set_cons_succ]
      refine call_at 1 _ 113 #[.int .i64 0] rfl rfl (by kernel_rfl) rfl (by go_simp) ?_
      refine (specHappen 0 _).mono ?_
      rintro e wh ⟨rfl, b⟩
      replace Y := Y.below b
      replace O := O.below' b
      clear b
      refine ⟨_, rfl, Y.nx, ?_⟩
      simp only [Act.put, List.setIfInBounds_toArray, List.set_cons_zero, List.set_cons_succ]
      refine held_row 2 gr (ndC ({ begN n true with fr := f }) ({ p with ad := av, cd := cv })) rfl (by kernel_rfl) rfl rfl rfl rfl rfl Y.res (by kernel_rfl) rfl (ndC_one _ _) (Y.nxR _) ?_
      refine held_row 3 gh (hpC 0 zF none 0) rfl (by kernel_rfl) rfl rfl rfl rfl rfl (Y.fin _ #[]).1 (by kernel_rfl) rfl (hpC_one _ _ _ _) (Y.nxH _ _) ?_
      refine wpAnyH_done (by kernel_rfl) ?_ _
      have OF := (O.kept2 (grown_row _ gr (ndC { begN n true with fr := f } { p with ad := av, cd := cv })) hlY.2.1).kept2 (grown_row _ gh (hpC 0 zF none 0)) hlY.2.2
      obtain ⟨-, Z1, Z2, Z3⟩ := Y.fin (ndC ({ begN n true with fr := f }) ({ p with ad := av, cd := cv })) (hpC 0 zF none 0)
      go_wp2_with fail
      refine bodyPost_ret (v := .tuple #[ndV ({ begN n true with fr := f }) ({ p with ad := av, cd := cv }), hpV 0 zF none 0]) ?_ rfl ⟨{ p with ad := av, cd := cv }, none, 0, rfl, fun u k kn => ⟨⟨(OF.up k hsY).nums2, kn.box, kn.fifo, kn.flt, one_le_max⟩, Nums.nil _⟩, Z3⟩
      exact results_both Tryz.results49 _ _ gr gh _ _ rfl rfl Z1 Z2 rfl rfl
    · have hd : decide (0 < n.box.length) = false := decide_eq_false hb
      rw [if_neg hb, decide_eq_false hb]
      replace hb := Lib.hid hb
      replace hp := Lib.hid hp
      have X := N3.made (ndC n p) w
      go_enter Tryz.func49, Tryz.ntmps49
      go_upto_region 1 with fail
      generalize World.alloc _ _ = W at X ⊢
      generalize w.heap.size + 1 + 1 = gh at X ⊢
      generalize w.heap.size + 1 = gr at X ⊢
      generalize w.heap.size = g at X ⊢
      have c0 : W.cell? ⟨g, 0, none⟩ = some (.int .i64 0) := (X.cell 0).trans (by rw [← hp.out]; rfl)
      have c15 : W.cell? ⟨g, 15, none⟩ = some (.slice p.ab n.box.length p.cb) := X.cell 15
      go_wp2_with (refine Nx.take ⟨X.blk, X.bel⟩ rfl rfl rfl ?_)
      refine (specBegin n p false _).mono ?_
      rintro e w3 ⟨rfl, b⟩
      replace X := X.below b
      clear b c0 c15
      have hlx := X.lt
      have bx := below_more (Below.refl w3.heap.size w3) (.cells (ndC (begN n false) p) 32)
      have HX := heap_alloc_new w3 (.cells (ndC (begN n false) p) 32)
      go_upto_region 6 with (refine wpList_lay (w := w3) (n := begN n false) (p := p) (C := ndZ) (by rfl) (by rfl) (by rfl) (by rfl) (by rfl) (by rfl) ?_)
      replace X := X.below bx
      have Y : N3 w3.heap.size gr gh (ndC (begN n false) p) w _ := ⟨HX, X.res, X.hap, X.bel, Nat.le_trans X.hg (Nat.le_of_lt hlx.1), X.hr, X.hh, by omega, by omega, X.rh⟩
      clear bx HX
      generalize w3.alloc _ = W4 at X Y ⊢
      have hgx : g ≠ w3.heap.size := by omega
      generalize w3.heap.size = gx at Y hgx ⊢
      have y4 : W4.cell? ⟨gx, 4, none⟩ = some (.int .i64 n.fr.id) := Y.cell 4
      have y5 : W4.cell? ⟨gx, 5, none⟩ = some (.bool n.fr.rm) := Y.cell 5
      have y6 : W4.cell? ⟨gx, 6, none⟩ = some (.int .i64 n.fr.ln) := Y.cell 6
      have y7 : W4.cell? ⟨gx, 7, none⟩ = some (.slice p.ad n.fr.D.length p.cd) := Y.cell 7
      have q4 := Y.free 4
      have q5 := Y.free 5
      have q6 := Y.free 6
      have q7 := Y.free 7
      go_upto_region 7 with fail
      clear y4 y5 y6 y7 q4 q5 q6 q7
      replace X := ((((X.far 4 (.int .i64 0) hgx Y.nr Y.nh Y.hg).far 5 (.bool false) hgx Y.nr Y.nh Y.hg).far 6 (.int .i64 0) hgx Y.nr Y.nh Y.hg).far 7 (.slice none 0 0) hgx Y.nr Y.nh Y.hg)
      replace Y : N3 gx gr gh (ndC { begN n false with fr := zF } { p with ad := none, cd := 0 }) w _ := ((((Y.set 4 (.int .i64 0)).set 5 (.bool false)).set 6 (.int .i64 0)).set 7 (.slice none 0 0))
      generalize World.setCell _ _ _ = W5 at X Y ⊢
      have y1 : W5.cell? ⟨gx, 1, none⟩ = some (.bool false) := Y.cell 1
      clear X
      go_upto_region 9 with fail
      clear y1
      refine wp_region_held (S := fun u => Nx gx ({ begN n false with fr := zF }) ({ p with ad := none, cd := 0 }) w u) (by kernel_rfl) ?_
      replace Y := Y.drew'
      generalize ({ W5 with drawn := W5.drawn + 1 } : World) = V at Y ⊢
      refine take_at 0 _ (ndV ({ begN n false with fr := zF }) ({ p with ad := none, cd := 0 })) rfl rfl (by kernel_rfl) (by kernel_rfl) (by kernel_rfl) (fun _ _ _ h => h) (.inl ⟨rfl, fun u hu => hu.took rfl rfl⟩) Y.nx ?_
      simp only [Act.put, List.setIfInBounds_toArray, List.set_cons_zero, List.set_cons_succ]
      refine call_at 1 _ 113 #[.int .i64 0] rfl rfl (by kernel_rfl) rfl (by go_simp) ?_
      refine (specHappen 0 _).mono ?_
      rintro e wh ⟨rfl, b⟩
      replace Y := Y.below b
      clear b
      refine ⟨_, rfl, Y.nx, ?_⟩
      simp only [Act.put, List.setIfInBounds_toArray, List.set_cons_zero, List.set_cons_succ]
      refine held_row 2 gr (ndC ({ begN n false with fr := zF }) ({ p with ad := none, cd := 0 })) rfl (by kernel_rfl) rfl rfl rfl rfl rfl Y.res (by kernel_rfl) rfl (ndC_one _ _) (Y.nxR _) ?_
      refine held_row 3 gh (hpC 0 zF none 0) rfl (by kernel_rfl) rfl rfl rfl rfl rfl (Y.fin _ #[]).1 (by kernel_rfl) rfl (hpC_one _ _ _ _) (Y.nxH _ _) ?_
      refine wpAnyH_done (by kernel_rfl) ?_ _
      obtain ⟨-, Z1, Z2, Z3⟩ := Y.fin (ndC ({ begN n false with fr := zF }) ({ p with ad := none, cd := 0 })) (hpC 0 zF none 0)
      go_wp2_with fail
      refine bodyPost_ret (v := .tuple #[ndV ({ begN n false with fr := zF }) ({ p with ad := none, cd := 0 }), hpV 0 zF none 0]) ?_ rfl ⟨{ p with ad := none, cd := 0 }, none, 0, rfl, fun u k kn => ⟨lists_zero kn rfl rfl rfl rfl one_le_max, Nums.nil _⟩, Z3⟩
      exact results_both Tryz.results49 _ _ gr gh _ _ rfl rfl Z1 Z2 rfl rfl
  · rw [if_pos rfl]
    replace hp := Lib.hid hp
    have X := N3.made (ndC n p) w
    go_enter Tryz.func49, Tryz.ntmps49
    go_upto_region 1 with fail
    generalize World.alloc _ _ = W at X ⊢
    generalize w.heap.size + 1 + 1 = gh at X ⊢
    generalize w.heap.size + 1 = gr at X ⊢
    generalize w.heap.size = g at X ⊢
    have c0 : W.cell? ⟨g, 0, none⟩ = some (.int .i64 0) := (X.cell 0).trans (by rw [← hp.out]; rfl)
    go_upto_region 4 with fail
    clear c0
    refine wp_region_held (S := fun u => Nx g (n) (p) w u) (by kernel_rfl) ?_
    replace X := X.drew'
    generalize ({ W with drawn := W.drawn + 1 } : World) = V at X ⊢
    refine take_at 0 _ (ndV (n) (p)) rfl rfl (by kernel_rfl) (by kernel_rfl) (by kernel_rfl) (fun _ _ _ h => h) (.inl ⟨rfl, fun u hu => hu.took rfl rfl⟩) X.nx ?_
    simp only [Act.put, List.setIfInBounds_toArray, List.set_cons_zero, List.set_cons_succ]
    refine call_at 1 _ 113 #[.int .i64 0] rfl rfl (by kernel_rfl) rfl (by go_simp) ?_
    refine (specHappen 0 _).mono ?_
    rintro e wh ⟨rfl, b⟩
    replace X := X.below b
    clear b
    refine ⟨_, rfl, X.nx, ?_⟩
    simp only [Act.put, List.setIfInBounds_toArray, List.set_cons_zero, List.set_cons_succ]
    refine held_row 2 gr (ndC (n) (p)) rfl (by kernel_rfl) rfl rfl rfl rfl rfl X.res (by kernel_rfl) rfl (ndC_one _ _) (X.nxR _) ?_
    refine held_row 3 gh (hpC 0 zF none 0) rfl (by kernel_rfl) rfl rfl rfl rfl rfl (X.fin _ #[]).1 (by kernel_rfl) rfl (hpC_one _ _ _ _) (X.nxH _ _) ?_
    refine wpAnyH_done (by kernel_rfl) ?_ _
    obtain ⟨-, Z1, Z2, Z3⟩ := X.fin (ndC (n) (p)) (hpC 0 zF none 0)
    go_wp2_with fail
    refine bodyPost_ret (v := .tuple #[ndV (n) (p), hpV 0 zF none 0]) ?_ rfl ⟨p, none, 0, rfl, fun u k kn => ⟨kn, Nums.nil _⟩, Z3⟩
    exact results_both Tryz.results49 _ _ gr gh _ _ rfl rfl Z1 Z2 rfl rfl

/-- spec.l12Sample, of a right node. -/
theorem specSample (n : Nd) (p : NdP) (l : Int) (w : World) (hm : NdM n p w) (hok : nodeB n = true) (hl : l = 0 ∨ l = 1) : Calls Tryz.prog 49 #[ndV n p, .int .i64 l] w (SampY n p (sampN n l) w) := by
  have hp := (nodeB_parts hok).1
  obtain ⟨R, -⟩ := right_iff.1 hok
  have hbD : 0 < n.box.length → (nthF n.box 0).D.length ≤ 1000 := fun h => by
    have hb := boxB_iff.1 R.box
    have hf : frB (nthF n.box 0) = true := by
      cases h2 : frB (nthF n.box 0) with
      | true => rfl
      | false => have h3 := rk_neg h2; have h4 := (hb.2 0 h).1; omega
    have := frOk_max (show frOk _ _ _ _ = true from hf); omega
  unfold sampN
  rcases (show n.ph = 0 ∨ n.ph = 1 ∨ n.ph = 2 ∨ n.ph = 3 ∨ n.ph = 4 ∨ n.ph = 5 ∨ n.ph = 6 ∨ n.ph = 7 by omega) with h | h | h | h | h | h | h | h
  · rw [if_pos h]; exact specSample0 n p l w hm hl h hbD
  · rw [if_neg (by omega), if_pos h]; exact specSample1 n p l w hm hok hl h
  · rw [if_neg (by omega), if_neg (by omega), if_pos h]; exact specSample2 n p l w hm hok hl h
  · rw [if_neg (by omega), if_neg (by omega), if_neg (by omega), if_neg (by omega)]; exact specSample3 n p l w hm hok hl h
  · rw [if_neg (by omega), if_neg (by omega), if_neg (by omega), if_neg (by omega)]; exact specSample4 n p l w hm hok hl h
  · rw [if_neg (by omega), if_neg (by omega), if_neg (by omega), if_neg (by omega)]; exact specSample5 n p l w hm hok hl h
  · rw [if_neg (by omega), if_neg (by omega), if_neg (by omega), if_neg (by omega)]; exact specSample6 n p l w hm hok hl h
  · rw [if_neg (by omega), if_neg (by omega), if_neg (by omega), if_pos h]; exact specSample7 n p l w hm hok hl h
end Go.Proofs.YtpenjbpcebfecaaGreatDoor

/- The model's copy of a node. -/

set_option linter.unusedVariables false
set_option linter.unusedSimpArgs false
set_option maxRecDepth 20000
namespace Go.Proofs.YtpenjbpcebfecaaGreatDoor
open Go.RowKit

theorem OwnI.keptHi {B G : Nat} {D : List Int} {v : Value} {w w' : World} (h : OwnI B D v w) (k : w.grownBy w' (some G)) (hu : ∀ q, v.ownBlock = some q → q < G) : OwnI B D v w' := by
  refine h.kept k ?_
  cases e : v.ownBlock with
  | none => exact .inl rfl
  | some q => exact .inr fun h2 => by cases h2; have := hu _ e; omega
theorem OwnF.keptHi {B G : Nat} {M : List (Frm × Value)} {v : Value} {w w' : World} (h : OwnF B M v w) (k : w.grownBy w' (some G)) (hu : Under G M v) : OwnF B M v w' := by
  refine h.kept k ?_ fun m hm => ?_
  · cases e : v.ownBlock with
    | none => exact .inl rfl
    | some q => exact .inr fun h2 => by cases h2; have := hu.1 _ e; omega
  · cases e : m.2.ownBlock with
    | none => exact .inl rfl
    | some q => exact .inr fun h2 => by cases h2; have := hu.2 m hm _ e; omega
theorem bare_of {B n c : Nat} {M : List (Int × Int)} {a : Option Addr} {w : World} (h : OwnP B M (.slice a n c) w) : a = none → c = 0 := by
  intro e
  rcases h.2 with ⟨k, _⟩ | ⟨g, cap, cur, k, _⟩
  · cases k; rfl
  · subst e; cases k
theorem OwnP.up {B lo : Nat} {M : List (Int × Int)} {v : Value} {w u : World} (h : OwnP B M v w) (k : Up lo w u) (hB : lo ≤ B) : OwnP B M v u := by
  rcases h.2 with e | ⟨g, cap, cur, e, hb, hg, r⟩
  · exact ⟨h.1, .inl e⟩
  · exact ⟨h.1, .inr ⟨g, cap, cur, e, hb, (k.block g (by omega) (Array.getElem?_eq_some_iff.1 hg).1).trans hg, r⟩⟩

set_option maxHeartbeats 16000000 in
/-- spec.l11Copy. -/
theorem specCopy (n : Nd) (p : NdP) (w : World) (hm : NdM n p w) (hal : p.al = none → p.cl = 0) (hD : n.fr.D.length ≤ 1000) (hB : n.box.length ≤ 1000) (hB8 : ∀ j, j < n.box.length → (nthF n.box j).D.length ≤ 1000) (hF : n.fifo.length ≤ 1000) (hF8 : ∀ j, j < n.fifo.length → (nthF n.fifo j).D.length ≤ 1000) (hL : n.flt.length ≤ 1000) :
    Calls Tryz.prog 50 #[ndV n p] w fun e w' => ∃ p' : NdP, e = .returned (ndV n p') ∧ ((∀ u, Up w.heap.size w' u → NdM n p' u) ∧ (p'.al = none → p'.cl = 0)) ∧ Below w.heap.size w w' := by
  have X := N2.made2 (ndC n p) w
  go_enter Tryz.func50, Tryz.ntmps50
  go_upto_region 1 with fail
  generalize World.alloc _ _ = W at X ⊢
  generalize w.heap.size + 1 = gr at X ⊢
  generalize w.heap.size = g at X ⊢
  have c4 : W.cell? ⟨g, 4, none⟩ = some (.int .i64 n.fr.id) := X.cell 4
  have c5 : W.cell? ⟨g, 5, none⟩ = some (.bool n.fr.rm) := X.cell 5
  have c6 : W.cell? ⟨g, 6, none⟩ = some (.int .i64 n.fr.ln) := X.cell 6
  have c7 : W.cell? ⟨g, 7, none⟩ = some (.slice p.ad n.fr.D.length p.cd) := X.cell 7
  have l1 := X.lt
  have z1 := X.bel.size
  go_wp2_with fail
  refine (copyFr n.fr.id n.fr.rm n.fr.ln p.ad n.fr.D p.cd _ (hm.below X.bel).nums hD).mono ?_
  rintro e w2 ⟨ad, cd, rfl, OD, gg⟩
  have b := below_new gg
  replace X := X.below b
  clear b gg c4 c5 c6 c7
  have c4 : w2.cell? ⟨g, 4, none⟩ = some (.int .i64 n.fr.id) := X.cell 4
  have c5 : w2.cell? ⟨g, 5, none⟩ = some (.bool n.fr.rm) := X.cell 5
  have c6 : w2.cell? ⟨g, 6, none⟩ = some (.int .i64 n.fr.ln) := X.cell 6
  have c7 : w2.cell? ⟨g, 7, none⟩ = some (.slice p.ad n.fr.D.length p.cd) := X.cell 7
  have f4 := X.free 4
  have f5 := X.free 5
  have f6 := X.free 6
  have f7 := X.free 7
  go_upto_region 2 with fail
  clear c4 c5 c6 c7 f4 f5 f6 f7
  replace OD := OD.kept2 (grown_at_cell _ g 4 (.int .i64 n.fr.id)) l1.1
  replace OD := OD.kept2 (grown_at_cell _ g 5 (.bool n.fr.rm)) l1.1
  replace OD := OD.kept2 (grown_at_cell _ g 6 (.int .i64 n.fr.ln)) l1.1
  replace OD := OD.kept2 (grown_at_cell _ g 7 (.slice ad n.fr.D.length cd)) l1.1
  replace X : N2 g gr (ndC (n) { p with ad := ad, cd := cd }) w _ := ((((X.set 4 (.int .i64 n.fr.id)).set 5 (.bool n.fr.rm)).set 6 (.int .i64 n.fr.ln)).set 7 (.slice ad n.fr.D.length cd))
  generalize World.setCell _ _ _ = W3 at X OD ⊢
  have c15 : W3.cell? ⟨g, 15, none⟩ = some (.slice p.ab n.box.length p.cb) := X.cell 15
  have l3 := X.lt
  have z3 := X.bel.size
  go_wp2_with fail
  refine (copyAll p.ab n.box p.cb _ (hm.below X.bel).box hB hB8).mono ?_
  rintro e w4 ⟨MB, gb, cb, rfl, hMB, OB, b⟩
  replace X := X.below b
  replace OD := OD.below' b
  clear b c15
  have c15 : w4.cell? ⟨g, 15, none⟩ = some (.slice p.ab n.box.length p.cb) := X.cell 15
  have f15 := X.free 15
  go_upto_region 3 with fail
  clear c15 f15
  replace OD := OD.kept2 (grown_at_cell _ g 15 (.slice (some ⟨gb, 0, none⟩) n.box.length cb)) l1.1
  replace OB := OB.kept2 (grown_at_cell _ g 15 (.slice (some ⟨gb, 0, none⟩) n.box.length cb)) l3.1
  replace X : N2 g gr (ndC (n) { p with ad := ad, cd := cd, ab := some ⟨gb, 0, none⟩, cb := cb }) w _ := (X.set 15 (.slice (some ⟨gb, 0, none⟩) n.box.length cb))
  generalize World.setCell _ _ _ = W5 at X OD OB ⊢
  have c16 : W5.cell? ⟨g, 16, none⟩ = some (.slice p.af n.fifo.length p.cf) := X.cell 16
  have l5 := X.lt
  have z5 := X.bel.size
  go_wp2_with fail
  refine (copyAll p.af n.fifo p.cf _ (hm.below X.bel).fifo hF hF8).mono ?_
  rintro e w6 ⟨MF, gf, cf, rfl, hMF, OF, b⟩
  replace X := X.below b
  replace OD := OD.below' b
  replace OB := OB.below b
  clear b c16
  have c16 : w6.cell? ⟨g, 16, none⟩ = some (.slice p.af n.fifo.length p.cf) := X.cell 16
  have f16 := X.free 16
  go_upto_region 4 with fail
  clear c16 f16
  replace OD := OD.kept2 (grown_at_cell _ g 16 (.slice (some ⟨gf, 0, none⟩) n.fifo.length cf)) l1.1
  replace OB := OB.kept2 (grown_at_cell _ g 16 (.slice (some ⟨gf, 0, none⟩) n.fifo.length cf)) l3.1
  replace OF := OF.kept2 (grown_at_cell _ g 16 (.slice (some ⟨gf, 0, none⟩) n.fifo.length cf)) l5.1
  replace X : N2 g gr (ndC (n) { p with ad := ad, cd := cd, ab := some ⟨gb, 0, none⟩, cb := cb, af := some ⟨gf, 0, none⟩, cf := cf }) w _ := (X.set 16 (.slice (some ⟨gf, 0, none⟩) n.fifo.length cf))
  generalize World.setCell _ _ _ = W7 at X OD OB OF ⊢
  have l7 := X.lt
  have z7 := X.bel.size
  have uD := fun q hq => (OD.1.lt q hq).2
  have uB := OB.under
  have uF := OF.under
  have HG := heap_alloc_new W7 (.cells #[] 132)
  have bb := below_more (Below.refl W7.heap.size W7) (.cells #[] 132)
  have hG8 : W7.heap.size < (W7.alloc (.cells #[] 132)).heap.size := by simp
  replace X := X.below bb
  replace OD := OD.below' bb
  replace OB := OB.below bb
  replace OF := OF.below bb
  clear bb
  have HFl := (hm.below X.bel).flt
  have c17 : (W7.alloc (.cells #[] 132)).cell? ⟨g, 17, none⟩ = some (.slice p.al n.flt.length p.cl) := X.cell 17
  go_wp2_with (at_builtin; skip; refine wpList_newP _ _ (by rfl) (by rfl) W7.heap.size (by rfl) p.al n.flt p.cl (by rfl) HG HFl hal (by omega) ?_)
  intro al cl w8 OL gk
  clear c17 HG HFl
  have hz7 : W7.heap.size < (W7.alloc (.cells #[] 132)).heap.size := hG8
  replace X : N2 g gr (ndC n ({ p with ad := ad, cd := cd, ab := some ⟨gb, 0, none⟩, cb := cb, af := some ⟨gf, 0, none⟩, cf := cf })) w w8 := ⟨(gk.block g X.lt.1 (fun e => by cases e; omega)).trans X.blk, (gk.block gr X.lt.2 (fun e => by cases e; omega)).trans X.res, X.bel.grown gk X.bel.size (fun q e => by cases e; omega), X.hg, X.hr, X.nr⟩
  replace OD := OD.keptHi gk uD
  replace OB := OB.keptHi gk uB
  replace OF := OF.keptHi gk uF
  clear gk hG8 hz7 uD uB uF
  generalize W7.heap.size = g7 at *
  have c17 : w8.cell? ⟨g, 17, none⟩ = some (.slice p.al n.flt.length p.cl) := X.cell 17
  have f17 := X.free 17
  go_upto_region 5 with fail
  clear c17 f17
  replace OD := OD.kept2 (grown_at_cell _ g 17 (.slice al n.flt.length cl)) l1.1
  replace OB := OB.kept2 (grown_at_cell _ g 17 (.slice al n.flt.length cl)) l3.1
  replace OF := OF.kept2 (grown_at_cell _ g 17 (.slice al n.flt.length cl)) l5.1
  replace OL := OL.kept2 (grown_at_cell _ g 17 (.slice al n.flt.length cl)) l7.1
  replace X : N2 g gr (ndC (n) ⟨ad, cd, some ⟨gb, 0, none⟩, cb, some ⟨gf, 0, none⟩, cf, al, cl⟩) w _ := (X.set 17 (.slice al n.flt.length cl))
  generalize World.setCell _ _ _ = W9 at X OD OB OF OL ⊢
  obtain ⟨Z1, Z2, Z3⟩ := X.fin (ndC n (⟨ad, cd, some ⟨gb, 0, none⟩, cb, some ⟨gf, 0, none⟩, cf, al, cl⟩))
  replace OD := OD.kept2 Z2 l1.2
  replace OB := OB.kept2 Z2 l3.2
  replace OF := OF.kept2 Z2 l5.2
  replace OL := OL.kept2 Z2 l7.2
  clear Z2
  go_wp2_with (first | (refine Nx.take ⟨X.blk, X.bel⟩ rfl rfl rfl ?_) | (refine wpList_put X.res rfl rfl rfl rfl rfl ?_))
  refine bodyPost_ret (v := ndV n (⟨ad, cd, some ⟨gb, 0, none⟩, cb, some ⟨gf, 0, none⟩, cf, al, cl⟩)) ?_ rfl ⟨⟨ad, cd, some ⟨gb, 0, none⟩, cb, some ⟨gf, 0, none⟩, cf, al, cl⟩, rfl, ⟨fun u ku => ⟨(OD.up ku z1).nums2, (OB.up ku z3).frsOf hMB (by omega), (OF.up ku z5).frsOf hMF (by omega), ((OL.up ku z7).flsAt (by omega)).2, hm.size⟩, bare_of OL⟩, Z3⟩
  exact results_one Tryz.results50 _ _ gr _ rfl Z1 rfl
end Go.Proofs.YtpenjbpcebfecaaGreatDoor

/- The model's steps of a node: the copy, Sampled. -/

set_option linter.unusedVariables false
set_option linter.unusedSimpArgs false
set_option maxRecDepth 20000
namespace Go.Proofs.YtpenjbpcebfecaaGreatDoor
open Go.RowKit


set_option maxHeartbeats 16000000 in
/-- spec.Sampled. -/
theorem specSampled (n : Nd) (p : NdP) (l : Int) (w : World) (hm : NdM n p w) (hal : p.al = none → p.cl = 0) :
    Calls Tryz.prog 9 #[ndV n p, .int .i64 l] w (SampR (sampA n l) w) := by
  have X := N3.made (ndC n p) w
  go_enter Tryz.func9, Tryz.ntmps9
  go_upto_region 1 with fail
  generalize World.alloc _ _ = W at X ⊢
  generalize w.heap.size + 1 + 1 = gh at X ⊢
  generalize w.heap.size + 1 = gr at X ⊢
  generalize w.heap.size = g at X ⊢
  go_wp2_with (refine Nx.take ⟨X.blk, X.bel⟩ rfl rfl rfl ?_)
  refine (specNodeOk n p _ (hm.below X.bel)).mono ?_
  rintro e w2 ⟨rfl, b⟩
  replace X := X.below b
  clear b
  cases hok : nodeB n
  · have hA := Lib.hid (show sampA n l = (znd [], 0, zF) from if_neg (by rw [hok, Bool.false_and]; exact Bool.false_ne_true))
    clear hok
    go_wp2_with (first | (refine wpList_put (n := znd []) (p := zp none 0) X.res rfl rfl rfl rfl rfl ?_) | (refine wpList_tell (k := 0) (f := zF) (ad := none) (cd := 0) (X.fin (ndC (znd []) (zp none 0)) #[]).1 rfl rfl rfl rfl rfl ?_))
    obtain ⟨-, Z1, Z2, Z3⟩ := X.fin (ndC (znd []) (zp none 0)) (hpC 0 zF none 0)
    refine bodyPost_ret (v := .tuple #[ndV (znd []) (zp none 0), hpV 0 zF none 0]) ?_ rfl ?_
    · exact results_both Tryz.results9 _ _ gr gh _ _ rfl rfl Z1 Z2 rfl rfl
    · rw [hA.out]
      exact ⟨zp none 0, none, 0, rfl, NdM.new (Fls.nil none _) 0, Nums.nil _, Z3⟩
  · replace hok := Lib.hid hok
    go_wp2_with fail
    refine (l1In l 0 1 _).mono ?_
    rintro e w3 ⟨rfl, rfl⟩
    rw [show (decide ((0 : Int) ≤ l) && decide (l ≤ 1)) = rng l 0 1 from rfl]
    cases hr : rng l 0 1
    · have hA := Lib.hid (show sampA n l = (znd [], 0, zF) from if_neg (by rw [hr, Bool.and_false]; exact Bool.false_ne_true))
      clear hr
      go_wp2_with (first | (refine wpList_put (n := znd []) (p := zp none 0) X.res rfl rfl rfl rfl rfl ?_) | (refine wpList_tell (k := 0) (f := zF) (ad := none) (cd := 0) (X.fin (ndC (znd []) (zp none 0)) #[]).1 rfl rfl rfl rfl rfl ?_))
      obtain ⟨-, Z1, Z2, Z3⟩ := X.fin (ndC (znd []) (zp none 0)) (hpC 0 zF none 0)
      refine bodyPost_ret (v := .tuple #[ndV (znd []) (zp none 0), hpV 0 zF none 0]) ?_ rfl ?_
      · exact results_both Tryz.results9 _ _ gr gh _ _ rfl rfl Z1 Z2 rfl rfl
      · rw [hA.out]
        exact ⟨zp none 0, none, 0, rfl, NdM.new (Fls.nil none _) 0, Nums.nil _, Z3⟩
    · have hA := Lib.hid (show sampA n l = sampN n l from if_pos (by rw [hr, hok.out]; rfl))
      have hl : l = 0 ∨ l = 1 := by have := rng_iff.1 hr; omega
      clear hr
      obtain ⟨R, -⟩ := right_iff.1 hok.out
      have hbb := boxB_iff.1 R.box
      have hD : n.fr.D.length ≤ 1000 := by have := frOk_max (show frOk n.fr.id n.fr.rm n.fr.ln n.fr.D = true from R.fr); omega
      have hB8 : ∀ j, j < n.box.length → (nthF n.box j).D.length ≤ 1000 := fun j hj => by
        have hf : frB (nthF n.box j) = true := by
          cases h2 : frB (nthF n.box j) with
          | true => rfl
          | false => have h3 := rk_neg h2; have h4 := (hbb.2 j hj).1; omega
        have := frOk_max (show frOk _ _ _ _ = true from hf); omega
      have hF8 : ∀ j, j < n.fifo.length → (nthF n.fifo j).D.length ≤ 1000 := fun j hj => by
        have h3 := R.fifo
        simp only [fifoB, Bool.and_eq_true, List.all_eq_true] at h3
        have hf : frB (nthF n.fifo j) = true := h3.2 _ (by rw [nthF_eq hj]; exact List.getElem_mem hj)
        have := frOk_max (show frOk _ _ _ _ = true from hf); omega
      have h32 := fifo_32 R.fifo
      have h8 := R.flt.1
      have h16 := hbb.1
      clear R hbb
      go_wp2_with (refine Nx.take ⟨X.blk, X.bel⟩ rfl rfl rfl ?_)
      have hl2 := X.lt
      refine (specCopy n p _ (hm.below X.bel) hal hD (by omega) hB8 (by omega) hF8 (by omega)).mono ?_
      rintro e w4 ⟨p2, rfl, hc, b⟩
      replace X := X.below b
      clear b hB8 hF8
      have M4 := hc.1 w4 (Up.refl _ _)
      go_wp2_with fail
      refine (specSample n p2 l _ M4 hok.out hl).mono ?_
      rintro e w5 ⟨p5, ad5, cd5, rfl, hk5, b⟩
      have hl4 := X.lt
      replace X := X.below b
      have u45 : Up w2.heap.size w4 w5 := Up.ofBelow b
      clear b
      generalize hr6 : sampN n l = r at hk5 ⊢
      replace hr6 := Lib.hid hr6
      obtain ⟨n6, k6, f6⟩ := r
      dsimp only at hk5 ⊢
      go_wp2_with (first | (refine wpList_put (n := n6) (p := p5) X.res rfl rfl rfl rfl rfl ?_) | (refine wpList_tell (k := k6) (f := f6) (ad := ad5) (cd := cd5) (X.fin (ndC n6 p5) #[]).1 rfl rfl rfl rfl rfl ?_))
      have up2 := X.upFin (hi := w2.heap.size) (ndC n6 p5) (hpC k6 f6 ad5 cd5) hl2.2.1 hl2.2.2
      have up4 := X.upFin (hi := w4.heap.size) (ndC n6 p5) (hpC k6 f6 ad5 cd5) hl4.2.1 hl4.2.2
      obtain ⟨-, Z1, Z2, Z3⟩ := X.fin (ndC n6 p5) (hpC k6 f6 ad5 cd5)
      obtain ⟨M6, N6⟩ := hk5 _ up4 (hc.1 _ (u45.trans up2))
      refine bodyPost_ret (v := .tuple #[ndV n6 p5, hpV k6 f6 ad5 cd5]) ?_ rfl ?_
      · exact results_both Tryz.results9 _ _ gr gh _ _ rfl rfl Z1 Z2 rfl rfl
      · rw [hA.out, hr6.out]
        exact ⟨p5, ad5, cd5, rfl, M6, N6, Z3⟩
end Go.Proofs.YtpenjbpcebfecaaGreatDoor

/- The walk of laws.FnExactSampled. -/

set_option linter.unusedVariables false
set_option linter.unusedSimpArgs false
namespace Go.Proofs.YtpenjbpcebfecaaGreatDoor
open Go.RowKit

/-- What Sampled answers, by the names of its parts. -/
def SampRx (N : Nd) (k : Int) (f : Frm) (w : World) (e : Ending) (w' : World) : Prop :=
  ∃ (p : NdP) (ad : Option Addr) (cd : Nat), e = .returned (.tuple #[ndV N p, hpV k f ad cd]) ∧ NdM N p w' ∧ Nums ad f.D w' ∧ Below w.heap.size w w'
def SampOx (N : Nd) (k : Int) (f : Frm) (w : World) (e : Ending) (w' : World) : Prop :=
  ∃ (p : NdP) (ad : Option Addr) (cd : Nat) (b1 b2 b3 b4 : Nat) (MB MF : List (Frm × Value)), e = .returned (.tuple #[ndV N p, hpV k f ad cd]) ∧ NdO w.heap.size b1 b2 b3 N p MB MF w'
    ∧ (∀ q, (Value.slice p.al N.flt.length p.cl).ownBlock = some q → q < b4) ∧ b3 ≤ b4 ∧ OwnI b4 f.D (.slice ad f.D.length cd) w' ∧ Below w.heap.size w w'
theorem ownLtI {B : Nat} {D : List Int} {v : Value} {w : World} (h : OwnI B D v w) : ∀ q, v.ownBlock = some q → q < w.heap.size := fun q hq => (h.1.lt q hq).2

theorem sampA_room (n : Nd) (l : Int) : roomN (sampA n l).1 ≤ 600 ∧ (sampA n l).2.2.D.length ≤ 8 := by
  unfold sampA
  split
  · rename_i h
    rw [Bool.and_eq_true] at h
    have hl : l = 0 ∨ l = 1 := by have := rng_iff.1 h.2; omega
    exact ⟨roomN_right (samp_right h.1 hl), frB_8 (samp_fr l (right_iff.1 h.1).1.fr)⟩
  · exact ⟨by rw [roomN_zero]; omega, by decide⟩
set_option maxHeartbeats 32000000 in
set_option maxRecDepth 20000 in
theorem walkFnExactSampled (n : Nd) (p : NdP) (l : Int) (w : World) (hm : NdM n p w) (hg : ErrHeld w) :
    Calls Tryz.prog 5 #[ndV n p, .int .i64 l] w fun e w' => e = .returned (.bool true) ∧ Below w.heap.size w w' := by
  have Y := Ny.made n p (Below.refl w.heap.size w)
  go_enter Tryz.func5, Tryz.ntmps5
  go_upto_region 1 with fail
  generalize w.alloc _ = W at Y ⊢
  generalize w.heap.size = ga at Y ⊢
  go_wp2_with (refine Y.take rfl rfl rfl ?_)
  refine (szNodeAny n p 1048576 _ (hm.below Y.bel) (by omega) (by omega)).mono ?_
  rintro e w1 ⟨hz | hz, b⟩
  case inr =>
    obtain ⟨hz, rfl⟩ := hz
    have hb := Below.then2 Y.bel b
    go_wp2_with fail
    go_ret
    exact ⟨rfl, hb⟩
  obtain ⟨hz, rfl⟩ := hz
  replace Y := Y.below b
  clear b
  have hs : roomN n ≤ 1048576 := by omega
  clear hz
  obtain ⟨hN, hf⟩ := sampA_room n l
  obtain ⟨N, k, f, hr⟩ : ∃ N k f, sampA n l = (N, k, f) := ⟨_, _, _, rfl⟩
  rw [hr] at hN hf
  dsimp only at hN hf
  have HS := Lib.hid (fun p w (h1 : NdM n p w) (h2 : p.al = none → p.cl = 0) => show Calls _ _ _ _ (SampRx N k f w) from (specSampled n p l w h1 h2).mono (fun e w' h => by rw [hr] at h; exact h))
  have HI := Lib.hid (fun p w (h1 : NdM n p w) (h2 : ErrHeld w) (h3 : NdA n p) => show Calls _ _ _ _ (SampOx N k f w) from (implSampled n p l w h1 h2 h3).mono (fun e w' h => by rw [hr] at h; exact h))
  clear hr
  have hN2 : roomN N ≤ 1048576 := by omega
  have hf2 : f.D.length ≤ 2000000 := by omega
  obtain ⟨K0, K1⟩ := k4N_bd (k := 1) (n := N) (by omega) (by omega) hN2
  have hk1 : ¬ k4N 1 N < 0 := by omega
  have hk1' : decide (k4N 1 N < 0) = false := decide_eq_false hk1
  obtain ⟨J0, J1⟩ := k4N_bd (k := 1) (n := n) (by omega) (by omega) hs
  have hj1 : ¬ k4N 1 n < 0 := by omega
  have hj1' : decide (k4N 1 n < 0) = false := decide_eq_false hj1
  have hk2 : ¬ k4N 1 N + (f.D.length : Int) < 0 := by omega
  have hk2' : decide (k4N 1 N + (f.D.length : Int) < 0) = false := decide_eq_false hk2
  go_wp2_with (refine Y.take rfl rfl rfl ?_)
  refine (toNodeOwn n p _ (hm.below Y.bel) hs).mono ?_
  rintro e w2 ⟨p1, _, _, _, _, _, rfl, O1, b⟩
  replace Y := Y.below b
  have M1 := O1.ndm hs
  have L1 := O1.flt.bare
  clear b O1
  go_wp2_with fail
  refine (HS.out p1 w2 M1 L1).mono ?_
  rintro e w3 ⟨p3, ad3, cd3, rfl, M3, N3, b⟩
  replace Y := Y.below b
  clear b M1 L1
  have A := Ans.made N p3 k f ad3 cd3 w3 Y.bel
  have b := ans_below N p3 k f ad3 cd3 w3 (Below.refl w3.heap.size w3) (Nat.le_refl _)
  have a1 := ans_node w3
  have a2 := ans_hap N p3 w3
  go_upto_region 6 with (first | (refine wpList_put (n := N) (p := p3) a1 rfl rfl rfl rfl rfl ?_) | (refine wpList_tell (k := k) (f := f) (ad := ad3) (cd := cd3) a2 rfl rfl rfl rfl rfl ?_))
  clear a1 a2
  replace Y := Y.below b
  replace M3 := M3.below b
  replace N3 := N3.below b
  clear b
  unfold ansW at Y M3 N3 A
  generalize World.setRow _ _ _ = W3 at Y M3 N3 A ⊢
  generalize w3.heap.size + 1 = gwh at A ⊢
  generalize w3.heap.size = gw at A ⊢
  have hw3 := A.bel.size
  have Q := Below.refl W3.heap.size W3
  go_wp2_with (refine Y.take rfl rfl rfl ?_)
  refine (toNodeOwn n p _ (hm.below Y.bel) hs).mono ?_
  rintro e w4 ⟨p4, _, _, _, XB, XF, rfl, O4, b⟩
  replace Q := b
  have Y4 := Y.below b
  obtain ⟨j4, I4⟩ := O4.ndI3 b.size
  have A4 := O4.nda
  clear b O4
  have b := below_more (Below.refl w4.heap.size w4) (.cells (ndC n p4) 32)
  have X := Nx.made n p4 Y4.bel
  go_upto_region 7 with (skip; refine wpList_lay (w := w4) (n := n) (p := p4) (C := ndZ) (by rfl) (by rfl) (by rfl) (by rfl) (by rfl) (by rfl) ?_)
  replace Q := Below.then2 Q b
  replace I4 := I4.below b
  clear b Y4
  have z4 : w4.heap.size < (w4.alloc (.cells (ndC n p4) 32)).heap.size := by simp
  generalize w4.alloc _ = W4 at Q I4 X z4 ⊢
  generalize w4.heap.size = gx at I4 X z4 ⊢
  have q4 := Q.size
  have hw4 : w.heap.size ≤ W4.heap.size := by omega
  go_wp2_with (refine X.take rfl rfl rfl ?_)
  refine (HI.out p4 _ (I4.ndm hs) (hg.below X.bel) A4).mono ?_
  rintro e w5 ⟨p5, ad5, cd5, _, _, _, c4, CB, CF, rfl, O5, u5, l5, F5, b⟩
  have z5 := b.size
  have I5 := O5.ndI2 u5 l5 z5
  replace F5 := F5.mono (show min c4 w5.heap.size ≤ c4 from Nat.min_le_left _ _)
  have U5 := ownLtI F5
  have h5 : W4.heap.size ≤ min c4 w5.heap.size ∧ min c4 w5.heap.size ≤ w5.heap.size := by have h1 := I5.ok.l; omega
  generalize min c4 w5.heap.size = H5 at *
  generalize NdJ.mk _ _ _ _ _ _ _ _ = j5 at I5
  clear O5 u5 l5 A4
  replace Q := Below.then2 Q b
  replace X := X.below b
  replace I4 := I4.below b
  clear b
  have C := Ans.made N p5 k f ad5 cd5 w5 X.bel
  have b := ans_below N p5 k f ad5 cd5 w5 (Below.refl w5.heap.size w5) (Nat.le_refl _)
  have a1 := ans_node w5
  have a2 := ans_hap N p5 w5
  go_upto_region 8 with (first | (refine wpList_put (n := N) (p := p5) a1 rfl rfl rfl rfl rfl ?_) | (refine wpList_tell (k := k) (f := f) (ad := ad5) (cd := cd5) a2 rfl rfl rfl rfl rfl ?_))
  clear a1 a2
  replace Q := Below.then2 Q b
  replace X := X.below b
  replace I4 := I4.below b
  replace I5 := I5.below b
  replace F5 := F5.below' b
  clear b
  unfold ansW at Q X I4 I5 F5 C
  generalize World.setRow _ _ _ = W5 at Q X I4 I5 F5 C ⊢
  have e5 : w5.heap.size < w5.heap.size + 1 := Nat.lt_succ_self _
  generalize w5.heap.size + 1 = gih at C e5 ⊢
  generalize w5.heap.size = gi at *
  have AQ := A.below Q
  go_wp2_with (first | (refine C.takeN rfl rfl rfl ?_) | (refine AQ.takeN rfl rfl rfl ?_))
  refine (eqN N p5 p3 _ (I5.ndm hN2) (M3.below Q)).mono ?_
  rintro e w6 ⟨rfl, b⟩
  replace Q := Below.then2 Q b
  replace X := X.below b
  replace I4 := I4.below b
  replace I5 := I5.below b
  replace F5 := F5.below' b
  replace C := C.below b
  clear b AQ
  have AQ := A.below Q
  go_wp2_with (first | (refine C.takeH rfl rfl rfl ?_) | (refine AQ.takeH rfl rfl rfl ?_))
  refine (eqHp k f ad5 ad3 cd5 cd3 _ F5.nums2 (N3.below Q)).mono ?_
  rintro e w7 ⟨rfl, b⟩
  replace Q := Below.then2 Q b
  replace X := X.below b
  replace I4 := I4.below b
  replace I5 := I5.below b
  replace F5 := F5.below' b
  replace C := C.below b
  clear b AQ
  go_upto_region 10 with fail
  refine wp_region_held (S := fun u => Nx gx n p4 w u ∧ Ny ga n p w u) (by kernel_rfl) ?_
  have b : Below w7.heap.size w7 { w7 with drawn := w7.drawn + 1 } := (Below.refl w7.heap.size w7).drew
  replace Q := Below.then2 Q b
  replace X := X.below b
  replace I4 := I4.below b
  replace I5 := I5.below b
  replace F5 := F5.below' b
  replace C := C.below b
  clear b
  generalize ({ w7 with drawn := w7.drawn + 1 } : World) = w8 at *
  have YQ := Y.below Q
  refine wpAnyH_take (i := 0) (v := ndV n p4) rfl (by kernel_rfl) (by kernel_rfl) (by kernel_rfl) (fun _ _ _ h => h) (.inl ⟨rfl, fun u hu => hu.1.took rfl rfl⟩) ⟨X, YQ⟩ ?_
  refine wpAnyH_take (i := 1) (v := ndV n p) rfl (by kernel_rfl) (by kernel_rfl) (by kernel_rfl) (fun _ _ _ h => h) (.inl ⟨rfl, fun u hu => hu.2.took rfl rfl⟩) ⟨X, YQ⟩ ?_
  simp only [Act.put, List.setIfInBounds_toArray, List.set_cons_zero, List.set_cons_succ]
  refine held_call 2 29 #[ndV n p] rfl (by kernel_rfl) rfl (by go_simp) ?_
  refine (toNodeOwn n p _ (hm.below YQ.bel) hs).mono ?_
  rintro e w9 ⟨p9, _, _, _, _, _, rfl, O9, b⟩
  replace Q := Below.then2 Q b
  replace X := X.below b
  replace I4 := I4.below b
  replace I5 := I5.below b
  replace F5 := F5.below' b
  replace C := C.below b
  replace YQ := YQ.below b
  have M9 := O9.ndm hs
  clear b O9
  refine ⟨_, rfl, ⟨X, YQ⟩, ?_⟩
  simp only [Act.put, List.setIfInBounds_toArray, List.set_cons_zero, List.set_cons_succ]
  refine held_call 3 30 #[ndV n p4, ndV n p9] rfl (by kernel_rfl) rfl (by go_simp) ?_
  refine (eqN n p4 p9 _ (I4.ndm hs) M9).mono ?_
  rintro e w10 ⟨rfl, b⟩
  replace Q := Below.then2 Q b
  replace X := X.below b
  replace I4 := I4.below b
  replace I5 := I5.below b
  replace F5 := F5.below' b
  replace C := C.below b
  replace YQ := YQ.below b
  clear b M9
  refine ⟨_, rfl, ⟨X, YQ⟩, ?_⟩
  simp only [Act.put, List.setIfInBounds_toArray, List.set_cons_zero, List.set_cons_succ]
  refine held_value 4 (.bool false) rfl (by kernel_rfl) rfl (by go_simp) ⟨X, YQ⟩ ?_
  refine wpAnyH_done (by kernel_rfl) ?_ _
  clear YQ
  simp only [Act.put, List.setIfInBounds_toArray, List.set_cons_zero, List.set_cons_succ]
  have x4 := X.lt
  go_wp2_with (refine X.take rfl rfl rfl ?_)
  refine (markNodeI j4 W3.heap.size gx n p4 XB XF 1 _ I4 (by omega) hs (by omega) (by omega)).mono ?_
  rintro e w11 ⟨_, _, rfl, -, m⟩
  replace Q := Q.trans (m.below (Nat.le_refl _) Q.size)
  replace C := C.mid m hw3 (.inr ⟨by omega, by omega⟩)
  replace I5 := I5.sep m (.inr (by omega))
  replace F5 := F5.mid m (by omega)
  clear m X I4
  have AQ := A.below Q
  go_wp2_with (first | (refine C.takeN rfl rfl rfl ?_) | (refine AQ.takeN rfl rfl rfl ?_))
  refine (eqN N p5 p3 _ (I5.ndm hN2) (M3.below Q)).mono ?_
  rintro e w12 ⟨rfl, b⟩
  replace Q := Below.then2 Q b
  replace I5 := I5.below b
  replace F5 := F5.below' b
  replace C := C.below b
  clear b AQ
  have AQ := A.below Q
  go_wp2_with (first | (refine C.takeH rfl rfl rfl ?_) | (refine AQ.takeH rfl rfl rfl ?_))
  refine (eqHp k f ad5 ad3 cd5 cd3 _ F5.nums2 (N3.below Q)).mono ?_
  rintro e w13 ⟨rfl, b⟩
  replace Q := Below.then2 Q b
  replace I5 := I5.below b
  replace F5 := F5.below' b
  replace C := C.below b
  clear b AQ
  have c13 := C.lt
  go_wp2_with (refine C.takeN rfl rfl rfl ?_)
  refine (markNodeI j5 W4.heap.size H5 N p5 CB CF 1 _ I5 (by omega) hN2 (by omega) (by omega)).mono ?_
  rintro e w14 ⟨_, _, rfl, I14, m⟩
  replace Q := Q.trans (m.below (by omega) Q.size)
  replace C := C.mid m hw4 (.inr ⟨by omega, by omega⟩)
  replace F5 := F5.mid m (Nat.le_refl _)
  clear m I5
  go_wp2_with (refine C.takeH rfl rfl rfl ?_)
  refine (markHp H5 k f ad5 cd5 (k4N 1 N) _ F5 hf2 K0 (by omega)).mono ?_
  rintro e w15 ⟨rfl, F15, gg⟩
  have m : Mid H5 gi w14 w15 := (Mid.refl H5 gi w14).grown gg (fun q hq => ⟨F5.low hq, U5 q hq⟩)
  replace Q := Q.trans (m.below (by omega) Q.size)
  replace C := C.mid m (by omega) (.inr ⟨by omega, by omega⟩)
  replace I14 := I14.sep m (.inl (Nat.le_refl _))
  clear m gg F5
  have hm14 : roomN (markedN 1 N) ≤ 1048576 := by rw [room_marked]; exact hN2
  go_wp2_with (refine C.takeN rfl rfl rfl ?_)
  refine (heldNodeO N p5 1 _ (I14.ndm hm14) hN2 (by omega) (by omega)).mono ?_
  rintro e w16 ⟨rfl, b⟩
  replace Q := Below.then2 Q b
  replace C := C.below b
  replace I14 := I14.below b
  replace F15 := F15.below' b
  clear b
  go_wp2_with (refine C.takeH rfl rfl rfl ?_)
  refine (heldHp k f ad5 cd5 (k4N 1 N) _ F15.nums2 hf2 K0 (by omega)).mono ?_
  rintro e w17 ⟨rfl, b⟩
  replace Q := Below.then2 Q b
  replace C := C.below b
  replace I14 := I14.below b
  replace F15 := F15.below' b
  clear b
  have YQ := Y.below Q
  go_wp2_with (refine YQ.take rfl rfl rfl ?_)
  refine (toNodeOwn n p _ (hm.below YQ.bel) hs).mono ?_
  rintro e w18 ⟨p18, _, _, _, _, _, rfl, O18, b⟩
  replace Q := Below.then2 Q b
  replace C := C.below b
  replace I14 := I14.below b
  replace F15 := F15.below' b
  clear b YQ
  go_wp2_with fail
  refine (HI.out p18 _ (O18.ndm hs) (hg.below C.bel) O18.nda).mono ?_
  rintro e w19 ⟨p19, ad19, cd19, _, _, _, c19, _, _, rfl, O19, -, -, F19, b⟩
  replace Q := Below.then2 Q b
  replace C := C.below b
  replace I14 := I14.below b
  replace F15 := F15.below' b
  clear b O18
  have D := Ans.made N p19 k f ad19 cd19 w19 C.bel
  have b := ans_below N p19 k f ad19 cd19 w19 (Below.refl w19.heap.size w19) (Nat.le_refl _)
  have a1 := ans_node w19
  have a2 := ans_hap N p19 w19
  go_upto_region 29 with (first | (refine wpList_put (n := N) (p := p19) a1 rfl rfl rfl rfl rfl ?_) | (refine wpList_tell (k := k) (f := f) (ad := ad19) (cd := cd19) a2 rfl rfl rfl rfl rfl ?_))
  clear a1 a2
  have M19 := (O19.ndm hN2).below b
  have N19 := F19.nums2.below b
  replace Q := Below.then2 Q b
  replace C := C.below b
  replace I14 := I14.below b
  replace F15 := F15.below' b
  clear b O19 F19
  unfold ansW at Q C I14 F15 D M19 N19
  generalize World.setRow _ _ _ = W19 at Q C I14 F15 D M19 N19 ⊢
  generalize w19.heap.size + 1 = gjh at D ⊢
  generalize w19.heap.size = gj at D ⊢
  have AQ := A.below Q
  go_wp2_with (first | (refine D.takeN rfl rfl rfl ?_) | (refine AQ.takeN rfl rfl rfl ?_))
  refine (eqN N p19 p3 _ M19 (M3.below Q)).mono ?_
  rintro e w20 ⟨rfl, b⟩
  replace Q := Below.then2 Q b
  replace C := C.below b
  replace D := D.below b
  replace N19 := N19.below b
  replace I14 := I14.below b
  replace F15 := F15.below' b
  clear b AQ M19
  have AQ := A.below Q
  go_wp2_with (first | (refine D.takeH rfl rfl rfl ?_) | (refine AQ.takeH rfl rfl rfl ?_))
  refine (eqHp k f ad19 ad3 cd19 cd3 _ N19 (N3.below Q)).mono ?_
  rintro e w21 ⟨rfl, b⟩
  replace Q := Below.then2 Q b
  replace C := C.below b
  replace I14 := I14.below b
  replace F15 := F15.below' b
  clear b AQ N19 D
  go_wp2_with (refine C.takeN rfl rfl rfl ?_)
  refine (heldNodeO N p5 1 _ (I14.ndm hm14) hN2 (by omega) (by omega)).mono ?_
  rintro e w22 ⟨rfl, b⟩
  replace C := C.below b
  replace F15 := F15.below' b
  clear b I14
  go_wp2_with (refine C.takeH rfl rfl rfl ?_)
  refine (heldHp k f ad5 cd5 (k4N 1 N) _ F15.nums2 hf2 K0 (by omega)).mono ?_
  rintro e w23 ⟨rfl, b⟩
  have hb := Below.then2 C.bel b
  clear b C F15
  go_wp2_with fail
  go_ret
  exact ⟨rfl, hb⟩
end Go.Proofs.YtpenjbpcebfecaaGreatDoor
