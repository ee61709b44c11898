/- The model's steps of a node: breaking off, the pauses, being off. -/
import Derived.Test.YtngcekegngmedaaGreatDoorM40
import Derived.Test.YtngcekegngmedaaGreatDoorM39
import Derived.Test.YtngcekegngmedaaGreatDoorM28
import Derived.Test.YtngcekegngmedaaGreatDoorM36

set_option linter.unusedVariables false
set_option linter.unusedSimpArgs false
set_option maxRecDepth 20000
namespace Go.Proofs.YtngcekegngmedaaGreatDoor
open Go.RowKit


set_option maxHeartbeats 16000000 in
/-- spec.l12Break. -/
theorem specBreak (n : Nd) (p : NdP) (w : World) :
    Calls Tryz.prog 210 #[ndV n p] w (Told (brkN n).1 (brkN n).2.1 p w) := by
  rcases Bool.eq_false_or_eq_true n.tx with ht | ht
  · have h1 : badA n = sbA n.cs n.cg := by unfold badA; rw [ht]; first | exact if_pos rfl | exact if_neg (by decide)
    have h2 : badB n = swB n.cs n.cg := by unfold badB; rw [ht]; first | exact if_pos rfl | exact if_neg (by decide)
    unfold brkN
    rw [h1, h2]
    clear h1 h2
    generalize ha : sbA n.cs n.cg = ca at *
    generalize hb : swB n.cs n.cg = cb at *
    replace ha := Lib.hid ha
    replace hb := Lib.hid hb
    replace ht := Lib.hid ht
    by_cases hs2 : stV ca cb = 2
    · rw [if_pos hs2]
      generalize hst : stV ca cb = st at *
      replace hst := Lib.hid hst
      have e2 : (st == 2) = true := beq_iff_eq.2 hs2
      clear hs2
      have X := N3.made (ndC n p) w
      go_enter Tryz.func210, Tryz.ntmps210
      go_upto_region 1 with fail
      generalize World.alloc _ _ = W at X ⊢
      generalize w.heap.size + 1 + 1 = gh at X ⊢
      generalize w.heap.size + 1 = gr at X ⊢
      generalize w.heap.size = g at X ⊢
      have c1 : W.cell? ⟨g, 1, none⟩ = some (.bool n.tx) := X.cell 1
      have c13 : W.cell? ⟨g, 13, none⟩ = some (.int .i64 n.cs) := X.cell 13
      have c14 : W.cell? ⟨g, 14, none⟩ = some (.int .i64 n.cg) := X.cell 14
      rw [ht.out] at c1
      go_wp2_with fail
      refine (specSentBad _ _ _).mono ?_
      rintro e w2 ⟨rfl, b⟩
      rw [ha.out, hb.out]
      replace X := X.below b
      clear b c1 c13 c14
      have c3 : w2.cell? ⟨g, 3, none⟩ = some (.bool n.bad) := X.cell 3
      have c8 : w2.cell? ⟨g, 8, none⟩ = some (.string n.got) := X.cell 8
      have c9 : w2.cell? ⟨g, 9, none⟩ = some (.int .i64 n.run) := X.cell 9
      have c10 : w2.cell? ⟨g, 10, none⟩ = some (.int .i64 n.last) := X.cell 10
      have c11 : w2.cell? ⟨g, 11, none⟩ = some (.int .i64 n.pos) := X.cell 11
      have c13 : w2.cell? ⟨g, 13, none⟩ = some (.int .i64 n.cs) := X.cell 13
      have c14 : w2.cell? ⟨g, 14, none⟩ = some (.int .i64 n.cg) := X.cell 14
      have f3 := X.free 3
      have f8 := X.free 8
      have f9 := X.free 9
      have f10 := X.free 10
      have f11 := X.free 11
      have f13 := X.free 13
      have f14 := X.free 14
      go_upto_region 9 with fail
      clear c3 c8 c9 c10 c11 c13 c14 f3 f8 f9 f10 f11 f13 f14
      replace X : N3 g gr gh (ndC ({ n with cs := ca, cg := cb, got := ⟨#[]⟩, run := 0 }) p) w _ := ((((X.set 13 (.int .i64 ca)).set 14 (.int .i64 cb)).set 8 (.string ⟨#[]⟩)).set 9 (.int .i64 0))
      replace X : N3 g gr gh (ndC ({ n with cs := ca, cg := cb, got := ⟨#[]⟩, run := 0, last := 0, pos := 0, bad := false }) p) w _ := (((X.set 10 (.int .i64 0)).set 11 (.int .i64 0)).set 3 (.bool false))
      generalize World.setCell _ _ _ = W6 at X ⊢
      have c13 : W6.cell? ⟨g, 13, none⟩ = some (.int .i64 ca) := X.cell 13
      have c14 : W6.cell? ⟨g, 14, none⟩ = some (.int .i64 cb) := X.cell 14
      go_wp2_with fail
      refine (specStateOf _ _ _).mono ?_
      rintro e w7 ⟨rfl, b⟩
      rw [hst.out]
      replace X := X.below b
      clear b c13 c14
      have c0 : w7.cell? ⟨g, 0, none⟩ = some (.int .i64 n.ph) := X.cell 0
      have c12 : w7.cell? ⟨g, 12, none⟩ = some (.int .i64 n.left) := X.cell 12
      have f0 := X.free 0
      have f12 := X.free 12
      go_upto_region 12 with fail
      clear c0 c12 f0 f12
      replace X : N3 g gr gh (ndC ({ n with cs := ca, cg := cb, got := ⟨#[]⟩, run := 0, last := 0, pos := 0, bad := false, ph := 7, left := 128 }) p) w _ := ((X.set 0 (.int .i64 7)).set 12 (.int .i64 128))
      generalize World.setCell _ _ _ = W8 at X ⊢
      refine wp_region_held (S := fun u => Nx g ({ n with cs := ca, cg := cb, got := ⟨#[]⟩, run := 0, last := 0, pos := 0, bad := false, ph := 7, left := 128 }) (p) w u) (by kernel_rfl) ?_
      replace X := X.drew'
      generalize ({ W8 with drawn := W8.drawn + 1 } : World) = V at X ⊢
      refine take_at 0 _ (ndV ({ n with cs := ca, cg := cb, got := ⟨#[]⟩, run := 0, last := 0, pos := 0, bad := false, ph := 7, left := 128 }) (p)) rfl rfl (by kernel_rfl) (by kernel_rfl) (by kernel_rfl) (fun _ _ _ h => h) (.inl ⟨rfl, fun u hu => hu.took rfl rfl⟩) X.nx ?_
      simp only [Act.put, List.setIfInBounds_toArray, List.set_cons_zero, List.set_cons_succ]
      refine call_at 1 _ 158 #[.int .i64 5] rfl rfl (by kernel_rfl) rfl (by go_simp) ?_
      refine (specHappen 5 _).mono ?_
      rintro e wh ⟨rfl, b⟩
      replace X := X.below b
      clear b
      refine ⟨_, rfl, X.nx, ?_⟩
      simp only [Act.put, List.setIfInBounds_toArray, List.set_cons_zero, List.set_cons_succ]
      refine held_row 2 gr (ndC ({ n with cs := ca, cg := cb, got := ⟨#[]⟩, run := 0, last := 0, pos := 0, bad := false, ph := 7, left := 128 }) (p)) rfl (by kernel_rfl) rfl rfl rfl rfl rfl X.res (by kernel_rfl) rfl (ndC_one _ _) (X.nxR _) ?_
      refine held_row 3 gh (hpC 5 zF none 0) rfl (by kernel_rfl) rfl rfl rfl rfl rfl (X.fin _ #[]).1 (by kernel_rfl) rfl (hpC_one _ _ _ _) (X.nxH _ _) ?_
      refine wpAnyH_done (by kernel_rfl) ?_ _
      obtain ⟨-, Z1, Z2, Z3⟩ := X.fin (ndC ({ n with cs := ca, cg := cb, got := ⟨#[]⟩, run := 0, last := 0, pos := 0, bad := false, ph := 7, left := 128 }) (p)) (hpC 5 zF none 0)
      go_wp2_with fail
      refine bodyPost_ret (v := .tuple #[ndV ({ n with cs := ca, cg := cb, got := ⟨#[]⟩, run := 0, last := 0, pos := 0, bad := false, ph := 7, left := 128 }) (p), hpV 5 zF none 0]) ?_ rfl ⟨rfl, Z3⟩
      exact results_both Tryz.results210 _ _ gr gh _ _ rfl rfl Z1 Z2 rfl rfl
    · rw [if_neg hs2]
      by_cases hs1 : stV ca cb = 1
      · rw [decide_eq_true hs1]
        generalize hst : stV ca cb = st at *
        replace hst := Lib.hid hst
        have e2 : (st == 2) = false := beq_eq_false_iff_ne.2 hs2
        have e1 : (st == 1) = true := beq_iff_eq.2 hs1
        clear hs1 hs2
        have X := N3.made (ndC n p) w
        go_enter Tryz.func210, Tryz.ntmps210
        go_upto_region 1 with fail
        generalize World.alloc _ _ = W at X ⊢
        generalize w.heap.size + 1 + 1 = gh at X ⊢
        generalize w.heap.size + 1 = gr at X ⊢
        generalize w.heap.size = g at X ⊢
        have c1 : W.cell? ⟨g, 1, none⟩ = some (.bool n.tx) := X.cell 1
        have c13 : W.cell? ⟨g, 13, none⟩ = some (.int .i64 n.cs) := X.cell 13
        have c14 : W.cell? ⟨g, 14, none⟩ = some (.int .i64 n.cg) := X.cell 14
        rw [ht.out] at c1
        go_wp2_with fail
        refine (specSentBad _ _ _).mono ?_
        rintro e w2 ⟨rfl, b⟩
        rw [ha.out, hb.out]
        replace X := X.below b
        clear b c1 c13 c14
        have c3 : w2.cell? ⟨g, 3, none⟩ = some (.bool n.bad) := X.cell 3
        have c8 : w2.cell? ⟨g, 8, none⟩ = some (.string n.got) := X.cell 8
        have c9 : w2.cell? ⟨g, 9, none⟩ = some (.int .i64 n.run) := X.cell 9
        have c10 : w2.cell? ⟨g, 10, none⟩ = some (.int .i64 n.last) := X.cell 10
        have c11 : w2.cell? ⟨g, 11, none⟩ = some (.int .i64 n.pos) := X.cell 11
        have c13 : w2.cell? ⟨g, 13, none⟩ = some (.int .i64 n.cs) := X.cell 13
        have c14 : w2.cell? ⟨g, 14, none⟩ = some (.int .i64 n.cg) := X.cell 14
        have f3 := X.free 3
        have f8 := X.free 8
        have f9 := X.free 9
        have f10 := X.free 10
        have f11 := X.free 11
        have f13 := X.free 13
        have f14 := X.free 14
        go_upto_region 9 with fail
        clear c3 c8 c9 c10 c11 c13 c14 f3 f8 f9 f10 f11 f13 f14
        replace X : N3 g gr gh (ndC ({ n with cs := ca, cg := cb, got := ⟨#[]⟩, run := 0 }) p) w _ := ((((X.set 13 (.int .i64 ca)).set 14 (.int .i64 cb)).set 8 (.string ⟨#[]⟩)).set 9 (.int .i64 0))
        replace X : N3 g gr gh (ndC ({ n with cs := ca, cg := cb, got := ⟨#[]⟩, run := 0, last := 0, pos := 0, bad := false }) p) w _ := (((X.set 10 (.int .i64 0)).set 11 (.int .i64 0)).set 3 (.bool false))
        generalize World.setCell _ _ _ = W6 at X ⊢
        have c13 : W6.cell? ⟨g, 13, none⟩ = some (.int .i64 ca) := X.cell 13
        have c14 : W6.cell? ⟨g, 14, none⟩ = some (.int .i64 cb) := X.cell 14
        go_wp2_with fail
        refine (specStateOf _ _ _).mono ?_
        rintro e w7 ⟨rfl, b⟩
        rw [hst.out]
        replace X := X.below b
        clear b c13 c14
        have c0 : w7.cell? ⟨g, 0, none⟩ = some (.int .i64 n.ph) := X.cell 0
        have f0 := X.free 0
        go_upto_region 14 with fail
        clear c0 f0
        replace X : N3 g gr gh (ndC ({ n with cs := ca, cg := cb, got := ⟨#[]⟩, run := 0, last := 0, pos := 0, bad := false, ph := 3 }) p) w _ := (X.set 0 (.int .i64 3))
        generalize World.setCell _ _ _ = W8 at X ⊢
        have c13 : W8.cell? ⟨g, 13, none⟩ = some (.int .i64 ca) := X.cell 13
        have c14 : W8.cell? ⟨g, 14, none⟩ = some (.int .i64 cb) := X.cell 14
        go_wp2_with fail
        refine (specStateOf _ _ _).mono ?_
        rintro e w9 ⟨rfl, b⟩
        rw [hst.out]
        replace X := X.below b
        clear b c13 c14
        have c2 : w9.cell? ⟨g, 2, none⟩ = some (.bool n.mild) := X.cell 2
        have c12 : w9.cell? ⟨g, 12, none⟩ = some (.int .i64 n.left) := X.cell 12
        have f2 := X.free 2
        have f12 := X.free 12
        go_upto_region 16 with fail
        clear c2 c12 f2 f12
        replace X : N3 g gr gh (ndC ({ n with cs := ca, cg := cb, got := ⟨#[]⟩, run := 0, last := 0, pos := 0, bad := false, ph := 3, mild := true, left := 6 }) p) w _ := ((X.set 2 (.bool true)).set 12 (.int .i64 6))
        generalize World.setCell _ _ _ = W10 at X ⊢
        refine wp_region_held (S := fun u => Nx g ({ n with cs := ca, cg := cb, got := ⟨#[]⟩, run := 0, last := 0, pos := 0, bad := false, ph := 3, mild := true, left := 6 }) (p) w u) (by kernel_rfl) ?_
        replace X := X.drew'
        generalize ({ W10 with drawn := W10.drawn + 1 } : World) = V at X ⊢
        refine take_at 0 _ (ndV ({ n with cs := ca, cg := cb, got := ⟨#[]⟩, run := 0, last := 0, pos := 0, bad := false, ph := 3, mild := true, left := 6 }) (p)) rfl rfl (by kernel_rfl) (by kernel_rfl) (by kernel_rfl) (fun _ _ _ h => h) (.inl ⟨rfl, fun u hu => hu.took rfl rfl⟩) X.nx ?_
        simp only [Act.put, List.setIfInBounds_toArray, List.set_cons_zero, List.set_cons_succ]
        refine call_at 1 _ 158 #[.int .i64 4] rfl rfl (by kernel_rfl) rfl (by go_simp) ?_
        refine (specHappen 4 _).mono ?_
        rintro e wh ⟨rfl, b⟩
        replace X := X.below b
        clear b
        refine ⟨_, rfl, X.nx, ?_⟩
        simp only [Act.put, List.setIfInBounds_toArray, List.set_cons_zero, List.set_cons_succ]
        refine held_row 2 gr (ndC ({ n with cs := ca, cg := cb, got := ⟨#[]⟩, run := 0, last := 0, pos := 0, bad := false, ph := 3, mild := true, left := 6 }) (p)) rfl (by kernel_rfl) rfl rfl rfl rfl rfl X.res (by kernel_rfl) rfl (ndC_one _ _) (X.nxR _) ?_
        refine held_row 3 gh (hpC 4 zF none 0) rfl (by kernel_rfl) rfl rfl rfl rfl rfl (X.fin _ #[]).1 (by kernel_rfl) rfl (hpC_one _ _ _ _) (X.nxH _ _) ?_
        refine wpAnyH_done (by kernel_rfl) ?_ _
        obtain ⟨-, Z1, Z2, Z3⟩ := X.fin (ndC ({ n with cs := ca, cg := cb, got := ⟨#[]⟩, run := 0, last := 0, pos := 0, bad := false, ph := 3, mild := true, left := 6 }) (p)) (hpC 4 zF none 0)
        go_wp2_with fail
        refine bodyPost_ret (v := .tuple #[ndV ({ n with cs := ca, cg := cb, got := ⟨#[]⟩, run := 0, last := 0, pos := 0, bad := false, ph := 3, mild := true, left := 6 }) (p), hpV 4 zF none 0]) ?_ rfl ⟨rfl, Z3⟩
        exact results_both Tryz.results210 _ _ gr gh _ _ rfl rfl Z1 Z2 rfl rfl
      · rw [decide_eq_false hs1]
        generalize hst : stV ca cb = st at *
        replace hst := Lib.hid hst
        have e2 : (st == 2) = false := beq_eq_false_iff_ne.2 hs2
        have e1 : (st == 1) = false := beq_eq_false_iff_ne.2 hs1
        clear hs1 hs2
        have X := N3.made (ndC n p) w
        go_enter Tryz.func210, Tryz.ntmps210
        go_upto_region 1 with fail
        generalize World.alloc _ _ = W at X ⊢
        generalize w.heap.size + 1 + 1 = gh at X ⊢
        generalize w.heap.size + 1 = gr at X ⊢
        generalize w.heap.size = g at X ⊢
        have c1 : W.cell? ⟨g, 1, none⟩ = some (.bool n.tx) := X.cell 1
        have c13 : W.cell? ⟨g, 13, none⟩ = some (.int .i64 n.cs) := X.cell 13
        have c14 : W.cell? ⟨g, 14, none⟩ = some (.int .i64 n.cg) := X.cell 14
        rw [ht.out] at c1
        go_wp2_with fail
        refine (specSentBad _ _ _).mono ?_
        rintro e w2 ⟨rfl, b⟩
        rw [ha.out, hb.out]
        replace X := X.below b
        clear b c1 c13 c14
        have c3 : w2.cell? ⟨g, 3, none⟩ = some (.bool n.bad) := X.cell 3
        have c8 : w2.cell? ⟨g, 8, none⟩ = some (.string n.got) := X.cell 8
        have c9 : w2.cell? ⟨g, 9, none⟩ = some (.int .i64 n.run) := X.cell 9
        have c10 : w2.cell? ⟨g, 10, none⟩ = some (.int .i64 n.last) := X.cell 10
        have c11 : w2.cell? ⟨g, 11, none⟩ = some (.int .i64 n.pos) := X.cell 11
        have c13 : w2.cell? ⟨g, 13, none⟩ = some (.int .i64 n.cs) := X.cell 13
        have c14 : w2.cell? ⟨g, 14, none⟩ = some (.int .i64 n.cg) := X.cell 14
        have f3 := X.free 3
        have f8 := X.free 8
        have f9 := X.free 9
        have f10 := X.free 10
        have f11 := X.free 11
        have f13 := X.free 13
        have f14 := X.free 14
        go_upto_region 9 with fail
        clear c3 c8 c9 c10 c11 c13 c14 f3 f8 f9 f10 f11 f13 f14
        replace X : N3 g gr gh (ndC ({ n with cs := ca, cg := cb, got := ⟨#[]⟩, run := 0 }) p) w _ := ((((X.set 13 (.int .i64 ca)).set 14 (.int .i64 cb)).set 8 (.string ⟨#[]⟩)).set 9 (.int .i64 0))
        replace X : N3 g gr gh (ndC ({ n with cs := ca, cg := cb, got := ⟨#[]⟩, run := 0, last := 0, pos := 0, bad := false }) p) w _ := (((X.set 10 (.int .i64 0)).set 11 (.int .i64 0)).set 3 (.bool false))
        generalize World.setCell _ _ _ = W6 at X ⊢
        have c13 : W6.cell? ⟨g, 13, none⟩ = some (.int .i64 ca) := X.cell 13
        have c14 : W6.cell? ⟨g, 14, none⟩ = some (.int .i64 cb) := X.cell 14
        go_wp2_with fail
        refine (specStateOf _ _ _).mono ?_
        rintro e w7 ⟨rfl, b⟩
        rw [hst.out]
        replace X := X.below b
        clear b c13 c14
        have c0 : w7.cell? ⟨g, 0, none⟩ = some (.int .i64 n.ph) := X.cell 0
        have f0 := X.free 0
        go_upto_region 14 with fail
        clear c0 f0
        replace X : N3 g gr gh (ndC ({ n with cs := ca, cg := cb, got := ⟨#[]⟩, run := 0, last := 0, pos := 0, bad := false, ph := 3 }) p) w _ := (X.set 0 (.int .i64 3))
        generalize World.setCell _ _ _ = W8 at X ⊢
        have c13 : W8.cell? ⟨g, 13, none⟩ = some (.int .i64 ca) := X.cell 13
        have c14 : W8.cell? ⟨g, 14, none⟩ = some (.int .i64 cb) := X.cell 14
        go_wp2_with fail
        refine (specStateOf _ _ _).mono ?_
        rintro e w9 ⟨rfl, b⟩
        rw [hst.out]
        replace X := X.below b
        clear b c13 c14
        have c2 : w9.cell? ⟨g, 2, none⟩ = some (.bool n.mild) := X.cell 2
        have c12 : w9.cell? ⟨g, 12, none⟩ = some (.int .i64 n.left) := X.cell 12
        have f2 := X.free 2
        have f12 := X.free 12
        go_upto_region 16 with fail
        clear c2 c12 f2 f12
        replace X : N3 g gr gh (ndC ({ n with cs := ca, cg := cb, got := ⟨#[]⟩, run := 0, last := 0, pos := 0, bad := false, ph := 3, mild := false, left := 6 }) p) w _ := ((X.set 2 (.bool false)).set 12 (.int .i64 6))
        generalize World.setCell _ _ _ = W10 at X ⊢
        refine wp_region_held (S := fun u => Nx g ({ n with cs := ca, cg := cb, got := ⟨#[]⟩, run := 0, last := 0, pos := 0, bad := false, ph := 3, mild := false, left := 6 }) (p) w u) (by kernel_rfl) ?_
        replace X := X.drew'
        generalize ({ W10 with drawn := W10.drawn + 1 } : World) = V at X ⊢
        refine take_at 0 _ (ndV ({ n with cs := ca, cg := cb, got := ⟨#[]⟩, run := 0, last := 0, pos := 0, bad := false, ph := 3, mild := false, left := 6 }) (p)) rfl rfl (by kernel_rfl) (by kernel_rfl) (by kernel_rfl) (fun _ _ _ h => h) (.inl ⟨rfl, fun u hu => hu.took rfl rfl⟩) X.nx ?_
        simp only [Act.put, List.setIfInBounds_toArray, List.set_cons_zero, List.set_cons_succ]
        refine call_at 1 _ 158 #[.int .i64 4] rfl rfl (by kernel_rfl) rfl (by go_simp) ?_
        refine (specHappen 4 _).mono ?_
        rintro e wh ⟨rfl, b⟩
        replace X := X.below b
        clear b
        refine ⟨_, rfl, X.nx, ?_⟩
        simp only [Act.put, List.setIfInBounds_toArray, List.set_cons_zero, List.set_cons_succ]
        refine held_row 2 gr (ndC ({ n with cs := ca, cg := cb, got := ⟨#[]⟩, run := 0, last := 0, pos := 0, bad := false, ph := 3, mild := false, left := 6 }) (p)) rfl (by kernel_rfl) rfl rfl rfl rfl rfl X.res (by kernel_rfl) rfl (ndC_one _ _) (X.nxR _) ?_
        refine held_row 3 gh (hpC 4 zF none 0) rfl (by kernel_rfl) rfl rfl rfl rfl rfl (X.fin _ #[]).1 (by kernel_rfl) rfl (hpC_one _ _ _ _) (X.nxH _ _) ?_
        refine wpAnyH_done (by kernel_rfl) ?_ _
        obtain ⟨-, Z1, Z2, Z3⟩ := X.fin (ndC ({ n with cs := ca, cg := cb, got := ⟨#[]⟩, run := 0, last := 0, pos := 0, bad := false, ph := 3, mild := false, left := 6 }) (p)) (hpC 4 zF none 0)
        go_wp2_with fail
        refine bodyPost_ret (v := .tuple #[ndV ({ n with cs := ca, cg := cb, got := ⟨#[]⟩, run := 0, last := 0, pos := 0, bad := false, ph := 3, mild := false, left := 6 }) (p), hpV 4 zF none 0]) ?_ rfl ⟨rfl, Z3⟩
        exact results_both Tryz.results210 _ _ gr gh _ _ rfl rfl Z1 Z2 rfl rfl
  · have h1 : badA n = gwA n.cs n.cg := by unfold badA; rw [ht]; first | exact if_pos rfl | exact if_neg (by decide)
    have h2 : badB n = gbB n.cs n.cg := by unfold badB; rw [ht]; first | exact if_pos rfl | exact if_neg (by decide)
    unfold brkN
    rw [h1, h2]
    clear h1 h2
    generalize ha : gwA n.cs n.cg = ca at *
    generalize hb : gbB n.cs n.cg = cb at *
    replace ha := Lib.hid ha
    replace hb := Lib.hid hb
    replace ht := Lib.hid ht
    by_cases hs2 : stV ca cb = 2
    · rw [if_pos hs2]
      generalize hst : stV ca cb = st at *
      replace hst := Lib.hid hst
      have e2 : (st == 2) = true := beq_iff_eq.2 hs2
      clear hs2
      have X := N3.made (ndC n p) w
      go_enter Tryz.func210, Tryz.ntmps210
      go_upto_region 1 with fail
      generalize World.alloc _ _ = W at X ⊢
      generalize w.heap.size + 1 + 1 = gh at X ⊢
      generalize w.heap.size + 1 = gr at X ⊢
      generalize w.heap.size = g at X ⊢
      have c1 : W.cell? ⟨g, 1, none⟩ = some (.bool n.tx) := X.cell 1
      have c13 : W.cell? ⟨g, 13, none⟩ = some (.int .i64 n.cs) := X.cell 13
      have c14 : W.cell? ⟨g, 14, none⟩ = some (.int .i64 n.cg) := X.cell 14
      rw [ht.out] at c1
      go_wp2_with fail
      refine (specGotBad _ _ _).mono ?_
      rintro e w2 ⟨rfl, b⟩
      rw [ha.out, hb.out]
      replace X := X.below b
      clear b c1 c13 c14
      have c3 : w2.cell? ⟨g, 3, none⟩ = some (.bool n.bad) := X.cell 3
      have c8 : w2.cell? ⟨g, 8, none⟩ = some (.string n.got) := X.cell 8
      have c9 : w2.cell? ⟨g, 9, none⟩ = some (.int .i64 n.run) := X.cell 9
      have c10 : w2.cell? ⟨g, 10, none⟩ = some (.int .i64 n.last) := X.cell 10
      have c11 : w2.cell? ⟨g, 11, none⟩ = some (.int .i64 n.pos) := X.cell 11
      have c13 : w2.cell? ⟨g, 13, none⟩ = some (.int .i64 n.cs) := X.cell 13
      have c14 : w2.cell? ⟨g, 14, none⟩ = some (.int .i64 n.cg) := X.cell 14
      have f3 := X.free 3
      have f8 := X.free 8
      have f9 := X.free 9
      have f10 := X.free 10
      have f11 := X.free 11
      have f13 := X.free 13
      have f14 := X.free 14
      go_upto_region 9 with fail
      clear c3 c8 c9 c10 c11 c13 c14 f3 f8 f9 f10 f11 f13 f14
      replace X : N3 g gr gh (ndC ({ n with cs := ca, cg := cb, got := ⟨#[]⟩, run := 0 }) p) w _ := ((((X.set 13 (.int .i64 ca)).set 14 (.int .i64 cb)).set 8 (.string ⟨#[]⟩)).set 9 (.int .i64 0))
      replace X : N3 g gr gh (ndC ({ n with cs := ca, cg := cb, got := ⟨#[]⟩, run := 0, last := 0, pos := 0, bad := false }) p) w _ := (((X.set 10 (.int .i64 0)).set 11 (.int .i64 0)).set 3 (.bool false))
      generalize World.setCell _ _ _ = W6 at X ⊢
      have c13 : W6.cell? ⟨g, 13, none⟩ = some (.int .i64 ca) := X.cell 13
      have c14 : W6.cell? ⟨g, 14, none⟩ = some (.int .i64 cb) := X.cell 14
      go_wp2_with fail
      refine (specStateOf _ _ _).mono ?_
      rintro e w7 ⟨rfl, b⟩
      rw [hst.out]
      replace X := X.below b
      clear b c13 c14
      have c0 : w7.cell? ⟨g, 0, none⟩ = some (.int .i64 n.ph) := X.cell 0
      have c12 : w7.cell? ⟨g, 12, none⟩ = some (.int .i64 n.left) := X.cell 12
      have f0 := X.free 0
      have f12 := X.free 12
      go_upto_region 12 with fail
      clear c0 c12 f0 f12
      replace X : N3 g gr gh (ndC ({ n with cs := ca, cg := cb, got := ⟨#[]⟩, run := 0, last := 0, pos := 0, bad := false, ph := 7, left := 128 }) p) w _ := ((X.set 0 (.int .i64 7)).set 12 (.int .i64 128))
      generalize World.setCell _ _ _ = W8 at X ⊢
      refine wp_region_held (S := fun u => Nx g ({ n with cs := ca, cg := cb, got := ⟨#[]⟩, run := 0, last := 0, pos := 0, bad := false, ph := 7, left := 128 }) (p) w u) (by kernel_rfl) ?_
      replace X := X.drew'
      generalize ({ W8 with drawn := W8.drawn + 1 } : World) = V at X ⊢
      refine take_at 0 _ (ndV ({ n with cs := ca, cg := cb, got := ⟨#[]⟩, run := 0, last := 0, pos := 0, bad := false, ph := 7, left := 128 }) (p)) rfl rfl (by kernel_rfl) (by kernel_rfl) (by kernel_rfl) (fun _ _ _ h => h) (.inl ⟨rfl, fun u hu => hu.took rfl rfl⟩) X.nx ?_
      simp only [Act.put, List.setIfInBounds_toArray, List.set_cons_zero, List.set_cons_succ]
      refine call_at 1 _ 158 #[.int .i64 5] rfl rfl (by kernel_rfl) rfl (by go_simp) ?_
      refine (specHappen 5 _).mono ?_
      rintro e wh ⟨rfl, b⟩
      replace X := X.below b
      clear b
      refine ⟨_, rfl, X.nx, ?_⟩
      simp only [Act.put, List.setIfInBounds_toArray, List.set_cons_zero, List.set_cons_succ]
      refine held_row 2 gr (ndC ({ n with cs := ca, cg := cb, got := ⟨#[]⟩, run := 0, last := 0, pos := 0, bad := false, ph := 7, left := 128 }) (p)) rfl (by kernel_rfl) rfl rfl rfl rfl rfl X.res (by kernel_rfl) rfl (ndC_one _ _) (X.nxR _) ?_
      refine held_row 3 gh (hpC 5 zF none 0) rfl (by kernel_rfl) rfl rfl rfl rfl rfl (X.fin _ #[]).1 (by kernel_rfl) rfl (hpC_one _ _ _ _) (X.nxH _ _) ?_
      refine wpAnyH_done (by kernel_rfl) ?_ _
      obtain ⟨-, Z1, Z2, Z3⟩ := X.fin (ndC ({ n with cs := ca, cg := cb, got := ⟨#[]⟩, run := 0, last := 0, pos := 0, bad := false, ph := 7, left := 128 }) (p)) (hpC 5 zF none 0)
      go_wp2_with fail
      refine bodyPost_ret (v := .tuple #[ndV ({ n with cs := ca, cg := cb, got := ⟨#[]⟩, run := 0, last := 0, pos := 0, bad := false, ph := 7, left := 128 }) (p), hpV 5 zF none 0]) ?_ rfl ⟨rfl, Z3⟩
      exact results_both Tryz.results210 _ _ gr gh _ _ rfl rfl Z1 Z2 rfl rfl
    · rw [if_neg hs2]
      by_cases hs1 : stV ca cb = 1
      · rw [decide_eq_true hs1]
        generalize hst : stV ca cb = st at *
        replace hst := Lib.hid hst
        have e2 : (st == 2) = false := beq_eq_false_iff_ne.2 hs2
        have e1 : (st == 1) = true := beq_iff_eq.2 hs1
        clear hs1 hs2
        have X := N3.made (ndC n p) w
        go_enter Tryz.func210, Tryz.ntmps210
        go_upto_region 1 with fail
        generalize World.alloc _ _ = W at X ⊢
        generalize w.heap.size + 1 + 1 = gh at X ⊢
        generalize w.heap.size + 1 = gr at X ⊢
        generalize w.heap.size = g at X ⊢
        have c1 : W.cell? ⟨g, 1, none⟩ = some (.bool n.tx) := X.cell 1
        have c13 : W.cell? ⟨g, 13, none⟩ = some (.int .i64 n.cs) := X.cell 13
        have c14 : W.cell? ⟨g, 14, none⟩ = some (.int .i64 n.cg) := X.cell 14
        rw [ht.out] at c1
        go_wp2_with fail
        refine (specGotBad _ _ _).mono ?_
        rintro e w2 ⟨rfl, b⟩
        rw [ha.out, hb.out]
        replace X := X.below b
        clear b c1 c13 c14
        have c3 : w2.cell? ⟨g, 3, none⟩ = some (.bool n.bad) := X.cell 3
        have c8 : w2.cell? ⟨g, 8, none⟩ = some (.string n.got) := X.cell 8
        have c9 : w2.cell? ⟨g, 9, none⟩ = some (.int .i64 n.run) := X.cell 9
        have c10 : w2.cell? ⟨g, 10, none⟩ = some (.int .i64 n.last) := X.cell 10
        have c11 : w2.cell? ⟨g, 11, none⟩ = some (.int .i64 n.pos) := X.cell 11
        have c13 : w2.cell? ⟨g, 13, none⟩ = some (.int .i64 n.cs) := X.cell 13
        have c14 : w2.cell? ⟨g, 14, none⟩ = some (.int .i64 n.cg) := X.cell 14
        have f3 := X.free 3
        have f8 := X.free 8
        have f9 := X.free 9
        have f10 := X.free 10
        have f11 := X.free 11
        have f13 := X.free 13
        have f14 := X.free 14
        go_upto_region 9 with fail
        clear c3 c8 c9 c10 c11 c13 c14 f3 f8 f9 f10 f11 f13 f14
        replace X : N3 g gr gh (ndC ({ n with cs := ca, cg := cb, got := ⟨#[]⟩, run := 0 }) p) w _ := ((((X.set 13 (.int .i64 ca)).set 14 (.int .i64 cb)).set 8 (.string ⟨#[]⟩)).set 9 (.int .i64 0))
        replace X : N3 g gr gh (ndC ({ n with cs := ca, cg := cb, got := ⟨#[]⟩, run := 0, last := 0, pos := 0, bad := false }) p) w _ := (((X.set 10 (.int .i64 0)).set 11 (.int .i64 0)).set 3 (.bool false))
        generalize World.setCell _ _ _ = W6 at X ⊢
        have c13 : W6.cell? ⟨g, 13, none⟩ = some (.int .i64 ca) := X.cell 13
        have c14 : W6.cell? ⟨g, 14, none⟩ = some (.int .i64 cb) := X.cell 14
        go_wp2_with fail
        refine (specStateOf _ _ _).mono ?_
        rintro e w7 ⟨rfl, b⟩
        rw [hst.out]
        replace X := X.below b
        clear b c13 c14
        have c0 : w7.cell? ⟨g, 0, none⟩ = some (.int .i64 n.ph) := X.cell 0
        have f0 := X.free 0
        go_upto_region 14 with fail
        clear c0 f0
        replace X : N3 g gr gh (ndC ({ n with cs := ca, cg := cb, got := ⟨#[]⟩, run := 0, last := 0, pos := 0, bad := false, ph := 3 }) p) w _ := (X.set 0 (.int .i64 3))
        generalize World.setCell _ _ _ = W8 at X ⊢
        have c13 : W8.cell? ⟨g, 13, none⟩ = some (.int .i64 ca) := X.cell 13
        have c14 : W8.cell? ⟨g, 14, none⟩ = some (.int .i64 cb) := X.cell 14
        go_wp2_with fail
        refine (specStateOf _ _ _).mono ?_
        rintro e w9 ⟨rfl, b⟩
        rw [hst.out]
        replace X := X.below b
        clear b c13 c14
        have c2 : w9.cell? ⟨g, 2, none⟩ = some (.bool n.mild) := X.cell 2
        have c12 : w9.cell? ⟨g, 12, none⟩ = some (.int .i64 n.left) := X.cell 12
        have f2 := X.free 2
        have f12 := X.free 12
        go_upto_region 16 with fail
        clear c2 c12 f2 f12
        replace X : N3 g gr gh (ndC ({ n with cs := ca, cg := cb, got := ⟨#[]⟩, run := 0, last := 0, pos := 0, bad := false, ph := 3, mild := true, left := 6 }) p) w _ := ((X.set 2 (.bool true)).set 12 (.int .i64 6))
        generalize World.setCell _ _ _ = W10 at X ⊢
        refine wp_region_held (S := fun u => Nx g ({ n with cs := ca, cg := cb, got := ⟨#[]⟩, run := 0, last := 0, pos := 0, bad := false, ph := 3, mild := true, left := 6 }) (p) w u) (by kernel_rfl) ?_
        replace X := X.drew'
        generalize ({ W10 with drawn := W10.drawn + 1 } : World) = V at X ⊢
        refine take_at 0 _ (ndV ({ n with cs := ca, cg := cb, got := ⟨#[]⟩, run := 0, last := 0, pos := 0, bad := false, ph := 3, mild := true, left := 6 }) (p)) rfl rfl (by kernel_rfl) (by kernel_rfl) (by kernel_rfl) (fun _ _ _ h => h) (.inl ⟨rfl, fun u hu => hu.took rfl rfl⟩) X.nx ?_
        simp only [Act.put, List.setIfInBounds_toArray, List.set_cons_zero, List.set_cons_succ]
        refine call_at 1 _ 158 #[.int .i64 4] rfl rfl (by kernel_rfl) rfl (by go_simp) ?_
        refine (specHappen 4 _).mono ?_
        rintro e wh ⟨rfl, b⟩
        replace X := X.below b
        clear b
        refine ⟨_, rfl, X.nx, ?_⟩
        simp only [Act.put, List.setIfInBounds_toArray, List.set_cons_zero, List.set_cons_succ]
        refine held_row 2 gr (ndC ({ n with cs := ca, cg := cb, got := ⟨#[]⟩, run := 0, last := 0, pos := 0, bad := false, ph := 3, mild := true, left := 6 }) (p)) rfl (by kernel_rfl) rfl rfl rfl rfl rfl X.res (by kernel_rfl) rfl (ndC_one _ _) (X.nxR _) ?_
        refine held_row 3 gh (hpC 4 zF none 0) rfl (by kernel_rfl) rfl rfl rfl rfl rfl (X.fin _ #[]).1 (by kernel_rfl) rfl (hpC_one _ _ _ _) (X.nxH _ _) ?_
        refine wpAnyH_done (by kernel_rfl) ?_ _
        obtain ⟨-, Z1, Z2, Z3⟩ := X.fin (ndC ({ n with cs := ca, cg := cb, got := ⟨#[]⟩, run := 0, last := 0, pos := 0, bad := false, ph := 3, mild := true, left := 6 }) (p)) (hpC 4 zF none 0)
        go_wp2_with fail
        refine bodyPost_ret (v := .tuple #[ndV ({ n with cs := ca, cg := cb, got := ⟨#[]⟩, run := 0, last := 0, pos := 0, bad := false, ph := 3, mild := true, left := 6 }) (p), hpV 4 zF none 0]) ?_ rfl ⟨rfl, Z3⟩
        exact results_both Tryz.results210 _ _ gr gh _ _ rfl rfl Z1 Z2 rfl rfl
      · rw [decide_eq_false hs1]
        generalize hst : stV ca cb = st at *
        replace hst := Lib.hid hst
        have e2 : (st == 2) = false := beq_eq_false_iff_ne.2 hs2
        have e1 : (st == 1) = false := beq_eq_false_iff_ne.2 hs1
        clear hs1 hs2
        have X := N3.made (ndC n p) w
        go_enter Tryz.func210, Tryz.ntmps210
        go_upto_region 1 with fail
        generalize World.alloc _ _ = W at X ⊢
        generalize w.heap.size + 1 + 1 = gh at X ⊢
        generalize w.heap.size + 1 = gr at X ⊢
        generalize w.heap.size = g at X ⊢
        have c1 : W.cell? ⟨g, 1, none⟩ = some (.bool n.tx) := X.cell 1
        have c13 : W.cell? ⟨g, 13, none⟩ = some (.int .i64 n.cs) := X.cell 13
        have c14 : W.cell? ⟨g, 14, none⟩ = some (.int .i64 n.cg) := X.cell 14
        rw [ht.out] at c1
        go_wp2_with fail
        refine (specGotBad _ _ _).mono ?_
        rintro e w2 ⟨rfl, b⟩
        rw [ha.out, hb.out]
        replace X := X.below b
        clear b c1 c13 c14
        have c3 : w2.cell? ⟨g, 3, none⟩ = some (.bool n.bad) := X.cell 3
        have c8 : w2.cell? ⟨g, 8, none⟩ = some (.string n.got) := X.cell 8
        have c9 : w2.cell? ⟨g, 9, none⟩ = some (.int .i64 n.run) := X.cell 9
        have c10 : w2.cell? ⟨g, 10, none⟩ = some (.int .i64 n.last) := X.cell 10
        have c11 : w2.cell? ⟨g, 11, none⟩ = some (.int .i64 n.pos) := X.cell 11
        have c13 : w2.cell? ⟨g, 13, none⟩ = some (.int .i64 n.cs) := X.cell 13
        have c14 : w2.cell? ⟨g, 14, none⟩ = some (.int .i64 n.cg) := X.cell 14
        have f3 := X.free 3
        have f8 := X.free 8
        have f9 := X.free 9
        have f10 := X.free 10
        have f11 := X.free 11
        have f13 := X.free 13
        have f14 := X.free 14
        go_upto_region 9 with fail
        clear c3 c8 c9 c10 c11 c13 c14 f3 f8 f9 f10 f11 f13 f14
        replace X : N3 g gr gh (ndC ({ n with cs := ca, cg := cb, got := ⟨#[]⟩, run := 0 }) p) w _ := ((((X.set 13 (.int .i64 ca)).set 14 (.int .i64 cb)).set 8 (.string ⟨#[]⟩)).set 9 (.int .i64 0))
        replace X : N3 g gr gh (ndC ({ n with cs := ca, cg := cb, got := ⟨#[]⟩, run := 0, last := 0, pos := 0, bad := false }) p) w _ := (((X.set 10 (.int .i64 0)).set 11 (.int .i64 0)).set 3 (.bool false))
        generalize World.setCell _ _ _ = W6 at X ⊢
        have c13 : W6.cell? ⟨g, 13, none⟩ = some (.int .i64 ca) := X.cell 13
        have c14 : W6.cell? ⟨g, 14, none⟩ = some (.int .i64 cb) := X.cell 14
        go_wp2_with fail
        refine (specStateOf _ _ _).mono ?_
        rintro e w7 ⟨rfl, b⟩
        rw [hst.out]
        replace X := X.below b
        clear b c13 c14
        have c0 : w7.cell? ⟨g, 0, none⟩ = some (.int .i64 n.ph) := X.cell 0
        have f0 := X.free 0
        go_upto_region 14 with fail
        clear c0 f0
        replace X : N3 g gr gh (ndC ({ n with cs := ca, cg := cb, got := ⟨#[]⟩, run := 0, last := 0, pos := 0, bad := false, ph := 3 }) p) w _ := (X.set 0 (.int .i64 3))
        generalize World.setCell _ _ _ = W8 at X ⊢
        have c13 : W8.cell? ⟨g, 13, none⟩ = some (.int .i64 ca) := X.cell 13
        have c14 : W8.cell? ⟨g, 14, none⟩ = some (.int .i64 cb) := X.cell 14
        go_wp2_with fail
        refine (specStateOf _ _ _).mono ?_
        rintro e w9 ⟨rfl, b⟩
        rw [hst.out]
        replace X := X.below b
        clear b c13 c14
        have c2 : w9.cell? ⟨g, 2, none⟩ = some (.bool n.mild) := X.cell 2
        have c12 : w9.cell? ⟨g, 12, none⟩ = some (.int .i64 n.left) := X.cell 12
        have f2 := X.free 2
        have f12 := X.free 12
        go_upto_region 16 with fail
        clear c2 c12 f2 f12
        replace X : N3 g gr gh (ndC ({ n with cs := ca, cg := cb, got := ⟨#[]⟩, run := 0, last := 0, pos := 0, bad := false, ph := 3, mild := false, left := 6 }) p) w _ := ((X.set 2 (.bool false)).set 12 (.int .i64 6))
        generalize World.setCell _ _ _ = W10 at X ⊢
        refine wp_region_held (S := fun u => Nx g ({ n with cs := ca, cg := cb, got := ⟨#[]⟩, run := 0, last := 0, pos := 0, bad := false, ph := 3, mild := false, left := 6 }) (p) w u) (by kernel_rfl) ?_
        replace X := X.drew'
        generalize ({ W10 with drawn := W10.drawn + 1 } : World) = V at X ⊢
        refine take_at 0 _ (ndV ({ n with cs := ca, cg := cb, got := ⟨#[]⟩, run := 0, last := 0, pos := 0, bad := false, ph := 3, mild := false, left := 6 }) (p)) rfl rfl (by kernel_rfl) (by kernel_rfl) (by kernel_rfl) (fun _ _ _ h => h) (.inl ⟨rfl, fun u hu => hu.took rfl rfl⟩) X.nx ?_
        simp only [Act.put, List.setIfInBounds_toArray, List.set_cons_zero, List.set_cons_succ]
        refine call_at 1 _ 158 #[.int .i64 4] rfl rfl (by kernel_rfl) rfl (by go_simp) ?_
        refine (specHappen 4 _).mono ?_
        rintro e wh ⟨rfl, b⟩
        replace X := X.below b
        clear b
        refine ⟨_, rfl, X.nx, ?_⟩
        simp only [Act.put, List.setIfInBounds_toArray, List.set_cons_zero, List.set_cons_succ]
        refine held_row 2 gr (ndC ({ n with cs := ca, cg := cb, got := ⟨#[]⟩, run := 0, last := 0, pos := 0, bad := false, ph := 3, mild := false, left := 6 }) (p)) rfl (by kernel_rfl) rfl rfl rfl rfl rfl X.res (by kernel_rfl) rfl (ndC_one _ _) (X.nxR _) ?_
        refine held_row 3 gh (hpC 4 zF none 0) rfl (by kernel_rfl) rfl rfl rfl rfl rfl (X.fin _ #[]).1 (by kernel_rfl) rfl (hpC_one _ _ _ _) (X.nxH _ _) ?_
        refine wpAnyH_done (by kernel_rfl) ?_ _
        obtain ⟨-, Z1, Z2, Z3⟩ := X.fin (ndC ({ n with cs := ca, cg := cb, got := ⟨#[]⟩, run := 0, last := 0, pos := 0, bad := false, ph := 3, mild := false, left := 6 }) (p)) (hpC 4 zF none 0)
        go_wp2_with fail
        refine bodyPost_ret (v := .tuple #[ndV ({ n with cs := ca, cg := cb, got := ⟨#[]⟩, run := 0, last := 0, pos := 0, bad := false, ph := 3, mild := false, left := 6 }) (p), hpV 4 zF none 0]) ?_ rfl ⟨rfl, Z3⟩
        exact results_both Tryz.results210 _ _ gr gh _ _ rfl rfl Z1 Z2 rfl rfl

/-- A node alone as an answer; its lists are as they were, its frame too, or it is the zero frame. -/
def Paused (r n : Nd) (p : NdP) (w : World) (e : Ending) (w' : World) : Prop := ∃ p' : NdP, (e = .returned (ndV r p') ∧ Below w.heap.size w w') ∧ ((r.fr = n.fr ∧ p' = p) ∨ (r.fr = zF ∧ p' = { p with ad := none, cd := 0 }))

set_option maxHeartbeats 16000000 in
/-- spec.l12Pause. -/
theorem specPause3 (n : Nd) (p : NdP) (l : Int) (w : World) (hl : l = 0 ∨ l = 1) (hl0 : 0 ≤ n.left ∧ n.left ≤ 128) (hp : n.ph = 3) :
    Calls Tryz.prog 163 #[ndV n p, .int .i64 l] w (Paused (pauseN n l) n p w) := by
  replace hp := Lib.hid hp
  by_cases hv : lessV n.left = 0
  · have hd := Lib.hid (decide_eq_true hv)
    rw [show pauseN n l = { n with ph := 4, left := 8 } from by unfold pauseN; rw [if_pos hp.out]; rw [if_pos hv]]
    have hv0 := Lib.hid hv
    clear hv
    have X := N2.made2 (ndC n p) w
    go_enter Tryz.func163, Tryz.ntmps163
    go_upto_region 1 with fail
    generalize World.alloc _ _ = W at X ⊢
    generalize w.heap.size + 1 = gr at X ⊢
    generalize w.heap.size = g at X ⊢
    have c0 : W.cell? ⟨g, 0, none⟩ = some (.int .i64 3) := (X.cell 0).trans (by rw [← hp.out]; rfl)
    go_wp2_with (refine Nx.take ⟨X.blk, X.bel⟩ rfl rfl rfl ?_)
    clear c0
    refine (specLess n p _ hl0).mono ?_
    rintro e w2 ⟨rfl, b⟩
    replace X := X.below b
    clear b
    rw [hd.out]
    go_upto_region 6 with (refine wpList_put X.blk rfl rfl rfl rfl rfl ?_)
    replace X : N2 g gr (ndC { n with left := lessV n.left } p) w _ := X.put _
    generalize World.setRow _ _ _ = W4 at X ⊢
    have c0 : W4.cell? ⟨g, 0, none⟩ = some (.int .i64 n.ph) := X.cell 0
    have c12 : W4.cell? ⟨g, 12, none⟩ = some (.int .i64 (lessV n.left)) := X.cell 12
    have f0 := X.free 0
    have f12 := X.free 12
    go_upto_region 32 with fail
    clear c0 c12 f0 f12
    replace X : N2 g gr (ndC ({ n with ph := 4, left := 8 }) p) w _ := ((X.set 0 (.int .i64 4)).set 12 (.int .i64 8))
    generalize World.setCell _ _ _ = W5 at X ⊢
    go_wp2_with (first | (refine Nx.take ⟨X.blk, X.bel⟩ rfl rfl rfl ?_) | (refine wpList_put X.res rfl rfl rfl rfl rfl ?_))
    refine bodyPost_ret (v := ndV ({ n with ph := 4, left := 8 }) (p)) ?_ rfl ⟨_, ⟨rfl, (X.fin _).2.2⟩, .inl ⟨rfl, rfl⟩⟩
    exact results_one Tryz.results163 _ _ gr _ rfl (X.fin (ndC ({ n with ph := 4, left := 8 }) (p))).1 rfl
  · have hd := Lib.hid (decide_eq_false hv)
    rw [show pauseN n l = { n with left := lessV n.left } from by unfold pauseN; rw [if_pos hp.out]; rw [if_neg hv]]
    clear hv
    have X := N2.made2 (ndC n p) w
    go_enter Tryz.func163, Tryz.ntmps163
    go_upto_region 1 with fail
    generalize World.alloc _ _ = W at X ⊢
    generalize w.heap.size + 1 = gr at X ⊢
    generalize w.heap.size = g at X ⊢
    have c0 : W.cell? ⟨g, 0, none⟩ = some (.int .i64 3) := (X.cell 0).trans (by rw [← hp.out]; rfl)
    go_wp2_with (refine Nx.take ⟨X.blk, X.bel⟩ rfl rfl rfl ?_)
    clear c0
    refine (specLess n p _ hl0).mono ?_
    rintro e w2 ⟨rfl, b⟩
    replace X := X.below b
    clear b
    rw [hd.out]
    go_upto_region 32 with (refine wpList_put X.blk rfl rfl rfl rfl rfl ?_)
    replace X : N2 g gr (ndC { n with left := lessV n.left } p) w _ := X.put _
    generalize World.setRow _ _ _ = W4 at X ⊢
    go_wp2_with (first | (refine Nx.take ⟨X.blk, X.bel⟩ rfl rfl rfl ?_) | (refine wpList_put X.res rfl rfl rfl rfl rfl ?_))
    refine bodyPost_ret (v := ndV ({ n with left := lessV n.left }) (p)) ?_ rfl ⟨_, ⟨rfl, (X.fin _).2.2⟩, .inl ⟨rfl, rfl⟩⟩
    exact results_one Tryz.results163 _ _ gr _ rfl (X.fin (ndC ({ n with left := lessV n.left }) (p))).1 rfl

set_option maxHeartbeats 16000000 in
/-- spec.l12Pause. -/
theorem specPause4 (n : Nd) (p : NdP) (l : Int) (w : World) (hl : l = 0 ∨ l = 1) (hl0 : 0 ≤ n.left ∧ n.left ≤ 128) (hp : n.ph = 4) :
    Calls Tryz.prog 163 #[ndV n p, .int .i64 l] w (Paused (pauseN n l) n p w) := by
  replace hp := Lib.hid hp
  rcases hl with rfl | rfl
  · rw [show pauseN n 0 = { n with left := 8 } from by unfold pauseN; rw [if_neg (by rw [hp.out]; decide)]; rw [if_pos hp.out]; rw [if_pos rfl]]
    have X := N2.made2 (ndC n p) w
    go_enter Tryz.func163, Tryz.ntmps163
    go_upto_region 1 with fail
    generalize World.alloc _ _ = W at X ⊢
    generalize w.heap.size + 1 = gr at X ⊢
    generalize w.heap.size = g at X ⊢
    have c0 : W.cell? ⟨g, 0, none⟩ = some (.int .i64 4) := (X.cell 0).trans (by rw [← hp.out]; rfl)
    have c12 : W.cell? ⟨g, 12, none⟩ = some (.int .i64 n.left) := X.cell 12
    have f12 := X.free 12
    go_upto_region 11 with fail
    clear c0
    clear c12 f12
    replace X : N2 g gr (ndC ({ n with left := 8 }) p) w _ := (X.set 12 (.int .i64 8))
    generalize World.setCell _ _ _ = W5 at X ⊢
    go_wp2_with (first | (refine Nx.take ⟨X.blk, X.bel⟩ rfl rfl rfl ?_) | (refine wpList_put X.res rfl rfl rfl rfl rfl ?_))
    refine bodyPost_ret (v := ndV ({ n with left := 8 }) (p)) ?_ rfl ⟨_, ⟨rfl, (X.fin _).2.2⟩, .inl ⟨rfl, rfl⟩⟩
    exact results_one Tryz.results163 _ _ gr _ rfl (X.fin (ndC ({ n with left := 8 }) (p))).1 rfl
  · by_cases hv : lessV n.left = 0
    · have hd := Lib.hid (decide_eq_true hv)
      rw [show pauseN n 1 = { n with ph := 5, left := 3 } from by unfold pauseN; rw [if_neg (by rw [hp.out]; decide)]; rw [if_pos hp.out]; rw [if_neg (by decide)]; rw [if_pos hv]]
      have hv0 := Lib.hid hv
      clear hv
      have X := N2.made2 (ndC n p) w
      go_enter Tryz.func163, Tryz.ntmps163
      go_upto_region 1 with fail
      generalize World.alloc _ _ = W at X ⊢
      generalize w.heap.size + 1 = gr at X ⊢
      generalize w.heap.size = g at X ⊢
      have c0 : W.cell? ⟨g, 0, none⟩ = some (.int .i64 4) := (X.cell 0).trans (by rw [← hp.out]; rfl)
      go_wp2_with (refine Nx.take ⟨X.blk, X.bel⟩ rfl rfl rfl ?_)
      clear c0
      refine (specLess n p _ hl0).mono ?_
      rintro e w2 ⟨rfl, b⟩
      replace X := X.below b
      clear b
      rw [hd.out]
      go_upto_region 14 with (refine wpList_put X.blk rfl rfl rfl rfl rfl ?_)
      replace X : N2 g gr (ndC { n with left := lessV n.left } p) w _ := X.put _
      generalize World.setRow _ _ _ = W4 at X ⊢
      have c0 : W4.cell? ⟨g, 0, none⟩ = some (.int .i64 n.ph) := X.cell 0
      have c12 : W4.cell? ⟨g, 12, none⟩ = some (.int .i64 (lessV n.left)) := X.cell 12
      have f0 := X.free 0
      have f12 := X.free 12
      go_upto_region 32 with fail
      clear c0 c12 f0 f12
      replace X : N2 g gr (ndC ({ n with ph := 5, left := 3 }) p) w _ := ((X.set 0 (.int .i64 5)).set 12 (.int .i64 3))
      generalize World.setCell _ _ _ = W5 at X ⊢
      go_wp2_with (first | (refine Nx.take ⟨X.blk, X.bel⟩ rfl rfl rfl ?_) | (refine wpList_put X.res rfl rfl rfl rfl rfl ?_))
      refine bodyPost_ret (v := ndV ({ n with ph := 5, left := 3 }) (p)) ?_ rfl ⟨_, ⟨rfl, (X.fin _).2.2⟩, .inl ⟨rfl, rfl⟩⟩
      exact results_one Tryz.results163 _ _ gr _ rfl (X.fin (ndC ({ n with ph := 5, left := 3 }) (p))).1 rfl
    · have hd := Lib.hid (decide_eq_false hv)
      rw [show pauseN n 1 = { n with left := lessV n.left } from by unfold pauseN; rw [if_neg (by rw [hp.out]; decide)]; rw [if_pos hp.out]; rw [if_neg (by decide)]; rw [if_neg hv]]
      clear hv
      have X := N2.made2 (ndC n p) w
      go_enter Tryz.func163, Tryz.ntmps163
      go_upto_region 1 with fail
      generalize World.alloc _ _ = W at X ⊢
      generalize w.heap.size + 1 = gr at X ⊢
      generalize w.heap.size = g at X ⊢
      have c0 : W.cell? ⟨g, 0, none⟩ = some (.int .i64 4) := (X.cell 0).trans (by rw [← hp.out]; rfl)
      go_wp2_with (refine Nx.take ⟨X.blk, X.bel⟩ rfl rfl rfl ?_)
      clear c0
      refine (specLess n p _ hl0).mono ?_
      rintro e w2 ⟨rfl, b⟩
      replace X := X.below b
      clear b
      rw [hd.out]
      go_upto_region 32 with (refine wpList_put X.blk rfl rfl rfl rfl rfl ?_)
      replace X : N2 g gr (ndC { n with left := lessV n.left } p) w _ := X.put _
      generalize World.setRow _ _ _ = W4 at X ⊢
      go_wp2_with (first | (refine Nx.take ⟨X.blk, X.bel⟩ rfl rfl rfl ?_) | (refine wpList_put X.res rfl rfl rfl rfl rfl ?_))
      refine bodyPost_ret (v := ndV ({ n with left := lessV n.left }) (p)) ?_ rfl ⟨_, ⟨rfl, (X.fin _).2.2⟩, .inl ⟨rfl, rfl⟩⟩
      exact results_one Tryz.results163 _ _ gr _ rfl (X.fin (ndC ({ n with left := lessV n.left }) (p))).1 rfl

set_option maxHeartbeats 16000000 in
/-- spec.l12Pause. -/
theorem specPause6 (n : Nd) (p : NdP) (l : Int) (w : World) (hl : l = 0 ∨ l = 1) (hl0 : 0 ≤ n.left ∧ n.left ≤ 128) (hp : n.ph = 6) :
    Calls Tryz.prog 163 #[ndV n p, .int .i64 l] w (Paused (pauseN n l) n p w) := by
  replace hp := Lib.hid hp
  rcases hl with rfl | rfl
  · rw [show pauseN n 0 = begN n false from by unfold pauseN; rw [if_neg (by rw [hp.out]; decide)]; rw [if_neg (by rw [hp.out]; decide)]; rw [if_neg (by rw [hp.out]; decide)]; rw [if_pos hp.out]; rw [if_pos rfl]]
    have X := N2.made2 (ndC n p) w
    go_enter Tryz.func163, Tryz.ntmps163
    go_upto_region 1 with fail
    generalize World.alloc _ _ = W at X ⊢
    generalize w.heap.size + 1 = gr at X ⊢
    generalize w.heap.size = g at X ⊢
    have c0 : W.cell? ⟨g, 0, none⟩ = some (.int .i64 6) := (X.cell 0).trans (by rw [← hp.out]; rfl)
    go_wp2_with (refine Nx.take ⟨X.blk, X.bel⟩ rfl rfl rfl ?_)
    clear c0
    refine (specBegin n p false _).mono ?_
    rintro e w2 ⟨rfl, b⟩
    replace X := X.below b
    clear b
    go_wp2_with (first | (refine Nx.take ⟨X.blk, X.bel⟩ rfl rfl rfl ?_) | (refine wpList_put X.res rfl rfl rfl rfl rfl ?_))
    refine bodyPost_ret (v := ndV (begN n false) (p)) ?_ rfl ⟨_, ⟨rfl, (X.fin _).2.2⟩, .inl ⟨rfl, rfl⟩⟩
    exact results_one Tryz.results163 _ _ gr _ rfl (X.fin (ndC (begN n false) (p))).1 rfl
  · by_cases hv : lessV n.left = 0
    · have hd := Lib.hid (decide_eq_true hv)
      rw [show pauseN n 1 = { n with left := 0, ph := 0 } from by unfold pauseN; rw [if_neg (by rw [hp.out]; decide)]; rw [if_neg (by rw [hp.out]; decide)]; rw [if_neg (by rw [hp.out]; decide)]; rw [if_pos hp.out]; rw [if_neg (by decide)]; rw [if_pos hv]]
      have hv0 := Lib.hid hv
      clear hv
      have X := N2.made2 (ndC n p) w
      go_enter Tryz.func163, Tryz.ntmps163
      go_upto_region 1 with fail
      generalize World.alloc _ _ = W at X ⊢
      generalize w.heap.size + 1 = gr at X ⊢
      generalize w.heap.size = g at X ⊢
      have c0 : W.cell? ⟨g, 0, none⟩ = some (.int .i64 6) := (X.cell 0).trans (by rw [← hp.out]; rfl)
      go_wp2_with (refine Nx.take ⟨X.blk, X.bel⟩ rfl rfl rfl ?_)
      clear c0
      refine (specLess n p _ hl0).mono ?_
      rintro e w2 ⟨rfl, b⟩
      replace X := X.below b
      clear b
      rw [hd.out]
      go_upto_region 31 with (refine wpList_put X.blk rfl rfl rfl rfl rfl ?_)
      replace X : N2 g gr (ndC { n with left := lessV n.left } p) w _ := X.put _
      generalize World.setRow _ _ _ = W4 at X ⊢
      replace X : N2 g gr (ndC { n with left := 0 } p) w W4 := by have := X; rw [hv0.out] at this; exact this
      have c0 : W4.cell? ⟨g, 0, none⟩ = some (.int .i64 n.ph) := X.cell 0
      have f0 := X.free 0
      go_upto_region 32 with fail
      clear c0 f0
      replace X : N2 g gr (ndC ({ n with left := 0, ph := 0 }) p) w _ := (X.set 0 (.int .i64 0))
      generalize World.setCell _ _ _ = W5 at X ⊢
      go_wp2_with (first | (refine Nx.take ⟨X.blk, X.bel⟩ rfl rfl rfl ?_) | (refine wpList_put X.res rfl rfl rfl rfl rfl ?_))
      refine bodyPost_ret (v := ndV ({ n with left := 0, ph := 0 }) (p)) ?_ rfl ⟨_, ⟨rfl, (X.fin _).2.2⟩, .inl ⟨rfl, rfl⟩⟩
      exact results_one Tryz.results163 _ _ gr _ rfl (X.fin (ndC ({ n with left := 0, ph := 0 }) (p))).1 rfl
    · have hd := Lib.hid (decide_eq_false hv)
      rw [show pauseN n 1 = { n with left := lessV n.left } from by unfold pauseN; rw [if_neg (by rw [hp.out]; decide)]; rw [if_neg (by rw [hp.out]; decide)]; rw [if_neg (by rw [hp.out]; decide)]; rw [if_pos hp.out]; rw [if_neg (by decide)]; rw [if_neg hv]]
      clear hv
      have X := N2.made2 (ndC n p) w
      go_enter Tryz.func163, Tryz.ntmps163
      go_upto_region 1 with fail
      generalize World.alloc _ _ = W at X ⊢
      generalize w.heap.size + 1 = gr at X ⊢
      generalize w.heap.size = g at X ⊢
      have c0 : W.cell? ⟨g, 0, none⟩ = some (.int .i64 6) := (X.cell 0).trans (by rw [← hp.out]; rfl)
      go_wp2_with (refine Nx.take ⟨X.blk, X.bel⟩ rfl rfl rfl ?_)
      clear c0
      refine (specLess n p _ hl0).mono ?_
      rintro e w2 ⟨rfl, b⟩
      replace X := X.below b
      clear b
      rw [hd.out]
      go_upto_region 32 with (refine wpList_put X.blk rfl rfl rfl rfl rfl ?_)
      replace X : N2 g gr (ndC { n with left := lessV n.left } p) w _ := X.put _
      generalize World.setRow _ _ _ = W4 at X ⊢
      go_wp2_with (first | (refine Nx.take ⟨X.blk, X.bel⟩ rfl rfl rfl ?_) | (refine wpList_put X.res rfl rfl rfl rfl rfl ?_))
      refine bodyPost_ret (v := ndV ({ n with left := lessV n.left }) (p)) ?_ rfl ⟨_, ⟨rfl, (X.fin _).2.2⟩, .inl ⟨rfl, rfl⟩⟩
      exact results_one Tryz.results163 _ _ gr _ rfl (X.fin (ndC ({ n with left := lessV n.left }) (p))).1 rfl

set_option maxHeartbeats 16000000 in
/-- spec.l12Pause. -/
theorem specPause5 (n : Nd) (p : NdP) (l : Int) (w : World) (hl : l = 0 ∨ l = 1) (hl0 : 0 ≤ n.left ∧ n.left ≤ 128) (hp : n.ph = 5) :
    Calls Tryz.prog 163 #[ndV n p, .int .i64 l] w (Paused (pauseN n l) n p w) := by
  replace hp := Lib.hid hp
  by_cases hv : lessV n.left = 0
  · have hd := Lib.hid (decide_eq_true hv)
    by_cases hs : n.tx = true ∧ stV n.cs n.cg = 1
    · have ht := Lib.hid hs.1
      have e1 : (stV n.cs n.cg == 1) = true := beq_iff_eq.2 hs.2
      have hst : Hid (stV n.cs n.cg = stV n.cs n.cg) := Lib.hid rfl
      rw [show pauseN n l = { n with left := 8, ph := 6, tx := false, fr := zF } from by unfold pauseN; rw [if_neg (by rw [hp.out]; decide)]; rw [if_neg (by rw [hp.out]; decide)]; rw [if_pos hp.out]; rw [if_pos hv, if_pos hs]]
      have hv0 := Lib.hid hv
      clear hv hs
      have X := N2.made2 (ndC n p) w
      go_enter Tryz.func163, Tryz.ntmps163
      go_upto_region 1 with fail
      generalize World.alloc _ _ = W at X ⊢
      generalize w.heap.size + 1 = gr at X ⊢
      generalize w.heap.size = g at X ⊢
      have c0 : W.cell? ⟨g, 0, none⟩ = some (.int .i64 5) := (X.cell 0).trans (by rw [← hp.out]; rfl)
      go_wp2_with (refine Nx.take ⟨X.blk, X.bel⟩ rfl rfl rfl ?_)
      clear c0
      refine (specLess n p _ hl0).mono ?_
      rintro e w2 ⟨rfl, b⟩
      replace X := X.below b
      clear b
      rw [hd.out]
      go_upto_region 20 with (refine wpList_put X.blk rfl rfl rfl rfl rfl ?_)
      replace X : N2 g gr (ndC { n with left := lessV n.left } p) w _ := X.put _
      generalize World.setRow _ _ _ = W4 at X ⊢
      have c0 : W4.cell? ⟨g, 0, none⟩ = some (.int .i64 n.ph) := X.cell 0
      have f0 := X.free 0
      go_upto_region 21 with fail
      clear c0 f0
      replace X : N2 g gr (ndC ({ n with left := lessV n.left, ph := 0 }) p) w _ := (X.set 0 (.int .i64 0))
      generalize World.setCell _ _ _ = W5 at X ⊢
      have c1 : W5.cell? ⟨g, 1, none⟩ = some (.bool n.tx) := X.cell 1
      have c13 : W5.cell? ⟨g, 13, none⟩ = some (.int .i64 n.cs) := X.cell 13
      have c14 : W5.cell? ⟨g, 14, none⟩ = some (.int .i64 n.cg) := X.cell 14
      rw [ht.out] at c1
      go_wp2_with fail
      refine (specStateOf _ _ _).mono ?_
      rintro e w6 ⟨rfl, b⟩
      replace X := X.below b
      clear b c1 c13 c14
      have c0 : w6.cell? ⟨g, 0, none⟩ = some (.int .i64 0) := X.cell 0
      have f0 := X.free 0
      have c12 : w6.cell? ⟨g, 12, none⟩ = some (.int .i64 (lessV n.left)) := X.cell 12
      have f12 := X.free 12
      go_upto_region 24 with fail
      clear c0 f0 c12 f12
      replace X : N2 g gr (ndC ({ n with left := 8, ph := 6 }) p) w _ := ((X.set 0 (.int .i64 6)).set 12 (.int .i64 8))
      generalize World.setCell _ _ _ = W7 at X ⊢
      have c1 : W7.cell? ⟨g, 1, none⟩ = some (.bool n.tx) := X.cell 1
      have c4 : W7.cell? ⟨g, 4, none⟩ = some (.int .i64 n.fr.id) := X.cell 4
      have c5 : W7.cell? ⟨g, 5, none⟩ = some (.bool n.fr.rm) := X.cell 5
      have c6 : W7.cell? ⟨g, 6, none⟩ = some (.int .i64 n.fr.ln) := X.cell 6
      have c7 : W7.cell? ⟨g, 7, none⟩ = some (.slice p.ad n.fr.D.length p.cd) := X.cell 7
      have f1 := X.free 1
      have f4 := X.free 4
      have f5 := X.free 5
      have f6 := X.free 6
      have f7 := X.free 7
      go_upto_region 32 with fail
      clear c1 c4 c5 c6 c7 f1 f4 f5 f6 f7
      replace X : N2 g gr (ndC ({ n with left := 8, ph := 6, tx := false, fr := zF }) { p with ad := none, cd := 0 }) w _ := (((((X.set 1 (.bool false)).set 4 (.int .i64 0)).set 5 (.bool false)).set 6 (.int .i64 0)).set 7 (.slice none 0 0))
      generalize World.setCell _ _ _ = W9 at X ⊢
      go_wp2_with (first | (refine Nx.take ⟨X.blk, X.bel⟩ rfl rfl rfl ?_) | (refine wpList_put X.res rfl rfl rfl rfl rfl ?_))
      refine bodyPost_ret (v := ndV ({ n with left := 8, ph := 6, tx := false, fr := zF }) ({ p with ad := none, cd := 0 })) ?_ rfl ⟨_, ⟨rfl, (X.fin _).2.2⟩, .inr ⟨rfl, rfl⟩⟩
      exact results_one Tryz.results163 _ _ gr _ rfl (X.fin (ndC ({ n with left := 8, ph := 6, tx := false, fr := zF }) ({ p with ad := none, cd := 0 }))).1 rfl
    · rcases (Bool.eq_false_or_eq_true n.tx).symm with ht | ht
      · replace ht := Lib.hid ht
        rw [show pauseN n l = { n with left := 0, ph := 0, tx := false, fr := zF } from by unfold pauseN; rw [if_neg (by rw [hp.out]; decide)]; rw [if_neg (by rw [hp.out]; decide)]; rw [if_pos hp.out]; rw [if_pos hv, if_neg hs]]
        have hv0 := Lib.hid hv
        clear hv hs
        have X := N2.made2 (ndC n p) w
        go_enter Tryz.func163, Tryz.ntmps163
        go_upto_region 1 with fail
        generalize World.alloc _ _ = W at X ⊢
        generalize w.heap.size + 1 = gr at X ⊢
        generalize w.heap.size = g at X ⊢
        have c0 : W.cell? ⟨g, 0, none⟩ = some (.int .i64 5) := (X.cell 0).trans (by rw [← hp.out]; rfl)
        go_wp2_with (refine Nx.take ⟨X.blk, X.bel⟩ rfl rfl rfl ?_)
        clear c0
        refine (specLess n p _ hl0).mono ?_
        rintro e w2 ⟨rfl, b⟩
        replace X := X.below b
        clear b
        rw [hd.out]
        go_upto_region 20 with (refine wpList_put X.blk rfl rfl rfl rfl rfl ?_)
        replace X : N2 g gr (ndC { n with left := lessV n.left } p) w _ := X.put _
        generalize World.setRow _ _ _ = W4 at X ⊢
        have c0 : W4.cell? ⟨g, 0, none⟩ = some (.int .i64 n.ph) := X.cell 0
        have f0 := X.free 0
        go_upto_region 21 with fail
        clear c0 f0
        replace X : N2 g gr (ndC ({ n with left := lessV n.left, ph := 0 }) p) w _ := (X.set 0 (.int .i64 0))
        generalize World.setCell _ _ _ = W5 at X ⊢
        have c1 : W5.cell? ⟨g, 1, none⟩ = some (.bool n.tx) := X.cell 1
        have c13 : W5.cell? ⟨g, 13, none⟩ = some (.int .i64 n.cs) := X.cell 13
        have c14 : W5.cell? ⟨g, 14, none⟩ = some (.int .i64 n.cg) := X.cell 14
        rw [ht.out] at c1
        go_upto_region 24 with fail
        clear c1 c13 c14
        replace X : N2 g gr (ndC { n with left := 0, ph := 0 } p) w W5 := by have := X; rw [hv0.out] at this; exact this
        have c1 : W5.cell? ⟨g, 1, none⟩ = some (.bool n.tx) := X.cell 1
        have c4 : W5.cell? ⟨g, 4, none⟩ = some (.int .i64 n.fr.id) := X.cell 4
        have c5 : W5.cell? ⟨g, 5, none⟩ = some (.bool n.fr.rm) := X.cell 5
        have c6 : W5.cell? ⟨g, 6, none⟩ = some (.int .i64 n.fr.ln) := X.cell 6
        have c7 : W5.cell? ⟨g, 7, none⟩ = some (.slice p.ad n.fr.D.length p.cd) := X.cell 7
        have f1 := X.free 1
        have f4 := X.free 4
        have f5 := X.free 5
        have f6 := X.free 6
        have f7 := X.free 7
        go_upto_region 32 with fail
        clear c1 c4 c5 c6 c7 f1 f4 f5 f6 f7
        replace X : N2 g gr (ndC ({ n with left := 0, ph := 0, tx := false, fr := zF }) { p with ad := none, cd := 0 }) w _ := (((((X.set 1 (.bool false)).set 4 (.int .i64 0)).set 5 (.bool false)).set 6 (.int .i64 0)).set 7 (.slice none 0 0))
        generalize World.setCell _ _ _ = W9 at X ⊢
        go_wp2_with (first | (refine Nx.take ⟨X.blk, X.bel⟩ rfl rfl rfl ?_) | (refine wpList_put X.res rfl rfl rfl rfl rfl ?_))
        refine bodyPost_ret (v := ndV ({ n with left := 0, ph := 0, tx := false, fr := zF }) ({ p with ad := none, cd := 0 })) ?_ rfl ⟨_, ⟨rfl, (X.fin _).2.2⟩, .inr ⟨rfl, rfl⟩⟩
        exact results_one Tryz.results163 _ _ gr _ rfl (X.fin (ndC ({ n with left := 0, ph := 0, tx := false, fr := zF }) ({ p with ad := none, cd := 0 }))).1 rfl
      · have e1 : (stV n.cs n.cg == 1) = false := beq_eq_false_iff_ne.2 (fun k => hs ⟨ht, k⟩)
        replace ht := Lib.hid ht
        have hst : Hid (stV n.cs n.cg = stV n.cs n.cg) := Lib.hid rfl
        rw [show pauseN n l = { n with left := 0, ph := 0, tx := false, fr := zF } from by unfold pauseN; rw [if_neg (by rw [hp.out]; decide)]; rw [if_neg (by rw [hp.out]; decide)]; rw [if_pos hp.out]; rw [if_pos hv, if_neg hs]]
        have hv0 := Lib.hid hv
        clear hv hs
        have X := N2.made2 (ndC n p) w
        go_enter Tryz.func163, Tryz.ntmps163
        go_upto_region 1 with fail
        generalize World.alloc _ _ = W at X ⊢
        generalize w.heap.size + 1 = gr at X ⊢
        generalize w.heap.size = g at X ⊢
        have c0 : W.cell? ⟨g, 0, none⟩ = some (.int .i64 5) := (X.cell 0).trans (by rw [← hp.out]; rfl)
        go_wp2_with (refine Nx.take ⟨X.blk, X.bel⟩ rfl rfl rfl ?_)
        clear c0
        refine (specLess n p _ hl0).mono ?_
        rintro e w2 ⟨rfl, b⟩
        replace X := X.below b
        clear b
        rw [hd.out]
        go_upto_region 20 with (refine wpList_put X.blk rfl rfl rfl rfl rfl ?_)
        replace X : N2 g gr (ndC { n with left := lessV n.left } p) w _ := X.put _
        generalize World.setRow _ _ _ = W4 at X ⊢
        have c0 : W4.cell? ⟨g, 0, none⟩ = some (.int .i64 n.ph) := X.cell 0
        have f0 := X.free 0
        go_upto_region 21 with fail
        clear c0 f0
        replace X : N2 g gr (ndC ({ n with left := lessV n.left, ph := 0 }) p) w _ := (X.set 0 (.int .i64 0))
        generalize World.setCell _ _ _ = W5 at X ⊢
        have c1 : W5.cell? ⟨g, 1, none⟩ = some (.bool n.tx) := X.cell 1
        have c13 : W5.cell? ⟨g, 13, none⟩ = some (.int .i64 n.cs) := X.cell 13
        have c14 : W5.cell? ⟨g, 14, none⟩ = some (.int .i64 n.cg) := X.cell 14
        rw [ht.out] at c1
        go_wp2_with fail
        refine (specStateOf _ _ _).mono ?_
        rintro e w6 ⟨rfl, b⟩
        replace X := X.below b
        clear b c1 c13 c14
        go_upto_region 24 with fail
        replace X : N2 g gr (ndC { n with left := 0, ph := 0 } p) w w6 := by have := X; rw [hv0.out] at this; exact this
        have c1 : w6.cell? ⟨g, 1, none⟩ = some (.bool n.tx) := X.cell 1
        have c4 : w6.cell? ⟨g, 4, none⟩ = some (.int .i64 n.fr.id) := X.cell 4
        have c5 : w6.cell? ⟨g, 5, none⟩ = some (.bool n.fr.rm) := X.cell 5
        have c6 : w6.cell? ⟨g, 6, none⟩ = some (.int .i64 n.fr.ln) := X.cell 6
        have c7 : w6.cell? ⟨g, 7, none⟩ = some (.slice p.ad n.fr.D.length p.cd) := X.cell 7
        have f1 := X.free 1
        have f4 := X.free 4
        have f5 := X.free 5
        have f6 := X.free 6
        have f7 := X.free 7
        go_upto_region 32 with fail
        clear c1 c4 c5 c6 c7 f1 f4 f5 f6 f7
        replace X : N2 g gr (ndC ({ n with left := 0, ph := 0, tx := false, fr := zF }) { p with ad := none, cd := 0 }) w _ := (((((X.set 1 (.bool false)).set 4 (.int .i64 0)).set 5 (.bool false)).set 6 (.int .i64 0)).set 7 (.slice none 0 0))
        generalize World.setCell _ _ _ = W9 at X ⊢
        go_wp2_with (first | (refine Nx.take ⟨X.blk, X.bel⟩ rfl rfl rfl ?_) | (refine wpList_put X.res rfl rfl rfl rfl rfl ?_))
        refine bodyPost_ret (v := ndV ({ n with left := 0, ph := 0, tx := false, fr := zF }) ({ p with ad := none, cd := 0 })) ?_ rfl ⟨_, ⟨rfl, (X.fin _).2.2⟩, .inr ⟨rfl, rfl⟩⟩
        exact results_one Tryz.results163 _ _ gr _ rfl (X.fin (ndC ({ n with left := 0, ph := 0, tx := false, fr := zF }) ({ p with ad := none, cd := 0 }))).1 rfl
  · have hd := Lib.hid (decide_eq_false hv)
    rw [show pauseN n l = { n with left := lessV n.left } from by unfold pauseN; rw [if_neg (by rw [hp.out]; decide)]; rw [if_neg (by rw [hp.out]; decide)]; rw [if_pos hp.out]; rw [if_neg hv]]
    clear hv
    have X := N2.made2 (ndC n p) w
    go_enter Tryz.func163, Tryz.ntmps163
    go_upto_region 1 with fail
    generalize World.alloc _ _ = W at X ⊢
    generalize w.heap.size + 1 = gr at X ⊢
    generalize w.heap.size = g at X ⊢
    have c0 : W.cell? ⟨g, 0, none⟩ = some (.int .i64 5) := (X.cell 0).trans (by rw [← hp.out]; rfl)
    go_wp2_with (refine Nx.take ⟨X.blk, X.bel⟩ rfl rfl rfl ?_)
    clear c0
    refine (specLess n p _ hl0).mono ?_
    rintro e w2 ⟨rfl, b⟩
    replace X := X.below b
    clear b
    rw [hd.out]
    go_upto_region 19 with (refine wpList_put X.blk rfl rfl rfl rfl rfl ?_)
    replace X : N2 g gr (ndC { n with left := lessV n.left } p) w _ := X.put _
    generalize World.setRow _ _ _ = W4 at X ⊢
    go_wp2_with (first | (refine Nx.take ⟨X.blk, X.bel⟩ rfl rfl rfl ?_) | (refine wpList_put X.res rfl rfl rfl rfl rfl ?_))
    refine bodyPost_ret (v := ndV ({ n with left := lessV n.left }) (p)) ?_ rfl ⟨_, ⟨rfl, (X.fin _).2.2⟩, .inl ⟨rfl, rfl⟩⟩
    exact results_one Tryz.results163 _ _ gr _ rfl (X.fin (ndC ({ n with left := lessV n.left }) (p))).1 rfl

set_option maxHeartbeats 16000000 in
/-- spec.l12Off. -/
theorem specOff (n : Nd) (p : NdP) (l : Int) (w : World) (hl : l = 0 ∨ l = 1) (hl0 : 0 ≤ n.left ∧ n.left ≤ 128) (hr : 0 ≤ n.run ∧ n.run ≤ 11) :
    Calls Tryz.prog 162 #[ndV n p, .int .i64 l] w (TellF (offN n l).1 (offN n l).2.1 n p w) := by
  have hrw : IntKind.i64.wrap (n.run + 1) = n.run + 1 := IntWalk.i64_in _ (by omega)
  have hlw : IntKind.i64.wrap (n.left - 1) = n.left - 1 := IntWalk.i64_in _ (by omega)
  rcases hl with rfl | rfl
  · have e : offN n 0 = ({ n with run := 0 }, 0, zF) := by unfold offN; rw [if_pos rfl]
    rw [e]
    clear e
    have X := N3.made (ndC n p) w
    go_enter Tryz.func162, Tryz.ntmps162
    go_upto_region 1 with fail
    generalize World.alloc _ _ = W at X ⊢
    generalize w.heap.size + 1 + 1 = gh at X ⊢
    generalize w.heap.size + 1 = gr at X ⊢
    generalize w.heap.size = g at X ⊢
    have c9 : W.cell? ⟨g, 9, none⟩ = some (.int .i64 n.run) := X.cell 9
    have f9 := X.free 9
    go_upto_region 3 with fail
    clear c9 f9
    replace X : N3 g gr gh (ndC ({ n with run := 0 }) p) w _ := (X.set 9 (.int .i64 0))
    generalize World.setCell _ _ _ = W1 at X ⊢
    refine wp_region_held (S := fun u => Nx g ({ n with run := 0 }) (p) w u) (by kernel_rfl) ?_
    replace X := X.drew'
    generalize ({ W1 with drawn := W1.drawn + 1 } : World) = V at X ⊢
    refine take_at 0 _ (ndV ({ n with run := 0 }) (p)) rfl rfl (by kernel_rfl) (by kernel_rfl) (by kernel_rfl) (fun _ _ _ h => h) (.inl ⟨rfl, fun u hu => hu.took rfl rfl⟩) X.nx ?_
    simp only [Act.put, List.setIfInBounds_toArray, List.set_cons_zero, List.set_cons_succ]
    refine call_at 1 _ 158 #[.int .i64 0] rfl rfl (by kernel_rfl) rfl (by go_simp) ?_
    refine (specHappen 0 _).mono ?_
    rintro e wh ⟨rfl, b⟩
    replace X := X.below b
    clear b
    refine ⟨_, rfl, X.nx, ?_⟩
    simp only [Act.put, List.setIfInBounds_toArray, List.set_cons_zero, List.set_cons_succ]
    refine held_row 2 gr (ndC ({ n with run := 0 }) (p)) rfl (by kernel_rfl) rfl rfl rfl rfl rfl X.res (by kernel_rfl) rfl (ndC_one _ _) (X.nxR _) ?_
    refine held_row 3 gh (hpC 0 zF none 0) rfl (by kernel_rfl) rfl rfl rfl rfl rfl (X.fin _ #[]).1 (by kernel_rfl) rfl (hpC_one _ _ _ _) (X.nxH _ _) ?_
    refine wpAnyH_done (by kernel_rfl) ?_ _
    obtain ⟨-, Z1, Z2, Z3⟩ := X.fin (ndC ({ n with run := 0 }) (p)) (hpC 0 zF none 0)
    go_wp2_with fail
    refine bodyPost_ret (v := .tuple #[ndV ({ n with run := 0 }) (p), hpV 0 zF none 0]) ?_ rfl ⟨_, ⟨rfl, Z3⟩, .inl ⟨rfl, rfl⟩⟩
    exact results_both Tryz.results162 _ _ gr gh _ _ rfl rfl Z1 Z2 rfl rfl
  by_cases h11 : n.run + 1 < 11
  · have e : offN n 1 = ({ n with run := n.run + 1 }, 0, zF) := by unfold offN; rw [if_neg (by decide), if_pos h11]
    rw [e]
    clear e
    have hd : decide (n.run + 1 < 11) = true := decide_eq_true h11
    have X := N3.made (ndC n p) w
    go_enter Tryz.func162, Tryz.ntmps162
    go_upto_region 1 with fail
    generalize World.alloc _ _ = W at X ⊢
    generalize w.heap.size + 1 + 1 = gh at X ⊢
    generalize w.heap.size + 1 = gr at X ⊢
    generalize w.heap.size = g at X ⊢
    have c9 : W.cell? ⟨g, 9, none⟩ = some (.int .i64 n.run) := X.cell 9
    have f9 := X.free 9
    go_upto_region 6 with fail
    clear c9 f9
    replace X : N3 g gr gh (ndC ({ n with run := n.run + 1 }) p) w _ := (X.set 9 (.int .i64 (n.run + 1)))
    generalize World.setCell _ _ _ = W1 at X ⊢
    refine wp_region_held (S := fun u => Nx g ({ n with run := n.run + 1 }) (p) w u) (by kernel_rfl) ?_
    replace X := X.drew'
    generalize ({ W1 with drawn := W1.drawn + 1 } : World) = V at X ⊢
    refine take_at 0 _ (ndV ({ n with run := n.run + 1 }) (p)) rfl rfl (by kernel_rfl) (by kernel_rfl) (by kernel_rfl) (fun _ _ _ h => h) (.inl ⟨rfl, fun u hu => hu.took rfl rfl⟩) X.nx ?_
    simp only [Act.put, List.setIfInBounds_toArray, List.set_cons_zero, List.set_cons_succ]
    refine call_at 1 _ 158 #[.int .i64 0] rfl rfl (by kernel_rfl) rfl (by go_simp) ?_
    refine (specHappen 0 _).mono ?_
    rintro e wh ⟨rfl, b⟩
    replace X := X.below b
    clear b
    refine ⟨_, rfl, X.nx, ?_⟩
    simp only [Act.put, List.setIfInBounds_toArray, List.set_cons_zero, List.set_cons_succ]
    refine held_row 2 gr (ndC ({ n with run := n.run + 1 }) (p)) rfl (by kernel_rfl) rfl rfl rfl rfl rfl X.res (by kernel_rfl) rfl (ndC_one _ _) (X.nxR _) ?_
    refine held_row 3 gh (hpC 0 zF none 0) rfl (by kernel_rfl) rfl rfl rfl rfl rfl (X.fin _ #[]).1 (by kernel_rfl) rfl (hpC_one _ _ _ _) (X.nxH _ _) ?_
    refine wpAnyH_done (by kernel_rfl) ?_ _
    obtain ⟨-, Z1, Z2, Z3⟩ := X.fin (ndC ({ n with run := n.run + 1 }) (p)) (hpC 0 zF none 0)
    go_wp2_with fail
    refine bodyPost_ret (v := .tuple #[ndV ({ n with run := n.run + 1 }) (p), hpV 0 zF none 0]) ?_ rfl ⟨_, ⟨rfl, Z3⟩, .inl ⟨rfl, rfl⟩⟩
    exact results_both Tryz.results162 _ _ gr gh _ _ rfl rfl Z1 Z2 rfl rfl
  have hd : decide (n.run + 1 < 11) = false := decide_eq_false h11
  by_cases hp : 0 < n.left - 1
  · have e : offN n 1 = ({ n with run := 0, left := n.left - 1 }, 0, zF) := by unfold offN; rw [if_neg (by decide), if_neg h11, if_pos hp]
    rw [e]
    clear e
    have hd2 : decide (0 < n.left - 1) = true := decide_eq_true hp
    have X := N3.made (ndC n p) w
    go_enter Tryz.func162, Tryz.ntmps162
    go_upto_region 1 with fail
    generalize World.alloc _ _ = W at X ⊢
    generalize w.heap.size + 1 + 1 = gh at X ⊢
    generalize w.heap.size + 1 = gr at X ⊢
    generalize w.heap.size = g at X ⊢
    have c9 : W.cell? ⟨g, 9, none⟩ = some (.int .i64 n.run) := X.cell 9
    have c12 : W.cell? ⟨g, 12, none⟩ = some (.int .i64 n.left) := X.cell 12
    have f9 := X.free 9
    have f12 := X.free 12
    go_upto_region 10 with fail
    clear c9 c12 f9 f12
    replace X : N3 g gr gh (ndC ({ n with run := 0, left := n.left - 1 }) p) w _ := (((X.set 9 (.int .i64 (n.run + 1))).set 9 (.int .i64 0)).set 12 (.int .i64 (n.left - 1)))
    generalize World.setCell _ _ _ = W1 at X ⊢
    refine wp_region_held (S := fun u => Nx g ({ n with run := 0, left := n.left - 1 }) (p) w u) (by kernel_rfl) ?_
    replace X := X.drew'
    generalize ({ W1 with drawn := W1.drawn + 1 } : World) = V at X ⊢
    refine take_at 0 _ (ndV ({ n with run := 0, left := n.left - 1 }) (p)) rfl rfl (by kernel_rfl) (by kernel_rfl) (by kernel_rfl) (fun _ _ _ h => h) (.inl ⟨rfl, fun u hu => hu.took rfl rfl⟩) X.nx ?_
    simp only [Act.put, List.setIfInBounds_toArray, List.set_cons_zero, List.set_cons_succ]
    refine call_at 1 _ 158 #[.int .i64 0] rfl rfl (by kernel_rfl) rfl (by go_simp) ?_
    refine (specHappen 0 _).mono ?_
    rintro e wh ⟨rfl, b⟩
    replace X := X.below b
    clear b
    refine ⟨_, rfl, X.nx, ?_⟩
    simp only [Act.put, List.setIfInBounds_toArray, List.set_cons_zero, List.set_cons_succ]
    refine held_row 2 gr (ndC ({ n with run := 0, left := n.left - 1 }) (p)) rfl (by kernel_rfl) rfl rfl rfl rfl rfl X.res (by kernel_rfl) rfl (ndC_one _ _) (X.nxR _) ?_
    refine held_row 3 gh (hpC 0 zF none 0) rfl (by kernel_rfl) rfl rfl rfl rfl rfl (X.fin _ #[]).1 (by kernel_rfl) rfl (hpC_one _ _ _ _) (X.nxH _ _) ?_
    refine wpAnyH_done (by kernel_rfl) ?_ _
    obtain ⟨-, Z1, Z2, Z3⟩ := X.fin (ndC ({ n with run := 0, left := n.left - 1 }) (p)) (hpC 0 zF none 0)
    go_wp2_with fail
    refine bodyPost_ret (v := .tuple #[ndV ({ n with run := 0, left := n.left - 1 }) (p), hpV 0 zF none 0]) ?_ rfl ⟨_, ⟨rfl, Z3⟩, .inl ⟨rfl, rfl⟩⟩
    exact results_both Tryz.results162 _ _ gr gh _ _ rfl rfl Z1 Z2 rfl rfl
  · have e : offN n 1 = ({ n with run := 0, left := 0, cs := 0, cg := 0, ph := 0, tx := false, mild := false, fr := zF }, 6, zF) := by unfold offN; rw [if_neg (by decide), if_neg h11, if_neg hp]
    rw [e]
    clear e
    have hd2 : decide (0 < n.left - 1) = false := decide_eq_false hp
    have X := N3.made (ndC n p) w
    go_enter Tryz.func162, Tryz.ntmps162
    go_upto_region 1 with fail
    generalize World.alloc _ _ = W at X ⊢
    generalize w.heap.size + 1 + 1 = gh at X ⊢
    generalize w.heap.size + 1 = gr at X ⊢
    generalize w.heap.size = g at X ⊢
    have c0 : W.cell? ⟨g, 0, none⟩ = some (.int .i64 n.ph) := X.cell 0
    have c1 : W.cell? ⟨g, 1, none⟩ = some (.bool n.tx) := X.cell 1
    have c2 : W.cell? ⟨g, 2, none⟩ = some (.bool n.mild) := X.cell 2
    have c4 : W.cell? ⟨g, 4, none⟩ = some (.int .i64 n.fr.id) := X.cell 4
    have c5 : W.cell? ⟨g, 5, none⟩ = some (.bool n.fr.rm) := X.cell 5
    have c6 : W.cell? ⟨g, 6, none⟩ = some (.int .i64 n.fr.ln) := X.cell 6
    have c7 : W.cell? ⟨g, 7, none⟩ = some (.slice p.ad n.fr.D.length p.cd) := X.cell 7
    have c9 : W.cell? ⟨g, 9, none⟩ = some (.int .i64 n.run) := X.cell 9
    have c12 : W.cell? ⟨g, 12, none⟩ = some (.int .i64 n.left) := X.cell 12
    have c13 : W.cell? ⟨g, 13, none⟩ = some (.int .i64 n.cs) := X.cell 13
    have c14 : W.cell? ⟨g, 14, none⟩ = some (.int .i64 n.cg) := X.cell 14
    have f0 := X.free 0
    have f1 := X.free 1
    have f2 := X.free 2
    have f4 := X.free 4
    have f5 := X.free 5
    have f6 := X.free 6
    have f7 := X.free 7
    have f9 := X.free 9
    have f12 := X.free 12
    have f13 := X.free 13
    have f14 := X.free 14
    go_upto_region 17 with fail
    clear c0 c1 c2 c4 c5 c6 c7 c9 c12 c13 c14 f0 f1 f2 f4 f5 f6 f7 f9 f12 f13 f14
    replace X : N3 g gr gh (ndC ({ n with run := 0, left := 0 }) p) w _ := ((((X.set 9 (.int .i64 (n.run + 1))).set 9 (.int .i64 0)).set 12 (.int .i64 (n.left - 1))).set 12 (.int .i64 0))
    replace X : N3 g gr gh (ndC ({ n with run := 0, left := 0, cs := 0, cg := 0, ph := 0, tx := false }) p) w _ := ((((X.set 13 (.int .i64 0)).set 14 (.int .i64 0)).set 0 (.int .i64 0)).set 1 (.bool false))
    replace X : N3 g gr gh (ndC ({ n with run := 0, left := 0, cs := 0, cg := 0, ph := 0, tx := false, mild := false, fr := zF }) { p with ad := none, cd := 0 }) w _ := (((((X.set 2 (.bool false)).set 4 (.int .i64 0)).set 5 (.bool false)).set 6 (.int .i64 0)).set 7 (.slice none 0 0))
    generalize World.setCell _ _ _ = W1 at X ⊢
    refine wp_region_held (S := fun u => Nx g ({ n with run := 0, left := 0, cs := 0, cg := 0, ph := 0, tx := false, mild := false, fr := zF }) ({ p with ad := none, cd := 0 }) w u) (by kernel_rfl) ?_
    replace X := X.drew'
    generalize ({ W1 with drawn := W1.drawn + 1 } : World) = V at X ⊢
    refine take_at 0 _ (ndV ({ n with run := 0, left := 0, cs := 0, cg := 0, ph := 0, tx := false, mild := false, fr := zF }) ({ p with ad := none, cd := 0 })) rfl rfl (by kernel_rfl) (by kernel_rfl) (by kernel_rfl) (fun _ _ _ h => h) (.inl ⟨rfl, fun u hu => hu.took rfl rfl⟩) X.nx ?_
    simp only [Act.put, List.setIfInBounds_toArray, List.set_cons_zero, List.set_cons_succ]
    refine call_at 1 _ 158 #[.int .i64 6] rfl rfl (by kernel_rfl) rfl (by go_simp) ?_
    refine (specHappen 6 _).mono ?_
    rintro e wh ⟨rfl, b⟩
    replace X := X.below b
    clear b
    refine ⟨_, rfl, X.nx, ?_⟩
    simp only [Act.put, List.setIfInBounds_toArray, List.set_cons_zero, List.set_cons_succ]
    refine held_row 2 gr (ndC ({ n with run := 0, left := 0, cs := 0, cg := 0, ph := 0, tx := false, mild := false, fr := zF }) ({ p with ad := none, cd := 0 })) rfl (by kernel_rfl) rfl rfl rfl rfl rfl X.res (by kernel_rfl) rfl (ndC_one _ _) (X.nxR _) ?_
    refine held_row 3 gh (hpC 6 zF none 0) rfl (by kernel_rfl) rfl rfl rfl rfl rfl (X.fin _ #[]).1 (by kernel_rfl) rfl (hpC_one _ _ _ _) (X.nxH _ _) ?_
    refine wpAnyH_done (by kernel_rfl) ?_ _
    obtain ⟨-, Z1, Z2, Z3⟩ := X.fin (ndC ({ n with run := 0, left := 0, cs := 0, cg := 0, ph := 0, tx := false, mild := false, fr := zF }) ({ p with ad := none, cd := 0 })) (hpC 6 zF none 0)
    go_wp2_with fail
    refine bodyPost_ret (v := .tuple #[ndV ({ n with run := 0, left := 0, cs := 0, cg := 0, ph := 0, tx := false, mild := false, fr := zF }) ({ p with ad := none, cd := 0 }), hpV 6 zF none 0]) ?_ rfl ⟨_, ⟨rfl, Z3⟩, .inr ⟨rfl, rfl⟩⟩
    exact results_both Tryz.results162 _ _ gr gh _ _ rfl rfl Z1 Z2 rfl rfl
end Go.Proofs.YtngcekegngmedaaGreatDoor

/- The model's steps of a node: what is heard, the tail, the body. -/

set_option linter.unusedVariables false
set_option linter.unusedSimpArgs false
set_option maxRecDepth 20000
namespace Go.Proofs.YtngcekegngmedaaGreatDoor
open Go.RowKit


/-- What a step of the model answers: it stands wherever what has been made since stands, and the argument. -/
def SampY (n : Nd) (p : NdP) (r : Nd × Int × Frm) (w : World) (e : Ending) (w' : World) : Prop :=
  ∃ (p' : NdP) (ad : Option Addr) (cd : Nat), e = .returned (.tuple #[ndV r.1 p', hpV r.2.1 r.2.2 ad cd]) ∧ (∀ u, Up w.heap.size w' u → NdM n p u → NdM r.1 p' u ∧ Nums ad r.2.2.D u) ∧ Below w.heap.size w w'

set_option maxHeartbeats 16000000 in
/-- spec.l12Heard. -/
theorem specHeard (n : Nd) (p : NdP) (w : World) (hm : NdM n p w) (h9 : n.pos = 9) (h32 : n.fifo.length ≤ 32) (hs8 : ∀ j, j < n.fifo.length → (nthF n.fifo j).D.length ≤ 1048576) :
    Calls Tryz.prog 213 #[ndV n p] w (SampY n p (heardN n) w) := by
  replace h9 := Lib.hid h9
  generalize hca : gwA n.cs n.cg = ca at *
  generalize hcb : gwB n.cs n.cg = cb at *
  replace hca := Lib.hid hca
  replace hcb := Lib.hid hcb
  have X := N3.made (ndC n p) w
  go_enter Tryz.func213, Tryz.ntmps213
  go_upto_region 1 with fail
  generalize World.alloc _ _ = W at X ⊢
  generalize w.heap.size + 1 + 1 = gh at X ⊢
  generalize w.heap.size + 1 = gr at X ⊢
  generalize w.heap.size = g at X ⊢
  have c13 : W.cell? ⟨g, 13, none⟩ = some (.int .i64 n.cs) := X.cell 13
  have c14 : W.cell? ⟨g, 14, none⟩ = some (.int .i64 n.cg) := X.cell 14
  go_wp2_with fail
  refine (specGotWell _ _ _).mono ?_
  rintro e w2 ⟨rfl, b⟩
  rw [hca.out, hcb.out]
  replace X := X.below b
  clear b c13 c14
  have c13 : w2.cell? ⟨g, 13, none⟩ = some (.int .i64 n.cs) := X.cell 13
  have c14 : w2.cell? ⟨g, 14, none⟩ = some (.int .i64 n.cg) := X.cell 14
  have f13 := X.free 13
  have f14 := X.free 14
  go_upto_region 2 with fail
  clear c13 c14 f13 f14
  replace X : N3 g gr gh (ndC ({ n with cs := ca, cg := cb }) p) w _ := ((X.set 13 (.int .i64 ca)).set 14 (.int .i64 cb))
  generalize World.setCell _ _ _ = W3 at X ⊢
  have c8 : W3.cell? ⟨g, 8, none⟩ = some (.string n.got) := X.cell 8
  have hB := X.lt
  have hs3 := X.bel.size
  go_wp2_with fail
  refine (specRead n.got _ hm.size).mono ?_
  rintro e w4 ⟨v, rfl, O, b⟩
  obtain ⟨av, cv, rfl, -⟩ := O.nums
  replace X := X.below b
  clear b c8
  have hgf : w4.heap.size ≠ g ∧ w4.heap.size ≠ gr ∧ w4.heap.size ≠ gh := by have := X.lt; omega
  have BF := Bx.made w4 (.int .i64 (rdId n.got)) (.bool (rdRm n.got)) (.int .i64 (rdLn n.got)) (.slice av (rdD n.got).length cv)
  have bb := below_more (Below.refl w4.heap.size w4) (.cells #[.int .i64 (rdId n.got), .bool (rdRm n.got), .int .i64 (rdLn n.got), .slice av (rdD n.got).length cv] 26)
  replace X := X.below bb
  replace O := O.below' bb
  clear bb
  go_upto_region 3 with fail
  generalize w4.alloc _ = W6 at X BF O ⊢
  generalize w4.heap.size = gf at hgf BF ⊢
  have d0 := BF.c0
  have c17 : W6.cell? ⟨g, 17, none⟩ = some (.slice p.al n.flt.length p.cl) := X.cell 17
  go_wp2_with fail
  refine (specPasses p.al n.flt p.cl (rdId n.got) _ (hm.below X.bel).flt).mono ?_
  rintro e w7 ⟨rfl, b⟩
  replace X := X.below b
  replace BF := BF.below b
  replace O := O.below' b
  clear b c17 d0
  cases hp : passV n.flt (rdId n.got)
  · have e : heardN n = ({ n with cs := ca, cg := cb }, 0, zF) := by unfold heardN; rw [if_neg (by rw [show (rdF n.got).id = rdId n.got from rfl, hp]; decide), hca.out, hcb.out, ← h9.out]
    replace e := Lib.hid e
    clear hp
    go_upto_region 4 with fail
    refine wp_region_held (S := fun u => Nx g ({ n with cs := ca, cg := cb }) (p) w u) (by kernel_rfl) ?_
    replace X := X.drew'
    generalize ({ w7 with drawn := w7.drawn + 1 } : World) = V at X ⊢
    refine take_at 0 _ (ndV ({ n with cs := ca, cg := cb }) (p)) rfl rfl (by kernel_rfl) (by kernel_rfl) (by kernel_rfl) (fun _ _ _ h => h) (.inl ⟨rfl, fun u hu => hu.took rfl rfl⟩) X.nx ?_
    simp only [Act.put, List.setIfInBounds_toArray, List.set_cons_zero, List.set_cons_succ]
    refine call_at 1 _ 158 #[.int .i64 0] rfl rfl (by kernel_rfl) rfl (by go_simp) ?_
    refine (specHappen 0 _).mono ?_
    rintro e wh ⟨rfl, b⟩
    replace X := X.below b
    clear b
    refine ⟨_, rfl, X.nx, ?_⟩
    simp only [Act.put, List.setIfInBounds_toArray, List.set_cons_zero, List.set_cons_succ]
    refine held_row 2 gr (ndC ({ n with cs := ca, cg := cb }) (p)) rfl (by kernel_rfl) rfl rfl rfl rfl rfl X.res (by kernel_rfl) rfl (ndC_one _ _) (X.nxR _) ?_
    refine held_row 3 gh (hpC 0 zF none 0) rfl (by kernel_rfl) rfl rfl rfl rfl rfl (X.fin _ #[]).1 (by kernel_rfl) rfl (hpC_one _ _ _ _) (X.nxH _ _) ?_
    refine wpAnyH_done (by kernel_rfl) ?_ _
    obtain ⟨-, Z1, Z2, Z3⟩ := X.fin (ndC ({ n with cs := ca, cg := cb }) (p)) (hpC 0 zF none 0)
    go_wp2_with fail
    refine bodyPost_ret (v := .tuple #[ndV ({ n with cs := ca, cg := cb }) (p), hpV 0 zF none 0]) ?_ rfl ⟨p, none, 0, by rw [e.out], by rw [e.out]; exact fun u k kn => ⟨kn.lists rfl rfl rfl rfl hm.size, Nums.nil _⟩, Z3⟩
    exact results_both Tryz.results213 _ _ gr gh _ _ rfl rfl Z1 Z2 rfl rfl
  · have c16 : w7.cell? ⟨g, 16, none⟩ = some (.slice p.af n.fifo.length p.cf) := X.cell 16
    obtain ⟨d0, d1, d2, d3⟩ : _ ∧ _ ∧ _ ∧ _ := ⟨BF.c0, BF.c1, BF.c2, BF.c3⟩
    replace hp := Lib.hid hp
    have hB7 := X.lt
    have hs7 := X.bel.size
    go_wp2_with fail
    refine (specPushedIn p.af n.fifo p.cf (rdId n.got) (rdRm n.got) (rdLn n.got) av (rdD n.got) cv _ (hm.below X.bel).fifo O.nums2 (by omega) hs8).mono ?_
    intro e w8 h8
    obtain ⟨M, a6, c6, he, hM, O6, b⟩ := h8
    replace X := X.below b
    replace BF := BF.below b
    replace O := O.below' b
    clear b c16 d0 d1 d2 d3
    obtain ⟨pf, pk, hq⟩ : ∃ pf pk, pushV n.fifo ⟨rdId n.got, rdRm n.got, rdLn n.got, rdD n.got⟩ = (pf, pk) := ⟨_, _, rfl⟩
    rw [hq] at he hM O6
    dsimp only at he hM O6
    subst he
    have hpl : pf.length ≤ 2000000 := by have := pushV_more n.fifo ⟨rdId n.got, rdRm n.got, rdLn n.got, rdD n.got⟩; rw [hq] at this; dsimp only at this; omega
    have c16 : w8.cell? ⟨g, 16, none⟩ = some (.slice p.af n.fifo.length p.cf) := X.cell 16
    have f16 := X.free 16
    go_upto_region 7 with fail
    clear c16 f16
    replace BF := BF.cellSet (j := 16) (.slice (some ⟨a6, 0, none⟩) pf.length c6) hgf.1
    replace O := O.kept2 (grown_at_cell w8 g 16 (.slice (some ⟨a6, 0, none⟩) pf.length c6)) hB.1
    replace O6 := O6.kept2 (grown_at_cell w8 g 16 (.slice (some ⟨a6, 0, none⟩) pf.length c6)) hB7.1
    replace X : N3 g gr gh (ndC { n with cs := ca, cg := cb, fifo := pf } { p with af := some ⟨a6, 0, none⟩, cf := c6 }) w _ := X.set 16 (.slice (some ⟨a6, 0, none⟩) pf.length c6)
    generalize World.setCell _ _ _ = W9 at X BF O O6 ⊢
    have hdr : Below W9.heap.size W9 ({ W9 with drawn := W9.drawn + 1 } : World) := (Below.refl _ _).drew
    replace O := O.below' hdr
    replace O6 := O6.below hdr
    clear hdr
    cases pk
    · have e : heardN n = ({ n with cs := ca, cg := cb, fifo := pf }, 3, rdF n.got) := by unfold heardN; rw [if_pos (by rw [show (rdF n.got).id = rdId n.got from rfl, hp.out]), hca.out, hcb.out, show pushV n.fifo (rdF n.got) = (pf, false) from hq, ← h9.out]; rfl
      replace e := Lib.hid e
      go_upto_region 8 with fail
      refine wp_region_held (S := fun u => Nx g ({ n with cs := ca, cg := cb, fifo := pf }) ({ p with af := some ⟨a6, 0, none⟩, cf := c6 }) w u ∧ Bx gf (.int .i64 (rdF n.got).id) (.bool (rdF n.got).rm) (.int .i64 (rdF n.got).ln) (.slice av (rdF n.got).D.length cv) u) (by kernel_rfl) ?_
      replace X := X.drew'
      replace BF : Bx gf (.int .i64 (rdF n.got).id) (.bool (rdF n.got).rm) (.int .i64 (rdF n.got).ln) (.slice av (rdF n.got).D.length cv) { W9 with drawn := W9.drawn + 1 } := BF
      generalize ({ W9 with drawn := W9.drawn + 1 } : World) = W at *
      refine take_at 0 _ (ndV ({ n with cs := ca, cg := cb, fifo := pf }) ({ p with af := some ⟨a6, 0, none⟩, cf := c6 })) rfl rfl (by kernel_rfl) (by kernel_rfl) (by kernel_rfl) (fun _ _ _ h => h) (.inl ⟨rfl, fun u hu => hu.1.took rfl rfl⟩) ⟨X.nx, BF⟩ ?_
      refine take_at 1 _ (.agg #[.int .i64 (rdF n.got).id, .bool (rdF n.got).rm, .int .i64 (rdF n.got).ln, .slice av (rdF n.got).D.length cv]) rfl rfl (by kernel_rfl) (by kernel_rfl) (by kernel_rfl) (fun _ _ _ h => h) (.inl ⟨rfl, fun u hu => hu.2.took rfl rfl⟩) ⟨X.nx, BF⟩ ?_
      simp only [Act.put, List.setIfInBounds_toArray, List.set_cons_zero, List.set_cons_succ]
      refine take_at 2 _ (hpV 3 (rdF n.got) av cv) rfl rfl (by kernel_rfl) (by kernel_rfl) (by kernel_rfl) (fun _ _ _ h => h) (.inl ⟨rfl, fun u hu => by go_simp⟩) ⟨X.nx, BF⟩ ?_
      simp only [Act.put, List.setIfInBounds_toArray, List.set_cons_zero, List.set_cons_succ]
      refine held_row 3 gr (ndC ({ n with cs := ca, cg := cb, fifo := pf }) ({ p with af := some ⟨a6, 0, none⟩, cf := c6 })) rfl (by kernel_rfl) rfl rfl rfl rfl rfl X.res (by kernel_rfl) rfl (ndC_one _ _) ⟨X.nxR _, BF.row _ hgf.2.1⟩ ?_
      refine held_row 4 gh (hpC 3 (rdF n.got) av cv) rfl (by kernel_rfl) rfl rfl rfl rfl rfl (X.fin _ #[]).1 (by kernel_rfl) rfl (hpC_one _ _ _ _) ⟨X.nxH _ _, (BF.row _ hgf.2.1).row _ hgf.2.2⟩ ?_
      refine wpAnyH_done (by kernel_rfl) ?_ _
      obtain ⟨-, Z1, Z2, Z3⟩ := X.fin (ndC ({ n with cs := ca, cg := cb, fifo := pf }) ({ p with af := some ⟨a6, 0, none⟩, cf := c6 })) (hpC 3 (rdF n.got) av cv)
      go_wp2_with fail
      refine bodyPost_ret (v := .tuple #[ndV ({ n with cs := ca, cg := cb, fifo := pf }) ({ p with af := some ⟨a6, 0, none⟩, cf := c6 }), hpV 3 (rdF n.got) av cv]) ?_ rfl ⟨{ p with af := some ⟨a6, 0, none⟩, cf := c6 }, av, cv, by rw [e.out], by rw [e.out]; exact fun u k kn => ⟨⟨kn.nums, kn.box, (((O6.kept2 (grown_row _ gr _) hB7.2.1).kept2 (grown_row _ gh _) hB7.2.2).up k hs7).frsOf hM hpl, kn.flt, hm.size⟩, (((O.kept2 (grown_row _ gr _) hB.2.1).kept2 (grown_row _ gh _) hB.2.2).up k hs3).nums2⟩, Z3⟩
      exact results_both Tryz.results213 _ _ gr gh _ _ rfl rfl Z1 Z2 rfl rfl
    · have e : heardN n = ({ n with cs := ca, cg := cb, fifo := pf }, 2, rdF n.got) := by unfold heardN; rw [if_pos (by rw [show (rdF n.got).id = rdId n.got from rfl, hp.out]), hca.out, hcb.out, show pushV n.fifo (rdF n.got) = (pf, true) from hq, ← h9.out]; rfl
      replace e := Lib.hid e
      go_upto_region 9 with fail
      refine wp_region_held (S := fun u => Nx g ({ n with cs := ca, cg := cb, fifo := pf }) ({ p with af := some ⟨a6, 0, none⟩, cf := c6 }) w u ∧ Bx gf (.int .i64 (rdF n.got).id) (.bool (rdF n.got).rm) (.int .i64 (rdF n.got).ln) (.slice av (rdF n.got).D.length cv) u) (by kernel_rfl) ?_
      replace X := X.drew'
      replace BF : Bx gf (.int .i64 (rdF n.got).id) (.bool (rdF n.got).rm) (.int .i64 (rdF n.got).ln) (.slice av (rdF n.got).D.length cv) { W9 with drawn := W9.drawn + 1 } := BF
      generalize ({ W9 with drawn := W9.drawn + 1 } : World) = W at *
      refine take_at 0 _ (ndV ({ n with cs := ca, cg := cb, fifo := pf }) ({ p with af := some ⟨a6, 0, none⟩, cf := c6 })) rfl rfl (by kernel_rfl) (by kernel_rfl) (by kernel_rfl) (fun _ _ _ h => h) (.inl ⟨rfl, fun u hu => hu.1.took rfl rfl⟩) ⟨X.nx, BF⟩ ?_
      refine take_at 1 _ (.agg #[.int .i64 (rdF n.got).id, .bool (rdF n.got).rm, .int .i64 (rdF n.got).ln, .slice av (rdF n.got).D.length cv]) rfl rfl (by kernel_rfl) (by kernel_rfl) (by kernel_rfl) (fun _ _ _ h => h) (.inl ⟨rfl, fun u hu => hu.2.took rfl rfl⟩) ⟨X.nx, BF⟩ ?_
      simp only [Act.put, List.setIfInBounds_toArray, List.set_cons_zero, List.set_cons_succ]
      refine take_at 2 _ (hpV 2 (rdF n.got) av cv) rfl rfl (by kernel_rfl) (by kernel_rfl) (by kernel_rfl) (fun _ _ _ h => h) (.inl ⟨rfl, fun u hu => by go_simp⟩) ⟨X.nx, BF⟩ ?_
      simp only [Act.put, List.setIfInBounds_toArray, List.set_cons_zero, List.set_cons_succ]
      refine held_row 3 gr (ndC ({ n with cs := ca, cg := cb, fifo := pf }) ({ p with af := some ⟨a6, 0, none⟩, cf := c6 })) rfl (by kernel_rfl) rfl rfl rfl rfl rfl X.res (by kernel_rfl) rfl (ndC_one _ _) ⟨X.nxR _, BF.row _ hgf.2.1⟩ ?_
      refine held_row 4 gh (hpC 2 (rdF n.got) av cv) rfl (by kernel_rfl) rfl rfl rfl rfl rfl (X.fin _ #[]).1 (by kernel_rfl) rfl (hpC_one _ _ _ _) ⟨X.nxH _ _, (BF.row _ hgf.2.1).row _ hgf.2.2⟩ ?_
      refine wpAnyH_done (by kernel_rfl) ?_ _
      obtain ⟨-, Z1, Z2, Z3⟩ := X.fin (ndC ({ n with cs := ca, cg := cb, fifo := pf }) ({ p with af := some ⟨a6, 0, none⟩, cf := c6 })) (hpC 2 (rdF n.got) av cv)
      go_wp2_with fail
      refine bodyPost_ret (v := .tuple #[ndV ({ n with cs := ca, cg := cb, fifo := pf }) ({ p with af := some ⟨a6, 0, none⟩, cf := c6 }), hpV 2 (rdF n.got) av cv]) ?_ rfl ⟨{ p with af := some ⟨a6, 0, none⟩, cf := c6 }, av, cv, by rw [e.out], by rw [e.out]; exact fun u k kn => ⟨⟨kn.nums, kn.box, (((O6.kept2 (grown_row _ gr _) hB7.2.1).kept2 (grown_row _ gh _) hB7.2.2).up k hs7).frsOf hM hpl, kn.flt, hm.size⟩, (((O.kept2 (grown_row _ gr _) hB.2.1).kept2 (grown_row _ gh _) hB.2.2).up k hs3).nums2⟩, Z3⟩
      exact results_both Tryz.results213 _ _ gr gh _ _ rfl rfl Z1 Z2 rfl rfl
end Go.Proofs.YtngcekegngmedaaGreatDoor
