/- The model's steps of a node: the tail. -/
import Derived.Test.YtngcekegngmedaaGreatDoorM41
import Derived.Test.YtngcekegngmedaaGreatDoorM28
import Derived.Test.YtngcekegngmedaaGreatDoorM9
import Derived.Test.YtngcekegngmedaaGreatDoorM39

set_option linter.unusedVariables false
set_option linter.unusedSimpArgs false
set_option maxRecDepth 20000
namespace Go.Proofs.YtngcekegngmedaaGreatDoor
open Go.RowKit


set_option maxHeartbeats 8000000 in
/-- spec.l12Tail, where it breaks off. -/
theorem specTailB0 (n : Nd) (p : NdP) (w : World) (hq : n.pos = 1) (htx : n.tx = true) :
    Calls Tryz.prog 161 #[ndV n p, .int .i64 1] w (Told (brkN n).1 (brkN n).2.1 p w) := by
  have d1 : (n.pos == 1) = true := beq_iff_eq.2 hq
  have d2 : (n.pos == 2) = false := beq_eq_false_iff_ne.2 (by omega)
  have d9 : (n.pos == 9) = false := beq_eq_false_iff_ne.2 (by omega)
  replace htx := Lib.hid htx
  replace hq := Lib.hid hq
  have X := N3.made (ndC n p) w
  go_enter Tryz.func161, Tryz.ntmps161
  go_upto_region 1 with fail
  generalize World.alloc _ _ = W at X ⊢
  generalize w.heap.size + 1 + 1 = gh at X ⊢
  generalize w.heap.size + 1 = gr at X ⊢
  generalize w.heap.size = g at X ⊢
  have c1 : W.cell? ⟨g, 1, none⟩ = some (.bool n.tx) := X.cell 1
  have c3 : W.cell? ⟨g, 3, none⟩ = some (.bool n.bad) := X.cell 3
  have c11 : W.cell? ⟨g, 11, none⟩ = some (.int .i64 n.pos) := X.cell 11
  have f11 := X.free 11
  rw [htx.out] at c1
  go_wp2_with (refine Nx.take ⟨X.blk, X.bel⟩ rfl rfl rfl ?_)
  clear c1 c3 c11 f11
  refine (specBreak n p _).mono ?_
  rintro e w2 ⟨rfl, b⟩
  replace X := X.below b
  clear b
  go_wp2_with (first | (refine Nx.take ⟨X.blk, X.bel⟩ rfl rfl rfl ?_) | (refine wpList_put X.res rfl rfl rfl rfl rfl ?_) | (refine wpList_tell (k := (brkN n).2.1) (f := zF) (ad := none) (cd := 0) (X.fin (ndC ((brkN n).1) p) #[]).1 rfl rfl rfl rfl rfl ?_))
  obtain ⟨-, Z1, Z2, Z3⟩ := X.fin (ndC ((brkN n).1) p) (hpC ((brkN n).2.1) (zF) (none) (0))
  refine bodyPost_ret (v := .tuple #[ndV ((brkN n).1) p, hpV ((brkN n).2.1) (zF) (none) (0)]) ?_ rfl ⟨rfl, Z3⟩
  exact results_both Tryz.results161 _ _ gr gh _ _ rfl rfl Z1 Z2 rfl rfl

set_option maxHeartbeats 8000000 in
/-- spec.l12Tail, where it breaks off. -/
theorem specTailB1 (n : Nd) (p : NdP) (w : World) (hq : n.pos = 2) :
    Calls Tryz.prog 161 #[ndV n p, .int .i64 0] w (Told (brkN n).1 (brkN n).2.1 p w) := by
  have d1 : (n.pos == 1) = false := beq_eq_false_iff_ne.2 (by omega)
  have d2 : (n.pos == 2) = true := beq_iff_eq.2 hq
  have d9 : (n.pos == 9) = false := beq_eq_false_iff_ne.2 (by omega)
  replace hq := Lib.hid hq
  have X := N3.made (ndC n p) w
  go_enter Tryz.func161, Tryz.ntmps161
  go_upto_region 1 with fail
  generalize World.alloc _ _ = W at X ⊢
  generalize w.heap.size + 1 + 1 = gh at X ⊢
  generalize w.heap.size + 1 = gr at X ⊢
  generalize w.heap.size = g at X ⊢
  have c1 : W.cell? ⟨g, 1, none⟩ = some (.bool n.tx) := X.cell 1
  have c3 : W.cell? ⟨g, 3, none⟩ = some (.bool n.bad) := X.cell 3
  have c11 : W.cell? ⟨g, 11, none⟩ = some (.int .i64 n.pos) := X.cell 11
  have f11 := X.free 11
  go_wp2_with (refine Nx.take ⟨X.blk, X.bel⟩ rfl rfl rfl ?_)
  clear c1 c3 c11 f11
  refine (specBreak n p _).mono ?_
  rintro e w2 ⟨rfl, b⟩
  replace X := X.below b
  clear b
  go_wp2_with (first | (refine Nx.take ⟨X.blk, X.bel⟩ rfl rfl rfl ?_) | (refine wpList_put X.res rfl rfl rfl rfl rfl ?_) | (refine wpList_tell (k := (brkN n).2.1) (f := zF) (ad := none) (cd := 0) (X.fin (ndC ((brkN n).1) p) #[]).1 rfl rfl rfl rfl rfl ?_))
  obtain ⟨-, Z1, Z2, Z3⟩ := X.fin (ndC ((brkN n).1) p) (hpC ((brkN n).2.1) (zF) (none) (0))
  refine bodyPost_ret (v := .tuple #[ndV ((brkN n).1) p, hpV ((brkN n).2.1) (zF) (none) (0)]) ?_ rfl ⟨rfl, Z3⟩
  exact results_both Tryz.results161 _ _ gr gh _ _ rfl rfl Z1 Z2 rfl rfl

set_option maxHeartbeats 8000000 in
/-- spec.l12Tail, where it breaks off. -/
theorem specTailB2 (n : Nd) (p : NdP) (w : World) (hq : n.pos = 2) (hbd : n.bad = true) :
    Calls Tryz.prog 161 #[ndV n p, .int .i64 1] w (Told (brkN n).1 (brkN n).2.1 p w) := by
  have d1 : (n.pos == 1) = false := beq_eq_false_iff_ne.2 (by omega)
  have d2 : (n.pos == 2) = true := beq_iff_eq.2 hq
  have d9 : (n.pos == 9) = false := beq_eq_false_iff_ne.2 (by omega)
  replace hbd := Lib.hid hbd
  replace hq := Lib.hid hq
  have X := N3.made (ndC n p) w
  go_enter Tryz.func161, Tryz.ntmps161
  go_upto_region 1 with fail
  generalize World.alloc _ _ = W at X ⊢
  generalize w.heap.size + 1 + 1 = gh at X ⊢
  generalize w.heap.size + 1 = gr at X ⊢
  generalize w.heap.size = g at X ⊢
  have c1 : W.cell? ⟨g, 1, none⟩ = some (.bool n.tx) := X.cell 1
  have c3 : W.cell? ⟨g, 3, none⟩ = some (.bool n.bad) := X.cell 3
  have c11 : W.cell? ⟨g, 11, none⟩ = some (.int .i64 n.pos) := X.cell 11
  have f11 := X.free 11
  rw [hbd.out] at c3
  go_wp2_with (refine Nx.take ⟨X.blk, X.bel⟩ rfl rfl rfl ?_)
  clear c1 c3 c11 f11
  refine (specBreak n p _).mono ?_
  rintro e w2 ⟨rfl, b⟩
  replace X := X.below b
  clear b
  go_wp2_with (first | (refine Nx.take ⟨X.blk, X.bel⟩ rfl rfl rfl ?_) | (refine wpList_put X.res rfl rfl rfl rfl rfl ?_) | (refine wpList_tell (k := (brkN n).2.1) (f := zF) (ad := none) (cd := 0) (X.fin (ndC ((brkN n).1) p) #[]).1 rfl rfl rfl rfl rfl ?_))
  obtain ⟨-, Z1, Z2, Z3⟩ := X.fin (ndC ((brkN n).1) p) (hpC ((brkN n).2.1) (zF) (none) (0))
  refine bodyPost_ret (v := .tuple #[ndV ((brkN n).1) p, hpV ((brkN n).2.1) (zF) (none) (0)]) ?_ rfl ⟨rfl, Z3⟩
  exact results_both Tryz.results161 _ _ gr gh _ _ rfl rfl Z1 Z2 rfl rfl

set_option maxHeartbeats 8000000 in
/-- spec.l12Tail, where it breaks off. -/
theorem specTailB3 (n : Nd) (p : NdP) (w : World) (hq : n.pos = 9) (htx : n.tx = true) :
    Calls Tryz.prog 161 #[ndV n p, .int .i64 0] w (Told (brkN n).1 (brkN n).2.1 p w) := by
  have d1 : (n.pos == 1) = false := beq_eq_false_iff_ne.2 (by omega)
  have d2 : (n.pos == 2) = false := beq_eq_false_iff_ne.2 (by omega)
  have d9 : (n.pos == 9) = true := beq_iff_eq.2 hq
  replace htx := Lib.hid htx
  replace hq := Lib.hid hq
  have X := N3.made (ndC n p) w
  go_enter Tryz.func161, Tryz.ntmps161
  go_upto_region 1 with fail
  generalize World.alloc _ _ = W at X ⊢
  generalize w.heap.size + 1 + 1 = gh at X ⊢
  generalize w.heap.size + 1 = gr at X ⊢
  generalize w.heap.size = g at X ⊢
  have c1 : W.cell? ⟨g, 1, none⟩ = some (.bool n.tx) := X.cell 1
  have c3 : W.cell? ⟨g, 3, none⟩ = some (.bool n.bad) := X.cell 3
  have c11 : W.cell? ⟨g, 11, none⟩ = some (.int .i64 n.pos) := X.cell 11
  have f11 := X.free 11
  rw [htx.out] at c1
  go_wp2_with (refine Nx.take ⟨X.blk, X.bel⟩ rfl rfl rfl ?_)
  clear c1 c3 c11 f11
  refine (specBreak n p _).mono ?_
  rintro e w2 ⟨rfl, b⟩
  replace X := X.below b
  clear b
  go_wp2_with (first | (refine Nx.take ⟨X.blk, X.bel⟩ rfl rfl rfl ?_) | (refine wpList_put X.res rfl rfl rfl rfl rfl ?_) | (refine wpList_tell (k := (brkN n).2.1) (f := zF) (ad := none) (cd := 0) (X.fin (ndC ((brkN n).1) p) #[]).1 rfl rfl rfl rfl rfl ?_))
  obtain ⟨-, Z1, Z2, Z3⟩ := X.fin (ndC ((brkN n).1) p) (hpC ((brkN n).2.1) (zF) (none) (0))
  refine bodyPost_ret (v := .tuple #[ndV ((brkN n).1) p, hpV ((brkN n).2.1) (zF) (none) (0)]) ?_ rfl ⟨rfl, Z3⟩
  exact results_both Tryz.results161 _ _ gr gh _ _ rfl rfl Z1 Z2 rfl rfl

set_option maxHeartbeats 8000000 in
/-- spec.l12Tail, where it breaks off. -/
theorem specTailB4 (n : Nd) (p : NdP) (w : World) (hq : (0 ≤ n.pos ∧ n.pos ≤ 9) ∧ n.pos ≠ 1 ∧ n.pos ≠ 2 ∧ n.pos ≠ 9) :
    Calls Tryz.prog 161 #[ndV n p, .int .i64 0] w (Told (brkN n).1 (brkN n).2.1 p w) := by
  have d1 : (n.pos == 1) = false := beq_eq_false_iff_ne.2 (by omega)
  have d2 : (n.pos == 2) = false := beq_eq_false_iff_ne.2 (by omega)
  have d9 : (n.pos == 9) = false := beq_eq_false_iff_ne.2 (by omega)
  replace hq := Lib.hid hq
  have X := N3.made (ndC n p) w
  go_enter Tryz.func161, Tryz.ntmps161
  go_upto_region 1 with fail
  generalize World.alloc _ _ = W at X ⊢
  generalize w.heap.size + 1 + 1 = gh at X ⊢
  generalize w.heap.size + 1 = gr at X ⊢
  generalize w.heap.size = g at X ⊢
  have c1 : W.cell? ⟨g, 1, none⟩ = some (.bool n.tx) := X.cell 1
  have c3 : W.cell? ⟨g, 3, none⟩ = some (.bool n.bad) := X.cell 3
  have c11 : W.cell? ⟨g, 11, none⟩ = some (.int .i64 n.pos) := X.cell 11
  have f11 := X.free 11
  go_wp2_with (refine Nx.take ⟨X.blk, X.bel⟩ rfl rfl rfl ?_)
  clear c1 c3 c11 f11
  refine (specBreak n p _).mono ?_
  rintro e w2 ⟨rfl, b⟩
  replace X := X.below b
  clear b
  go_wp2_with (first | (refine Nx.take ⟨X.blk, X.bel⟩ rfl rfl rfl ?_) | (refine wpList_put X.res rfl rfl rfl rfl rfl ?_) | (refine wpList_tell (k := (brkN n).2.1) (f := zF) (ad := none) (cd := 0) (X.fin (ndC ((brkN n).1) p) #[]).1 rfl rfl rfl rfl rfl ?_))
  obtain ⟨-, Z1, Z2, Z3⟩ := X.fin (ndC ((brkN n).1) p) (hpC ((brkN n).2.1) (zF) (none) (0))
  refine bodyPost_ret (v := .tuple #[ndV ((brkN n).1) p, hpV ((brkN n).2.1) (zF) (none) (0)]) ?_ rfl ⟨rfl, Z3⟩
  exact results_both Tryz.results161 _ _ gr gh _ _ rfl rfl Z1 Z2 rfl rfl

set_option maxHeartbeats 8000000 in
/-- spec.l12Tail, one bit on. -/
theorem specTailO0 (n : Nd) (p : NdP) (l : Int) (w : World) (hm : NdM n p w) (hq : n.pos = 1) (htx : n.tx = false) (hl : l = 0 ∨ l = 1) :
    Calls Tryz.prog 161 #[ndV n p, .int .i64 l] w (SampY n p ({ n with pos := n.pos + 1 }, 0, zF) w) := by
  have hpw : IntKind.i64.wrap (n.pos + 1) = n.pos + 1 := IntWalk.i64_in _ (by omega)
  have dlt : decide (n.pos < 9) = true := decide_eq_true (by omega)
  have e9 : (n.pos + 1 == 9) = false := beq_eq_false_iff_ne.2 (by omega)
  have d1 : (n.pos == 1) = true := beq_iff_eq.2 hq
  have d2 : (n.pos == 2) = false := beq_eq_false_iff_ne.2 (by omega)
  have d9 : (n.pos == 9) = false := beq_eq_false_iff_ne.2 (by omega)
  replace htx := Lib.hid htx
  replace hq := Lib.hid hq
  have X := N3.made (ndC n p) w
  go_enter Tryz.func161, Tryz.ntmps161
  go_upto_region 1 with fail
  generalize World.alloc _ _ = W at X ⊢
  generalize w.heap.size + 1 + 1 = gh at X ⊢
  generalize w.heap.size + 1 = gr at X ⊢
  generalize w.heap.size = g at X ⊢
  have c1 : W.cell? ⟨g, 1, none⟩ = some (.bool n.tx) := X.cell 1
  have c3 : W.cell? ⟨g, 3, none⟩ = some (.bool n.bad) := X.cell 3
  have c11 : W.cell? ⟨g, 11, none⟩ = some (.int .i64 n.pos) := X.cell 11
  have f11 := X.free 11
  rw [htx.out] at c1
  go_upto_region 13 with fail
  clear c1 c3 c11 f11
  replace X : N3 g gr gh (ndC ({ n with pos := n.pos + 1 }) p) w _ := (X.set 11 (.int .i64 (n.pos + 1)))
  generalize World.setCell _ _ _ = W1 at X ⊢
  have c11 : W1.cell? ⟨g, 11, none⟩ = some (.int .i64 (n.pos + 1)) := X.cell 11
  have c1 : W1.cell? ⟨g, 1, none⟩ = some (.bool n.tx) := X.cell 1
  go_upto_region 15 with fail
  clear c11 c1
  refine wp_region_held (S := fun u => Nx g ({ n with pos := n.pos + 1 }) (p) w u) (by kernel_rfl) ?_
  replace X := X.drew'
  generalize ({ W1 with drawn := W1.drawn + 1 } : World) = V at X ⊢
  refine take_at 0 _ (ndV ({ n with pos := n.pos + 1 }) (p)) rfl rfl (by kernel_rfl) (by kernel_rfl) (by kernel_rfl) (fun _ _ _ h => h) (.inl ⟨rfl, fun u hu => hu.took rfl rfl⟩) X.nx ?_
  simp only [Act.put, List.setIfInBounds_toArray, List.set_cons_zero, List.set_cons_succ]
  refine call_at 1 _ 158 #[.int .i64 0] rfl rfl (by kernel_rfl) rfl (by go_simp) ?_
  refine (specHappen 0 _).mono ?_
  rintro e wh ⟨rfl, b⟩
  replace X := X.below b
  clear b
  refine ⟨_, rfl, X.nx, ?_⟩
  simp only [Act.put, List.setIfInBounds_toArray, List.set_cons_zero, List.set_cons_succ]
  refine held_row 2 gr (ndC ({ n with pos := n.pos + 1 }) (p)) rfl (by kernel_rfl) rfl rfl rfl rfl rfl X.res (by kernel_rfl) rfl (ndC_one _ _) (X.nxR _) ?_
  refine held_row 3 gh (hpC 0 zF none 0) rfl (by kernel_rfl) rfl rfl rfl rfl rfl (X.fin _ #[]).1 (by kernel_rfl) rfl (hpC_one _ _ _ _) (X.nxH _ _) ?_
  refine wpAnyH_done (by kernel_rfl) ?_ _
  obtain ⟨-, Z1, Z2, Z3⟩ := X.fin (ndC ({ n with pos := n.pos + 1 }) (p)) (hpC 0 zF none 0)
  go_wp2_with fail
  refine bodyPost_ret (v := .tuple #[ndV ({ n with pos := n.pos + 1 }) (p), hpV 0 zF none 0]) ?_ rfl ⟨p, none, 0, rfl, fun u k kn => ⟨kn.lists rfl rfl rfl rfl hm.size, Nums.nil _⟩, Z3⟩
  exact results_both Tryz.results161 _ _ gr gh _ _ rfl rfl Z1 Z2 rfl rfl

set_option maxHeartbeats 8000000 in
/-- spec.l12Tail, one bit on. -/
theorem specTailO1 (n : Nd) (p : NdP) (w : World) (hm : NdM n p w) (hq : n.pos = 1) (htx : n.tx = true) :
    Calls Tryz.prog 161 #[ndV n p, .int .i64 0] w (SampY n p ({ n with pos := n.pos + 1 }, 0, zF) w) := by
  have hpw : IntKind.i64.wrap (n.pos + 1) = n.pos + 1 := IntWalk.i64_in _ (by omega)
  have dlt : decide (n.pos < 9) = true := decide_eq_true (by omega)
  have e9 : (n.pos + 1 == 9) = false := beq_eq_false_iff_ne.2 (by omega)
  have d1 : (n.pos == 1) = true := beq_iff_eq.2 hq
  have d2 : (n.pos == 2) = false := beq_eq_false_iff_ne.2 (by omega)
  have d9 : (n.pos == 9) = false := beq_eq_false_iff_ne.2 (by omega)
  replace htx := Lib.hid htx
  replace hq := Lib.hid hq
  have X := N3.made (ndC n p) w
  go_enter Tryz.func161, Tryz.ntmps161
  go_upto_region 1 with fail
  generalize World.alloc _ _ = W at X ⊢
  generalize w.heap.size + 1 + 1 = gh at X ⊢
  generalize w.heap.size + 1 = gr at X ⊢
  generalize w.heap.size = g at X ⊢
  have c1 : W.cell? ⟨g, 1, none⟩ = some (.bool n.tx) := X.cell 1
  have c3 : W.cell? ⟨g, 3, none⟩ = some (.bool n.bad) := X.cell 3
  have c11 : W.cell? ⟨g, 11, none⟩ = some (.int .i64 n.pos) := X.cell 11
  have f11 := X.free 11
  rw [htx.out] at c1
  go_upto_region 13 with fail
  clear c1 c3 c11 f11
  replace X : N3 g gr gh (ndC ({ n with pos := n.pos + 1 }) p) w _ := (X.set 11 (.int .i64 (n.pos + 1)))
  generalize World.setCell _ _ _ = W1 at X ⊢
  have c11 : W1.cell? ⟨g, 11, none⟩ = some (.int .i64 (n.pos + 1)) := X.cell 11
  have c1 : W1.cell? ⟨g, 1, none⟩ = some (.bool n.tx) := X.cell 1
  go_upto_region 15 with fail
  clear c11 c1
  refine wp_region_held (S := fun u => Nx g ({ n with pos := n.pos + 1 }) (p) w u) (by kernel_rfl) ?_
  replace X := X.drew'
  generalize ({ W1 with drawn := W1.drawn + 1 } : World) = V at X ⊢
  refine take_at 0 _ (ndV ({ n with pos := n.pos + 1 }) (p)) rfl rfl (by kernel_rfl) (by kernel_rfl) (by kernel_rfl) (fun _ _ _ h => h) (.inl ⟨rfl, fun u hu => hu.took rfl rfl⟩) X.nx ?_
  simp only [Act.put, List.setIfInBounds_toArray, List.set_cons_zero, List.set_cons_succ]
  refine call_at 1 _ 158 #[.int .i64 0] rfl rfl (by kernel_rfl) rfl (by go_simp) ?_
  refine (specHappen 0 _).mono ?_
  rintro e wh ⟨rfl, b⟩
  replace X := X.below b
  clear b
  refine ⟨_, rfl, X.nx, ?_⟩
  simp only [Act.put, List.setIfInBounds_toArray, List.set_cons_zero, List.set_cons_succ]
  refine held_row 2 gr (ndC ({ n with pos := n.pos + 1 }) (p)) rfl (by kernel_rfl) rfl rfl rfl rfl rfl X.res (by kernel_rfl) rfl (ndC_one _ _) (X.nxR _) ?_
  refine held_row 3 gh (hpC 0 zF none 0) rfl (by kernel_rfl) rfl rfl rfl rfl rfl (X.fin _ #[]).1 (by kernel_rfl) rfl (hpC_one _ _ _ _) (X.nxH _ _) ?_
  refine wpAnyH_done (by kernel_rfl) ?_ _
  obtain ⟨-, Z1, Z2, Z3⟩ := X.fin (ndC ({ n with pos := n.pos + 1 }) (p)) (hpC 0 zF none 0)
  go_wp2_with fail
  refine bodyPost_ret (v := .tuple #[ndV ({ n with pos := n.pos + 1 }) (p), hpV 0 zF none 0]) ?_ rfl ⟨p, none, 0, rfl, fun u k kn => ⟨kn.lists rfl rfl rfl rfl hm.size, Nums.nil _⟩, Z3⟩
  exact results_both Tryz.results161 _ _ gr gh _ _ rfl rfl Z1 Z2 rfl rfl

set_option maxHeartbeats 8000000 in
/-- spec.l12Tail, one bit on. -/
theorem specTailO2 (n : Nd) (p : NdP) (w : World) (hm : NdM n p w) (hq : n.pos = 2) (hbd : n.bad = false) :
    Calls Tryz.prog 161 #[ndV n p, .int .i64 1] w (SampY n p ({ n with pos := n.pos + 1 }, 0, zF) w) := by
  have hpw : IntKind.i64.wrap (n.pos + 1) = n.pos + 1 := IntWalk.i64_in _ (by omega)
  have dlt : decide (n.pos < 9) = true := decide_eq_true (by omega)
  have e9 : (n.pos + 1 == 9) = false := beq_eq_false_iff_ne.2 (by omega)
  have d1 : (n.pos == 1) = false := beq_eq_false_iff_ne.2 (by omega)
  have d2 : (n.pos == 2) = true := beq_iff_eq.2 hq
  have d9 : (n.pos == 9) = false := beq_eq_false_iff_ne.2 (by omega)
  replace hbd := Lib.hid hbd
  replace hq := Lib.hid hq
  have X := N3.made (ndC n p) w
  go_enter Tryz.func161, Tryz.ntmps161
  go_upto_region 1 with fail
  generalize World.alloc _ _ = W at X ⊢
  generalize w.heap.size + 1 + 1 = gh at X ⊢
  generalize w.heap.size + 1 = gr at X ⊢
  generalize w.heap.size = g at X ⊢
  have c1 : W.cell? ⟨g, 1, none⟩ = some (.bool n.tx) := X.cell 1
  have c3 : W.cell? ⟨g, 3, none⟩ = some (.bool n.bad) := X.cell 3
  have c11 : W.cell? ⟨g, 11, none⟩ = some (.int .i64 n.pos) := X.cell 11
  have f11 := X.free 11
  rw [hbd.out] at c3
  go_upto_region 13 with fail
  clear c1 c3 c11 f11
  replace X : N3 g gr gh (ndC ({ n with pos := n.pos + 1 }) p) w _ := (X.set 11 (.int .i64 (n.pos + 1)))
  generalize World.setCell _ _ _ = W1 at X ⊢
  have c11 : W1.cell? ⟨g, 11, none⟩ = some (.int .i64 (n.pos + 1)) := X.cell 11
  have c1 : W1.cell? ⟨g, 1, none⟩ = some (.bool n.tx) := X.cell 1
  go_upto_region 15 with fail
  clear c11 c1
  refine wp_region_held (S := fun u => Nx g ({ n with pos := n.pos + 1 }) (p) w u) (by kernel_rfl) ?_
  replace X := X.drew'
  generalize ({ W1 with drawn := W1.drawn + 1 } : World) = V at X ⊢
  refine take_at 0 _ (ndV ({ n with pos := n.pos + 1 }) (p)) rfl rfl (by kernel_rfl) (by kernel_rfl) (by kernel_rfl) (fun _ _ _ h => h) (.inl ⟨rfl, fun u hu => hu.took rfl rfl⟩) X.nx ?_
  simp only [Act.put, List.setIfInBounds_toArray, List.set_cons_zero, List.set_cons_succ]
  refine call_at 1 _ 158 #[.int .i64 0] rfl rfl (by kernel_rfl) rfl (by go_simp) ?_
  refine (specHappen 0 _).mono ?_
  rintro e wh ⟨rfl, b⟩
  replace X := X.below b
  clear b
  refine ⟨_, rfl, X.nx, ?_⟩
  simp only [Act.put, List.setIfInBounds_toArray, List.set_cons_zero, List.set_cons_succ]
  refine held_row 2 gr (ndC ({ n with pos := n.pos + 1 }) (p)) rfl (by kernel_rfl) rfl rfl rfl rfl rfl X.res (by kernel_rfl) rfl (ndC_one _ _) (X.nxR _) ?_
  refine held_row 3 gh (hpC 0 zF none 0) rfl (by kernel_rfl) rfl rfl rfl rfl rfl (X.fin _ #[]).1 (by kernel_rfl) rfl (hpC_one _ _ _ _) (X.nxH _ _) ?_
  refine wpAnyH_done (by kernel_rfl) ?_ _
  obtain ⟨-, Z1, Z2, Z3⟩ := X.fin (ndC ({ n with pos := n.pos + 1 }) (p)) (hpC 0 zF none 0)
  go_wp2_with fail
  refine bodyPost_ret (v := .tuple #[ndV ({ n with pos := n.pos + 1 }) (p), hpV 0 zF none 0]) ?_ rfl ⟨p, none, 0, rfl, fun u k kn => ⟨kn.lists rfl rfl rfl rfl hm.size, Nums.nil _⟩, Z3⟩
  exact results_both Tryz.results161 _ _ gr gh _ _ rfl rfl Z1 Z2 rfl rfl

set_option maxHeartbeats 8000000 in
/-- spec.l12Tail, one bit on. -/
theorem specTailO3 (n : Nd) (p : NdP) (w : World) (hm : NdM n p w) (hq : (0 ≤ n.pos ∧ n.pos < 8) ∧ n.pos ≠ 1 ∧ n.pos ≠ 2) :
    Calls Tryz.prog 161 #[ndV n p, .int .i64 1] w (SampY n p ({ n with pos := n.pos + 1 }, 0, zF) w) := by
  have hpw : IntKind.i64.wrap (n.pos + 1) = n.pos + 1 := IntWalk.i64_in _ (by omega)
  have dlt : decide (n.pos < 9) = true := decide_eq_true (by omega)
  have e9 : (n.pos + 1 == 9) = false := beq_eq_false_iff_ne.2 (by omega)
  have d1 : (n.pos == 1) = false := beq_eq_false_iff_ne.2 (by omega)
  have d2 : (n.pos == 2) = false := beq_eq_false_iff_ne.2 (by omega)
  have d9 : (n.pos == 9) = false := beq_eq_false_iff_ne.2 (by omega)
  replace hq := Lib.hid hq
  have X := N3.made (ndC n p) w
  go_enter Tryz.func161, Tryz.ntmps161
  go_upto_region 1 with fail
  generalize World.alloc _ _ = W at X ⊢
  generalize w.heap.size + 1 + 1 = gh at X ⊢
  generalize w.heap.size + 1 = gr at X ⊢
  generalize w.heap.size = g at X ⊢
  have c1 : W.cell? ⟨g, 1, none⟩ = some (.bool n.tx) := X.cell 1
  have c3 : W.cell? ⟨g, 3, none⟩ = some (.bool n.bad) := X.cell 3
  have c11 : W.cell? ⟨g, 11, none⟩ = some (.int .i64 n.pos) := X.cell 11
  have f11 := X.free 11
  go_upto_region 13 with fail
  clear c1 c3 c11 f11
  replace X : N3 g gr gh (ndC ({ n with pos := n.pos + 1 }) p) w _ := (X.set 11 (.int .i64 (n.pos + 1)))
  generalize World.setCell _ _ _ = W1 at X ⊢
  have c11 : W1.cell? ⟨g, 11, none⟩ = some (.int .i64 (n.pos + 1)) := X.cell 11
  have c1 : W1.cell? ⟨g, 1, none⟩ = some (.bool n.tx) := X.cell 1
  go_upto_region 15 with fail
  clear c11 c1
  refine wp_region_held (S := fun u => Nx g ({ n with pos := n.pos + 1 }) (p) w u) (by kernel_rfl) ?_
  replace X := X.drew'
  generalize ({ W1 with drawn := W1.drawn + 1 } : World) = V at X ⊢
  refine take_at 0 _ (ndV ({ n with pos := n.pos + 1 }) (p)) rfl rfl (by kernel_rfl) (by kernel_rfl) (by kernel_rfl) (fun _ _ _ h => h) (.inl ⟨rfl, fun u hu => hu.took rfl rfl⟩) X.nx ?_
  simp only [Act.put, List.setIfInBounds_toArray, List.set_cons_zero, List.set_cons_succ]
  refine call_at 1 _ 158 #[.int .i64 0] rfl rfl (by kernel_rfl) rfl (by go_simp) ?_
  refine (specHappen 0 _).mono ?_
  rintro e wh ⟨rfl, b⟩
  replace X := X.below b
  clear b
  refine ⟨_, rfl, X.nx, ?_⟩
  simp only [Act.put, List.setIfInBounds_toArray, List.set_cons_zero, List.set_cons_succ]
  refine held_row 2 gr (ndC ({ n with pos := n.pos + 1 }) (p)) rfl (by kernel_rfl) rfl rfl rfl rfl rfl X.res (by kernel_rfl) rfl (ndC_one _ _) (X.nxR _) ?_
  refine held_row 3 gh (hpC 0 zF none 0) rfl (by kernel_rfl) rfl rfl rfl rfl rfl (X.fin _ #[]).1 (by kernel_rfl) rfl (hpC_one _ _ _ _) (X.nxH _ _) ?_
  refine wpAnyH_done (by kernel_rfl) ?_ _
  obtain ⟨-, Z1, Z2, Z3⟩ := X.fin (ndC ({ n with pos := n.pos + 1 }) (p)) (hpC 0 zF none 0)
  go_wp2_with fail
  refine bodyPost_ret (v := .tuple #[ndV ({ n with pos := n.pos + 1 }) (p), hpV 0 zF none 0]) ?_ rfl ⟨p, none, 0, rfl, fun u k kn => ⟨kn.lists rfl rfl rfl rfl hm.size, Nums.nil _⟩, Z3⟩
  exact results_both Tryz.results161 _ _ gr gh _ _ rfl rfl Z1 Z2 rfl rfl

set_option maxHeartbeats 8000000 in
/-- spec.l12Tail, where a frame is heard. -/
theorem specTailHeard (n : Nd) (p : NdP) (w : World) (hm : NdM n p w) (hq : n.pos = 8) (htx : n.tx = false) (h32 : n.fifo.length ≤ 32) (hs8 : ∀ j, j < n.fifo.length → (nthF n.fifo j).D.length ≤ 1048576) :
    Calls Tryz.prog 161 #[ndV n p, .int .i64 1] w (SampY n p (heardN n) w) := by
  have hpw : IntKind.i64.wrap (n.pos + 1) = n.pos + 1 := IntWalk.i64_in _ (by omega)
  have dlt : decide (n.pos < 9) = true := decide_eq_true (by omega)
  have hp9 := Lib.hid (show n.pos + 1 = 9 by omega)
  have d1 : (n.pos == 1) = false := beq_eq_false_iff_ne.2 (by omega)
  have d2 : (n.pos == 2) = false := beq_eq_false_iff_ne.2 (by omega)
  have d9 : (n.pos == 9) = false := beq_eq_false_iff_ne.2 (by omega)
  replace htx := Lib.hid htx
  replace hq := Lib.hid hq
  have X := N3.made (ndC n p) w
  go_enter Tryz.func161, Tryz.ntmps161
  go_upto_region 1 with fail
  generalize World.alloc _ _ = W at X ⊢
  generalize w.heap.size + 1 + 1 = gh at X ⊢
  generalize w.heap.size + 1 = gr at X ⊢
  generalize w.heap.size = g at X ⊢
  have c1 : W.cell? ⟨g, 1, none⟩ = some (.bool n.tx) := X.cell 1
  have c3 : W.cell? ⟨g, 3, none⟩ = some (.bool n.bad) := X.cell 3
  have c11 : W.cell? ⟨g, 11, none⟩ = some (.int .i64 n.pos) := X.cell 11
  have f11 := X.free 11
  rw [htx.out] at c1
  go_upto_region 13 with fail
  clear c1 c3 c11 f11
  replace X : N3 g gr gh (ndC ({ n with pos := n.pos + 1 }) p) w _ := (X.set 11 (.int .i64 (n.pos + 1)))
  generalize World.setCell _ _ _ = W1 at X ⊢
  replace X : N3 g gr gh (ndC { n with pos := 9 } p) w W1 := by have := X; rw [hp9.out] at this; exact this
  have c11 : W1.cell? ⟨g, 11, none⟩ = some (.int .i64 9) := X.cell 11
  have c1 : W1.cell? ⟨g, 1, none⟩ = some (.bool n.tx) := X.cell 1
  rw [htx.out] at c1
  go_wp2_with (refine Nx.take ⟨X.blk, X.bel⟩ rfl rfl rfl ?_)
  have hlt := X.lt
  have hsz := X.bel.size
  refine (specHeard { n with pos := 9 } p W1 ⟨(hm.below X.bel).nums, (hm.below X.bel).box, (hm.below X.bel).fifo, (hm.below X.bel).flt, hm.size⟩ rfl h32 hs8).mono ?_
  rintro e w5 ⟨p5, ad5, cd5, rfl, hk5, b⟩
  replace X := X.below b
  clear b
  go_wp2_with (first | (refine wpList_put (n := (heardN n).1) (p := p5) X.res rfl rfl rfl rfl rfl ?_) | (refine wpList_tell (k := (heardN n).2.1) (f := (heardN n).2.2) (ad := ad5) (cd := cd5) (X.fin (ndC (heardN n).1 p5) #[]).1 rfl rfl rfl rfl rfl ?_))
  have hmf := X.upFin (ndC (heardN n).1 p5) (hpC (heardN n).2.1 (heardN n).2.2 ad5 cd5) hlt.2.1 hlt.2.2
  obtain ⟨-, Z1, Z2, Z3⟩ := X.fin (ndC (heardN n).1 p5) (hpC (heardN n).2.1 (heardN n).2.2 ad5 cd5)
  refine bodyPost_ret (v := .tuple #[ndV (heardN n).1 p5, hpV (heardN n).2.1 (heardN n).2.2 ad5 cd5]) ?_ rfl ⟨p5, ad5, cd5, rfl, fun u k kn => hk5 u (hmf.trans (k.higher hsz)) ⟨kn.nums, kn.box, kn.fifo, kn.flt, kn.size⟩, Z3⟩
  exact results_both Tryz.results161 _ _ gr gh _ _ rfl rfl Z1 Z2 rfl rfl

set_option maxHeartbeats 8000000 in
/-- spec.l12Tail, one ahead of the last, of one that sends. -/
theorem specTailEight (n : Nd) (p : NdP) (w : World) (hm : NdM n p w) (hq : n.pos = 8) (htx : n.tx = true) :
    Calls Tryz.prog 161 #[ndV n p, .int .i64 1] w (SampY n p ({ n with pos := 9 }, 0, zF) w) := by
  have hpw : IntKind.i64.wrap (n.pos + 1) = n.pos + 1 := IntWalk.i64_in _ (by omega)
  have dlt : decide (n.pos < 9) = true := decide_eq_true (by omega)
  have hp9 := Lib.hid (show n.pos + 1 = 9 by omega)
  have d1 : (n.pos == 1) = false := beq_eq_false_iff_ne.2 (by omega)
  have d2 : (n.pos == 2) = false := beq_eq_false_iff_ne.2 (by omega)
  have d9 : (n.pos == 9) = false := beq_eq_false_iff_ne.2 (by omega)
  replace htx := Lib.hid htx
  replace hq := Lib.hid hq
  have X := N3.made (ndC n p) w
  go_enter Tryz.func161, Tryz.ntmps161
  go_upto_region 1 with fail
  generalize World.alloc _ _ = W at X ⊢
  generalize w.heap.size + 1 + 1 = gh at X ⊢
  generalize w.heap.size + 1 = gr at X ⊢
  generalize w.heap.size = g at X ⊢
  have c1 : W.cell? ⟨g, 1, none⟩ = some (.bool n.tx) := X.cell 1
  have c3 : W.cell? ⟨g, 3, none⟩ = some (.bool n.bad) := X.cell 3
  have c11 : W.cell? ⟨g, 11, none⟩ = some (.int .i64 n.pos) := X.cell 11
  have f11 := X.free 11
  rw [htx.out] at c1
  go_upto_region 13 with fail
  clear c1 c3 c11 f11
  replace X : N3 g gr gh (ndC ({ n with pos := n.pos + 1 }) p) w _ := (X.set 11 (.int .i64 (n.pos + 1)))
  generalize World.setCell _ _ _ = W1 at X ⊢
  replace X : N3 g gr gh (ndC { n with pos := 9 } p) w W1 := by have := X; rw [hp9.out] at this; exact this
  have c11 : W1.cell? ⟨g, 11, none⟩ = some (.int .i64 9) := X.cell 11
  have c1 : W1.cell? ⟨g, 1, none⟩ = some (.bool n.tx) := X.cell 1
  rw [htx.out] at c1
  go_upto_region 15 with fail
  clear c1 c11
  refine wp_region_held (S := fun u => Nx g ({ n with pos := 9 }) (p) w u) (by kernel_rfl) ?_
  replace X := X.drew'
  generalize ({ W1 with drawn := W1.drawn + 1 } : World) = V at X ⊢
  refine take_at 0 _ (ndV ({ n with pos := 9 }) (p)) rfl rfl (by kernel_rfl) (by kernel_rfl) (by kernel_rfl) (fun _ _ _ h => h) (.inl ⟨rfl, fun u hu => hu.took rfl rfl⟩) X.nx ?_
  simp only [Act.put, List.setIfInBounds_toArray, List.set_cons_zero, List.set_cons_succ]
  refine call_at 1 _ 158 #[.int .i64 0] rfl rfl (by kernel_rfl) rfl (by go_simp) ?_
  refine (specHappen 0 _).mono ?_
  rintro e wh ⟨rfl, b⟩
  replace X := X.below b
  clear b
  refine ⟨_, rfl, X.nx, ?_⟩
  simp only [Act.put, List.setIfInBounds_toArray, List.set_cons_zero, List.set_cons_succ]
  refine held_row 2 gr (ndC ({ n with pos := 9 }) (p)) rfl (by kernel_rfl) rfl rfl rfl rfl rfl X.res (by kernel_rfl) rfl (ndC_one _ _) (X.nxR _) ?_
  refine held_row 3 gh (hpC 0 zF none 0) rfl (by kernel_rfl) rfl rfl rfl rfl rfl (X.fin _ #[]).1 (by kernel_rfl) rfl (hpC_one _ _ _ _) (X.nxH _ _) ?_
  refine wpAnyH_done (by kernel_rfl) ?_ _
  obtain ⟨-, Z1, Z2, Z3⟩ := X.fin (ndC ({ n with pos := 9 }) (p)) (hpC 0 zF none 0)
  go_wp2_with fail
  refine bodyPost_ret (v := .tuple #[ndV ({ n with pos := 9 }) (p), hpV 0 zF none 0]) ?_ rfl ⟨p, none, 0, rfl, fun u k kn => ⟨kn.lists rfl rfl rfl rfl hm.size, Nums.nil _⟩, Z3⟩
  exact results_both Tryz.results161 _ _ gr gh _ _ rfl rfl Z1 Z2 rfl rfl

set_option maxHeartbeats 8000000 in
/-- spec.l12Tail, the last bit. -/
theorem specTailLast (n : Nd) (p : NdP) (l : Int) (w : World) (hm : NdM n p w) (hq : n.pos = 9) (htx : n.tx = false) (hl : l = 0 ∨ l = 1) :
    Calls Tryz.prog 161 #[ndV n p, .int .i64 l] w (SampY n p ({ n with ph := 5, left := 3, got := ⟨#[]⟩, run := 0, last := 0, pos := 0 }, 0, zF) w) := by
  have dlt : decide (n.pos < 9) = false := decide_eq_false (by omega)
  have d1 : (n.pos == 1) = false := beq_eq_false_iff_ne.2 (by omega)
  have d2 : (n.pos == 2) = false := beq_eq_false_iff_ne.2 (by omega)
  have d9 : (n.pos == 9) = true := beq_iff_eq.2 hq
  replace htx := Lib.hid htx
  replace hq := Lib.hid hq
  have X := N3.made (ndC n p) w
  go_enter Tryz.func161, Tryz.ntmps161
  go_upto_region 1 with fail
  generalize World.alloc _ _ = W at X ⊢
  generalize w.heap.size + 1 + 1 = gh at X ⊢
  generalize w.heap.size + 1 = gr at X ⊢
  generalize w.heap.size = g at X ⊢
  have c1 : W.cell? ⟨g, 1, none⟩ = some (.bool n.tx) := X.cell 1
  have c3 : W.cell? ⟨g, 3, none⟩ = some (.bool n.bad) := X.cell 3
  have c11 : W.cell? ⟨g, 11, none⟩ = some (.int .i64 n.pos) := X.cell 11
  have f11 := X.free 11
  rw [htx.out] at c1
  have c0 : W.cell? ⟨g, 0, none⟩ = some (.int .i64 n.ph) := X.cell 0
  have c8 : W.cell? ⟨g, 8, none⟩ = some (.string n.got) := X.cell 8
  have c9 : W.cell? ⟨g, 9, none⟩ = some (.int .i64 n.run) := X.cell 9
  have c10 : W.cell? ⟨g, 10, none⟩ = some (.int .i64 n.last) := X.cell 10
  have c12 : W.cell? ⟨g, 12, none⟩ = some (.int .i64 n.left) := X.cell 12
  have f0 := X.free 0
  have f8 := X.free 8
  have f9 := X.free 9
  have f10 := X.free 10
  have f12 := X.free 12
  go_upto_region 22 with fail
  clear c1 c3 c11 f11
  clear c0 c8 c9 c10 c12 f0 f8 f9 f10 f12
  replace X : N3 g gr gh (ndC ({ n with ph := 5, left := 3, got := ⟨#[]⟩ }) p) w _ := (((X.set 0 (.int .i64 5)).set 12 (.int .i64 3)).set 8 (.string ⟨#[]⟩))
  replace X : N3 g gr gh (ndC ({ n with ph := 5, left := 3, got := ⟨#[]⟩, run := 0, last := 0, pos := 0 }) p) w _ := (((X.set 9 (.int .i64 0)).set 10 (.int .i64 0)).set 11 (.int .i64 0))
  generalize World.setCell _ _ _ = W1 at X ⊢
  have c1 : W1.cell? ⟨g, 1, none⟩ = some (.bool n.tx) := X.cell 1
  rw [htx.out] at c1
  go_upto_region 23 with fail
  clear c1
  refine wp_region_held (S := fun u => Nx g ({ n with ph := 5, left := 3, got := ⟨#[]⟩, run := 0, last := 0, pos := 0 }) (p) w u) (by kernel_rfl) ?_
  replace X := X.drew'
  generalize ({ W1 with drawn := W1.drawn + 1 } : World) = V at X ⊢
  refine take_at 0 _ (ndV ({ n with ph := 5, left := 3, got := ⟨#[]⟩, run := 0, last := 0, pos := 0 }) (p)) rfl rfl (by kernel_rfl) (by kernel_rfl) (by kernel_rfl) (fun _ _ _ h => h) (.inl ⟨rfl, fun u hu => hu.took rfl rfl⟩) X.nx ?_
  simp only [Act.put, List.setIfInBounds_toArray, List.set_cons_zero, List.set_cons_succ]
  refine call_at 1 _ 158 #[.int .i64 0] rfl rfl (by kernel_rfl) rfl (by go_simp) ?_
  refine (specHappen 0 _).mono ?_
  rintro e wh ⟨rfl, b⟩
  replace X := X.below b
  clear b
  refine ⟨_, rfl, X.nx, ?_⟩
  simp only [Act.put, List.setIfInBounds_toArray, List.set_cons_zero, List.set_cons_succ]
  refine held_row 2 gr (ndC ({ n with ph := 5, left := 3, got := ⟨#[]⟩, run := 0, last := 0, pos := 0 }) (p)) rfl (by kernel_rfl) rfl rfl rfl rfl rfl X.res (by kernel_rfl) rfl (ndC_one _ _) (X.nxR _) ?_
  refine held_row 3 gh (hpC 0 zF none 0) rfl (by kernel_rfl) rfl rfl rfl rfl rfl (X.fin _ #[]).1 (by kernel_rfl) rfl (hpC_one _ _ _ _) (X.nxH _ _) ?_
  refine wpAnyH_done (by kernel_rfl) ?_ _
  obtain ⟨-, Z1, Z2, Z3⟩ := X.fin (ndC ({ n with ph := 5, left := 3, got := ⟨#[]⟩, run := 0, last := 0, pos := 0 }) (p)) (hpC 0 zF none 0)
  go_wp2_with fail
  refine bodyPost_ret (v := .tuple #[ndV ({ n with ph := 5, left := 3, got := ⟨#[]⟩, run := 0, last := 0, pos := 0 }) (p), hpV 0 zF none 0]) ?_ rfl ⟨p, none, 0, rfl, fun u k kn => ⟨kn.lists rfl rfl rfl rfl (Nat.zero_le _), Nums.nil _⟩, Z3⟩
  exact results_both Tryz.results161 _ _ gr gh _ _ rfl rfl Z1 Z2 rfl rfl

set_option maxHeartbeats 16000000 in
/-- spec.l12Tail, the last bit of one that sends. -/
theorem specTailSent (n : Nd) (p : NdP) (w : World) (hm : NdM n p w) (hq : n.pos = 9) (htx : n.tx = true) (hbB : boxB n.box = true) (hD : n.fr.D.length ≤ 1000) :
    Calls Tryz.prog 161 #[ndV n p, .int .i64 1] w (SampY n p ({ n with ph := 5, left := 3, got := ⟨#[]⟩, run := 0, last := 0, pos := 0, cs := swA n.cs n.cg, cg := swB n.cs n.cg, box := outV n.box (rkF n.fr) }, 1, n.fr) w) := by
  generalize hca : swA n.cs n.cg = ca at *
  generalize hcb : swB n.cs n.cg = cb at *
  replace hca := Lib.hid hca
  replace hcb := Lib.hid hcb
  have hbl : (outV n.box (rkF n.fr)).length ≤ 2000000 := by have := (boxB_iff.1 (out_ok (r := rkF n.fr) hbB)).1; omega
  generalize hbx : outV n.box (rkF n.fr) = bx at *
  replace hbx := Lib.hid hbx
  have dlt : decide (n.pos < 9) = false := decide_eq_false (by omega)
  have d1 : (n.pos == 1) = false := beq_eq_false_iff_ne.2 (by omega)
  have d2 : (n.pos == 2) = false := beq_eq_false_iff_ne.2 (by omega)
  have d9 : (n.pos == 9) = true := beq_iff_eq.2 hq
  replace htx := Lib.hid htx
  replace hq := Lib.hid hq
  have X := N3.made (ndC n p) w
  go_enter Tryz.func161, Tryz.ntmps161
  go_upto_region 1 with fail
  generalize World.alloc _ _ = W at X ⊢
  generalize w.heap.size + 1 + 1 = gh at X ⊢
  generalize w.heap.size + 1 = gr at X ⊢
  generalize w.heap.size = g at X ⊢
  have c1 : W.cell? ⟨g, 1, none⟩ = some (.bool n.tx) := X.cell 1
  have c3 : W.cell? ⟨g, 3, none⟩ = some (.bool n.bad) := X.cell 3
  have c11 : W.cell? ⟨g, 11, none⟩ = some (.int .i64 n.pos) := X.cell 11
  have f11 := X.free 11
  rw [htx.out] at c1
  have c0 : W.cell? ⟨g, 0, none⟩ = some (.int .i64 n.ph) := X.cell 0
  have c8 : W.cell? ⟨g, 8, none⟩ = some (.string n.got) := X.cell 8
  have c9 : W.cell? ⟨g, 9, none⟩ = some (.int .i64 n.run) := X.cell 9
  have c10 : W.cell? ⟨g, 10, none⟩ = some (.int .i64 n.last) := X.cell 10
  have c12 : W.cell? ⟨g, 12, none⟩ = some (.int .i64 n.left) := X.cell 12
  have f0 := X.free 0
  have f8 := X.free 8
  have f9 := X.free 9
  have f10 := X.free 10
  have f12 := X.free 12
  go_upto_region 22 with fail
  clear c1 c3 c11 f11
  clear c0 c8 c9 c10 c12 f0 f8 f9 f10 f12
  replace X : N3 g gr gh (ndC ({ n with ph := 5, left := 3, got := ⟨#[]⟩ }) p) w _ := (((X.set 0 (.int .i64 5)).set 12 (.int .i64 3)).set 8 (.string ⟨#[]⟩))
  replace X : N3 g gr gh (ndC ({ n with ph := 5, left := 3, got := ⟨#[]⟩, run := 0, last := 0, pos := 0 }) p) w _ := (((X.set 9 (.int .i64 0)).set 10 (.int .i64 0)).set 11 (.int .i64 0))
  generalize World.setCell _ _ _ = W1 at X ⊢
  have c1 : W1.cell? ⟨g, 1, none⟩ = some (.bool n.tx) := X.cell 1
  rw [htx.out] at c1
  have c13 : W1.cell? ⟨g, 13, none⟩ = some (.int .i64 n.cs) := X.cell 13
  have c14 : W1.cell? ⟨g, 14, none⟩ = some (.int .i64 n.cg) := X.cell 14
  go_wp2_with fail
  refine (specSentWell _ _ _).mono ?_
  rintro e w4 ⟨rfl, b⟩
  rw [hca.out, hcb.out]
  replace X := X.below b
  clear b c1 c13 c14
  have c13 : w4.cell? ⟨g, 13, none⟩ = some (.int .i64 n.cs) := X.cell 13
  have c14 : w4.cell? ⟨g, 14, none⟩ = some (.int .i64 n.cg) := X.cell 14
  have f13 := X.free 13
  have f14 := X.free 14
  go_upto_region 25 with fail
  clear c13 c14 f13 f14
  replace X : N3 g gr gh (ndC ({ n with ph := 5, left := 3, got := ⟨#[]⟩, run := 0, last := 0, pos := 0, cs := ca, cg := cb }) p) w _ := ((X.set 13 (.int .i64 ca)).set 14 (.int .i64 cb))
  generalize World.setCell _ _ _ = W5 at X ⊢
  have hmd := (hm.below X.bel).drew
  replace X := X.drew
  have c4 : W5.drew.cell? ⟨g, 4, none⟩ = some (.int .i64 n.fr.id) := X.cell 4
  have c5 : W5.drew.cell? ⟨g, 5, none⟩ = some (.bool n.fr.rm) := X.cell 5
  have c6 : W5.drew.cell? ⟨g, 6, none⟩ = some (.int .i64 n.fr.ln) := X.cell 6
  have c7 : W5.drew.cell? ⟨g, 7, none⟩ = some (.slice p.ad n.fr.D.length p.cd) := X.cell 7
  have c15 : W5.drew.cell? ⟨g, 15, none⟩ = some (.slice p.ab n.box.length p.cb) := X.cell 15
  have f15 := X.free 15
  go_region_law (first
    | (go_simp
       go_at_call 107
       refine (specRankOf n.fr.id n.fr.rm n.fr.ln p.ad n.fr.D p.cd _ hmd.nums).mono ?_
       rintro e w6 ⟨rfl, b6⟩
       have X6 := X.below b6
       have m6 := hmd.below b6
       have hB6 := X6.lt
       have hs6 := X6.bel.size
       have e15 : w6.cell? ⟨g, 15, none⟩ = some (.slice p.ab n.box.length p.cb) := X6.cell 15
       clear b6)
    | (go_simp
       go_at_call 215
       refine (specTakenOut p.ab n.box p.cb (rkF n.fr) _ m6.box).mono ?_
       intro e w7 h7
       obtain ⟨M, a7, c7, he, hM, O7, b7⟩ := h7
       rw [hbx.out] at he hM O7
       subst he
       have X7 := X6.below b7
       have g15 : w7.cell? ⟨g, 15, none⟩ = some (.slice p.ab n.box.length p.cb) := X7.cell 15
       have k15 : w7.frozen? ⟨g, 15, none⟩ = false := X7.free 15
       clear b7))
  all_goals
    replace O7 := O7.kept2 (grown_at_cell w7 g 15 (.slice (some ⟨a7, 0, none⟩) bx.length c7)) hB6.1
    have X8 : N3 g gr gh (ndC ({ n with ph := 5, left := 3, got := ⟨#[]⟩, run := 0, last := 0, pos := 0, cs := ca, cg := cb, box := bx }) ({ p with ab := some ⟨a7, 0, none⟩, cb := c7 })) w _ := X7.set 15 (.slice (some ⟨a7, 0, none⟩) bx.length c7)
    clear X X6 X7 g15 k15 e15 m6 hmd c4 c5 c6 c15 f15
    have X := X8
    clear X8
    generalize World.setCell _ _ _ = W9 at X O7 ⊢
    have hdr : Below W9.heap.size W9 ({ W9 with drawn := W9.drawn + 1 } : World) := (Below.refl _ _).drew
    replace O7 := O7.below hdr
    clear hdr
    go_upto_region 26 with fail
    refine wp_region_held (S := fun u => Nx g ({ n with ph := 5, left := 3, got := ⟨#[]⟩, run := 0, last := 0, pos := 0, cs := ca, cg := cb, box := bx }) ({ p with ab := some ⟨a7, 0, none⟩, cb := c7 }) w u) (by kernel_rfl) ?_
    replace X := X.drew'
    generalize ({ W9 with drawn := W9.drawn + 1 } : World) = W at *
    refine take_at 0 _ (ndV ({ n with ph := 5, left := 3, got := ⟨#[]⟩, run := 0, last := 0, pos := 0, cs := ca, cg := cb, box := bx }) ({ p with ab := some ⟨a7, 0, none⟩, cb := c7 })) rfl rfl (by kernel_rfl) (by kernel_rfl) (by kernel_rfl) (fun _ _ _ h => h) (.inl ⟨rfl, fun u hu => hu.took rfl rfl⟩) X.nx ?_
    simp only [Act.put, List.setIfInBounds_toArray, List.set_cons_zero, List.set_cons_succ]
    refine take_at 1 _ (.pointer (some ⟨g, 4, none⟩)) rfl rfl (by kernel_rfl) (by kernel_rfl) (by kernel_rfl) (fun _ _ _ h => h) (.inl ⟨rfl, fun u hu => by go_simp⟩) X.nx ?_
    simp only [Act.put, List.setIfInBounds_toArray, List.set_cons_zero, List.set_cons_succ]
    refine take_at 2 _ (frV n.fr.id n.fr.rm n.fr.ln p.ad n.fr.D.length p.cd) rfl rfl (by kernel_rfl) (by kernel_rfl) (by kernel_rfl) (fun _ _ _ h => h) (.inl ⟨rfl, fun u hu => by obtain ⟨d4, d5, d6, d7⟩ := hu.cellsTook; go_simp⟩) X.nx ?_
    simp only [Act.put, List.setIfInBounds_toArray, List.set_cons_zero, List.set_cons_succ]
    have hB9 := X.lt
    have hs9 := X.bel.size
    refine call_at 3 _ 103 #[(frV n.fr.id n.fr.rm n.fr.ln p.ad n.fr.D.length p.cd)] rfl rfl (by kernel_rfl) rfl (by go_simp) ?_
    refine (copyFr n.fr.id n.fr.rm n.fr.ln p.ad n.fr.D p.cd _ (hm.below X.bel).nums hD).mono ?_
    rintro e w10 ⟨av, cv, rfl, O10, gg⟩
    have b := below_new gg
    replace X := X.below b
    replace O7 := O7.below b
    clear b gg
    refine ⟨_, rfl, X.nx, ?_⟩
    simp only [Act.put, List.setIfInBounds_toArray, List.set_cons_zero, List.set_cons_succ]
    refine take_at 4 _ (hpV 1 n.fr av cv) rfl rfl (by kernel_rfl) (by kernel_rfl) (by kernel_rfl) (fun _ _ _ h => h) (.inl ⟨rfl, fun u hu => by go_simp⟩) X.nx ?_
    simp only [Act.put, List.setIfInBounds_toArray, List.set_cons_zero, List.set_cons_succ]
    refine held_row 5 gr (ndC ({ n with ph := 5, left := 3, got := ⟨#[]⟩, run := 0, last := 0, pos := 0, cs := ca, cg := cb, box := bx }) ({ p with ab := some ⟨a7, 0, none⟩, cb := c7 })) rfl (by kernel_rfl) rfl rfl rfl rfl rfl X.res (by kernel_rfl) rfl (ndC_one _ _) (X.nxR _) ?_
    refine held_row 6 gh (hpC 1 n.fr av cv) rfl (by kernel_rfl) rfl rfl rfl rfl rfl (X.fin _ #[]).1 (by kernel_rfl) rfl (hpC_one _ _ _ _) (X.nxH _ _) ?_
    refine wpAnyH_done (by kernel_rfl) ?_ _
    obtain ⟨-, Z1, Z2, Z3⟩ := X.fin (ndC ({ n with ph := 5, left := 3, got := ⟨#[]⟩, run := 0, last := 0, pos := 0, cs := ca, cg := cb, box := bx }) ({ p with ab := some ⟨a7, 0, none⟩, cb := c7 })) (hpC 1 n.fr av cv)
    go_wp2_with fail
    refine bodyPost_ret (v := .tuple #[ndV ({ n with ph := 5, left := 3, got := ⟨#[]⟩, run := 0, last := 0, pos := 0, cs := ca, cg := cb, box := bx }) ({ p with ab := some ⟨a7, 0, none⟩, cb := c7 }), hpV 1 n.fr av cv]) ?_ rfl ⟨{ p with ab := some ⟨a7, 0, none⟩, cb := c7 }, av, cv, rfl, fun u k kn => ⟨⟨kn.nums, (((O7.kept2 (grown_row _ gr _) hB6.2.1).kept2 (grown_row _ gh _) hB6.2.2).up k hs6).frsOf hM hbl, kn.fifo, kn.flt, Nat.zero_le _⟩, (((O10.kept2 (grown_row _ gr _) hB9.2.1).kept2 (grown_row _ gh _) hB9.2.2).up k hs9).nums2⟩, Z3⟩
    exact results_both Tryz.results161 _ _ gr gh _ _ rfl rfl Z1 Z2 rfl rfl
end Go.Proofs.YtngcekegngmedaaGreatDoor

/- The model's steps of a node: the body. -/

set_option linter.unusedVariables false
set_option linter.unusedSimpArgs false
set_option maxRecDepth 20000
namespace Go.Proofs.YtngcekegngmedaaGreatDoor
open Go.RowKit


theorem wholeN_lists (n : Nd) : (wholeN n).fr = n.fr ∧ (wholeN n).box = n.box ∧ (wholeN n).fifo = n.fifo ∧ (wholeN n).flt = n.flt ∧ (wholeN n).got = n.got := by unfold wholeN; split <;> exact ⟨rfl, rfl, rfl, rfl, rfl⟩
theorem drv_tx {n : Nd} (hp : n.ph = 1) (hok : nodeB n = true) (htx : n.tx = true) : drvP n = nextV n := by rw [drvP_1 hp hok, if_pos htx]; unfold nextP; rw [if_pos hp]

set_option maxHeartbeats 8000000 in
/-- spec.l12Body, six alike. -/
theorem specBodySix (n : Nd) (p : NdP) (l : Int) (w : World) (h5 : n.run = 5) (hne : l = n.last) :
    Calls Tryz.prog 160 #[ndV n p, .int .i64 l] w (Told (brkN n).1 (brkN n).2.1 p w) := by
  have d5 : (n.run == 5) = true := beq_iff_eq.2 h5
  have dl : (l == n.last) = true := beq_iff_eq.2 hne
  clear hne
  replace h5 := Lib.hid h5
  have X := N3.made (ndC n p) w
  go_enter Tryz.func160, Tryz.ntmps160
  go_upto_region 1 with fail
  generalize World.alloc _ _ = W at X ⊢
  generalize w.heap.size + 1 + 1 = gh at X ⊢
  generalize w.heap.size + 1 = gr at X ⊢
  generalize w.heap.size = g at X ⊢
  have c9 : W.cell? ⟨g, 9, none⟩ = some (.int .i64 n.run) := X.cell 9
  have c10 : W.cell? ⟨g, 10, none⟩ = some (.int .i64 n.last) := X.cell 10
  have f9 := X.free 9
  have f10 := X.free 10
  go_wp2_with (refine Nx.take ⟨X.blk, X.bel⟩ rfl rfl rfl ?_)
  clear c9 c10 f9 f10
  refine (specBreak n p _).mono ?_
  rintro e wq ⟨rfl, b⟩
  replace X := X.below b
  clear b
  go_wp2_with (first | (refine Nx.take ⟨X.blk, X.bel⟩ rfl rfl rfl ?_) | (refine wpList_put X.res rfl rfl rfl rfl rfl ?_) | (refine wpList_tell (k := (brkN n).2.1) (f := zF) (ad := none) (cd := 0) (X.fin (ndC ((brkN n).1) p) #[]).1 rfl rfl rfl rfl rfl ?_))
  obtain ⟨-, Z1, Z2, Z3⟩ := X.fin (ndC ((brkN n).1) p) (hpC ((brkN n).2.1) (zF) (none) (0))
  refine bodyPost_ret (v := .tuple #[ndV ((brkN n).1) p, hpV ((brkN n).2.1) (zF) (none) (0)]) ?_ rfl ⟨rfl, Z3⟩
  exact results_both Tryz.results160 _ _ gr gh _ _ rfl rfl Z1 Z2 rfl rfl

set_option maxHeartbeats 8000000 in
/-- spec.l12Body, behind five alike. -/
theorem specBodyFive (n : Nd) (p : NdP) (l : Int) (w : World) (hm : NdM n p w) (h5 : n.run = 5) (hne : l ≠ n.last) :
    Calls Tryz.prog 160 #[ndV n p, .int .i64 l] w (SampY n p (wholeN { n with run := 1, last := l }, 0, zF) w) := by
  have d5 : (n.run == 5) = true := beq_iff_eq.2 h5
  have dl : (l == n.last) = false := beq_eq_false_iff_ne.2 hne
  clear hne
  replace h5 := Lib.hid h5
  have X := N3.made (ndC n p) w
  go_enter Tryz.func160, Tryz.ntmps160
  go_upto_region 1 with fail
  generalize World.alloc _ _ = W at X ⊢
  generalize w.heap.size + 1 + 1 = gh at X ⊢
  generalize w.heap.size + 1 = gr at X ⊢
  generalize w.heap.size = g at X ⊢
  have c9 : W.cell? ⟨g, 9, none⟩ = some (.int .i64 n.run) := X.cell 9
  have c10 : W.cell? ⟨g, 10, none⟩ = some (.int .i64 n.last) := X.cell 10
  have f9 := X.free 9
  have f10 := X.free 10
  go_upto_region 6 with fail
  clear c9 c10 f9 f10
  replace X : N3 g gr gh (ndC ({ n with run := 1, last := l }) p) w _ := ((X.set 9 (.int .i64 1)).set 10 (.int .i64 l))
  generalize World.setCell _ _ _ = W1 at X ⊢
  go_wp2_with (refine Nx.take ⟨X.blk, X.bel⟩ rfl rfl rfl ?_)
  refine (specWhole ({ n with run := 1, last := l }) p _ hm.size).mono ?_
  rintro e wq ⟨rfl, b⟩
  replace X := X.below b
  clear b
  go_wp2_with fail
  refine (specHappen 0 _).mono ?_
  rintro e wr ⟨rfl, b⟩
  replace X := X.below b
  clear b
  obtain ⟨l1, l2, l3, l4, l5⟩ := wholeN_lists ({ n with run := 1, last := l })
  have hsW : (wholeN ({ n with run := 1, last := l })).got.size ≤ maxLen := by rw [l5]; exact hm.size
  clear l5
  replace l1 := Lib.hid l1
  replace l2 := Lib.hid l2
  replace l3 := Lib.hid l3
  replace l4 := Lib.hid l4
  go_wp2_with (first | (refine Nx.take ⟨X.blk, X.bel⟩ rfl rfl rfl ?_) | (refine wpList_put X.res rfl rfl rfl rfl rfl ?_) | (refine wpList_tell (k := 0) (f := zF) (ad := none) (cd := 0) (X.fin (ndC (wholeN ({ n with run := 1, last := l })) p) #[]).1 rfl rfl rfl rfl rfl ?_))
  obtain ⟨-, Z1, Z2, Z3⟩ := X.fin (ndC (wholeN ({ n with run := 1, last := l })) p) (hpC (0) (zF) (none) (0))
  refine bodyPost_ret (v := .tuple #[ndV (wholeN ({ n with run := 1, last := l })) p, hpV (0) (zF) (none) (0)]) ?_ rfl ⟨p, none, 0, rfl, fun u k kn => ⟨kn.lists (l1.out.trans rfl) (l2.out.trans rfl) (l3.out.trans rfl) (l4.out.trans rfl) hsW, Nums.nil _⟩, Z3⟩
  exact results_both Tryz.results160 _ _ gr gh _ _ rfl rfl Z1 Z2 rfl rfl

set_option maxHeartbeats 8000000 in
/-- spec.l12Body, of one that does not send. -/
theorem specBodyStill (n : Nd) (p : NdP) (l : Int) (w : World) (hm : NdM n p w) (hok : nodeB n = true) (h5 : n.run ≠ 5) (hl : l = 0 ∨ l = 1) (hr : 0 ≤ n.run ∧ n.run ≤ 11) (hs : n.got.size ≤ 98) (htx : n.tx = false) :
    Calls Tryz.prog 160 #[ndV n p, .int .i64 l] w (SampY n p (wholeN (hearN n l), 0, zF) w) := by
  replace htx := Lib.hid htx
  have d5 : (n.run == 5) = false := beq_eq_false_iff_ne.2 h5
  clear h5
  have X := N3.made (ndC n p) w
  go_enter Tryz.func160, Tryz.ntmps160
  go_upto_region 1 with fail
  generalize World.alloc _ _ = W at X ⊢
  generalize w.heap.size + 1 + 1 = gh at X ⊢
  generalize w.heap.size + 1 = gr at X ⊢
  generalize w.heap.size = g at X ⊢
  have c9 : W.cell? ⟨g, 9, none⟩ = some (.int .i64 n.run) := X.cell 9
  go_wp2_with (refine Nx.take ⟨X.blk, X.bel⟩ rfl rfl rfl ?_)
  clear c9
  refine (specDrv n p _ (hm.below X.bel) hok).mono ?_
  rintro e w2 ⟨rfl, b⟩
  replace X := X.below b
  clear b
  have c1 : w2.cell? ⟨g, 1, none⟩ = some (.bool n.tx) := X.cell 1
  have c8 : w2.cell? ⟨g, 8, none⟩ = some (.string n.got) := X.cell 8
  have f1 := X.free 1
  rw [htx.out] at c1
  go_wp2_with (refine Nx.take ⟨X.blk, X.bel⟩ rfl rfl rfl ?_)
  clear c1 c8 f1
  refine (specHear (n) p l _ hl hr hs).mono ?_
  rintro e w5 ⟨rfl, b⟩
  replace X := X.below b
  clear b
  have hsz1 : (hearN (n) l).got.size ≤ maxLen := by have := hear_size (n) l; have h2 : n.got.size ≤ 98 := hs; have h3 : (hearN (n) l).got.size = n.got.size + 1 := this; unfold maxLen; omega
  go_wp2_with fail
  refine (specWhole (hearN (n) l) p _ hsz1).mono ?_
  rintro e wq ⟨rfl, b⟩
  replace X := X.below b
  clear b
  go_wp2_with fail
  refine (specHappen 0 _).mono ?_
  rintro e wr ⟨rfl, b⟩
  replace X := X.below b
  clear b
  obtain ⟨l1, l2, l3, l4, l5⟩ := wholeN_lists (hearN (n) l)
  have hsW : (wholeN (hearN (n) l)).got.size ≤ maxLen := by rw [l5]; exact hsz1
  clear l5
  replace l1 := Lib.hid l1
  replace l2 := Lib.hid l2
  replace l3 := Lib.hid l3
  replace l4 := Lib.hid l4
  go_wp2_with (first | (refine Nx.take ⟨X.blk, X.bel⟩ rfl rfl rfl ?_) | (refine wpList_put X.res rfl rfl rfl rfl rfl ?_) | (refine wpList_tell (k := 0) (f := zF) (ad := none) (cd := 0) (X.fin (ndC (wholeN (hearN (n) l)) p) #[]).1 rfl rfl rfl rfl rfl ?_))
  obtain ⟨-, Z1, Z2, Z3⟩ := X.fin (ndC (wholeN (hearN (n) l)) p) (hpC (0) (zF) (none) (0))
  refine bodyPost_ret (v := .tuple #[ndV (wholeN (hearN (n) l)) p, hpV (0) (zF) (none) (0)]) ?_ rfl ⟨p, none, 0, rfl, fun u k kn => ⟨kn.lists (l1.out.trans rfl) (l2.out.trans rfl) (l3.out.trans rfl) (l4.out.trans rfl) hsW, Nums.nil _⟩, Z3⟩
  exact results_both Tryz.results160 _ _ gr gh _ _ rfl rfl Z1 Z2 rfl rfl

set_option maxHeartbeats 8000000 in
/-- spec.l12Body, of one that goes on. -/
theorem specBodyKeep (n : Nd) (p : NdP) (l : Int) (w : World) (hm : NdM n p w) (hok : nodeB n = true) (h5 : n.run ≠ 5) (hl : l = 0 ∨ l = 1) (hr : 0 ≤ n.run ∧ n.run ≤ 11) (hs : n.got.size ≤ 98) (htx : n.tx = true) (hp1 : n.ph = 1) (hk : l = nextV n) :
    Calls Tryz.prog 160 #[ndV n p, .int .i64 l] w (SampY n p (wholeN (hearN n l), 0, zF) w) := by
  have dq : (l == drvP n) = true := beq_iff_eq.2 (hk.trans (drv_tx hp1 hok htx).symm)
  replace htx := Lib.hid htx
  replace hk := Lib.hid hk
  replace hp1 := Lib.hid hp1
  have d5 : (n.run == 5) = false := beq_eq_false_iff_ne.2 h5
  clear h5
  have X := N3.made (ndC n p) w
  go_enter Tryz.func160, Tryz.ntmps160
  go_upto_region 1 with fail
  generalize World.alloc _ _ = W at X ⊢
  generalize w.heap.size + 1 + 1 = gh at X ⊢
  generalize w.heap.size + 1 = gr at X ⊢
  generalize w.heap.size = g at X ⊢
  have c9 : W.cell? ⟨g, 9, none⟩ = some (.int .i64 n.run) := X.cell 9
  go_wp2_with (refine Nx.take ⟨X.blk, X.bel⟩ rfl rfl rfl ?_)
  clear c9
  refine (specDrv n p _ (hm.below X.bel) hok).mono ?_
  rintro e w2 ⟨rfl, b⟩
  replace X := X.below b
  clear b
  have c1 : w2.cell? ⟨g, 1, none⟩ = some (.bool n.tx) := X.cell 1
  have c8 : w2.cell? ⟨g, 8, none⟩ = some (.string n.got) := X.cell 8
  have f1 := X.free 1
  rw [htx.out] at c1
  generalize drvP n = q at *
  go_wp2_with (refine Nx.take ⟨X.blk, X.bel⟩ rfl rfl rfl ?_)
  clear c1 c8 f1
  refine (specHear (n) p l _ hl hr hs).mono ?_
  rintro e w5 ⟨rfl, b⟩
  replace X := X.below b
  clear b
  have hsz1 : (hearN (n) l).got.size ≤ maxLen := by have := hear_size (n) l; have h2 : n.got.size ≤ 98 := hs; have h3 : (hearN (n) l).got.size = n.got.size + 1 := this; unfold maxLen; omega
  go_wp2_with fail
  refine (specWhole (hearN (n) l) p _ hsz1).mono ?_
  rintro e wq ⟨rfl, b⟩
  replace X := X.below b
  clear b
  go_wp2_with fail
  refine (specHappen 0 _).mono ?_
  rintro e wr ⟨rfl, b⟩
  replace X := X.below b
  clear b
  obtain ⟨l1, l2, l3, l4, l5⟩ := wholeN_lists (hearN (n) l)
  have hsW : (wholeN (hearN (n) l)).got.size ≤ maxLen := by rw [l5]; exact hsz1
  clear l5
  replace l1 := Lib.hid l1
  replace l2 := Lib.hid l2
  replace l3 := Lib.hid l3
  replace l4 := Lib.hid l4
  go_wp2_with (first | (refine Nx.take ⟨X.blk, X.bel⟩ rfl rfl rfl ?_) | (refine wpList_put X.res rfl rfl rfl rfl rfl ?_) | (refine wpList_tell (k := 0) (f := zF) (ad := none) (cd := 0) (X.fin (ndC (wholeN (hearN (n) l)) p) #[]).1 rfl rfl rfl rfl rfl ?_))
  obtain ⟨-, Z1, Z2, Z3⟩ := X.fin (ndC (wholeN (hearN (n) l)) p) (hpC (0) (zF) (none) (0))
  refine bodyPost_ret (v := .tuple #[ndV (wholeN (hearN (n) l)) p, hpV (0) (zF) (none) (0)]) ?_ rfl ⟨p, none, 0, rfl, fun u k kn => ⟨kn.lists (l1.out.trans rfl) (l2.out.trans rfl) (l3.out.trans rfl) (l4.out.trans rfl) hsW, Nums.nil _⟩, Z3⟩
  exact results_both Tryz.results160 _ _ gr gh _ _ rfl rfl Z1 Z2 rfl rfl

set_option maxHeartbeats 8000000 in
/-- spec.l12Body, of one that falls silent. -/
theorem specBodyLose (n : Nd) (p : NdP) (l : Int) (w : World) (hm : NdM n p w) (hok : nodeB n = true) (h5 : n.run ≠ 5) (hl : l = 0 ∨ l = 1) (hr : 0 ≤ n.run ∧ n.run ≤ 11) (hs : n.got.size ≤ 98) (htx : n.tx = true) (hp1 : n.ph = 1) (hk : l ≠ nextV n) (h2 : ¬ (nextV n = 0 ∨ 12 < n.got.size)) :
    Calls Tryz.prog 160 #[ndV n p, .int .i64 l] w (SampY n p (wholeN (hearN { n with tx := false } l), 0, zF) w) := by
  have hdr := drv_tx hp1 hok htx
  have dq : (l == drvP n) = false := beq_eq_false_iff_ne.2 (fun k => hk (k.trans hdr))
  replace htx := Lib.hid htx
  replace hk := Lib.hid hk
  replace hp1 := Lib.hid hp1
  have dz : (drvP n == 0) = false := beq_eq_false_iff_ne.2 (by rw [hdr]; exact fun k => h2 (.inl k))
  have d12 : decide (12 < (n.got.size : Int)) = false := decide_eq_false (by have := fun k => h2 (.inr k); omega)
  clear h2 hdr
  have d5 : (n.run == 5) = false := beq_eq_false_iff_ne.2 h5
  clear h5
  have X := N3.made (ndC n p) w
  go_enter Tryz.func160, Tryz.ntmps160
  go_upto_region 1 with fail
  generalize World.alloc _ _ = W at X ⊢
  generalize w.heap.size + 1 + 1 = gh at X ⊢
  generalize w.heap.size + 1 = gr at X ⊢
  generalize w.heap.size = g at X ⊢
  have c9 : W.cell? ⟨g, 9, none⟩ = some (.int .i64 n.run) := X.cell 9
  go_wp2_with (refine Nx.take ⟨X.blk, X.bel⟩ rfl rfl rfl ?_)
  clear c9
  refine (specDrv n p _ (hm.below X.bel) hok).mono ?_
  rintro e w2 ⟨rfl, b⟩
  replace X := X.below b
  clear b
  have c1 : w2.cell? ⟨g, 1, none⟩ = some (.bool n.tx) := X.cell 1
  have c8 : w2.cell? ⟨g, 8, none⟩ = some (.string n.got) := X.cell 8
  have f1 := X.free 1
  rw [htx.out] at c1
  generalize drvP n = q at *
  go_upto_region 12 with fail
  clear c1 c8 f1
  replace X : N3 g gr gh (ndC ({ n with tx := false }) p) w _ := (X.set 1 (.bool false))
  generalize World.setCell _ _ _ = W3 at X ⊢
  go_wp2_with (refine Nx.take ⟨X.blk, X.bel⟩ rfl rfl rfl ?_)
  refine (specHear ({ n with tx := false }) p l _ hl hr hs).mono ?_
  rintro e w5 ⟨rfl, b⟩
  replace X := X.below b
  clear b
  have hsz1 : (hearN ({ n with tx := false }) l).got.size ≤ maxLen := by have := hear_size ({ n with tx := false }) l; have h2 : n.got.size ≤ 98 := hs; have h3 : (hearN ({ n with tx := false }) l).got.size = n.got.size + 1 := this; unfold maxLen; omega
  go_wp2_with fail
  refine (specWhole (hearN ({ n with tx := false }) l) p _ hsz1).mono ?_
  rintro e wq ⟨rfl, b⟩
  replace X := X.below b
  clear b
  go_wp2_with fail
  refine (specHappen 0 _).mono ?_
  rintro e wr ⟨rfl, b⟩
  replace X := X.below b
  clear b
  obtain ⟨l1, l2, l3, l4, l5⟩ := wholeN_lists (hearN ({ n with tx := false }) l)
  have hsW : (wholeN (hearN ({ n with tx := false }) l)).got.size ≤ maxLen := by rw [l5]; exact hsz1
  clear l5
  replace l1 := Lib.hid l1
  replace l2 := Lib.hid l2
  replace l3 := Lib.hid l3
  replace l4 := Lib.hid l4
  go_wp2_with (first | (refine Nx.take ⟨X.blk, X.bel⟩ rfl rfl rfl ?_) | (refine wpList_put X.res rfl rfl rfl rfl rfl ?_) | (refine wpList_tell (k := 0) (f := zF) (ad := none) (cd := 0) (X.fin (ndC (wholeN (hearN ({ n with tx := false }) l)) p) #[]).1 rfl rfl rfl rfl rfl ?_))
  obtain ⟨-, Z1, Z2, Z3⟩ := X.fin (ndC (wholeN (hearN ({ n with tx := false }) l)) p) (hpC (0) (zF) (none) (0))
  refine bodyPost_ret (v := .tuple #[ndV (wholeN (hearN ({ n with tx := false }) l)) p, hpV (0) (zF) (none) (0)]) ?_ rfl ⟨p, none, 0, rfl, fun u k kn => ⟨kn.lists (l1.out.trans rfl) (l2.out.trans rfl) (l3.out.trans rfl) (l4.out.trans rfl) hsW, Nums.nil _⟩, Z3⟩
  exact results_both Tryz.results160 _ _ gr gh _ _ rfl rfl Z1 Z2 rfl rfl

set_option maxHeartbeats 8000000 in
/-- spec.l12Body, where it parts. -/
theorem specBodyPart (n : Nd) (p : NdP) (l : Int) (w : World) (hm : NdM n p w) (hok : nodeB n = true) (h5 : n.run ≠ 5) (htx : n.tx = true) (hp1 : n.ph = 1) (hk : l ≠ nextV n) (h2 : nextV n = 0 ∨ 12 < n.got.size) :
    Calls Tryz.prog 160 #[ndV n p, .int .i64 l] w (Told (brkN n).1 (brkN n).2.1 p w) := by
  have hdr := drv_tx hp1 hok htx
  have dq : (l == drvP n) = false := beq_eq_false_iff_ne.2 (fun k => hk (k.trans hdr))
  replace htx := Lib.hid htx
  replace hk := Lib.hid hk
  replace hp1 := Lib.hid hp1
  by_cases hz : nextV n = 0
  · have dz : (drvP n == 0) = true := beq_iff_eq.2 (hdr.trans hz)
    clear h2 hdr hz
    have d5 : (n.run == 5) = false := beq_eq_false_iff_ne.2 h5
    clear h5
    have X := N3.made (ndC n p) w
    go_enter Tryz.func160, Tryz.ntmps160
    go_upto_region 1 with fail
    generalize World.alloc _ _ = W at X ⊢
    generalize w.heap.size + 1 + 1 = gh at X ⊢
    generalize w.heap.size + 1 = gr at X ⊢
    generalize w.heap.size = g at X ⊢
    have c9 : W.cell? ⟨g, 9, none⟩ = some (.int .i64 n.run) := X.cell 9
    go_wp2_with (refine Nx.take ⟨X.blk, X.bel⟩ rfl rfl rfl ?_)
    clear c9
    refine (specDrv n p _ (hm.below X.bel) hok).mono ?_
    rintro e w2 ⟨rfl, b⟩
    replace X := X.below b
    clear b
    have c1 : w2.cell? ⟨g, 1, none⟩ = some (.bool n.tx) := X.cell 1
    have c8 : w2.cell? ⟨g, 8, none⟩ = some (.string n.got) := X.cell 8
    have f1 := X.free 1
    rw [htx.out] at c1
    generalize drvP n = q at *
    go_wp2_with (refine Nx.take ⟨X.blk, X.bel⟩ rfl rfl rfl ?_)
    clear c1 c8 f1
    refine (specBreak n p _).mono ?_
    rintro e wq ⟨rfl, b⟩
    replace X := X.below b
    clear b
    go_wp2_with (first | (refine Nx.take ⟨X.blk, X.bel⟩ rfl rfl rfl ?_) | (refine wpList_put X.res rfl rfl rfl rfl rfl ?_) | (refine wpList_tell (k := (brkN n).2.1) (f := zF) (ad := none) (cd := 0) (X.fin (ndC ((brkN n).1) p) #[]).1 rfl rfl rfl rfl rfl ?_))
    obtain ⟨-, Z1, Z2, Z3⟩ := X.fin (ndC ((brkN n).1) p) (hpC ((brkN n).2.1) (zF) (none) (0))
    refine bodyPost_ret (v := .tuple #[ndV ((brkN n).1) p, hpV ((brkN n).2.1) (zF) (none) (0)]) ?_ rfl ⟨rfl, Z3⟩
    exact results_both Tryz.results160 _ _ gr gh _ _ rfl rfl Z1 Z2 rfl rfl
  · have dz : (drvP n == 0) = false := beq_eq_false_iff_ne.2 (by rw [hdr]; exact hz)
    have d12 : decide (12 < (n.got.size : Int)) = true := decide_eq_true (by rcases h2 with h2 | h2; exact absurd h2 hz; omega)
    clear h2 hdr hz
    have d5 : (n.run == 5) = false := beq_eq_false_iff_ne.2 h5
    clear h5
    have X := N3.made (ndC n p) w
    go_enter Tryz.func160, Tryz.ntmps160
    go_upto_region 1 with fail
    generalize World.alloc _ _ = W at X ⊢
    generalize w.heap.size + 1 + 1 = gh at X ⊢
    generalize w.heap.size + 1 = gr at X ⊢
    generalize w.heap.size = g at X ⊢
    have c9 : W.cell? ⟨g, 9, none⟩ = some (.int .i64 n.run) := X.cell 9
    go_wp2_with (refine Nx.take ⟨X.blk, X.bel⟩ rfl rfl rfl ?_)
    clear c9
    refine (specDrv n p _ (hm.below X.bel) hok).mono ?_
    rintro e w2 ⟨rfl, b⟩
    replace X := X.below b
    clear b
    have c1 : w2.cell? ⟨g, 1, none⟩ = some (.bool n.tx) := X.cell 1
    have c8 : w2.cell? ⟨g, 8, none⟩ = some (.string n.got) := X.cell 8
    have f1 := X.free 1
    rw [htx.out] at c1
    generalize drvP n = q at *
    go_wp2_with (refine Nx.take ⟨X.blk, X.bel⟩ rfl rfl rfl ?_)
    clear c1 c8 f1
    refine (specBreak n p _).mono ?_
    rintro e wq ⟨rfl, b⟩
    replace X := X.below b
    clear b
    go_wp2_with (first | (refine Nx.take ⟨X.blk, X.bel⟩ rfl rfl rfl ?_) | (refine wpList_put X.res rfl rfl rfl rfl rfl ?_) | (refine wpList_tell (k := (brkN n).2.1) (f := zF) (ad := none) (cd := 0) (X.fin (ndC ((brkN n).1) p) #[]).1 rfl rfl rfl rfl rfl ?_))
    obtain ⟨-, Z1, Z2, Z3⟩ := X.fin (ndC ((brkN n).1) p) (hpC ((brkN n).2.1) (zF) (none) (0))
    refine bodyPost_ret (v := .tuple #[ndV ((brkN n).1) p, hpV ((brkN n).2.1) (zF) (none) (0)]) ?_ rfl ⟨rfl, Z3⟩
    exact results_both Tryz.results160 _ _ gr gh _ _ rfl rfl Z1 Z2 rfl rfl
end Go.Proofs.YtngcekegngmedaaGreatDoor

/- The model's steps of a node: a right node's. -/

set_option linter.unusedVariables false
set_option linter.unusedSimpArgs false
set_option maxRecDepth 20000
namespace Go.Proofs.YtngcekegngmedaaGreatDoor
open Go.RowKit


section
variable {n r : Nd} {p : NdP} {k : Int} {w w' : World} {e : Ending}
theorem Told.y (h : Told r k p w e w') (e1 : r.fr = n.fr) (e2 : r.box = n.box) (e3 : r.fifo = n.fifo) (e4 : r.flt = n.flt) (hs : r.got.size ≤ maxLen) : SampY n p (r, k, zF) w e w' :=
  ⟨p, none, 0, h.1, fun u km kn => ⟨kn.lists e1 e2 e3 e4 hs, Nums.nil _⟩, h.2⟩
theorem lists_zero {m : Nd} {u : World} (kn : NdM n p u) (e1 : m.fr = zF) (e2 : m.box = n.box) (e3 : m.fifo = n.fifo) (e4 : m.flt = n.flt) (hs : m.got.size ≤ maxLen) : NdM m { p with ad := none, cd := 0 } u :=
  ⟨by rw [e1]; exact Nums.nil _, by rw [e2]; exact kn.box, by rw [e3]; exact kn.fifo, by rw [e4]; exact kn.flt, hs⟩
theorem TellF.y (h : TellF r k n p w e w') (e2 : r.box = n.box) (e3 : r.fifo = n.fifo) (e4 : r.flt = n.flt) (hs : r.got.size ≤ maxLen) : SampY n p (r, k, zF) w e w' := by
  obtain ⟨q, ht, h | h⟩ := h
  · obtain ⟨e1, rfl⟩ := h
    exact ht.y e1 e2 e3 e4 hs
  · obtain ⟨e1, rfl⟩ := h
    exact ⟨_, none, 0, ht.1, fun u km kn => ⟨lists_zero kn e1 e2 e3 e4 hs, Nums.nil _⟩, ht.2⟩
end
theorem brkY {n : Nd} {p : NdP} {w w' : World} {e : Ending} (h : Told (brkN n).1 (brkN n).2.1 p w e w') : SampY n p (brkN n) w e w' := by
  obtain ⟨l1, l2, l3, l4, l5⟩ := brkN_lists n
  have := h.y l1 l2 l3 l4 l5
  have e2 := brkN_fr n
  rw [← e2] at this
  exact this
theorem specBodyY (n : Nd) (p : NdP) (l : Int) (w : World) (hm : NdM n p w) (hok : nodeB n = true) (hp : n.ph = 1) (hl : l = 0 ∨ l = 1) : Calls Tryz.prog 160 #[ndV n p, .int .i64 l] w (SampY n p (bodyN n l) w) := by
  obtain ⟨R, W1⟩ := right_iff.1 hok
  unfold bodyN
  by_cases h5 : n.run = 5
  · rw [if_pos h5]
    by_cases hne : l = n.last
    · rw [if_pos hne]; exact (specBodySix n p l w h5 hne).mono fun _ _ h => brkY h
    · rw [if_neg hne]; exact specBodyFive n p l w hm h5 hne
  · rw [if_neg h5]
    by_cases hk : n.tx = true ∧ l ≠ nextV n
    · rw [if_pos hk]
      by_cases h2 : nextV n = 0 ∨ 12 < n.got.size
      · rw [if_pos h2]; exact (specBodyPart n p l w hm hok h5 hk.1 hp hk.2 h2).mono fun _ _ h => brkY h
      · rw [if_neg h2]; exact specBodyLose n p l w hm hok h5 hl R.run R.size hk.1 hp hk.2 h2
    · rw [if_neg hk]
      rcases (Bool.eq_false_or_eq_true n.tx).symm with ht | ht
      · exact specBodyStill n p l w hm hok h5 hl R.run R.size ht
      · exact specBodyKeep n p l w hm hok h5 hl R.run R.size ht hp (Classical.byContradiction fun k => hk ⟨ht, k⟩)
theorem specTailY (n : Nd) (p : NdP) (l : Int) (w : World) (hm : NdM n p w) (hok : nodeB n = true) (hl : l = 0 ∨ l = 1) : Calls Tryz.prog 161 #[ndV n p, .int .i64 l] w (SampY n p (tailN n l) w) := by
  obtain ⟨R, W1⟩ := right_iff.1 hok
  have hpos := R.pos
  have hD : n.fr.D.length ≤ 1000 := by have := frOk_max (show frOk n.fr.id n.fr.rm n.fr.ln n.fr.D = true from R.fr); omega
  unfold tailN
  cases ht : tailB n l
  · rw [if_neg (by decide)]
    unfold tailB at ht
    by_cases h1 : n.pos = 1
    · rw [if_pos h1] at ht
      rw [if_pos (by omega), if_neg (fun k => by omega)]
      rcases (Bool.eq_false_or_eq_true n.tx).symm with htx | htx
      · exact specTailO0 n p l w hm h1 htx hl
      · rw [htx, Bool.true_and, decide_eq_false_iff_not] at ht
        obtain rfl : l = 0 := by omega
        exact specTailO1 n p w hm h1 htx
    rw [if_neg h1] at ht
    by_cases h2 : n.pos = 2
    · rw [if_pos h2, Bool.or_eq_false_iff, decide_eq_false_iff_not] at ht
      rw [if_pos (by omega), if_neg (fun k => by omega)]
      obtain rfl : l = 1 := by omega
      exact specTailO2 n p w hm h2 ht.2
    rw [if_neg h2] at ht
    by_cases h9 : n.pos = 9
    · rw [if_neg (by omega)]
      rcases (Bool.eq_false_or_eq_true n.tx).symm with htx | htx
      · rw [if_neg (by rw [htx]; decide)]
        exact specTailLast n p l w hm h9 htx hl
      · rw [if_pos h9, htx, Bool.true_and, decide_eq_false_iff_not] at ht
        rw [if_pos htx]
        obtain rfl : l = 1 := by omega
        exact specTailSent n p w hm h9 htx R.box hD
    rw [if_neg h9, decide_eq_false_iff_not] at ht
    obtain rfl : l = 1 := by omega
    rw [if_pos (by omega)]
    by_cases h8 : n.pos = 8
    · rcases (Bool.eq_false_or_eq_true n.tx).symm with htx | htx
      · rw [if_pos ⟨h8, htx⟩]
        exact specTailHeard n p w hm h8 htx (fifo_32 R.fifo) (fifo_short R.fifo)
      · rw [if_neg (fun k => by rw [htx] at k; cases k.2), h8]
        exact specTailEight n p w hm h8 htx
    · rw [if_neg (fun k => h8 k.1)]
      exact specTailO3 n p w hm ⟨⟨hpos.1, by omega⟩, h1, h2⟩
  · rw [if_pos rfl]
    unfold tailB at ht
    by_cases h1 : n.pos = 1
    · rw [if_pos h1, Bool.and_eq_true, decide_eq_true_eq] at ht
      obtain ⟨htx, rfl⟩ := ht
      exact (specTailB0 n p w h1 htx).mono fun _ _ h => brkY h
    rw [if_neg h1] at ht
    by_cases h2 : n.pos = 2
    · rw [if_pos h2, Bool.or_eq_true, decide_eq_true_eq] at ht
      rcases hl with rfl | rfl
      · exact (specTailB1 n p w h2).mono fun _ _ h => brkY h
      · exact (specTailB2 n p w h2 (by rcases ht with h | h; cases h; exact h)).mono fun _ _ h => brkY h
    rw [if_neg h2] at ht
    by_cases h9 : n.pos = 9
    · rw [if_pos h9, Bool.and_eq_true, decide_eq_true_eq] at ht
      obtain ⟨htx, rfl⟩ := ht
      exact (specTailB3 n p w h9 htx).mono fun _ _ h => brkY h
    rw [if_neg h9, decide_eq_true_eq] at ht
    subst ht
    exact (specTailB4 n p w ⟨hpos, h1, h2, h9⟩).mono fun _ _ h => brkY h

set_option maxHeartbeats 8000000 in
/-- spec.l12Sample in PhBody. -/
theorem specSample1 (n : Nd) (p : NdP) (l : Int) (w : World) (hm : NdM n p w) (hok : nodeB n = true) (hl : l = 0 ∨ l = 1) (hp : n.ph = 1) :
    Calls Tryz.prog 82 #[ndV n p, .int .i64 l] w (SampY n p (bodyN n l) w) := by
  have hp' := Lib.hid hp
  replace hp := Lib.hid hp
  have X := N3.made (ndC n p) w
  go_enter Tryz.func82, Tryz.ntmps82
  go_upto_region 1 with fail
  generalize World.alloc _ _ = W at X ⊢
  generalize w.heap.size + 1 + 1 = gh at X ⊢
  generalize w.heap.size + 1 = gr at X ⊢
  generalize w.heap.size = g at X ⊢
  have c0 : W.cell? ⟨g, 0, none⟩ = some (.int .i64 1) := (X.cell 0).trans (by rw [← hp.out]; rfl)
  go_wp2_with (refine Nx.take ⟨X.blk, X.bel⟩ rfl rfl rfl ?_)
  clear c0
  have hlt := X.lt
  have hsz := X.bel.size
  refine (specBodyY n p l _ (hm.below X.bel) hok hp'.out hl).mono ?_
  rintro e w5 ⟨p5, ad5, cd5, rfl, hk5, b⟩
  replace X := X.below b
  clear b
  go_wp2_with (first | (refine wpList_put (n := (bodyN n l).1) (p := p5) X.res rfl rfl rfl rfl rfl ?_) | (refine wpList_tell (k := (bodyN n l).2.1) (f := (bodyN n l).2.2) (ad := ad5) (cd := cd5) (X.fin (ndC (bodyN n l).1 p5) #[]).1 rfl rfl rfl rfl rfl ?_))
  have hmf := X.upFin (ndC (bodyN n l).1 p5) (hpC (bodyN n l).2.1 (bodyN n l).2.2 ad5 cd5) hlt.2.1 hlt.2.2
  obtain ⟨-, Z1, Z2, Z3⟩ := X.fin (ndC (bodyN n l).1 p5) (hpC (bodyN n l).2.1 (bodyN n l).2.2 ad5 cd5)
  refine bodyPost_ret (v := .tuple #[ndV (bodyN n l).1 p5, hpV (bodyN n l).2.1 (bodyN n l).2.2 ad5 cd5]) ?_ rfl ⟨p5, ad5, cd5, rfl, fun u k kn => hk5 u (hmf.trans (k.higher hsz)) kn, Z3⟩
  exact results_both Tryz.results82 _ _ gr gh _ _ rfl rfl Z1 Z2 rfl rfl

set_option maxHeartbeats 8000000 in
/-- spec.l12Sample in PhTail. -/
theorem specSample2 (n : Nd) (p : NdP) (l : Int) (w : World) (hm : NdM n p w) (hok : nodeB n = true) (hl : l = 0 ∨ l = 1) (hp : n.ph = 2) :
    Calls Tryz.prog 82 #[ndV n p, .int .i64 l] w (SampY n p (tailN n l) w) := by
  replace hp := Lib.hid hp
  have X := N3.made (ndC n p) w
  go_enter Tryz.func82, Tryz.ntmps82
  go_upto_region 1 with fail
  generalize World.alloc _ _ = W at X ⊢
  generalize w.heap.size + 1 + 1 = gh at X ⊢
  generalize w.heap.size + 1 = gr at X ⊢
  generalize w.heap.size = g at X ⊢
  have c0 : W.cell? ⟨g, 0, none⟩ = some (.int .i64 2) := (X.cell 0).trans (by rw [← hp.out]; rfl)
  go_wp2_with (refine Nx.take ⟨X.blk, X.bel⟩ rfl rfl rfl ?_)
  clear c0
  have hlt := X.lt
  have hsz := X.bel.size
  refine (specTailY n p l _ (hm.below X.bel) hok hl).mono ?_
  rintro e w5 ⟨p5, ad5, cd5, rfl, hk5, b⟩
  replace X := X.below b
  clear b
  go_wp2_with (first | (refine wpList_put (n := (tailN n l).1) (p := p5) X.res rfl rfl rfl rfl rfl ?_) | (refine wpList_tell (k := (tailN n l).2.1) (f := (tailN n l).2.2) (ad := ad5) (cd := cd5) (X.fin (ndC (tailN n l).1 p5) #[]).1 rfl rfl rfl rfl rfl ?_))
  have hmf := X.upFin (ndC (tailN n l).1 p5) (hpC (tailN n l).2.1 (tailN n l).2.2 ad5 cd5) hlt.2.1 hlt.2.2
  obtain ⟨-, Z1, Z2, Z3⟩ := X.fin (ndC (tailN n l).1 p5) (hpC (tailN n l).2.1 (tailN n l).2.2 ad5 cd5)
  refine bodyPost_ret (v := .tuple #[ndV (tailN n l).1 p5, hpV (tailN n l).2.1 (tailN n l).2.2 ad5 cd5]) ?_ rfl ⟨p5, ad5, cd5, rfl, fun u k kn => hk5 u (hmf.trans (k.higher hsz)) kn, Z3⟩
  exact results_both Tryz.results82 _ _ gr gh _ _ rfl rfl Z1 Z2 rfl rfl

theorem offY {n : Nd} {p : NdP} {l : Int} {w w' : World} {e : Ending} (hs : n.got.size ≤ maxLen) (h : TellF (offN n l).1 (offN n l).2.1 n p w e w') : SampY n p (offN n l) w e w' := by
  obtain ⟨e2, e3, e4, e5, e6⟩ := offN_lists n l
  have := h.y e2 e3 e4 (by rw [e5]; exact hs)
  rw [← e6] at this
  exact this

set_option maxHeartbeats 8000000 in
/-- spec.l12Sample in PhOff. -/
theorem specSample7 (n : Nd) (p : NdP) (l : Int) (w : World) (hm : NdM n p w) (hok : nodeB n = true) (hl : l = 0 ∨ l = 1) (hp : n.ph = 7) :
    Calls Tryz.prog 82 #[ndV n p, .int .i64 l] w (SampY n p (offN n l) w) := by
  obtain ⟨R, -⟩ := right_iff.1 hok
  have hRl := R.left
  have hRr := R.run
  clear R
  replace hp := Lib.hid hp
  have X := N3.made (ndC n p) w
  go_enter Tryz.func82, Tryz.ntmps82
  go_upto_region 1 with fail
  generalize World.alloc _ _ = W at X ⊢
  generalize w.heap.size + 1 + 1 = gh at X ⊢
  generalize w.heap.size + 1 = gr at X ⊢
  generalize w.heap.size = g at X ⊢
  have c0 : W.cell? ⟨g, 0, none⟩ = some (.int .i64 7) := (X.cell 0).trans (by rw [← hp.out]; rfl)
  go_wp2_with (refine Nx.take ⟨X.blk, X.bel⟩ rfl rfl rfl ?_)
  clear c0
  have hlt := X.lt
  have hsz := X.bel.size
  refine ((specOff n p l _ hl hRl hRr).mono fun _ _ h => offY hm.size h).mono ?_
  rintro e w5 ⟨p5, ad5, cd5, rfl, hk5, b⟩
  replace X := X.below b
  clear b
  go_wp2_with (first | (refine wpList_put (n := (offN n l).1) (p := p5) X.res rfl rfl rfl rfl rfl ?_) | (refine wpList_tell (k := (offN n l).2.1) (f := (offN n l).2.2) (ad := ad5) (cd := cd5) (X.fin (ndC (offN n l).1 p5) #[]).1 rfl rfl rfl rfl rfl ?_))
  have hmf := X.upFin (ndC (offN n l).1 p5) (hpC (offN n l).2.1 (offN n l).2.2 ad5 cd5) hlt.2.1 hlt.2.2
  obtain ⟨-, Z1, Z2, Z3⟩ := X.fin (ndC (offN n l).1 p5) (hpC (offN n l).2.1 (offN n l).2.2 ad5 cd5)
  refine bodyPost_ret (v := .tuple #[ndV (offN n l).1 p5, hpV (offN n l).2.1 (offN n l).2.2 ad5 cd5]) ?_ rfl ⟨p5, ad5, cd5, rfl, fun u k kn => hk5 u (hmf.trans (k.higher hsz)) kn, Z3⟩
  exact results_both Tryz.results82 _ _ gr gh _ _ rfl rfl Z1 Z2 rfl rfl

theorem pauseN_lists (n : Nd) (l : Int) : (pauseN n l).box = n.box ∧ (pauseN n l).fifo = n.fifo ∧ (pauseN n l).flt = n.flt ∧ ((pauseN n l).got = n.got ∨ (pauseN n l).got = ⟨#[48]⟩) := by
  unfold pauseN
  split
  · split <;> exact ⟨rfl, rfl, rfl, .inl rfl⟩
  split
  · split
    · exact ⟨rfl, rfl, rfl, .inl rfl⟩
    · split <;> exact ⟨rfl, rfl, rfl, .inl rfl⟩
  split
  · split
    · split <;> exact ⟨rfl, rfl, rfl, .inl rfl⟩
    · exact ⟨rfl, rfl, rfl, .inl rfl⟩
  split
  · split
    · exact ⟨rfl, rfl, rfl, .inr rfl⟩
    · split <;> exact ⟨rfl, rfl, rfl, .inl rfl⟩
  · exact ⟨rfl, rfl, rfl, .inl rfl⟩

set_option maxHeartbeats 8000000 in
/-- spec.l12Sample in a pause. -/
theorem specSample3 (n : Nd) (p : NdP) (l : Int) (w : World) (hm : NdM n p w) (hok : nodeB n = true) (hl : l = 0 ∨ l = 1) (hp : n.ph = 3) :
    Calls Tryz.prog 82 #[ndV n p, .int .i64 l] w (SampY n p (pauseN n l, 0, zF) w) := by
  have hpa := Lib.hid (pauseN_lists n l)
  have hp' := Lib.hid hp
  obtain ⟨R, -⟩ := right_iff.1 hok
  have hRl := R.left
  clear R
  replace hp := Lib.hid hp
  have X := N3.made (ndC n p) w
  go_enter Tryz.func82, Tryz.ntmps82
  go_upto_region 1 with fail
  generalize World.alloc _ _ = W at X ⊢
  generalize w.heap.size + 1 + 1 = gh at X ⊢
  generalize w.heap.size + 1 = gr at X ⊢
  generalize w.heap.size = g at X ⊢
  have c0 : W.cell? ⟨g, 0, none⟩ = some (.int .i64 3) := (X.cell 0).trans (by rw [← hp.out]; rfl)
  go_wp2_with (refine Nx.take ⟨X.blk, X.bel⟩ rfl rfl rfl ?_)
  clear c0
  refine (specPause3 n p l _ hl hRl hp'.out).mono ?_
  rintro e w5 ⟨p5, ⟨rfl, b⟩, hL⟩
  replace X := X.below b
  clear b
  go_wp2_with fail
  refine (specHappen 0 _).mono ?_
  rintro e w6 ⟨rfl, b⟩
  replace X := X.below b
  clear b
  have hfin : ∀ u, NdM n p u → NdM (pauseN n l) p5 u := fun u kn => by
    obtain ⟨e2, e3, e4, e5⟩ := hpa.out
    have hs : (pauseN n l).got.size ≤ maxLen := by rcases e5 with e5 | e5 <;> rw [e5]; exact hm.size; exact one_le_max
    rcases hL with ⟨e1, rfl⟩ | ⟨e1, rfl⟩
    · exact kn.lists e1 e2 e3 e4 hs
    · exact lists_zero kn e1 e2 e3 e4 hs
  clear hL hpa
  go_wp2_with (first | (refine Nx.take ⟨X.blk, X.bel⟩ rfl rfl rfl ?_) | (refine wpList_put X.res rfl rfl rfl rfl rfl ?_) | (refine wpList_tell (k := 0) (f := zF) (ad := none) (cd := 0) (X.fin (ndC (pauseN n l) p5) #[]).1 rfl rfl rfl rfl rfl ?_))
  obtain ⟨-, Z1, Z2, Z3⟩ := X.fin (ndC (pauseN n l) p5) (hpC (0) (zF) (none) (0))
  refine bodyPost_ret (v := .tuple #[ndV (pauseN n l) p5, hpV (0) (zF) (none) (0)]) ?_ rfl ⟨p5, none, 0, rfl, fun u k kn => ⟨hfin u kn, Nums.nil _⟩, Z3⟩
  exact results_both Tryz.results82 _ _ gr gh _ _ rfl rfl Z1 Z2 rfl rfl

set_option maxHeartbeats 8000000 in
/-- spec.l12Sample in a pause. -/
theorem specSample4 (n : Nd) (p : NdP) (l : Int) (w : World) (hm : NdM n p w) (hok : nodeB n = true) (hl : l = 0 ∨ l = 1) (hp : n.ph = 4) :
    Calls Tryz.prog 82 #[ndV n p, .int .i64 l] w (SampY n p (pauseN n l, 0, zF) w) := by
  have hpa := Lib.hid (pauseN_lists n l)
  have hp' := Lib.hid hp
  obtain ⟨R, -⟩ := right_iff.1 hok
  have hRl := R.left
  clear R
  replace hp := Lib.hid hp
  have X := N3.made (ndC n p) w
  go_enter Tryz.func82, Tryz.ntmps82
  go_upto_region 1 with fail
  generalize World.alloc _ _ = W at X ⊢
  generalize w.heap.size + 1 + 1 = gh at X ⊢
  generalize w.heap.size + 1 = gr at X ⊢
  generalize w.heap.size = g at X ⊢
  have c0 : W.cell? ⟨g, 0, none⟩ = some (.int .i64 4) := (X.cell 0).trans (by rw [← hp.out]; rfl)
  go_wp2_with (refine Nx.take ⟨X.blk, X.bel⟩ rfl rfl rfl ?_)
  clear c0
  refine (specPause4 n p l _ hl hRl hp'.out).mono ?_
  rintro e w5 ⟨p5, ⟨rfl, b⟩, hL⟩
  replace X := X.below b
  clear b
  go_wp2_with fail
  refine (specHappen 0 _).mono ?_
  rintro e w6 ⟨rfl, b⟩
  replace X := X.below b
  clear b
  have hfin : ∀ u, NdM n p u → NdM (pauseN n l) p5 u := fun u kn => by
    obtain ⟨e2, e3, e4, e5⟩ := hpa.out
    have hs : (pauseN n l).got.size ≤ maxLen := by rcases e5 with e5 | e5 <;> rw [e5]; exact hm.size; exact one_le_max
    rcases hL with ⟨e1, rfl⟩ | ⟨e1, rfl⟩
    · exact kn.lists e1 e2 e3 e4 hs
    · exact lists_zero kn e1 e2 e3 e4 hs
  clear hL hpa
  go_wp2_with (first | (refine Nx.take ⟨X.blk, X.bel⟩ rfl rfl rfl ?_) | (refine wpList_put X.res rfl rfl rfl rfl rfl ?_) | (refine wpList_tell (k := 0) (f := zF) (ad := none) (cd := 0) (X.fin (ndC (pauseN n l) p5) #[]).1 rfl rfl rfl rfl rfl ?_))
  obtain ⟨-, Z1, Z2, Z3⟩ := X.fin (ndC (pauseN n l) p5) (hpC (0) (zF) (none) (0))
  refine bodyPost_ret (v := .tuple #[ndV (pauseN n l) p5, hpV (0) (zF) (none) (0)]) ?_ rfl ⟨p5, none, 0, rfl, fun u k kn => ⟨hfin u kn, Nums.nil _⟩, Z3⟩
  exact results_both Tryz.results82 _ _ gr gh _ _ rfl rfl Z1 Z2 rfl rfl

set_option maxHeartbeats 8000000 in
/-- spec.l12Sample in a pause. -/
theorem specSample5 (n : Nd) (p : NdP) (l : Int) (w : World) (hm : NdM n p w) (hok : nodeB n = true) (hl : l = 0 ∨ l = 1) (hp : n.ph = 5) :
    Calls Tryz.prog 82 #[ndV n p, .int .i64 l] w (SampY n p (pauseN n l, 0, zF) w) := by
  have hpa := Lib.hid (pauseN_lists n l)
  have hp' := Lib.hid hp
  obtain ⟨R, -⟩ := right_iff.1 hok
  have hRl := R.left
  clear R
  replace hp := Lib.hid hp
  have X := N3.made (ndC n p) w
  go_enter Tryz.func82, Tryz.ntmps82
  go_upto_region 1 with fail
  generalize World.alloc _ _ = W at X ⊢
  generalize w.heap.size + 1 + 1 = gh at X ⊢
  generalize w.heap.size + 1 = gr at X ⊢
  generalize w.heap.size = g at X ⊢
  have c0 : W.cell? ⟨g, 0, none⟩ = some (.int .i64 5) := (X.cell 0).trans (by rw [← hp.out]; rfl)
  go_wp2_with (refine Nx.take ⟨X.blk, X.bel⟩ rfl rfl rfl ?_)
  clear c0
  refine (specPause5 n p l _ hl hRl hp'.out).mono ?_
  rintro e w5 ⟨p5, ⟨rfl, b⟩, hL⟩
  replace X := X.below b
  clear b
  go_wp2_with fail
  refine (specHappen 0 _).mono ?_
  rintro e w6 ⟨rfl, b⟩
  replace X := X.below b
  clear b
  have hfin : ∀ u, NdM n p u → NdM (pauseN n l) p5 u := fun u kn => by
    obtain ⟨e2, e3, e4, e5⟩ := hpa.out
    have hs : (pauseN n l).got.size ≤ maxLen := by rcases e5 with e5 | e5 <;> rw [e5]; exact hm.size; exact one_le_max
    rcases hL with ⟨e1, rfl⟩ | ⟨e1, rfl⟩
    · exact kn.lists e1 e2 e3 e4 hs
    · exact lists_zero kn e1 e2 e3 e4 hs
  clear hL hpa
  go_wp2_with (first | (refine Nx.take ⟨X.blk, X.bel⟩ rfl rfl rfl ?_) | (refine wpList_put X.res rfl rfl rfl rfl rfl ?_) | (refine wpList_tell (k := 0) (f := zF) (ad := none) (cd := 0) (X.fin (ndC (pauseN n l) p5) #[]).1 rfl rfl rfl rfl rfl ?_))
  obtain ⟨-, Z1, Z2, Z3⟩ := X.fin (ndC (pauseN n l) p5) (hpC (0) (zF) (none) (0))
  refine bodyPost_ret (v := .tuple #[ndV (pauseN n l) p5, hpV (0) (zF) (none) (0)]) ?_ rfl ⟨p5, none, 0, rfl, fun u k kn => ⟨hfin u kn, Nums.nil _⟩, Z3⟩
  exact results_both Tryz.results82 _ _ gr gh _ _ rfl rfl Z1 Z2 rfl rfl

set_option maxHeartbeats 8000000 in
/-- spec.l12Sample in a pause. -/
theorem specSample6 (n : Nd) (p : NdP) (l : Int) (w : World) (hm : NdM n p w) (hok : nodeB n = true) (hl : l = 0 ∨ l = 1) (hp : n.ph = 6) :
    Calls Tryz.prog 82 #[ndV n p, .int .i64 l] w (SampY n p (pauseN n l, 0, zF) w) := by
  have hpa := Lib.hid (pauseN_lists n l)
  have hp' := Lib.hid hp
  obtain ⟨R, -⟩ := right_iff.1 hok
  have hRl := R.left
  clear R
  replace hp := Lib.hid hp
  have X := N3.made (ndC n p) w
  go_enter Tryz.func82, Tryz.ntmps82
  go_upto_region 1 with fail
  generalize World.alloc _ _ = W at X ⊢
  generalize w.heap.size + 1 + 1 = gh at X ⊢
  generalize w.heap.size + 1 = gr at X ⊢
  generalize w.heap.size = g at X ⊢
  have c0 : W.cell? ⟨g, 0, none⟩ = some (.int .i64 6) := (X.cell 0).trans (by rw [← hp.out]; rfl)
  go_wp2_with (refine Nx.take ⟨X.blk, X.bel⟩ rfl rfl rfl ?_)
  clear c0
  refine (specPause6 n p l _ hl hRl hp'.out).mono ?_
  rintro e w5 ⟨p5, ⟨rfl, b⟩, hL⟩
  replace X := X.below b
  clear b
  go_wp2_with fail
  refine (specHappen 0 _).mono ?_
  rintro e w6 ⟨rfl, b⟩
  replace X := X.below b
  clear b
  have hfin : ∀ u, NdM n p u → NdM (pauseN n l) p5 u := fun u kn => by
    obtain ⟨e2, e3, e4, e5⟩ := hpa.out
    have hs : (pauseN n l).got.size ≤ maxLen := by rcases e5 with e5 | e5 <;> rw [e5]; exact hm.size; exact one_le_max
    rcases hL with ⟨e1, rfl⟩ | ⟨e1, rfl⟩
    · exact kn.lists e1 e2 e3 e4 hs
    · exact lists_zero kn e1 e2 e3 e4 hs
  clear hL hpa
  go_wp2_with (first | (refine Nx.take ⟨X.blk, X.bel⟩ rfl rfl rfl ?_) | (refine wpList_put X.res rfl rfl rfl rfl rfl ?_) | (refine wpList_tell (k := 0) (f := zF) (ad := none) (cd := 0) (X.fin (ndC (pauseN n l) p5) #[]).1 rfl rfl rfl rfl rfl ?_))
  obtain ⟨-, Z1, Z2, Z3⟩ := X.fin (ndC (pauseN n l) p5) (hpC (0) (zF) (none) (0))
  refine bodyPost_ret (v := .tuple #[ndV (pauseN n l) p5, hpV (0) (zF) (none) (0)]) ?_ rfl ⟨p5, none, 0, rfl, fun u k kn => ⟨hfin u kn, Nums.nil _⟩, Z3⟩
  exact results_both Tryz.results82 _ _ gr gh _ _ rfl rfl Z1 Z2 rfl rfl

theorem N3.far {g gr gh gx : Nat} {C : Array Value} {w0 w : World} (h : N3 g gr gh C w0 w) (k : Nat) (v : Value) (h1 : g ≠ gx) (h2 : gr ≠ gx) (h3 : gh ≠ gx) (hx : w0.heap.size ≤ gx) : N3 g gr gh C w0 (w.setCell ⟨gx, k, none⟩ v) :=
  ⟨(heap_setCell_other w ⟨gx, k, none⟩ g v h1).trans h.blk, (heap_setCell_other w ⟨gx, k, none⟩ gr v h2).trans h.res, (heap_setCell_other w ⟨gx, k, none⟩ gh v h3).trans h.hap, h.bel.setCell hx _, h.hg, h.hr, h.hh, h.nr, h.nh, h.rh⟩

set_option maxHeartbeats 16000000 in
/-- spec.l12Sample in PhIdle. -/
theorem specSample0 (n : Nd) (p : NdP) (l : Int) (w : World) (hm : NdM n p w) (hl : l = 0 ∨ l = 1) (hp : n.ph = 0) (hbD : 0 < n.box.length → (nthF n.box 0).D.length ≤ 1000) :
    Calls Tryz.prog 82 #[ndV n p, .int .i64 l] w (SampY n p (if l = 1 then (n, 0, zF) else ({ begN n (decide (0 < n.box.length)) with fr := if 0 < n.box.length then nthF n.box 0 else zF }, 0, zF)) w) := by
  rcases hl with rfl | rfl
  · rw [if_neg (by decide)]
    by_cases hb : 0 < n.box.length
    · have hd : decide (0 < n.box.length) = true := decide_eq_true hb
      rw [if_pos hb, decide_eq_true hb]
      have HF0 := Lib.hid (hm.box.2 0 hb)
      have hD8 := Lib.hid (hbD hb)
      replace hb := Lib.hid hb
      replace hp := Lib.hid hp
      have X := N3.made (ndC n p) w
      go_enter Tryz.func82, Tryz.ntmps82
      go_upto_region 1 with fail
      generalize World.alloc _ _ = W at X ⊢
      generalize w.heap.size + 1 + 1 = gh at X ⊢
      generalize w.heap.size + 1 = gr at X ⊢
      generalize w.heap.size = g at X ⊢
      have c0 : W.cell? ⟨g, 0, none⟩ = some (.int .i64 0) := (X.cell 0).trans (by rw [← hp.out]; rfl)
      have c15 : W.cell? ⟨g, 15, none⟩ = some (.slice p.ab n.box.length p.cb) := X.cell 15
      go_wp2_with (refine Nx.take ⟨X.blk, X.bel⟩ rfl rfl rfl ?_)
      refine (specBegin n p true _).mono ?_
      rintro e w3 ⟨rfl, b⟩
      replace X := X.below b
      clear b c0 c15
      have hlx := X.lt
      have bx := below_more (Below.refl w3.heap.size w3) (.cells (ndC (begN n true) p) 32)
      have HX := heap_alloc_new w3 (.cells (ndC (begN n true) p) 32)
      go_upto_region 6 with (refine wpList_lay (w := w3) (n := begN n true) (p := p) (C := ndZ) (by rfl) (by rfl) (by rfl) (by rfl) (by rfl) (by rfl) ?_)
      replace X := X.below bx
      have Y : N3 w3.heap.size gr gh (ndC (begN n true) p) w _ := ⟨HX, X.res, X.hap, X.bel, Nat.le_trans X.hg (Nat.le_of_lt hlx.1), X.hr, X.hh, by omega, by omega, X.rh⟩
      clear bx HX
      generalize w3.alloc _ = W4 at X Y ⊢
      have hgx : g ≠ w3.heap.size := by omega
      generalize w3.heap.size = gx at Y hgx ⊢
      have y4 : W4.cell? ⟨gx, 4, none⟩ = some (.int .i64 n.fr.id) := Y.cell 4
      have y5 : W4.cell? ⟨gx, 5, none⟩ = some (.bool n.fr.rm) := Y.cell 5
      have y6 : W4.cell? ⟨gx, 6, none⟩ = some (.int .i64 n.fr.ln) := Y.cell 6
      have y7 : W4.cell? ⟨gx, 7, none⟩ = some (.slice p.ad n.fr.D.length p.cd) := Y.cell 7
      have q4 := Y.free 4
      have q5 := Y.free 5
      have q6 := Y.free 6
      have q7 := Y.free 7
      go_upto_region 7 with fail
      clear y4 y5 y6 y7 q4 q5 q6 q7
      replace X := ((((X.far 4 (.int .i64 0) hgx Y.nr Y.nh Y.hg).far 5 (.bool false) hgx Y.nr Y.nh Y.hg).far 6 (.int .i64 0) hgx Y.nr Y.nh Y.hg).far 7 (.slice none 0 0) hgx Y.nr Y.nh Y.hg)
      replace Y : N3 gx gr gh (ndC { begN n true with fr := zF } { p with ad := none, cd := 0 }) w _ := ((((Y.set 4 (.int .i64 0)).set 5 (.bool false)).set 6 (.int .i64 0)).set 7 (.slice none 0 0))
      generalize World.setCell _ _ _ = W5 at X Y ⊢
      have y1 : W5.cell? ⟨gx, 1, none⟩ = some (.bool true) := Y.cell 1
      obtain ⟨gb, o, ad, cc, ha, HF⟩ := HF0.out
      rw [Nat.zero_mul, Nat.add_zero] at HF
      have hD9 := hD8.out
      generalize nthF n.box 0 = f at *
      replace HF := HF.below X.bel
      obtain ⟨⟨z0, z1, z2, z3⟩, hn⟩ := HF
      have hlen : (0 : Int) < (n.box.length : Int) := by have := hb.out; omega
      have c15 : W5.cell? ⟨g, 15, none⟩ = some (.slice (some ⟨gb, o, none⟩) n.box.length p.cb) := (X.cell 15).trans (by rw [← ha]; rfl)
      replace ha := Lib.hid ha
      have hlY := Y.lt
      have hsY := Y.bel.size
      go_wp2_with fail
      refine (copyFr f.id f.rm f.ln ad f.D cc _ hn hD9).mono ?_
      rintro e w6 ⟨av, cv, rfl, O, gg⟩
      have b := below_new gg
      replace Y := Y.below b
      clear b gg y1 c15 z0 z1 z2 z3 hn X
      have y4 : w6.cell? ⟨gx, 4, none⟩ = some (.int .i64 0) := Y.cell 4
      have y5 : w6.cell? ⟨gx, 5, none⟩ = some (.bool false) := Y.cell 5
      have y6 : w6.cell? ⟨gx, 6, none⟩ = some (.int .i64 0) := Y.cell 6
      have y7 : w6.cell? ⟨gx, 7, none⟩ = some (.slice none 0 0) := Y.cell 7
      have q4 := Y.free 4
      have q5 := Y.free 5
      have q6 := Y.free 6
      have q7 := Y.free 7
      go_upto_region 9 with fail
      clear y4 y5 y6 y7 q4 q5 q6 q7
      replace O := (((O.kept2 (grown_at_cell w6 gx 4 (.int .i64 f.id)) hlY.1).kept2 (grown_at_cell _ gx 5 (.bool f.rm)) hlY.1).kept2 (grown_at_cell _ gx 6 (.int .i64 f.ln)) hlY.1).kept2 (grown_at_cell _ gx 7 (.slice av f.D.length cv)) hlY.1
      replace Y : N3 gx gr gh (ndC { begN n true with fr := f } { p with ad := av, cd := cv }) w _ := (((Y.set 4 (.int .i64 f.id)).set 5 (.bool f.rm)).set 6 (.int .i64 f.ln)).set 7 (.slice av f.D.length cv)
      generalize World.setCell _ _ _ = W7 at Y O ⊢
      refine wp_region_held (S := fun u => Nx gx ({ begN n true with fr := f }) ({ p with ad := av, cd := cv }) w u) (by kernel_rfl) ?_
      replace Y := Y.drew'
      have hdr : Below W7.heap.size W7 ({ W7 with drawn := W7.drawn + 1 } : World) := (Below.refl _ _).drew
      replace O := O.below' hdr
      clear hdr
      generalize ({ W7 with drawn := W7.drawn + 1 } : World) = V at Y O ⊢
      refine take_at 0 _ (ndV ({ begN n true with fr := f }) ({ p with ad := av, cd := cv })) rfl rfl (by kernel_rfl) (by kernel_rfl) (by kernel_rfl) (fun _ _ _ h => h) (.inl ⟨rfl, fun u hu => hu.took rfl rfl⟩) Y.nx ?_
      simp only [Act.put, List.setIfInBounds_toArray, List.set_cons_zero, List.set_cons_succ]
      refine call_at 1 _ 158 #[.int .i64 0] rfl rfl (by kernel_rfl) rfl (by go_simp) ?_
      refine (specHappen 0 _).mono ?_
      rintro e wh ⟨rfl, b⟩
      replace Y := Y.below b
      replace O := O.below' b
      clear b
      refine ⟨_, rfl, Y.nx, ?_⟩
      simp only [Act.put, List.setIfInBounds_toArray, List.set_cons_zero, List.set_cons_succ]
      refine held_row 2 gr (ndC ({ begN n true with fr := f }) ({ p with ad := av, cd := cv })) rfl (by kernel_rfl) rfl rfl rfl rfl rfl Y.res (by kernel_rfl) rfl (ndC_one _ _) (Y.nxR _) ?_
      refine held_row 3 gh (hpC 0 zF none 0) rfl (by kernel_rfl) rfl rfl rfl rfl rfl (Y.fin _ #[]).1 (by kernel_rfl) rfl (hpC_one _ _ _ _) (Y.nxH _ _) ?_
      refine wpAnyH_done (by kernel_rfl) ?_ _
      have OF := (O.kept2 (grown_row _ gr (ndC { begN n true with fr := f } { p with ad := av, cd := cv })) hlY.2.1).kept2 (grown_row _ gh (hpC 0 zF none 0)) hlY.2.2
      obtain ⟨-, Z1, Z2, Z3⟩ := Y.fin (ndC ({ begN n true with fr := f }) ({ p with ad := av, cd := cv })) (hpC 0 zF none 0)
      go_wp2_with fail
      refine bodyPost_ret (v := .tuple #[ndV ({ begN n true with fr := f }) ({ p with ad := av, cd := cv }), hpV 0 zF none 0]) ?_ rfl ⟨{ p with ad := av, cd := cv }, none, 0, rfl, fun u k kn => ⟨⟨(OF.up k hsY).nums2, kn.box, kn.fifo, kn.flt, one_le_max⟩, Nums.nil _⟩, Z3⟩
      exact results_both Tryz.results82 _ _ gr gh _ _ rfl rfl Z1 Z2 rfl rfl
    · have hd : decide (0 < n.box.length) = false := decide_eq_false hb
      rw [if_neg hb, decide_eq_false hb]
      replace hb := Lib.hid hb
      replace hp := Lib.hid hp
      have X := N3.made (ndC n p) w
      go_enter Tryz.func82, Tryz.ntmps82
      go_upto_region 1 with fail
      generalize World.alloc _ _ = W at X ⊢
      generalize w.heap.size + 1 + 1 = gh at X ⊢
      generalize w.heap.size + 1 = gr at X ⊢
      generalize w.heap.size = g at X ⊢
      have c0 : W.cell? ⟨g, 0, none⟩ = some (.int .i64 0) := (X.cell 0).trans (by rw [← hp.out]; rfl)
      have c15 : W.cell? ⟨g, 15, none⟩ = some (.slice p.ab n.box.length p.cb) := X.cell 15
      go_wp2_with (refine Nx.take ⟨X.blk, X.bel⟩ rfl rfl rfl ?_)
      refine (specBegin n p false _).mono ?_
      rintro e w3 ⟨rfl, b⟩
      replace X := X.below b
      clear b c0 c15
      have hlx := X.lt
      have bx := below_more (Below.refl w3.heap.size w3) (.cells (ndC (begN n false) p) 32)
      have HX := heap_alloc_new w3 (.cells (ndC (begN n false) p) 32)
      go_upto_region 6 with (refine wpList_lay (w := w3) (n := begN n false) (p := p) (C := ndZ) (by rfl) (by rfl) (by rfl) (by rfl) (by rfl) (by rfl) ?_)
      replace X := X.below bx
      have Y : N3 w3.heap.size gr gh (ndC (begN n false) p) w _ := ⟨HX, X.res, X.hap, X.bel, Nat.le_trans X.hg (Nat.le_of_lt hlx.1), X.hr, X.hh, by omega, by omega, X.rh⟩
      clear bx HX
      generalize w3.alloc _ = W4 at X Y ⊢
      have hgx : g ≠ w3.heap.size := by omega
      generalize w3.heap.size = gx at Y hgx ⊢
      have y4 : W4.cell? ⟨gx, 4, none⟩ = some (.int .i64 n.fr.id) := Y.cell 4
      have y5 : W4.cell? ⟨gx, 5, none⟩ = some (.bool n.fr.rm) := Y.cell 5
      have y6 : W4.cell? ⟨gx, 6, none⟩ = some (.int .i64 n.fr.ln) := Y.cell 6
      have y7 : W4.cell? ⟨gx, 7, none⟩ = some (.slice p.ad n.fr.D.length p.cd) := Y.cell 7
      have q4 := Y.free 4
      have q5 := Y.free 5
      have q6 := Y.free 6
      have q7 := Y.free 7
      go_upto_region 7 with fail
      clear y4 y5 y6 y7 q4 q5 q6 q7
      replace X := ((((X.far 4 (.int .i64 0) hgx Y.nr Y.nh Y.hg).far 5 (.bool false) hgx Y.nr Y.nh Y.hg).far 6 (.int .i64 0) hgx Y.nr Y.nh Y.hg).far 7 (.slice none 0 0) hgx Y.nr Y.nh Y.hg)
      replace Y : N3 gx gr gh (ndC { begN n false with fr := zF } { p with ad := none, cd := 0 }) w _ := ((((Y.set 4 (.int .i64 0)).set 5 (.bool false)).set 6 (.int .i64 0)).set 7 (.slice none 0 0))
      generalize World.setCell _ _ _ = W5 at X Y ⊢
      have y1 : W5.cell? ⟨gx, 1, none⟩ = some (.bool false) := Y.cell 1
      clear X
      go_upto_region 9 with fail
      clear y1
      refine wp_region_held (S := fun u => Nx gx ({ begN n false with fr := zF }) ({ p with ad := none, cd := 0 }) w u) (by kernel_rfl) ?_
      replace Y := Y.drew'
      generalize ({ W5 with drawn := W5.drawn + 1 } : World) = V at Y ⊢
      refine take_at 0 _ (ndV ({ begN n false with fr := zF }) ({ p with ad := none, cd := 0 })) rfl rfl (by kernel_rfl) (by kernel_rfl) (by kernel_rfl) (fun _ _ _ h => h) (.inl ⟨rfl, fun u hu => hu.took rfl rfl⟩) Y.nx ?_
      simp only [Act.put, List.setIfInBounds_toArray, List.set_cons_zero, List.set_cons_succ]
      refine call_at 1 _ 158 #[.int .i64 0] rfl rfl (by kernel_rfl) rfl (by go_simp) ?_
      refine (specHappen 0 _).mono ?_
      rintro e wh ⟨rfl, b⟩
      replace Y := Y.below b
      clear b
      refine ⟨_, rfl, Y.nx, ?_⟩
      simp only [Act.put, List.setIfInBounds_toArray, List.set_cons_zero, List.set_cons_succ]
      refine held_row 2 gr (ndC ({ begN n false with fr := zF }) ({ p with ad := none, cd := 0 })) rfl (by kernel_rfl) rfl rfl rfl rfl rfl Y.res (by kernel_rfl) rfl (ndC_one _ _) (Y.nxR _) ?_
      refine held_row 3 gh (hpC 0 zF none 0) rfl (by kernel_rfl) rfl rfl rfl rfl rfl (Y.fin _ #[]).1 (by kernel_rfl) rfl (hpC_one _ _ _ _) (Y.nxH _ _) ?_
      refine wpAnyH_done (by kernel_rfl) ?_ _
      obtain ⟨-, Z1, Z2, Z3⟩ := Y.fin (ndC ({ begN n false with fr := zF }) ({ p with ad := none, cd := 0 })) (hpC 0 zF none 0)
      go_wp2_with fail
      refine bodyPost_ret (v := .tuple #[ndV ({ begN n false with fr := zF }) ({ p with ad := none, cd := 0 }), hpV 0 zF none 0]) ?_ rfl ⟨{ p with ad := none, cd := 0 }, none, 0, rfl, fun u k kn => ⟨lists_zero kn rfl rfl rfl rfl one_le_max, Nums.nil _⟩, Z3⟩
      exact results_both Tryz.results82 _ _ gr gh _ _ rfl rfl Z1 Z2 rfl rfl
  · rw [if_pos rfl]
    replace hp := Lib.hid hp
    have X := N3.made (ndC n p) w
    go_enter Tryz.func82, Tryz.ntmps82
    go_upto_region 1 with fail
    generalize World.alloc _ _ = W at X ⊢
    generalize w.heap.size + 1 + 1 = gh at X ⊢
    generalize w.heap.size + 1 = gr at X ⊢
    generalize w.heap.size = g at X ⊢
    have c0 : W.cell? ⟨g, 0, none⟩ = some (.int .i64 0) := (X.cell 0).trans (by rw [← hp.out]; rfl)
    go_upto_region 4 with fail
    clear c0
    refine wp_region_held (S := fun u => Nx g (n) (p) w u) (by kernel_rfl) ?_
    replace X := X.drew'
    generalize ({ W with drawn := W.drawn + 1 } : World) = V at X ⊢
    refine take_at 0 _ (ndV (n) (p)) rfl rfl (by kernel_rfl) (by kernel_rfl) (by kernel_rfl) (fun _ _ _ h => h) (.inl ⟨rfl, fun u hu => hu.took rfl rfl⟩) X.nx ?_
    simp only [Act.put, List.setIfInBounds_toArray, List.set_cons_zero, List.set_cons_succ]
    refine call_at 1 _ 158 #[.int .i64 0] rfl rfl (by kernel_rfl) rfl (by go_simp) ?_
    refine (specHappen 0 _).mono ?_
    rintro e wh ⟨rfl, b⟩
    replace X := X.below b
    clear b
    refine ⟨_, rfl, X.nx, ?_⟩
    simp only [Act.put, List.setIfInBounds_toArray, List.set_cons_zero, List.set_cons_succ]
    refine held_row 2 gr (ndC (n) (p)) rfl (by kernel_rfl) rfl rfl rfl rfl rfl X.res (by kernel_rfl) rfl (ndC_one _ _) (X.nxR _) ?_
    refine held_row 3 gh (hpC 0 zF none 0) rfl (by kernel_rfl) rfl rfl rfl rfl rfl (X.fin _ #[]).1 (by kernel_rfl) rfl (hpC_one _ _ _ _) (X.nxH _ _) ?_
    refine wpAnyH_done (by kernel_rfl) ?_ _
    obtain ⟨-, Z1, Z2, Z3⟩ := X.fin (ndC (n) (p)) (hpC 0 zF none 0)
    go_wp2_with fail
    refine bodyPost_ret (v := .tuple #[ndV (n) (p), hpV 0 zF none 0]) ?_ rfl ⟨p, none, 0, rfl, fun u k kn => ⟨kn, Nums.nil _⟩, Z3⟩
    exact results_both Tryz.results82 _ _ gr gh _ _ rfl rfl Z1 Z2 rfl rfl

/-- spec.l12Sample, of a right node. -/
theorem specSample (n : Nd) (p : NdP) (l : Int) (w : World) (hm : NdM n p w) (hok : nodeB n = true) (hl : l = 0 ∨ l = 1) : Calls Tryz.prog 82 #[ndV n p, .int .i64 l] w (SampY n p (sampN n l) w) := by
  have hp := (nodeB_parts hok).1
  obtain ⟨R, -⟩ := right_iff.1 hok
  have hbD : 0 < n.box.length → (nthF n.box 0).D.length ≤ 1000 := fun h => by
    have hb := boxB_iff.1 R.box
    have hf : frB (nthF n.box 0) = true := by
      cases h2 : frB (nthF n.box 0) with
      | true => rfl
      | false => have h3 := rk_neg h2; have h4 := (hb.2 0 h).1; omega
    have := frOk_max (show frOk _ _ _ _ = true from hf); omega
  unfold sampN
  rcases (show n.ph = 0 ∨ n.ph = 1 ∨ n.ph = 2 ∨ n.ph = 3 ∨ n.ph = 4 ∨ n.ph = 5 ∨ n.ph = 6 ∨ n.ph = 7 by omega) with h | h | h | h | h | h | h | h
  · rw [if_pos h]; exact specSample0 n p l w hm hl h hbD
  · rw [if_neg (by omega), if_pos h]; exact specSample1 n p l w hm hok hl h
  · rw [if_neg (by omega), if_neg (by omega), if_pos h]; exact specSample2 n p l w hm hok hl h
  · rw [if_neg (by omega), if_neg (by omega), if_neg (by omega), if_neg (by omega)]; exact specSample3 n p l w hm hok hl h
  · rw [if_neg (by omega), if_neg (by omega), if_neg (by omega), if_neg (by omega)]; exact specSample4 n p l w hm hok hl h
  · rw [if_neg (by omega), if_neg (by omega), if_neg (by omega), if_neg (by omega)]; exact specSample5 n p l w hm hok hl h
  · rw [if_neg (by omega), if_neg (by omega), if_neg (by omega), if_neg (by omega)]; exact specSample6 n p l w hm hok hl h
  · rw [if_neg (by omega), if_neg (by omega), if_neg (by omega), if_pos h]; exact specSample7 n p l w hm hok hl h
end Go.Proofs.YtngcekegngmedaaGreatDoor
