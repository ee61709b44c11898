/- The walks of laws.FnExactBusOk and laws.FnExactLevelOf. -/
import Derived.Test.YtjlegnnekjcpmaaGreatBusIE
import Derived.Test.YtjlegnnekjcpmaaGreatNdsToE
set_option linter.unusedVariables false
set_option linter.unusedSimpArgs false
namespace Go.Proofs.YtjlegnnekjcpmaaGreat
open Go.RowKit

section
variable {g : Nat} {a : Option Addr} {len c : Nat} {now : Int} {T : TypeId} {w : World}
theorem bu_tookI (h : w.heap[g]? = some (.cells (buC a len c now) T (0, 0))) {x : Oper} {act : Act} {y : Operand} (ho : x.op = .load 29 y) (hx : act.eval y = .pointer (some ⟨g, 0, none⟩)) : (execOp act.eval x).run Tryz.prog w = .ok (.value (buV a len c now)) w := by
  unfold execOp
  simp only [ho, hx, Instr.loadAt, Instr.sureAddr, Sem.run_bind, Sem.run_pure, Result.andThen_ok, run_loadVar_row w g T 29 (buC a len c now) (0, 0) _ h Tryz.underlying29 rfl (by kernel_rfl)]
theorem bu_tookL (h : w.heap[g]? = some (.cells (buC a len c now) T (0, 0))) {x : Oper} {act : Act} {y : Operand} (ho : x.op = .load 24 y) (hx : act.eval y = .pointer (some ⟨g, 0, none⟩)) : (execOp act.eval x).run Tryz.prog w = .ok (.value (buV a len c now)) w := by
  unfold execOp
  simp only [ho, hx, Instr.loadAt, Instr.sureAddr, Sem.run_bind, Sem.run_pure, Result.andThen_ok, run_loadVar_row w g T 24 (buC a len c now) (0, 0) _ h Tryz.underlying24 rfl (by kernel_rfl)]
end
theorem blk_below {w w' : World} {g : Nat} {o : Obj} (h : w.heap[g]? = some o) (b : Below w.heap.size w w') : w'.heap[g]? = some o := (b.block g (Array.getElem?_eq_some_iff.1 h).1).trans h

set_option maxHeartbeats 4000000 in
set_option maxRecDepth 20000 in
theorem walkFnExactBusOk (a : Option Addr) (N : List Nd) (c : Nat) (now : Int) (w : World) (hm : Nds (fun _ => True) a N w) :
    Calls Tryz.prog 3 #[buV a N.length c now] w fun e w' => e = .returned (.bool true) ∧ Below w.heap.size w w' := by
  obtain ⟨HC, B⟩ := one_made w (buC a N.length c now) 24
  go_enter Tryz.func3, Tryz.ntmps3
  go_upto_region 1 with fail
  generalize World.alloc _ _ = W at HC B ⊢
  generalize w.heap.size = ga at HC ⊢
  have c0 := cell_of_row W ga 0 _ _ _ HC
  have c1 := cell_of_row W ga 1 _ _ _ HC
  go_wp2_with fail
  refine (szBusAny (fun _ => True) a N c now 1048576 _ (hm.below B) (by omega) (by omega)).mono ?_
  rintro e w1 ⟨hz | hz, b⟩
  case inr =>
    obtain ⟨hz, rfl⟩ := hz
    have hb := Below.then2 B b
    clear c0 c1 HC
    go_wp2_with fail
    go_ret
    exact ⟨rfl, hb⟩
  obtain ⟨hz, rfl⟩ := hz
  have hs : roomB N ≤ 1048576 := by omega
  have hl2 : ¬ (1048576 : Int) - roomB N < 0 := by omega
  replace HC := (b.block ga (Array.getElem?_eq_some_iff.1 HC).1).trans HC
  replace B := Below.then2 B b
  clear c0 c1 b hz
  have hs2 : sumN N N.length ≤ 1048576 := by unfold roomB at hs; omega
  have c0 := cell_of_row w1 ga 0 _ _ _ HC
  have c1 := cell_of_row w1 ga 1 _ _ _ HC
  go_wp2_with fail
  refine (toBus (fun _ => True) a N c now _ (hm.below B) hs).mono ?_
  rintro e w2 ⟨G2, rfl, O2, b⟩
  replace HC := (b.block ga (Array.getElem?_eq_some_iff.1 HC).1).trans HC
  replace B := Below.then2 B b
  have M2 := O2.nds hm.1 hs2
  clear c0 c1 b O2
  go_wp2_with fail
  refine (specBusOk Bare _ N _ now _ M2).mono ?_
  rintro e w3 ⟨rfl, b⟩
  replace HC := (b.block ga (Array.getElem?_eq_some_iff.1 HC).1).trans HC
  replace B := Below.then2 B b
  clear b M2
  have c0 := cell_of_row w3 ga 0 _ _ _ HC
  have c1 := cell_of_row w3 ga 1 _ _ _ HC
  go_wp2_with fail
  refine (toBus (fun _ => True) a N c now _ (hm.below B) hs).mono ?_
  rintro e w4 ⟨G4, rfl, O4, b⟩
  replace HC := (b.block ga (Array.getElem?_eq_some_iff.1 HC).1).trans HC
  replace B := Below.then2 B b
  have M4 := O4.nds hm.1 hs2
  clear c0 c1 b O4
  obtain ⟨HX, b⟩ := one_made w4 (buC (some ⟨G4, 0, none⟩) N.length N.length now) 29
  replace HC := blk_below HC b
  replace B := Below.then2 B b
  replace M4 := M4.below b
  clear b
  go_upto_region 7 with fail
  generalize w4.alloc _ = W4 at HX HC B M4 ⊢
  generalize w4.heap.size = gx at HX ⊢
  have c0 := cell_of_row W4 gx 0 _ _ _ HX
  have c1 := cell_of_row W4 gx 1 _ _ _ HX
  go_wp2_with fail
  refine (implBusOk Bare _ N _ now _ M4).mono ?_
  rintro e w5 ⟨rfl, b⟩
  replace HC := blk_below HC b
  replace HX := blk_below HX b
  replace B := Below.then2 B b
  replace M4 := M4.below b
  clear b c0 c1
  generalize busB N now = v at *
  go_upto_region 10 with fail
  refine wp_region_held (S := fun u => u.heap[gx]? = some (.cells (buC (some ⟨G4, 0, none⟩) N.length N.length now) 29 (0, 0)) ∧ u.heap[ga]? = some (.cells (buC a N.length c now) 24 (0, 0))) (by kernel_rfl) ?_
  replace B : Below w.heap.size w { w5 with drawn := w5.drawn + 1 } := B.drew
  replace HC : ({ w5 with drawn := w5.drawn + 1 } : World).heap[ga]? = some (.cells (buC a N.length c now) 24 (0, 0)) := HC
  replace HX : ({ w5 with drawn := w5.drawn + 1 } : World).heap[gx]? = some (.cells (buC (some ⟨G4, 0, none⟩) N.length N.length now) 29 (0, 0)) := HX
  replace M4 : Nds Bare (some ⟨G4, 0, none⟩) N { w5 with drawn := w5.drawn + 1 } := M4.drew
  generalize ({ w5 with drawn := w5.drawn + 1 } : World) = w5 at *
  refine wpAnyH_take (i := 0) (v := buV (some ⟨G4, 0, none⟩) N.length N.length now) rfl (by kernel_rfl) (by kernel_rfl) (by kernel_rfl) (fun _ _ _ h => h) (.inl ⟨rfl, fun u hu => bu_tookI hu.1 rfl rfl⟩) ⟨HX, HC⟩ ?_
  refine wpAnyH_take (i := 1) (v := buV a N.length c now) rfl (by kernel_rfl) (by kernel_rfl) (by kernel_rfl) (fun _ _ _ h => h) (.inl ⟨rfl, fun u hu => bu_tookL hu.2 rfl rfl⟩) ⟨HX, HC⟩ ?_
  simp only [Act.put, List.setIfInBounds_toArray, List.set_cons_zero, List.set_cons_succ]
  refine held_call 2 13 #[buV a N.length c now] rfl (by kernel_rfl) rfl (by go_simp) ?_
  refine (toBus (fun _ => True) a N c now _ (hm.below B) hs).mono ?_
  rintro e w6 ⟨G6, rfl, O6, b⟩
  replace HC := blk_below HC b
  replace HX := blk_below HX b
  replace B := Below.then2 B b
  replace M4 := M4.below b
  have M6 := O6.nds hm.1 hs2
  clear b O6
  refine ⟨_, rfl, ⟨HX, HC⟩, ?_⟩
  simp only [Act.put, List.setIfInBounds_toArray, List.set_cons_zero, List.set_cons_succ]
  refine held_call 3 15 #[buV (some ⟨G4, 0, none⟩) N.length N.length now, buV (some ⟨G6, 0, none⟩) N.length N.length now] rfl (by kernel_rfl) rfl (by go_simp) ?_
  refine (eqBus Bare Bare _ _ N _ _ now _ M4 M6).mono ?_
  rintro e w7 ⟨rfl, b⟩
  replace HC := blk_below HC b
  replace HX := blk_below HX b
  have hb := Below.then2 B b
  refine ⟨_, rfl, ⟨HX, HC⟩, ?_⟩
  simp only [Act.put, List.setIfInBounds_toArray, List.set_cons_zero, List.set_cons_succ]
  refine held_value 4 (.bool false) rfl (by kernel_rfl) rfl (by go_simp) ⟨HX, HC⟩ ?_
  refine wpAnyH_done (by kernel_rfl) ?_ _
  simp only [Act.put, List.setIfInBounds_toArray, List.set_cons_zero, List.set_cons_succ]
  go_wp2_with fail
  go_ret
  exact ⟨rfl, hb⟩
set_option maxHeartbeats 4000000 in
set_option maxRecDepth 20000 in
theorem walkFnExactLevelOf (a : Option Addr) (N : List Nd) (c : Nat) (now : Int) (w : World) (hm : Nds (fun _ => True) a N w) :
    Calls Tryz.prog 5 #[buV a N.length c now] w fun e w' => e = .returned (.bool true) ∧ Below w.heap.size w w' := by
  obtain ⟨HC, B⟩ := one_made w (buC a N.length c now) 24
  go_enter Tryz.func5, Tryz.ntmps5
  go_upto_region 1 with fail
  generalize World.alloc _ _ = W at HC B ⊢
  generalize w.heap.size = ga at HC ⊢
  have c0 := cell_of_row W ga 0 _ _ _ HC
  have c1 := cell_of_row W ga 1 _ _ _ HC
  go_wp2_with fail
  refine (szBusAny (fun _ => True) a N c now 1048576 _ (hm.below B) (by omega) (by omega)).mono ?_
  rintro e w1 ⟨hz | hz, b⟩
  case inr =>
    obtain ⟨hz, rfl⟩ := hz
    have hb := Below.then2 B b
    clear c0 c1 HC
    go_wp2_with fail
    go_ret
    exact ⟨rfl, hb⟩
  obtain ⟨hz, rfl⟩ := hz
  have hs : roomB N ≤ 1048576 := by omega
  have hl2 : ¬ (1048576 : Int) - roomB N < 0 := by omega
  replace HC := (b.block ga (Array.getElem?_eq_some_iff.1 HC).1).trans HC
  replace B := Below.then2 B b
  clear c0 c1 b hz
  have hs2 : sumN N N.length ≤ 1048576 := by unfold roomB at hs; omega
  have c0 := cell_of_row w1 ga 0 _ _ _ HC
  have c1 := cell_of_row w1 ga 1 _ _ _ HC
  go_wp2_with fail
  refine (toBus (fun _ => True) a N c now _ (hm.below B) hs).mono ?_
  rintro e w2 ⟨G2, rfl, O2, b⟩
  replace HC := (b.block ga (Array.getElem?_eq_some_iff.1 HC).1).trans HC
  replace B := Below.then2 B b
  have M2 := O2.nds hm.1 hs2
  clear c0 c1 b O2
  go_wp2_with fail
  refine (specLevelOf Bare _ N _ now _ M2).mono ?_
  rintro e w3 ⟨rfl, b⟩
  replace HC := (b.block ga (Array.getElem?_eq_some_iff.1 HC).1).trans HC
  replace B := Below.then2 B b
  clear b M2
  have c0 := cell_of_row w3 ga 0 _ _ _ HC
  have c1 := cell_of_row w3 ga 1 _ _ _ HC
  go_wp2_with fail
  refine (toBus (fun _ => True) a N c now _ (hm.below B) hs).mono ?_
  rintro e w4 ⟨G4, rfl, O4, b⟩
  replace HC := (b.block ga (Array.getElem?_eq_some_iff.1 HC).1).trans HC
  replace B := Below.then2 B b
  have M4 := O4.nds hm.1 hs2
  clear c0 c1 b O4
  obtain ⟨HX, b⟩ := one_made w4 (buC (some ⟨G4, 0, none⟩) N.length N.length now) 29
  replace HC := blk_below HC b
  replace B := Below.then2 B b
  replace M4 := M4.below b
  clear b
  go_upto_region 7 with fail
  generalize w4.alloc _ = W4 at HX HC B M4 ⊢
  generalize w4.heap.size = gx at HX ⊢
  have c0 := cell_of_row W4 gx 0 _ _ _ HX
  have c1 := cell_of_row W4 gx 1 _ _ _ HX
  go_wp2_with fail
  refine (implLevelOf Bare _ N _ now _ M4).mono ?_
  rintro e w5 ⟨rfl, b⟩
  replace HC := blk_below HC b
  replace HX := blk_below HX b
  replace B := Below.then2 B b
  replace M4 := M4.below b
  clear b c0 c1
  generalize levelN N now = v at *
  go_upto_region 10 with fail
  refine wp_region_held (S := fun u => u.heap[gx]? = some (.cells (buC (some ⟨G4, 0, none⟩) N.length N.length now) 29 (0, 0)) ∧ u.heap[ga]? = some (.cells (buC a N.length c now) 24 (0, 0))) (by kernel_rfl) ?_
  replace B : Below w.heap.size w { w5 with drawn := w5.drawn + 1 } := B.drew
  replace HC : ({ w5 with drawn := w5.drawn + 1 } : World).heap[ga]? = some (.cells (buC a N.length c now) 24 (0, 0)) := HC
  replace HX : ({ w5 with drawn := w5.drawn + 1 } : World).heap[gx]? = some (.cells (buC (some ⟨G4, 0, none⟩) N.length N.length now) 29 (0, 0)) := HX
  replace M4 : Nds Bare (some ⟨G4, 0, none⟩) N { w5 with drawn := w5.drawn + 1 } := M4.drew
  generalize ({ w5 with drawn := w5.drawn + 1 } : World) = w5 at *
  refine wpAnyH_take (i := 0) (v := buV (some ⟨G4, 0, none⟩) N.length N.length now) rfl (by kernel_rfl) (by kernel_rfl) (by kernel_rfl) (fun _ _ _ h => h) (.inl ⟨rfl, fun u hu => bu_tookI hu.1 rfl rfl⟩) ⟨HX, HC⟩ ?_
  refine wpAnyH_take (i := 1) (v := buV a N.length c now) rfl (by kernel_rfl) (by kernel_rfl) (by kernel_rfl) (fun _ _ _ h => h) (.inl ⟨rfl, fun u hu => bu_tookL hu.2 rfl rfl⟩) ⟨HX, HC⟩ ?_
  simp only [Act.put, List.setIfInBounds_toArray, List.set_cons_zero, List.set_cons_succ]
  refine held_call 2 13 #[buV a N.length c now] rfl (by kernel_rfl) rfl (by go_simp) ?_
  refine (toBus (fun _ => True) a N c now _ (hm.below B) hs).mono ?_
  rintro e w6 ⟨G6, rfl, O6, b⟩
  replace HC := blk_below HC b
  replace HX := blk_below HX b
  replace B := Below.then2 B b
  replace M4 := M4.below b
  have M6 := O6.nds hm.1 hs2
  clear b O6
  refine ⟨_, rfl, ⟨HX, HC⟩, ?_⟩
  simp only [Act.put, List.setIfInBounds_toArray, List.set_cons_zero, List.set_cons_succ]
  refine held_call 3 15 #[buV (some ⟨G4, 0, none⟩) N.length N.length now, buV (some ⟨G6, 0, none⟩) N.length N.length now] rfl (by kernel_rfl) rfl (by go_simp) ?_
  refine (eqBus Bare Bare _ _ N _ _ now _ M4 M6).mono ?_
  rintro e w7 ⟨rfl, b⟩
  replace HC := blk_below HC b
  replace HX := blk_below HX b
  have hb := Below.then2 B b
  refine ⟨_, rfl, ⟨HX, HC⟩, ?_⟩
  simp only [Act.put, List.setIfInBounds_toArray, List.set_cons_zero, List.set_cons_succ]
  refine held_value 4 (.bool false) rfl (by kernel_rfl) rfl (by go_simp) ⟨HX, HC⟩ ?_
  refine wpAnyH_done (by kernel_rfl) ?_ _
  simp only [Act.put, List.setIfInBounds_toArray, List.set_cons_zero, List.set_cons_succ]
  go_wp2_with fail
  go_ret
  exact ⟨rfl, hb⟩
end Go.Proofs.YtjlegnnekjcpmaaGreat

