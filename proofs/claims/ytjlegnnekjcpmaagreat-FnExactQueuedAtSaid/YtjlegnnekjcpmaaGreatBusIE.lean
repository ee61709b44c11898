/- The program's BusOk, levelOf and LevelOf. -/
import Derived.Test.YtjlegnnekjcpmaaGreatNodesOfE
import Derived.Test.YtjlegnnekjcpmaaGreatBusSE
import Derived.Test.YtjlegnnekjcpmaaGreatNdWE
set_option linter.unusedVariables false
set_option linter.unusedSimpArgs false
set_option maxRecDepth 20000
namespace Go.Proofs.YtjlegnnekjcpmaaGreat
open Go.RowKit Go.Shelf
attribute [local go_sem] Oper.semAt_some

theorem keeps_of_below {W W' : World} (b : Below W.heap.size W W') : KeepsOthers W W' := ⟨b.size, fun k o hk _ => (b.block k (Array.getElem?_eq_some_iff.1 hk).1).trans hk⟩
theorem row_kept {B : Nat} {C : Array Value} {t : TypeId} {fr : Nat × Nat} {X Y : World} {row : Option Nat} (h : X.heap[B]? = some (.cells C t fr)) (hg : X.grownBy Y row) (hr : ∀ r, row = some r → ∃ o : Obj, X.heap[r]? = some o ∧ o.isCells = false) : Y.heap[B]? = some (.cells C t fr) :=
  (hg.block B (Array.getElem?_eq_some_iff.1 h).1 (fun e => by obtain ⟨o, ho, hc⟩ := hr B e.symm; rw [h] at ho; cases ho; cases hc)).trans h
theorem own_pure {β : Type} {B : Nat} (f : β → Prop) : OwnFrom B (fun s (_ : World) => f s) := fun _ _ _ _ h _ _ => h

set_option maxHeartbeats 4000000 in
/-- impl.levelOf, of right nodes. -/
theorem implLevel (R : NdP → Prop) (a : Option Addr) (N : List Nd) (c : Nat) (w : World) (hd : Nds R a N w) (hok : ∀ n ∈ N, nodeB n = true) :
    Calls Tryz.prog 64 #[.slice a N.length c] w fun e w' => e = .returned (.int .i64 (lvlN N)) ∧ Below w.heap.size w w' := by
  obtain ⟨P, hP, hM⟩ := hd.pick
  have hm := hd.1
  have HV : Hid (lvlN N = if N.any downB = true then 0 else 1) := Lib.hid rfl
  obtain ⟨HR, HS, B0⟩ := two_made w #[.int .i64 0] #[.slice a N.length c] 2 27
  refine (callsIn_wide (n := 6)).1 ?_
  refine callsIn_of_wp_marks Tryz.func64 rfl trivial ?_ rfl
  simp only [Tryz.ntmps64, List.size_toArray, List.length_cons, List.length_nil, Nat.reduceAdd, Nat.reduceSub, Array.replicate_succ, Array.replicate_zero, List.push_toArray, List.append_toArray, List.nil_append, List.cons_append]
  gi_wp2_with fail
  refine ⟨trivial, ?_⟩
  refine (nodesOfIn _ _ _ _ _).mono ?_
  rintro e w' ⟨rfl, rfl⟩
  gi_wp2_with fail
  have hsz : ((w.alloc (.cells #[.int .i64 0] 2)).alloc (.cells #[.slice a N.length c] 27)).heap.size = w.heap.size + 2 := by simp
  obtain ⟨W0, hW0⟩ : ∃ W0, (w.alloc (.cells #[.int .i64 0] 2)).alloc (.cells #[.slice a N.length c] 27) = W0 := ⟨_, rfl⟩
  rw [hW0] at HR HS B0 hsz ⊢
  clear hW0
  refine wpIn_rangeFunc_ownH rfl (by omega) (gf := 110) (lb := #[.pointer (some ⟨w.heap.size + 1, 0, none⟩)]) rfl trivial (enters_of Tryz.func110 (by kernel_rfl) rfl)
    (nodesOfStops 5 (by omega) (w.heap.size + 1) w.heap.size a N c P hm W0 (by omega) (by omega) (cell_of_row W0 _ 0 _ _ _ HS) (hP.below B0)) belowK_t (belowK_b (by omega)) (Below.refl _ _) (fun _ => rfl)
    (fun pre W => (Boxed W w.heap.size 2 (.int .i64 0) ∧ Below w.heap.size w W) ∧ ∀ x ∈ pre, downB (nthN N x.1) = false)
    (fun cd pre W => (Boxed W w.heap.size 2 (.int .i64 0) ∧ Below w.heap.size w W) ∧ (cd = .ret ∧ ∃ x ∈ pre, downB (nthN N x.1) = true))
    (OwnFrom.and (OwnFrom.and (Own.from (boxed_own _ _ _) _) (ownFrom_below (Nat.le_refl _) (by omega))) (own_pure _))
    (fun _ => OwnFrom.and (OwnFrom.and (Own.from (boxed_own _ _ _) _) (ownFrom_below (Nat.le_refl _) (by omega))) (own_pure _))
    ⟨⟨HR, B0⟩, by simp⟩
    (fun x a' W => ∃ Bx, w.heap.size < Bx ∧ W.heap[Bx]? = some (.cells (ndC (nthN N x.1) (P x.1)) 66 (0, 0)) ∧ a' = { tmps := #[.slice a N.length c, undef, .pointer (some ⟨w.heap.size, 0, none⟩), undef, .pointer (some ⟨Bx, 0, none⟩), .slice a N.length c, .func (.func 110) #[] #[.pointer (some ⟨w.heap.size + 1, 0, none⟩)], .int .i64 (x.1 : Int), ndV (nthN N x.1) (P x.1), undef, undef, undef], defers := [] })
    (fun x a' _ X Y row hs hg hr => by obtain ⟨Bx, h1, h2, h3⟩ := hs; exact ⟨Bx, h1, row_kept h2 hg (fun r e => (hr r e).2), h3⟩)
    ?assign ?body ?done ?stop
  case assign =>
    rintro l pre x W K ⟨⟨bR, hB⟩, hx⟩ hK
    gi_wp2_with (refine layIn (w := W) (n := nthN N x.1) (p := P x.1) rfl rfl rfl rfl rfl rfl ?_)
    exact hK _ _ ((KeepsOthers.alloc _ _).from _) ((Below.refl _ W).alloc hB.size _) ⟨⟨boxed_own _ _ (fun _ : Unit => Value.int .i64 0) () _ _ none bR (World.grownBy_alloc W _ none) (fun r e => by cases e), hB.alloc hB.size _⟩, hx⟩ ⟨W.heap.size, bR.lt, heap_alloc_new W _, rfl⟩
  case body =>
    rintro l pre x a' W hl - ⟨⟨bR, hB⟩, hx⟩ ⟨Bx, hBx, hC, rfl⟩ hlt
    obtain ⟨hnm, -⟩ := hM x.1 x.2
    have hokk := hok _ (nthN_mem x.2)
    have hnm' := hnm.below hB
    generalize hn : nthN N x.1 = n at *
    generalize P x.1 = p at *
    gi_wp2_with (refine row_takeIn hC rfl rfl rfl ?_)
    refine ⟨trivial, ?_⟩
    refine (CallsIn.inRound l (callsIn_wide.2 (implDrv n p W hnm' hokk))).mono ?_
    rintro e w2 ⟨rfl, b⟩
    have hk := keeps_of_below b
    have bR2 : Boxed w2 w.heap.size 2 (.int .i64 0) := (b.block _ bR.lt).trans bR
    have hB2 := Below.then2 hB b
    have hbw : Below w.heap.size W w2 := b.mono hB.size
    have hdv : drvV n = if downB n = true then 0 else 1 := rfl
    clear b hnm hnm' hC
    cases hdn : downB n
    · rw [hdn] at hdv
      have hdv : drvV n = 1 := hdv
      rw [hdv]
      gi_wp2_with fail
      refine ⟨hk.from _, hbw, ⟨bR2, hB2⟩, fun y hy => ?_⟩
      rcases List.mem_append.1 hy with hy | hy
      · exact hx y hy
      · rw [List.mem_singleton.1 hy, hn]; exact hdn
    · rw [hdn] at hdv
      have hdv : drvV n = 0 := hdv
      rw [hdv]
      have cR := bR2.cell
      have fR := bR2.frozen
      gi_wp2_with fail
      exact ⟨(hk.trans (KeepsOthers.setCell _ _ _)).from _, ⟨bR2.set _, hB2.setCell (p := ⟨w.heap.size, 0, none⟩) (Nat.le_refl _) _⟩, rfl, x, by simp, by rw [hn]; exact hdn⟩
  case done =>
    rintro D ys W hD ⟨hall, -⟩ ⟨⟨bR, hB⟩, hx⟩ hK
    have hV : lvlN N = 1 := by
      rw [HV.out, if_neg]
      rw [Bool.not_eq_true, List.any_eq_false]
      intro n hn
      obtain ⟨j, hj, rfl⟩ := List.getElem_of_mem hn
      rw [← nthN_eq hj, hx ⟨j, hj⟩ (hall j hj)]
      simp
    have cR := bR.cell
    have fR := bR.frozen
    gi_wp2_with fail
    have hK' := (KeepsOthers.setCell W ⟨w.heap.size, 0, none⟩ (.int .i64 1)).same D _ hK rfl
    refine ⟨by simp, .inl ⟨_, _, rfl, run_takeDeferred hK', ?_⟩⟩
    have hc5 := cell_kept (bR.set (.int .i64 1)).cell (grownBy_putObj' _ D (.deferred none)) (fun r e => by cases e; exact ⟨_, hK', rfl⟩)
    refine ⟨.int .i64 1, ?_, by rw [hV], (hB.setCell (p := ⟨w.heap.size, 0, none⟩) (Nat.le_refl _) _).trans (belowK_b (w := w) (Nat.le_refl _) _ D _ _ (by omega) hK' rfl rfl)⟩
    simp [results, Tryz.results64, go_sem, hc5]
  case stop =>
    rintro D cd pre W hD _ ⟨⟨bR, hB⟩, rfl, x, hx, hdn⟩ hK
    have hV : lvlN N = 0 := by
      rw [HV.out, if_pos]
      exact List.any_eq_true.2 ⟨_, nthN_mem x.2, hdn⟩
    have cR := bR.cell
    gi_wp2_with fail
    refine ⟨by simp, .inl ⟨_, _, rfl, run_takeDeferred hK, ?_⟩⟩
    have hc5 := cell_kept bR.cell (grownBy_putObj' _ D (.deferred none)) (fun r e => by cases e; exact ⟨_, hK, rfl⟩)
    refine ⟨.int .i64 0, ?_, by rw [hV], hB.trans (belowK_b (w := w) (Nat.le_refl _) _ D _ _ (by omega) hK rfl rfl)⟩
    simp [results, Tryz.results64, go_sem, hc5]
set_option maxHeartbeats 4000000 in
/-- impl.BusOk. -/
theorem implBusOk (R : NdP → Prop) (a : Option Addr) (N : List Nd) (c : Nat) (now : Int) (w : World) (hd : Nds R a N w) :
    Calls Tryz.prog 14 #[buV a N.length c now] w fun e w' => e = .returned (.bool (busB N now)) ∧ Below w.heap.size w w' := by
  obtain ⟨P, hP, hM⟩ := hd.pick
  have hm := hd.1
  have hm' := hm
  unfold maxLen at hm'
  have HV : Hid (busB N now = (decide (2 ≤ N.length) && (decide (N.length ≤ 6) && (rng now 0 100000 && N.all nodeB)))) := Lib.hid rfl
  obtain ⟨HC, HR, B⟩ := two_made w (buC a N.length c now) #[.bool false] 29 4
  have hb0 : ∀ b : Bool, decide (2 ≤ N.length ∧ N.length ≤ 6) = b → rng (N.length : Int) 2 6 = b := by
    intro b h
    rw [← h]
    unfold rng
    by_cases h2 : 2 ≤ N.length <;> by_cases h6 : N.length ≤ 6 <;> simp [h2, h6] <;> omega
  refine (callsIn_wide (n := 6)).1 ?_
  refine callsIn_of_wp_marks Tryz.func14 rfl trivial ?_ rfl
  simp only [Tryz.ntmps14, List.size_toArray, List.length_cons, List.length_nil, Nat.reduceAdd, Nat.reduceSub, Array.replicate_succ, Array.replicate_zero, List.push_toArray, List.append_toArray, List.nil_append, List.cons_append]
  gi_wp2_with fail
  refine ⟨trivial, ?_⟩
  refine (callsIn_wide.2 (implWithin _ _ _ _)).mono ?_
  rintro e w' ⟨rfl, rfl⟩
  have hsz : ((w.alloc (.cells (buC a N.length c now) 29)).alloc (.cells #[.bool false] 4)).heap.size = w.heap.size + 2 := by simp
  obtain ⟨W0, hW0⟩ : ∃ W0, (w.alloc (.cells (buC a N.length c now) 29)).alloc (.cells #[.bool false] 4) = W0 := ⟨_, rfl⟩
  rw [hW0] at HC HR B hsz ⊢
  clear hW0
  have c0 := cell_of_row W0 _ 0 _ _ _ HC
  have c1 := cell_of_row W0 _ 1 _ _ _ HC
  have bR : Boxed W0 (w.heap.size + 1) 4 (.bool false) := HR
  have cR := bR.cell
  have fR := bR.frozen
  by_cases hL : 2 ≤ N.length ∧ N.length ≤ 6
  case neg =>
    have hb := hb0 false (decide_eq_false hL)
    have hv : busB N now = false := by
      rw [HV.out]
      by_cases h2 : 2 ≤ N.length
      · rw [decide_eq_false (show ¬ N.length ≤ 6 from fun h => hL ⟨h2, h⟩)]; simp
      · rw [decide_eq_false h2]; rfl
    clear hb0 hL
    gi_wp2_with fail
    refine ⟨trivial, ?_⟩
    gi_wp2_with fail
    refine ⟨.bool false, ?_, by rw [hv], B.setCell (p := ⟨w.heap.size + 1, 0, none⟩) (by simp) _⟩
    have hc5 := (bR.set (.bool false)).cell
    simp [results, Tryz.results14, go_sem, hc5]
  have hb := hb0 true (decide_eq_true hL)
  have hv : busB N now = (rng now 0 100000 && N.all nodeB) := by
    rw [HV.out, decide_eq_true hL.1, decide_eq_true hL.2]; rfl
  clear hb0 HV hL
  cases hn : rng now 0 100000
  · rw [hn, Bool.false_and] at hv
    gi_wp2_with fail
    refine ⟨trivial, ?_⟩
    refine (callsIn_wide.2 (implWithin _ _ _ _)).mono ?_
    rintro e w' ⟨rfl, rfl⟩
    gi_wp2_with fail
    refine ⟨.bool false, ?_, by rw [hv], B.setCell (p := ⟨w.heap.size + 1, 0, none⟩) (by simp) _⟩
    have hc5 := (bR.set (.bool false)).cell
    simp [results, Tryz.results14, go_sem, hc5]
  rw [hn, Bool.true_and] at hv
  gi_wp2_with fail
  refine ⟨trivial, ?_⟩
  refine (callsIn_wide.2 (implWithin _ _ _ _)).mono ?_
  rintro e w' ⟨rfl, rfl⟩
  gi_wp2_with fail
  refine ⟨trivial, ?_⟩
  refine (nodesOfIn _ _ _ _ _).mono ?_
  rintro e w' ⟨rfl, rfl⟩
  gi_wp2_with fail
  clear c0 c1 hb hn cR fR
  have bR1 := bR.alloc (.cells #[.slice a N.length c] 27)
  have B1 := below_more B (.cells #[.slice a N.length c] 27)
  have HS := heap_alloc_new W0 (.cells #[.slice a N.length c] 27)
  have hsz1 : (W0.alloc (.cells #[.slice a N.length c] 27)).heap.size = w.heap.size + 3 := by simp [hsz]
  rw [hsz] at HS
  obtain ⟨W1, hW1⟩ : ∃ W1, W0.alloc (.cells #[.slice a N.length c] 27) = W1 := ⟨_, rfl⟩
  rw [hW1] at bR1 B1 HS hsz1 ⊢
  try rw [hsz]
  clear hW1 bR B HC HR hsz W0
  refine wpIn_rangeFunc_ownH rfl (by omega) (gf := 110) (lb := #[.pointer (some ⟨w.heap.size + 2, 0, none⟩)]) rfl trivial (enters_of Tryz.func110 (by kernel_rfl) rfl)
    (nodesOfStops 5 (by omega) (w.heap.size + 2) w.heap.size a N c P hm W1 (by omega) (by omega) (cell_of_row W1 _ 0 _ _ _ HS) (hP.below B1)) belowK_t (belowK_b (by omega)) (Below.refl _ _) (fun _ => rfl)
    (fun pre W => (Boxed W (w.heap.size + 1) 4 (.bool false) ∧ Below w.heap.size w W) ∧ ∀ x ∈ pre, nodeB (nthN N x.1) = true)
    (fun cd pre W => (Boxed W (w.heap.size + 1) 4 (.bool false) ∧ Below w.heap.size w W) ∧ (cd = .ret ∧ ∃ x ∈ pre, nodeB (nthN N x.1) = false))
    (OwnFrom.and (OwnFrom.and (Own.from (boxed_own _ _ _) _) (ownFrom_below (Nat.le_refl _) (by omega))) (own_pure _))
    (fun _ => OwnFrom.and (OwnFrom.and (Own.from (boxed_own _ _ _) _) (ownFrom_below (Nat.le_refl _) (by omega))) (own_pure _))
    ⟨⟨bR1, B1⟩, by simp⟩
    (fun x a' W => ∃ Bx, w.heap.size + 1 < Bx ∧ W.heap[Bx]? = some (.cells (ndC (nthN N x.1) (P x.1)) 66 (0, 0)) ∧ a' = { tmps := #[buV a N.length c now, .pointer (some ⟨w.heap.size, 0, none⟩), .pointer (some ⟨w.heap.size + 1, 0, none⟩), undef, .pointer (some ⟨Bx, 0, none⟩), .pointer (some ⟨w.heap.size, 0, none⟩), .slice a N.length c, .int .i64 (N.length : Int), .bool true, .bool false, .bool false, .pointer (some ⟨w.heap.size, 1, none⟩), .int .i64 now, .bool true, .bool false, .bool false, .pointer (some ⟨w.heap.size, 0, none⟩), .slice a N.length c, .func (.func 110) #[] #[.pointer (some ⟨w.heap.size + 2, 0, none⟩)], .int .i64 (x.1 : Int), ndV (nthN N x.1) (P x.1), undef, undef, undef], defers := [] })
    (fun x a' _ X Y row hs hg hr => by obtain ⟨Bx, h1, h2, h3⟩ := hs; exact ⟨Bx, h1, row_kept h2 hg (fun r e => (hr r e).2), h3⟩)
    ?assign ?body ?done ?stop
  case assign =>
    rintro l pre x W K ⟨⟨bR, hB⟩, hx⟩ hK
    gi_wp2_with (refine layIn (w := W) (n := nthN N x.1) (p := P x.1) rfl rfl rfl rfl rfl rfl ?_)
    exact hK _ _ ((KeepsOthers.alloc _ _).from _) ((Below.refl _ W).alloc hB.size _) ⟨⟨bR.alloc _, hB.alloc hB.size _⟩, hx⟩ ⟨W.heap.size, bR.lt, heap_alloc_new W _, rfl⟩
  case body =>
    rintro l pre x a' W hl - ⟨⟨bR, hB⟩, hx⟩ ⟨Bx, hBx, hC, rfl⟩ hlt
    obtain ⟨hnm, -⟩ := hM x.1 x.2
    have hnm' := hnm.below hB
    generalize hn : nthN N x.1 = n at *
    generalize P x.1 = p at *
    gi_wp2_with (refine row_takeIn hC rfl rfl rfl ?_)
    refine ⟨trivial, ?_⟩
    refine (CallsIn.inRound l (callsIn_wide.2 (implNodeOk n p W hnm'))).mono ?_
    rintro e w2 ⟨rfl, b⟩
    have hk := keeps_of_below b
    have bR2 : Boxed w2 (w.heap.size + 1) 4 (.bool false) := (b.block _ bR.lt).trans bR
    have hB2 := Below.then2 hB b
    have hbw : Below w.heap.size W w2 := b.mono hB.size
    clear b hnm hnm' hC
    cases hdn : nodeB n
    · have cR := bR2.cell
      have fR := bR2.frozen
      gi_wp2_with fail
      exact ⟨(hk.trans (KeepsOthers.setCell _ _ _)).from _, ⟨bR2.set _, hB2.setCell (p := ⟨w.heap.size + 1, 0, none⟩) (by simp) _⟩, rfl, x, by simp, by rw [hn]; exact hdn⟩
    · gi_wp2_with fail
      refine ⟨hk.from _, hbw, ⟨bR2, hB2⟩, fun y hy => ?_⟩
      rcases List.mem_append.1 hy with hy | hy
      · exact hx y hy
      · rw [List.mem_singleton.1 hy, hn]; exact hdn
  case done =>
    rintro D ys W hD ⟨hall, -⟩ ⟨⟨bR, hB⟩, hx⟩ hK
    have hV : N.all nodeB = true := by
      rw [List.all_eq_true]
      intro n hn
      obtain ⟨j, hj, rfl⟩ := List.getElem_of_mem hn
      rw [← nthN_eq hj, hx ⟨j, hj⟩ (hall j hj)]
    have cR := bR.cell
    have fR := bR.frozen
    gi_wp2_with fail
    have hK' := (KeepsOthers.setCell W ⟨w.heap.size + 1, 0, none⟩ (.bool true)).same D _ hK rfl
    refine ⟨by simp, .inl ⟨_, _, rfl, run_takeDeferred hK', ?_⟩⟩
    have hc5 := cell_kept (bR.set (.bool true)).cell (grownBy_putObj' _ D (.deferred none)) (fun r e => by cases e; exact ⟨_, hK', rfl⟩)
    refine ⟨.bool true, ?_, by rw [hv, hV], (hB.setCell (p := ⟨w.heap.size + 1, 0, none⟩) (by simp) _).trans (belowK_b (w := w) (Nat.le_refl _) _ D _ _ (by omega) hK' rfl rfl)⟩
    simp [results, Tryz.results14, go_sem, hc5]
  case stop =>
    rintro D cd pre W hD _ ⟨⟨bR, hB⟩, rfl, x, hx, hdn⟩ hK
    have hV : N.all nodeB = false := by
      rw [← Bool.not_eq_true, List.all_eq_true]
      intro h
      rw [h _ (nthN_mem x.2)] at hdn
      cases hdn
    have cR := bR.cell
    gi_wp2_with fail
    refine ⟨by simp, .inl ⟨_, _, rfl, run_takeDeferred hK, ?_⟩⟩
    have hc5 := cell_kept bR.cell (grownBy_putObj' _ D (.deferred none)) (fun r e => by cases e; exact ⟨_, hK, rfl⟩)
    refine ⟨.bool false, ?_, by rw [hv, hV], hB.trans (belowK_b (w := w) (Nat.le_refl _) _ D _ _ (by omega) hK rfl rfl)⟩
    simp [results, Tryz.results14, go_sem, hc5]
/-- impl.LevelOf. -/
theorem implLevelOf (R : NdP → Prop) (a : Option Addr) (N : List Nd) (c : Nat) (now : Int) (w : World) (hd : Nds R a N w) :
    Calls Tryz.prog 25 #[buV a N.length c now] w fun e w' => e = .returned (.int .i64 (levelN N now)) ∧ Below w.heap.size w w' := by
  have HV : levelN N now = if busB N now = true then lvlN N else 1 := rfl
  obtain ⟨HC, B⟩ := one_made w (buC a N.length c now) 29
  go_enter Tryz.func25, Tryz.ntmps25
  go_upto_region 1 with fail
  generalize World.alloc _ _ = W at HC B ⊢
  generalize w.heap.size = g1 at HC ⊢
  have c0 := cell_of_row W g1 0 _ _ _ HC
  have c1 := cell_of_row W g1 1 _ _ _ HC
  go_wp2_with fail
  refine (implBusOk R a N c now _ (hd.below B)).mono ?_
  rintro e w1 ⟨rfl, b⟩
  replace HC := (b.block g1 (Array.getElem?_eq_some_iff.1 HC).1).trans HC
  replace B := Below.then2 B b
  clear b c0 c1
  cases hok : busB N now
  · rw [hok] at HV
    have hV : levelN N now = 1 := HV
    clear hok HV
    go_wp2_with fail
    go_ret
    exact ⟨by rw [hV]; rfl, B⟩
  · rw [hok] at HV
    have hV : levelN N now = lvlN N := HV
    have hn := (busB_iff.1 hok).2.2.2
    clear hok HV
    have c0 := cell_of_row _ g1 0 _ _ _ HC
    go_wp2_with fail
    refine (implLevel R a N c _ (hd.below B) hn).mono ?_
    rintro e w2 ⟨rfl, b⟩
    replace B := Below.then2 B b
    rw [← hV]
    clear hV c0 b HC hn
    go_wp2_with fail
    go_ret
    exact ⟨rfl, B⟩
end Go.Proofs.YtjlegnnekjcpmaaGreat

