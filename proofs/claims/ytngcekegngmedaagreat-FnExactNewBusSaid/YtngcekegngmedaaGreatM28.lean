/- The program's BusOk, levelOf and LevelOf. -/
import Derived.Test.YtngcekegngmedaaGreatM26
import Derived.Test.YtngcekegngmedaaGreatM18
import Derived.Test.YtngcekegngmedaaGreatM27
import Derived.Test.YtngcekegngmedaaGreatM24
import Derived.Test.YtngcekegngmedaaGreatM29

set_option linter.unusedVariables false
set_option linter.unusedSimpArgs false
set_option maxRecDepth 20000
namespace Go.Proofs.YtngcekegngmedaaGreat
open Go.RowKit Go.Shelf
attribute [local go_sem] Oper.semAt_some

theorem keeps_of_below {W W' : World} (b : Below W.heap.size W W') : KeepsOthers W W' := ⟨b.size, fun k o hk _ => (b.block k (Array.getElem?_eq_some_iff.1 hk).1).trans hk⟩
theorem row_kept {B : Nat} {C : Array Value} {t : TypeId} {fr : Nat × Nat} {X Y : World} {row : Option Nat} (h : X.heap[B]? = some (.cells C t fr)) (hg : X.grownBy Y row) (hr : ∀ r, row = some r → ∃ o : Obj, X.heap[r]? = some o ∧ o.isCells = false) : Y.heap[B]? = some (.cells C t fr) :=
  (hg.block B (Array.getElem?_eq_some_iff.1 h).1 (fun e => by obtain ⟨o, ho, hc⟩ := hr B e.symm; rw [h] at ho; cases ho; cases hc)).trans h
theorem own_pure {β : Type} {B : Nat} (f : β → Prop) : OwnFrom B (fun s (_ : World) => f s) := fun _ _ _ _ h _ _ => h

set_option maxHeartbeats 4000000 in
/-- impl.BusOk. -/
theorem implBusOk (R : NdP → Prop) (a : Option Addr) (N : List Nd) (c : Nat) (now : Int) (w : World) (hd : Nds R a N w) :
    Calls Tryz.prog 18 #[buV a N.length c now] w fun e w' => e = .returned (.bool (busB N now)) ∧ Below w.heap.size w w' := by
  obtain ⟨P, hP, hM⟩ := hd.pick
  have hm := hd.1
  have hm' := hm
  unfold maxLen at hm'
  have HV : Hid (busB N now = (decide (2 ≤ N.length) && (decide (N.length ≤ 6) && (rng now 0 100000 && N.all nodeB)))) := Lib.hid rfl
  obtain ⟨HC, HR, B⟩ := two_made w (buC a N.length c now) #[.bool false] 26 4
  have hb0 : ∀ b : Bool, decide (2 ≤ N.length ∧ N.length ≤ 6) = b → rng (N.length : Int) 2 6 = b := by
    intro b h
    rw [← h]
    unfold rng
    by_cases h2 : 2 ≤ N.length <;> by_cases h6 : N.length ≤ 6 <;> simp [h2, h6] <;> omega
  refine (callsIn_wide (n := 6)).1 ?_
  refine callsIn_of_wp_marks Tryz.func18 rfl trivial ?_ rfl
  simp only [Tryz.ntmps18, List.size_toArray, List.length_cons, List.length_nil, Nat.reduceAdd, Nat.reduceSub, Array.replicate_succ, Array.replicate_zero, List.push_toArray, List.append_toArray, List.nil_append, List.cons_append]
  gi_wp2_with fail
  refine ⟨trivial, ?_⟩
  refine (callsIn_wide.2 (implWithin _ _ _ _)).mono ?_
  rintro e w' ⟨rfl, rfl⟩
  have hsz : ((w.alloc (.cells (buC a N.length c now) 26)).alloc (.cells #[.bool false] 4)).heap.size = w.heap.size + 2 := by simp
  obtain ⟨W0, hW0⟩ : ∃ W0, (w.alloc (.cells (buC a N.length c now) 26)).alloc (.cells #[.bool false] 4) = W0 := ⟨_, rfl⟩
  rw [hW0] at HC HR B hsz ⊢
  clear hW0
  have c0 := cell_of_row W0 _ 0 _ _ _ HC
  have c1 := cell_of_row W0 _ 1 _ _ _ HC
  have bR : Boxed W0 (w.heap.size + 1) 4 (.bool false) := HR
  have cR := bR.cell
  have fR := bR.frozen
  by_cases hL : 2 ≤ N.length ∧ N.length ≤ 6
  case neg =>
    have hb := hb0 false (decide_eq_false hL)
    have hv : busB N now = false := by
      rw [HV.out]
      by_cases h2 : 2 ≤ N.length
      · rw [decide_eq_false (show ¬ N.length ≤ 6 from fun h => hL ⟨h2, h⟩)]; simp
      · rw [decide_eq_false h2]; rfl
    clear hb0 hL
    gi_wp2_with fail
    refine ⟨trivial, ?_⟩
    gi_wp2_with fail
    refine ⟨.bool false, ?_, by rw [hv], B.setCell (p := ⟨w.heap.size + 1, 0, none⟩) (by simp) _⟩
    have hc5 := (bR.set (.bool false)).cell
    simp [results, Tryz.results18, go_sem, hc5]
  have hb := hb0 true (decide_eq_true hL)
  have hv : busB N now = (rng now 0 100000 && N.all nodeB) := by
    rw [HV.out, decide_eq_true hL.1, decide_eq_true hL.2]; rfl
  clear hb0 HV hL
  cases hn : rng now 0 100000
  · rw [hn, Bool.false_and] at hv
    gi_wp2_with fail
    refine ⟨trivial, ?_⟩
    refine (callsIn_wide.2 (implWithin _ _ _ _)).mono ?_
    rintro e w' ⟨rfl, rfl⟩
    gi_wp2_with fail
    refine ⟨.bool false, ?_, by rw [hv], B.setCell (p := ⟨w.heap.size + 1, 0, none⟩) (by simp) _⟩
    have hc5 := (bR.set (.bool false)).cell
    simp [results, Tryz.results18, go_sem, hc5]
  rw [hn, Bool.true_and] at hv
  gi_wp2_with fail
  refine ⟨trivial, ?_⟩
  refine (callsIn_wide.2 (implWithin _ _ _ _)).mono ?_
  rintro e w' ⟨rfl, rfl⟩
  gi_wp2_with fail
  refine ⟨trivial, ?_⟩
  refine (nodesOfIn _ _ _ _ _).mono ?_
  rintro e w' ⟨rfl, rfl⟩
  gi_wp2_with fail
  clear c0 c1 hb hn cR fR
  have bR1 := bR.alloc (.cells #[.slice a N.length c] 24)
  have B1 := below_more B (.cells #[.slice a N.length c] 24)
  have HS := heap_alloc_new W0 (.cells #[.slice a N.length c] 24)
  have hsz1 : (W0.alloc (.cells #[.slice a N.length c] 24)).heap.size = w.heap.size + 3 := by simp [hsz]
  rw [hsz] at HS
  obtain ⟨W1, hW1⟩ : ∃ W1, W0.alloc (.cells #[.slice a N.length c] 24) = W1 := ⟨_, rfl⟩
  rw [hW1] at bR1 B1 HS hsz1 ⊢
  try rw [hsz]
  clear hW1 bR B HC HR hsz W0
  refine wpIn_rangeFunc_ownH rfl (by omega) (gf := 50) (lb := #[.pointer (some ⟨w.heap.size + 2, 0, none⟩)]) rfl trivial (enters_of Tryz.func50 (by kernel_rfl) rfl)
    (nodesOfStops 5 (by omega) (w.heap.size + 2) w.heap.size a N c P hm W1 (by omega) (by omega) (cell_of_row W1 _ 0 _ _ _ HS) (hP.below B1)) belowK_t (belowK_b (by omega)) (Below.refl _ _) (fun _ => rfl)
    (fun pre W => (Boxed W (w.heap.size + 1) 4 (.bool false) ∧ Below w.heap.size w W) ∧ ∀ x ∈ pre, nodeB (nthN N x.1) = true)
    (fun cd pre W => (Boxed W (w.heap.size + 1) 4 (.bool false) ∧ Below w.heap.size w W) ∧ (cd = .ret ∧ ∃ x ∈ pre, nodeB (nthN N x.1) = false))
    (OwnFrom.and (OwnFrom.and (Own.from (boxed_own _ _ _) _) (ownFrom_below (Nat.le_refl _) (by omega))) (own_pure _))
    (fun _ => OwnFrom.and (OwnFrom.and (Own.from (boxed_own _ _ _) _) (ownFrom_below (Nat.le_refl _) (by omega))) (own_pure _))
    ⟨⟨bR1, B1⟩, by simp⟩
    (fun x a' W => ∃ Bx, w.heap.size + 1 < Bx ∧ W.heap[Bx]? = some (.cells (ndC (nthN N x.1) (P x.1)) 46 (0, 0)) ∧ a' = { tmps := #[buV a N.length c now, .pointer (some ⟨w.heap.size, 0, none⟩), .pointer (some ⟨w.heap.size + 1, 0, none⟩), undef, .pointer (some ⟨Bx, 0, none⟩), .pointer (some ⟨w.heap.size, 0, none⟩), .slice a N.length c, .int .i64 (N.length : Int), .bool true, .bool false, .bool false, .pointer (some ⟨w.heap.size, 1, none⟩), .int .i64 now, .bool true, .bool false, .bool false, .pointer (some ⟨w.heap.size, 0, none⟩), .slice a N.length c, .func (.func 50) #[] #[.pointer (some ⟨w.heap.size + 2, 0, none⟩)], .int .i64 (x.1 : Int), ndV (nthN N x.1) (P x.1), undef, undef, undef], defers := [] })
    (fun x a' _ X Y row hs hg hr => by obtain ⟨Bx, h1, h2, h3⟩ := hs; exact ⟨Bx, h1, row_kept h2 hg (fun r e => (hr r e).2), h3⟩)
    ?assign ?body ?done ?stop
  case assign =>
    rintro l pre x W K ⟨⟨bR, hB⟩, hx⟩ hK
    gi_wp2_with (refine layIn (w := W) (n := nthN N x.1) (p := P x.1) rfl rfl rfl rfl rfl rfl ?_)
    exact hK _ _ ((KeepsOthers.alloc _ _).from _) ((Below.refl _ W).alloc hB.size _) ⟨⟨bR.alloc _, hB.alloc hB.size _⟩, hx⟩ ⟨W.heap.size, bR.lt, heap_alloc_new W _, rfl⟩
  case body =>
    rintro l pre x a' W hl - ⟨⟨bR, hB⟩, hx⟩ ⟨Bx, hBx, hC, rfl⟩ hlt
    obtain ⟨hnm, -⟩ := hM x.1 x.2
    have hnm' := hnm.below hB
    generalize hn : nthN N x.1 = n at *
    generalize P x.1 = p at *
    gi_wp2_with (refine row_takeIn hC rfl rfl rfl ?_)
    refine ⟨trivial, ?_⟩
    refine (CallsIn.inRound l (callsIn_wide.2 (implNodeOk n p W hnm'))).mono ?_
    rintro e w2 ⟨rfl, b⟩
    have hk := keeps_of_below b
    have bR2 : Boxed w2 (w.heap.size + 1) 4 (.bool false) := (b.block _ bR.lt).trans bR
    have hB2 := Below.then2 hB b
    have hbw : Below w.heap.size W w2 := b.mono hB.size
    clear b hnm hnm' hC
    cases hdn : nodeB n
    · have cR := bR2.cell
      have fR := bR2.frozen
      gi_wp2_with fail
      exact ⟨(hk.trans (KeepsOthers.setCell _ _ _)).from _, ⟨bR2.set _, hB2.setCell (p := ⟨w.heap.size + 1, 0, none⟩) (by simp) _⟩, rfl, x, by simp, by rw [hn]; exact hdn⟩
    · gi_wp2_with fail
      refine ⟨hk.from _, hbw, ⟨bR2, hB2⟩, fun y hy => ?_⟩
      rcases List.mem_append.1 hy with hy | hy
      · exact hx y hy
      · rw [List.mem_singleton.1 hy, hn]; exact hdn
  case done =>
    rintro D ys W hD ⟨hall, -⟩ ⟨⟨bR, hB⟩, hx⟩ hK
    have hV : N.all nodeB = true := by
      rw [List.all_eq_true]
      intro n hn
      obtain ⟨j, hj, rfl⟩ := List.getElem_of_mem hn
      rw [← nthN_eq hj, hx ⟨j, hj⟩ (hall j hj)]
    have cR := bR.cell
    have fR := bR.frozen
    gi_wp2_with fail
    have hK' := (KeepsOthers.setCell W ⟨w.heap.size + 1, 0, none⟩ (.bool true)).same D _ hK rfl
    refine ⟨by simp, .inl ⟨_, _, rfl, run_takeDeferred hK', ?_⟩⟩
    have hc5 := cell_kept (bR.set (.bool true)).cell (grownBy_putObj' _ D (.deferred none)) (fun r e => by cases e; exact ⟨_, hK', rfl⟩)
    refine ⟨.bool true, ?_, by rw [hv, hV], (hB.setCell (p := ⟨w.heap.size + 1, 0, none⟩) (by simp) _).trans (belowK_b (w := w) (Nat.le_refl _) _ D _ _ (by omega) hK' rfl rfl)⟩
    simp [results, Tryz.results18, go_sem, hc5]
  case stop =>
    rintro D cd pre W hD _ ⟨⟨bR, hB⟩, rfl, x, hx, hdn⟩ hK
    have hV : N.all nodeB = false := by
      rw [← Bool.not_eq_true, List.all_eq_true]
      intro h
      rw [h _ (nthN_mem x.2)] at hdn
      cases hdn
    have cR := bR.cell
    gi_wp2_with fail
    refine ⟨by simp, .inl ⟨_, _, rfl, run_takeDeferred hK, ?_⟩⟩
    have hc5 := cell_kept bR.cell (grownBy_putObj' _ D (.deferred none)) (fun r e => by cases e; exact ⟨_, hK, rfl⟩)
    refine ⟨.bool false, ?_, by rw [hv, hV], hB.trans (belowK_b (w := w) (Nat.le_refl _) _ D _ _ (by omega) hK rfl rfl)⟩
    simp [results, Tryz.results18, go_sem, hc5]
end Go.Proofs.YtngcekegngmedaaGreat

/- impl.copiedBus: a copy of a bus of right nodes, in memory of its own. -/

set_option linter.unusedVariables false
set_option linter.unusedSimpArgs false
set_option maxRecDepth 20000
namespace Go.Proofs.YtngcekegngmedaaGreat
open Go.RowKit Go.Shelf
attribute [local go_sem] Oper.semAt_some

theorem blkB {w w' : World} {g : Nat} {o : Obj} (h : w.heap[g]? = some o) (b : Below w.heap.size w w') : w'.heap[g]? = some o := (b.block g (Array.getElem?_eq_some_iff.1 h).1).trans h
/-! ### What holds cells stays where the cells stay. -/
def KC (w w' : World) : Prop := ∀ (g : Nat) (C : Array Value) (T : TypeId) (z : Nat × Nat), w.heap[g]? = some (Obj.cells C T z) → w'.heap[g]? = some (Obj.cells C T z)
theorem KC.of_grown {w w' : World} {row : Option Nat} (hg : w.grownBy w' row) (hr : ∀ r, row = some r → ∃ o : Obj, w.heap[r]? = some o ∧ o.isCells = false) : KC w w' := fun g C T z h => row_kept h hg hr
theorem OwnI.kc {B : Nat} {D : List Int} {v : Value} {w w' : World} (h : OwnI B D v w) (k : KC w w') : OwnI B D v w' := by
  refine ⟨⟨h.1.1, ?_⟩, h.2⟩
  rcases h.1.2 with e | ⟨g, cap, cur, e, hb, hg, r⟩
  · exact .inl e
  · exact .inr ⟨g, cap, cur, e, hb, k _ _ _ _ hg, r⟩
theorem OwnF.kc {B : Nat} {M : List (Frm × Value)} {v : Value} {w w' : World} (h : OwnF B M v w) (k : KC w w') : OwnF B M v w' := by
  refine ⟨⟨h.1.1, ?_⟩, fun m hm => (h.2 m hm).kc k⟩
  rcases h.1.2 with e | ⟨g, cap, cur, e, hb, hg, r⟩
  · exact .inl e
  · exact .inr ⟨g, cap, cur, e, hb, k _ _ _ _ hg, r⟩
theorem OwnP.kc {B : Nat} {M : List (Int × Int)} {v : Value} {w w' : World} (h : OwnP B M v w) (k : KC w w') : OwnP B M v w' := by
  obtain ⟨h1, h2 | ⟨g, cap, cur, e, hb, hg, r⟩⟩ := h
  · exact ⟨h1, .inl h2⟩
  · exact ⟨h1, .inr ⟨g, cap, cur, e, hb, k _ _ _ _ hg, r⟩⟩
theorem NdI.kc {j : NdJ} {lo hi : Nat} {n : Nd} {p : NdP} {MB MF : List (Frm × Value)} {w w' : World} (h : NdI j lo hi n p MB MF w) (k : KC w w') : NdI j lo hi n p MB MF w' :=
  ⟨h.dat.kc k, h.box.kc k, h.fifo.kc k, h.flt.kc k, h.mb, h.mf, h.fb, h.ff, h.ud, h.ux, h.uf, h.ul, h.ok, h.got⟩

/-! ### A row of nodes some of which are laid. -/
structure RowQ (B G hi cap : Nat) (F : Nat → Prop) (N : List Nd) (P : Nat → NdP) (J : Nat → NdJ) (L H : Nat → Nat) (MB MF : Nat → List (Frm × Value)) (cur : Array Value) (w : World) : Prop where
  blk : w.heap[G]? = some (.cells cur 46 (0, 0))
  len : cur.size = cap * 18
  cel : ∀ j, F j → ∀ i v, (ndC (nthN N j) (P j)).toList[i]? = some v → cur[j * 18 + i]? = some v
  mem : ∀ j, F j → NdI (J j) (L j) (H j) (nthN N j) (P j) (MB j) (MF j) w
  far : ∀ i j, F i → F j → i ≠ j → H i ≤ L j ∨ H j ≤ L i
  out : ∀ j, F j → B ≤ L j ∧ L j ≤ H j ∧ H j ≤ hi ∧ (G < L j ∨ H j ≤ G)
  top : B ≤ G ∧ G < hi
def OwnQ (B G hi cap : Nat) (F : Nat → Prop) (N : List Nd) (w : World) : Prop := ∃ P J L H MB MF cur, RowQ B G hi cap F N P J L H MB MF cur w
section
variable {B G hi cap : Nat} {F : Nat → Prop} {N : List Nd} {w w' : World}
theorem OwnQ.kc (h : OwnQ B G hi cap F N w) (k : KC w w') : OwnQ B G hi cap F N w' := by
  obtain ⟨P, J, L, H, MB, MF, cur, h⟩ := h
  exact ⟨P, J, L, H, MB, MF, cur, ⟨k _ _ _ _ h.blk, h.len, h.cel, fun j hj => (h.mem j hj).kc k, h.far, h.out, h.top⟩⟩
theorem OwnQ.below (h : OwnQ B G hi cap F N w) (b : Below w.heap.size w w') : OwnQ B G hi cap F N w' := h.kc fun g C T z hg => (b.block g (Array.getElem?_eq_some_iff.1 hg).1).trans hg
theorem OwnQ.wide {hi' : Nat} (h : OwnQ B G hi cap F N w) (hh : hi ≤ hi') : OwnQ B G hi' cap F N w := by
  obtain ⟨P, J, L, H, MB, MF, cur, h⟩ := h
  have ht := h.top
  exact ⟨P, J, L, H, MB, MF, cur, ⟨h.blk, h.len, h.cel, h.mem, h.far, fun j hj => by have := h.out j hj; omega, by omega⟩⟩
theorem OwnQ.blk (h : OwnQ B G hi cap F N w) : ∃ cur, w.heap[G]? = some (.cells cur 46 (0, 0)) ∧ cur.size = cap * 18 := by
  obtain ⟨P, J, L, H, MB, MF, cur, h⟩ := h
  exact ⟨cur, h.blk, h.len⟩
theorem OwnQ.less {F' : Nat → Prop} (h : OwnQ B G hi cap F N w) (hF : ∀ j, F' j → F j) : OwnQ B G hi cap F' N w := by
  obtain ⟨P, J, L, H, MB, MF, cur, h⟩ := h
  exact ⟨P, J, L, H, MB, MF, cur, ⟨h.blk, h.len, fun j hj => h.cel j (hF j hj), fun j hj => h.mem j (hF j hj), fun i j hi hj => h.far i j (hF i hi) (hF j hj), fun j hj => h.out j (hF j hj), h.top⟩⟩
theorem OwnQ.own (h : OwnQ B G hi cap F N w) {k : Nat} (hF : ∀ j, j < k → F j) (hk : k ≤ cap) : OwnN B G hi cap k N w := by
  obtain ⟨P, J, L, H, MB, MF, cur, h⟩ := h
  exact ⟨P, J, L, H, MB, MF, cur, ⟨h.blk, h.len, fun j hj => h.cel j (hF j hj), fun j hj => h.mem j (hF j hj), fun i j hi hj => h.far i j (hF i (by omega)) (hF j hj) (by omega), fun j hj => h.out j (hF j hj), h.top, hk⟩⟩
theorem OwnN.ownQ {k : Nat} (h : OwnN B G hi cap k N w) : OwnQ B G hi cap (fun j => j < k) N w := by
  obtain ⟨P, J, L, H, MB, MF, cur, h⟩ := h
  exact ⟨P, J, L, H, MB, MF, cur, ⟨h.blk, h.len, h.cel, h.mem, fun i j hi hj hne => by
    rcases Nat.lt_or_gt_of_ne hne with e | e
    · exact h.far i j e hj
    · exact (h.far j i e hi).symm, h.out, h.top⟩⟩
theorem OwnN.kc {k : Nat} (h : OwnN B G hi cap k N w) (kk : KC w w') : OwnN B G hi cap k N w' := by
  have hk : k ≤ cap := by obtain ⟨P, J, L, H, MB, MF, cur, h⟩ := h; exact h.kc
  exact (h.ownQ.kc kk).own (fun j hj => hj) hk
theorem OwnN.low {k B' : Nat} (h : OwnN B G hi cap k N w) (hB : B' ≤ B) : OwnN B' G hi cap k N w := by
  obtain ⟨P, J, L, H, MB, MF, cur, h⟩ := h
  have ht := h.top
  exact ⟨P, J, L, H, MB, MF, cur, ⟨h.blk, h.len, h.cel, h.mem, h.far, fun j hj => by have := h.out j hj; omega, by omega, h.kc⟩⟩
/-- A node, in memory of its own, goes to place k; N' is N with it. -/
theorem OwnQ.put {N' : List Nd} (h : OwnQ B G hi cap F N w) {k : Nat} (hk : k < cap) {n : Nd} {p : NdP} {j : NdJ} {lo hi' : Nat} {MB' MF' : List (Frm × Value)} (hn : nthN N' k = n) (hN : ∀ i, F i → i ≠ k → nthN N' i = nthN N i) (ho : NdI j lo hi' n p MB' MF' w) (h1 : hi ≤ lo) (h2 : lo ≤ hi') :
    OwnQ B G hi' cap (fun i => F i ∨ i = k) N' (w.setCells G (k * 18) (ndC n p).toList) := by
  obtain ⟨P, J, L, H, MB, MF, cur, h⟩ := h
  have ht := h.top
  have hl := h.len
  obtain ⟨cur', c1, c2, c3, c4, c5⟩ := setCells_row G 46 (ndC n p).toList (k * 18) cur w h.blk (by rw [hl]; show k * 18 + 18 ≤ cap * 18; omega)
  refine ⟨fun i => if i = k then p else P i, fun i => if i = k then j else J i, fun i => if i = k then lo else L i, fun i => if i = k then hi' else H i, fun i => if i = k then MB' else MB i, fun i => if i = k then MF' else MF i, cur', ⟨c1, by rw [c2, hl], fun i hi0 => ?_, fun i hi0 => ?_, fun i q hiq hq hne => ?_, fun i hi0 => ?_, by omega⟩⟩
  · by_cases e : i = k
    · subst e
      simp only [↓reduceIte, hn]
      exact c3
    · have hF := hi0.resolve_right e
      simp only [if_neg e, hN i hF e]
      intro q v hv
      have hq : q < 18 := (List.getElem?_eq_some_iff.1 hv).1
      rw [c4 _ (by rw [show (ndC n p).toList.length = 18 from rfl]; omega)]
      exact h.cel i hF q v hv
  · by_cases e : i = k
    · subst e
      simp only [↓reduceIte, hn]
      exact ho.sep c5 (.inr (by omega))
    · have hF := hi0.resolve_right e
      simp only [if_neg e, hN i hF e]
      have ho' := h.out i hF
      exact (h.mem i hF).sep c5 (by omega)
  · by_cases e : q = k
    · have hF := hiq.resolve_right (by omega)
      have hi1 := h.out i hF
      subst e
      simp only [↓reduceIte, if_neg hne]
      exact .inl (by omega)
    · have hFq := hq.resolve_right e
      have hq1 := h.out q hFq
      by_cases e2 : i = k
      · subst e2
        simp only [↓reduceIte, if_neg e]
        exact .inr (by omega)
      · simp only [if_neg e, if_neg e2]
        exact h.far i q (hiq.resolve_right e2) hFq hne
  · by_cases e : i = k
    · subst e
      simp only [↓reduceIte]
      exact ⟨by omega, h2, Nat.le_refl _, .inl (by omega)⟩
    · simp only [if_neg e]
      have ho' := h.out i (hi0.resolve_right e)
      exact ⟨ho'.1, ho'.2.1, by omega, ho'.2.2.2⟩
end
theorem own_kc {β : Type} {B' : Nat} (f : β → World → Prop) (hf : ∀ s w w', f s w → KC w w' → w.heap.size ≤ w'.heap.size → f s w') : OwnFrom B' f := fun s W W' row h hg hr => hf s W W' h (KC.of_grown hg fun r e => (hr r e).2) hg.size

theorem keeps_cells (G : Nat) : ∀ (vs : List Value) (o : Nat) (w : World), KeepsOthers w (w.setCells G o vs)
  | [], _, w => KeepsOthers.refl w
  | v :: r, o, w => by rw [World.setCells]; exact (KeepsOthers.setCell w _ v).trans (keeps_cells G r (o + 1) _)
/-- A node goes into the middle of a row, in a region that draws its order. -/
theorem held_putMid {md : Region.Mode} {ops : Array Oper} {Q : Exit → Act → World → Prop} {S : World → Prop} (i G o : Nat) {oi : Oper} {fuel : Nat} {listed : Array Bool} {a : Act} {w : World} {n : Nd} {p : NdP} {x y : Operand} {cur : Array Value} {T : TypeId} {o' : Nat}
    (hi : ops[i]? = some oi) (hr : Region.ready md ops listed = [i]) (hw : Region.wanted oi (yielded ops a.tmps) = true) (hd : oi.dst = none) (ho : oi.op = .store 46 x y) (hx : a.eval x = .pointer (some ⟨G, o', none⟩)) (hoo : o' = o) (hy : a.eval y = ndV n p)
    (hG : w.heap[G]? = some (.cells cur T (0, 0))) (hb : o + 18 ≤ cur.size) (hS : S (w.setCells G o (ndC n p).toList))
    (k : wpAnyH Tryz.prog md ops Q S fuel (listed.setIfInBounds i true) a (w.setCells G o (ndC n p).toList)) : wpAnyH Tryz.prog md ops Q S (fuel + 1) listed a w := by
  subst o
  refine held_op i hi hr hw (wp_store_mid 46 x y ho G o' (ndC n p) hx hy (there_row hG hb) (by kernel_rfl) (ndC_one n p) ⟨hS, ?_⟩)
  rw [hd]
  exact k
end Go.Proofs.YtngcekegngmedaaGreat

/- impl.QueuedAt. -/

set_option linter.unusedVariables false
set_option linter.unusedSimpArgs false
set_option maxRecDepth 20000
namespace Go.Proofs.YtngcekegngmedaaGreat
open Go.RowKit

/-- A slice of nodes that the call owns, or none. -/
def OwnNs (B hi : Nat) (a : Option Addr) (c : Nat) (N : List Nd) (w : World) : Prop := (a = none ∧ c = 0 ∧ N = []) ∨ ∃ G, a = some ⟨G, 0, none⟩ ∧ OwnN B G hi c N.length N w
def QatO (N : List Nd) (now k : Int) (w : World) (e : Ending) (w' : World) : Prop :=
  ∃ a c, e = .returned (.tuple #[buV a N.length c now, .int .i64 k]) ∧ OwnNs w.heap.size w'.heap.size a c N w' ∧ Below w.heap.size w w'
theorem rowN_range {B G hi cap k : Nat} {N : List Nd} {P : Nat → NdP} {J : Nat → NdJ} {L H : Nat → Nat} {MB MF : Nat → List (Frm × Value)} {cur : Array Value} {w : World} (h : RowN B G hi cap k N P J L H MB MF cur w) {j : Nat} (hj : j < k) : w.rangeAt G (j * 18) (ndC (nthN N j) (P j)).toList := fun i v hv => by
  rw [cell_of_row w G _ _ _ _ h.blk]; exact h.cel j hj i v hv
end Go.Proofs.YtngcekegngmedaaGreat

/- laws.markBus, laws.heldBus. -/

set_option linter.unusedVariables false
set_option linter.unusedSimpArgs false
set_option maxRecDepth 20000
namespace Go.Proofs.YtngcekegngmedaaGreat
open Go.RowKit

theorem mixN_nil (k : Int) (j : Nat) : mixN k [] j = [] := rfl
theorem OwnNs.nds {B hi c : Nat} {a : Option Addr} {N : List Nd} {w : World} (h : OwnNs B hi a c N w) (hm : N.length ≤ maxLen) (hs : sumN N N.length ≤ 1048576) : Nds Bare a N w := by
  rcases h with ⟨rfl, rfl, rfl⟩ | ⟨G, rfl, h⟩
  · exact ⟨Nat.zero_le _, fun j hj => absurd hj (by simp)⟩
  · exact h.nds hm hs
theorem OwnNs.below {B hi c : Nat} {a : Option Addr} {N : List Nd} {w w' : World} (h : OwnNs B hi a c N w) (b : Below w.heap.size w w') : OwnNs B hi a c N w' := by
  rcases h with h | ⟨G, e, h⟩
  · exact .inl h
  · exact .inr ⟨G, e, h.below b⟩
theorem OwnNs.sep {B hi c lo' hi' : Nat} {a : Option Addr} {N : List Nd} {w w' : World} (h : OwnNs B hi a c N w) (m : Mid lo' hi' w w') (hs : hi ≤ lo' ∨ hi' ≤ B) : OwnNs B hi a c N w' := by
  rcases h with h | ⟨G, e, h⟩
  · exact .inl h
  · exact .inr ⟨G, e, h.sep m hs⟩
theorem markS_len (k : Int) : (markS k).size ≤ 1 + k.toNat := by
  have := mtV_size k.toNat k.toNat ⟨#[]⟩
  rw [show (ByteArray.size ⟨#[]⟩) = 0 from rfl] at this
  unfold markS
  rw [ByteArray.size_append, show (ByteArray.size ⟨#[109]⟩) = 1 from rfl]
  omega
theorem roomN_mk (k : Int) (n : Nd) : roomN (mkNd k n) ≤ roomN n + (markS (m1N k n)).size := by
  unfold roomN mkNd
  simp only [marks_len, mkL_len, mksP_len, room_mkL _ _ _ (Nat.le_refl _)]
  omega
theorem sumN_small {N : List Nd} (hr : ∀ j, j < N.length → roomN (nthN N j) ≤ 600) : ∀ j, j ≤ N.length → sumN N j ≤ 600 * j
  | 0, _ => by rw [sumN_zero]; omega
  | j + 1, hj => by
    have ih := sumN_small hr j (by omega)
    have := hr j (by omega)
    rw [sumN_succ _ _ (by omega)]
    omega
/-- A small bus stays small when it is marked. -/
theorem sumN_mix {k : Int} {N : List Nd} (hr : ∀ j, j < N.length → roomN (nthN N j) ≤ 600) (h6 : N.length ≤ 6) (h0 : 0 < k) (h1 : k ≤ 100000) : ∀ j, j ≤ N.length → sumN (mixN k N N.length) j ≤ 120000 * j
  | 0, _ => by rw [sumN_zero]; omega
  | j + 1, hj => by
    have ih := sumN_mix hr h6 h0 h1 j (by omega)
    rw [sumN_succ _ _ (by rw [mixN_len]; omega), mixN_full (by omega)]
    have h2 := hr j (by omega)
    have h3 := roomN_mk (kNs k N j) (nthN N j)
    have h4 := markS_len (m1N (kNs k N j) (nthN N j))
    have h5 := (kNs_bd (k := k) (N := N) (j := j) (by omega)).2
    have h7 := sumN_small hr j (by omega)
    have h8 : (nthN N j).fr.D.length ≤ 600 := by unfold roomN at h2; omega
    have h9 : m1N (kNs k N j) (nthN N j) ≤ kNs k N j + 607 := by unfold m1N; omega
    omega
theorem markNodesNil (k0 : Int) (w : World) : Calls Tryz.prog 22 #[.slice none 0 0, .int .i64 k0] w fun e w' => e = .returned (.int .i64 k0) ∧ w = w' := by
  go_enter Tryz.func22, Tryz.ntmps22
  go_wp2_with fail
  go_loopw [1, 5] (fun k i wr => k = .int .i64 k0 ∧ i = .int .i64 0 ∧ w = wr) (fun _ _ _ => 0)
  case atStart => exact ⟨rfl, rfl, rfl⟩
  case round =>
    obtain ⟨rfl, rfl, rfl⟩ := hrel
    go_wp2_with fail
    go_ret
    exact ⟨rfl, rfl⟩
set_option maxHeartbeats 4000000 in
/-- laws.markBus of a bus that the call owns. -/
theorem markBusO (B hi c : Nat) (a : Option Addr) (N : List Nd) (now k0 : Int) (w : World) (HO : OwnNs B hi a c N w) (hi0 : hi ≤ w.heap.size) (hs : N.length + sumN N N.length ≤ 1048577) (h0 : 0 < k0) (h1 : k0 ≤ 20000000) :
    Calls Tryz.prog 11 #[buV a N.length c now, .int .i64 k0] w fun e w' => e = .returned (.int .i64 (kNs k0 N N.length)) ∧ OwnNs B hi a c (mixN k0 N N.length) w' ∧ Mid B hi w w' := by
  obtain ⟨HC, b⟩ := one_made w (buC a N.length c now) 26
  go_enter Tryz.func11, Tryz.ntmps11
  go_upto_region 1 with fail
  generalize World.alloc _ _ = W at HC b ⊢
  generalize w.heap.size = g1 at HC ⊢
  have c0 := cell_of_row W g1 0 _ _ _ HC
  have m0 : Mid B hi w W := Mid.ofBelow b
  have hz := b.size
  rcases HO with ⟨rfl, rfl, rfl⟩ | ⟨G, rfl, HO⟩
  · go_wp2_with fail
    refine (markNodesNil k0 W).mono ?_
    rintro e w2 ⟨rfl, rfl⟩
    go_wp2_with fail
    go_ret
    exact ⟨by rw [show kNs k0 [] ([] : List Nd).length = k0 from kNs_zero _ _]; rfl, .inl ⟨rfl, rfl, rfl⟩, m0⟩
  · replace HO := HO.below b
    go_wp2_with fail
    refine (markNodes B G hi c N k0 W HO (by omega) (by omega) hs h0 h1).mono ?_
    rintro e w2 ⟨rfl, O2, m2⟩
    go_wp2_with fail
    go_ret
    exact ⟨rfl, .inr ⟨G, rfl, by rw [mixN_len]; exact O2⟩, m0.trans m2⟩
set_option maxHeartbeats 4000000 in
/-- laws.heldBus of a marked bus. -/
theorem heldBusO (R : NdP → Prop) (a : Option Addr) (N : List Nd) (c : Nat) (now k0 : Int) (w : World) (hd : Nds R a (mixN k0 N N.length) w) (hs : N.length + sumN N N.length ≤ 1048577) (h0 : 0 < k0) (h1 : k0 ≤ 20000000) :
    Calls Tryz.prog 12 #[buV a N.length c now, .int .i64 k0] w fun e w' => e = .returned (.int .i64 (kNs k0 N N.length)) ∧ Below w.heap.size w w' := by
  have hkb := kNs_bd (k := k0) (N := N) (j := N.length) (Nat.le_refl _)
  have hng : ¬ kNs k0 N N.length < 0 := by omega
  obtain ⟨HC, b⟩ := one_made w (buC a N.length c now) 26
  go_enter Tryz.func12, Tryz.ntmps12
  go_upto_region 1 with fail
  generalize World.alloc _ _ = W at HC b ⊢
  generalize w.heap.size = g1 at HC ⊢
  have c0 := cell_of_row W g1 0 _ _ _ HC
  go_wp2_with fail
  refine (heldNodes R a N c k0 W (hd.below b) (by omega) hs h0 h1).mono ?_
  rintro e w2 ⟨rfl, b2⟩
  have hb := Below.then2 b b2
  go_wp2_with fail
  go_ret
  exact ⟨rfl, hb⟩
end Go.Proofs.YtngcekegngmedaaGreat

/- NewBus, of the program and of the model. -/

set_option linter.unusedVariables false
set_option linter.unusedSimpArgs false
set_option maxRecDepth 20000
namespace Go.Proofs.YtngcekegngmedaaGreat
open Go.RowKit

/-- The nodes of a new bus; whether it is made. -/
def nbB (F : List (List (Int × Int))) : Bool := busB (F.map znd) 0
def nbN (F : List (List (Int × Int))) : List Nd := if nbB F = true then F.map znd else []
theorem nth_znd {F : List (List (Int × Int))} {j : Nat} (h : j < F.length) : nthN (F.map znd) j = znd (nthG F j) := by
  rw [nthN_eq (by simpa using h), nthG_eq h, List.getElem_map]
theorem nbB_not {F : List (List (Int × Int))} {j : Nat} (h : j < F.length) (hn : newB (nthG F j) = false) : nbB F = false := by
  cases e : nbB F
  · rfl
  · have := (busB_iff.1 e).2.2.2 (znd (nthG F j)) (List.mem_map_of_mem (nthG_mem h))
    rw [nodeB_new, hn] at this
    cases this
/-- What NewBus answers. -/
def NwbO (F : List (List (Int × Int))) (w : World) (e : Ending) (w' : World) : Prop :=
  ∃ a c, e = .returned (.tuple #[buV a (nbN F).length c 0, .bool (nbB F)]) ∧ OwnNs w.heap.size w'.heap.size a c (nbN F) w' ∧ Below w.heap.size w w'
theorem NwbO.no {F : List (List (Int × Int))} {w w' : World} (h : nbB F = false) (b : Below w.heap.size w w') : NwbO F w (.returned (.tuple #[buV none 0 0 0, .bool false])) w' := by
  have e : nbN F = [] := by rw [nbN, h]; rfl
  refine ⟨none, 0, by rw [h, e]; rfl, ?_, b⟩
  rw [e]
  exact .inl ⟨rfl, rfl, rfl⟩
theorem NwbO.yes {F : List (List (Int × Int))} {NN : List Nd} {w w' : World} {a : Option Addr} {c : Nat} (hN : F.map znd = NN) (h : nbB F = true) (O : OwnNs w.heap.size w'.heap.size a c NN w') (b : Below w.heap.size w w') : NwbO F w (.returned (.tuple #[buV a NN.length c 0, .bool true])) w' := by
  have e : nbN F = NN := by rw [nbN, h]; exact hN
  refine ⟨a, c, by rw [h, e], ?_, b⟩
  rw [e]
  exact O
theorem sumN_znd (F : List (List (Int × Int))) {k : Nat} (hk : k ≤ F.length) : sumN (F.map znd) k = sumG F k := by
  induction k with
  | zero => rw [sumN_zero, sumG_zero]
  | succ k ih =>
    rw [sumN_succ _ _ (by rw [List.length_map]; exact hk), sumG_succ F k hk, ih (by omega), nth_znd hk]
    simp [roomN, znd, room]
    rfl
/-- A new node owns its filters. -/
theorem newOwn {L : List (Int × Int)} {al : Option Addr} {cl lo : Nat} {w : World} (h : OwnP lo L (.slice al L.length cl) w) (hl : lo ≤ w.heap.size) : OwnM lo w.heap.size (znd L) (zp al cl) w := by
  have hu : ∀ q, (Value.slice al L.length cl).ownBlock = some q → q < w.heap.size := fun q hq => by
    rcases h.2 with ⟨e, _⟩ | ⟨g', cap', cur', e, _, hb, _⟩
    · rw [e] at hq; cases hq
    · rw [e] at hq; cases hq; exact (Array.getElem?_eq_some_iff.1 hb).1
  refine ⟨⟨lo, lo, lo, lo, lo, lo, lo, w.heap.size⟩, [], [], ⟨⟨⟨rfl, .inl ⟨rfl, rfl⟩⟩, by simp [znd]⟩, ⟨⟨rfl, .inl ⟨rfl, rfl⟩⟩, fun m hm => by cases hm⟩, ⟨⟨rfl, .inl ⟨rfl, rfl⟩⟩, fun m hm => by cases hm⟩, h, rfl, rfl, fun i j hi => absurd hi (by simp), fun i j hi => absurd hi (by simp), (fun q hq => by cases hq), ⟨(fun q hq => by cases hq), (fun m hm => by cases hm)⟩, ⟨(fun q hq => by cases hq), (fun m hm => by cases hm)⟩, hu, ?_, Nat.zero_le _⟩⟩
  constructor <;> simp <;> omega
/-- A row that owns its nodes. -/
theorem RowM.ownNs {B : Nat} {N : List Nd} {P : Nat → NdP} {L H : Nat → Nat} {v : Value} {w : World} (h : RowM OwnM B N.length N P L H v w) : ∃ a c, v = .slice a N.length c ∧ OwnNs B w.heap.size a c N w := by
  rcases h.own.2 with ⟨e, h0⟩ | ⟨g, cap, cur, e, hb, hg, hle, hmx, hcs, htk⟩
  · exact ⟨none, 0, by rw [e, h0], .inl ⟨rfl, rfl, List.length_eq_zero_iff.1 h0⟩⟩
  · have hm : ∀ j, ∃ x : NdJ × List (Frm × Value) × List (Frm × Value), j < N.length → NdI x.1 (L j) (H j) (nthN N j) (P j) x.2.1 x.2.2 w := fun j => by
      by_cases hj : j < N.length
      · obtain ⟨x, MB, MF, hx⟩ := h.mem j hj
        exact ⟨(x, MB, MF), fun _ => hx⟩
      · exact ⟨(⟨0, 0, 0, 0, 0, 0, 0, 0⟩, [], []), fun hj' => absurd hj' hj⟩
    obtain ⟨X, hX⟩ := Classical.axiomOfChoice hm
    have hlt := (Array.getElem?_eq_some_iff.1 hg).1
    refine ⟨some ⟨g, 0, none⟩, cap, e, .inr ⟨g, rfl, P, fun j => (X j).1, L, H, fun j => (X j).2.1, fun j => (X j).2.2, cur, ⟨hg, hcs, fun j hj i u hu => ?_, hX, fun i j hij hj => .inl (h.far i j hij hj), fun j hj => ?_, ⟨hb, hlt⟩, hle⟩⟩⟩
    · have hi : i < 18 := (List.getElem?_eq_some_iff.1 hu).1
      have h2 := flatN_at N P N.length j i u hj hu
      rw [← htk, List.getElem?_take_of_lt (by omega)] at h2
      rw [← Array.getElem?_toList]
      exact h2
    · have ho := h.out j hj
      have ha := h.apart j hj g (by rw [e]; rfl)
      omega
/-- A node is appended. -/
theorem wpList_appN {M : Nat → Nat → Nd → NdP → World → Prop} (hM : SepM M) {B k : Nat} {N : List Nd} {P : Nat → NdP} {L H : Nat → Nat} {ops : Array Oper} {rest : List Oper} {Q : Exit → Act → World → Prop} (v : Value) (p : NdP) (lo hi g1 c1 : Nat) {o : Oper} {a : Act} {w : World} {s x : Operand}
    (hgd : o.guard = none) (ho : o.op = .call { callee := .builtin .append, args := #[s, x], argTypes := #[24, 24] })
    (hs : a.eval s = v) (h : RowM M B k N P L H v w) (hk : k ≤ 1048576) (hx : a.eval x = .slice (some ⟨g1, 0, none⟩) 1 c1) (hg1 : w.heap[g1]? = some (.cells (ndC (nthN N k) p) 46 (0, 0)))
    (hm : M lo hi (nthN N k) p w) (hB : B ≤ lo) (hlh : lo ≤ hi) (hhi : hi ≤ w.heap.size) (hlo : ∀ j, j < k → H j ≤ lo) (hg : ∀ g, v.ownBlock = some g → g < lo) (hBw : B ≤ w.heap.size)
    (K : ∀ v' w', RowM M B (k + 1) N (fun j => if j = k then p else P j) (fun j => if j = k then lo else L j) (fun j => if j = k then hi else H j) v' w' → w.grownBy w' v.ownBlock → wpList Tryz.prog ops Q rest (a.put o.dst v') w') : wpList Tryz.prog ops Q (o :: rest) a w := by
  obtain ⟨i0, hi1, hz0, hz1, hz2⟩ := info_parts infoN
  obtain ⟨v', w', hrun, r1, r2, -, r4⟩ := run_append_own_at (P := Tryz.prog) w B 24 o.type 46 i0 (.agg ndZ) 18 200 Tryz.underlying24 hi1 hz0 hz1 hz2 rfl (by decide) v k (flatN N P k) h.own ⟨g1, 0, none⟩ 1 c1 (ndC (nthN N k) p).toList rfl
    (fun j u hu => by rw [show (⟨g1, 0, none⟩ : Addr).add j = ⟨g1, j, none⟩ by unfold Addr.add; split <;> simp_all, cell_of_row w g1 _ _ _ _ hg1, ← Array.getElem?_toList]; exact hu) (fun u hu => (Array.all_eq_true_iff_forall_mem.1 (ndC_one (nthN N k) p)) u (by simpa using hu)) (by unfold maxLen; omega) (by omega) hBw
  refine wpList_plain hgd fun K' hK => ?_
  unfold Oper.wp
  rw [show (execOp a.eval o).run Tryz.prog w = .ok (.value v') w' by simp [execOp, ho, resolve, invoke, builtin, hs, hx, hrun, Result.andThen]]
  exact hK _ _ (K v' w' (h.app hM hm hB hlh hhi hlo hg r1 r2 r4) r2)
/-- An operation that answers a value. -/
theorem wpList_new {ops : Array Oper} {rest : List Oper} {Q : Exit → Act → World → Prop} {o : Oper} {a : Act} {w : World} (v : Value) (w' : World)
    {x : Operand} (hgd : o.guard = none) (ho : o.op = .buildSlice 24 1 #[(0, x)]) (hx : (execOp a.eval o).run Tryz.prog w = .ok (.value v) w') (K : wpList Tryz.prog ops Q rest (a.put o.dst v) w') : wpList Tryz.prog ops Q (o :: rest) a w := by
  refine wpList_plain hgd fun K' hK => ?_
  unfold Oper.wp
  rw [hx]
  exact hK _ _ K
section
variable {g : Nat} {a : Option Addr} {len c : Nat} {now : Int} {T : TypeId} {w : World} {ops : Array Oper} {rest : List Oper} {o : Oper} {act : Act} {Q : Exit → Act → World → Prop} {x : Operand}
theorem buTk (h : w.heap[g]? = some (.cells (buC a len c now) T (0, 0))) (ho : o.op = .load 26 x) (hx : act.eval x = .pointer (some ⟨g, 0, none⟩))
    (hw : Region.wanted o (yielded ops act.tmps) = true) (k : wpList Tryz.prog ops Q rest (act.put o.dst (buV a len c now)) w) : wpList Tryz.prog ops Q (o :: rest) act w :=
  BigFrame.wpList_want hw fun _ hK => wp_load_row 26 x ho g hx T (buC a len c now) (0, 0) _ h Tryz.underlying26 rfl (by kernel_rfl) (hK _ _ k)
end
/-- What stands in a round of NewBus: the result's block and the bus's. -/
structure Nb (F : List (List (Int × Int))) (k : Nat) (P : Nat → NdP) (L H : Nat → Nat) (v : Value) (gr gb : Nat) (w0 w : World) : Prop where
  res : w.heap[gr]? = some (.cells (buC none 0 0 0) 26 (0, 0))
  bus : w.heap[gb]? = some (.cells #[v, .int .i64 0] 26 (0, 0))
  row : RowM OwnM (w0.heap.size + 2) k (F.map znd) P L H v w
  siz : w0.heap.size + 2 ≤ w.heap.size
  bel : Below w0.heap.size w0 w
  hr : gr = w0.heap.size
  hb : gb = w0.heap.size + 1
section
variable {F : List (List (Int × Int))} {k : Nat} {P : Nat → NdP} {L H : Nat → Nat} {v : Value} {gr gb : Nat} {w0 w w' : World}
theorem Nb.below (h : Nb F k P L H v gr gb w0 w) (b : Below w.heap.size w w') : Nb F k P L H v gr gb w0 w' :=
  ⟨(b.block gr (Array.getElem?_eq_some_iff.1 h.res).1).trans h.res, (b.block gb (Array.getElem?_eq_some_iff.1 h.bus).1).trans h.bus, h.row.below ownM_sep b, Nat.le_trans h.siz b.size, Below.then2 h.bel b, h.hr, h.hb⟩
theorem Nb.made (F : List (List (Int × Int))) (w : World) : Nb F 0 (fun _ => ⟨none, 0, none, 0, none, 0, none, 0⟩) (fun _ => 0) (fun _ => 0) (.slice none 0 0) w.heap.size (w.heap.size + 1) w ((w.alloc (.cells (buC none 0 0 0) 26)).alloc (.cells (buC none 0 0 0) 26)) := by
  obtain ⟨h1, h2, b⟩ := two_made w (buC none 0 0 0) (buC none 0 0 0) 26 26
  exact ⟨h1, h2, RowM.nil _ _ _ _ _ _ _, by simp, b, rfl, rfl⟩
/-- The row goes back into the bus. -/
theorem Nb.set {k' : Nat} {P' : Nat → NdP} {L' H' : Nat → Nat} {v' : Value} (h : Nb F k P L H v gr gb w0 w) (hr : RowM OwnM (w0.heap.size + 2) k' (F.map znd) P' L' H' v' w') (gw : w.grownBy w' v.ownBlock) : Nb F k' P' L' H' v' gr gb w0 (w'.setCell ⟨gb, 0, none⟩ v') := by
  have hge : ∀ q, v.ownBlock = some q → w0.heap.size + 2 ≤ q := fun q hq => by
    rcases h.row.own.2 with ⟨e, _⟩ | ⟨g', cap, cur, e, hb, _⟩
    · rw [e] at hq; cases hq
    · rw [e] at hq; cases hq; exact hb
  have hge' : ∀ q, v'.ownBlock = some q → w0.heap.size + 2 ≤ q := fun q hq => by
    rcases hr.own.2 with ⟨e, _⟩ | ⟨g', cap, cur, e, hb, _⟩
    · rw [e] at hq; cases hq
    · rw [e] at hq; cases hq; exact hb
  have e1 := h.hr
  have e2 := h.hb
  have hs := h.siz
  have hne : ∀ q, q < w0.heap.size + 2 → some q ≠ v.ownBlock := fun q hq e => by have := hge q e.symm; omega
  have r1 := (gw.block gr (Array.getElem?_eq_some_iff.1 h.res).1 (hne _ (by omega))).trans h.res
  have r2 := (gw.block gb (Array.getElem?_eq_some_iff.1 h.bus).1 (hne _ (by omega))).trans h.bus
  have m := mid_cell w' gb 0 v'
  have b2 := h.bel.grown gw h.bel.size (fun q hq => by have := hge q hq; omega)
  refine ⟨(m.block gr (Array.getElem?_eq_some_iff.1 r1).1 (.inl (by omega))).trans r1, heap_setCell_same w' gb 0 _ _ v' r2, hr.sep ownM_sep m (fun q hq => .inr (by have := hge' q hq; omega)) (fun j hj => .inr (by have := hr.out j hj; omega)), ?_, b2.setCell (by show w0.heap.size ≤ gb; omega) _, e1, e2⟩
  have := gw.size
  simp
  omega
theorem Nb.fin (h : Nb F k P L H v gr gb w0 w) (D : Array Value) : (w.setRow gr D).heap[gr]? = some (.cells D 26 (0, 0)) ∧ Mid gr (gr + 1) w (w.setRow gr D) ∧ Below w0.heap.size w0 (w.setRow gr D) :=
  ⟨setRow_heap _ _ _ _ _ _ h.res, mid_setRow _ _ _, below_setRow h.bel (by have := h.hr; omega) D⟩
end
theorem OwnNs.low {B B' hi c : Nat} {a : Option Addr} {N : List Nd} {w : World} (h : OwnNs B hi a c N w) (hb : B' ≤ B) : OwnNs B' hi a c N w := by
  rcases h with h | ⟨G, e, P, J, L, H, MB, MF, cur, h⟩
  · exact .inl h
  · exact .inr ⟨G, e, P, J, L, H, MB, MF, cur, ⟨h.blk, h.len, h.cel, h.mem, h.far, fun j hj => by have := h.out j hj; omega, by have := h.top; omega, h.kc⟩⟩
theorem OwnNs.fit {B B' hi hi' c : Nat} {a : Option Addr} {N : List Nd} {w : World} (h : OwnNs B hi a c N w) (hb : B' ≤ B) (hh : hi ≤ hi') : OwnNs B' hi' a c N w := by
  rcases h.low hb with h | ⟨G, e, h⟩
  · exact .inl h
  · exact .inr ⟨G, e, h.wide hh⟩
set_option maxHeartbeats 1000000 in
/-- spec.NewBus. -/
theorem specNewBus (a : Option Addr) (F : List (List (Int × Int))) (c : Nat) (w : World) (hd : Fss a F w) (h : roomG F ≤ 1048576) :
    Calls Tryz.prog 5 #[.slice a F.length c] w (NwbO F w) := by
  have hm := hd.1
  unfold roomG at h
  have X := Nb.made F w
  go_enter Tryz.func5, Tryz.ntmps5
  go_upto_region 2 with fail
  generalize World.alloc _ _ = W at X ⊢
  generalize hgb : w.heap.size + 1 = gb at X ⊢
  generalize hgr : w.heap.size = gr at X ⊢
  go_wp2_with fail
  go_loopw [5] (fun i wr => ∃ (k : Nat) (P : Nat → NdP) (L H : Nat → Nat) (v : Value), k ≤ F.length ∧ i = .int .i64 k ∧ (∀ j, j < k → newB (nthG F j) = true) ∧ Nb F k P L H v gr gb w wr) (fun i _ => F.length - (intOf i).toNat)
  case atStart => exact ⟨0, _, _, _, _, Nat.zero_le _, rfl, fun j hj => absurd hj (by omega), X⟩
  case round =>
    clear X
    obtain ⟨k, P, L, H, v, hk, rfl, hall, X⟩ := hrel
    by_cases hlt : k < F.length
    · obtain ⟨g, o, al, cl, rfl, hc, hf, hnil⟩ := (hd.below X.bel).2 k hlt
      have hs := sumG_at F hlt
      have hnz := nth_znd hlt
      have hno := nbB_not hlt
      generalize hnn : nthG F k = M at *
      go_wp2_with fail
      refine (specNewNode al M cl _ hf hnil (by omega)).mono ?_
      rintro e w2 ⟨al2, cl2, rfl, O, b⟩
      have hle := b.size
      have hV := X.siz
      have hout : ∀ j, j < k → H j ≤ wr.heap.size := fun j hj => (X.row.out j hj).2.2
      have hlt2 : ∀ q, v.ownBlock = some q → q < wr.heap.size := X.row.lt
      replace X := X.below b
      clear b hf hc
      have b3 := below_more (Below.refl w2.heap.size w2) (.cells (ndC (znd (newL M)) (zp al2 cl2)) 46)
      have G3 := heap_alloc_new w2 (.cells (ndC (znd (newL M)) (zp al2 cl2)) 46)
      have X3 := X.below b3
      have O3 := O.below b3
      have hle3 := b3.size
      clear b3
      cases hnb : newB M
      · have hf := hno hnb
        go_upto_region 7 with (skip; refine wpList_layAt (w := w2) (n := znd (newL M)) (p := zp al2 cl2) (C := ndZ) (g := w2.heap.size) (by rfl) (by rfl) (by rfl) (by rfl) (by rfl) (by rfl) (by rfl) ?_)
        clear X O G3 O3
        generalize w2.alloc _ = w3 at X3 hle3 ⊢
        obtain ⟨Z1, -, Z3⟩ := X3.fin (buC none 0 0 0)
        have hr0 := X3.res
        go_wp2_with (skip; refine wpList_store_row (by rfl) 26 _ _ (by rfl) gr (buC none 0 0 0) (by rfl) (by rfl) 26 (buC none 0 0 0) hr0 (by kernel_rfl) (by rfl) (by simp [Value.oneCell']) ?_)
        refine bodyPost_ret (v := .tuple #[buV none 0 0 0, .bool false]) ?_ rfl (NwbO.no hf Z3)
        exact results_bus Tryz.results5 _ _ gr _ _ rfl rfl Z1 rfl
      · have HL : newL M = M := by rw [newL, hnb]; rfl
        rw [HL] at O3 G3
        simp only [HL] at X3 hle3 ⊢
        go_upto_region 8 with (skip; refine wpList_layAt (w := w2) (n := znd M) (p := zp al2 cl2) (C := ndZ) (g := w2.heap.size) (by rfl) (by rfl) (by rfl) (by rfl) (by rfl) (by rfl) (by rfl) ?_)
        clear X O
        generalize w2.alloc _ = w3 at G3 X3 O3 hle3 ⊢
        have c0 := cell_of_row w3 gb 0 _ _ _ X3.bus
        have OM := newOwn O3 (by omega)
        have b4 := below_more (Below.refl w3.heap.size w3) (.cells (ndC (znd M) (zp al2 cl2)) 46)
        have G4 := heap_alloc_new w3 (.cells (ndC (znd M) (zp al2 cl2)) 46)
        have X4 := X3.below b4
        have OM4 := ownM_sep _ _ _ _ _ _ 0 0 OM (Mid.ofBelow b4) (.inr (Nat.zero_le _)) (Nat.le_refl _)
        have hle4 := b4.size
        have Z : Nx w2.heap.size (znd M) (zp al2 cl2) w w3 := ⟨G3, X3.bel⟩
        clear b4 O3 OM
        go_wp2_with (first
          | (refine Z.take rfl rfl rfl ?_)
          | (skip; refine wpList_new (.slice (some ⟨w3.heap.size, 0, none⟩) 1 1) (w3.alloc (.cells (ndC (znd M) (zp al2 cl2)) 46)) (by rfl) (by rfl) (by go_simp) ?_)
          | (skip; refine wpList_appN ownM_sep v (zp al2 cl2) wr.heap.size w3.heap.size w3.heap.size 1 (by rfl) (by rfl) (by rfl) X4.row (by omega) (by rfl) (by rw [hnz]; exact G4) (by rw [hnz]; exact OM4) (by omega) (by omega) hle4 hout hlt2 (by omega) ?_))
        intro v4 w4 RM4 gw
        have RM5 : RowM OwnM (w.heap.size + 2) (k + 1) (F.map znd) (fun j => if j = k then zp al2 cl2 else P j) (fun j => if j = k then wr.heap.size else L j) (fun j => if j = k then w3.heap.size else H j) v4 w4 := by rw [hgr]; exact RM4
        have X5 := X4.set RM5 gw
        have d4 : w4.heap[gb]? = some (.cells #[v, .int .i64 0] 26 (0, 0)) := by
          have e2 := X4.hb
          refine (gw.block gb (Array.getElem?_eq_some_iff.1 X4.bus).1 (fun e => ?_)).trans X4.bus
          rcases X4.row.own.2 with ⟨e', _⟩ | ⟨g', cap, cur, e', hb', _⟩
          · rw [e'] at e; cases e
          · rw [e'] at e
            have e3 : gb = g' := Option.some.inj e
            omega
        have c4 := cell_of_row w4 gb 0 _ _ _ d4
        have f4 := frozen_of_row w4 gb 0 _ _ d4
        clear d4 RM4 gw X4 OM4 G4 Z X3 G3 RM5
        obtain ⟨av, cv, rfl⟩ := X5.row.is
        go_wp2_with fail
        generalize w4.setCell _ _ = w5 at X5 ⊢
        go_roundw
        case rel => exact ⟨k + 1, _, _, _, _, by omega, by go_num, fun j hj => (by
          by_cases e : j = k
          · rw [e, hnn]; exact hnb
          · exact hall j (by omega)), X5⟩
        case measure => simp [intOf]; omega
    · obtain rfl : k = F.length := by omega
      obtain ⟨NN, hNN⟩ : ∃ q, F.map znd = q := ⟨_, rfl⟩
      have hl : NN.length = F.length := by rw [← hNN]; simp
      have hRM := X.row
      have hsz := X.siz
      rw [hNN, ← hl] at hRM
      obtain ⟨av, cv, rfl, O⟩ := hRM.ownNs
      have hML : NN.length ≤ maxLen := by rw [hl]; exact hm
      have hSM : sumN NN NN.length ≤ 1048576 := by rw [hl, ← hNN, sumN_znd F (Nat.le_refl _)]; omega
      clear hRM hl
      have hN := O.nds hML hSM
      have hxb := X.bus
      go_wp2_with (refine buTk (now := 0) hxb rfl rfl rfl ?_)
      refine (specBusOk Bare av NN cv 0 _ hN).mono ?_
      rintro e w2 ⟨rfl, b⟩
      have hle := b.size
      replace X := X.below b
      replace O := O.below b
      clear b hN hxb
      have hr0 := X.res
      cases hok : busB NN 0
      · have hf : nbB F = false := by rw [nbB, hNN]; exact hok
        obtain ⟨Z1, -, Z3⟩ := X.fin (buC none 0 0 0)
        clear hNN hok
        go_wp2_with (skip; refine wpList_store_row (by rfl) 26 _ _ (by rfl) gr (buC none 0 0 0) (by rfl) (by rfl) 26 (buC none 0 0 0) hr0 (by kernel_rfl) (by rfl) (by simp [Value.oneCell']) ?_)
        refine bodyPost_ret (v := .tuple #[buV none 0 0 0, .bool false]) ?_ rfl (NwbO.no hf Z3)
        exact results_bus Tryz.results5 _ _ gr _ _ rfl rfl Z1 rfl
      · have hf : nbB F = true := by rw [nbB, hNN]; exact hok
        have hxb := X.bus
        obtain ⟨Z1, Z2, Z3⟩ := X.fin (buC av NN.length cv 0)
        have hz2 := Z2.size
        have OO := (O.sep Z2 (.inr (by omega))).fit (B' := w.heap.size) (by omega) (Nat.le_trans hle hz2)
        replace hNN := Lib.hid hNN
        clear hok
        go_wp2_with (first
          | (refine buTk (now := 0) hxb rfl rfl rfl ?_)
          | (skip; refine wpList_store_row (by rfl) 26 _ _ (by rfl) gr (buC av NN.length cv 0) (by rfl) (by rfl) 26 (buC none 0 0 0) hr0 (by kernel_rfl) (by rfl) (by simp [Value.oneCell']) ?_))
        refine bodyPost_ret (v := .tuple #[buV av NN.length cv 0, .bool true]) ?_ rfl (NwbO.yes hNN.out hf OO Z3)
        exact results_bus Tryz.results5 _ _ gr _ _ rfl rfl Z1 rfl
end Go.Proofs.YtngcekegngmedaaGreat

/- NewBus of the program. -/

set_option linter.unusedVariables false
set_option linter.unusedSimpArgs false
set_option maxRecDepth 20000
namespace Go.Proofs.YtngcekegngmedaaGreat
open Go.RowKit
set_option maxHeartbeats 1000000 in
/-- impl.NewBus. -/
theorem implNewBus (a : Option Addr) (F : List (List (Int × Int))) (c : Nat) (w : World) (hd : Fss a F w) (h : roomG F ≤ 1048576) :
    Calls Tryz.prog 7 #[.slice a F.length c] w (NwbO F w) := by
  have hm := hd.1
  unfold roomG at h
  have X := Nb.made F w
  go_enter Tryz.func7, Tryz.ntmps7
  go_upto_region 2 with fail
  generalize World.alloc _ _ = W at X ⊢
  generalize hgb : w.heap.size + 1 = gb at X ⊢
  generalize hgr : w.heap.size = gr at X ⊢
  go_wp2_with fail
  go_loopw [11] (fun i wr => ∃ (k : Nat) (P : Nat → NdP) (L H : Nat → Nat) (v : Value), k ≤ F.length ∧ i = .int .i64 k ∧ (∀ j, j < k → newB (nthG F j) = true) ∧ Nb F k P L H v gr gb w wr) (fun i _ => F.length - (intOf i).toNat)
  case atStart => exact ⟨0, _, _, _, _, Nat.zero_le _, rfl, fun j hj => absurd hj (by omega), X⟩
  case round =>
    clear X
    obtain ⟨k, P, L, H, v, hk, rfl, hall, X⟩ := hrel
    by_cases hlt : k < F.length
    · obtain ⟨g, o, al, cl, rfl, hc, hf, hnil⟩ := (hd.below X.bel).2 k hlt
      have hs := sumG_at F hlt
      have hnz := nth_znd hlt
      have hno := nbB_not hlt
      generalize hnn : nthG F k = M at *
      go_wp2_with fail
      refine (implNewNode al M cl _ hf (by omega)).mono ?_
      rintro e w2 ⟨al2, cl2, rfl, O, b⟩
      have hle := b.size
      have hV := X.siz
      have hout : ∀ j, j < k → H j ≤ wr.heap.size := fun j hj => (X.row.out j hj).2.2
      have hlt2 : ∀ q, v.ownBlock = some q → q < wr.heap.size := X.row.lt
      replace X := X.below b
      clear b hf hc
      have b3 := below_more (Below.refl w2.heap.size w2) (.cells (ndC (znd (newL M)) (zp al2 cl2)) 46)
      have G3 := heap_alloc_new w2 (.cells (ndC (znd (newL M)) (zp al2 cl2)) 46)
      have X3 := X.below b3
      have O3 := O.below b3
      have hle3 := b3.size
      clear b3
      cases hnb : newB M
      · have hf := hno hnb
        go_upto_region 7 with (skip; refine wpList_layAt (w := w2) (n := znd (newL M)) (p := zp al2 cl2) (C := ndZ) (g := w2.heap.size) (by rfl) (by rfl) (by rfl) (by rfl) (by rfl) (by rfl) (by rfl) ?_)
        clear X O G3 O3
        generalize w2.alloc _ = w3 at X3 hle3 ⊢
        obtain ⟨Z1, -, Z3⟩ := X3.fin (buC none 0 0 0)
        have hr0 := X3.res
        go_wp2_with (skip; refine wpList_store_row (by rfl) 26 _ _ (by rfl) gr (buC none 0 0 0) (by rfl) (by rfl) 26 (buC none 0 0 0) hr0 (by kernel_rfl) (by rfl) (by simp [Value.oneCell']) ?_)
        refine bodyPost_ret (v := .tuple #[buV none 0 0 0, .bool false]) ?_ rfl (NwbO.no hf Z3)
        exact results_bus Tryz.results7 _ _ gr _ _ rfl rfl Z1 rfl
      · have HL : newL M = M := by rw [newL, hnb]; rfl
        rw [HL] at O3 G3
        simp only [HL] at X3 hle3 ⊢
        go_upto_region 8 with (skip; refine wpList_layAt (w := w2) (n := znd M) (p := zp al2 cl2) (C := ndZ) (g := w2.heap.size) (by rfl) (by rfl) (by rfl) (by rfl) (by rfl) (by rfl) (by rfl) ?_)
        clear X O
        generalize w2.alloc _ = w3 at G3 X3 O3 hle3 ⊢
        have c0 := cell_of_row w3 gb 0 _ _ _ X3.bus
        have OM := newOwn O3 (by omega)
        have b4 := below_more (Below.refl w3.heap.size w3) (.cells (ndC (znd M) (zp al2 cl2)) 46)
        have G4 := heap_alloc_new w3 (.cells (ndC (znd M) (zp al2 cl2)) 46)
        have X4 := X3.below b4
        have OM4 := ownM_sep _ _ _ _ _ _ 0 0 OM (Mid.ofBelow b4) (.inr (Nat.zero_le _)) (Nat.le_refl _)
        have hle4 := b4.size
        have Z : Nx w2.heap.size (znd M) (zp al2 cl2) w w3 := ⟨G3, X3.bel⟩
        clear b4 O3 OM
        go_wp2_with (first
          | (refine Z.take rfl rfl rfl ?_)
          | (skip; refine wpList_new (.slice (some ⟨w3.heap.size, 0, none⟩) 1 1) (w3.alloc (.cells (ndC (znd M) (zp al2 cl2)) 46)) (by rfl) (by rfl) (by go_simp) ?_)
          | (skip; refine wpList_appN ownM_sep v (zp al2 cl2) wr.heap.size w3.heap.size w3.heap.size 1 (by rfl) (by rfl) (by rfl) X4.row (by omega) (by rfl) (by rw [hnz]; exact G4) (by rw [hnz]; exact OM4) (by omega) (by omega) hle4 hout hlt2 (by omega) ?_))
        intro v4 w4 RM4 gw
        have RM5 : RowM OwnM (w.heap.size + 2) (k + 1) (F.map znd) (fun j => if j = k then zp al2 cl2 else P j) (fun j => if j = k then wr.heap.size else L j) (fun j => if j = k then w3.heap.size else H j) v4 w4 := by rw [hgr]; exact RM4
        have X5 := X4.set RM5 gw
        have d4 : w4.heap[gb]? = some (.cells #[v, .int .i64 0] 26 (0, 0)) := by
          have e2 := X4.hb
          refine (gw.block gb (Array.getElem?_eq_some_iff.1 X4.bus).1 (fun e => ?_)).trans X4.bus
          rcases X4.row.own.2 with ⟨e', _⟩ | ⟨g', cap, cur, e', hb', _⟩
          · rw [e'] at e; cases e
          · rw [e'] at e
            have e3 : gb = g' := Option.some.inj e
            omega
        have c4 := cell_of_row w4 gb 0 _ _ _ d4
        have f4 := frozen_of_row w4 gb 0 _ _ d4
        clear d4 RM4 gw X4 OM4 G4 Z X3 G3 RM5
        obtain ⟨av, cv, rfl⟩ := X5.row.is
        go_wp2_with fail
        generalize w4.setCell _ _ = w5 at X5 ⊢
        go_roundw
        case rel => exact ⟨k + 1, _, _, _, _, by omega, by go_num, fun j hj => (by
          by_cases e : j = k
          · rw [e, hnn]; exact hnb
          · exact hall j (by omega)), X5⟩
        case measure => simp [intOf]; omega
    · obtain rfl : k = F.length := by omega
      obtain ⟨NN, hNN⟩ : ∃ q, F.map znd = q := ⟨_, rfl⟩
      have hl : NN.length = F.length := by rw [← hNN]; simp
      have hRM := X.row
      have hsz := X.siz
      rw [hNN, ← hl] at hRM
      obtain ⟨av, cv, rfl, O⟩ := hRM.ownNs
      have hML : NN.length ≤ maxLen := by rw [hl]; exact hm
      have hSM : sumN NN NN.length ≤ 1048576 := by rw [hl, ← hNN, sumN_znd F (Nat.le_refl _)]; omega
      clear hRM hl
      have hN := O.nds hML hSM
      have hxb := X.bus
      go_wp2_with (refine buTk (now := 0) hxb rfl rfl rfl ?_)
      refine (implBusOk Bare av NN cv 0 _ hN).mono ?_
      rintro e w2 ⟨rfl, b⟩
      have hle := b.size
      replace X := X.below b
      replace O := O.below b
      clear b hN hxb
      have hr0 := X.res
      cases hok : busB NN 0
      · have hf : nbB F = false := by rw [nbB, hNN]; exact hok
        obtain ⟨Z1, -, Z3⟩ := X.fin (buC none 0 0 0)
        clear hNN hok
        go_wp2_with (skip; refine wpList_store_row (by rfl) 26 _ _ (by rfl) gr (buC none 0 0 0) (by rfl) (by rfl) 26 (buC none 0 0 0) hr0 (by kernel_rfl) (by rfl) (by simp [Value.oneCell']) ?_)
        refine bodyPost_ret (v := .tuple #[buV none 0 0 0, .bool false]) ?_ rfl (NwbO.no hf Z3)
        exact results_bus Tryz.results7 _ _ gr _ _ rfl rfl Z1 rfl
      · have hf : nbB F = true := by rw [nbB, hNN]; exact hok
        have hxb := X.bus
        obtain ⟨Z1, Z2, Z3⟩ := X.fin (buC av NN.length cv 0)
        have hz2 := Z2.size
        have OO := (O.sep Z2 (.inr (by omega))).fit (B' := w.heap.size) (by omega) (Nat.le_trans hle hz2)
        replace hNN := Lib.hid hNN
        clear hok
        go_wp2_with (first
          | (refine buTk (now := 0) hxb rfl rfl rfl ?_)
          | (skip; refine wpList_store_row (by rfl) 26 _ _ (by rfl) gr (buC av NN.length cv 0) (by rfl) (by rfl) 26 (buC none 0 0 0) hr0 (by kernel_rfl) (by rfl) (by simp [Value.oneCell']) ?_))
        refine bodyPost_ret (v := .tuple #[buV av NN.length cv 0, .bool true]) ?_ rfl (NwbO.yes hNN.out hf OO Z3)
        exact results_bus Tryz.results7 _ _ gr _ _ rfl rfl Z1 rfl
end Go.Proofs.YtngcekegngmedaaGreat

/- The walk of laws.FnExactNewBus. -/

set_option linter.unusedVariables false
set_option linter.unusedSimpArgs false
namespace Go.Proofs.YtngcekegngmedaaGreat
open Go.RowKit

theorem nb_small (F : List (List (Int × Int))) : (nbN F).length ≤ 6 ∧ ∀ j, j < (nbN F).length → roomN (nthN (nbN F) j) ≤ 600 := by
  unfold nbN
  split
  · rename_i h
    obtain ⟨h2, h6, -, hr⟩ := busB_iff.1 h
    exact ⟨h6, fun j hj => roomN_right (hr _ (nthN_mem hj))⟩
  · exact ⟨Nat.zero_le _, fun j hj => absurd hj (by simp)⟩
/-- What NewBus answers, its parts named. -/
def NwbR (N : List Nd) (B : Bool) (w : World) (e : Ending) (w' : World) : Prop :=
  ∃ a c, e = .returned (.tuple #[buV a N.length c 0, .bool B]) ∧ OwnNs w.heap.size w'.heap.size a c N w' ∧ Below w.heap.size w w'
set_option maxHeartbeats 8000000 in
set_option maxRecDepth 20000 in
theorem walkFnExactNewBus (a : Option Addr) (F : List (List (Int × Int))) (c : Nat) (w : World) (hm : Fss a F w) :
    Calls Tryz.prog 3 #[.slice a F.length c] w fun e w' => e = .returned (.bool true) ∧ Below w.heap.size w w' := by
  go_enter Tryz.func3, Tryz.ntmps3
  go_wp2_with fail
  refine (szFssAny a F c 1048576 _ hm (by omega) (by omega)).mono ?_
  rintro e w1 ⟨hz | hz, rfl⟩
  case inr =>
    obtain ⟨hz, rfl⟩ := hz
    go_wp2_with fail
    go_ret
    exact ⟨rfl, Below.refl _ _⟩
  obtain ⟨hz, rfl⟩ := hz
  have hs : roomG F ≤ 1048576 := by omega
  have hl2 : ¬ (1048576 : Int) - roomG F < 0 := by omega
  clear hz
  generalize (1048576 : Int) - roomG F = left at hl2 ⊢
  have hsF : F.length ≤ 2000000 := by unfold roomG at hs; omega
  have hsE : ∀ j, j < F.length → (nthG F j).length ≤ 2000000 := fun j hj => by have := sumG_at F hj; unfold roomG at hs; omega
  have hQ := nb_small F
  obtain ⟨QN, hQN⟩ : ∃ q, nbN F = q := ⟨_, rfl⟩
  obtain ⟨QB, hQB⟩ : ∃ q, nbB F = q := ⟨_, rfl⟩
  rw [hQN] at hQ
  obtain ⟨hQ6, hQr⟩ := hQ
  have HS := Lib.hid (fun (a : Option Addr) (c : Nat) (w : World) (h1 : Fss a F w) => show Calls _ _ _ _ (NwbR QN QB w) from (specNewBus a F c w h1 hs).mono (fun e w' h => by unfold NwbO at h; rw [hQN, hQB] at h; exact h))
  have HI := Lib.hid (fun (a : Option Addr) (c : Nat) (w : World) (h1 : Fss a F w) => show Calls _ _ _ _ (NwbR QN QB w) from (implNewBus a F c w h1 hs).mono (fun e w' h => by unfold NwbO at h; rw [hQN, hQB] at h; exact h))
  clear hQN hQB
  have hbb : (QB == QB) = true := beq_self_eq_true _
  have hQs' := sumN_small hQr QN.length (Nat.le_refl _)
  have hQs : sumN QN QN.length ≤ 1048576 := by omega
  have hQs3 : QN.length + sumN QN QN.length ≤ 1048577 := by omega
  have hQm : QN.length ≤ maxLen := by unfold maxLen; omega
  have hQx := sumN_mix (k := 1) hQr hQ6 (by omega) (by omega) QN.length (Nat.le_refl _)
  have hQx2 : sumN (mixN 1 QN QN.length) (mixN 1 QN QN.length).length ≤ 1048576 := by rw [mixN_len]; omega
  have hQmx : (mixN 1 QN QN.length).length ≤ maxLen := by rw [mixN_len]; exact hQm
  have hkq := kNs_bd (k := 1) (N := QN) (j := QN.length) (Nat.le_refl _)
  have hk1 : ¬ kNs 1 QN QN.length < 0 := by omega
  have hk1' : decide (kNs 1 QN QN.length < 0) = false := decide_eq_false hk1
  have hj1 : ¬ 1 + 2 * (sumG F F.length : Int) < 0 := by omega
  have hj1' : decide (1 + 2 * (sumG F F.length : Int) < 0) = false := decide_eq_false hj1
  clear hQs' hQx hkq
  go_wp2_with fail
  refine (toFss a F c _ hm hs).mono ?_
  rintro e w2 ⟨G2, L2, H2, cur2, rfl, O2, Y⟩
  have F2 := O2.fss hsF hsE
  clear O2
  go_wp2_with fail
  refine (HS.out (some ⟨G2, 0, none⟩) F.length _ F2).mono ?_
  rintro e w3 ⟨a3, c3, rfl, I3, b⟩
  replace Y := Below.then2 Y b
  clear b F2 HS
  have M3 := I3.nds hQm hQs
  clear I3
  have A := heap_alloc_new w3 (.cells (buC a3 QN.length c3 0) 26)
  have b := below_more (Below.refl w3.heap.size w3) (.cells (buC a3 QN.length c3 0) 26)
  go_upto_region 6 with fail
  replace Y := Below.then2 Y b
  replace M3 := M3.below b
  clear b
  generalize w3.alloc _ = W3 at Y M3 A ⊢
  generalize w3.heap.size = gw at A ⊢
  have hgw := (Array.getElem?_eq_some_iff.1 A).1
  go_wp2_with fail
  refine (toFss a F c _ (hm.below Y) hs).mono ?_
  rintro e w4 ⟨G4, L4, H4, cur4, rfl, O4, Q⟩
  have z4 := Q.size
  have F4 := O4.fss hsF hsE
  go_wp2_with fail
  refine (HI.out (some ⟨G4, 0, none⟩) F.length _ F4).mono ?_
  rintro e w5 ⟨a5, c5, rfl, I5, b⟩
  have z5 := b.size
  replace Q := Below.then2 Q b
  replace O4 := O4.below b
  clear b F4
  have b := below_more (Below.refl w5.heap.size w5) (.cells (buC a5 QN.length c5 0) 26)
  have C := heap_alloc_new w5 (.cells (buC a5 QN.length c5 0) 26)
  go_upto_region 8 with fail
  replace Q := Below.then2 Q b
  replace O4 := O4.below b
  replace I5 := I5.below b
  clear b
  have z8 : w5.heap.size < (w5.alloc (.cells (buC a5 QN.length c5 0) 26)).heap.size := by simp
  generalize w5.alloc _ = W5 at Q O4 I5 C z8 ⊢
  generalize w5.heap.size = gi at *
  go_wp2_with (first | (refine buTk C rfl rfl rfl ?_) | (refine buTk ((Q.block _ hgw).trans A) rfl rfl rfl ?_))
  refine (eqBus Bare Bare a5 a3 QN c5 c3 0 _ (I5.nds hQm hQs) (M3.below Q)).mono ?_
  rintro e w6 ⟨rfl, b⟩
  replace Q := Below.then2 Q b
  replace O4 := O4.below b
  replace I5 := I5.below b
  replace C := blkB C b
  clear b
  go_wp2_with fail
  refine (toFss a F c _ (hm.below (Below.then2 Y Q)) hs).mono ?_
  rintro e w7 ⟨G7, L7, H7, cur7, rfl, O7, b⟩
  have F7 := O7.fss hsF hsE
  replace Q := Below.then2 Q b
  replace O4 := O4.below b
  replace I5 := I5.below b
  replace C := blkB C b
  clear b O7
  go_wp2_with fail
  refine (eqFss (some ⟨G4, 0, none⟩) (some ⟨G7, 0, none⟩) F F.length F.length _ (O4.fss hsF hsE) F7).mono ?_
  rintro e w8 ⟨rfl, b⟩
  replace Q := Below.then2 Q b
  replace O4 := O4.below b
  replace I5 := I5.below b
  replace C := blkB C b
  clear b F7
  go_wp2_with fail
  refine (markFss _ G4 _ F L4 H4 cur4 F.length _ O4 hs).mono ?_
  rintro e w9 ⟨rfl, m⟩
  replace Q := Q.trans (m.below (by omega) Q.size)
  replace C := m.row C (by omega)
  replace I5 := I5.sep m (.inr (by omega))
  clear m O4
  go_wp2_with (first | (refine buTk C rfl rfl rfl ?_) | (refine buTk ((Q.block _ hgw).trans A) rfl rfl rfl ?_))
  refine (eqBus Bare Bare a5 a3 QN c5 c3 0 _ (I5.nds hQm hQs) (M3.below Q)).mono ?_
  rintro e w10 ⟨rfl, b⟩
  replace Q := Below.then2 Q b
  replace I5 := I5.below b
  replace C := blkB C b
  clear b
  have c10 := (Array.getElem?_eq_some_iff.1 C).1
  go_wp2_with (refine buTk C rfl rfl rfl ?_)
  refine (markBusO _ gi c5 a5 QN 0 1 _ I5 (by omega) hQs3 (by omega) (by omega)).mono ?_
  rintro e w11 ⟨rfl, I9, m⟩
  have zQ := Q.size
  replace Q := Q.trans (m.below (by omega) Q.size)
  replace C := m.row C (Nat.le_refl _)
  clear m I5 zQ
  go_wp2_with (refine buTk C rfl rfl rfl ?_)
  refine (heldBusO Bare a5 QN c5 0 1 _ (I9.nds hQmx hQx2) hQs3 (by omega) (by omega)).mono ?_
  rintro e w12 ⟨rfl, b⟩
  replace Q := Below.then2 Q b
  replace I9 := I9.below b
  replace C := blkB C b
  clear b
  go_wp2_with fail
  refine (toFss a F c _ (hm.below (Below.then2 Y Q)) hs).mono ?_
  rintro e w13 ⟨G13, L13, H13, cur13, rfl, O13, b⟩
  have F13 := O13.fss hsF hsE
  replace Q := Below.then2 Q b
  replace I9 := I9.below b
  replace C := blkB C b
  clear b O13
  go_wp2_with fail
  refine (HI.out (some ⟨G13, 0, none⟩) F.length _ F13).mono ?_
  rintro e w14 ⟨a14, c14, rfl, I14, b⟩
  replace Q := Below.then2 Q b
  replace I9 := I9.below b
  replace C := blkB C b
  have M14 := I14.nds hQm hQs
  clear b F13 I14
  have b := below_more (Below.refl w14.heap.size w14) (.cells (buC a14 QN.length c14 0) 26)
  have D := heap_alloc_new w14 (.cells (buC a14 QN.length c14 0) 26)
  go_upto_region 25 with fail
  replace Q := Below.then2 Q b
  replace I9 := I9.below b
  replace C := blkB C b
  replace M14 := M14.below b
  clear b
  generalize w14.alloc _ = W14 at Q I9 C D M14 ⊢
  generalize w14.heap.size = gj at D ⊢
  go_wp2_with (first | (refine buTk D rfl rfl rfl ?_) | (refine buTk ((Q.block _ hgw).trans A) rfl rfl rfl ?_))
  refine (eqBus Bare Bare a14 a3 QN c14 c3 0 _ M14 (M3.below Q)).mono ?_
  rintro e w15 ⟨rfl, b⟩
  replace Q := Below.then2 Q b
  replace I9 := I9.below b
  replace C := blkB C b
  clear b M14 D
  go_wp2_with (refine buTk C rfl rfl rfl ?_)
  refine (heldBusO Bare a5 QN c5 0 1 _ (I9.nds hQmx hQx2) hQs3 (by omega) (by omega)).mono ?_
  rintro e w16 ⟨rfl, b⟩
  replace Q := Below.then2 Q b
  have hb := Below.then2 Y Q
  clear b C I9 A M3
  go_wp2_with fail
  go_ret
  exact ⟨rfl, hb⟩
end Go.Proofs.YtngcekegngmedaaGreat
