/- impl.copiedBus: a copy of a bus of right nodes, in memory of its own. -/
import Derived.Test.YtjlegnnekjcpmaaGreatRndE
import Derived.Test.YtjlegnnekjcpmaaGreatNdsToE
import Derived.Test.YtjlegnnekjcpmaaGreatBusIE
import Derived.Test.YtjlegnnekjcpmaaGreatM26
set_option linter.unusedVariables false
set_option linter.unusedSimpArgs false
set_option maxRecDepth 20000
namespace Go.Proofs.YtjlegnnekjcpmaaGreat
open Go.RowKit Go.Shelf
attribute [local go_sem] Oper.semAt_some

theorem blkB {w w' : World} {g : Nat} {o : Obj} (h : w.heap[g]? = some o) (b : Below w.heap.size w w') : w'.heap[g]? = some o := (b.block g (Array.getElem?_eq_some_iff.1 h).1).trans h
/-! ### What holds cells stays where the cells stay. -/
def KC (w w' : World) : Prop := ∀ (g : Nat) (C : Array Value) (T : TypeId) (z : Nat × Nat), w.heap[g]? = some (Obj.cells C T z) → w'.heap[g]? = some (Obj.cells C T z)
theorem KC.of_grown {w w' : World} {row : Option Nat} (hg : w.grownBy w' row) (hr : ∀ r, row = some r → ∃ o : Obj, w.heap[r]? = some o ∧ o.isCells = false) : KC w w' := fun g C T z h => row_kept h hg hr
theorem OwnI.kc {B : Nat} {D : List Int} {v : Value} {w w' : World} (h : OwnI B D v w) (k : KC w w') : OwnI B D v w' := by
  refine ⟨⟨h.1.1, ?_⟩, h.2⟩
  rcases h.1.2 with e | ⟨g, cap, cur, e, hb, hg, r⟩
  · exact .inl e
  · exact .inr ⟨g, cap, cur, e, hb, k _ _ _ _ hg, r⟩
theorem OwnF.kc {B : Nat} {M : List (Frm × Value)} {v : Value} {w w' : World} (h : OwnF B M v w) (k : KC w w') : OwnF B M v w' := by
  refine ⟨⟨h.1.1, ?_⟩, fun m hm => (h.2 m hm).kc k⟩
  rcases h.1.2 with e | ⟨g, cap, cur, e, hb, hg, r⟩
  · exact .inl e
  · exact .inr ⟨g, cap, cur, e, hb, k _ _ _ _ hg, r⟩
theorem OwnP.kc {B : Nat} {M : List (Int × Int)} {v : Value} {w w' : World} (h : OwnP B M v w) (k : KC w w') : OwnP B M v w' := by
  obtain ⟨h1, h2 | ⟨g, cap, cur, e, hb, hg, r⟩⟩ := h
  · exact ⟨h1, .inl h2⟩
  · exact ⟨h1, .inr ⟨g, cap, cur, e, hb, k _ _ _ _ hg, r⟩⟩
theorem NdI.kc {j : NdJ} {lo hi : Nat} {n : Nd} {p : NdP} {MB MF : List (Frm × Value)} {w w' : World} (h : NdI j lo hi n p MB MF w) (k : KC w w') : NdI j lo hi n p MB MF w' :=
  ⟨h.dat.kc k, h.box.kc k, h.fifo.kc k, h.flt.kc k, h.mb, h.mf, h.fb, h.ff, h.ud, h.ux, h.uf, h.ul, h.ok, h.got⟩

/-! ### A row of nodes some of which are laid. -/
structure RowQ (B G hi cap : Nat) (F : Nat → Prop) (N : List Nd) (P : Nat → NdP) (J : Nat → NdJ) (L H : Nat → Nat) (MB MF : Nat → List (Frm × Value)) (cur : Array Value) (w : World) : Prop where
  blk : w.heap[G]? = some (.cells cur 66 (0, 0))
  len : cur.size = cap * 18
  cel : ∀ j, F j → ∀ i v, (ndC (nthN N j) (P j)).toList[i]? = some v → cur[j * 18 + i]? = some v
  mem : ∀ j, F j → NdI (J j) (L j) (H j) (nthN N j) (P j) (MB j) (MF j) w
  far : ∀ i j, F i → F j → i ≠ j → H i ≤ L j ∨ H j ≤ L i
  out : ∀ j, F j → B ≤ L j ∧ L j ≤ H j ∧ H j ≤ hi ∧ (G < L j ∨ H j ≤ G)
  top : B ≤ G ∧ G < hi
def OwnQ (B G hi cap : Nat) (F : Nat → Prop) (N : List Nd) (w : World) : Prop := ∃ P J L H MB MF cur, RowQ B G hi cap F N P J L H MB MF cur w
section
variable {B G hi cap : Nat} {F : Nat → Prop} {N : List Nd} {w w' : World}
theorem OwnQ.kc (h : OwnQ B G hi cap F N w) (k : KC w w') : OwnQ B G hi cap F N w' := by
  obtain ⟨P, J, L, H, MB, MF, cur, h⟩ := h
  exact ⟨P, J, L, H, MB, MF, cur, ⟨k _ _ _ _ h.blk, h.len, h.cel, fun j hj => (h.mem j hj).kc k, h.far, h.out, h.top⟩⟩
theorem OwnQ.below (h : OwnQ B G hi cap F N w) (b : Below w.heap.size w w') : OwnQ B G hi cap F N w' := h.kc fun g C T z hg => (b.block g (Array.getElem?_eq_some_iff.1 hg).1).trans hg
theorem OwnQ.wide {hi' : Nat} (h : OwnQ B G hi cap F N w) (hh : hi ≤ hi') : OwnQ B G hi' cap F N w := by
  obtain ⟨P, J, L, H, MB, MF, cur, h⟩ := h
  have ht := h.top
  exact ⟨P, J, L, H, MB, MF, cur, ⟨h.blk, h.len, h.cel, h.mem, h.far, fun j hj => by have := h.out j hj; omega, by omega⟩⟩
theorem OwnQ.blk (h : OwnQ B G hi cap F N w) : ∃ cur, w.heap[G]? = some (.cells cur 66 (0, 0)) ∧ cur.size = cap * 18 := by
  obtain ⟨P, J, L, H, MB, MF, cur, h⟩ := h
  exact ⟨cur, h.blk, h.len⟩
theorem OwnQ.less {F' : Nat → Prop} (h : OwnQ B G hi cap F N w) (hF : ∀ j, F' j → F j) : OwnQ B G hi cap F' N w := by
  obtain ⟨P, J, L, H, MB, MF, cur, h⟩ := h
  exact ⟨P, J, L, H, MB, MF, cur, ⟨h.blk, h.len, fun j hj => h.cel j (hF j hj), fun j hj => h.mem j (hF j hj), fun i j hi hj => h.far i j (hF i hi) (hF j hj), fun j hj => h.out j (hF j hj), h.top⟩⟩
theorem OwnQ.own (h : OwnQ B G hi cap F N w) {k : Nat} (hF : ∀ j, j < k → F j) (hk : k ≤ cap) : OwnN B G hi cap k N w := by
  obtain ⟨P, J, L, H, MB, MF, cur, h⟩ := h
  exact ⟨P, J, L, H, MB, MF, cur, ⟨h.blk, h.len, fun j hj => h.cel j (hF j hj), fun j hj => h.mem j (hF j hj), fun i j hi hj => h.far i j (hF i (by omega)) (hF j hj) (by omega), fun j hj => h.out j (hF j hj), h.top, hk⟩⟩
theorem OwnN.ownQ {k : Nat} (h : OwnN B G hi cap k N w) : OwnQ B G hi cap (fun j => j < k) N w := by
  obtain ⟨P, J, L, H, MB, MF, cur, h⟩ := h
  exact ⟨P, J, L, H, MB, MF, cur, ⟨h.blk, h.len, h.cel, h.mem, fun i j hi hj hne => by
    rcases Nat.lt_or_gt_of_ne hne with e | e
    · exact h.far i j e hj
    · exact (h.far j i e hi).symm, h.out, h.top⟩⟩
theorem OwnN.kc {k : Nat} (h : OwnN B G hi cap k N w) (kk : KC w w') : OwnN B G hi cap k N w' := by
  have hk : k ≤ cap := by obtain ⟨P, J, L, H, MB, MF, cur, h⟩ := h; exact h.kc
  exact (h.ownQ.kc kk).own (fun j hj => hj) hk
theorem OwnN.low {k B' : Nat} (h : OwnN B G hi cap k N w) (hB : B' ≤ B) : OwnN B' G hi cap k N w := by
  obtain ⟨P, J, L, H, MB, MF, cur, h⟩ := h
  have ht := h.top
  exact ⟨P, J, L, H, MB, MF, cur, ⟨h.blk, h.len, h.cel, h.mem, h.far, fun j hj => by have := h.out j hj; omega, by omega, h.kc⟩⟩
/-- A node, in memory of its own, goes to place k; N' is N with it. -/
theorem OwnQ.put {N' : List Nd} (h : OwnQ B G hi cap F N w) {k : Nat} (hk : k < cap) {n : Nd} {p : NdP} {j : NdJ} {lo hi' : Nat} {MB' MF' : List (Frm × Value)} (hn : nthN N' k = n) (hN : ∀ i, F i → i ≠ k → nthN N' i = nthN N i) (ho : NdI j lo hi' n p MB' MF' w) (h1 : hi ≤ lo) (h2 : lo ≤ hi') :
    OwnQ B G hi' cap (fun i => F i ∨ i = k) N' (w.setCells G (k * 18) (ndC n p).toList) := by
  obtain ⟨P, J, L, H, MB, MF, cur, h⟩ := h
  have ht := h.top
  have hl := h.len
  obtain ⟨cur', c1, c2, c3, c4, c5⟩ := setCells_row G 66 (ndC n p).toList (k * 18) cur w h.blk (by rw [hl]; show k * 18 + 18 ≤ cap * 18; omega)
  refine ⟨fun i => if i = k then p else P i, fun i => if i = k then j else J i, fun i => if i = k then lo else L i, fun i => if i = k then hi' else H i, fun i => if i = k then MB' else MB i, fun i => if i = k then MF' else MF i, cur', ⟨c1, by rw [c2, hl], fun i hi0 => ?_, fun i hi0 => ?_, fun i q hiq hq hne => ?_, fun i hi0 => ?_, by omega⟩⟩
  · by_cases e : i = k
    · subst e
      simp only [↓reduceIte, hn]
      exact c3
    · have hF := hi0.resolve_right e
      simp only [if_neg e, hN i hF e]
      intro q v hv
      have hq : q < 18 := (List.getElem?_eq_some_iff.1 hv).1
      rw [c4 _ (by rw [show (ndC n p).toList.length = 18 from rfl]; omega)]
      exact h.cel i hF q v hv
  · by_cases e : i = k
    · subst e
      simp only [↓reduceIte, hn]
      exact ho.sep c5 (.inr (by omega))
    · have hF := hi0.resolve_right e
      simp only [if_neg e, hN i hF e]
      have ho' := h.out i hF
      exact (h.mem i hF).sep c5 (by omega)
  · by_cases e : q = k
    · have hF := hiq.resolve_right (by omega)
      have hi1 := h.out i hF
      subst e
      simp only [↓reduceIte, if_neg hne]
      exact .inl (by omega)
    · have hFq := hq.resolve_right e
      have hq1 := h.out q hFq
      by_cases e2 : i = k
      · subst e2
        simp only [↓reduceIte, if_neg e]
        exact .inr (by omega)
      · simp only [if_neg e, if_neg e2]
        exact h.far i q (hiq.resolve_right e2) hFq hne
  · by_cases e : i = k
    · subst e
      simp only [↓reduceIte]
      exact ⟨by omega, h2, Nat.le_refl _, .inl (by omega)⟩
    · simp only [if_neg e]
      have ho' := h.out i (hi0.resolve_right e)
      exact ⟨ho'.1, ho'.2.1, by omega, ho'.2.2.2⟩
end
theorem own_kc {β : Type} {B' : Nat} (f : β → World → Prop) (hf : ∀ s w w', f s w → KC w w' → w.heap.size ≤ w'.heap.size → f s w') : OwnFrom B' f := fun s W W' row h hg hr => hf s W W' h (KC.of_grown hg fun r e => (hr r e).2) hg.size

theorem keeps_cells (G : Nat) : ∀ (vs : List Value) (o : Nat) (w : World), KeepsOthers w (w.setCells G o vs)
  | [], _, w => KeepsOthers.refl w
  | v :: r, o, w => by rw [World.setCells]; exact (KeepsOthers.setCell w _ v).trans (keeps_cells G r (o + 1) _)
/-- A node goes into the middle of a row, in a region that draws its order. -/
theorem held_putMid {md : Region.Mode} {ops : Array Oper} {Q : Exit → Act → World → Prop} {S : World → Prop} (i G o : Nat) {oi : Oper} {fuel : Nat} {listed : Array Bool} {a : Act} {w : World} {n : Nd} {p : NdP} {x y : Operand} {cur : Array Value} {T : TypeId} {o' : Nat}
    (hi : ops[i]? = some oi) (hr : Region.ready md ops listed = [i]) (hw : Region.wanted oi (yielded ops a.tmps) = true) (hd : oi.dst = none) (ho : oi.op = .store 66 x y) (hx : a.eval x = .pointer (some ⟨G, o', none⟩)) (hoo : o' = o) (hy : a.eval y = ndV n p)
    (hG : w.heap[G]? = some (.cells cur T (0, 0))) (hb : o + 18 ≤ cur.size) (hS : S (w.setCells G o (ndC n p).toList))
    (k : wpAnyH Tryz.prog md ops Q S fuel (listed.setIfInBounds i true) a (w.setCells G o (ndC n p).toList)) : wpAnyH Tryz.prog md ops Q S (fuel + 1) listed a w := by
  subst o
  refine held_op i hi hr hw (wp_store_mid 66 x y ho G o' (ndC n p) hx hy (there_row hG hb) (by kernel_rfl) (ndC_one n p) ⟨hS, ?_⟩)
  rw [hd]
  exact k
set_option maxHeartbeats 8000000 in
/-- impl.copiedBus of right nodes. -/
theorem implCopiedBus (R : NdP → Prop) (a : Option Addr) (N : List Nd) (c : Nat) (now : Int) (w : World) (hd : Nds R a N w) (hok : ∀ n ∈ N, nodeB n = true) (h6 : N.length ≤ 6) :
    Calls Tryz.prog 68 #[buV a N.length c now] w fun e w' =>
      ∃ G, e = .returned (buV (some ⟨G, 0, none⟩) N.length N.length now) ∧ OwnN w.heap.size G w'.heap.size N.length N.length N w' ∧ Below w.heap.size w w' := by
  obtain ⟨P, hP, hM⟩ := hd.pick
  have hm := hd.1
  have hmk := make_nodes N.length (by omega)
  obtain ⟨HC, HR, B⟩ := two_made w (buC a N.length c now) #[.slice none 0 0, .int .i64 0] 29 29
  refine (callsIn_wide (n := 6)).1 ?_
  refine callsIn_of_wp_marks Tryz.func68 rfl trivial ?_ rfl
  simp only [Tryz.ntmps68, List.size_toArray, List.length_cons, List.length_nil, Nat.reduceAdd, Nat.reduceSub, Array.replicate_succ, Array.replicate_zero, List.push_toArray, List.append_toArray, List.nil_append, List.cons_append]
  gi_wp2_with fail
  refine ⟨trivial, ?_⟩
  refine (nodesOfIn _ _ _ _ _).mono ?_
  rintro e w' ⟨rfl, rfl⟩
  have hs2 : ((w.alloc (.cells (buC a N.length c now) 29)).alloc (.cells #[.slice none 0 0, .int .i64 0] 29)).heap.size = w.heap.size + 2 := by simp
  generalize (w.alloc (.cells (buC a N.length c now) 29)).alloc (.cells #[.slice none 0 0, .int .i64 0] 29) = W2 at HC HR B hs2 ⊢
  have b3 := below_more (Below.refl _ W2) (.cells (madeCells ndZ (N.length * 18)) 66)
  have HG := heap_alloc_new W2 (.cells (madeCells ndZ (N.length * 18)) 66)
  have hs3 : (W2.alloc (.cells (madeCells ndZ (N.length * 18)) 66)).heap.size = w.heap.size + 3 := by simp [hs2]
  rw [hs2] at HG
  replace HC := (b3.block _ (by omega)).trans HC
  replace HR := (b3.block _ (by omega)).trans HR
  replace B := B.trans (b3.mono (by omega))
  generalize W2.alloc (.cells (madeCells ndZ (N.length * 18)) 66) = W3 at HC HR B HG hs3 ⊢
  clear b3 hs2
  clear W2
  have b4 := below_more (Below.refl _ W3) (.cells #[.slice (some ⟨w.heap.size + 2, 0, none⟩) N.length N.length] 27)
  have bN := Boxed.new W3 27 (.slice (some ⟨w.heap.size + 2, 0, none⟩) N.length N.length)
  have hs4 : (W3.alloc (.cells #[.slice (some ⟨w.heap.size + 2, 0, none⟩) N.length N.length] 27)).heap.size = w.heap.size + 4 := by simp [hs3]
  rw [hs3] at bN
  replace HC := (b4.block _ (by omega)).trans HC
  replace HR := (b4.block _ (by omega)).trans HR
  replace HG := (b4.block _ (by omega)).trans HG
  replace B := B.trans (b4.mono (by omega))
  generalize hW4 : W3.alloc (.cells #[.slice (some ⟨w.heap.size + 2, 0, none⟩) N.length N.length] 27) = W4 at HC HR B HG hs4 bN ⊢
  clear hW4 b4 hs3
  clear W3
  have b5 := below_more (Below.refl _ W4) (.cells #[.slice a N.length c] 27)
  have HS := heap_alloc_new W4 (.cells #[.slice a N.length c] 27)
  have hs5 : (W4.alloc (.cells #[.slice a N.length c] 27)).heap.size = w.heap.size + 5 := by simp [hs4]
  rw [hs4] at HS
  replace HC := (b5.block _ (by omega)).trans HC
  replace HR := (b5.block _ (by omega)).trans HR
  replace HG := (b5.block _ (by omega)).trans HG
  replace bN := bN.alloc (.cells #[.slice a N.length c] 27)
  replace B := B.trans (b5.mono (by omega))
  rw [hs4]
  generalize hW5 : W4.alloc (.cells #[.slice a N.length c] 27) = W5 at HC HR B HG HS hs5 bN ⊢
  clear hW5 b5 hs4
  clear W4
  gi_wp2_with fail
  refine wpIn_rangeFunc_ownH rfl (by omega) (gf := 110) (lb := #[.pointer (some ⟨w.heap.size + 4, 0, none⟩)]) rfl trivial (enters_of Tryz.func110 (by kernel_rfl) rfl)
    (nodesOfStops 5 (by omega) (w.heap.size + 4) w.heap.size a N c P hm W5 (by omega) (by omega) (cell_of_row W5 _ 0 _ _ _ HS) (hP.below B)) belowK_t (belowK_b (by omega)) (Below.refl _ _) (fun _ => rfl)
    (fun pre W => (Boxed W (w.heap.size + 3) 27 (.slice (some ⟨w.heap.size + 2, 0, none⟩) N.length N.length) ∧ Below w.heap.size w W) ∧ (W.heap[w.heap.size]? = some (.cells (buC a N.length c now) 29 (0, 0)) ∧ W.heap[w.heap.size + 1]? = some (.cells #[.slice none 0 0, .int .i64 0] 29 (0, 0)) ∧ ∃ hi, hi ≤ W.heap.size ∧ OwnQ (w.heap.size + 2) (w.heap.size + 2) hi N.length (fun j => ∃ x ∈ pre, x.1 = j) N W))
    (fun _ _ _ => False)
    (OwnFrom.and (OwnFrom.and (Own.from (boxed_own _ _ _) _) (ownFrom_below (Nat.le_refl _) (by omega))) (own_kc _ (fun s V V' h k hz => by obtain ⟨h1, h2, hi, h3, h4⟩ := h; exact ⟨k _ _ _ _ h1, k _ _ _ _ h2, hi, by omega, h4.kc k⟩)))
    (fun _ _ _ _ _ hs _ _ => hs)
    ⟨⟨bN, B⟩, HC, HR, w.heap.size + 5, by omega, fun _ => ⟨none, 0, none, 0, none, 0, none, 0⟩, fun _ => ⟨0, 0, 0, 0, 0, 0, 0, 0⟩, fun _ => 0, fun _ => 0, fun _ => [], fun _ => [], _, ⟨HG, by simp [madeCells], fun j hj => by simp at hj, fun j hj => by simp at hj, fun i j hi => by simp at hi, fun j hj => by simp at hj, by omega⟩⟩
    (fun x a' W => ∃ Bx, w.heap.size + 3 < Bx ∧ W.heap[Bx]? = some (.cells (ndC (nthN N x.1) (P x.1)) 66 (0, 0)) ∧ a' = { tmps := #[buV a N.length c now, .pointer (some ⟨w.heap.size, 0, none⟩), .pointer (some ⟨w.heap.size + 1, 0, none⟩), .pointer (some ⟨w.heap.size + 1 + 1 + 1, 0, none⟩), .int .i64 (x.1 : Int), .pointer (some ⟨Bx, 0, none⟩), .pointer (some ⟨w.heap.size, 0, none⟩), .slice a N.length c, .int .i64 (N.length : Int), .slice (some ⟨w.heap.size + 1 + 1, 0, none⟩) N.length N.length, .pointer (some ⟨w.heap.size, 0, none⟩), .slice a N.length c, .func (.func 110) #[] #[.pointer (some ⟨w.heap.size + 4, 0, none⟩)], .int .i64 (x.1 : Int), ndV (nthN N x.1) (P x.1), undef, undef, undef, undef, undef, undef, undef, undef], defers := [] })
    (fun x a' _ X Y row hs hg hr => by obtain ⟨Bx, h1, h2, h3⟩ := hs; exact ⟨Bx, h1, row_kept h2 hg (fun r e => (hr r e).2), h3⟩)
    ?assign ?body ?done ?stop
  case assign =>
    rintro l pre x W K ⟨⟨bN, hB⟩, h1, h2, hi, h3, h4⟩ hK
    gi_wp2_with (refine layIn (w := W) (n := nthN N x.1) (p := P x.1) rfl rfl rfl rfl rfl rfl ?_)
    have bb := below_more (Below.refl _ W) (.cells (ndC (nthN N x.1) (P x.1)) 66)
    exact hK _ _ ((KeepsOthers.alloc _ _).from _) ((Below.refl _ W).alloc hB.size _) ⟨⟨bN.alloc _, hB.alloc hB.size _⟩, blkB h1 bb, blkB h2 bb, hi, Nat.le_trans h3 bb.size, h4.below bb⟩ ⟨W.heap.size, bN.lt, heap_alloc_new W _, rfl⟩
  case body =>
    rintro l pre x a' W hl - ⟨⟨bN, hB⟩, h1, h2, hi, h3, h4⟩ ⟨Bx, hBx, hC, rfl⟩ hlt
    obtain ⟨hnm, -⟩ := hM x.1 x.2
    have hokk := hok _ (nthN_mem x.2)
    have hnm' := hnm.below hB
    obtain ⟨z1, z2, z3, z4, z5, z6⟩ := small_1000 hokk
    have hk6 : x.1 < N.length := x.2
    generalize hn : nthN N x.1 = n at *
    generalize hp : P x.1 = p at *
    obtain ⟨k, hk⟩ := x
    dsimp only at hn hp hk6 ⊢
    refine wpIn_block ?_
    refine region_held_in (S := fun u => Boxed u (w.heap.size + 3) 27 (.slice (some ⟨w.heap.size + 2, 0, none⟩) N.length N.length) ∧ u.heap[Bx]? = some (.cells (ndC n p) 66 (0, 0))) (by kernel_rfl) (by kernel_rfl) (fun ⟨_, _, h⟩ => h) ?_
    have B0 : Below W.heap.size W { W with drawn := W.drawn + 1 } := (Below.refl _ _).drew
    replace bN : Boxed { W with drawn := W.drawn + 1 } (w.heap.size + 3) 27 (.slice (some ⟨w.heap.size + 2, 0, none⟩) N.length N.length) := bN
    replace hC : ({ W with drawn := W.drawn + 1 } : World).heap[Bx]? = some (.cells (ndC n p) 66 (0, 0)) := hC
    replace hnm' : NdM n p { W with drawn := W.drawn + 1 } := hnm'.drew
    generalize hV : ({ W with drawn := W.drawn + 1 } : World) = V at B0 bN hC hnm' ⊢
    refine wpAnyH_take (i := 0) (v := .slice (some ⟨w.heap.size + 2, 0, none⟩) N.length N.length) rfl (by kernel_rfl) (by kernel_rfl) (by kernel_rfl) (fun _ _ _ h => h) (.inl ⟨rfl, fun u hu => by have c := hu.1.cell; go_simp⟩) ⟨bN, hC⟩ ?_
    refine wpAnyH_take (i := 1) (v := .int .i64 (k : Int)) rfl (by kernel_rfl) (by kernel_rfl) (by kernel_rfl) (fun _ _ _ h => h) (.inl ⟨rfl, fun u hu => by go_simp⟩) ⟨bN, hC⟩ ?_
    refine wpAnyH_take (i := 2) (v := ndV n p) rfl (by kernel_rfl) (by kernel_rfl) (by kernel_rfl) (fun _ _ _ h => h) (.inl ⟨rfl, fun u hu => rng_took (row_range hu.2) rfl rfl⟩) ⟨bN, hC⟩ ?_
    simp only [Act.put, List.setIfInBounds_toArray, List.set_cons_zero, List.set_cons_succ]
    refine held_call 3 79 #[ndV n p] rfl (by kernel_rfl) rfl (by go_simp) ?_
    refine (implCopied n p V hnm' (by omega) (by omega) (fun j hj => by have := z3 j hj; omega) (by omega) (fun j hj => by have := z5 j hj; omega) (by omega)).mono ?_
    rintro e w2 ⟨p2, b1, b2, b3, MB, MF, rfl, O, b, -⟩
    obtain ⟨jj, I⟩ := O.ndI3 b.size
    replace bN : Boxed w2 (w.heap.size + 3) 27 (.slice (some ⟨w.heap.size + 2, 0, none⟩) N.length N.length) := blkB bN b
    replace hC := blkB hC b
    have hVs : W.heap.size ≤ V.heap.size := B0.size
    have B1 := Below.then2 B0 b
    have Q1 := h4.below B1
    obtain ⟨cur, hcur, hcs⟩ := Q1.blk
    have hcb : k * 18 + 18 ≤ cur.size := by rw [hcs]; omega
    have hle := b.size
    clear O b hnm' h4
    refine ⟨_, rfl, ⟨bN, hC⟩, ?_⟩
    simp only [Act.put, List.setIfInBounds_toArray, List.set_cons_zero, List.set_cons_succ]
    refine held_value 4 (.pointer (some ⟨w.heap.size + 2, 0 + k * 18, none⟩)) rfl (by kernel_rfl) rfl (by have hw1 : IntKind.i64.wrap (k : Int) = (k : Int) := IntWalk.i64_in _ (by omega); go_simp) ⟨bN, hC⟩ ?_
    simp only [Act.put, List.setIfInBounds_toArray, List.set_cons_zero, List.set_cons_succ]
    obtain ⟨cur', k1, k2, k3, k4, k5⟩ := setCells_row (w.heap.size + 2) 66 (ndC n p2).toList (k * 18) cur w2 hcur hcb
    refine held_putMid 5 (w.heap.size + 2) (k * 18) (n := n) (p := p2) rfl (by kernel_rfl) rfl rfl rfl rfl (by omega) rfl hcur hcb ⟨(k5.block _ (Array.getElem?_eq_some_iff.1 bN).1 (by omega)).trans bN, (k5.block _ (Array.getElem?_eq_some_iff.1 hC).1 (by omega)).trans hC⟩ ?_
    refine wpAnyH_done (by kernel_rfl) ?_ _
    have hks := (keeps_of_below B1).trans (keeps_cells (w.heap.size + 2) (ndC n p2).toList (k * 18) w2)
    have hB2 := hB.trans (B1.mono hB.size)
    have m3 : Below w.heap.size w2 (w2.setCells (w.heap.size + 2) (k * 18) (ndC n p2).toList) := k5.below (by omega) hB2.size
    refine ⟨hks.from _, (B1.mono hB.size).trans m3, ⟨⟨(k5.block _ bN.lt (by omega)).trans bN, hB2.trans m3⟩, ?_, ?_, w2.heap.size, ?_, ?_⟩⟩
    · have h1' := blkB h1 B1
      exact (k5.block _ (Array.getElem?_eq_some_iff.1 h1').1 (by omega)).trans h1'
    · have h2' := blkB h2 B1
      exact (k5.block _ (Array.getElem?_eq_some_iff.1 h2').1 (by omega)).trans h2'
    · rw [size_cells]; exact Nat.le_refl _
    · have hput := (Q1.wide (hi' := V.heap.size) (by omega)).put (N' := N) hk6 hn (fun _ _ _ => rfl) I (Nat.le_refl _) hle
      refine hput.less fun j hj => ?_
      obtain ⟨y, hy, rfl⟩ := hj
      rcases List.mem_append.1 hy with hy | hy
      · exact .inl ⟨y, hy, rfl⟩
      · right; rw [List.mem_singleton.1 hy]
  case done =>
    rintro D ys W hD ⟨hall, -⟩ ⟨⟨bN, hB⟩, h1, h2, hi, h3, h4⟩ hK
    have cN := bN.cell
    have c0 := cell_of_row W _ 0 _ _ _ h1
    have f0 := frozen_of_row W w.heap.size 0 _ _ h1
    have c1 := cell_of_row W _ 1 _ _ _ h1
    have d0 := cell_of_row W _ 0 _ _ _ h2
    have d1 := cell_of_row W _ 1 _ _ _ h2
    have k0 := frozen_of_row W (w.heap.size + 1) 0 _ _ h2
    have k1 := frozen_of_row W (w.heap.size + 1) 1 _ _ h2
    gi_wp2_with fail
    have O := h4.own (k := N.length) (fun j hj => ⟨⟨j, hj⟩, hall j hj, rfl⟩) (Nat.le_refl _)
    have m : Mid w.heap.size (w.heap.size + 2) W (((W.setCell ⟨w.heap.size, 0, none⟩ (.slice (some ⟨w.heap.size + 2, 0, none⟩) N.length N.length)).setCell ⟨w.heap.size + 1, 0, none⟩ (.slice (some ⟨w.heap.size + 2, 0, none⟩) N.length N.length)).setCell ⟨w.heap.size + 1, 1, none⟩ (.int .i64 now)) :=
      (((mid_cell _ _ _ _).wide (Nat.le_refl _) (by omega)).trans ((mid_cell _ _ _ _).wide (by omega) (by omega))).trans ((mid_cell _ _ _ _).wide (by omega) (by omega))
    have hr := ((mid_cell W w.heap.size 0 (.slice (some ⟨w.heap.size + 2, 0, none⟩) N.length N.length)).block (w.heap.size + 1) (Array.getElem?_eq_some_iff.1 h2).1 (.inr (by omega))).trans h2
    have hr3 := heap_setCell_same _ _ 1 _ _ (.int .i64 now) (heap_setCell_same _ _ 0 _ _ (.slice (some ⟨w.heap.size + 2, 0, none⟩) N.length N.length) hr)
    replace O := O.sep m (.inr (Nat.le_refl _))
    have hB3 := hB.trans (m.below (B := w.heap.size) (Nat.le_refl _) hB.size)
    have hks := ((KeepsOthers.setCell W ⟨w.heap.size, 0, none⟩ (.slice (some ⟨w.heap.size + 2, 0, none⟩) N.length N.length)).trans (KeepsOthers.setCell _ ⟨w.heap.size + 1, 0, none⟩ (.slice (some ⟨w.heap.size + 2, 0, none⟩) N.length N.length))).trans (KeepsOthers.setCell _ ⟨w.heap.size + 1, 1, none⟩ (.int .i64 now))
    have hK' := hks.same D _ hK rfl
    have hsz := m.size
    generalize ((W.setCell ⟨w.heap.size, 0, none⟩ (.slice (some ⟨w.heap.size + 2, 0, none⟩) N.length N.length)).setCell ⟨w.heap.size + 1, 0, none⟩ (.slice (some ⟨w.heap.size + 2, 0, none⟩) N.length N.length)).setCell ⟨w.heap.size + 1, 1, none⟩ (.int .i64 now) = W' at hr3 O hB3 hK' hsz ⊢
    have hrow : ∀ r, some D = some r → ∃ o : Obj, W'.heap[r]? = some o ∧ o.isCells = false := fun r e => by cases e; exact ⟨_, hK', rfl⟩
    have hgr := grownBy_putObj' W' D (.deferred none)
    have O2 := O.kc (KC.of_grown hgr hrow)
    have hr4 := row_kept hr3 hgr hrow
    have hsz2 := hgr.size
    refine ⟨by simp, .inl ⟨_, _, rfl, run_takeDeferred hK', ?_⟩⟩
    refine ⟨buV (some ⟨w.heap.size + 2, 0, none⟩) N.length N.length now, ?_, w.heap.size + 2, rfl, (O2.low (by omega)).wide (by omega), hB3.trans (belowK_b (w := w) (Nat.le_refl _) _ D _ _ (by omega) hK' rfl rfl)⟩
    exact results_cell_row rfl _ _ (w.heap.size + 1) 29 _ (0, 0) _ rfl hr4 Tryz.underlying29 rfl (by kernel_rfl)
  case stop =>
    rintro D cd pre W hD _ h
    exact h.elim
end Go.Proofs.YtjlegnnekjcpmaaGreat

