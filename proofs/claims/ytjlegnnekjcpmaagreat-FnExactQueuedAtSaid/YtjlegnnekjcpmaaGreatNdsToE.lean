/- Slices of nodes that the call owns; laws.toNodeS, laws.toBus. -/
import Derived.Test.YtjlegnnekjcpmaaGreatNdsE
import Derived.Test.YtjlegnnekjcpmaaGreatM20
import Derived.Test.YtjlegnnekjcpmaaGreatM26
set_option linter.unusedVariables false
set_option linter.unusedSimpArgs false
set_option maxRecDepth 20000
namespace Go.Proofs.YtjlegnnekjcpmaaGreat
open Go.RowKit

/-! ### Cells in the middle of a row. -/
theorem mid_cell (w : World) (g k : Nat) (v : Value) : Mid g (g + 1) w (w.setCell ⟨g, k, none⟩ v) := (Mid.refl g (g + 1) w).grown (grown_at_cell w g k v) (fun q hq => by cases hq; omega)
theorem setCells_row (G : Nat) (T : TypeId) : ∀ (vs : List Value) (o : Nat) (cur : Array Value) (w : World), w.heap[G]? = some (.cells cur T (0, 0)) → o + vs.length ≤ cur.size →
    ∃ cur', (w.setCells G o vs).heap[G]? = some (.cells cur' T (0, 0)) ∧ cur'.size = cur.size ∧ (∀ i v, vs[i]? = some v → cur'[o + i]? = some v) ∧ (∀ i, i < o ∨ o + vs.length ≤ i → cur'[i]? = cur[i]?) ∧ Mid G (G + 1) w (w.setCells G o vs)
  | [], o, cur, w, h, hb => ⟨cur, h, rfl, fun i v hv => by simp at hv, fun _ _ => rfl, Mid.refl _ _ _⟩
  | v :: r, o, cur, w, h, hb => by
    rw [List.length_cons] at hb
    obtain ⟨cur', h1, h2, h3, h4, h5⟩ := setCells_row G T r (o + 1) (cur.setIfInBounds o v) (w.setCell ⟨G, o, none⟩ v) (heap_setCell_same _ _ _ _ _ _ h) (by simp; omega)
    refine ⟨cur', h1, by rw [h2]; simp, fun i u hu => ?_, fun i hi => ?_, ?_⟩
    · cases i with
      | zero =>
        obtain rfl : v = u := by simpa using hu
        rw [Nat.add_zero, h4 o (.inl (by omega)), Array.getElem?_setIfInBounds]
        simp; omega
      | succ i =>
        have := h3 i u (by simpa using hu)
        rwa [show o + (i + 1) = o + 1 + i by omega]
    · rw [List.length_cons] at hi
      rw [h4 i (by omega), Array.getElem?_setIfInBounds, if_neg (by omega)]
    · exact (mid_cell w G o v).trans h5
theorem there_row {G o n : Nat} {T : TypeId} {cur : Array Value} {w : World} (h : w.heap[G]? = some (.cells cur T (0, 0))) (hb : o + n ≤ cur.size) : w.there G o n := fun j hj => by
  refine ⟨?_, frozen_of_row w G _ _ _ h⟩
  rw [cell_of_row w G _ _ _ _ h, Array.getElem?_eq_getElem (by omega)]; rfl
section
variable {G o : Nat} {T : TypeId} {cur : Array Value} {n : Nd} {p : NdP} {w : World} {ops : Array Oper} {rest : List Oper} {x : Oper} {a : Act} {Q : Exit → Act → World → Prop}
/-- A whole node goes into the middle of a row. -/
theorem row_put (h : w.heap[G]? = some (.cells cur T (0, 0))) (hb : o + 18 ≤ cur.size) {y z : Operand} (ho : x.op = .store 66 y z) {o' : Nat} (hy : a.eval y = .pointer (some ⟨G, o', none⟩)) (hoo : o' = o) (hz : a.eval z = ndV n p)
    (hw : Region.wanted x (yielded ops a.tmps) = true) (k : wpList Tryz.prog ops Q rest (a.put x.dst undef) (w.setCells G o (ndC n p).toList)) : wpList Tryz.prog ops Q (x :: rest) a w := by
  rw [hoo] at hy
  exact BigFrame.wpList_want hw fun _ hK => wp_store_mid 66 y z ho G o (ndC n p) hy hz (there_row h hb) (by kernel_rfl) (ndC_one n p) (hK _ _ k)
end

/-- The walk stands still ahead of a node's store: 'go_wp2_with (refine stay_store rfl ?_)', then 'refine ⟨row_put .. ?_⟩'. -/
structure Stay (p : Prop) : Prop where
  out : p
theorem stay_store {ops : Array Oper} {rest : List Oper} {x : Oper} {a : Act} {w : World} {Q : Exit → Act → World → Prop} {y z : Operand} (ho : x.op = .store 66 y z) (k : Stay (wpList Tryz.prog ops Q (x :: rest) a w)) : wpList Tryz.prog ops Q (x :: rest) a w := k.out

theorem below_cells {B G o : Nat} {T : TypeId} {vs : List Value} {cur : Array Value} {w0 w : World} (b : Below B w0 w) (hB : B ≤ w0.heap.size) (hG : B ≤ G) (h : w.heap[G]? = some (.cells cur T (0, 0))) (hb : o + vs.length ≤ cur.size) : Below B w0 (w.setCells G o vs) := by
  obtain ⟨cur', c1, c2, c3, c4, c5⟩ := setCells_row G T vs o cur w h hb
  exact b.trans (c5.below hG (Nat.le_trans hB b.size))
theorem size_cells (G : Nat) : ∀ (vs : List Value) (o : Nat) (w : World), (w.setCells G o vs).heap.size = w.heap.size
  | [], _, _ => rfl
  | v :: r, o, w => by rw [World.setCells, size_cells G r]; simp

/-! ### A row of nodes that the call owns. -/
structure RowN (B G hi cap k : Nat) (N : List Nd) (P : Nat → NdP) (J : Nat → NdJ) (L H : Nat → Nat) (MB MF : Nat → List (Frm × Value)) (cur : Array Value) (w : World) : Prop where
  blk : w.heap[G]? = some (.cells cur 66 (0, 0))
  len : cur.size = cap * 18
  cel : ∀ j, j < k → ∀ i v, (ndC (nthN N j) (P j)).toList[i]? = some v → cur[j * 18 + i]? = some v
  mem : ∀ j, j < k → NdI (J j) (L j) (H j) (nthN N j) (P j) (MB j) (MF j) w
  far : ∀ i j, i < j → j < k → H i ≤ L j ∨ H j ≤ L i
  out : ∀ j, j < k → B ≤ L j ∧ L j ≤ H j ∧ H j ≤ hi ∧ (G < L j ∨ H j ≤ G)
  top : B ≤ G ∧ G < hi
  kc : k ≤ cap
def OwnN (B G hi cap k : Nat) (N : List Nd) (w : World) : Prop := ∃ P J L H MB MF cur, RowN B G hi cap k N P J L H MB MF cur w
section
variable {B G hi cap k : Nat} {N : List Nd} {P : Nat → NdP} {J : Nat → NdJ} {L H : Nat → Nat} {MB MF : Nat → List (Frm × Value)} {cur : Array Value} {w w' : World}
theorem RowN.below (h : RowN B G hi cap k N P J L H MB MF cur w) (b : Below w.heap.size w w') : RowN B G hi cap k N P J L H MB MF cur w' :=
  ⟨(b.block G (Array.getElem?_eq_some_iff.1 h.blk).1).trans h.blk, h.len, h.cel, fun j hj => (h.mem j hj).below b, h.far, h.out, h.top, h.kc⟩
theorem OwnN.below (h : OwnN B G hi cap k N w) (b : Below w.heap.size w w') : OwnN B G hi cap k N w' := by
  obtain ⟨P, J, L, H, MB, MF, cur, h⟩ := h
  exact ⟨P, J, L, H, MB, MF, cur, h.below b⟩
/-- Where something else turns, these stay. -/
theorem OwnN.sep {lo' hi' : Nat} (h : OwnN B G hi cap k N w) (m : Mid lo' hi' w w') (hs : hi ≤ lo' ∨ hi' ≤ B) : OwnN B G hi cap k N w' := by
  obtain ⟨P, J, L, H, MB, MF, cur, h⟩ := h
  have ht := h.top
  refine ⟨P, J, L, H, MB, MF, cur, ⟨(m.block G (Array.getElem?_eq_some_iff.1 h.blk).1 (by omega)).trans h.blk, h.len, h.cel, fun j hj => ?_, h.far, h.out, h.top, h.kc⟩⟩
  have ho := h.out j hj
  exact (h.mem j hj).sep m (by omega)
theorem OwnN.wide {hi' : Nat} (h : OwnN B G hi cap k N w) (hh : hi ≤ hi') : OwnN B G hi' cap k N w := by
  obtain ⟨P, J, L, H, MB, MF, cur, h⟩ := h
  have ht := h.top
  refine ⟨P, J, L, H, MB, MF, cur, ⟨h.blk, h.len, h.cel, h.mem, h.far, fun j hj => ?_, by omega, h.kc⟩⟩
  have ho := h.out j hj
  omega
theorem OwnN.blk (h : OwnN B G hi cap k N w) : ∃ cur, w.heap[G]? = some (.cells cur 66 (0, 0)) ∧ cur.size = cap * 18 := by
  obtain ⟨P, J, L, H, MB, MF, cur, h⟩ := h
  exact ⟨cur, h.blk, h.len⟩
/-- A node is stored behind the others. -/
theorem OwnN.put (h : OwnN B G hi cap k N w) (hk : k < cap) {n : Nd} {p : NdP} {j : NdJ} {lo hi' : Nat} {MB' MF' : List (Frm × Value)} (hn : nthN N k = n) (ho : NdI j lo hi' n p MB' MF' w) (h1 : hi ≤ lo) (h2 : lo ≤ hi') :
    OwnN B G hi' cap (k + 1) N (w.setCells G (k * 18) (ndC n p).toList) := by
  obtain ⟨P, J, L, H, MB, MF, cur, h⟩ := h
  have ht := h.top
  have hl := h.len
  obtain ⟨cur', c1, c2, c3, c4, c5⟩ := setCells_row G 66 (ndC n p).toList (k * 18) cur w h.blk (by rw [hl]; show k * 18 + 18 ≤ cap * 18; omega)
  refine ⟨fun i => if i = k then p else P i, fun i => if i = k then j else J i, fun i => if i = k then lo else L i, fun i => if i = k then hi' else H i, fun i => if i = k then MB' else MB i, fun i => if i = k then MF' else MF i, cur', ⟨c1, by rw [c2, hl], fun i hi0 => ?_, fun i hi0 => ?_, fun i q hiq hq => ?_, fun i hi0 => ?_, by omega, hk⟩⟩
  · by_cases e : i = k
    · subst e
      simp only [↓reduceIte, hn]
      exact c3
    · simp only [if_neg e]
      intro q v hv
      have hq : q < 18 := (List.getElem?_eq_some_iff.1 hv).1
      rw [c4 _ (.inl (by omega))]
      exact h.cel i (by omega) q v hv
  · by_cases e : i = k
    · subst e
      simp only [↓reduceIte, hn]
      exact ho.sep c5 (.inr (by omega))
    · simp only [if_neg e]
      have ho' := h.out i (by omega)
      exact (h.mem i (by omega)).sep c5 (by omega)
  · have hi1 := h.out i (by omega)
    by_cases e : q = k
    · subst e
      simp only [↓reduceIte, if_neg (show ¬ i = q by omega)]
      exact .inl (by omega)
    · simp only [if_neg e, if_neg (show ¬ i = k by omega)]
      exact h.far i q hiq (by omega)
  · by_cases e : i = k
    · subst e
      simp only [↓reduceIte]
      exact ⟨by omega, h2, Nat.le_refl _, .inl (by omega)⟩
    · simp only [if_neg e]
      have ho' := h.out i (by omega)
      exact ⟨ho'.1, ho'.2.1, by omega, ho'.2.2.2⟩
theorem OwnN.nds (h : OwnN B G hi cap N.length N w) (hm : N.length ≤ maxLen) (hs : sumN N N.length ≤ 1048576) : Nds Bare (some ⟨G, 0, none⟩) N w := by
  obtain ⟨P, J, L, H, MB, MF, cur, h⟩ := h
  refine ⟨hm, fun j hj => ⟨G, 0, P j, rfl, fun i v hv => ?_, (h.mem j hj).ndm (by have := sumN_at N hj; omega), (h.mem j hj).flt.bare⟩⟩
  rw [cell_of_row w G _ _ _ _ h.blk, Nat.zero_add]
  exact h.cel j hj i v hv
end
theorem make_nodes (c : Nat) (hc : c ≤ 1048576) (W : World) : (Instr.makeSlice 27 (.int .i64 c) (.int .i64 c)).run Tryz.prog W =
    .ok (.slice (some ⟨W.heap.size, 0, none⟩) c c) (W.alloc (.cells (madeCells ndZ (c * 18)) 66)) := by
  obtain ⟨i0, hi, hz0, hz1, hz2⟩ := info_parts (show (Tryz.prog.info? 66).map (fun i => (i.zero, i.size, i.bytes)) = some (some (.agg ndZ), 18, 200) by kernel_rfl)
  have := run_make (P := Tryz.prog) W 27 66 i0 (.agg ndZ) Tryz.underlying27 hi hz0 .i64 .i64 c c (by omega) (Int.le_refl _) (by rw [hz2]; omega) (by omega)
  rw [this, hz1]
  simp only [Int.toNat_natCast]
  rfl

set_option maxHeartbeats 4000000 in
/-- laws.toNodeS. -/
theorem toNodes (R : NdP → Prop) (a : Option Addr) (N : List Nd) (c : Nat) (w : World) (hd : Nds R a N w) (h : roomB N ≤ 1048576) :
    Calls Tryz.prog 53 #[.slice a N.length c] w fun e w' =>
      ∃ G, e = .returned (.slice (some ⟨G, 0, none⟩) N.length N.length) ∧ OwnN w.heap.size G w'.heap.size N.length N.length N w' ∧ Below w.heap.size w w' := by
  unfold roomB at h
  have hmk := make_nodes N.length (by omega)
  go_enter Tryz.func53, Tryz.ntmps53
  go_wp2_with fail
  clear hmk
  go_loopw [4] (fun i wr => ∃ k : Nat, k ≤ N.length ∧ i = .int .i64 k ∧ OwnN w.heap.size w.heap.size wr.heap.size N.length k N wr ∧ Below w.heap.size w wr) (fun i _ => N.length - (intOf i).toNat)
  case atStart => exact ⟨0, Nat.zero_le _, rfl, ⟨fun _ => ⟨none, 0, none, 0, none, 0, none, 0⟩, fun _ => ⟨0, 0, 0, 0, 0, 0, 0, 0⟩, fun _ => 0, fun _ => 0, fun _ => [], fun _ => [], _, ⟨heap_alloc_new _ _, by simp [madeCells], fun j hj => absurd hj (by omega), fun j hj => absurd hj (by omega), fun i j _ hj => absurd hj (by omega), fun j hj => absurd hj (by omega), by simp, Nat.zero_le _⟩⟩, (Below.refl _ _).alloc (Nat.le_refl _) _⟩
  case round =>
    obtain ⟨k, hk, rfl, R0, b⟩ := hrel
    by_cases hlt : k < N.length
    · obtain ⟨g, o, p, rfl, hc, hn, -⟩ := (hd.below b).2 k hlt
      have hs := sumN_at N hlt
      generalize hnn : nthN N k = n at *
      go_wp2_with (refine rng_takeL hc rfl rfl rfl ?_)
      refine (toNodeOwn n p _ hn (by omega)).mono ?_
      rintro e w2 ⟨p2, b1, b2, b3, MB, MF, rfl, O, b4⟩
      obtain ⟨jj, I⟩ := O.ndI3 b4.size
      have hle := b4.size
      replace R0 := R0.below b4
      obtain ⟨cur, hcur, hcs⟩ := R0.blk
      replace b := Below.then2 b b4
      have hcb : k * 18 + 18 ≤ cur.size := by rw [hcs]; omega
      clear b4 hn hc O
      go_wp2_with (refine stay_store rfl ?_)
      refine ⟨row_put (n := n) (p := p2) hcur hcb rfl rfl (by omega) rfl rfl ?_⟩
      have R1 := R0.put (lo := wr.heap.size) (hi' := w2.heap.size) hlt hnn (by exact I) (Nat.le_refl _) hle
      have b5 : Below w.heap.size w (w2.setCells w.heap.size (k * 18) (ndC n p2).toList) := below_cells b (Nat.le_refl _) (Nat.le_refl _) hcur hcb
      have hsz : (w2.setCells w.heap.size (k * 18) (ndC n p2).toList).heap.size = w2.heap.size := size_cells _ _ _ _
      generalize w2.setCells _ _ _ = w3 at R1 b5 hsz ⊢
      clear hcur hcb
      go_wp2_with fail
      go_roundw
      case rel => exact ⟨k + 1, by omega, by go_num, by rw [hsz]; exact R1, b5⟩
      case measure => simp [intOf]; omega
    · obtain rfl : k = N.length := by omega
      go_wp2_with fail
      go_ret
      exact ⟨_, rfl, R0, b⟩
theorem three_made (w : World) (C D E : Array Value) (T T' T'' : TypeId) : (((w.alloc (.cells C T)).alloc (.cells D T')).alloc (.cells E T'')).heap[w.heap.size]? = some (.cells C T (0, 0)) ∧ (((w.alloc (.cells C T)).alloc (.cells D T')).alloc (.cells E T'')).heap[w.heap.size + 1]? = some (.cells D T' (0, 0))
    ∧ (((w.alloc (.cells C T)).alloc (.cells D T')).alloc (.cells E T'')).heap[w.heap.size + 2]? = some (.cells E T'' (0, 0)) ∧ Below w.heap.size w (((w.alloc (.cells C T)).alloc (.cells D T')).alloc (.cells E T'')) := by
  obtain ⟨h1, h2, b⟩ := two_made w C D T T'
  have h3 := heap_alloc_new ((w.alloc (.cells C T)).alloc (.cells D T')) (.cells E T'')
  have hs : ((w.alloc (.cells C T)).alloc (.cells D T')).heap.size = w.heap.size + 2 := by simp
  rw [hs] at h3
  have k := below_more (Below.refl _ ((w.alloc (.cells C T)).alloc (.cells D T'))) (.cells E T'')
  exact ⟨(k.block _ (by omega)).trans h1, (k.block _ (by omega)).trans h2, h3, below_more b (.cells E T'')⟩
set_option maxHeartbeats 4000000 in
/-- laws.toBus. -/
theorem toBus (R : NdP → Prop) (a : Option Addr) (N : List Nd) (c : Nat) (now : Int) (w : World) (hd : Nds R a N w) (h : roomB N ≤ 1048576) :
    Calls Tryz.prog 13 #[buV a N.length c now] w fun e w' =>
      ∃ G, e = .returned (buV (some ⟨G, 0, none⟩) N.length N.length now) ∧ OwnN w.heap.size G w'.heap.size N.length N.length N w' ∧ Below w.heap.size w w' := by
  obtain ⟨HA, HR, HO, B⟩ := three_made w (buC a N.length c now) #[.slice none 0 0, .int .i64 0] #[.slice none 0 0, .int .i64 0] 24 29 29
  go_enter Tryz.func13, Tryz.ntmps13
  go_upto_region 2 with fail
  generalize World.alloc _ _ = W at HA HR HO B ⊢
  generalize h1 : w.heap.size + 1 + 1 = g3 at *
  generalize h2 : w.heap.size + 1 = g2 at *
  obtain ⟨g1, hg1⟩ : ∃ g, g = w.heap.size := ⟨_, rfl⟩
  have hle0 : w.heap.size ≤ W.heap.size := B.size
  have c0 := cell_of_row W w.heap.size 0 _ _ _ HA
  go_wp2_with fail
  refine (toNodes R a N c _ (hd.below B) h).mono ?_
  rintro e w1 ⟨G, rfl, O, b⟩
  replace HA := (b.block _ (Array.getElem?_eq_some_iff.1 HA).1).trans HA
  replace HR := (b.block _ (Array.getElem?_eq_some_iff.1 HR).1).trans HR
  have hg3 : g3 < W.heap.size := (Array.getElem?_eq_some_iff.1 HO).1
  replace HO := (b.block _ hg3).trans HO
  replace B := Below.then2 B b
  have hGs := O
  clear b c0
  have hn1 : w.heap.size ≠ g3 := by omega
  have c1 := cell_of_row w1 _ 1 _ _ _ HA
  have d0 := cell_of_row w1 _ 0 _ _ _ HO
  have d1 := cell_of_row w1 _ 1 _ _ _ HO
  have f0 := frozen_of_row w1 g3 0 _ _ HO
  have f1 := frozen_of_row w1 g3 1 _ _ HO
  have e0 := cell_of_row w1 _ 0 _ _ _ HR
  have e1 := cell_of_row w1 _ 1 _ _ _ HR
  have k0 := frozen_of_row w1 g2 0 _ _ HR
  have k1 := frozen_of_row w1 g2 1 _ _ HR
  have hn2 : g2 ≠ g3 := by omega
  go_wp2_with fail
  have m : Mid g2 (g3 + 1) w1 ((((w1.setCell ⟨g3, 0, none⟩ (.slice (some ⟨G, 0, none⟩) N.length N.length)).setCell ⟨g3, 1, none⟩ (.int .i64 now)).setCell ⟨g2, 0, none⟩ (.slice (some ⟨G, 0, none⟩) N.length N.length)).setCell ⟨g2, 1, none⟩ (.int .i64 now)) :=
    ((((mid_cell _ _ _ _).wide (by omega) (Nat.le_refl _)).trans ((mid_cell _ _ _ _).wide (by omega) (Nat.le_refl _))).trans ((mid_cell _ _ _ _).wide (Nat.le_refl _) (by omega))).trans ((mid_cell _ _ _ _).wide (Nat.le_refl _) (by omega))
  have HR' : ((((w1.setCell ⟨g3, 0, none⟩ (.slice (some ⟨G, 0, none⟩) N.length N.length)).setCell ⟨g3, 1, none⟩ (.int .i64 now)).setCell ⟨g2, 0, none⟩ (.slice (some ⟨G, 0, none⟩) N.length N.length)).setCell ⟨g2, 1, none⟩ (.int .i64 now)).heap[g2]? = some (.cells (buC (some ⟨G, 0, none⟩) N.length N.length now) 29 (0, 0)) := by
    have h0 := ((mid_cell w1 g3 0 (.slice (some ⟨G, 0, none⟩) N.length N.length)).block g2 (Array.getElem?_eq_some_iff.1 HR).1 (.inl (by omega))).trans HR
    have h1 := ((mid_cell (w1.setCell ⟨g3, 0, none⟩ (.slice (some ⟨G, 0, none⟩) N.length N.length)) g3 1 (.int .i64 now)).block g2 (Array.getElem?_eq_some_iff.1 h0).1 (.inl (by omega))).trans h0
    have h2 := heap_setCell_same _ _ 0 _ _ (.slice (some ⟨G, 0, none⟩) N.length N.length) h1
    have h3 := heap_setCell_same _ _ 1 _ _ (.int .i64 now) h2
    exact h3
  have hsz : ((((w1.setCell ⟨g3, 0, none⟩ (.slice (some ⟨G, 0, none⟩) N.length N.length)).setCell ⟨g3, 1, none⟩ (.int .i64 now)).setCell ⟨g2, 0, none⟩ (.slice (some ⟨G, 0, none⟩) N.length N.length)).setCell ⟨g2, 1, none⟩ (.int .i64 now)).heap.size = w1.heap.size := by simp
  have O' := O.sep m (.inr (by omega))
  rw [← hsz] at O'
  have B' := B.trans (m.below (B := w.heap.size) (by omega) B.size)
  generalize (((w1.setCell _ _).setCell _ _).setCell _ _).setCell _ _ = w2 at HR' O' B' ⊢
  refine bodyPost_ret (v := buV (some ⟨G, 0, none⟩) N.length N.length now) ?_ rfl ⟨G, rfl, ?_, B'⟩
  · exact results_cell_row rfl _ w2 g2 29 _ (0, 0) _ rfl HR' Tryz.underlying29 rfl (by kernel_rfl)
  · obtain ⟨P, J, L, H, MB, MF, cur, R1⟩ := O'
    exact ⟨P, J, L, H, MB, MF, cur, ⟨R1.blk, R1.len, R1.cel, R1.mem, R1.far, fun j hj => by have := R1.out j hj; omega, by have := R1.top; omega, R1.kc⟩⟩
end Go.Proofs.YtjlegnnekjcpmaaGreat

