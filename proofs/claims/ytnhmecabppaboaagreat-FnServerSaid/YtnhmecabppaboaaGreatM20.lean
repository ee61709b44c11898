/- impl.copiedEvents: a row of events that the call owns. -/
import Derived.Test.YtnhmecabppaboaaGreatM15
import Derived.Test.YtnhmecabppaboaaGreatM16

set_option linter.unusedVariables false
set_option linter.unusedSimpArgs false
set_option maxRecDepth 20000
namespace Go.Proofs.YtnhmecabppaboaaGreat
open Go.RowKit

section
variable {G o : Nat} {T : TypeId} {cur : Array Value} {e : Ev} {p : EvP} {w : World} {ops : Array Oper} {rest : List Oper} {x : Oper} {a : Act} {Q : Exit → Act → World → Prop}
/-- A whole event goes into the middle of a row. -/
theorem ev_put (h : w.heap[G]? = some (.cells cur T (0, 0))) (hb : o + 7 ≤ cur.size) {y z : Operand} (ho : x.op = .store 43 y z) {o' : Nat} (hy : a.eval y = .pointer (some ⟨G, o', none⟩)) (hoo : o' = o) (hz : a.eval z = evV e p.1 p.2)
    (hw : Region.wanted x (yielded ops a.tmps) = true) (k : wpList Tryz.prog ops Q rest (a.put x.dst undef) (w.setCells G o (evC e p.1 p.2).toList)) : wpList Tryz.prog ops Q (x :: rest) a w := by
  rw [hoo] at hy
  exact BigFrame.wpList_want hw fun _ hK => wp_store_mid 43 y z ho G o (evC e p.1 p.2) hy hz (there_row h hb) (by kernel_rfl) (evC_one e p.1 p.2) (hK _ _ k)
end
/-- The walk stands still ahead of an event's store. -/
theorem stay_storeE {ops : Array Oper} {rest : List Oper} {x : Oper} {a : Act} {w : World} {Q : Exit → Act → World → Prop} {y z : Operand} (ho : x.op = .store 43 y z) (k : Stay (wpList Tryz.prog ops Q (x :: rest) a w)) : wpList Tryz.prog ops Q (x :: rest) a w := k.out

structure RowVe (B G hi cap k : Nat) (N : List Ev) (P : Nat → EvP) (L H : Nat → Nat) (cur : Array Value) (w : World) : Prop where
  blk : w.heap[G]? = some (.cells cur 43 (0, 0))
  len : cur.size = cap * 7
  cel : ∀ j, j < k → ∀ i v, (evC (nthE N j) (P j).1 (P j).2).toList[i]? = some v → cur[j * 7 + i]? = some v
  mem : ∀ j, j < k → OwnE (L j) (H j) (nthE N j) (P j) w
  far : ∀ i j, i < j → j < k → H i ≤ L j
  out : ∀ j, j < k → B ≤ L j ∧ L j ≤ H j ∧ H j ≤ hi ∧ (G < L j ∨ H j ≤ G)
  top : B ≤ G ∧ G < hi ∧ hi ≤ w.heap.size
  kc : k ≤ cap
/-- Row G holds the first k of the events N, each with data of its own, all in the blocks from B to hi. -/
def OwnVe (B G hi cap k : Nat) (N : List Ev) (w : World) : Prop := ∃ P L H cur, RowVe B G hi cap k N P L H cur w
section
variable {B G hi cap k : Nat} {N : List Ev} {w w' : World}
theorem OwnVe.sep {lo' hi' : Nat} (h : OwnVe B G hi cap k N w) (m : Mid lo' hi' w w') (hs : hi ≤ lo' ∨ hi' ≤ B) : OwnVe B G hi cap k N w' := by
  obtain ⟨P, L, H, cur, h⟩ := h
  have ht := h.top
  refine ⟨P, L, H, cur, ⟨(m.block G (Array.getElem?_eq_some_iff.1 h.blk).1 (by omega)).trans h.blk, h.len, h.cel, fun j hj => ?_, h.far, h.out, by have := m.size; omega, h.kc⟩⟩
  have ho := h.out j hj
  exact ownE_sep _ _ _ _ _ _ _ _ (h.mem j hj) m (by omega) (by omega)
theorem OwnVe.below (h : OwnVe B G hi cap k N w) (b : Below w.heap.size w w') : OwnVe B G hi cap k N w' := by
  have ht : hi ≤ w.heap.size := by obtain ⟨P, L, H, cur, h⟩ := h; exact h.top.2.2
  exact h.sep (Mid.ofBelow (lo := w.heap.size) (hi := w.heap.size) b) (.inl ht)
theorem OwnVe.wide {hi' : Nat} (h : OwnVe B G hi cap k N w) (hh : hi ≤ hi') (hw : hi' ≤ w.heap.size) : OwnVe B G hi' cap k N w := by
  obtain ⟨P, L, H, cur, h⟩ := h
  have ht := h.top
  refine ⟨P, L, H, cur, ⟨h.blk, h.len, h.cel, h.mem, h.far, fun j hj => ?_, by omega, h.kc⟩⟩
  have ho := h.out j hj
  omega
theorem OwnVe.blk (h : OwnVe B G hi cap k N w) : ∃ cur, w.heap[G]? = some (.cells cur 43 (0, 0)) ∧ cur.size = cap * 7 := by
  obtain ⟨P, L, H, cur, h⟩ := h
  exact ⟨cur, h.blk, h.len⟩
/-- An event is stored behind the others. -/
theorem OwnVe.put (h : OwnVe B G hi cap k N w) (hk : k < cap) {n : Ev} {p : EvP} {lo hi' : Nat} (hn : nthE N k = n) (ho : OwnE lo hi' n p w) (h1 : hi ≤ lo) (h2 : lo ≤ hi') (h3 : hi' ≤ w.heap.size) :
    OwnVe B G hi' cap (k + 1) N (w.setCells G (k * 7) (evC n p.1 p.2).toList) := by
  obtain ⟨P, L, H, cur, h⟩ := h
  have ht := h.top
  have hl := h.len
  obtain ⟨cur', c1, c2, c3, c4, c5⟩ := setCells_row G 43 (evC n p.1 p.2).toList (k * 7) cur w h.blk (by rw [hl]; show k * 7 + 7 ≤ cap * 7; omega)
  have hm := c5.size
  refine ⟨fun i => if i = k then p else P i, fun i => if i = k then lo else L i, fun i => if i = k then hi' else H i, cur', ⟨c1, by rw [c2, hl], fun i hi0 => ?_, fun i hi0 => ?_, fun i q hiq hq => ?_, fun i hi0 => ?_, by omega, hk⟩⟩
  · by_cases e : i = k
    · subst e
      simp only [↓reduceIte, hn]
      exact c3
    · simp only [if_neg e]
      intro q v hv
      have hq : q < 7 := (List.getElem?_eq_some_iff.1 hv).1
      rw [c4 _ (.inl (by omega))]
      exact h.cel i (by omega) q v hv
  · by_cases e : i = k
    · subst e
      simp only [↓reduceIte, hn]
      exact ownE_sep _ _ _ _ _ _ _ _ ho c5 (.inr (by omega)) h3
    · simp only [if_neg e]
      have ho' := h.out i (by omega)
      exact ownE_sep _ _ _ _ _ _ _ _ (h.mem i (by omega)) c5 (by omega) (by omega)
  · have hi1 := h.out i (by omega)
    by_cases e : q = k
    · subst e
      simp only [↓reduceIte, if_neg (show ¬ i = q by omega)]
      omega
    · simp only [if_neg e, if_neg (show ¬ i = k by omega)]
      exact h.far i q hiq (by omega)
  · by_cases e : i = k
    · subst e
      simp only [↓reduceIte]
      exact ⟨by omega, h2, Nat.le_refl _, .inl (by omega)⟩
    · simp only [if_neg e]
      have ho' := h.out i (by omega)
      exact ⟨ho'.1, ho'.2.1, by omega, ho'.2.2.2⟩
theorem OwnVe.start (cur : Array Value) (hB : w.heap[G]? = some (.cells cur 43 (0, 0))) (hl : cur.size = cap * 7) (h1 : B ≤ G) (h2 : G < hi) (h3 : hi ≤ w.heap.size) : OwnVe B G hi cap 0 N w :=
  ⟨fun _ => (none, 0), fun _ => 0, fun _ => 0, cur, ⟨hB, hl, fun j hj => absurd hj (by omega), fun j hj => absurd hj (by omega), fun i j _ hj => absurd hj (by omega), fun j hj => absurd hj (by omega), ⟨h1, h2, h3⟩, Nat.zero_le _⟩⟩
end
theorem make_events (c : Nat) (hc : c ≤ 1048576) (W : World) : (Instr.makeSlice 29 (.int .i64 c) (.int .i64 c)).run Tryz.prog W =
    .ok (.slice (some ⟨W.heap.size, 0, none⟩) c c) (W.alloc (.cells (madeCells evZC (c * 7)) 43)) := by
  obtain ⟨i0, hi, hz0, hz1, hz2⟩ := info_parts infoE
  have := run_make (P := Tryz.prog) W 29 43 i0 (.agg evZC) Tryz.underlying29 hi hz0 .i64 .i64 c c (by omega) (Int.le_refl _) (by rw [hz2]; omega) (by omega)
  rw [this, hz1]
  simp only [Int.toNat_natCast]
  rfl
theorem ev_whole {g : Nat} {e : Ev} {ad : Option Addr} {cd : Nat} {w : World} (h : w.heap[g]? = some (.cells (evC e ad cd) 43 (0, 0))) : w.rangeAt g 0 (evC e ad cd).toList := fun i x hx => by
  rw [cell_of_row w g _ _ _ _ h, Nat.zero_add, ← Array.getElem?_toList]; exact hx
end Go.Proofs.YtnhmecabppaboaaGreat
