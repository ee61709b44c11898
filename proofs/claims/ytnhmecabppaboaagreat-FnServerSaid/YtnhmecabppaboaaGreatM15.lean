/- Means that serve all texts: what turns between two blocks, cells in the middle of a row, a region that draws its order told operation by operation, whole frames read. -/
import Derived.Test.YtnhmecabppaboaaGreatM14
import Derived.Test.YtnhmecabppaboaaGreatM3
import Derived.StillTailTactics
import Derived.OrdersHeld
import Derived.Deep.WholeRow
import Derived.Deep.MidRow
import Derived.Maps.AppendAt

set_option linter.unusedVariables false
set_option linter.unusedSimpArgs false
set_option maxRecDepth 20000
namespace Go.Proofs.YtnhmecabppaboaaGreat
open Go.RowKit

section
variable {B E lo hi lo' hi' : Nat} {w w' : World}
theorem Mid.wide {lo hi lo' hi' : Nat} {w w' : World} (h : Mid lo hi w w') (h1 : lo' ≤ lo) (h2 : hi ≤ hi') : Mid lo' hi' w w' := ⟨h.os, h.tape, h.output, h.size, fun k hk hc => h.block k hk (by omega)⟩
theorem Mid.row {lo hi g : Nat} {w w' : World} {C : Array Value} {ty : TypeId} {z : Nat × Nat} (h : Mid lo hi w w') (hb : w.heap[g]? = some (.cells C ty z)) (hg : hi ≤ g) : w'.heap[g]? = some (.cells C ty z) :=
  (h.block g (Array.getElem?_eq_some_iff.1 hb).1 (.inr hg)).trans hb
theorem Mid.ofBelow {lo hi : Nat} {w w' : World} (b : Below w.heap.size w w') : Mid lo hi w w' := (Mid.refl lo hi w).grown (grown_at b) (fun q e => by cases e)
/-- What lies below these blocks stays, too. -/
theorem OwnI.midLow {D : List Int} {v : Value} (h : OwnI B D v w) (k : Mid lo hi w w') (hu : ∀ q, v.ownBlock = some q → q < lo) : OwnI B D v w' := by
  refine ⟨⟨h.1.1, ?_⟩, h.2⟩
  rcases h.1.2 with e | ⟨g, cap, cur, e, hb, hg, r⟩
  · exact .inl e
  · exact .inr ⟨g, cap, cur, e, hb, (k.block g (Array.getElem?_eq_some_iff.1 hg).1 (.inl (hu g (by rw [e]; rfl)))).trans hg, r⟩
theorem OwnF.midLow {M : List (Frm × Value)} {v : Value} (h : OwnF B M v w) (k : Mid lo hi w w') (hu : Under lo M v) : OwnF B M v w' := by
  refine ⟨⟨h.1.1, ?_⟩, fun m hm => (h.2 m hm).midLow k (hu.2 m hm)⟩
  rcases h.1.2 with e | ⟨g, cap, cur, e, hb, hg, r⟩
  · exact .inl e
  · exact .inr ⟨g, cap, cur, e, hb, (k.block g (Array.getElem?_eq_some_iff.1 hg).1 (.inl (hu.1 g (by rw [e]; rfl)))).trans hg, r⟩
theorem Under.to {M : List (Frm × Value)} {v : Value} (h : Under E M v) (he : E ≤ hi) : Under hi M v := ⟨fun q hq => Nat.lt_of_lt_of_le (h.1 q hq) he, fun m hm q hq => Nat.lt_of_lt_of_le (h.2 m hm q hq) he⟩
theorem OwnI.sep {D : List Int} {v : Value} (h : OwnI B D v w) (k : Mid lo hi w w') (hu : ∀ q, v.ownBlock = some q → q < E) (hs : E ≤ lo ∨ hi ≤ B) : OwnI B D v w' := by
  rcases hs with hs | hs
  · exact h.midLow k fun q hq => Nat.lt_of_lt_of_le (hu q hq) hs
  · exact h.mid k hs
theorem OwnF.sep {M : List (Frm × Value)} {v : Value} (h : OwnF B M v w) (k : Mid lo hi w w') (hu : Under E M v) (hs : E ≤ lo ∨ hi ≤ B) : OwnF B M v w' := by
  rcases hs with hs | hs
  · exact h.midLow k (hu.to hs)
  · exact h.mid k hs
end
section
variable {w w' : World}
theorem ownsRow_mid {B : Nat} {v : Value} {e : TypeId} {sz n a b : Nat} {xs : List Value} (h : w.ownsRow B e sz v n xs) (m : Mid a b w w') (hs : ∀ g, v.ownBlock = some g → g < a ∨ b ≤ g) : w'.ownsRow B e sz v n xs := by
  refine ⟨h.1, ?_⟩
  rcases h.2 with e | ⟨g, cap, cur, e, hb, hg, r⟩
  · exact .inl e
  · have := hs g (by rw [e]; rfl)
    exact .inr ⟨g, cap, cur, e, hb, (m.block g (Array.getElem?_eq_some_iff.1 hg).1 this).trans hg, r⟩
/-- A range of cells abides what happens above. -/
theorem rangeAt_below {w w' : World} {g o : Nat} {cs : List Value} (h : w.rangeAt g o cs) (b : Below w.heap.size w w') : w'.rangeAt g o cs := fun j v hv => by
  have := h j v hv
  exact (b.cell (World.block_lt_of_cell? w _ this)).trans this
/-- Two blocks laid. -/
theorem two_made (w : World) (C D : Array Value) (T T' : TypeId) : ((w.alloc (.cells C T)).alloc (.cells D T')).heap[w.heap.size]? = some (.cells C T (0, 0)) ∧ ((w.alloc (.cells C T)).alloc (.cells D T')).heap[w.heap.size + 1]? = some (.cells D T' (0, 0))
    ∧ Below w.heap.size w ((w.alloc (.cells C T)).alloc (.cells D T')) := by
  have h1 := heap_alloc_new w (.cells C T)
  have h2 := heap_alloc_new (w.alloc (.cells C T)) (.cells D T')
  have hs : (w.alloc (.cells C T)).heap.size = w.heap.size + 1 := by simp
  rw [hs] at h2
  exact ⟨((below_more (Below.refl _ (w.alloc (.cells C T))) (.cells D T')).block w.heap.size (by omega)).trans h1, h2, below_more (below_more (Below.refl _ w) (.cells C T)) (.cells D T')⟩
theorem three_made (w : World) (C D E : Array Value) (T T' T'' : TypeId) : (((w.alloc (.cells C T)).alloc (.cells D T')).alloc (.cells E T'')).heap[w.heap.size]? = some (.cells C T (0, 0)) ∧ (((w.alloc (.cells C T)).alloc (.cells D T')).alloc (.cells E T'')).heap[w.heap.size + 1]? = some (.cells D T' (0, 0))
    ∧ (((w.alloc (.cells C T)).alloc (.cells D T')).alloc (.cells E T'')).heap[w.heap.size + 2]? = some (.cells E T'' (0, 0)) ∧ Below w.heap.size w (((w.alloc (.cells C T)).alloc (.cells D T')).alloc (.cells E T'')) := by
  obtain ⟨h1, h2, b⟩ := two_made w C D T T'
  have h3 := heap_alloc_new ((w.alloc (.cells C T)).alloc (.cells D T')) (.cells E T'')
  have hs : ((w.alloc (.cells C T)).alloc (.cells D T')).heap.size = w.heap.size + 2 := by simp
  rw [hs] at h3
  have k := below_more (Below.refl _ ((w.alloc (.cells C T)).alloc (.cells D T'))) (.cells E T'')
  exact ⟨(k.block _ (by omega)).trans h1, (k.block _ (by omega)).trans h2, h3, below_more b (.cells E T'')⟩
theorem grown_at_cell (w : World) (g k : Nat) (v : Value) : w.grownBy (w.setCell ⟨g, k, none⟩ v) (some g) := grown_set _ _ _ _
theorem mid_cell (w : World) (g k : Nat) (v : Value) : Mid g (g + 1) w (w.setCell ⟨g, k, none⟩ v) := (Mid.refl g (g + 1) w).grown (grown_at_cell w g k v) (fun q hq => by cases hq; omega)
theorem setCells_row (G : Nat) (T : TypeId) : ∀ (vs : List Value) (o : Nat) (cur : Array Value) (w : World), w.heap[G]? = some (.cells cur T (0, 0)) → o + vs.length ≤ cur.size →
    ∃ cur', (w.setCells G o vs).heap[G]? = some (.cells cur' T (0, 0)) ∧ cur'.size = cur.size ∧ (∀ i v, vs[i]? = some v → cur'[o + i]? = some v) ∧ (∀ i, i < o ∨ o + vs.length ≤ i → cur'[i]? = cur[i]?) ∧ Mid G (G + 1) w (w.setCells G o vs)
  | [], o, cur, w, h, hb => ⟨cur, h, rfl, fun i v hv => by simp at hv, fun _ _ => rfl, Mid.refl _ _ _⟩
  | v :: r, o, cur, w, h, hb => by
    rw [List.length_cons] at hb
    obtain ⟨cur', h1, h2, h3, h4, h5⟩ := setCells_row G T r (o + 1) (cur.setIfInBounds o v) (w.setCell ⟨G, o, none⟩ v) (heap_setCell_same _ _ _ _ _ _ h) (by simp; omega)
    refine ⟨cur', h1, by rw [h2]; simp, fun i u hu => ?_, fun i hi => ?_, ?_⟩
    · cases i with
      | zero =>
        obtain rfl : v = u := by simpa using hu
        rw [Nat.add_zero, h4 o (.inl (by omega)), Array.getElem?_setIfInBounds]
        simp; omega
      | succ i =>
        have := h3 i u (by simpa using hu)
        rwa [show o + (i + 1) = o + 1 + i by omega]
    · rw [List.length_cons] at hi
      rw [h4 i (by omega), Array.getElem?_setIfInBounds, if_neg (by omega)]
    · exact (mid_cell w G o v).trans h5
theorem there_row {G o n : Nat} {T : TypeId} {cur : Array Value} {w : World} (h : w.heap[G]? = some (.cells cur T (0, 0))) (hb : o + n ≤ cur.size) : w.there G o n := fun j hj => by
  refine ⟨?_, frozen_of_row w G _ _ _ h⟩
  rw [cell_of_row w G _ _ _ _ h, Array.getElem?_eq_getElem (by omega)]; rfl
/-- The walk stands still ahead of a node's store: 'go_wp2_with (refine stay_store rfl ?_)', then 'refine ⟨row_put .. ?_⟩'. -/
structure Stay (p : Prop) : Prop where
  out : p
theorem below_cells {B G o : Nat} {T : TypeId} {vs : List Value} {cur : Array Value} {w0 w : World} (b : Below B w0 w) (hB : B ≤ w0.heap.size) (hG : B ≤ G) (h : w.heap[G]? = some (.cells cur T (0, 0))) (hb : o + vs.length ≤ cur.size) : Below B w0 (w.setCells G o vs) := by
  obtain ⟨cur', c1, c2, c3, c4, c5⟩ := setCells_row G T vs o cur w h hb
  exact b.trans (c5.below hG (Nat.le_trans hB b.size))
theorem size_cells (G : Nat) : ∀ (vs : List Value) (o : Nat) (w : World), (w.setCells G o vs).heap.size = w.heap.size
  | [], _, _ => rfl
  | v :: r, o, w => by rw [World.setCells, size_cells G r]; simp
end
theorem held_call {P : Program} {md : Region.Mode} {ops : Array Oper} {Q : Exit → Act → World → Prop} {S : World → Prop} (i : Nat) {oi : Oper} (f : FuncId) (args : Array Value) {fuel : Nat} {listed : Array Bool} {a : Act} {w : World}
    (hi : ops[i]? = some oi) (hr : Region.ready md ops listed = [i]) (hw : Region.wanted oi (yielded ops a.tmps) = true) (hx : (execOp a.eval oi).run P w = .ok (.enter f args) w)
    (h : Calls P f args w fun e w' => ∃ v, e = .returned v ∧ S w' ∧ wpAnyH P md ops Q S fuel (listed.setIfInBounds i true) (a.put oi.dst v) w') : wpAnyH P md ops Q S (fuel + 1) listed a w := by
  refine wpAnyH_all hr (by simp) fun j hj => ?_
  obtain rfl : j = i := by simpa using hj
  unfold wpOp
  simp only [hi]
  rw [if_pos hw]
  left
  unfold Oper.wp
  rw [hx, Oper.upon_enter]
  exact h.mono fun e w' h' => by
    obtain ⟨v, he, hs, k⟩ := h'
    subst he
    exact ⟨hs, k⟩
theorem held_value {P : Program} {md : Region.Mode} {ops : Array Oper} {Q : Exit → Act → World → Prop} {S : World → Prop} (i : Nat) {oi : Oper} (v : Value) {fuel : Nat} {listed : Array Bool} {a : Act} {w : World}
    (hi : ops[i]? = some oi) (hr : Region.ready md ops listed = [i]) (hw : Region.wanted oi (yielded ops a.tmps) = true) (hx : (execOp a.eval oi).run P w = .ok (.value v) w)
    (hS : S w) (h : wpAnyH P md ops Q S fuel (listed.setIfInBounds i true) (a.put oi.dst v) w) : wpAnyH P md ops Q S (fuel + 1) listed a w := by
  refine wpAnyH_all hr (by simp) fun j hj => ?_
  obtain rfl : j = i := by simpa using hj
  unfold wpOp
  simp only [hi]
  rw [if_pos hw]
  left
  unfold Oper.wp
  rw [hx]
  exact ⟨hS, h⟩
/-- One operation that is ready alone, in a region that draws. -/
theorem held_op {P : Program} {md : Region.Mode} {ops : Array Oper} {Q : Exit → Act → World → Prop} {S : World → Prop} (i : Nat) {oi : Oper} {fuel : Nat} {listed : Array Bool} {a : Act} {w : World}
    (hi : ops[i]? = some oi) (hr : Region.ready md ops listed = [i]) (hw : Region.wanted oi (yielded ops a.tmps) = true)
    (h : oi.wp P a w (fun a' w' => S w' ∧ wpAnyH P md ops Q S fuel (listed.setIfInBounds i true) a' w') Q) : wpAnyH P md ops Q S (fuel + 1) listed a w := by
  refine wpAnyH_all hr (by simp) fun j hj => ?_
  obtain rfl : j = i := by simpa using hj
  unfold wpOp
  simp only [hi]
  rw [if_pos hw]
  exact .inl h
theorem call_wp {P : Program} {K : Act → World → Prop} {Q : Exit → Act → World → Prop} {o : Oper} {a : Act} {w : World} (f : FuncId) (args : Array Value) (hx : (execOp a.eval o).run P w = .ok (.enter f args) w)
    (h : Calls P f args w fun e w' => ∃ v, e = .returned v ∧ K (a.put o.dst v) w') : o.wp P a w K Q := by
  unfold Oper.wp
  rw [hx, Oper.upon_enter]
  exact h.mono fun e w' h' => by
    obtain ⟨v, he, k⟩ := h'
    subst he
    exact k
theorem value_wp {P : Program} {K : Act → World → Prop} {Q : Exit → Act → World → Prop} {o : Oper} {a : Act} {w : World} (v : Value) (w' : World) (hx : (execOp a.eval o).run P w = .ok (.value v) w') (h : K (a.put o.dst v) w') : o.wp P a w K Q := by
  unfold Oper.wp
  rw [hx]
  exact h
theorem held_fork {P : Program} {md : Region.Mode} {ops : Array Oper} {Q : Exit → Act → World → Prop} {S : World → Prop} (i j : Nat) {oi oj : Oper} {fuel : Nat} {listed : Array Bool} {a : Act} {w : World}
    (hr : Region.ready md ops listed = [i, j]) (hi : ops[i]? = some oi) (hj : ops[j]? = some oj) (hwi : Region.wanted oi (yielded ops a.tmps) = true) (hwj : Region.wanted oj (yielded ops a.tmps) = true)
    (h1 : oi.wp P a w (fun a' w' => S w' ∧ wpAnyH P md ops Q S fuel (listed.setIfInBounds i true) a' w') Q) (h2 : oj.wp P a w (fun a' w' => S w' ∧ wpAnyH P md ops Q S fuel (listed.setIfInBounds j true) a' w') Q) : wpAnyH P md ops Q S (fuel + 1) listed a w := by
  refine wpAnyH_all hr (by simp) fun q hq => ?_
  obtain rfl | rfl : q = i ∨ q = j := by simpa using hq
  · unfold wpOp
    simp only [hi]
    rw [if_pos hwi]
    exact .inl h1
  · unfold wpOp
    simp only [hj]
    rw [if_pos hwj]
    exact .inl h2
abbrev frC (f : Frm) (a : Option Addr) (c : Nat) : Array Value := #[.int .i64 f.id, .bool f.rm, .int .i64 f.ln, .slice a f.D.length c]
/-- What a size's answer is. -/
def SzR (left : Int) (k : Nat) (e : Ending) : Prop := (((k : Int) ≤ left ∧ e = .returned (.int .i64 (left - k))) ∨ (left < k ∧ e = .returned (.int .i64 (-1))))
theorem szFrAny (f : Frm) (a : Option Addr) (c : Nat) (left : Int) (w : World) (hn : Nums a f.D w) (h0 : 0 ≤ left) (hl : left ≤ 1048576) :
    Calls Tryz.prog 99 #[frV f.id f.rm f.ln a f.D.length c, .int .i64 left] w fun e w' => SzR left f.D.length e ∧ Below w.heap.size w w' := by
  by_cases h : (f.D.length : Int) ≤ left
  · exact (szFrameOk f.id f.rm f.ln a f.D.length c left w h hl).mono fun e w' h' => ⟨.inl ⟨h, h'.1⟩, h'.2⟩
  · exact (szFrameOver f.id f.rm f.ln a f.D.length c left w hn.1 (by omega) h0 hl).mono fun e w' h' => ⟨.inr ⟨by omega, h'.1⟩, h'.2⟩
theorem frTake {g : Nat} {f : Frm} {af : Option Addr} {cf : Nat} {w : World} (h : w.heap[g]? = some (.cells (frC f af cf) 114 (0, 0))) {ops : Array Oper} {rest : List Oper} {o : Oper} {a : Act} {Q : Exit → Act → World → Prop} {x : Operand} (ho : o.op = .load 114 x) (hx : a.eval x = .pointer (some ⟨g, 0, none⟩))
    (hw : Region.wanted o (yielded ops a.tmps) = true) (k : wpList Tryz.prog ops Q rest (a.put o.dst (frV f.id f.rm f.ln af f.D.length cf)) w) : wpList Tryz.prog ops Q (o :: rest) a w :=
  BigFrame.wpList_want hw fun _ hK => wp_load_row 114 x ho g hx 114 (frC f af cf) (0, 0) _ h Tryz.underlying114 rfl (by kernel_rfl) (hK _ _ k)
theorem frTook {g : Nat} {f : Frm} {af : Option Addr} {cf : Nat} {w : World} (h : w.heap[g]? = some (.cells (frC f af cf) 114 (0, 0))) {o : Oper} {a : Act} {x : Operand} (ho : o.op = .load 114 x) (hx : a.eval x = .pointer (some ⟨g, 0, none⟩)) : (execOp a.eval o).run Tryz.prog w = .ok (.value (frV f.id f.rm f.ln af f.D.length cf)) w := by
  unfold execOp
  simp only [ho, hx, Instr.loadAt, Instr.sureAddr, Sem.run_bind, Sem.run_pure, Result.andThen_ok, run_loadVar_row w g 114 114 (frC f af cf) (0, 0) _ h Tryz.underlying114 rfl (by kernel_rfl)]
theorem frTakeI {g : Nat} {f : Frm} {af : Option Addr} {cf : Nat} {w : World} (h : w.heap[g]? = some (.cells (frC f af cf) 35 (0, 0))) {ops : Array Oper} {rest : List Oper} {o : Oper} {a : Act} {Q : Exit → Act → World → Prop} {x : Operand} (ho : o.op = .load 35 x) (hx : a.eval x = .pointer (some ⟨g, 0, none⟩))
    (hw : Region.wanted o (yielded ops a.tmps) = true) (k : wpList Tryz.prog ops Q rest (a.put o.dst (frV f.id f.rm f.ln af f.D.length cf)) w) : wpList Tryz.prog ops Q (o :: rest) a w :=
  BigFrame.wpList_want hw fun _ hK => wp_load_row 35 x ho g hx 35 (frC f af cf) (0, 0) _ h Tryz.underlying35 rfl (by kernel_rfl) (hK _ _ k)
theorem frTookI {g : Nat} {f : Frm} {af : Option Addr} {cf : Nat} {w : World} (h : w.heap[g]? = some (.cells (frC f af cf) 35 (0, 0))) {o : Oper} {a : Act} {x : Operand} (ho : o.op = .load 35 x) (hx : a.eval x = .pointer (some ⟨g, 0, none⟩)) : (execOp a.eval o).run Tryz.prog w = .ok (.value (frV f.id f.rm f.ln af f.D.length cf)) w := by
  unfold execOp
  simp only [ho, hx, Instr.loadAt, Instr.sureAddr, Sem.run_bind, Sem.run_pure, Result.andThen_ok, run_loadVar_row w g 35 35 (frC f af cf) (0, 0) _ h Tryz.underlying35 rfl (by kernel_rfl)]
def KC (w w' : World) : Prop := ∀ (g : Nat) (C : Array Value) (T : TypeId) (z : Nat × Nat), w.heap[g]? = some (Obj.cells C T z) → w'.heap[g]? = some (Obj.cells C T z)
theorem OwnI.kc {B : Nat} {D : List Int} {v : Value} {w w' : World} (h : OwnI B D v w) (k : KC w w') : OwnI B D v w' := by
  refine ⟨⟨h.1.1, ?_⟩, h.2⟩
  rcases h.1.2 with e | ⟨g, cap, cur, e, hb, hg, r⟩
  · exact .inl e
  · exact .inr ⟨g, cap, cur, e, hb, k _ _ _ _ hg, r⟩
theorem OwnF.kc {B : Nat} {M : List (Frm × Value)} {v : Value} {w w' : World} (h : OwnF B M v w) (k : KC w w') : OwnF B M v w' := by
  refine ⟨⟨h.1.1, ?_⟩, fun m hm => (h.2 m hm).kc k⟩
  rcases h.1.2 with e | ⟨g, cap, cur, e, hb, hg, r⟩
  · exact .inl e
  · exact .inr ⟨g, cap, cur, e, hb, k _ _ _ _ hg, r⟩
section
variable {P : Program} {md : Region.Mode} {ops : Array Oper} {Q : Exit → Act → World → Prop} {S : World → Prop} {fuel : Nat} {listed : Array Bool} {a : Act} {w : World} {oi : Oper}
theorem op_at {i : Nat} (hi : ops.toList[i]? = some oi) : ops[i]? = some oi := by rw [← Array.getElem?_toList]; exact hi
theorem h_take (i d : Nat) (v : Value) (hi : ops.toList[i]? = some oi) (hd : oi.dst = some d) (hs : Region.noSelect ops = true) (hf : Region.free md ops listed i = true) (hr : (Region.ready md ops listed).contains i = true)
    (hQ : ∀ c a w, Q (.panic c) (a.put (some d) v) w → Q (.panic c) a w) (hw : Region.wanted oi (yielded ops a.tmps) = true) (hx : ∀ u, S u → (execOp a.eval oi).run P u = .ok (.value v) u) (hS : S w)
    (h : wpAnyH P md ops Q S fuel (listed.setIfInBounds i true) (a.put (some d) v) w) : wpAnyH P md ops Q S (fuel + 1) listed a w :=
  wpAnyH_take (op_at hi) hs hf hr (by rw [hd]; exact hQ) (.inl ⟨hw, hx⟩) hS (by rw [hd]; exact h)
theorem h_call (i d : Nat) (f : FuncId) (args : Array Value) (hi : ops.toList[i]? = some oi) (hd : oi.dst = some d) (hr : Region.ready md ops listed = [i]) (hw : Region.wanted oi (yielded ops a.tmps) = true) (hx : (execOp a.eval oi).run P w = .ok (.enter f args) w)
    (h : Calls P f args w fun e w' => ∃ v, e = .returned v ∧ S w' ∧ wpAnyH P md ops Q S fuel (listed.setIfInBounds i true) (a.put (some d) v) w') : wpAnyH P md ops Q S (fuel + 1) listed a w :=
  held_call i f args (op_at hi) hr hw hx (by rw [hd]; exact h)
theorem h_new (i d : Nat) (v : Value) (w2 : World) (hi : ops.toList[i]? = some oi) (hd : oi.dst = some d) (hr : Region.ready md ops listed = [i]) (hw : Region.wanted oi (yielded ops a.tmps) = true) (hx : (execOp a.eval oi).run P w = .ok (.value v) w2)
    (k : S w2 ∧ wpAnyH P md ops Q S fuel (listed.setIfInBounds i true) (a.put (some d) v) w2) : wpAnyH P md ops Q S (fuel + 1) listed a w := by
  refine held_op i (op_at hi) hr hw ?_
  unfold Oper.wp
  rw [hx]
  rw [← hd] at k
  exact k
theorem h_value (i d : Nat) (v : Value) (hi : ops.toList[i]? = some oi) (hd : oi.dst = some d) (hr : Region.ready md ops listed = [i]) (hw : Region.wanted oi (yielded ops a.tmps) = true) (hx : (execOp a.eval oi).run P w = .ok (.value v) w) (hS : S w)
    (k : wpAnyH P md ops Q S fuel (listed.setIfInBounds i true) (a.put (some d) v) w) : wpAnyH P md ops Q S (fuel + 1) listed a w := h_new i d v w hi hd hr hw hx ⟨hS, k⟩
theorem h_store (i : Nat) (w2 : World) (hi : ops.toList[i]? = some oi) (hd : oi.dst = none) (hr : Region.ready md ops listed = [i]) (hw : Region.wanted oi (yielded ops a.tmps) = true) (hx : (execOp a.eval oi).run P w = .ok .skip w2)
    (k : S w2 ∧ wpAnyH P md ops Q S fuel (listed.setIfInBounds i true) a w2) : wpAnyH P md ops Q S (fuel + 1) listed a w := by
  refine held_op i (op_at hi) hr hw ?_
  unfold Oper.wp
  rw [hx]
  show S w2 ∧ wpAnyH P md ops Q S fuel (listed.setIfInBounds i true) (a.put oi.dst undef) w2
  rw [hd]
  exact k
end
/-- u has what a has, in the blocks of Y. -/
structure Kp (Y : Nat → Prop) (a u : World) : Prop where
  size : a.heap.size ≤ u.heap.size
  block : ∀ k, Y k → k < a.heap.size → u.heap[k]? = a.heap[k]?
  os : u.os = a.os
  tape : u.tape = a.tape
  output : u.output = a.output
theorem Kp.refl (Y : Nat → Prop) (a : World) : Kp Y a a := ⟨Nat.le_refl _, fun _ _ _ => rfl, rfl, rfl, rfl⟩
theorem Kp.trans {Y : Nat → Prop} {a b c : World} (h : Kp Y a b) (k : Kp Y b c) : Kp Y a c := ⟨Nat.le_trans h.size k.size, fun q hq hl => (k.block q hq (Nat.lt_of_lt_of_le hl h.size)).trans (h.block q hq hl), k.os.trans h.os, k.tape.trans h.tape, k.output.trans h.output⟩
theorem Kp.ofBelow {Y : Nat → Prop} {w u : World} (b : Below w.heap.size w u) : Kp Y w u := ⟨b.size, fun q _ hl => b.block q hl, b.os, b.tape, b.output⟩
/-- laws.szFrameS, whatever is left. -/
theorem szFramesAny (a : Option Addr) (L : List Frm) (c : Nat) (left : Int) (w : World) (hd : Frs a L w) (hl0 : 0 ≤ left) (hl1 : left ≤ 1048576) :
    Calls Tryz.prog 80 #[.slice a L.length c, .int .i64 left] w fun e w' => SzR left (L.length + room L L.length) e ∧ Below w.heap.size w w' := by
  have hm := hd.1
  unfold maxLen at hm
  go_enter Tryz.func80, Tryz.ntmps80
  by_cases h0 : left < L.length
  · have HR : Hid (SzR left (L.length + room L L.length) (.returned (.int .i64 (-1)))) := Lib.hid (.inr ⟨by omega, rfl⟩)
    go_wp2_with fail
    go_ret
    exact ⟨HR.out, Below.refl _ _⟩
  go_wp2_with fail
  go_loopw [1, 5] (fun l i wr => ∃ k : Nat, k ≤ L.length ∧ (L.length : Int) + room L k ≤ left ∧ i = .int .i64 k ∧ l = .int .i64 (left - (L.length : Int) - room L k) ∧ Below w.heap.size w wr) (fun _ i _ => L.length - (intOf i).toNat)
  case atStart => exact ⟨0, Nat.zero_le _, by rw [room_zero]; omega, rfl, by rw [room_zero]; simp, Below.refl _ _⟩
  case round =>
    obtain ⟨k, hk, hr, rfl, rfl, b⟩ := hrel
    by_cases hlt : k < L.length
    · obtain ⟨g, o, ad, cc, rfl, ⟨c0, c1, c2, c3⟩, hn⟩ := (hd.below b).2 k hlt
      have hs := room_succ L k hlt
      have hl := room_le L (show k + 1 ≤ L.length by omega)
      generalize nthF L k = f at *
      by_cases hov : (L.length : Int) + room L (k + 1) ≤ left
      · go_wp2_with fail
        refine (szFrameOk _ _ _ _ _ _ _ _ (by omega) (by omega)).mono ?_
        rintro e w2 ⟨rfl, b2⟩
        replace b := Below.then2 b b2
        clear b2 hn c0 c1 c2 c3
        go_wp2_with fail
        go_roundw
        case rel => exact ⟨k + 1, by omega, hov, by go_num, by congr 1; omega, b⟩
        case measure => simp [intOf]; omega
      · have hn1 := hn.1
        have HR : Hid (SzR left (L.length + room L L.length) (.returned (.int .i64 (-1)))) := Lib.hid (.inr ⟨by omega, rfl⟩)
        go_wp2_with fail
        refine (szFrameOver _ _ _ _ _ _ _ _ hn1 (by omega) (by omega) (by omega)).mono ?_
        rintro e w2 ⟨rfl, b2⟩
        replace b := Below.then2 b b2
        clear b2 hn c0 c1 c2 c3
        go_wp2_with fail
        go_ret
        exact ⟨HR.out, b⟩
    · obtain rfl : k = L.length := by omega
      have HR : Hid (SzR left (L.length + room L L.length) (.returned (.int .i64 (left - (L.length : Int) - room L L.length)))) := Lib.hid (.inl ⟨by omega, by congr 2; omega⟩)
      go_wp2_with fail
      go_ret
      exact ⟨HR.out, b⟩
end Go.Proofs.YtnhmecabppaboaaGreat

/- Slices of events; laws.eqEventS. -/

set_option linter.unusedVariables false
set_option linter.unusedSimpArgs false
set_option maxRecDepth 20000
namespace Go.Proofs.YtnhmecabppaboaaGreat
open Go.RowKit

/-- An event's cells; its value. -/
abbrev evC (e : Ev) (ad : Option Addr) (cd : Nat) : Array Value := #[.int .i64 e.at_, .int .i64 (e.node : Int), .int .i64 e.kind, .int .i64 e.fr.id, .bool e.fr.rm, .int .i64 e.fr.ln, .slice ad e.fr.D.length cd]
abbrev evV (e : Ev) (ad : Option Addr) (cd : Nat) : Value := .agg (evC e ad cd)
theorem evC_one (e : Ev) (ad : Option Addr) (cd : Nat) : (evC e ad cd).all (fun x => x.oneCell') = true := by simp [evC, Value.oneCell']
def evZC : Array Value := #[.int .i64 0, .int .i64 0, .int .i64 0, .int .i64 0, .bool false, .int .i64 0, .slice none 0 0]
/-- Element j of the slice at a is the event e. -/
def EvAt (a : Option Addr) (j : Nat) (e : Ev) (w : World) : Prop := ∃ g o ad cd, a = some ⟨g, o, none⟩ ∧ w.rangeAt g (o + j * 7) (evC e ad cd).toList ∧ Nums ad e.fr.D w
theorem EvAt.below {a : Option Addr} {j : Nat} {e : Ev} {w w' : World} (h : EvAt a j e w) (b : Below w.heap.size w w') : EvAt a j e w' := by
  obtain ⟨g, o, ad, cd, ha, hc, hn⟩ := h
  exact ⟨g, o, ad, cd, ha, rangeAt_below hc b, hn.below b⟩
def Evs (a : Option Addr) (L : List Ev) (w : World) : Prop := L.length ≤ maxLen ∧ ∀ j, j < L.length → EvAt a j (nthE L j) w
theorem Evs.below {a : Option Addr} {L : List Ev} {w w' : World} (h : Evs a L w) (b : Below w.heap.size w w') : Evs a L w' := ⟨h.1, fun j hj => (h.2 j hj).below b⟩
theorem Evs.nil (a : Option Addr) (w : World) : Evs a [] w := ⟨Nat.zero_le _, fun j hj => absurd hj (by simp)⟩
section
variable {g o : Nat} {e : Ev} {ad : Option Addr} {cd : Nat} {w : World}
theorem ev_take (h : w.rangeAt g o (evC e ad cd).toList) {ops : Array Oper} {rest : List Oper} {x : Oper} {a : Act} {Q : Exit → Act → World → Prop} {y : Operand} (ho : x.op = .load 43 y) (hx : a.eval y = .pointer (some ⟨g, o, none⟩))
    (hw : Region.wanted x (yielded ops a.tmps) = true) (k : wpList Tryz.prog ops Q rest (a.put x.dst (evV e ad cd)) w) : wpList Tryz.prog ops Q (x :: rest) a w :=
  BigFrame.wpList_want hw fun _ hK => wp_load_mid 43 y ho g o hx (evC e ad cd).toList _ h Tryz.underlying43 rfl (by kernel_rfl) (hK _ _ k)
theorem ev_took (h : w.rangeAt g o (evC e ad cd).toList) {x : Oper} {a : Act} {y : Operand} (ho : x.op = .load 43 y) (hx : a.eval y = .pointer (some ⟨g, o, none⟩)) : (execOp a.eval x).run Tryz.prog w = .ok (.value (evV e ad cd)) w := by
  unfold execOp
  simp only [ho, hx, Instr.loadAt, Instr.sureAddr, Sem.run_bind, Sem.run_pure, Result.andThen_ok, run_loadVar_mid w g o 43 (evC e ad cd).toList _ h Tryz.underlying43 rfl (by kernel_rfl)]
end
set_option maxHeartbeats 1000000 in
/-- laws.eqEvent of alike events. -/
theorem eqEv (e : Ev) (a b : Option Addr) (c c' : Nat) (w : World) (ha : Nums a e.fr.D w) (hb : Nums b e.fr.D w) :
    Calls Tryz.prog 58 #[evV e a c, evV e b c'] w fun r w' => r = .returned (.bool true) ∧ Below w.heap.size w w' := by
  obtain ⟨HC, HD, B⟩ := two_made w (evC e a c) (evC e b c') 43 43
  go_enter Tryz.func58, Tryz.ntmps58
  go_upto_region 1 with fail
  generalize World.alloc _ _ = W at HC HD B ⊢
  generalize w.heap.size + 1 = g2 at HD ⊢
  generalize w.heap.size = g1 at HC ⊢
  have c0 := cell_of_row W g1 0 _ _ _ HC
  have c1 := cell_of_row W g1 1 _ _ _ HC
  have c2 := cell_of_row W g1 2 _ _ _ HC
  have c3 := cell_of_row W g1 3 _ _ _ HC
  have c4 := cell_of_row W g1 4 _ _ _ HC
  have c5 := cell_of_row W g1 5 _ _ _ HC
  have c6 := cell_of_row W g1 6 _ _ _ HC
  have d0 := cell_of_row W g2 0 _ _ _ HD
  have d1 := cell_of_row W g2 1 _ _ _ HD
  have d2 := cell_of_row W g2 2 _ _ _ HD
  have d3 := cell_of_row W g2 3 _ _ _ HD
  have d4 := cell_of_row W g2 4 _ _ _ HD
  have d5 := cell_of_row W g2 5 _ _ _ HD
  have d6 := cell_of_row W g2 6 _ _ _ HD
  go_wp2_with fail
  refine (eqFr e.fr.id e.fr.rm e.fr.ln a b e.fr.D c c' _ (ha.below B) (hb.below B)).mono ?_
  rintro r w2 ⟨rfl, b2⟩
  replace B := Below.then2 B b2
  clear b2 c0 c1 c2 c3 c4 c5 c6 d0 d1 d2 d3 d4 d5 d6 HC HD
  go_wp2_with fail
  go_ret
  exact ⟨rfl, B⟩
set_option maxHeartbeats 4000000 in
/-- laws.eqEventS of alike events. -/
theorem eqEvs (a b : Option Addr) (L : List Ev) (c c' : Nat) (w : World) (ha : Evs a L w) (hb : Evs b L w) :
    Calls Tryz.prog 22 #[.slice a L.length c, .slice b L.length c'] w fun e w' => e = .returned (.bool true) ∧ Below w.heap.size w w' := by
  have hm := ha.1
  unfold maxLen at hm
  go_enter Tryz.func22, Tryz.ntmps22
  go_wp2_with fail
  go_loopw [5] (fun i wr => ∃ k : Nat, k ≤ L.length ∧ i = .int .i64 k ∧ Below w.heap.size w wr) (fun i _ => L.length - (intOf i).toNat)
  case atStart => exact ⟨0, Nat.zero_le _, rfl, Below.refl _ _⟩
  case round =>
    obtain ⟨k, hk, rfl, bw⟩ := hrel
    by_cases hlt : k < L.length
    · obtain ⟨g, o, ad, cd, rfl, hc, hn⟩ := (ha.below bw).2 k hlt
      obtain ⟨g', o', ad', cd', rfl, hc', hn'⟩ := (hb.below bw).2 k hlt
      generalize nthE L k = e at *
      go_upto_region 6 with fail
      refine region_class (fun u => (u.rangeAt g (o + k * 7) (evC e ad cd).toList ∧ Nums ad e.fr.D u) ∧ (u.rangeAt g' (o' + k * 7) (evC e ad' cd').toList ∧ Nums ad' e.fr.D u) ∧ Below w.heap.size w u) (by kernel_rfl) (by kernel_rfl) ⟨⟨rangeAt_below hc (Below.refl _ _).drew, hn.below (Below.refl _ _).drew⟩, ⟨rangeAt_below hc' (Below.refl _ _).drew, hn'.below (Below.refl _ _).drew⟩, bw.drew⟩ ?_
      clear hc hn hc' hn' bw
      repeat first
        | go_big_quiet_skip
        | (go_big_quiet_want
           apply Exists.intro
           refine ⟨fun u hu => ?_, ?_⟩
           · exact quietAt_val (ev_took hu.1.1 rfl rfl)
           simp only [Act.put, List.setIfInBounds_toArray, List.set_cons_zero, List.set_cons_succ]
           go_big_quiet_on)
        | (go_big_quiet_want
           apply Exists.intro
           refine ⟨fun u hu => ?_, ?_⟩
           · exact quietAt_val (ev_took hu.2.1.1 rfl rfl)
           simp only [Act.put, List.setIfInBounds_toArray, List.set_cons_zero, List.set_cons_succ]
           go_big_quiet_on)
        | (go_big_quiet_want
           apply Exists.intro
           refine ⟨fun u hu => ?_, ?_⟩
           · apply quietAt_val
             skip
             go_simp
             rfl
           simp only [Act.put, List.setIfInBounds_toArray, List.set_cons_zero, List.set_cons_succ]
           go_big_quiet_on)
        | (go_big_quiet_want
           apply Exists.intro
           refine ⟨fun u hu => ?_, ?_⟩
           · apply quietAt_enter 58 #[evV e ad cd, evV e ad' cd']
             · go_simp
             · refine (eqEv e ad ad' cd cd' u hu.1.2 hu.2.1.2).mono ?_
               rintro r w2 ⟨rfl, b2⟩
               exact ⟨rfl, ⟨rangeAt_below hu.1.1 b2, hu.1.2.below b2⟩, ⟨rangeAt_below hu.2.1.1 b2, hu.2.1.2.below b2⟩, Below.then2 hu.2.2 b2⟩
           simp only [Act.put, List.setIfInBounds_toArray, List.set_cons_zero, List.set_cons_succ]
           go_big_quiet_on)
      refine wpQuiet_nil ?_
      intro W2 L2
      have bw := L2.2.2
      clear L2
      go_wp2_with fail
      go_roundw
      case rel => exact ⟨k + 1, by omega, by go_num, bw⟩
      case measure => simp [intOf]; omega
    · go_wp2_with fail
      go_ret
      exact ⟨rfl, bw⟩
end Go.Proofs.YtnhmecabppaboaaGreat

/- A row of events that grows by append. -/

set_option linter.unusedVariables false
set_option linter.unusedSimpArgs false
set_option maxRecDepth 20000
namespace Go.Proofs.YtnhmecabppaboaaGreat
open Go.RowKit

/-- Where an event's data lie. -/
abbrev EvP := Option Addr × Nat
def SepE (M : Nat → Nat → Ev → EvP → World → Prop) : Prop := ∀ (lo hi : Nat) (n : Ev) (p : EvP) (w w' : World) (a b : Nat), M lo hi n p w → Mid a b w w' → (hi ≤ a ∨ b ≤ lo) → hi ≤ w.heap.size → M lo hi n p w'
/-- It owns its data, in the blocks from lo to hi. -/
def OwnE (lo hi : Nat) (e : Ev) (p : EvP) (w : World) : Prop := OwnI lo e.fr.D (.slice p.1 e.fr.D.length p.2) w ∧ ∀ q, (Value.slice p.1 e.fr.D.length p.2).ownBlock = some q → q < hi
theorem ownE_sep : SepE OwnE := fun lo hi e p w w' a b h m hs hh => ⟨h.1.sep m h.2 hs, h.2⟩
/-! ### The nodes' cells, one behind the other. -/
def flatE (N : List Ev) (P : Nat → EvP) (k : Nat) : List Value := (List.range k).flatMap fun j => (evC (nthE N j) (P j).1 (P j).2).toList
theorem flatE_succ (N : List Ev) (P : Nat → EvP) (k : Nat) : flatE N P (k + 1) = flatE N P k ++ (evC (nthE N k) (P k).1 (P k).2).toList := by simp [flatE, List.range_succ]
theorem flatE_len (N : List Ev) (P : Nat → EvP) : ∀ k, (flatE N P k).length = k * 7
  | 0 => rfl
  | k + 1 => by rw [flatE_succ, List.length_append, flatE_len N P k]; show k * 7 + 7 = _; omega
theorem flatE_at (N : List Ev) (P : Nat → EvP) : ∀ (k j i : Nat) (v : Value), j < k → (evC (nthE N j) (P j).1 (P j).2).toList[i]? = some v → (flatE N P k)[j * 7 + i]? = some v
  | 0, j, i, v, hj, _ => absurd hj (by omega)
  | k + 1, j, i, v, hj, hv => by
    have hi : i < 7 := (List.getElem?_eq_some_iff.1 hv).1
    rw [flatE_succ]
    by_cases e : j = k
    · subst e
      rw [List.getElem?_append_right (by rw [flatE_len]; omega), flatE_len, show j * 7 + i - j * 7 = i by omega]
      exact hv
    · rw [List.getElem?_append_left (by rw [flatE_len]; omega)]
      exact flatE_at N P k j i v (by omega) hv
theorem flatE_congr (N N' : List Ev) (P P' : Nat → EvP) (k : Nat) (hN : ∀ j, j < k → nthE N' j = nthE N j) (hP : ∀ j, j < k → P' j = P j) : flatE N' P' k = flatE N P k := by
  induction k with
  | zero => rfl
  | succ k ih => rw [flatE_succ, flatE_succ, ih (fun j hj => hN j (by omega)) (fun j hj => hP j (by omega)), hN k (by omega), hP k (by omega)]

structure RowE (M : Nat → Nat → Ev → EvP → World → Prop) (B k : Nat) (N : List Ev) (P : Nat → EvP) (L H : Nat → Nat) (v : Value) (w : World) : Prop where
  own : w.ownsRow B 43 7 v k (flatE N P k)
  mem : ∀ j, j < k → M (L j) (H j) (nthE N j) (P j) w
  out : ∀ j, j < k → B ≤ L j ∧ L j ≤ H j ∧ H j ≤ w.heap.size
  far : ∀ i j, i < j → j < k → H i ≤ L j
  apart : ∀ j, j < k → ∀ g, v.ownBlock = some g → g < L j ∨ H j ≤ g
  lt : ∀ g, v.ownBlock = some g → g < w.heap.size
section
variable {M : Nat → Nat → Ev → EvP → World → Prop} {B k : Nat} {N : List Ev} {P : Nat → EvP} {L H : Nat → Nat} {v : Value} {w w' : World}
theorem RowE.nil (M : Nat → Nat → Ev → EvP → World → Prop) (B : Nat) (N : List Ev) (P : Nat → EvP) (L H : Nat → Nat) (w : World) : RowE M B 0 N P L H (.slice none 0 0) w :=
  ⟨⟨rfl, .inl ⟨rfl, rfl⟩⟩, fun j hj => absurd hj (by omega), fun j hj => absurd hj (by omega), fun i j _ hj => absurd hj (by omega), fun j hj => absurd hj (by omega), fun g hg => by cases hg⟩
theorem RowE.is (h : RowE M B k N P L H v w) : ∃ a c, v = .slice a k c := by
  rcases h.own.2 with ⟨rfl, rfl⟩ | ⟨g, cap, cur, rfl, _⟩
  · exact ⟨_, _, rfl⟩
  · exact ⟨_, _, rfl⟩
/-- Where something else turns, all stays. -/
theorem RowE.sep (hM : SepE M) (h : RowE M B k N P L H v w) {a b : Nat} (m : Mid a b w w') (hs : ∀ g, v.ownBlock = some g → g < a ∨ b ≤ g) (hj : ∀ j, j < k → H j ≤ a ∨ b ≤ L j) : RowE M B k N P L H v w' :=
  ⟨ownsRow_mid h.own m hs, fun j hk => hM _ _ _ _ _ _ _ _ (h.mem j hk) m (hj j hk) (h.out j hk).2.2, fun j hk => by have := h.out j hk; have := m.size; omega, h.far, h.apart, fun g hg => by have := h.lt g hg; have := m.size; omega⟩
theorem RowE.below (hM : SepE M) (h : RowE M B k N P L H v w) (b : Below w.heap.size w w') : RowE M B k N P L H v w' :=
  h.sep hM (Mid.ofBelow (lo := w.heap.size) (hi := w.heap.size) b) (fun g hg => .inl (h.lt g hg)) (fun j hj => .inl (h.out j hj).2.2)
/-- One more. -/
theorem RowE.app (hM : SepE M) (h : RowE M B k N P L H v w) {p : EvP} {lo hi : Nat} {v' : Value} (hm : M lo hi (nthE N k) p w) (hB : B ≤ lo) (hlh : lo ≤ hi) (hhi : hi ≤ w.heap.size) (hlo : ∀ j, j < k → H j ≤ lo) (hg : ∀ g, v.ownBlock = some g → g < lo)
    (r1 : w'.ownsRow B 43 7 v' (k + 1) (flatE N P k ++ (evC (nthE N k) p.1 p.2).toList)) (r2 : w.grownBy w' v.ownBlock) (r4 : v'.ownBlock = v.ownBlock ∨ v'.ownBlock = some w.heap.size) :
    RowE M B (k + 1) N (fun j => if j = k then p else P j) (fun j => if j = k then lo else L j) (fun j => if j = k then hi else H j) v' w' := by
  have hmid : ∃ a b, Mid a b w w' ∧ (∀ g, a ≤ g → g < b → v.ownBlock = some g) := by
    cases hv : v.ownBlock with
    | none => exact ⟨0, 0, (Mid.refl 0 0 w).grown (by rw [hv] at r2; exact r2) (fun q e => by cases e), fun g _ h => by omega⟩
    | some g => exact ⟨g, g + 1, (Mid.refl g (g + 1) w).grown (by rw [hv] at r2; exact r2) (fun q e => by cases e; omega), fun q h1 h2 => by rw [show q = g by omega]⟩
  obtain ⟨a, b, m, hab⟩ := hmid
  have hsz := m.size
  have far' : ∀ lo' hi', (∀ g, v.ownBlock = some g → g < lo' ∨ hi' ≤ g) → lo' ≤ hi' → hi' ≤ a ∨ b ≤ lo' ∨ b ≤ a := fun lo' hi' hh hle => by
    by_cases e : a < b
    · have h1 := hh a (hab a (Nat.le_refl _) e)
      have h2 := hh (b - 1) (hab (b - 1) (by omega) (by omega))
      have h3 : a = b - 1 := by
        have x1 := hab a (Nat.le_refl _) e
        have x2 := hab (b - 1) (by omega) (by omega)
        rw [x1] at x2
        exact Option.some.inj x2
      omega
    · exact .inr (.inr (by omega))
  have mem' : ∀ lo' hi' n' p', M lo' hi' n' p' w → lo' ≤ hi' → hi' ≤ w.heap.size → (∀ g, v.ownBlock = some g → g < lo' ∨ hi' ≤ g) → M lo' hi' n' p' w' := fun lo' hi' n' p' hm' hle hle2 hh => by
    rcases far' lo' hi' hh hle with e | e | e
    · exact hM _ _ _ _ _ _ _ _ hm' m (.inl e) hle2
    · exact hM _ _ _ _ _ _ _ _ hm' m (.inr e) hle2
    · refine hM _ _ _ _ _ _ 0 0 hm' ⟨m.os, m.tape, m.output, m.size, fun q hq _ => m.block q hq (by omega)⟩ (.inr (by omega)) hle2
  refine ⟨?_, fun j hj => ?_, fun j hj => ?_, fun i j hij hj => ?_, fun j hj g hg' => ?_, fun g hg' => ?_⟩
  · rw [flatE_succ, flatE_congr N N P (fun j => if j = k then p else P j) k (fun _ _ => rfl) (fun j hj => if_neg (by omega))]
    simp only [↓reduceIte]
    exact r1
  · by_cases e : j = k
    · subst e; simp only [↓reduceIte]; exact mem' _ _ _ _ hm hlh hhi (fun g hg' => .inl (hg g hg'))
    · simp only [if_neg e]
      have ho := h.out j (by omega)
      exact mem' _ _ _ _ (h.mem j (by omega)) ho.2.1 ho.2.2 (h.apart j (by omega))
  · by_cases e : j = k
    · subst e; simp only [↓reduceIte]; omega
    · simp only [if_neg e]
      have ho := h.out j (by omega)
      omega
  · by_cases e : j = k
    · subst e; simp only [↓reduceIte, if_neg (show ¬ i = j by omega)]; exact hlo i hij
    · simp only [if_neg e, if_neg (show ¬ i = k by omega)]; exact h.far i j hij (by omega)
  · have hnew : v.ownBlock = some g ∨ g = w.heap.size := by
      rcases r4 with e | e
      · rw [e] at hg'; exact .inl hg'
      · rw [e] at hg'; exact .inr (Option.some.inj hg').symm
    by_cases e : j = k
    · subst e
      simp only [↓reduceIte]
      rcases hnew with e | e
      · exact .inl (hg g e)
      · exact .inr (by omega)
    · simp only [if_neg e]
      rcases hnew with e | e
      · exact h.apart j (by omega) g e
      · exact .inr (by have := h.out j (by omega); omega)
  · rcases r1.2 with ⟨e, _⟩ | ⟨g', cap, cur, e, _, hg2, _⟩
    · rw [e] at hg'; cases hg'
    · rw [e] at hg'; cases hg'; exact (Array.getElem?_eq_some_iff.1 hg2).1
/-- The slice in memory. -/
theorem RowE.evs (h : RowE M B k N P L H v w) (hk : k = N.length) (hm : N.length ≤ maxLen) (hR : ∀ j, j < k → Nums (P j).1 (nthE N j).fr.D w) : ∃ a c, v = .slice a N.length c ∧ Evs a N w := by
  subst hk
  rcases h.own.2 with ⟨rfl, h0⟩ | ⟨g, cap, cur, rfl, hb, hg, hle, hmx, hcs, htk⟩
  · exact ⟨none, 0, by rw [h0], hm, fun j hj => absurd hj (by omega)⟩
  · refine ⟨_, cap, rfl, hm, fun j hj => ⟨g, 0, (P j).1, (P j).2, rfl, fun i x hx => ?_, hR j hj⟩⟩
    have hi : i < 7 := (List.getElem?_eq_some_iff.1 hx).1
    have h2 := flatE_at N P N.length j i x hj hx
    rw [← htk, List.getElem?_take_of_lt (by omega)] at h2
    rw [cell_of_row w g _ _ _ _ hg, Nat.zero_add, ← Array.getElem?_toList]
    exact h2
end
theorem infoE : (Tryz.prog.info? 43).map (fun i => (i.zero, i.size, i.bytes)) = some (some (.agg evZC), 7, 72) := by kernel_rfl
/-- A node is appended, in a region that draws its order. -/
theorem held_appE {M : Nat → Nat → Ev → EvP → World → Prop} (hM : SepE M) {B k : Nat} {N : List Ev} {P : Nat → EvP} {L H : Nat → Nat} {md : Region.Mode} {ops : Array Oper} {Q : Exit → Act → World → Prop} {S : World → Prop} (i d : Nat) (v : Value) (p : EvP) (lo hi g1 c1 : Nat) {oi : Oper} {fuel : Nat} {listed : Array Bool} {a : Act} {w : World} {s x : Operand}
    (hi0 : ops.toList[i]? = some oi) (hd : oi.dst = some d) (hr : Region.ready md ops listed = [i]) (hw : Region.wanted oi (yielded ops a.tmps) = true) (ho : oi.op = .call { callee := .builtin .append, args := #[s, x], argTypes := #[29, 29] })
    (hs : a.eval s = v) (h : RowE M B k N P L H v w) (hk : k ≤ 1000000) (hx : a.eval x = .slice (some ⟨g1, 0, none⟩) 1 c1) (hg1 : w.heap[g1]? = some (.cells (evC (nthE N k) p.1 p.2) 43 (0, 0)))
    (hm : M lo hi (nthE N k) p w) (hB : B ≤ lo) (hlh : lo ≤ hi) (hhi : hi ≤ w.heap.size) (hlo : ∀ j, j < k → H j ≤ lo) (hg : ∀ g, v.ownBlock = some g → g < lo) (hBw : B ≤ w.heap.size)
    (K : ∀ v' w', RowE M B (k + 1) N (fun j => if j = k then p else P j) (fun j => if j = k then lo else L j) (fun j => if j = k then hi else H j) v' w' → w.grownBy w' v.ownBlock → S w' ∧ wpAnyH Tryz.prog md ops Q S fuel (listed.setIfInBounds i true) (a.put (some d) v') w') : wpAnyH Tryz.prog md ops Q S (fuel + 1) listed a w := by
  obtain ⟨i0, hi1, hz0, hz1, hz2⟩ := info_parts infoE
  obtain ⟨v', w', hrun, r1, r2, -, r4⟩ := run_append_own_at (P := Tryz.prog) w B 29 oi.type 43 i0 (.agg evZC) 7 72 Tryz.underlying29 hi1 hz0 hz1 hz2 rfl (by decide) v k (flatE N P k) h.own ⟨g1, 0, none⟩ 1 c1 (evC (nthE N k) p.1 p.2).toList rfl
    (fun j u hu => by rw [show (⟨g1, 0, none⟩ : Addr).add j = ⟨g1, j, none⟩ by unfold Addr.add; split <;> simp_all, cell_of_row w g1 _ _ _ _ hg1, ← Array.getElem?_toList]; exact hu) (fun u hu => (Array.all_eq_true_iff_forall_mem.1 (evC_one (nthE N k) p.1 p.2)) u (by simpa using hu)) (by unfold maxLen; omega) (by omega) hBw
  exact h_new i d v' w' hi0 hd hr hw (by simp [execOp, ho, resolve, invoke, builtin, hs, hx, hrun, Result.andThen]) (K v' w' (h.app hM hm hB hlh hhi hlo hg r1 r2 r4) r2)
end Go.Proofs.YtnhmecabppaboaaGreat
