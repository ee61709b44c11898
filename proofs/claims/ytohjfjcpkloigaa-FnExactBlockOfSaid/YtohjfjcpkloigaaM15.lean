/- Means that serve all texts: what turns between two blocks, cells in the middle of a row, a region that draws its order told operation by operation, whole frames read. -/
import Derived.Test.YtohjfjcpkloigaaM12
import Derived.Test.YtohjfjcpkloigaaM6
import Derived.StillTailTactics
import Derived.OrdersHeld
import Derived.Deep.WholeRow
import Derived.Deep.MidRow
import Derived.Maps.AppendAt

set_option linter.unusedVariables false
set_option linter.unusedSimpArgs false
set_option maxRecDepth 20000
namespace Go.Proofs.Ytohjfjcpkloigaa
open Go.RowKit

section
variable {B E lo hi lo' hi' : Nat} {w w' : World}
theorem Mid.wide {lo hi lo' hi' : Nat} {w w' : World} (h : Mid lo hi w w') (h1 : lo' ≤ lo) (h2 : hi ≤ hi') : Mid lo' hi' w w' := ⟨h.os, h.tape, h.output, h.size, fun k hk hc => h.block k hk (by omega)⟩
theorem Mid.row {lo hi g : Nat} {w w' : World} {C : Array Value} {ty : TypeId} {z : Nat × Nat} (h : Mid lo hi w w') (hb : w.heap[g]? = some (.cells C ty z)) (hg : hi ≤ g) : w'.heap[g]? = some (.cells C ty z) :=
  (h.block g (Array.getElem?_eq_some_iff.1 hb).1 (.inr hg)).trans hb
theorem Mid.ofBelow {lo hi : Nat} {w w' : World} (b : Below w.heap.size w w') : Mid lo hi w w' := (Mid.refl lo hi w).grown (grown_at b) (fun q e => by cases e)
/-- What lies below these blocks stays, too. -/
theorem OwnI.midLow {D : List Int} {v : Value} (h : OwnI B D v w) (k : Mid lo hi w w') (hu : ∀ q, v.ownBlock = some q → q < lo) : OwnI B D v w' := by
  refine ⟨⟨h.1.1, ?_⟩, h.2⟩
  rcases h.1.2 with e | ⟨g, cap, cur, e, hb, hg, r⟩
  · exact .inl e
  · exact .inr ⟨g, cap, cur, e, hb, (k.block g (Array.getElem?_eq_some_iff.1 hg).1 (.inl (hu g (by rw [e]; rfl)))).trans hg, r⟩
theorem Under.to {M : List (Frm × Value)} {v : Value} (h : Under E M v) (he : E ≤ hi) : Under hi M v := ⟨fun q hq => Nat.lt_of_lt_of_le (h.1 q hq) he, fun m hm q hq => Nat.lt_of_lt_of_le (h.2 m hm q hq) he⟩
theorem OwnI.sep {D : List Int} {v : Value} (h : OwnI B D v w) (k : Mid lo hi w w') (hu : ∀ q, v.ownBlock = some q → q < E) (hs : E ≤ lo ∨ hi ≤ B) : OwnI B D v w' := by
  rcases hs with hs | hs
  · exact h.midLow k fun q hq => Nat.lt_of_lt_of_le (hu q hq) hs
  · exact h.mid k hs
end
section
variable {w w' : World}
theorem ownsRow_mid {B : Nat} {v : Value} {e : TypeId} {sz n a b : Nat} {xs : List Value} (h : w.ownsRow B e sz v n xs) (m : Mid a b w w') (hs : ∀ g, v.ownBlock = some g → g < a ∨ b ≤ g) : w'.ownsRow B e sz v n xs := by
  refine ⟨h.1, ?_⟩
  rcases h.2 with e | ⟨g, cap, cur, e, hb, hg, r⟩
  · exact .inl e
  · have := hs g (by rw [e]; rfl)
    exact .inr ⟨g, cap, cur, e, hb, (m.block g (Array.getElem?_eq_some_iff.1 hg).1 this).trans hg, r⟩
/-- A range of cells abides what happens above. -/
theorem rangeAt_below {w w' : World} {g o : Nat} {cs : List Value} (h : w.rangeAt g o cs) (b : Below w.heap.size w w') : w'.rangeAt g o cs := fun j v hv => by
  have := h j v hv
  exact (b.cell (World.block_lt_of_cell? w _ this)).trans this
/-- Two blocks laid. -/
theorem two_made (w : World) (C D : Array Value) (T T' : TypeId) : ((w.alloc (.cells C T)).alloc (.cells D T')).heap[w.heap.size]? = some (.cells C T (0, 0)) ∧ ((w.alloc (.cells C T)).alloc (.cells D T')).heap[w.heap.size + 1]? = some (.cells D T' (0, 0))
    ∧ Below w.heap.size w ((w.alloc (.cells C T)).alloc (.cells D T')) := by
  have h1 := heap_alloc_new w (.cells C T)
  have h2 := heap_alloc_new (w.alloc (.cells C T)) (.cells D T')
  have hs : (w.alloc (.cells C T)).heap.size = w.heap.size + 1 := by simp
  rw [hs] at h2
  exact ⟨((below_more (Below.refl _ (w.alloc (.cells C T))) (.cells D T')).block w.heap.size (by omega)).trans h1, h2, below_more (below_more (Below.refl _ w) (.cells C T)) (.cells D T')⟩
theorem three_made (w : World) (C D E : Array Value) (T T' T'' : TypeId) : (((w.alloc (.cells C T)).alloc (.cells D T')).alloc (.cells E T'')).heap[w.heap.size]? = some (.cells C T (0, 0)) ∧ (((w.alloc (.cells C T)).alloc (.cells D T')).alloc (.cells E T'')).heap[w.heap.size + 1]? = some (.cells D T' (0, 0))
    ∧ (((w.alloc (.cells C T)).alloc (.cells D T')).alloc (.cells E T'')).heap[w.heap.size + 2]? = some (.cells E T'' (0, 0)) ∧ Below w.heap.size w (((w.alloc (.cells C T)).alloc (.cells D T')).alloc (.cells E T'')) := by
  obtain ⟨h1, h2, b⟩ := two_made w C D T T'
  have h3 := heap_alloc_new ((w.alloc (.cells C T)).alloc (.cells D T')) (.cells E T'')
  have hs : ((w.alloc (.cells C T)).alloc (.cells D T')).heap.size = w.heap.size + 2 := by simp
  rw [hs] at h3
  have k := below_more (Below.refl _ ((w.alloc (.cells C T)).alloc (.cells D T'))) (.cells E T'')
  exact ⟨(k.block _ (by omega)).trans h1, (k.block _ (by omega)).trans h2, h3, below_more b (.cells E T'')⟩
theorem grown_at_cell (w : World) (g k : Nat) (v : Value) : w.grownBy (w.setCell ⟨g, k, none⟩ v) (some g) := grown_set _ _ _ _
theorem mid_cell (w : World) (g k : Nat) (v : Value) : Mid g (g + 1) w (w.setCell ⟨g, k, none⟩ v) := (Mid.refl g (g + 1) w).grown (grown_at_cell w g k v) (fun q hq => by cases hq; omega)
theorem setCells_row (G : Nat) (T : TypeId) : ∀ (vs : List Value) (o : Nat) (cur : Array Value) (w : World), w.heap[G]? = some (.cells cur T (0, 0)) → o + vs.length ≤ cur.size →
    ∃ cur', (w.setCells G o vs).heap[G]? = some (.cells cur' T (0, 0)) ∧ cur'.size = cur.size ∧ (∀ i v, vs[i]? = some v → cur'[o + i]? = some v) ∧ (∀ i, i < o ∨ o + vs.length ≤ i → cur'[i]? = cur[i]?) ∧ Mid G (G + 1) w (w.setCells G o vs)
  | [], o, cur, w, h, hb => ⟨cur, h, rfl, fun i v hv => by simp at hv, fun _ _ => rfl, Mid.refl _ _ _⟩
  | v :: r, o, cur, w, h, hb => by
    rw [List.length_cons] at hb
    obtain ⟨cur', h1, h2, h3, h4, h5⟩ := setCells_row G T r (o + 1) (cur.setIfInBounds o v) (w.setCell ⟨G, o, none⟩ v) (heap_setCell_same _ _ _ _ _ _ h) (by simp; omega)
    refine ⟨cur', h1, by rw [h2]; simp, fun i u hu => ?_, fun i hi => ?_, ?_⟩
    · cases i with
      | zero =>
        obtain rfl : v = u := by simpa using hu
        rw [Nat.add_zero, h4 o (.inl (by omega)), Array.getElem?_setIfInBounds]
        simp; omega
      | succ i =>
        have := h3 i u (by simpa using hu)
        rwa [show o + (i + 1) = o + 1 + i by omega]
    · rw [List.length_cons] at hi
      rw [h4 i (by omega), Array.getElem?_setIfInBounds, if_neg (by omega)]
    · exact (mid_cell w G o v).trans h5
theorem there_row {G o n : Nat} {T : TypeId} {cur : Array Value} {w : World} (h : w.heap[G]? = some (.cells cur T (0, 0))) (hb : o + n ≤ cur.size) : w.there G o n := fun j hj => by
  refine ⟨?_, frozen_of_row w G _ _ _ h⟩
  rw [cell_of_row w G _ _ _ _ h, Array.getElem?_eq_getElem (by omega)]; rfl
/-- The walk stands still ahead of a node's store: 'go_wp2_with (refine stay_store rfl ?_)', then 'refine ⟨row_put .. ?_⟩'. -/
structure Stay (p : Prop) : Prop where
  out : p
theorem below_cells {B G o : Nat} {T : TypeId} {vs : List Value} {cur : Array Value} {w0 w : World} (b : Below B w0 w) (hB : B ≤ w0.heap.size) (hG : B ≤ G) (h : w.heap[G]? = some (.cells cur T (0, 0))) (hb : o + vs.length ≤ cur.size) : Below B w0 (w.setCells G o vs) := by
  obtain ⟨cur', c1, c2, c3, c4, c5⟩ := setCells_row G T vs o cur w h hb
  exact b.trans (c5.below hG (Nat.le_trans hB b.size))
theorem size_cells (G : Nat) : ∀ (vs : List Value) (o : Nat) (w : World), (w.setCells G o vs).heap.size = w.heap.size
  | [], _, _ => rfl
  | v :: r, o, w => by rw [World.setCells, size_cells G r]; simp
end
theorem held_call {P : Program} {md : Region.Mode} {ops : Array Oper} {Q : Exit → Act → World → Prop} {S : World → Prop} (i : Nat) {oi : Oper} (f : FuncId) (args : Array Value) {fuel : Nat} {listed : Array Bool} {a : Act} {w : World}
    (hi : ops[i]? = some oi) (hr : Region.ready md ops listed = [i]) (hw : Region.wanted oi (yielded ops a.tmps) = true) (hx : (execOp a.eval oi).run P w = .ok (.enter f args) w)
    (h : Calls P f args w fun e w' => ∃ v, e = .returned v ∧ S w' ∧ wpAnyH P md ops Q S fuel (listed.setIfInBounds i true) (a.put oi.dst v) w') : wpAnyH P md ops Q S (fuel + 1) listed a w := by
  refine wpAnyH_all hr (by simp) fun j hj => ?_
  obtain rfl : j = i := by simpa using hj
  unfold wpOp
  simp only [hi]
  rw [if_pos hw]
  left
  unfold Oper.wp
  rw [hx, Oper.upon_enter]
  exact h.mono fun e w' h' => by
    obtain ⟨v, he, hs, k⟩ := h'
    subst he
    exact ⟨hs, k⟩
theorem held_value {P : Program} {md : Region.Mode} {ops : Array Oper} {Q : Exit → Act → World → Prop} {S : World → Prop} (i : Nat) {oi : Oper} (v : Value) {fuel : Nat} {listed : Array Bool} {a : Act} {w : World}
    (hi : ops[i]? = some oi) (hr : Region.ready md ops listed = [i]) (hw : Region.wanted oi (yielded ops a.tmps) = true) (hx : (execOp a.eval oi).run P w = .ok (.value v) w)
    (hS : S w) (h : wpAnyH P md ops Q S fuel (listed.setIfInBounds i true) (a.put oi.dst v) w) : wpAnyH P md ops Q S (fuel + 1) listed a w := by
  refine wpAnyH_all hr (by simp) fun j hj => ?_
  obtain rfl : j = i := by simpa using hj
  unfold wpOp
  simp only [hi]
  rw [if_pos hw]
  left
  unfold Oper.wp
  rw [hx]
  exact ⟨hS, h⟩
/-- One operation that is ready alone, in a region that draws. -/
theorem held_op {P : Program} {md : Region.Mode} {ops : Array Oper} {Q : Exit → Act → World → Prop} {S : World → Prop} (i : Nat) {oi : Oper} {fuel : Nat} {listed : Array Bool} {a : Act} {w : World}
    (hi : ops[i]? = some oi) (hr : Region.ready md ops listed = [i]) (hw : Region.wanted oi (yielded ops a.tmps) = true)
    (h : oi.wp P a w (fun a' w' => S w' ∧ wpAnyH P md ops Q S fuel (listed.setIfInBounds i true) a' w') Q) : wpAnyH P md ops Q S (fuel + 1) listed a w := by
  refine wpAnyH_all hr (by simp) fun j hj => ?_
  obtain rfl : j = i := by simpa using hj
  unfold wpOp
  simp only [hi]
  rw [if_pos hw]
  exact .inl h
theorem call_wp {P : Program} {K : Act → World → Prop} {Q : Exit → Act → World → Prop} {o : Oper} {a : Act} {w : World} (f : FuncId) (args : Array Value) (hx : (execOp a.eval o).run P w = .ok (.enter f args) w)
    (h : Calls P f args w fun e w' => ∃ v, e = .returned v ∧ K (a.put o.dst v) w') : o.wp P a w K Q := by
  unfold Oper.wp
  rw [hx, Oper.upon_enter]
  exact h.mono fun e w' h' => by
    obtain ⟨v, he, k⟩ := h'
    subst he
    exact k
theorem value_wp {P : Program} {K : Act → World → Prop} {Q : Exit → Act → World → Prop} {o : Oper} {a : Act} {w : World} (v : Value) (w' : World) (hx : (execOp a.eval o).run P w = .ok (.value v) w') (h : K (a.put o.dst v) w') : o.wp P a w K Q := by
  unfold Oper.wp
  rw [hx]
  exact h
theorem held_fork {P : Program} {md : Region.Mode} {ops : Array Oper} {Q : Exit → Act → World → Prop} {S : World → Prop} (i j : Nat) {oi oj : Oper} {fuel : Nat} {listed : Array Bool} {a : Act} {w : World}
    (hr : Region.ready md ops listed = [i, j]) (hi : ops[i]? = some oi) (hj : ops[j]? = some oj) (hwi : Region.wanted oi (yielded ops a.tmps) = true) (hwj : Region.wanted oj (yielded ops a.tmps) = true)
    (h1 : oi.wp P a w (fun a' w' => S w' ∧ wpAnyH P md ops Q S fuel (listed.setIfInBounds i true) a' w') Q) (h2 : oj.wp P a w (fun a' w' => S w' ∧ wpAnyH P md ops Q S fuel (listed.setIfInBounds j true) a' w') Q) : wpAnyH P md ops Q S (fuel + 1) listed a w := by
  refine wpAnyH_all hr (by simp) fun q hq => ?_
  obtain rfl | rfl : q = i ∨ q = j := by simpa using hq
  · unfold wpOp
    simp only [hi]
    rw [if_pos hwi]
    exact .inl h1
  · unfold wpOp
    simp only [hj]
    rw [if_pos hwj]
    exact .inl h2
abbrev frC (f : Frm) (a : Option Addr) (c : Nat) : Array Value := #[.int .i64 f.id, .bool f.rm, .int .i64 f.ln, .slice a f.D.length c]
/-- What a size's answer is. -/
def SzR (left : Int) (k : Nat) (e : Ending) : Prop := (((k : Int) ≤ left ∧ e = .returned (.int .i64 (left - k))) ∨ (left < k ∧ e = .returned (.int .i64 (-1))))
def KC (w w' : World) : Prop := ∀ (g : Nat) (C : Array Value) (T : TypeId) (z : Nat × Nat), w.heap[g]? = some (Obj.cells C T z) → w'.heap[g]? = some (Obj.cells C T z)
theorem OwnI.kc {B : Nat} {D : List Int} {v : Value} {w w' : World} (h : OwnI B D v w) (k : KC w w') : OwnI B D v w' := by
  refine ⟨⟨h.1.1, ?_⟩, h.2⟩
  rcases h.1.2 with e | ⟨g, cap, cur, e, hb, hg, r⟩
  · exact .inl e
  · exact .inr ⟨g, cap, cur, e, hb, k _ _ _ _ hg, r⟩
section
variable {P : Program} {md : Region.Mode} {ops : Array Oper} {Q : Exit → Act → World → Prop} {S : World → Prop} {fuel : Nat} {listed : Array Bool} {a : Act} {w : World} {oi : Oper}
theorem op_at {i : Nat} (hi : ops.toList[i]? = some oi) : ops[i]? = some oi := by rw [← Array.getElem?_toList]; exact hi
theorem h_take (i d : Nat) (v : Value) (hi : ops.toList[i]? = some oi) (hd : oi.dst = some d) (hs : Region.noSelect ops = true) (hf : Region.free md ops listed i = true) (hr : (Region.ready md ops listed).contains i = true)
    (hQ : ∀ c a w, Q (.panic c) (a.put (some d) v) w → Q (.panic c) a w) (hw : Region.wanted oi (yielded ops a.tmps) = true) (hx : ∀ u, S u → (execOp a.eval oi).run P u = .ok (.value v) u) (hS : S w)
    (h : wpAnyH P md ops Q S fuel (listed.setIfInBounds i true) (a.put (some d) v) w) : wpAnyH P md ops Q S (fuel + 1) listed a w :=
  wpAnyH_take (op_at hi) hs hf hr (by rw [hd]; exact hQ) (.inl ⟨hw, hx⟩) hS (by rw [hd]; exact h)
theorem h_call (i d : Nat) (f : FuncId) (args : Array Value) (hi : ops.toList[i]? = some oi) (hd : oi.dst = some d) (hr : Region.ready md ops listed = [i]) (hw : Region.wanted oi (yielded ops a.tmps) = true) (hx : (execOp a.eval oi).run P w = .ok (.enter f args) w)
    (h : Calls P f args w fun e w' => ∃ v, e = .returned v ∧ S w' ∧ wpAnyH P md ops Q S fuel (listed.setIfInBounds i true) (a.put (some d) v) w') : wpAnyH P md ops Q S (fuel + 1) listed a w :=
  held_call i f args (op_at hi) hr hw hx (by rw [hd]; exact h)
theorem h_new (i d : Nat) (v : Value) (w2 : World) (hi : ops.toList[i]? = some oi) (hd : oi.dst = some d) (hr : Region.ready md ops listed = [i]) (hw : Region.wanted oi (yielded ops a.tmps) = true) (hx : (execOp a.eval oi).run P w = .ok (.value v) w2)
    (k : S w2 ∧ wpAnyH P md ops Q S fuel (listed.setIfInBounds i true) (a.put (some d) v) w2) : wpAnyH P md ops Q S (fuel + 1) listed a w := by
  refine held_op i (op_at hi) hr hw ?_
  unfold Oper.wp
  rw [hx]
  rw [← hd] at k
  exact k
theorem h_value (i d : Nat) (v : Value) (hi : ops.toList[i]? = some oi) (hd : oi.dst = some d) (hr : Region.ready md ops listed = [i]) (hw : Region.wanted oi (yielded ops a.tmps) = true) (hx : (execOp a.eval oi).run P w = .ok (.value v) w) (hS : S w)
    (k : wpAnyH P md ops Q S fuel (listed.setIfInBounds i true) (a.put (some d) v) w) : wpAnyH P md ops Q S (fuel + 1) listed a w := h_new i d v w hi hd hr hw hx ⟨hS, k⟩
theorem h_store (i : Nat) (w2 : World) (hi : ops.toList[i]? = some oi) (hd : oi.dst = none) (hr : Region.ready md ops listed = [i]) (hw : Region.wanted oi (yielded ops a.tmps) = true) (hx : (execOp a.eval oi).run P w = .ok .skip w2)
    (k : S w2 ∧ wpAnyH P md ops Q S fuel (listed.setIfInBounds i true) a w2) : wpAnyH P md ops Q S (fuel + 1) listed a w := by
  refine held_op i (op_at hi) hr hw ?_
  unfold Oper.wp
  rw [hx]
  show S w2 ∧ wpAnyH P md ops Q S fuel (listed.setIfInBounds i true) (a.put oi.dst undef) w2
  rw [hd]
  exact k
end
/-- u has what a has, in the blocks of Y. -/
structure Kp (Y : Nat → Prop) (a u : World) : Prop where
  size : a.heap.size ≤ u.heap.size
  block : ∀ k, Y k → k < a.heap.size → u.heap[k]? = a.heap[k]?
  os : u.os = a.os
  tape : u.tape = a.tape
  output : u.output = a.output
theorem Kp.refl (Y : Nat → Prop) (a : World) : Kp Y a a := ⟨Nat.le_refl _, fun _ _ _ => rfl, rfl, rfl, rfl⟩
theorem Kp.trans {Y : Nat → Prop} {a b c : World} (h : Kp Y a b) (k : Kp Y b c) : Kp Y a c := ⟨Nat.le_trans h.size k.size, fun q hq hl => (k.block q hq (Nat.lt_of_lt_of_le hl h.size)).trans (h.block q hq hl), k.os.trans h.os, k.tape.trans h.tape, k.output.trans h.output⟩
theorem Kp.ofBelow {Y : Nat → Prop} {w u : World} (b : Below w.heap.size w u) : Kp Y w u := ⟨b.size, fun q _ hl => b.block q hl, b.os, b.tape, b.output⟩
end Go.Proofs.Ytohjfjcpkloigaa
