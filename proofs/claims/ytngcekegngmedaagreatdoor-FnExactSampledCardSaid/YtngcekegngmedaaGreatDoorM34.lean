/- Steps at whole nodes: laid in a new block, read ahead of a tail; what a copied node holds. -/
import Derived.Test.YtngcekegngmedaaGreatDoorM33
import Derived.StillTailTactics
import Derived.OrdersHeld
import Derived.Deep.WholeRow

set_option linter.unusedVariables false
set_option linter.unusedSimpArgs false
set_option maxRecDepth 20000
namespace Go.Proofs.YtngcekegngmedaaGreatDoor
open Go.RowKit

theorem ndC_one (n : Nd) (p : NdP) : (ndC n p).all (·.oneCell') = true := by simp [Value.oneCell']
/-- A node goes, whole, into the block that was made last. -/
theorem wpList_lay {n : Nd} {p : NdP} {w W : World} {C : Array Value} {ops : Array Oper} {rest : List Oper} {o : Oper} {a : Act} {Q : Exit → Act → World → Prop} {x y : Operand} (ho : o.op = .store 32 x y) (hg : o.guard = none) (hW : W = w.alloc (.cells C 32))
    (hx : a.eval x = .pointer (some ⟨w.heap.size, 0, none⟩)) (hy : a.eval y = ndV n p) (hC : C.size = 18) (k : wpList Tryz.prog ops Q rest (a.put o.dst undef) (w.alloc (.cells (ndC n p) 32))) : wpList Tryz.prog ops Q (o :: rest) a W := by
  subst hW
  rw [← World.setRow_alloc_new w C (ndC n p) 32] at k
  exact wpList_store_row hg 32 x y ho w.heap.size (ndC n p) hx hy 32 C (heap_alloc_new w _) (by kernel_rfl) (hC.trans rfl) (ndC_one n p) k
/-! ### A region that draws, by hand: what is ready alone. -/
theorem held_call {P : Program} {md : Region.Mode} {ops : Array Oper} {Q : Exit → Act → World → Prop} {S : World → Prop} (i : Nat) {oi : Oper} (f : FuncId) (args : Array Value) {fuel : Nat} {listed : Array Bool} {a : Act} {w : World}
    (hi : ops[i]? = some oi) (hr : Region.ready md ops listed = [i]) (hw : Region.wanted oi (yielded ops a.tmps) = true) (hx : (execOp a.eval oi).run P w = .ok (.enter f args) w)
    (h : Calls P f args w fun e w' => ∃ v, e = .returned v ∧ S w' ∧ wpAnyH P md ops Q S fuel (listed.setIfInBounds i true) (a.put oi.dst v) w') : wpAnyH P md ops Q S (fuel + 1) listed a w := by
  refine wpAnyH_all hr (by simp) fun j hj => ?_
  obtain rfl : j = i := by simpa using hj
  unfold wpOp
  simp only [hi]
  rw [if_pos hw]
  left
  unfold Oper.wp
  rw [hx, Oper.upon_enter]
  exact h.mono fun e w' h' => by
    obtain ⟨v, he, hs, k⟩ := h'
    subst he
    exact ⟨hs, k⟩
theorem held_value {P : Program} {md : Region.Mode} {ops : Array Oper} {Q : Exit → Act → World → Prop} {S : World → Prop} (i : Nat) {oi : Oper} (v : Value) {fuel : Nat} {listed : Array Bool} {a : Act} {w : World}
    (hi : ops[i]? = some oi) (hr : Region.ready md ops listed = [i]) (hw : Region.wanted oi (yielded ops a.tmps) = true) (hx : (execOp a.eval oi).run P w = .ok (.value v) w)
    (hS : S w) (h : wpAnyH P md ops Q S fuel (listed.setIfInBounds i true) (a.put oi.dst v) w) : wpAnyH P md ops Q S (fuel + 1) listed a w := by
  refine wpAnyH_all hr (by simp) fun j hj => ?_
  obtain rfl : j = i := by simpa using hj
  unfold wpOp
  simp only [hi]
  rw [if_pos hw]
  left
  unfold Oper.wp
  rw [hx]
  exact ⟨hS, h⟩
section
variable {B b1 b2 b3 : Nat} {n : Nd} {p : NdP} {MB MF : List (Frm × Value)} {w w' : World}
theorem NdO.ndm (h : NdO B b1 b2 b3 n p MB MF w) (hs : roomN n ≤ 1048576) : NdM n p w := by
  unfold roomN at hs
  exact ⟨h.dat.nums2, h.box.frsOf h.mb (by omega), h.fifo.frsOf h.mf (by omega), (h.flt.flsAt (by omega)).2, h.got⟩
theorem Nx.drew' {g : Nat} {w0 : World} (h : Nx g n p w0 w) : Nx g n p w0 { w with drawn := w.drawn + 1 } := h.drew
theorem Ny.drew {g : Nat} {w0 : World} (h : Ny g n p w0 w) : Ny g n p w0 { w with drawn := w.drawn + 1 } := ⟨h.blk, ⟨h.bel.os, h.bel.tape, h.bel.output, h.bel.size, h.bel.block⟩⟩
end
end Go.Proofs.YtngcekegngmedaaGreatDoor
