/- A region that draws its order and whose calls make memory, walked once: Derived/Deep/Quiet.lean's theorem at a class of worlds of one's own (what the region reads stays in every world of it). -/
import Derived.Test.YtohjfjcpkloigaaM1
import Derived.Below
import Derived.WalkKit
import Derived.Deep.QuietTactic
import Derived.BigQuiet

set_option maxRecDepth 20000
namespace Go.Proofs.Ytohjfjcpkloigaa
open Go.RowKit

section
variable {P : Program} {ops : Array Oper} {C : World → Prop} {a : Act} {o : Oper}
theorem quietAt_val {v : Value} {w : World} (h : (execOp a.eval o).run P w = .ok (.value v) w) : o.quietAt P a C w v := by
  unfold Oper.quietAt; rw [h]; exact ⟨rfl, rfl⟩
theorem quietAt_enter {v : Value} {w : World} (f : FuncId) (args : Array Value) (h0 : (execOp a.eval o).run P w = .ok (.enter f args) w)
    (h : Calls P f args w fun e w' => e = .returned v ∧ C w') : o.quietAt P a C w v := by
  unfold Oper.quietAt; rw [h0]; exact ⟨rfl, h⟩
theorem region_class {id : Nat} {Q : Exit → Act → World → Prop} {w : World} {l : List Oper} (C : World → Prop) (hm : P.follows .mixedOrders = true) (hB : Region.lexB .any l.toArray = true) (hC : C w.drew)
    (h : wpQuiet P l.toArray C (fun a' => ∀ w', C w' → Q .normal a' w') l a) : (Code.region id l.toArray true).wp P Q a w :=
  wp_region_quiet (C := C) hm hB hC (by simpa using h)
end

theorem below_from {w w1 : World} {o : Obj} (b : Below (w.alloc o).heap.size (w.alloc o) w1) : Below w.heap.size w w1 := by
  have h1 : Below w.heap.size w (w.alloc o) := (Below.refl _ _).alloc (Nat.le_refl _) _
  exact h1.trans (b.mono (by simp))

/-- A block of four cells, and what was there when the call began. -/
def Four (g : Nat) (x0 x1 x2 x3 : Value) (w0 w : World) : Prop :=
  (w.cell? ⟨g, 0, none⟩ = some x0 ∧ w.cell? ⟨g, 1, none⟩ = some x1 ∧ w.cell? ⟨g, 2, none⟩ = some x2 ∧ w.cell? ⟨g, 3, none⟩ = some x3) ∧ Below w0.heap.size w0 w
theorem Four.below {g : Nat} {x0 x1 x2 x3 : Value} {w0 w w' : World} (h : Four g x0 x1 x2 x3 w0 w) (b : Below w.heap.size w w') : Four g x0 x1 x2 x3 w0 w' := by
  obtain ⟨⟨h0, h1, h2, h3⟩, hb⟩ := h
  have hg : g < w.heap.size := World.block_lt_of_cell? w _ h0
  exact ⟨⟨(b.cell hg).trans h0, (b.cell hg).trans h1, (b.cell hg).trans h2, (b.cell hg).trans h3⟩, Below.then2 hb b⟩
theorem Four.alloc {g : Nat} {x0 x1 x2 x3 : Value} {w0 w : World} (h : Four g x0 x1 x2 x3 w0 w) (o : Obj) : Four g x0 x1 x2 x3 w0 (w.alloc o) := h.below ((Below.refl _ _).alloc (Nat.le_refl _) _)
theorem Four.drew {g : Nat} {x0 x1 x2 x3 : Value} {w0 w : World} (h : Four g x0 x1 x2 x3 w0 w) : Four g x0 x1 x2 x3 w0 w.drew := ⟨h.1, h.2.drew⟩
theorem Four.made {w0 w : World} (x0 x1 x2 x3 : Value) (T : TypeId) (b : Below w0.heap.size w0 w) : Four w.heap.size x0 x1 x2 x3 w0 (w.alloc (.cells #[x0, x1, x2, x3] T)) := by
  refine ⟨⟨?_, ?_, ?_, ?_⟩, b.alloc b.size _⟩ <;> rw [World.cell?_alloc_at _ _ _ _ rfl] <;> rfl
theorem Four.made_at {w0 w : World} {g : Nat} (x0 x1 x2 x3 : Value) (T : TypeId) (hg : g = w.heap.size) (b : Below w0.heap.size w0 w) : Four g x0 x1 x2 x3 w0 (w.alloc (.cells #[x0, x1, x2, x3] T)) := by
  subst hg; exact Four.made x0 x1 x2 x3 T b
theorem below_of_drew {w w' : World} (b : Below w.drew.heap.size w.drew w') : Below w.heap.size w w' := ⟨b.os, b.tape, b.output, b.size, b.block⟩
theorem belowN {B : Nat} {w0 w : World} (h : Below B w0 w) (n : Nat) : Below B w0 (w.drewN n) := ⟨h.os, h.tape, h.output, h.size, h.block⟩
theorem below_more {w0 w : World} (b : Below w0.heap.size w0 w) (o : Obj) : Below w0.heap.size w0 (w.alloc o) := b.alloc b.size o
end Go.Proofs.Ytohjfjcpkloigaa
