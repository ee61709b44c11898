/- Contracts of FrameOk, of the program and of the model: at every frame whose data can be read both answer frOk of it. -/
import Derived.Test.YtnabcnmgfchceaaHeld
import Derived.Below
import Derived.WalkKit
import Derived.Deep.RegionWith
import Derived.Deep.QuietTactic
import Derived.BigQuiet
import Derived.Deep.RegionHeld3
import Derived.Deep.CutRange
import Derived.Deep.DeepCutAuto
namespace Go.Proofs.Ytnabcnmgfchceaa
open Go.RowKit

/-- Number j of a list (a name of its own: simp leaves it alone). -/
def nth (D : List Int) (j : Nat) : Int := D.getD j 0
/-- In w the slice at a holds the numbers D. -/
def Nums (a : Option Addr) (D : List Int) (w : World) : Prop :=
  D.length ≤ maxLen ∧ (∀ v ∈ D, (Lit.int .i64 v).wf = true) ∧ ∀ j, j < D.length → ∃ g o, a = some ⟨g, o, none⟩ ∧ w.cell? ⟨g, o + j, none⟩ = some (.int .i64 (nth D j))
theorem Nums.below {a : Option Addr} {D : List Int} {w w' : World} (h : Nums a D w) (b : Below w.heap.size w w') : Nums a D w' := by
  refine ⟨h.1, h.2.1, fun j hj => ?_⟩
  obtain ⟨g, o, ha, hc⟩ := h.2.2 j hj
  exact ⟨g, o, ha, (b.cell (p := ⟨g, o + j, none⟩) (World.block_lt_of_cell? w _ hc)).trans hc⟩

theorem Nums.alloc {a : Option Addr} {D : List Int} {w : World} (h : Nums a D w) (o : Obj) : Nums a D (w.alloc o) := h.below ((Below.refl _ _).alloc (Nat.le_refl _) _)

theorem Nums.drew {a : Option Addr} {D : List Int} {w : World} (h : Nums a D w) : Nums a D w.drew := ⟨h.1, h.2.1, h.2.2⟩

/-- Is the number a byte? -/
def byOk (b : Int) : Bool := decide (0 ≤ b) && decide (b ≤ 255)
def frOk (id : Int) (rm : Bool) (ln : Int) (D : List Int) : Bool := inR id ln && decide ((D.length : Int) = if rm then 0 else ln) && D.all byOk

theorem byOk_no {v : Int} (h : v < 0 ∨ 255 < v) : byOk v = false := by
  simp only [byOk, Bool.and_eq_false_iff, decide_eq_false_iff_not]; omega
theorem byOk_yes {v : Int} (h0 : 0 ≤ v) (h1 : v ≤ 255) : byOk v = true := by simp [byOk, h0, h1]
theorem all_yes {D : List Int} (h : ∀ j, j < D.length → byOk (nth D j) = true) : D.all byOk = true := by
  rw [List.all_eq_true]
  intro x hx
  obtain ⟨j, hj, rfl⟩ := List.mem_iff_getElem.1 hx
  have := h j hj
  rwa [nth, List.getD_eq_getElem?_getD, List.getElem?_eq_getElem hj] at this
theorem all_no {D : List Int} {k : Nat} (hk : k < D.length) (h : byOk (nth D k) = false) : D.all byOk = false := by
  rw [nth, List.getD_eq_getElem?_getD, List.getElem?_eq_getElem hk] at h
  rw [Bool.eq_false_iff]
  intro e
  rw [List.all_eq_true] at e
  have := e _ (List.getElem_mem hk)
  simp_all
theorem frOk_no {id : Int} {rm : Bool} {ln : Int} {D : List Int} (h : id < 0 ∨ 2047 < id ∨ ln < 0 ∨ 8 < ln ∨ (D.length : Int) ≠ if rm = true then 0 else ln) : frOk id rm ln D = false := by
  simp only [frOk, inR, Bool.and_eq_false_iff, decide_eq_false_iff_not]; omega
theorem frOk_yes {id : Int} {rm : Bool} {ln : Int} {D : List Int} (h : 0 ≤ id ∧ id ≤ 2047 ∧ 0 ≤ ln ∧ ln ≤ 8) (h2 : (D.length : Int) = if rm = true then 0 else ln) : frOk id rm ln D = D.all byOk := by
  simp only [frOk, inR]
  rw [decide_eq_true h2, decide_eq_true h.1, decide_eq_true h.2.1, decide_eq_true h.2.2.1, decide_eq_true h.2.2.2]; rfl
end Go.Proofs.Ytnabcnmgfchceaa
