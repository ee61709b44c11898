/- Contracts of chapter 8 (CountOk, StateOf, SentWell, GotWell, SentBad, GotBad), of the program and of the model: both answer one and the same value of any two numbers. -/
import Derived.Test.YtngcekegngmedaaGreatM2
import Derived.Test.YtngcekegngmedaaGreatM5
import Derived.Below
import Derived.ProofKit
import Derived.OpenShut
import Derived.ChangeOld
import Derived.Lib.SmallJoins
import Derived.ChangeSlices

set_option linter.unusedSimpArgs false
set_option maxRecDepth 20000
namespace Go.Proofs.YtngcekegngmedaaGreat
open Go.RowKit

/-- A counter as the machine's value. -/
abbrev cV (s g : Int) : Value := .agg #[.int .i64 s, .int .i64 g]
def cOk (s g : Int) : Bool := (decide (0 ≤ s) && decide (s ≤ 1000)) && (decide (0 ≤ g) && decide (g ≤ 1000))
theorem cOk_iff {s g : Int} : cOk s g = true ↔ 0 ≤ s ∧ s ≤ 1000 ∧ 0 ≤ g ∧ g ≤ 1000 := by
  simp only [cOk, Bool.and_eq_true, decide_eq_true_eq]; omega
theorem cOk_not {s g : Int} : cOk s g = false ↔ ¬ (0 ≤ s ∧ s ≤ 1000 ∧ 0 ≤ g ∧ g ≤ 1000) := by rw [← cOk_iff, Bool.not_eq_true]
def stV (s g : Int) : Int := if cOk s g = true then (if 255 < s then 2 else if 127 < s ∨ 127 < g then 1 else 0) else -1
def swA (s g : Int) : Int := if cOk s g = true then (if 0 < s then s - 1 else 0) else 0
def swB (s g : Int) : Int := if cOk s g = true then g else 0
def gwB (s g : Int) : Int := if cOk s g = true then (if 127 < g then 119 else if 0 < g then g - 1 else 0) else 0
def gwA (s g : Int) : Int := if cOk s g = true then s else 0
def sbA (s g : Int) : Int := if cOk s g = true then (if s + 8 ≤ 1000 then s + 8 else 1000) else 0
def gbB (s g : Int) : Int := if cOk s g = true then (if g + 1 ≤ 1000 then g + 1 else 1000) else 0
theorem cV_int {x y a b : Int} (h : x = a) (k : y = b) : Ending.returned (cV x y) = Ending.returned (cV a b) := by rw [h, k]

/-- A block of two cells, and what was there when the call began. -/
def Two2 (g : Nat) (x0 x1 : Value) (w0 w : World) : Prop :=
  w.heap[g]? = some (.cells #[x0, x1] 42 (0, 0)) ∧ w0.heap.size ≤ g ∧ Below w0.heap.size w0 w
section
variable {g : Nat} {x0 x1 : Value} {w0 w w' : World}
theorem Two2.c0 (h : Two2 g x0 x1 w0 w) : w.cell? ⟨g, 0, none⟩ = some x0 := cell_of_row w g 0 _ _ _ h.1
theorem Two2.c1 (h : Two2 g x0 x1 w0 w) : w.cell? ⟨g, 1, none⟩ = some x1 := cell_of_row w g 1 _ _ _ h.1
theorem Two2.free (h : Two2 g x0 x1 w0 w) (k : Nat) : w.frozen? ⟨g, k, none⟩ = false := frozen_of_row w g k _ _ h.1
theorem Two2.lt (h : Two2 g x0 x1 w0 w) : g < w.heap.size := (Array.getElem?_eq_some_iff.1 h.1).1
theorem Two2.below (h : Two2 g x0 x1 w0 w) (b : Below w.heap.size w w') : Two2 g x0 x1 w0 w' :=
  ⟨(b.block g h.lt).trans h.1, h.2.1, Below.then2 h.2.2 b⟩
theorem Two2.made (x0 x1 : Value) (b : Below w0.heap.size w0 w) : Two2 w.heap.size x0 x1 w0 (w.alloc (.cells #[x0, x1] 42)) :=
  ⟨heap_alloc_new w _, b.size, b.alloc b.size _⟩
theorem Two2.alloc (h : Two2 g x0 x1 w0 w) (o : Obj) : Two2 g x0 x1 w0 (w.alloc o) := h.below ((Below.refl _ _).alloc (Nat.le_refl _) _)
end

theorem below2 (w : World) (a b : Obj) : Below w.heap.size w ((w.alloc a).alloc b) := ((Below.refl _ _).alloc (Nat.le_refl _) _).alloc (by simp) _
theorem below3 (w : World) (a b c : Obj) : Below w.heap.size w (((w.alloc a).alloc b).alloc c) := (below2 w a b).alloc (by simp; omega) _

/-- impl.CountOk. -/
theorem implCountOk (s g : Int) (w : World) :
    Calls Tryz.prog 58 #[cV s g] w fun e w' => e = .returned (.bool (cOk s g)) ∧ w' = w.alloc (.cells #[.int .i64 s, .int .i64 g] 42) := by
  go_enter Tryz.func58, Tryz.ntmps58
  go_wp2
  all_goals (go_ret; exact ⟨ret_bool (by simp only [cOk]; first | (simp_all; done) | (simp_all; omega)), rfl⟩)
/-- spec.CountOk. -/
theorem specCountOk (s g : Int) (w : World) :
    Calls Tryz.prog 41 #[cV s g] w fun e w' => e = .returned (.bool (cOk s g)) ∧ w' = w.alloc (.cells #[.int .i64 s, .int .i64 g] 42) := by
  go_enter Tryz.func41, Tryz.ntmps41
  go_wp2_with (go_at_call 25; refine (l1In _ _ _ _).mono ?_; rintro e w' ⟨rfl, rfl⟩)
  all_goals (go_ret; exact ⟨ret_bool (by simp only [cOk]; first | (simp_all; done) | (simp_all; omega)), rfl⟩)
theorem implCountOkB (s g : Int) (w : World) :
    Calls Tryz.prog 58 #[cV s g] w fun e w' => e = .returned (.bool (cOk s g)) ∧ Below w.heap.size w w' :=
  (implCountOk s g w).mono fun _ _ h => ⟨h.1, h.2 ▸ (Below.refl _ _).alloc (Nat.le_refl _) _⟩
theorem specCountOkB (s g : Int) (w : World) :
    Calls Tryz.prog 41 #[cV s g] w fun e w' => e = .returned (.bool (cOk s g)) ∧ Below w.heap.size w w' :=
  (specCountOk s g w).mono fun _ _ h => ⟨h.1, h.2 ▸ (Below.refl _ _).alloc (Nat.le_refl _) _⟩
/-- laws.eqCount, of two that are the same. -/
theorem eqCnt (s g : Int) (w : World) :
    Calls Tryz.prog 52 #[cV s g, cV s g] w fun e w' => e = .returned (.bool true) ∧ Below w.heap.size w w' := by
  go_enter Tryz.func52, Tryz.ntmps52
  go_wp2
  go_ret
  exact ⟨rfl, below2 _ _ _⟩
end Go.Proofs.YtngcekegngmedaaGreat
