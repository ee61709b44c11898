/- Contracts of chapter 8 (CountOk, StateOf, SentWell, GotWell, SentBad, GotBad), of the program and of the model: both answer one and the same value of any two numbers. -/
import Derived.Test.YtngcekegngmedaaGreatDoorM2
import Derived.Test.YtngcekegngmedaaGreatDoorM5
import Derived.Below
import Derived.ProofKit
import Derived.OpenShut
import Derived.ChangeOld
import Derived.Lib.SmallJoins
import Derived.ChangeSlices

set_option linter.unusedSimpArgs false
set_option maxRecDepth 20000
namespace Go.Proofs.YtngcekegngmedaaGreatDoor
open Go.RowKit

/-- A counter as the machine's value. -/
abbrev cV (s g : Int) : Value := .agg #[.int .i64 s, .int .i64 g]
def cOk (s g : Int) : Bool := (decide (0 ≤ s) && decide (s ≤ 1000)) && (decide (0 ≤ g) && decide (g ≤ 1000))
theorem cOk_iff {s g : Int} : cOk s g = true ↔ 0 ≤ s ∧ s ≤ 1000 ∧ 0 ≤ g ∧ g ≤ 1000 := by
  simp only [cOk, Bool.and_eq_true, decide_eq_true_eq]; omega
def stV (s g : Int) : Int := if cOk s g = true then (if 255 < s then 2 else if 127 < s ∨ 127 < g then 1 else 0) else -1
def swA (s g : Int) : Int := if cOk s g = true then (if 0 < s then s - 1 else 0) else 0
def swB (s g : Int) : Int := if cOk s g = true then g else 0
def gwB (s g : Int) : Int := if cOk s g = true then (if 127 < g then 119 else if 0 < g then g - 1 else 0) else 0
def gwA (s g : Int) : Int := if cOk s g = true then s else 0
def sbA (s g : Int) : Int := if cOk s g = true then (if s + 8 ≤ 1000 then s + 8 else 1000) else 0
def gbB (s g : Int) : Int := if cOk s g = true then (if g + 1 ≤ 1000 then g + 1 else 1000) else 0
theorem cV_int {x y a b : Int} (h : x = a) (k : y = b) : Ending.returned (cV x y) = Ending.returned (cV a b) := by rw [h, k]

/-- A block of two cells, and what was there when the call began. -/
def Two2 (g : Nat) (x0 x1 : Value) (w0 w : World) : Prop :=
  w.heap[g]? = some (.cells #[x0, x1] 28 (0, 0)) ∧ w0.heap.size ≤ g ∧ Below w0.heap.size w0 w
section
variable {g : Nat} {x0 x1 : Value} {w0 w w' : World}
theorem Two2.c0 (h : Two2 g x0 x1 w0 w) : w.cell? ⟨g, 0, none⟩ = some x0 := cell_of_row w g 0 _ _ _ h.1
theorem Two2.c1 (h : Two2 g x0 x1 w0 w) : w.cell? ⟨g, 1, none⟩ = some x1 := cell_of_row w g 1 _ _ _ h.1
theorem Two2.free (h : Two2 g x0 x1 w0 w) (k : Nat) : w.frozen? ⟨g, k, none⟩ = false := frozen_of_row w g k _ _ h.1
theorem Two2.lt (h : Two2 g x0 x1 w0 w) : g < w.heap.size := (Array.getElem?_eq_some_iff.1 h.1).1
theorem Two2.below (h : Two2 g x0 x1 w0 w) (b : Below w.heap.size w w') : Two2 g x0 x1 w0 w' :=
  ⟨(b.block g h.lt).trans h.1, h.2.1, Below.then2 h.2.2 b⟩
theorem Two2.made (x0 x1 : Value) (b : Below w0.heap.size w0 w) : Two2 w.heap.size x0 x1 w0 (w.alloc (.cells #[x0, x1] 28)) :=
  ⟨heap_alloc_new w _, b.size, b.alloc b.size _⟩
theorem Two2.alloc (h : Two2 g x0 x1 w0 w) (o : Obj) : Two2 g x0 x1 w0 (w.alloc o) := h.below ((Below.refl _ _).alloc (Nat.le_refl _) _)
end

theorem below2 (w : World) (a b : Obj) : Below w.heap.size w ((w.alloc a).alloc b) := ((Below.refl _ _).alloc (Nat.le_refl _) _).alloc (by simp) _
theorem below3 (w : World) (a b c : Obj) : Below w.heap.size w (((w.alloc a).alloc b).alloc c) := (below2 w a b).alloc (by simp; omega) _

/-- spec.l1Max. -/
theorem maxGt (x y : Int) (w : World) (h : y < x) : Calls Tryz.prog 252 #[.int .i64 x, .int .i64 y] w fun e w' => e = .returned (.int .i64 x) ∧ w = w' := by
  go_enter Tryz.func252, Tryz.ntmps252
  go_wp2
  go_ret
  exact ⟨rfl, rfl⟩
theorem maxLe (x y : Int) (w : World) (h : ¬ y < x) : Calls Tryz.prog 252 #[.int .i64 x, .int .i64 y] w fun e w' => e = .returned (.int .i64 y) ∧ w = w' := by
  go_enter Tryz.func252, Tryz.ntmps252
  go_wp2
  go_ret
  exact ⟨rfl, rfl⟩
/-- impl.CountOk. -/
theorem implCountOk (s g : Int) (w : World) :
    Calls Tryz.prog 165 #[cV s g] w fun e w' => e = .returned (.bool (cOk s g)) ∧ w' = w.alloc (.cells #[.int .i64 s, .int .i64 g] 28) := by
  go_enter Tryz.func165, Tryz.ntmps165
  go_wp2
  all_goals (go_ret; exact ⟨ret_bool (by simp only [cOk]; first | (simp_all; done) | (simp_all; omega)), rfl⟩)
/-- spec.CountOk. -/
theorem specCountOk (s g : Int) (w : World) :
    Calls Tryz.prog 95 #[cV s g] w fun e w' => e = .returned (.bool (cOk s g)) ∧ w' = w.alloc (.cells #[.int .i64 s, .int .i64 g] 28) := by
  go_enter Tryz.func95, Tryz.ntmps95
  go_wp2_with (go_at_call 81; refine (l1In _ _ _ _).mono ?_; rintro e w' ⟨rfl, rfl⟩)
  all_goals (go_ret; exact ⟨ret_bool (by simp only [cOk]; first | (simp_all; done) | (simp_all; omega)), rfl⟩)
theorem implCountOkB (s g : Int) (w : World) :
    Calls Tryz.prog 165 #[cV s g] w fun e w' => e = .returned (.bool (cOk s g)) ∧ Below w.heap.size w w' :=
  (implCountOk s g w).mono fun _ _ h => ⟨h.1, h.2 ▸ (Below.refl _ _).alloc (Nat.le_refl _) _⟩
/-- impl.StateOf. -/
theorem implStateOf (s g : Int) (w : World) :
    Calls Tryz.prog 201 #[cV s g] w fun e w' => e = .returned (.int .i64 (stV s g)) ∧ Below w.heap.size w w' := by
  go_enter Tryz.func201, Tryz.ntmps201
  go_wp2_with fail
  refine (implCountOk _ _ _).mono ?_
  rintro e w' ⟨rfl, rfl⟩
  cases hok : cOk s g with
  | false =>
    go_wp2
    go_ret
    exact ⟨ret_int (by simp only [stV, hok, reduceIte]; rfl), below2 _ _ _⟩
  | true =>
    by_cases h1 : 255 < s
    · go_wp2
      go_ret
      exact ⟨ret_int (by simp only [stV, hok, reduceIte]; omega), below2 _ _ _⟩
    by_cases h2 : 127 < s
    · go_wp2
      go_ret
      exact ⟨ret_int (by simp only [stV, hok, reduceIte]; omega), below2 _ _ _⟩
    by_cases h3 : 127 < g
    · go_wp2
      go_ret
      exact ⟨ret_int (by simp only [stV, hok, reduceIte]; omega), below2 _ _ _⟩
    · go_wp2
      go_ret
      exact ⟨ret_int (by simp only [stV, hok, reduceIte]; omega), below2 _ _ _⟩
theorem specCountOkB (s g : Int) (w : World) :
    Calls Tryz.prog 95 #[cV s g] w fun e w' => e = .returned (.bool (cOk s g)) ∧ Below w.heap.size w w' :=
  (specCountOk s g w).mono fun _ _ h => ⟨h.1, h.2 ▸ (Below.refl _ _).alloc (Nat.le_refl _) _⟩
/-- spec.StateOf. -/
theorem specStateOf (s g : Int) (w : World) :
    Calls Tryz.prog 217 #[cV s g] w fun e w' => e = .returned (.int .i64 (stV s g)) ∧ Below w.heap.size w w' := by
  go_enter Tryz.func217, Tryz.ntmps217
  go_wp2_with fail
  refine (specCountOk _ _ _).mono ?_
  rintro e w' ⟨rfl, rfl⟩
  cases hok : cOk s g with
  | false =>
    go_wp2
    go_ret
    exact ⟨ret_int (by simp only [stV, hok, reduceIte]; rfl), below2 _ _ _⟩
  | true =>
    by_cases h1 : 255 < s
    · go_wp2
      go_ret
      exact ⟨ret_int (by simp only [stV, hok, reduceIte]; omega), below2 _ _ _⟩
    by_cases h2 : 127 < s
    · go_wp2
      go_ret
      exact ⟨ret_int (by simp only [stV, hok, reduceIte]; omega), below2 _ _ _⟩
    by_cases h3 : 127 < g
    · go_wp2
      go_ret
      exact ⟨ret_int (by simp only [stV, hok, reduceIte]; omega), below2 _ _ _⟩
    · go_wp2
      go_ret
      exact ⟨ret_int (by simp only [stV, hok, reduceIte]; omega), below2 _ _ _⟩
/-- impl.SentWell. -/
theorem implSentWell (s g : Int) (w : World) :
    Calls Tryz.prog 267 #[cV s g] w fun e w' => e = .returned (cV (swA s g) (swB s g)) ∧ Below w.heap.size w w' := by
  go_enter Tryz.func267, Tryz.ntmps267
  go_wp2_with fail
  refine (implCountOk _ _ _).mono ?_
  rintro e w' ⟨rfl, rfl⟩
  cases hok : cOk s g with
  | false =>
    go_wp2
    refine bodyPost_ret (v := cV 0 0) (by simp [results, Tryz.results267, go_sem]) rfl ⟨cV_int (by first | (simp only [swA, hok, reduceIte]; done) | (simp only [swA, hok, reduceIte]; omega) | (simp [swA, hok]; done)) (by first | (simp only [swB, hok, reduceIte]; done) | (simp only [swB, hok, reduceIte]; omega) | (simp [swB, hok]; done)), below3 _ _ _ _⟩
  | true =>
    have hb := cOk_iff.1 hok
    by_cases h0 : 0 < s - 1
    · go_wp2
      refine bodyPost_ret (v := cV (s - 1) g) (by simp [results, Tryz.results267, go_sem]) rfl ⟨cV_int (by first | (simp only [swA, hok, reduceIte]; done) | (simp only [swA, hok, reduceIte]; omega) | (simp [swA, hok]; done)) (by first | (simp only [swB, hok, reduceIte]; done) | (simp only [swB, hok, reduceIte]; omega) | (simp [swB, hok]; done)), below3 _ _ _ _⟩
    by_cases h1 : 0 < s
    · go_wp2
      refine bodyPost_ret (v := cV (s - 1) g) (by simp [results, Tryz.results267, go_sem]) rfl ⟨cV_int (by first | (simp only [swA, hok, reduceIte]; done) | (simp only [swA, hok, reduceIte]; omega) | (simp [swA, hok]; done)) (by first | (simp only [swB, hok, reduceIte]; done) | (simp only [swB, hok, reduceIte]; omega) | (simp [swB, hok]; done)), below3 _ _ _ _⟩
    · go_wp2
      refine bodyPost_ret (v := cV 0 g) (by simp [results, Tryz.results267, go_sem]) rfl ⟨cV_int (by first | (simp only [swA, hok, reduceIte]; done) | (simp only [swA, hok, reduceIte]; omega) | (simp [swA, hok]; done)) (by first | (simp only [swB, hok, reduceIte]; done) | (simp only [swB, hok, reduceIte]; omega) | (simp [swB, hok]; done)), below3 _ _ _ _⟩
/-- impl.GotWell. -/
theorem implGotWell (s g : Int) (w : World) :
    Calls Tryz.prog 264 #[cV s g] w fun e w' => e = .returned (cV (gwA s g) (gwB s g)) ∧ Below w.heap.size w w' := by
  go_enter Tryz.func264, Tryz.ntmps264
  go_wp2_with fail
  refine (implCountOk _ _ _).mono ?_
  rintro e w' ⟨rfl, rfl⟩
  cases hok : cOk s g with
  | false =>
    go_wp2
    refine bodyPost_ret (v := cV 0 0) (by simp [results, Tryz.results264, go_sem]) rfl ⟨cV_int (by first | (simp only [gwA, hok, reduceIte]; done) | (simp only [gwA, hok, reduceIte]; omega) | (simp [gwA, hok]; done)) (by first | (simp only [gwB, hok, reduceIte]; done) | (simp only [gwB, hok, reduceIte]; omega) | (simp [gwB, hok]; done)), below3 _ _ _ _⟩
  | true =>
    have hb := cOk_iff.1 hok
    by_cases h0 : 127 < g
    · go_wp2
      refine bodyPost_ret (v := cV s 119) (by simp [results, Tryz.results264, go_sem]) rfl ⟨cV_int (by first | (simp only [gwA, hok, reduceIte]; done) | (simp only [gwA, hok, reduceIte]; omega) | (simp [gwA, hok]; done)) (by first | (simp only [gwB, hok, reduceIte]; done) | (simp only [gwB, hok, reduceIte]; omega) | (simp [gwB, hok]; done)), below3 _ _ _ _⟩
    by_cases h1 : 0 < g - 1
    · go_wp2
      refine bodyPost_ret (v := cV s (g - 1)) (by simp [results, Tryz.results264, go_sem]) rfl ⟨cV_int (by first | (simp only [gwA, hok, reduceIte]; done) | (simp only [gwA, hok, reduceIte]; omega) | (simp [gwA, hok]; done)) (by first | (simp only [gwB, hok, reduceIte]; done) | (simp only [gwB, hok, reduceIte]; omega) | (simp [gwB, hok]; done)), below3 _ _ _ _⟩
    by_cases h2 : 0 < g
    · go_wp2
      refine bodyPost_ret (v := cV s (g - 1)) (by simp [results, Tryz.results264, go_sem]) rfl ⟨cV_int (by first | (simp only [gwA, hok, reduceIte]; done) | (simp only [gwA, hok, reduceIte]; omega) | (simp [gwA, hok]; done)) (by first | (simp only [gwB, hok, reduceIte]; done) | (simp only [gwB, hok, reduceIte]; omega) | (simp [gwB, hok]; done)), below3 _ _ _ _⟩
    · go_wp2
      refine bodyPost_ret (v := cV s 0) (by simp [results, Tryz.results264, go_sem]) rfl ⟨cV_int (by first | (simp only [gwA, hok, reduceIte]; done) | (simp only [gwA, hok, reduceIte]; omega) | (simp [gwA, hok]; done)) (by first | (simp only [gwB, hok, reduceIte]; done) | (simp only [gwB, hok, reduceIte]; omega) | (simp [gwB, hok]; done)), below3 _ _ _ _⟩
/-- impl.SentBad. -/
theorem implSentBad (s g : Int) (w : World) :
    Calls Tryz.prog 198 #[cV s g] w fun e w' => e = .returned (cV (sbA s g) (swB s g)) ∧ Below w.heap.size w w' := by
  go_enter Tryz.func198, Tryz.ntmps198
  go_wp2_with fail
  refine (implCountOk _ _ _).mono ?_
  rintro e w' ⟨rfl, rfl⟩
  cases hok : cOk s g with
  | false =>
    go_wp2
    refine bodyPost_ret (v := cV 0 0) (by simp [results, Tryz.results198, go_sem]) rfl ⟨cV_int (by first | (simp only [sbA, hok, reduceIte]; done) | (simp only [sbA, hok, reduceIte]; omega) | (simp [sbA, hok]; done)) (by first | (simp only [swB, hok, reduceIte]; done) | (simp only [swB, hok, reduceIte]; omega) | (simp [swB, hok]; done)), below3 _ _ _ _⟩
  | true =>
    have hb := cOk_iff.1 hok
    by_cases h0 : s + 8 < 1000
    · go_wp2
      refine bodyPost_ret (v := cV (s + 8) g) (by simp [results, Tryz.results198, go_sem]) rfl ⟨cV_int (by first | (simp only [sbA, hok, reduceIte]; done) | (simp only [sbA, hok, reduceIte]; omega) | (simp [sbA, hok]; done)) (by first | (simp only [swB, hok, reduceIte]; done) | (simp only [swB, hok, reduceIte]; omega) | (simp [swB, hok]; done)), below3 _ _ _ _⟩
    by_cases h1 : s + 8 = 1000
    · go_wp2
      refine bodyPost_ret (v := cV 1000 g) (by simp [results, Tryz.results198, go_sem]) rfl ⟨cV_int (by first | (simp only [sbA, hok, reduceIte]; done) | (simp only [sbA, hok, reduceIte]; omega) | (simp [sbA, hok]; done)) (by first | (simp only [swB, hok, reduceIte]; done) | (simp only [swB, hok, reduceIte]; omega) | (simp [swB, hok]; done)), below3 _ _ _ _⟩
    · go_wp2
      refine bodyPost_ret (v := cV 1000 g) (by simp [results, Tryz.results198, go_sem]) rfl ⟨cV_int (by first | (simp only [sbA, hok, reduceIte]; done) | (simp only [sbA, hok, reduceIte]; omega) | (simp [sbA, hok]; done)) (by first | (simp only [swB, hok, reduceIte]; done) | (simp only [swB, hok, reduceIte]; omega) | (simp [swB, hok]; done)), below3 _ _ _ _⟩
/-- impl.GotBad. -/
theorem implGotBad (s g : Int) (w : World) :
    Calls Tryz.prog 199 #[cV s g] w fun e w' => e = .returned (cV (gwA s g) (gbB s g)) ∧ Below w.heap.size w w' := by
  go_enter Tryz.func199, Tryz.ntmps199
  go_wp2_with fail
  refine (implCountOk _ _ _).mono ?_
  rintro e w' ⟨rfl, rfl⟩
  cases hok : cOk s g with
  | false =>
    go_wp2
    refine bodyPost_ret (v := cV 0 0) (by simp [results, Tryz.results199, go_sem]) rfl ⟨cV_int (by first | (simp only [gwA, hok, reduceIte]; done) | (simp only [gwA, hok, reduceIte]; omega) | (simp [gwA, hok]; done)) (by first | (simp only [gbB, hok, reduceIte]; done) | (simp only [gbB, hok, reduceIte]; omega) | (simp [gbB, hok]; done)), below3 _ _ _ _⟩
  | true =>
    have hb := cOk_iff.1 hok
    by_cases h0 : g + 1 < 1000
    · go_wp2
      refine bodyPost_ret (v := cV s (g + 1)) (by simp [results, Tryz.results199, go_sem]) rfl ⟨cV_int (by first | (simp only [gwA, hok, reduceIte]; done) | (simp only [gwA, hok, reduceIte]; omega) | (simp [gwA, hok]; done)) (by first | (simp only [gbB, hok, reduceIte]; done) | (simp only [gbB, hok, reduceIte]; omega) | (simp [gbB, hok]; done)), below3 _ _ _ _⟩
    by_cases h1 : g + 1 = 1000
    · go_wp2
      refine bodyPost_ret (v := cV s 1000) (by simp [results, Tryz.results199, go_sem]) rfl ⟨cV_int (by first | (simp only [gwA, hok, reduceIte]; done) | (simp only [gwA, hok, reduceIte]; omega) | (simp [gwA, hok]; done)) (by first | (simp only [gbB, hok, reduceIte]; done) | (simp only [gbB, hok, reduceIte]; omega) | (simp [gbB, hok]; done)), below3 _ _ _ _⟩
    · go_wp2
      refine bodyPost_ret (v := cV s 1000) (by simp [results, Tryz.results199, go_sem]) rfl ⟨cV_int (by first | (simp only [gwA, hok, reduceIte]; done) | (simp only [gwA, hok, reduceIte]; omega) | (simp [gwA, hok]; done)) (by first | (simp only [gbB, hok, reduceIte]; done) | (simp only [gbB, hok, reduceIte]; omega) | (simp [gbB, hok]; done)), below3 _ _ _ _⟩
/-- spec.SentWell. -/
theorem specSentWell (s g : Int) (w : World) :
    Calls Tryz.prog 214 #[cV s g] w fun e w' => e = .returned (cV (swA s g) (swB s g)) ∧ Below w.heap.size w w' := by
  go_enter Tryz.func214, Tryz.ntmps214
  go_wp2_with fail
  refine (specCountOk _ _ _).mono ?_
  rintro e w' ⟨rfl, rfl⟩
  cases hok : cOk s g with
  | false =>
    go_wp2
    refine bodyPost_ret (v := cV 0 0) (by simp [results, Tryz.results214, go_sem]) rfl ⟨cV_int (by first | (simp only [swA, hok, reduceIte]; done) | (simp only [swA, hok, reduceIte]; omega) | (simp [swA, hok]; done)) (by first | (simp only [swB, hok, reduceIte]; done) | (simp only [swB, hok, reduceIte]; omega) | (simp [swB, hok]; done)), below3 _ _ _ _⟩
  | true =>
    have hb := cOk_iff.1 hok
    by_cases h0 : 0 < s - 1
    · go_wp2_with fail
      refine (maxGt _ _ _ (by omega)).mono ?_
      rintro e w' ⟨rfl, rfl⟩
      go_wp2
      refine bodyPost_ret (v := cV (s - 1) g) (by simp [results, Tryz.results214, go_sem]) rfl ⟨cV_int (by first | (simp only [swA, hok, reduceIte]; done) | (simp only [swA, hok, reduceIte]; omega) | (simp [swA, hok]; done)) (by first | (simp only [swB, hok, reduceIte]; done) | (simp only [swB, hok, reduceIte]; omega) | (simp [swB, hok]; done)), below3 _ _ _ _⟩
    by_cases h1 : 0 < s
    · go_wp2_with fail
      refine (maxLe _ _ _ (by omega)).mono ?_
      rintro e w' ⟨rfl, rfl⟩
      go_wp2
      refine bodyPost_ret (v := cV 0 g) (by simp [results, Tryz.results214, go_sem]) rfl ⟨cV_int (by first | (simp only [swA, hok, reduceIte]; done) | (simp only [swA, hok, reduceIte]; omega) | (simp [swA, hok]; done)) (by first | (simp only [swB, hok, reduceIte]; done) | (simp only [swB, hok, reduceIte]; omega) | (simp [swB, hok]; done)), below3 _ _ _ _⟩
    · go_wp2_with fail
      refine (maxLe _ _ _ (by omega)).mono ?_
      rintro e w' ⟨rfl, rfl⟩
      go_wp2
      refine bodyPost_ret (v := cV 0 g) (by simp [results, Tryz.results214, go_sem]) rfl ⟨cV_int (by first | (simp only [swA, hok, reduceIte]; done) | (simp only [swA, hok, reduceIte]; omega) | (simp [swA, hok]; done)) (by first | (simp only [swB, hok, reduceIte]; done) | (simp only [swB, hok, reduceIte]; omega) | (simp [swB, hok]; done)), below3 _ _ _ _⟩
/-- spec.GotWell. -/
theorem specGotWell (s g : Int) (w : World) :
    Calls Tryz.prog 249 #[cV s g] w fun e w' => e = .returned (cV (gwA s g) (gwB s g)) ∧ Below w.heap.size w w' := by
  go_enter Tryz.func249, Tryz.ntmps249
  go_wp2_with fail
  refine (specCountOk _ _ _).mono ?_
  rintro e w' ⟨rfl, rfl⟩
  cases hok : cOk s g with
  | false =>
    go_wp2
    refine bodyPost_ret (v := cV 0 0) (by simp [results, Tryz.results249, go_sem]) rfl ⟨cV_int (by first | (simp only [gwA, hok, reduceIte]; done) | (simp only [gwA, hok, reduceIte]; omega) | (simp [gwA, hok]; done)) (by first | (simp only [gwB, hok, reduceIte]; done) | (simp only [gwB, hok, reduceIte]; omega) | (simp [gwB, hok]; done)), below3 _ _ _ _⟩
  | true =>
    have hb := cOk_iff.1 hok
    by_cases h0 : 127 < g
    · go_wp2
      refine bodyPost_ret (v := cV s 119) (by simp [results, Tryz.results249, go_sem]) rfl ⟨cV_int (by first | (simp only [gwA, hok, reduceIte]; done) | (simp only [gwA, hok, reduceIte]; omega) | (simp [gwA, hok]; done)) (by first | (simp only [gwB, hok, reduceIte]; done) | (simp only [gwB, hok, reduceIte]; omega) | (simp [gwB, hok]; done)), below3 _ _ _ _⟩
    by_cases h1 : 0 < g - 1
    · go_wp2_with fail
      refine (maxGt _ _ _ (by omega)).mono ?_
      rintro e w' ⟨rfl, rfl⟩
      go_wp2
      refine bodyPost_ret (v := cV s (g - 1)) (by simp [results, Tryz.results249, go_sem]) rfl ⟨cV_int (by first | (simp only [gwA, hok, reduceIte]; done) | (simp only [gwA, hok, reduceIte]; omega) | (simp [gwA, hok]; done)) (by first | (simp only [gwB, hok, reduceIte]; done) | (simp only [gwB, hok, reduceIte]; omega) | (simp [gwB, hok]; done)), below3 _ _ _ _⟩
    by_cases h2 : 0 < g
    · go_wp2_with fail
      refine (maxLe _ _ _ (by omega)).mono ?_
      rintro e w' ⟨rfl, rfl⟩
      go_wp2
      refine bodyPost_ret (v := cV s 0) (by simp [results, Tryz.results249, go_sem]) rfl ⟨cV_int (by first | (simp only [gwA, hok, reduceIte]; done) | (simp only [gwA, hok, reduceIte]; omega) | (simp [gwA, hok]; done)) (by first | (simp only [gwB, hok, reduceIte]; done) | (simp only [gwB, hok, reduceIte]; omega) | (simp [gwB, hok]; done)), below3 _ _ _ _⟩
    · go_wp2_with fail
      refine (maxLe _ _ _ (by omega)).mono ?_
      rintro e w' ⟨rfl, rfl⟩
      go_wp2
      refine bodyPost_ret (v := cV s 0) (by simp [results, Tryz.results249, go_sem]) rfl ⟨cV_int (by first | (simp only [gwA, hok, reduceIte]; done) | (simp only [gwA, hok, reduceIte]; omega) | (simp [gwA, hok]; done)) (by first | (simp only [gwB, hok, reduceIte]; done) | (simp only [gwB, hok, reduceIte]; omega) | (simp [gwB, hok]; done)), below3 _ _ _ _⟩
/-- spec.SentBad. -/
theorem specSentBad (s g : Int) (w : World) :
    Calls Tryz.prog 245 #[cV s g] w fun e w' => e = .returned (cV (sbA s g) (swB s g)) ∧ Below w.heap.size w w' := by
  go_enter Tryz.func245, Tryz.ntmps245
  go_wp2_with fail
  refine (specCountOk _ _ _).mono ?_
  rintro e w' ⟨rfl, rfl⟩
  cases hok : cOk s g with
  | false =>
    go_wp2
    refine bodyPost_ret (v := cV 0 0) (by simp [results, Tryz.results245, go_sem]) rfl ⟨cV_int (by first | (simp only [sbA, hok, reduceIte]; done) | (simp only [sbA, hok, reduceIte]; omega) | (simp [sbA, hok]; done)) (by first | (simp only [swB, hok, reduceIte]; done) | (simp only [swB, hok, reduceIte]; omega) | (simp [swB, hok]; done)), below3 _ _ _ _⟩
  | true =>
    have hb := cOk_iff.1 hok
    by_cases h0 : s + 8 < 1000
    · go_wp2_with fail
      refine (minLt _ _ _ (by omega)).mono ?_
      rintro e w' ⟨rfl, rfl⟩
      go_wp2
      refine bodyPost_ret (v := cV (s + 8) g) (by simp [results, Tryz.results245, go_sem]) rfl ⟨cV_int (by first | (simp only [sbA, hok, reduceIte]; done) | (simp only [sbA, hok, reduceIte]; omega) | (simp [sbA, hok]; done)) (by first | (simp only [swB, hok, reduceIte]; done) | (simp only [swB, hok, reduceIte]; omega) | (simp [swB, hok]; done)), below3 _ _ _ _⟩
    by_cases h1 : s + 8 = 1000
    · go_wp2_with fail
      refine (minGe _ _ _ (by omega)).mono ?_
      rintro e w' ⟨rfl, rfl⟩
      go_wp2
      refine bodyPost_ret (v := cV 1000 g) (by simp [results, Tryz.results245, go_sem]) rfl ⟨cV_int (by first | (simp only [sbA, hok, reduceIte]; done) | (simp only [sbA, hok, reduceIte]; omega) | (simp [sbA, hok]; done)) (by first | (simp only [swB, hok, reduceIte]; done) | (simp only [swB, hok, reduceIte]; omega) | (simp [swB, hok]; done)), below3 _ _ _ _⟩
    · go_wp2_with fail
      refine (minGe _ _ _ (by omega)).mono ?_
      rintro e w' ⟨rfl, rfl⟩
      go_wp2
      refine bodyPost_ret (v := cV 1000 g) (by simp [results, Tryz.results245, go_sem]) rfl ⟨cV_int (by first | (simp only [sbA, hok, reduceIte]; done) | (simp only [sbA, hok, reduceIte]; omega) | (simp [sbA, hok]; done)) (by first | (simp only [swB, hok, reduceIte]; done) | (simp only [swB, hok, reduceIte]; omega) | (simp [swB, hok]; done)), below3 _ _ _ _⟩
/-- spec.GotBad. -/
theorem specGotBad (s g : Int) (w : World) :
    Calls Tryz.prog 246 #[cV s g] w fun e w' => e = .returned (cV (gwA s g) (gbB s g)) ∧ Below w.heap.size w w' := by
  go_enter Tryz.func246, Tryz.ntmps246
  go_wp2_with fail
  refine (specCountOk _ _ _).mono ?_
  rintro e w' ⟨rfl, rfl⟩
  cases hok : cOk s g with
  | false =>
    go_wp2
    refine bodyPost_ret (v := cV 0 0) (by simp [results, Tryz.results246, go_sem]) rfl ⟨cV_int (by first | (simp only [gwA, hok, reduceIte]; done) | (simp only [gwA, hok, reduceIte]; omega) | (simp [gwA, hok]; done)) (by first | (simp only [gbB, hok, reduceIte]; done) | (simp only [gbB, hok, reduceIte]; omega) | (simp [gbB, hok]; done)), below3 _ _ _ _⟩
  | true =>
    have hb := cOk_iff.1 hok
    by_cases h0 : g + 1 < 1000
    · go_wp2_with fail
      refine (minLt _ _ _ (by omega)).mono ?_
      rintro e w' ⟨rfl, rfl⟩
      go_wp2
      refine bodyPost_ret (v := cV s (g + 1)) (by simp [results, Tryz.results246, go_sem]) rfl ⟨cV_int (by first | (simp only [gwA, hok, reduceIte]; done) | (simp only [gwA, hok, reduceIte]; omega) | (simp [gwA, hok]; done)) (by first | (simp only [gbB, hok, reduceIte]; done) | (simp only [gbB, hok, reduceIte]; omega) | (simp [gbB, hok]; done)), below3 _ _ _ _⟩
    by_cases h1 : g + 1 = 1000
    · go_wp2_with fail
      refine (minGe _ _ _ (by omega)).mono ?_
      rintro e w' ⟨rfl, rfl⟩
      go_wp2
      refine bodyPost_ret (v := cV s 1000) (by simp [results, Tryz.results246, go_sem]) rfl ⟨cV_int (by first | (simp only [gwA, hok, reduceIte]; done) | (simp only [gwA, hok, reduceIte]; omega) | (simp [gwA, hok]; done)) (by first | (simp only [gbB, hok, reduceIte]; done) | (simp only [gbB, hok, reduceIte]; omega) | (simp [gbB, hok]; done)), below3 _ _ _ _⟩
    · go_wp2_with fail
      refine (minGe _ _ _ (by omega)).mono ?_
      rintro e w' ⟨rfl, rfl⟩
      go_wp2
      refine bodyPost_ret (v := cV s 1000) (by simp [results, Tryz.results246, go_sem]) rfl ⟨cV_int (by first | (simp only [gwA, hok, reduceIte]; done) | (simp only [gwA, hok, reduceIte]; omega) | (simp [gwA, hok]; done)) (by first | (simp only [gbB, hok, reduceIte]; done) | (simp only [gbB, hok, reduceIte]; omega) | (simp [gbB, hok]; done)), below3 _ _ _ _⟩
/-- laws.toCount. -/
theorem toCnt (s g : Int) (w : World) :
    Calls Tryz.prog 129 #[cV s g] w fun e w' => e = .returned (cV s g) ∧ Below w.heap.size w w' := by
  go_enter Tryz.func129, Tryz.ntmps129
  go_wp2
  exact bodyPost_ret (v := cV s g) (by simp [results, Tryz.results129, go_sem]) rfl ⟨rfl, below3 _ _ _ _⟩
/-- laws.eqCount, of two that are the same. -/
theorem eqCnt (s g : Int) (w : World) :
    Calls Tryz.prog 133 #[cV s g, cV s g] w fun e w' => e = .returned (.bool true) ∧ Below w.heap.size w w' := by
  go_enter Tryz.func133, Tryz.ntmps133
  go_wp2
  go_ret
  exact ⟨rfl, below2 _ _ _⟩
end Go.Proofs.YtngcekegngmedaaGreatDoor
