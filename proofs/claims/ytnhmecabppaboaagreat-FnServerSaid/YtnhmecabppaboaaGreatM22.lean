/- The methods of the contest (a slice of ranks and places behind a pointer), called through an interface. -/
import Derived.Test.YtnhmecabppaboaaGreatM3
import Derived.Test.YtnhmecabppaboaaGreatM5
import Derived.Test.YtnhmecabppaboaaGreatM13
import Derived.WalkKit
import Derived.Deep.RegionWith
import Derived.Deep.CutRange
import Derived.Deep.AppendLies

set_option linter.unusedVariables false
set_option maxRecDepth 20000
namespace Go.Proofs.YtnhmecabppaboaaGreat
open Go.RowKit

theorem look_box (p : Nat) (a : Option Addr) (n c : Nat) (w : World) (hc : w.cell? ⟨p, 0, none⟩ = some (.slice a n c)) :
    (loadVar 119 ⟨p, 0, none⟩).run Tryz.prog w = .ok (.slice a n c) w := by
  simp [loadVar, go_sem, hc]
section
variable (p : Nat) (a : Option Addr) (n c : Nat) (w : World) (hc : w.cell? ⟨p, 0, none⟩ = some (.slice a n c))
include hc
theorem mLess : (Go.method 277 117 (.pointer (some ⟨p, 0, none⟩)) "Less").run Tryz.prog w = .ok (162, .slice a n c) w := by
  have e : (Go.method 277 117 (.pointer (some ⟨p, 0, none⟩)) "Less").run Tryz.prog w =
      (do let x ← loadVar 119 ⟨p, 0, none⟩; pure (162, x) : Sem (FuncId × Value)).run Tryz.prog w := by kernel_rfl
  rw [e]
  simp [go_sem, hc]
theorem mLen : (Go.method 277 117 (.pointer (some ⟨p, 0, none⟩)) "Len").run Tryz.prog w = .ok (103, .slice a n c) w := by
  have e : (Go.method 277 117 (.pointer (some ⟨p, 0, none⟩)) "Len").run Tryz.prog w =
      (do let x ← loadVar 119 ⟨p, 0, none⟩; pure (103, x) : Sem (FuncId × Value)).run Tryz.prog w := by kernel_rfl
  rw [e]
  simp [go_sem, hc]
theorem mSwap : (Go.method 277 117 (.pointer (some ⟨p, 0, none⟩)) "Swap").run Tryz.prog w = .ok (165, .slice a n c) w := by
  have e : (Go.method 277 117 (.pointer (some ⟨p, 0, none⟩)) "Swap").run Tryz.prog w =
      (do let x ← loadVar 119 ⟨p, 0, none⟩; pure (165, x) : Sem (FuncId × Value)).run Tryz.prog w := by kernel_rfl
  rw [e]
  simp [go_sem, hc]
end
theorem mPush (p : Nat) (w : World) :
    (Go.method 277 117 (.pointer (some ⟨p, 0, none⟩)) "Push").run Tryz.prog w = .ok (164, .pointer (some ⟨p, 0, none⟩)) w := by kernel_rfl
theorem mPop (p : Nat) (w : World) :
    (Go.method 277 117 (.pointer (some ⟨p, 0, none⟩)) "Pop").run Tryz.prog w = .ok (163, .pointer (some ⟨p, 0, none⟩)) w := by kernel_rfl

/-- Who goes first: the lesser rank; of one rank, the lesser place. -/
def ltE (a b : Int × Int) : Bool := if a.1 = b.1 then decide (a.2 < b.2) else decide (a.1 < b.1)

/-- (contest).Len. -/
theorem cLen (a : Option Addr) (n c : Nat) (w : World) (hn : n ≤ maxLen) :
    Calls Tryz.prog 103 #[.slice a n c] w fun e w' => e = .returned (.int .i64 n) ∧ w' = w := by
  unfold maxLen at hn
  go_enter Tryz.func103, Tryz.ntmps103
  go_wp2
  go_ret
  exact ⟨rfl, rfl⟩

/-- (contest).Less, at the cells themselves. -/
theorem cLess (g n c i j : Nat) (x0 x1 y0 y1 : Int) (w : World) (hi : i < n) (hj : j < n) (hn : n ≤ maxLen)
    (i0 : w.cell? ⟨g, i * 2, none⟩ = some (.int .i64 x0)) (i1 : w.cell? ⟨g, i * 2 + 1, none⟩ = some (.int .i64 x1))
    (j0 : w.cell? ⟨g, j * 2, none⟩ = some (.int .i64 y0)) (j1 : w.cell? ⟨g, j * 2 + 1, none⟩ = some (.int .i64 y1)) :
    Calls Tryz.prog 162 #[.slice (some ⟨g, 0, none⟩) n c, .int .i64 i, .int .i64 j] w fun e w' => e = .returned (.bool (ltE (x0, x1) (y0, y1))) ∧ Below w.heap.size w w' := by
  unfold maxLen at hn
  have hi' : (i : Int) < n := by omega
  have hj' : (j : Int) < n := by omega
  by_cases h : x0 = y0
  · subst h
    have HV := Lib.hid (show ltE (x0, x1) (x0, y1) = decide (x1 < y1) by simp [ltE])
    go_enter Tryz.func162, Tryz.ntmps162
    go_wp2
    go_quiet (fail)
    go_wp2
    go_quiet (fail)
    go_wp2
    go_ret
    exact ⟨by rw [HV.out]; rfl, belowN (belowN (Below.refl _ _) _) _⟩
  · have HV := Lib.hid (show ltE (x0, x1) (y0, y1) = decide (x0 < y0) by simp [ltE, h])
    go_enter Tryz.func162, Tryz.ntmps162
    go_wp2
    go_quiet (fail)
    go_wp2
    go_quiet (fail)
    go_wp2
    go_ret
    exact ⟨by rw [HV.out]; rfl, belowN (belowN (Below.refl _ _) _) _⟩

/-! ### Rows of ranks and places. -/
def nthHp (E : List (Int × Int)) (i : Nat) : Int × Int := E.getD i (0, 0)
def flatHp (E : List (Int × Int)) : List Value := E.flatMap fun e => [.int .i64 e.1, .int .i64 e.2]
theorem flatHp_len (E : List (Int × Int)) : (flatHp E).length = E.length * 2 := by
  induction E with
  | nil => rfl
  | cons e E ih => simp [flatHp] at ih ⊢; omega
theorem flatHp_at : ∀ (E : List (Int × Int)) (i : Nat), i < E.length → (flatHp E)[i * 2]? = some (.int .i64 (nthHp E i).1) ∧ (flatHp E)[i * 2 + 1]? = some (.int .i64 (nthHp E i).2) := by
  intro E
  induction E with
  | nil => intro i hi; simp at hi
  | cons e E ih =>
    intro i hi
    cases i with
    | zero => exact ⟨rfl, rfl⟩
    | succ i =>
      have h := ih i (by simpa using hi)
      have e1 : (i + 1) * 2 = i * 2 + 1 + 1 := by omega
      rw [e1]
      simpa [flatHp, nthHp] using h
theorem flatE_set : ∀ (E : List (Int × Int)) (i : Nat) (a b : Int), i < E.length → flatHp (E.set i (a, b)) = ((flatHp E).set (i * 2) (.int .i64 a)).set (i * 2 + 1) (.int .i64 b) := by
  intro E
  induction E with
  | nil => intro i a b hi; simp at hi
  | cons e E ih =>
    intro i a b hi
    cases i with
    | zero => rfl
    | succ i =>
      have h := ih i a b (by simpa using hi)
      have e1 : (i + 1) * 2 = i * 2 + 1 + 1 := by omega
      rw [e1]
      simpa [flatHp] using h
theorem flatE_app (E : List (Int × Int)) (x : Int × Int) : flatHp (E ++ [x]) = flatHp E ++ [.int .i64 x.1, .int .i64 x.2] := by simp [flatHp]
def swapE (E : List (Int × Int)) (i j : Nat) : List (Int × Int) := (E.set i (nthHp E j)).set j (nthHp E i)
theorem swapE_len (E : List (Int × Int)) (i j : Nat) : (swapE E i j).length = E.length := by simp [swapE]
theorem nthE_set {E : List (Int × Int)} {i : Nat} (x : Int × Int) (hi : i < E.length) (k : Nat) : nthHp (E.set i x) k = if k = i then x else nthHp E k := by
  unfold nthHp
  rw [List.getD_eq_getElem?_getD, List.getD_eq_getElem?_getD, List.getElem?_set]
  by_cases h : i = k
  · subst h; simp [hi]
  · rw [if_neg h, if_neg (fun e => h e.symm)]
theorem swapE_at {E : List (Int × Int)} {i j : Nat} (hi : i < E.length) (hj : j < E.length) (k : Nat) : nthHp (swapE E i j) k = if k = j then nthHp E i else if k = i then nthHp E j else nthHp E k := by
  unfold swapE
  rw [nthE_set _ (by simpa using hj), nthE_set _ hi]

theorem owns_set {B e size g n cap : Nat} {xs : List Value} {w : World} (h : w.ownsRow B e size (.slice (some ⟨g, 0, none⟩) n cap) n xs) (k : Nat) (u : Value) :
    (w.setCell ⟨g, k, none⟩ u).ownsRow B e size (.slice (some ⟨g, 0, none⟩) n cap) n (xs.set k u) := by
  refine ⟨by rw [List.length_set]; exact h.1, ?_⟩
  rcases h.2 with ⟨h', _⟩ | ⟨g', cap', cur, h', hb, hg, hle, hm, hs, ht⟩
  · simp at h'
  · simp only [Value.slice.injEq, Option.some.injEq, Addr.mk.injEq, and_true, true_and] at h'
    obtain ⟨rfl, rfl⟩ := h'
    refine .inr ⟨g, cap, cur.setIfInBounds k u, rfl, hb, heap_setCell_same _ _ _ _ _ _ hg, hle, hm, by simpa using hs, ?_⟩
    rw [Array.toList_setIfInBounds, List.take_set, ht]

/-- The slice v, in a row of the call's own, holds the ranks and places E. -/
def OwnHp (B : Nat) (E : List (Int × Int)) (v : Value) (w : World) : Prop := w.ownsRow B 122 2 v E.length (flatHp E)
section
variable {B : Nat} {E : List (Int × Int)} {v : Value} {w w' : World}
theorem OwnHp.kept {row : Option Nat} (h : OwnHp B E v w) (k : w.grownBy w' row) (hne : v.ownBlock = none ∨ v.ownBlock ≠ row) : OwnHp B E v w' := World.ownsRow.kept h k hne
theorem OwnHp.below (h : OwnHp B E v w) (b : Below w.heap.size w w') : OwnHp B E v w' :=
  h.kept (row := none) ⟨b.os, b.tape, b.output, b.size, fun k hk _ => b.block k hk⟩ (by cases v.ownBlock <;> simp)
theorem OwnHp.is (h : OwnHp B E v w) : ∃ a c, v = .slice a E.length c ∧ E.length ≤ maxLen := by
  rcases h.2 with ⟨rfl, hn⟩ | ⟨g, cap, cur, rfl, _, _, hle, hm, _⟩
  · exact ⟨none, 0, by rw [hn], by rw [hn]; exact Nat.zero_le _⟩
  · exact ⟨_, cap, rfl, Nat.le_trans hle hm⟩
theorem OwnHp.open (h : OwnHp B E v w) (hne : 0 < E.length) : ∃ g c, v = .slice (some ⟨g, 0, none⟩) E.length c ∧ B ≤ g ∧ g < w.heap.size ∧ E.length ≤ c ∧ c ≤ maxLen ∧ (∀ k, w.frozen? ⟨g, k, none⟩ = false) ∧
    ∀ i, i < E.length → w.cell? ⟨g, i * 2, none⟩ = some (.int .i64 (nthHp E i).1) ∧ w.cell? ⟨g, i * 2 + 1, none⟩ = some (.int .i64 (nthHp E i).2) := by
  have h0 := h
  rcases h.2 with ⟨rfl, hn⟩ | ⟨g, cap, cur, rfl, hb, hg, hle, hm, _⟩
  · omega
  · have hl := h0.lt g rfl
    refine ⟨g, cap, rfl, hb, hl.2, hle, hm, fun k => frozen_of_row w g k _ _ hg, fun i hi => ?_⟩
    have hf := flatHp_at E i hi
    exact ⟨(h0.cellAt _ (by omega)).trans hf.1, (h0.cellAt _ (by omega)).trans hf.2⟩
theorem OwnHp.ne_box {p : Nat} {u : Value} (h : OwnHp B E v w) (k : w.heap[p]? = some (.cells #[u] 119 (0, 0))) : v.ownBlock ≠ some p := by
  rcases h.2 with ⟨rfl, _⟩ | ⟨g', cap, cur, rfl, _, hg, _⟩
  · simp [Value.ownBlock]
  · intro e
    simp only [Value.ownBlock, Option.some.injEq] at e
    subst e
    rw [k] at hg
    simp at hg
end

/-- The contest: a box at block p, its row, and what was there when the call began. -/
structure HS (w0 : World) (p : Nat) (E : List (Int × Int)) (v : Value) (w : World) : Prop where
  box : w.heap[p]? = some (.cells #[v] 119 (0, 0))
  own : OwnHp w0.heap.size E v w
  bel : Below w0.heap.size w0 w
  low : w0.heap.size ≤ p
section
variable {w0 : World} {p : Nat} {E : List (Int × Int)} {v : Value} {w w' : World}
theorem HS.lt (h : HS w0 p E v w) : p < w.heap.size := (Array.getElem?_eq_some_iff.1 h.box).1
theorem HS.below (h : HS w0 p E v w) (b : Below w.heap.size w w') : HS w0 p E v w' := ⟨(b.block p h.lt).trans h.box, h.own.below b, Below.then2 h.bel b, h.low⟩
theorem HS.alloc (h : HS w0 p E v w) (o : Obj) : HS w0 p E v (w.alloc o) := h.below ((Below.refl _ _).alloc (Nat.le_refl _) _)
theorem HS.drewN (h : HS w0 p E v w) (n : Nat) : HS w0 p E v (w.drewN n) := h.below (belowN (Below.refl _ _) n)
theorem HS.drew (h : HS w0 p E v w) : HS w0 p E v w.drew := h.below (Below.drew (Below.refl _ _))
theorem HS.cell (h : HS w0 p E v w) : w.cell? ⟨p, 0, none⟩ = some v := cell_of_row w p 0 _ _ _ h.box
theorem HS.free (h : HS w0 p E v w) : w.frozen? ⟨p, 0, none⟩ = false := frozen_of_row w p 0 _ _ h.box
/-- Behind an append: the box is told the new slice. -/
theorem HS.put {E' : List (Int × Int)} {v' : Value} (h : HS w0 p E v w) (o : OwnHp w0.heap.size E' v' w') (g : w.grownBy w' v.ownBlock) : HS w0 p E' v' (w'.setCell ⟨p, 0, none⟩ v') := by
  have hb : w'.heap[p]? = some (.cells #[v] 119 (0, 0)) := (g.block p h.lt (h.own.ne_box h.box).symm).trans h.box
  have bel : Below w0.heap.size w0 w' := h.bel.grown g h.bel.size (fun k e => (h.own.lt k e).1)
  exact ⟨heap_setCell_same _ _ _ _ _ _ hb, o.kept (grown_set _ _ _ _) (.inr (o.ne_box hb)), bel.setCell h.low _, h.low⟩
theorem HS.after (h : HS w0 p E v w) (g : w.grownBy w' v.ownBlock) : w'.cell? ⟨p, 0, none⟩ = some v ∧ w'.frozen? ⟨p, 0, none⟩ = false := by
  have hb : w'.heap[p]? = some (.cells #[v] 119 (0, 0)) := (g.block p h.lt (h.own.ne_box h.box).symm).trans h.box
  exact ⟨cell_of_row w' p 0 _ _ _ hb, frozen_of_row w' p 0 _ _ hb⟩
/-- A swap of two elements. -/
theorem HS.swap {g c i j : Nat} (h : HS w0 p E (.slice (some ⟨g, 0, none⟩) E.length c) w) (hi : i < E.length) (hj : j < E.length) :
    HS w0 p (swapE E i j) (.slice (some ⟨g, 0, none⟩) E.length c)
      ((((w.setCell ⟨g, i * 2, none⟩ (.int .i64 (nthHp E j).1)).setCell ⟨g, i * 2 + 1, none⟩ (.int .i64 (nthHp E j).2)).setCell ⟨g, j * 2, none⟩ (.int .i64 (nthHp E i).1)).setCell ⟨g, j * 2 + 1, none⟩ (.int .i64 (nthHp E i).2)) := by
  have hg := h.own.lt g rfl
  have hne := h.own.ne_box h.box
  simp only [Value.ownBlock, ne_eq, Option.some.injEq] at hne
  refine ⟨?_, ?_, (((h.bel.setCell hg.1 _).setCell hg.1 _).setCell hg.1 _).setCell hg.1 _, h.low⟩
  · rw [heap_setCell_other _ _ _ _ (fun e => hne e.symm), heap_setCell_other _ _ _ _ (fun e => hne e.symm), heap_setCell_other _ _ _ _ (fun e => hne e.symm), heap_setCell_other _ _ _ _ (fun e => hne e.symm)]
    exact h.box
  · unfold OwnHp
    rw [swapE_len, swapE, flatE_set _ _ _ _ (by simpa using hj), flatE_set _ _ _ _ hi]
    exact owns_set (owns_set (owns_set (owns_set h.own _ _) _ _) _ _) _ _
end

/-- (contest).Less. -/
theorem hLess {w0 : World} {p : Nat} {E : List (Int × Int)} {v : Value} {w : World} (h : HS w0 p E v w) (i j : Nat) (hi : i < E.length) (hj : j < E.length) :
    Calls Tryz.prog 162 #[v, .int .i64 i, .int .i64 j] w fun e w' => e = .returned (.bool (ltE (nthHp E i) (nthHp E j))) ∧ Below w.heap.size w w' := by
  obtain ⟨g, c, rfl, _, _, hc, hm, _, hcell⟩ := h.own.open (by omega)
  exact cLess g E.length c i j _ _ _ _ w hi hj (Nat.le_trans hc hm) (hcell i hi).1 (hcell i hi).2 (hcell j hj).1 (hcell j hj).2

/-- (contest).Swap. -/
theorem hSwap {w0 : World} {p : Nat} {E : List (Int × Int)} {v : Value} {w : World} (h : HS w0 p E v w) (i j : Nat) (hi : i < E.length) (hj : j < E.length) :
    Calls Tryz.prog 165 #[v, .int .i64 i, .int .i64 j] w fun e w' => e = .returned (.tuple #[]) ∧ HS w0 p (swapE E i j) v w' := by
  obtain ⟨g, c, rfl, _, _, hc, hm, hfr, hcell⟩ := h.own.open (by omega)
  have hn : E.length ≤ maxLen := Nat.le_trans hc hm
  unfold maxLen at hn
  have hi' : (i : Int) < E.length := by omega
  have hj' : (j : Int) < E.length := by omega
  have S := (h.swap hi hj).drew
  obtain ⟨i0, i1⟩ := hcell i hi
  obtain ⟨j0, j1⟩ := hcell j hj
  have f0 := hfr (i * 2)
  have f1 := hfr (i * 2 + 1)
  have f2 := hfr (j * 2)
  have f3 := hfr (j * 2 + 1)
  clear hcell hfr
  by_cases hij : i = j
  · subst hij
    generalize (nthHp E i).1 = x0 at *
    generalize (nthHp E i).2 = x1 at *
    go_enter Tryz.func165, Tryz.ntmps165
    go_wp2
    go_region
    all_goals
      go_end0
      exact ⟨rfl, S⟩
  · have n0 : i * 2 ≠ j * 2 := by omega
    have n1 : j * 2 ≠ i * 2 := by omega
    generalize (nthHp E i).1 = x0 at *
    generalize (nthHp E i).2 = x1 at *
    generalize (nthHp E j).1 = y0 at *
    generalize (nthHp E j).2 = y1 at *
    go_enter Tryz.func165, Tryz.ntmps165
    go_wp2
    go_region
    all_goals
      go_end0
      exact ⟨rfl, S⟩

theorem infoHp : (Tryz.prog.info? 122).map (fun i => (i.zero, i.size, i.bytes)) = some (some (.agg #[.int .i64 0, .int .i64 0]), 2, 16) := by kernel_rfl
/-- 'append' of one rank and place: at a step of a region that draws its order. -/
theorem step_appE {ops : Array Oper} {o : Oper} {a : Act} {w : World} {K : Act → World → Prop} {Q : Exit → Act → World → Prop} {F : Prop} (hgd : o.guard = none) (s x : Operand)
    (ho : o.op = .call { callee := .builtin .append, args := #[s, x], argTypes := #[119, 119] })
    (Bn : Nat) (E : List (Int × Int)) (z0 z1 : Int) (v : Value) (hs : a.eval s = v) (hown : OwnHp Bn E v w) (g1 c1 : Nat) (hx : a.eval x = .slice (some ⟨g1, 0, none⟩) 1 c1)
    (hc0 : w.cell? ⟨g1, 0, none⟩ = some (.int .i64 z0)) (hc1 : w.cell? ⟨g1, 1, none⟩ = some (.int .i64 z1)) (hsz : E.length ≤ 10000000) (hB : Bn ≤ w.heap.size)
    (h : ∀ av cv w', OwnHp Bn (E ++ [(z0, z1)]) (.slice av (E.length + 1) cv) w' → w.grownBy w' v.ownBlock → K (a.put o.dst (.slice av (E.length + 1) cv)) w') :
    if Region.wanted o (yielded ops a.tmps) = true then Oper.wp Tryz.prog o a w K Q else F := by
  have hw : Region.wanted o (yielded ops a.tmps) = true := by simp [Region.wanted, hgd]
  rw [if_pos hw]
  obtain ⟨i0, hi, hz0, hz1, hz2⟩ := info_parts infoHp
  obtain ⟨v', w', hr, h2, h3, h4⟩ := run_append_own (P := Tryz.prog) w Bn 119 o.type 122 i0 (.agg #[.int .i64 0, .int .i64 0]) 2 16 Tryz.underlying119 hi hz0 hz1 hz2 rfl (by decide)
    v E.length (flatHp E) hown ⟨g1, 0, none⟩ 1 c1 [.int .i64 z0, .int .i64 z1] rfl
    (fun j u hu => by
      match j, hu with
      | 0, hu => simp at hu; subst hu; exact hc0
      | 1, hu => simp at hu; subst hu; exact hc1) (fun u hu => by simp at hu; rcases hu with rfl | rfl <;> rfl) (by unfold maxLen; omega) (by omega) hB
  have hown' : OwnHp Bn (E ++ [(z0, z1)]) v' w' := by
    unfold OwnHp
    rw [flatE_app, List.length_append, List.length_singleton]; exact h2
  obtain ⟨av, cv, rfl, _⟩ := hown'.is
  unfold Oper.wp
  simp [execOp, ho, resolve, invoke, builtin, hs, hx, hr, Result.andThen]
  rw [List.length_append, List.length_singleton] at hown'
  exact h av cv w' hown' h3

/-- ( *contest).Push. -/
theorem hPush {w0 : World} {p : Nat} {E : List (Int × Int)} {v : Value} {w : World} (h : HS w0 p E v w) (z0 z1 : Int) (hsz : E.length ≤ 10000000) :
    Calls Tryz.prog 164 #[.pointer (some ⟨p, 0, none⟩), .iface 122 (.agg #[.int .i64 z0, .int .i64 z1])] w fun e w' =>
      e = .returned (.tuple #[]) ∧ ∃ v', HS w0 p (E ++ [(z0, z1)]) v' w' := by
  obtain ⟨a, c, rfl, hm⟩ := h.own.is
  have c0 := h.cell
  have c1 := h.drew.cell
  have ta : ∀ W, (Instr.typeAssert (.iface 122 (.agg #[.int .i64 z0, .int .i64 z1])) 20 122 false).run Tryz.prog W = .ok (.agg #[.int .i64 z0, .int .i64 z1]) W := fun W => by kernel_rfl
  go_enter Tryz.func164, Tryz.ntmps164
  go_wp2
  have hl := h.lt
  have hb := h.bel.size
  have h1 := (h.drew).alloc (.cells #[.int .i64 z0, .int .i64 z1] 122)
  have h2 := (h.alloc (.cells #[.int .i64 z0, .int .i64 z1] 122)).drew
  have d0 := h1.cell
  have d2 := h2.cell
  go_region_law (first
    | (refine step_appE rfl (.tmp 7) (.tmp 10) rfl w0.heap.size E z0 z1 (.slice a E.length c) ?_ ?_ w.heap.size 1 ?_ ?_ ?_ ?_ ?_ ?_
       · simp [Act.eval]
       · first | exact h1.own | exact h2.own
       · simp [Act.eval]
       · exact World.cell?_alloc_at _ _ _ _ rfl
       · exact World.cell?_alloc_at _ _ _ _ rfl
       · omega
       · simp; omega
       intro av' cv' w8 own8 g8
       have S : HS w0 p (E ++ [(z0, z1)]) (.slice av' (E.length + 1) cv') (w8.setCell ⟨p, 0, none⟩ (.slice av' (E.length + 1) cv')) := by first | exact HS.put h1 own8 g8 | exact HS.put h2 own8 g8
       have A : w8.cell? ⟨p, 0, none⟩ = some (.slice a E.length c) ∧ w8.frozen? ⟨p, 0, none⟩ = false := by first | exact HS.after h1 g8 | exact HS.after h2 g8
       obtain ⟨A0, A1⟩ := A))
  all_goals
    go_wp2
    go_end0
    exact ⟨rfl, _, S⟩
end Go.Proofs.YtnhmecabppaboaaGreat

/- container/heap over the contest: up, down, Push, Pop; the first one stays the least. -/

set_option linter.unusedVariables false
namespace Go.Proofs.YtnhmecabppaboaaGreat
open Go.RowKit

theorem ltE_yes {a b : Int × Int} : ltE a b = true ↔ a.1 < b.1 ∨ (a.1 = b.1 ∧ a.2 < b.2) := by
  unfold ltE
  split
  · rename_i h; rw [decide_eq_true_eq]; omega
  · rename_i h; rw [decide_eq_true_eq]; omega
theorem ltE_no {a b : Int × Int} : ltE a b = false ↔ b.1 < a.1 ∨ (a.1 = b.1 ∧ b.2 ≤ a.2) := by
  rw [← Bool.not_eq_true, ltE_yes]; omega

def minE (x m : Int × Int) : Int × Int := if ltE x m = true then x else m
/-- On its way up: x stands at j, m is the least of the others. -/
structure Upw (m x : Int × Int) (P : Int × Int → Prop) (E : List (Int × Int)) (j : Nat) : Prop where
  lt : j < E.length
  here : nthHp E j = x
  others : ∀ i, i < E.length → i ≠ j → ltE (nthHp E i) m = false
  top : j = 0 → ltE x m = true
  root : j ≠ 0 → nthHp E 0 = m
  all : ∀ i, i < E.length → P (nthHp E i)
/-- The first one is the least. -/
structure Least (P : Int × Int → Prop) (E : List (Int × Int)) : Prop where
  least : ∀ i, i < E.length → ltE (nthHp E i) (nthHp E 0) = false
  all : ∀ i, i < E.length → P (nthHp E i)
section
variable {m x : Int × Int} {P : Int × Int → Prop} {E : List (Int × Int)} {j : Nat}
theorem Upw.done0 (h : Upw m x P E 0) : Least P E ∧ nthHp E 0 = minE x m := by
  have ht := h.top rfl
  refine ⟨⟨fun i hi => ?_, h.all⟩, by rw [minE, if_pos ht]; exact h.here⟩
  rw [h.here]
  by_cases e : i = 0
  · subst e; rw [h.here]; rw [ltE_no]; omega
  · have := h.others i hi e
    rw [ltE_no] at this ⊢
    rw [ltE_yes] at ht
    omega
theorem Upw.done (h : Upw m x P E j) (hj : j ≠ 0) (hl : ltE x (nthHp E ((j - 1) / 2)) = false) : Least P E ∧ nthHp E 0 = minE x m := by
  have hr := h.root hj
  have hx : ltE x m = false := by
    by_cases e : (j - 1) / 2 = 0
    · rw [e, hr] at hl; exact hl
    · have hlt := h.lt
      have h2 := h.others ((j - 1) / 2) (by omega) (by omega)
      rw [ltE_no] at h2 hl ⊢
      omega
  refine ⟨⟨fun i hi => ?_, h.all⟩, by rw [minE, hx]; exact hr⟩
  rw [hr]
  by_cases e : i = j
  · subst e; rw [h.here]; exact hx
  · exact h.others i hi e
theorem Upw.step (h : Upw m x P E j) (hj : j ≠ 0) (hl : ltE x (nthHp E ((j - 1) / 2)) = true) : Upw m x P (swapE E ((j - 1) / 2) j) ((j - 1) / 2) := by
  have hlt := h.lt
  have hi : (j - 1) / 2 < E.length := by omega
  have hij : (j - 1) / 2 ≠ j := by omega
  refine ⟨by rw [swapE_len]; exact hi, ?_, ?_, ?_, ?_, ?_⟩
  · rw [swapE_at hi hlt, if_neg hij, if_pos rfl]; exact h.here
  · intro i hi' hne
    rw [swapE_len] at hi'
    rw [swapE_at hi hlt]
    by_cases e : i = j
    · rw [if_pos e]; exact h.others _ hi hij
    · rw [if_neg e, if_neg hne]; exact h.others i hi' e
  · intro e; rw [e, h.root hj] at hl; exact hl
  · intro e
    rw [swapE_at hi hlt, if_neg (by omega), if_neg (fun k => e k.symm)]; exact h.root hj
  · intro i hi'
    rw [swapE_len] at hi'
    rw [swapE_at hi hlt]
    split
    · exact h.all _ hi
    · split
      · exact h.all _ hlt
      · exact h.all _ hi'
end

set_option maxRecDepth 20000 in
/-- container/heap.up. -/
theorem heapUp {w0 : World} {p : Nat} {E : List (Int × Int)} {v : Value} {w : World} (h : HS w0 p E v w) (j : Nat) (m x : Int × Int) (P : Int × Int → Prop) (U : Upw m x P E j) (hsz : E.length ≤ 10000000) :
    Calls Tryz.prog 112 #[.iface 117 (.pointer (some ⟨p, 0, none⟩)), .int .i64 j] w fun e w' =>
      e = .returned (.tuple #[]) ∧ ∃ E', HS w0 p E' v w' ∧ E'.length = E.length ∧ Least P E' ∧ nthHp E' 0 = minE x m := by
  go_enter Tryz.func112, Tryz.ntmps112
  go_wp2_with fail
  go_loopw [1] (fun i wr => ∃ (k : Nat) (F : List (Int × Int)), i = .int .i64 k ∧ F.length = E.length ∧ HS w0 p F v wr ∧ Upw m x P F k) (fun i _ => (intOf i).toNat)
  case atStart => exact ⟨j, E, rfl, rfl, h, U⟩
  case round =>
    clear h U
    obtain ⟨k, F, rfl, hF, h, U⟩ := hrel
    have hlt := U.lt
    cases k with
    | zero =>
      have D := Lib.hid U.done0
      clear U
      go_wp2
      go_end0
      exact ⟨rfl, F, h, hF, D.out⟩
    | succ k =>
      have HF := Lib.hid hF
      have hk0 : (k : Int) < 10000000 := by omega
      have hk1 : ((k : Int) / 2 == (k : Int) + 1) = false := by rw [beq_eq_false_iff_ne]; omega
      clear hF
      have e1 : ((k + 1 : Nat) : Int) = (k : Int) + 1 := by omega
      have e2 : ((k / 2 : Nat) : Int) = (k : Int) / 2 := by omega
      have hlt2 : k / 2 < F.length := by omega
      have e3 : (k + 1 - 1) / 2 = k / 2 := by simp
      have HL := hLess h (k + 1) (k / 2) hlt hlt2
      rw [e1, e2, U.here] at HL
      obtain ⟨a, c, rfl, _⟩ := h.own.is
      have ml := mLess p a F.length c wr h.cell
      cases hl : ltE x (nthHp F (k / 2)) with
      | false =>
        have D := Lib.hid (U.done (by omega) (by rw [e3]; exact hl))
        clear U e3
        rw [hl] at HL
        clear e1 e2 hl
        go_wp2_with fail
        refine HL.mono ?_
        rintro e w2 ⟨rfl, b2⟩
        replace h := h.below b2
        clear b2 HL
        go_wp2_with fail
        go_end0
        exact ⟨rfl, F, h, HF.out, D.out⟩
      | true =>
        have D := Lib.hid (U.step (by omega) (by rw [e3]; exact hl))
        rw [e3] at D
        clear U e3
        rw [hl] at HL
        have E1 := Lib.hid e1
        have E2 := Lib.hid e2
        clear hl e1 e2
        go_wp2_with fail
        refine HL.mono ?_
        rintro e w2 ⟨rfl, b2⟩
        replace h := h.below b2
        clear b2 HL ml
        have HS := hSwap h (k / 2) (k + 1) hlt2 hlt
        rw [E1.out, E2.out] at HS
        have ms := mSwap p a F.length c w2 h.cell
        go_wp2_with fail
        refine HS.mono ?_
        rintro e w3 ⟨rfl, h3⟩
        clear HS ms h
        go_wp2_with fail
        go_roundw
        case rel => exact ⟨k / 2, _, by rw [E2.out], by rw [swapE_len]; exact HF.out, h3, D.out⟩
        case measure => simp [intOf]; omega
end Go.Proofs.YtnhmecabppaboaaGreat

/- container/heap over the contest: down leaves what lies behind its part alone; Push keeps the first one the least; Pop answers the first one. -/

set_option linter.unusedVariables false
namespace Go.Proofs.YtnhmecabppaboaaGreat
open Go.RowKit

theorem hLessI {w0 : World} {p : Nat} {E : List (Int × Int)} {v : Value} {w : World} (h : HS w0 p E v w) (ii jj : Int) (i j : Nat) (ei : ii = i) (ej : jj = j) (hi : i < E.length) (hj : j < E.length) :
    Calls Tryz.prog 162 #[v, .int .i64 ii, .int .i64 jj] w fun e w' => e = .returned (.bool (ltE (nthHp E i) (nthHp E j))) ∧ Below w.heap.size w w' := by
  subst ei ej; exact hLess h i j hi hj
theorem hSwapI {w0 : World} {p : Nat} {E : List (Int × Int)} {v : Value} {w : World} (h : HS w0 p E v w) (ii jj : Int) (i j : Nat) (ei : ii = i) (ej : jj = j) (hi : i < E.length) (hj : j < E.length) :
    Calls Tryz.prog 165 #[v, .int .i64 ii, .int .i64 jj] w fun e w' => e = .returned (.tuple #[]) ∧ HS w0 p (swapE E i j) v w' := by
  subst ei ej; exact hSwap h i j hi hj
/-- An answer yes or no. -/
def SomeBool (e : Ending) : Prop := ∃ b, e = .returned (.bool b)
theorem swap_far {E F : List (Int × Int)} {n i j : Nat} (hi : i < F.length) (hj : j < F.length) (hin : i < n) (hjn : j < n) (h : ∀ q, n ≤ q → nthHp F q = nthHp E q) : ∀ q, n ≤ q → nthHp (swapE F i j) q = nthHp E q := by
  intro q hq
  rw [swapE_at hi hj, if_neg (by omega), if_neg (by omega)]
  exact h q hq

set_option maxRecDepth 20000 in
set_option maxHeartbeats 1000000 in
/-- container/heap.down. -/
theorem heapDown {w0 : World} {p : Nat} {E : List (Int × Int)} {v : Value} {w : World} (h : HS w0 p E v w) (n : Nat) (hn : n ≤ E.length) (hsz : E.length ≤ 10000000) :
    Calls Tryz.prog 113 #[.iface 117 (.pointer (some ⟨p, 0, none⟩)), .int .i64 0, .int .i64 n] w fun e w' =>
      SomeBool e ∧ ∃ E', HS w0 p E' v w' ∧ E'.length = E.length ∧ ∀ q, n ≤ q → nthHp E' q = nthHp E q := by
  go_enter Tryz.func113, Tryz.ntmps113
  go_wp2_with fail
  go_loopw [7] (fun i wr => ∃ (k : Nat) (F : List (Int × Int)), i = .int .i64 k ∧ k ≤ n ∧ F.length = E.length ∧ HS w0 p F v wr ∧ ∀ q, n ≤ q → nthHp F q = nthHp E q) (fun i _ => n - (intOf i).toNat)
  case atStart => exact ⟨0, E, rfl, Nat.zero_le _, rfl, h, fun _ _ => rfl⟩
  case round =>
    clear h
    obtain ⟨k, F, rfl, hk, hF, h, hK⟩ := hrel
    have HF := Lib.hid hF
    have HK := Lib.hid hK
    have hnF : n ≤ F.length := by omega
    have hk0 : (k : Int) ≤ 10000000 := by omega
    have hn0 : (n : Int) ≤ 10000000 := by omega
    clear hF hK hsz hn
    obtain ⟨a, cc, rfl, _⟩ := h.own.is
    by_cases h1 : 2 * k + 1 < n
    · by_cases h2 : 2 * k + 2 < n
      · have ml := mLess p a F.length cc wr h.cell
        go_wp2_with fail
        refine (hLessI h _ _ (2 * k + 2) (2 * k + 1) (by omega) (by omega) (by omega) (by omega)).mono ?_
        cases l2 : ltE (nthHp F (2 * k + 2)) (nthHp F (2 * k + 1)) with
        | true =>
          rintro e wc ⟨rfl, b2⟩
          replace h := h.below b2
          clear b2 ml l2
          cases l3 : ltE (nthHp F (2 * k + 2)) (nthHp F k) with
          | false =>
            have ml3 := mLess p a F.length cc wc h.cell
            go_wp2_with fail
            refine (hLessI h _ _ (2 * k + 2) k (by omega) (by omega) (by omega) (by omega)).mono ?_
            rw [l3]
            rintro e w5 ⟨rfl, b5⟩
            replace h := h.below b5
            clear b5 ml3 l3
            go_wp2_with fail
            go_ret
            exact ⟨⟨_, rfl⟩, F, h, HF.out, HK.out⟩
          | true =>
            have ml3 := mLess p a F.length cc wc h.cell
            go_wp2_with fail
            refine (hLessI h _ _ (2 * k + 2) k (by omega) (by omega) (by omega) (by omega)).mono ?_
            rw [l3]
            rintro e w5 ⟨rfl, b5⟩
            replace h := h.below b5
            clear b5 ml3 l3
            have ms := mSwap p a F.length cc w5 h.cell
            go_wp2_with fail
            refine (hSwapI h _ _ k (2 * k + 2) (by omega) (by omega) (by omega) (by omega)).mono ?_
            rintro e w6 ⟨rfl, h6⟩
            clear ms h
            have HK2 := Lib.hid (swap_far (i := k) (j := 2 * k + 2) (by omega) (by omega) (by omega) (by omega) HK.out)
            go_wp2_with fail
            go_roundw
            case rel => exact ⟨2 * k + 2, _, by first | rfl | (congr 1; done) | (congr 1; omega), by omega, by rw [swapE_len]; exact HF.out, h6, HK2.out⟩
            case measure => simp [intOf]; omega
        | false =>
          rintro e wc ⟨rfl, b2⟩
          replace h := h.below b2
          clear b2 ml l2
          cases l3 : ltE (nthHp F (2 * k + 1)) (nthHp F k) with
          | false =>
            have ml3 := mLess p a F.length cc wc h.cell
            go_wp2_with fail
            refine (hLessI h _ _ (2 * k + 1) k (by omega) (by omega) (by omega) (by omega)).mono ?_
            rw [l3]
            rintro e w5 ⟨rfl, b5⟩
            replace h := h.below b5
            clear b5 ml3 l3
            go_wp2_with fail
            go_ret
            exact ⟨⟨_, rfl⟩, F, h, HF.out, HK.out⟩
          | true =>
            have ml3 := mLess p a F.length cc wc h.cell
            go_wp2_with fail
            refine (hLessI h _ _ (2 * k + 1) k (by omega) (by omega) (by omega) (by omega)).mono ?_
            rw [l3]
            rintro e w5 ⟨rfl, b5⟩
            replace h := h.below b5
            clear b5 ml3 l3
            have ms := mSwap p a F.length cc w5 h.cell
            go_wp2_with fail
            refine (hSwapI h _ _ k (2 * k + 1) (by omega) (by omega) (by omega) (by omega)).mono ?_
            rintro e w6 ⟨rfl, h6⟩
            clear ms h
            have HK2 := Lib.hid (swap_far (i := k) (j := 2 * k + 1) (by omega) (by omega) (by omega) (by omega) HK.out)
            go_wp2_with fail
            go_roundw
            case rel => exact ⟨2 * k + 1, _, by first | rfl | (congr 1; done) | (congr 1; omega), by omega, by rw [swapE_len]; exact HF.out, h6, HK2.out⟩
            case measure => simp [intOf]; omega
      · have hwc : ∃ wc, wc = wr := ⟨wr, rfl⟩
        obtain ⟨wc, hwc⟩ := hwc
        rw [← hwc] at h ⊢
        clear hwc
        cases l3 : ltE (nthHp F (2 * k + 1)) (nthHp F k) with
        | false =>
          have ml3 := mLess p a F.length cc wc h.cell
          go_wp2_with fail
          refine (hLessI h _ _ (2 * k + 1) k (by omega) (by omega) (by omega) (by omega)).mono ?_
          rw [l3]
          rintro e w5 ⟨rfl, b5⟩
          replace h := h.below b5
          clear b5 ml3 l3
          go_wp2_with fail
          go_ret
          exact ⟨⟨_, rfl⟩, F, h, HF.out, HK.out⟩
        | true =>
          have ml3 := mLess p a F.length cc wc h.cell
          go_wp2_with fail
          refine (hLessI h _ _ (2 * k + 1) k (by omega) (by omega) (by omega) (by omega)).mono ?_
          rw [l3]
          rintro e w5 ⟨rfl, b5⟩
          replace h := h.below b5
          clear b5 ml3 l3
          have ms := mSwap p a F.length cc w5 h.cell
          go_wp2_with fail
          refine (hSwapI h _ _ k (2 * k + 1) (by omega) (by omega) (by omega) (by omega)).mono ?_
          rintro e w6 ⟨rfl, h6⟩
          clear ms h
          have HK2 := Lib.hid (swap_far (i := k) (j := 2 * k + 1) (by omega) (by omega) (by omega) (by omega) HK.out)
          go_wp2_with fail
          go_roundw
          case rel => exact ⟨2 * k + 1, _, by first | rfl | (congr 1; done) | (congr 1; omega), by omega, by rw [swapE_len]; exact HF.out, h6, HK2.out⟩
          case measure => simp [intOf]; omega
    · go_wp2_with fail
      go_ret
      exact ⟨⟨_, rfl⟩, F, h, HF.out, HK.out⟩

/-- ( *contest).Pop. -/
theorem hPop {w0 : World} {p : Nat} {E : List (Int × Int)} {v : Value} {w : World} (h : HS w0 p E v w) (hne : 0 < E.length) (hsz : E.length ≤ 10000000) :
    Calls Tryz.prog 163 #[.pointer (some ⟨p, 0, none⟩)] w fun e w' =>
      e = .returned (.iface 122 (.agg #[.int .i64 (nthHp E (E.length - 1)).1, .int .i64 (nthHp E (E.length - 1)).2])) ∧ Below w0.heap.size w0 w' := by
  obtain ⟨g, cc, rfl, hg, _, hc, hm, _, hcell⟩ := h.own.open hne
  obtain ⟨q0, q1⟩ := hcell (E.length - 1) (by omega)
  have c0 := h.cell
  have f0 := h.free
  have hl : ((E.length - 1 : Nat) : Int) = (E.length : Int) - 1 := by omega
  clear hcell
  generalize hz : E.length - 1 = z at *
  generalize (nthHp E z).1 = x0 at *
  generalize (nthHp E z).2 = x1 at *
  have hlt := h.lt
  have H1 := h.alloc (.cells #[.int .i64 x0, .int .i64 x1] 122)
  have d0 := H1.cell
  have d1 := H1.free
  go_enter Tryz.func163, Tryz.ntmps163
  go_wp2_with fail
  go_ret
  exact ⟨rfl, (h.bel.setCell h.low _).alloc (by simpa using h.bel.size) _⟩

/-- Who is first behind a push. -/
def topE (E : List (Int × Int)) (x : Int × Int) : Int × Int := if E.length = 0 then x else minE x (nthHp E 0)
theorem nthE_left {E : List (Int × Int)} {x : Int × Int} {i : Nat} (h : i < E.length) : nthHp (E ++ [x]) i = nthHp E i := by
  simp [nthHp, List.getD_eq_getElem?_getD, List.getElem?_append_left h]
theorem nthE_last (E : List (Int × Int)) (x : Int × Int) : nthHp (E ++ [x]) E.length = x := by
  simp [nthHp, List.getD_eq_getElem?_getD]
theorem Least.push {E : List (Int × Int)} {x : Int × Int} {P : Int × Int → Prop} (L : Least P E) (hx : P x) : Upw (if E.length = 0 then (x.1 + 1, 0) else nthHp E 0) x P (E ++ [x]) E.length := by
  refine ⟨by simp, nthE_last E x, fun i hi hne => ?_, fun e => ?_, fun e => ?_, fun i hi => ?_⟩
  · have hi' : i < E.length := by simp at hi; omega
    rw [nthE_left hi', if_neg (by omega)]
    exact L.least i hi'
  · rw [if_pos e, ltE_yes]; left; show x.1 < x.1 + 1; omega
  · rw [if_neg e, nthE_left (by omega)]
  · by_cases h : i = E.length
    · subst h; rw [nthE_last]; exact hx
    · have hi' : i < E.length := by simp at hi; omega
      rw [nthE_left hi']; exact L.all i hi'
theorem Least.top {E : List (Int × Int)} {x : Int × Int} : minE x (if E.length = 0 then (x.1 + 1, 0) else nthHp E 0) = topE E x := by
  unfold topE
  split
  · rw [minE, if_pos]
    rw [ltE_yes]; left; show x.1 < x.1 + 1; omega
  · rfl

/-- container/heap.Push. -/
theorem heapPush {w0 : World} {p : Nat} {E : List (Int × Int)} {v : Value} {w : World} (h : HS w0 p E v w) (x0 x1 : Int) (P : Int × Int → Prop) (L : Least P E) (hx : P (x0, x1)) (hsz : E.length ≤ 2000000) :
    Calls Tryz.prog 102 #[.iface 117 (.pointer (some ⟨p, 0, none⟩)), .iface 122 (.agg #[.int .i64 x0, .int .i64 x1])] w fun e w' =>
      e = .returned (.tuple #[]) ∧ ∃ E' v', HS w0 p E' v' w' ∧ E'.length = E.length + 1 ∧ Least P E' ∧ nthHp E' 0 = topE E (x0, x1) := by
  have U := L.push hx
  have ht := Lib.hid (Least.top (E := E) (x := (x0, x1)))
  generalize hm0 : (if E.length = 0 then ((x0, x1).1 + 1, 0) else nthHp E 0) = m at U ht
  clear hm0 L hx
  have hmp := mPush p w
  go_enter Tryz.func102, Tryz.ntmps102
  go_wp2_with fail
  refine (hPush h x0 x1 (by omega)).mono ?_
  rintro e w2 ⟨rfl, v', h2⟩
  clear hmp h
  have hl : (E ++ [(x0, x1)]).length = E.length + 1 := by simp
  generalize E ++ [(x0, x1)] = F at *
  obtain ⟨a, cc, rfl, hm⟩ := h2.own.is
  have ml := mLen p a F.length cc w2 h2.cell
  have HL := Lib.hid hl
  have hsz2 : F.length ≤ 10000000 := by omega
  have he : (F.length : Int) - 1 = (E.length : Int) := by omega
  clear hl
  go_wp2_with fail
  refine (cLen a F.length cc w2 hm).mono ?_
  rintro e w3 ⟨rfl, rfl⟩
  clear ml
  go_wp2_with fail
  refine (heapUp h2 E.length m (x0, x1) P U hsz2).mono ?_
  rintro e w4 ⟨rfl, E', h4, hl4, L4, ht4⟩
  clear h2 U he
  go_wp2_with fail
  go_end0
  exact ⟨rfl, E', _, h4, hl4.trans HL.out, L4, ht4.trans ht.out⟩

set_option maxRecDepth 20000 in
/-- container/heap.Pop. -/
theorem heapPop {w0 : World} {p : Nat} {E : List (Int × Int)} {v : Value} {w : World} (h : HS w0 p E v w) (hne : 0 < E.length) (hsz : E.length ≤ 2000000) :
    Calls Tryz.prog 104 #[.iface 117 (.pointer (some ⟨p, 0, none⟩))] w fun e w' =>
      e = .returned (.iface 122 (.agg #[.int .i64 (nthHp E 0).1, .int .i64 (nthHp E 0).2])) ∧ Below w0.heap.size w0 w' := by
  obtain ⟨a, cc, rfl, hm⟩ := h.own.is
  have ml := mLen p a E.length cc w h.cell
  go_enter Tryz.func104, Tryz.ntmps104
  go_wp2_with fail
  refine (cLen a E.length cc w hm).mono ?_
  rintro e w3 ⟨rfl, rfl⟩
  clear ml
  have ms := mSwap p a E.length cc w3 h.cell
  go_wp2_with fail
  refine (hSwapI h _ _ 0 (E.length - 1) (by omega) (by omega) (by omega) (by omega)).mono ?_
  rintro e w4 ⟨rfl, h4⟩
  have hl4 := swapE_len E 0 (E.length - 1)
  have hz : nthHp (swapE E 0 (E.length - 1)) (E.length - 1) = nthHp E 0 := by rw [swapE_at hne (by omega), if_pos rfl]
  clear ms h
  generalize swapE E 0 (E.length - 1) = F at *
  have HL := Lib.hid hl4
  clear hl4
  go_wp2_with fail
  have hn : (E.length : Int) - 1 = ((E.length - 1 : Nat) : Int) := by omega
  rw [hn]
  refine (heapDown h4 (E.length - 1) (by have := HL.out; omega) (by have := HL.out; omega)).mono ?_
  rintro e w5 ⟨⟨b, rfl⟩, G, h5, hl5, hk5⟩
  have hz5 : nthHp G (G.length - 1) = nthHp E 0 := by rw [hl5, HL.out, hk5 _ (Nat.le_refl _)]; exact hz
  have hl6 : G.length = E.length := hl5.trans HL.out
  clear h4 hk5 hz hl5 HL hn
  have mp := mPop p w5
  have HZ := Lib.hid hz5
  clear hz5
  go_wp2_with fail
  refine (hPop h5 (by omega) (by omega)).mono ?_
  rintro e w6 ⟨rfl, b6⟩
  rw [HZ.out]
  clear h5 mp
  go_wp2_with fail
  go_ret
  exact ⟨rfl, b6⟩
end Go.Proofs.YtnhmecabppaboaaGreat

/- impl.WinnerOf: through the heap of ranks and places the first one of the least rank. -/

set_option linter.unusedVariables false
namespace Go.Proofs.YtnhmecabppaboaaGreat
open Go.RowKit

/-- What the heap tells behind the first k frames. -/
structure Told (L : List Frm) (k : Nat) (E : List (Int × Int)) : Prop where
  len : E.length ≤ k
  least : Least (fun e => e.2 < (k : Int)) E
  no : winN L k = none → E.length = 0
  yes : ∀ b, winN L k = some b → E.length ≠ 0 ∧ nthHp E 0 = (rkF (nthF L b), (b : Int))
theorem Told.zero (L : List Frm) : Told L 0 [] := ⟨Nat.le_refl _, ⟨fun i hi => by simp at hi, fun i hi => by simp at hi⟩, fun _ => rfl, fun b h => by simp [winN] at h⟩
section
variable {L : List Frm} {k : Nat} {E E' : List (Int × Int)}
theorem Told.up (h : Least (fun e => e.2 < (k : Int)) E) : Least (fun e => e.2 < ((k + 1 : Nat) : Int)) E := ⟨h.least, fun i hi => by have := h.all i hi; omega⟩
theorem Told.low (h : Told L k E) (r : rkF (nthF L k) < 0) : Told L (k + 1) E := by
  have e := winN_low r
  exact ⟨by have := h.len; omega, Told.up h.least, fun n => h.no (by rw [← e]; exact n), fun b n => h.yes b (by rw [← e]; exact n)⟩
theorem Told.push (h : Told L k E) (r : 0 ≤ rkF (nthF L k)) (hl : E'.length = E.length + 1) (hm : Least (fun e => e.2 < ((k + 1 : Nat) : Int)) E') (ht : nthHp E' 0 = topE E (rkF (nthF L k), (k : Int))) : Told L (k + 1) E' := by
  refine ⟨by have := h.len; omega, hm, fun n => ?_, fun b n => ?_⟩
  · exfalso
    cases hw : winN L k with
    | none => rw [winN_none hw r] at n; cases n
    | some b =>
      by_cases q : rkF (nthF L k) < rkF (nthF L b)
      · rw [winN_less hw r q] at n; cases n
      · rw [winN_more hw q] at n; cases n
  · refine ⟨by omega, ?_⟩
    rw [ht]
    cases hw : winN L k with
    | none =>
      rw [winN_none hw r] at n; cases n
      rw [topE, if_pos (h.no hw)]
    | some b0 =>
      obtain ⟨hne, h0⟩ := h.yes b0 hw
      have hb := (winN_lt hw).1
      rw [topE, if_neg hne, h0, minE]
      by_cases q : rkF (nthF L k) < rkF (nthF L b0)
      · rw [winN_less hw r q] at n; cases n
        rw [if_pos (by rw [ltE_yes]; left; exact q)]
      · rw [winN_more hw q] at n; cases n
        rw [if_neg]
        rw [ltE_yes]; simp only; omega
end

set_option maxRecDepth 20000 in
/-- impl.WinnerOf. -/
theorem implWinnerOf (a : Option Addr) (L : List Frm) (c : Nat) (w : World) (hd : Frs a L w) (hsz : L.length ≤ 1048576) :
    Calls Tryz.prog 88 #[.slice a L.length c] w fun e w' => e = .returned (.int .i64 (winI (winN L L.length))) ∧ Below w.heap.size w w' := by
  go_enter Tryz.func88, Tryz.ntmps88
  have H : HS w (w.heap.size + 1) [] (.slice (some ⟨w.heap.size, 0, none⟩) 0 0) ((w.alloc (.cells #[] 122)).alloc (.cells #[.slice (some ⟨w.heap.size, 0, none⟩) 0 0] 119)) := by
    have o := World.ownsRow_made (base := w.heap.size) (e := 122) (size := 2) w #[] 0 (Nat.le_refl _) (Nat.zero_le _) rfl
    refine ⟨?_, World.ownsRow.kept (row := none) o (World.grownBy_alloc _ _ _) (.inr (by simp [Value.ownBlock])), ((Below.refl _ _).alloc (Nat.le_refl _) _).alloc (by simp) _, by omega⟩
    have := heap_alloc_new (w.alloc (.cells #[] 122)) (.cells #[.slice (some ⟨w.heap.size, 0, none⟩) 0 0] 119)
    simpa using this
  go_wp2_with fail
  generalize (w.alloc (.cells #[] 122)).alloc (.cells #[.slice (some ⟨w.heap.size, 0, none⟩) 0 0] 119) = w1 at H ⊢
  go_loopw [10] (fun i wr => ∃ (k : Nat) (E : List (Int × Int)) (v : Value), k ≤ L.length ∧ i = .int .i64 k ∧ HS w (w.heap.size + 1) E v wr ∧ Told L k E) (fun i _ => L.length - (intOf i).toNat)
  case atStart => exact ⟨0, [], _, Nat.zero_le _, rfl, H, Told.zero L⟩
  case round =>
    clear H
    obtain ⟨k, E, v, hk, rfl, H, T⟩ := hrel
    by_cases hlt : k < L.length
    · obtain ⟨g, o, ad, cc, rfl, fa⟩ := (hd.below H.bel).2 k hlt
      obtain ⟨⟨a0, a1, a2, a3⟩, hn⟩ := id fa
      have hlE := T.len
      have T1 := Lib.hid T
      have hrk := Lib.hid (show rkF (nthF L k) = rankV (nthF L k).id (nthF L k).rm (nthF L k).ln (nthF L k).D from rfl)
      clear T fa
      generalize (nthF L k).id = id at *
      generalize (nthF L k).rm = rm at *
      generalize (nthF L k).ln = ln at *
      generalize (nthF L k).D = D at *
      go_upto_region 5 with fail
      have f4 := Four.made (.int .i64 id) (.bool rm) (.int .i64 ln) (.slice ad D.length cc) 35 (Below.refl wr.heap.size wr)
      replace H := H.alloc (.cells #[.int .i64 id, .bool rm, .int .i64 ln, .slice ad D.length cc] 35)
      replace hn := hn.alloc (.cells #[.int .i64 id, .bool rm, .int .i64 ln, .slice ad D.length cc] 35)
      generalize wr.alloc (.cells #[.int .i64 id, .bool rm, .int .i64 ln, .slice ad D.length cc] 35) = w2 at *
      generalize wr.heap.size = q at *
      clear a0 a1 a2 a3
      have f4c := f4
      obtain ⟨⟨c0, c1, c2, c3⟩, _⟩ := f4c
      go_wp2_with fail
      refine (implFrameOk _ _ _ _ _ _ _ hn).mono ?_
      rintro e w3 ⟨rfl, b3⟩
      replace H := H.below b3
      replace hn := hn.below b3
      replace f4 := f4.below b3
      clear b3 c0 c1 c2 c3
      cases hok : frOk id rm ln D with
      | false =>
        have T2 := Lib.hid (T1.out.low (by rw [hrk.out]; exact rankV_neg.2 hok))
        clear hok f4 hn
        go_wp2_with fail
        go_roundw
        case rel => exact ⟨k + 1, E, v, by omega, by go_num, H, T2.out⟩
        case measure => simp [intOf]; omega
      | true =>
        have hr : 0 ≤ rkF (nthF L k) := by
          rw [hrk.out]
          exact Int.not_lt.1 fun h => by rw [rankV_neg.1 h] at hok; cases hok
        have HR := Lib.hid hr
        clear hok hr
        have f4c := f4
        obtain ⟨⟨c0, c1, c2, c3⟩, _⟩ := f4c
        go_wp2_with fail
        refine (implRankOf _ _ _ _ _ _ _ hn).mono ?_
        rintro e w4 ⟨rfl, b4⟩
        replace H := H.below b4
        clear b4 c0 c1 c2 c3 f4 hn
        rw [← hrk.out]
        have L1 := Lib.hid (Told.up T1.out.least)
        generalize hR : rkF (nthF L k) = r at *
        go_wp2_with fail
        refine (heapPush H r k (fun e => e.2 < ((k + 1 : Nat) : Int)) L1.out (by simp only; omega) (by omega)).mono ?_
        rintro e w5 ⟨rfl, E', v', H5, hl5, L5, ht5⟩
        have T2 := Lib.hid (T1.out.push (by rw [hR]; exact HR.out) hl5 L5 (by rw [hR]; exact ht5))
        clear H L5 ht5 hl5
        go_wp2_with fail
        go_roundw
        case rel => exact ⟨k + 1, E', v', by omega, by go_num, H5, T2.out⟩
        case measure => simp [intOf]; omega
    · obtain rfl : k = L.length := by omega
      have hlE := T.len
      obtain ⟨av, cv, rfl, hm⟩ := H.own.is
      have c0 := H.cell
      cases hw : winN L L.length with
      | none =>
        have h0 := T.no hw
        have HW := Lib.hid hw
        clear T hw
        have e0 : E = [] := List.length_eq_zero_iff.1 h0
        subst e0
        go_wp2_with fail
        refine (cLen av 0 cv wr (Nat.zero_le _)).mono ?_
        rintro e w3 ⟨rfl, rfl⟩
        go_wp2_with fail
        go_ret
        exact ⟨by rw [HW.out]; rfl, H.bel⟩
      | some b =>
        obtain ⟨h0, h1⟩ := T.yes b hw
        have HW := Lib.hid hw
        clear T hw
        have hpos : 0 < E.length := by omega
        have hz : ((E.length : Int) == 0) = false := by rw [beq_eq_false_iff_ne]; omega
        go_wp2_with fail
        refine (cLen av E.length cv wr hm).mono ?_
        rintro e w3 ⟨rfl, rfl⟩
        go_wp2_with fail
        refine (heapPop H hpos (by omega)).mono ?_
        rintro e w4 ⟨rfl, b4⟩
        rw [h1]
        clear H c0 h1
        have ta : ∀ W, (Instr.typeAssert (.iface 122 (.agg #[.int .i64 (rkF (nthF L b)), .int .i64 (b : Int)])) 20 122 false).run Tryz.prog W = .ok (.agg #[.int .i64 (rkF (nthF L b)), .int .i64 (b : Int)]) W := fun W => by kernel_rfl
        have tf : ∀ W, (Instr.field 122 (.agg #[.int .i64 (rkF (nthF L b)), .int .i64 (b : Int)]) 1).run Tryz.prog W = .ok (.int .i64 (b : Int)) W := fun W => by kernel_rfl
        go_wp2_with fail
        go_ret
        exact ⟨by rw [HW.out]; rfl, b4⟩
end Go.Proofs.YtnhmecabppaboaaGreat
