/- The methods of the contest (a slice of ranks and places behind a pointer), called through an interface. -/
import Derived.Test.YtcciabalbdnakabSpWin
import Derived.Test.YtcciabalbdnakabPares
import Derived.Test.YtcciabalbdnakabFrM
import Derived.WalkKit
import Derived.Deep.RegionWith
import Derived.Deep.CutRange
import Derived.Deep.AppendLies
set_option linter.unusedVariables false
set_option maxRecDepth 20000
namespace Go.Proofs.Ytcciabalbdnakab
open Go.RowKit

theorem look_box (p : Nat) (a : Option Addr) (n c : Nat) (w : World) (hc : w.cell? ⟨p, 0, none⟩ = some (.slice a n c)) :
    (loadVar 64 ⟨p, 0, none⟩).run Try.prog w = .ok (.slice a n c) w := by
  simp [loadVar, go_sem, hc]
section
variable (p : Nat) (a : Option Addr) (n c : Nat) (w : World) (hc : w.cell? ⟨p, 0, none⟩ = some (.slice a n c))
include hc
theorem mLess : (Go.method 234 62 (.pointer (some ⟨p, 0, none⟩)) "Less").run Try.prog w = .ok (108, .slice a n c) w := by
  have e : (Go.method 234 62 (.pointer (some ⟨p, 0, none⟩)) "Less").run Try.prog w =
      (do let x ← loadVar 64 ⟨p, 0, none⟩; pure (108, x) : Sem (FuncId × Value)).run Try.prog w := by kernel_rfl
  rw [e]
  simp [go_sem, hc]
theorem mLen : (Go.method 234 62 (.pointer (some ⟨p, 0, none⟩)) "Len").run Try.prog w = .ok (48, .slice a n c) w := by
  have e : (Go.method 234 62 (.pointer (some ⟨p, 0, none⟩)) "Len").run Try.prog w =
      (do let x ← loadVar 64 ⟨p, 0, none⟩; pure (48, x) : Sem (FuncId × Value)).run Try.prog w := by kernel_rfl
  rw [e]
  simp [go_sem, hc]
theorem mSwap : (Go.method 234 62 (.pointer (some ⟨p, 0, none⟩)) "Swap").run Try.prog w = .ok (111, .slice a n c) w := by
  have e : (Go.method 234 62 (.pointer (some ⟨p, 0, none⟩)) "Swap").run Try.prog w =
      (do let x ← loadVar 64 ⟨p, 0, none⟩; pure (111, x) : Sem (FuncId × Value)).run Try.prog w := by kernel_rfl
  rw [e]
  simp [go_sem, hc]
end
theorem mPush (p : Nat) (w : World) :
    (Go.method 234 62 (.pointer (some ⟨p, 0, none⟩)) "Push").run Try.prog w = .ok (110, .pointer (some ⟨p, 0, none⟩)) w := by kernel_rfl
theorem mPop (p : Nat) (w : World) :
    (Go.method 234 62 (.pointer (some ⟨p, 0, none⟩)) "Pop").run Try.prog w = .ok (109, .pointer (some ⟨p, 0, none⟩)) w := by kernel_rfl

/-- Who goes first: the lesser rank; of one rank, the lesser place. -/
def ltE (a b : Int × Int) : Bool := if a.1 = b.1 then decide (a.2 < b.2) else decide (a.1 < b.1)

/-- (contest).Len. -/
theorem cLen (a : Option Addr) (n c : Nat) (w : World) (hn : n ≤ maxLen) :
    Calls Try.prog 48 #[.slice a n c] w fun e w' => e = .returned (.int .i64 n) ∧ w' = w := by
  unfold maxLen at hn
  go_enter Try.func48, Try.ntmps48
  go_wp2
  go_ret
  exact ⟨rfl, rfl⟩

/-- (contest).Less, at the cells themselves. -/
theorem cLess (g n c i j : Nat) (x0 x1 y0 y1 : Int) (w : World) (hi : i < n) (hj : j < n) (hn : n ≤ maxLen)
    (i0 : w.cell? ⟨g, i * 2, none⟩ = some (.int .i64 x0)) (i1 : w.cell? ⟨g, i * 2 + 1, none⟩ = some (.int .i64 x1))
    (j0 : w.cell? ⟨g, j * 2, none⟩ = some (.int .i64 y0)) (j1 : w.cell? ⟨g, j * 2 + 1, none⟩ = some (.int .i64 y1)) :
    Calls Try.prog 108 #[.slice (some ⟨g, 0, none⟩) n c, .int .i64 i, .int .i64 j] w fun e w' => e = .returned (.bool (ltE (x0, x1) (y0, y1))) ∧ Below w.heap.size w w' := by
  unfold maxLen at hn
  have hi' : (i : Int) < n := by omega
  have hj' : (j : Int) < n := by omega
  by_cases h : x0 = y0
  · subst h
    have HV := Lib.hid (show ltE (x0, x1) (x0, y1) = decide (x1 < y1) by simp [ltE])
    go_enter Try.func108, Try.ntmps108
    go_wp2
    go_quiet (fail)
    go_wp2
    go_quiet (fail)
    go_wp2
    go_ret
    exact ⟨by rw [HV.out]; rfl, belowN (belowN (Below.refl _ _) _) _⟩
  · have HV := Lib.hid (show ltE (x0, x1) (y0, y1) = decide (x0 < y0) by simp [ltE, h])
    go_enter Try.func108, Try.ntmps108
    go_wp2
    go_quiet (fail)
    go_wp2
    go_quiet (fail)
    go_wp2
    go_ret
    exact ⟨by rw [HV.out]; rfl, belowN (belowN (Below.refl _ _) _) _⟩

/-! ### Rows of ranks and places. -/
def nthE (E : List (Int × Int)) (i : Nat) : Int × Int := E.getD i (0, 0)
def flatE (E : List (Int × Int)) : List Value := E.flatMap fun e => [.int .i64 e.1, .int .i64 e.2]
theorem flatE_len (E : List (Int × Int)) : (flatE E).length = E.length * 2 := by
  induction E with
  | nil => rfl
  | cons e E ih => simp [flatE] at ih ⊢; omega
theorem flatE_at : ∀ (E : List (Int × Int)) (i : Nat), i < E.length → (flatE E)[i * 2]? = some (.int .i64 (nthE E i).1) ∧ (flatE E)[i * 2 + 1]? = some (.int .i64 (nthE E i).2) := by
  intro E
  induction E with
  | nil => intro i hi; simp at hi
  | cons e E ih =>
    intro i hi
    cases i with
    | zero => exact ⟨rfl, rfl⟩
    | succ i =>
      have h := ih i (by simpa using hi)
      have e1 : (i + 1) * 2 = i * 2 + 1 + 1 := by omega
      rw [e1]
      simpa [flatE, nthE] using h
theorem flatE_set : ∀ (E : List (Int × Int)) (i : Nat) (a b : Int), i < E.length → flatE (E.set i (a, b)) = ((flatE E).set (i * 2) (.int .i64 a)).set (i * 2 + 1) (.int .i64 b) := by
  intro E
  induction E with
  | nil => intro i a b hi; simp at hi
  | cons e E ih =>
    intro i a b hi
    cases i with
    | zero => rfl
    | succ i =>
      have h := ih i a b (by simpa using hi)
      have e1 : (i + 1) * 2 = i * 2 + 1 + 1 := by omega
      rw [e1]
      simpa [flatE] using h
theorem flatE_app (E : List (Int × Int)) (x : Int × Int) : flatE (E ++ [x]) = flatE E ++ [.int .i64 x.1, .int .i64 x.2] := by simp [flatE]
def swapE (E : List (Int × Int)) (i j : Nat) : List (Int × Int) := (E.set i (nthE E j)).set j (nthE E i)
theorem swapE_len (E : List (Int × Int)) (i j : Nat) : (swapE E i j).length = E.length := by simp [swapE]
theorem nthE_set {E : List (Int × Int)} {i : Nat} (x : Int × Int) (hi : i < E.length) (k : Nat) : nthE (E.set i x) k = if k = i then x else nthE E k := by
  unfold nthE
  rw [List.getD_eq_getElem?_getD, List.getD_eq_getElem?_getD, List.getElem?_set]
  by_cases h : i = k
  · subst h; simp [hi]
  · rw [if_neg h, if_neg (fun e => h e.symm)]
theorem swapE_at {E : List (Int × Int)} {i j : Nat} (hi : i < E.length) (hj : j < E.length) (k : Nat) : nthE (swapE E i j) k = if k = j then nthE E i else if k = i then nthE E j else nthE E k := by
  unfold swapE
  rw [nthE_set _ (by simpa using hj), nthE_set _ hi]

theorem owns_set {B e size g n cap : Nat} {xs : List Value} {w : World} (h : w.ownsRow B e size (.slice (some ⟨g, 0, none⟩) n cap) n xs) (k : Nat) (u : Value) :
    (w.setCell ⟨g, k, none⟩ u).ownsRow B e size (.slice (some ⟨g, 0, none⟩) n cap) n (xs.set k u) := by
  refine ⟨by rw [List.length_set]; exact h.1, ?_⟩
  rcases h.2 with ⟨h', _⟩ | ⟨g', cap', cur, h', hb, hg, hle, hm, hs, ht⟩
  · simp at h'
  · simp only [Value.slice.injEq, Option.some.injEq, Addr.mk.injEq, and_true, true_and] at h'
    obtain ⟨rfl, rfl⟩ := h'
    refine .inr ⟨g, cap, cur.setIfInBounds k u, rfl, hb, heap_setCell_same _ _ _ _ _ _ hg, hle, hm, by simpa using hs, ?_⟩
    rw [Array.toList_setIfInBounds, List.take_set, ht]

/-- The slice v, in a row of the call's own, holds the ranks and places E. -/
def OwnE (B : Nat) (E : List (Int × Int)) (v : Value) (w : World) : Prop := w.ownsRow B 67 2 v E.length (flatE E)
section
variable {B : Nat} {E : List (Int × Int)} {v : Value} {w w' : World}
theorem OwnE.kept {row : Option Nat} (h : OwnE B E v w) (k : w.grownBy w' row) (hne : v.ownBlock = none ∨ v.ownBlock ≠ row) : OwnE B E v w' := World.ownsRow.kept h k hne
theorem OwnE.below (h : OwnE B E v w) (b : Below w.heap.size w w') : OwnE B E v w' :=
  h.kept (row := none) ⟨b.os, b.tape, b.output, b.size, fun k hk _ => b.block k hk⟩ (by cases v.ownBlock <;> simp)
theorem OwnE.is (h : OwnE B E v w) : ∃ a c, v = .slice a E.length c ∧ E.length ≤ maxLen := by
  rcases h.2 with ⟨rfl, hn⟩ | ⟨g, cap, cur, rfl, _, _, hle, hm, _⟩
  · exact ⟨none, 0, by rw [hn], by rw [hn]; exact Nat.zero_le _⟩
  · exact ⟨_, cap, rfl, Nat.le_trans hle hm⟩
theorem OwnE.open (h : OwnE B E v w) (hne : 0 < E.length) : ∃ g c, v = .slice (some ⟨g, 0, none⟩) E.length c ∧ B ≤ g ∧ g < w.heap.size ∧ E.length ≤ c ∧ c ≤ maxLen ∧ (∀ k, w.frozen? ⟨g, k, none⟩ = false) ∧
    ∀ i, i < E.length → w.cell? ⟨g, i * 2, none⟩ = some (.int .i64 (nthE E i).1) ∧ w.cell? ⟨g, i * 2 + 1, none⟩ = some (.int .i64 (nthE E i).2) := by
  have h0 := h
  rcases h.2 with ⟨rfl, hn⟩ | ⟨g, cap, cur, rfl, hb, hg, hle, hm, _⟩
  · omega
  · have hl := h0.lt g rfl
    refine ⟨g, cap, rfl, hb, hl.2, hle, hm, fun k => frozen_of_row w g k _ _ hg, fun i hi => ?_⟩
    have hf := flatE_at E i hi
    exact ⟨(h0.cellAt _ (by omega)).trans hf.1, (h0.cellAt _ (by omega)).trans hf.2⟩
theorem OwnE.ne_box {p : Nat} {u : Value} (h : OwnE B E v w) (k : w.heap[p]? = some (.cells #[u] 64 (0, 0))) : v.ownBlock ≠ some p := by
  rcases h.2 with ⟨rfl, _⟩ | ⟨g', cap, cur, rfl, _, hg, _⟩
  · simp [Value.ownBlock]
  · intro e
    simp only [Value.ownBlock, Option.some.injEq] at e
    subst e
    rw [k] at hg
    simp at hg
end

/-- The contest: a box at block p, its row, and what was there when the call began. -/
structure HS (w0 : World) (p : Nat) (E : List (Int × Int)) (v : Value) (w : World) : Prop where
  box : w.heap[p]? = some (.cells #[v] 64 (0, 0))
  own : OwnE w0.heap.size E v w
  bel : Below w0.heap.size w0 w
  low : w0.heap.size ≤ p
section
variable {w0 : World} {p : Nat} {E : List (Int × Int)} {v : Value} {w w' : World}
theorem HS.lt (h : HS w0 p E v w) : p < w.heap.size := (Array.getElem?_eq_some_iff.1 h.box).1
theorem HS.below (h : HS w0 p E v w) (b : Below w.heap.size w w') : HS w0 p E v w' := ⟨(b.block p h.lt).trans h.box, h.own.below b, Below.then2 h.bel b, h.low⟩
theorem HS.alloc (h : HS w0 p E v w) (o : Obj) : HS w0 p E v (w.alloc o) := h.below ((Below.refl _ _).alloc (Nat.le_refl _) _)
theorem HS.drewN (h : HS w0 p E v w) (n : Nat) : HS w0 p E v (w.drewN n) := h.below (belowN (Below.refl _ _) n)
theorem HS.drew (h : HS w0 p E v w) : HS w0 p E v w.drew := h.below (Below.drew (Below.refl _ _))
theorem HS.cell (h : HS w0 p E v w) : w.cell? ⟨p, 0, none⟩ = some v := cell_of_row w p 0 _ _ _ h.box
theorem HS.free (h : HS w0 p E v w) : w.frozen? ⟨p, 0, none⟩ = false := frozen_of_row w p 0 _ _ h.box
/-- Behind an append: the box is told the new slice. -/
theorem HS.put {E' : List (Int × Int)} {v' : Value} (h : HS w0 p E v w) (o : OwnE w0.heap.size E' v' w') (g : w.grownBy w' v.ownBlock) : HS w0 p E' v' (w'.setCell ⟨p, 0, none⟩ v') := by
  have hb : w'.heap[p]? = some (.cells #[v] 64 (0, 0)) := (g.block p h.lt (h.own.ne_box h.box).symm).trans h.box
  have bel : Below w0.heap.size w0 w' := h.bel.grown g h.bel.size (fun k e => (h.own.lt k e).1)
  exact ⟨heap_setCell_same _ _ _ _ _ _ hb, o.kept (grown_set _ _ _ _) (.inr (o.ne_box hb)), bel.setCell h.low _, h.low⟩
theorem HS.after (h : HS w0 p E v w) (g : w.grownBy w' v.ownBlock) : w'.cell? ⟨p, 0, none⟩ = some v ∧ w'.frozen? ⟨p, 0, none⟩ = false := by
  have hb : w'.heap[p]? = some (.cells #[v] 64 (0, 0)) := (g.block p h.lt (h.own.ne_box h.box).symm).trans h.box
  exact ⟨cell_of_row w' p 0 _ _ _ hb, frozen_of_row w' p 0 _ _ hb⟩
/-- A swap of two elements. -/
theorem HS.swap {g c i j : Nat} (h : HS w0 p E (.slice (some ⟨g, 0, none⟩) E.length c) w) (hi : i < E.length) (hj : j < E.length) :
    HS w0 p (swapE E i j) (.slice (some ⟨g, 0, none⟩) E.length c)
      ((((w.setCell ⟨g, i * 2, none⟩ (.int .i64 (nthE E j).1)).setCell ⟨g, i * 2 + 1, none⟩ (.int .i64 (nthE E j).2)).setCell ⟨g, j * 2, none⟩ (.int .i64 (nthE E i).1)).setCell ⟨g, j * 2 + 1, none⟩ (.int .i64 (nthE E i).2)) := by
  have hg := h.own.lt g rfl
  have hne := h.own.ne_box h.box
  simp only [Value.ownBlock, ne_eq, Option.some.injEq] at hne
  refine ⟨?_, ?_, (((h.bel.setCell hg.1 _).setCell hg.1 _).setCell hg.1 _).setCell hg.1 _, h.low⟩
  · rw [heap_setCell_other _ _ _ _ (fun e => hne e.symm), heap_setCell_other _ _ _ _ (fun e => hne e.symm), heap_setCell_other _ _ _ _ (fun e => hne e.symm), heap_setCell_other _ _ _ _ (fun e => hne e.symm)]
    exact h.box
  · unfold OwnE
    rw [swapE_len, swapE, flatE_set _ _ _ _ (by simpa using hj), flatE_set _ _ _ _ hi]
    exact owns_set (owns_set (owns_set (owns_set h.own _ _) _ _) _ _) _ _
end

/-- (contest).Less. -/
theorem hLess {w0 : World} {p : Nat} {E : List (Int × Int)} {v : Value} {w : World} (h : HS w0 p E v w) (i j : Nat) (hi : i < E.length) (hj : j < E.length) :
    Calls Try.prog 108 #[v, .int .i64 i, .int .i64 j] w fun e w' => e = .returned (.bool (ltE (nthE E i) (nthE E j))) ∧ Below w.heap.size w w' := by
  obtain ⟨g, c, rfl, _, _, hc, hm, _, hcell⟩ := h.own.open (by omega)
  exact cLess g E.length c i j _ _ _ _ w hi hj (Nat.le_trans hc hm) (hcell i hi).1 (hcell i hi).2 (hcell j hj).1 (hcell j hj).2

/-- (contest).Swap. -/
theorem hSwap {w0 : World} {p : Nat} {E : List (Int × Int)} {v : Value} {w : World} (h : HS w0 p E v w) (i j : Nat) (hi : i < E.length) (hj : j < E.length) :
    Calls Try.prog 111 #[v, .int .i64 i, .int .i64 j] w fun e w' => e = .returned (.tuple #[]) ∧ HS w0 p (swapE E i j) v w' := by
  obtain ⟨g, c, rfl, _, _, hc, hm, hfr, hcell⟩ := h.own.open (by omega)
  have hn : E.length ≤ maxLen := Nat.le_trans hc hm
  unfold maxLen at hn
  have hi' : (i : Int) < E.length := by omega
  have hj' : (j : Int) < E.length := by omega
  have S := (h.swap hi hj).drew
  obtain ⟨i0, i1⟩ := hcell i hi
  obtain ⟨j0, j1⟩ := hcell j hj
  have f0 := hfr (i * 2)
  have f1 := hfr (i * 2 + 1)
  have f2 := hfr (j * 2)
  have f3 := hfr (j * 2 + 1)
  clear hcell hfr
  by_cases hij : i = j
  · subst hij
    generalize (nthE E i).1 = x0 at *
    generalize (nthE E i).2 = x1 at *
    go_enter Try.func111, Try.ntmps111
    go_wp2
    go_region
    all_goals
      go_end0
      exact ⟨rfl, S⟩
  · have n0 : i * 2 ≠ j * 2 := by omega
    have n1 : j * 2 ≠ i * 2 := by omega
    generalize (nthE E i).1 = x0 at *
    generalize (nthE E i).2 = x1 at *
    generalize (nthE E j).1 = y0 at *
    generalize (nthE E j).2 = y1 at *
    go_enter Try.func111, Try.ntmps111
    go_wp2
    go_region
    all_goals
      go_end0
      exact ⟨rfl, S⟩

theorem infoE : (Try.prog.info? 67).map (fun i => (i.zero, i.size, i.bytes)) = some (some (.agg #[.int .i64 0, .int .i64 0]), 2, 16) := by kernel_rfl
/-- 'append' of one rank and place: at a step of a region that draws its order. -/
theorem step_appE {ops : Array Oper} {o : Oper} {a : Act} {w : World} {K : Act → World → Prop} {Q : Exit → Act → World → Prop} {F : Prop} (hgd : o.guard = none) (s x : Operand)
    (ho : o.op = .call { callee := .builtin .append, args := #[s, x], argTypes := #[64, 64] })
    (Bn : Nat) (E : List (Int × Int)) (z0 z1 : Int) (v : Value) (hs : a.eval s = v) (hown : OwnE Bn E v w) (g1 c1 : Nat) (hx : a.eval x = .slice (some ⟨g1, 0, none⟩) 1 c1)
    (hc0 : w.cell? ⟨g1, 0, none⟩ = some (.int .i64 z0)) (hc1 : w.cell? ⟨g1, 1, none⟩ = some (.int .i64 z1)) (hsz : E.length ≤ 10000000) (hB : Bn ≤ w.heap.size)
    (h : ∀ av cv w', OwnE Bn (E ++ [(z0, z1)]) (.slice av (E.length + 1) cv) w' → w.grownBy w' v.ownBlock → K (a.put o.dst (.slice av (E.length + 1) cv)) w') :
    if Region.wanted o (yielded ops a.tmps) = true then Oper.wp Try.prog o a w K Q else F := by
  have hw : Region.wanted o (yielded ops a.tmps) = true := by simp [Region.wanted, hgd]
  rw [if_pos hw]
  obtain ⟨i0, hi, hz0, hz1, hz2⟩ := info_parts infoE
  obtain ⟨v', w', hr, h2, h3, h4⟩ := run_append_own (P := Try.prog) w Bn 64 o.type 67 i0 (.agg #[.int .i64 0, .int .i64 0]) 2 16 Try.underlying64 hi hz0 hz1 hz2 rfl (by decide)
    v E.length (flatE E) hown ⟨g1, 0, none⟩ 1 c1 [.int .i64 z0, .int .i64 z1] rfl
    (fun j u hu => by
      match j, hu with
      | 0, hu => simp at hu; subst hu; exact hc0
      | 1, hu => simp at hu; subst hu; exact hc1) (fun u hu => by simp at hu; rcases hu with rfl | rfl <;> rfl) (by unfold maxLen; omega) (by omega) hB
  have hown' : OwnE Bn (E ++ [(z0, z1)]) v' w' := by
    unfold OwnE
    rw [flatE_app, List.length_append, List.length_singleton]; exact h2
  obtain ⟨av, cv, rfl, _⟩ := hown'.is
  unfold Oper.wp
  simp [execOp, ho, resolve, invoke, builtin, hs, hx, hr, Result.andThen]
  rw [List.length_append, List.length_singleton] at hown'
  exact h av cv w' hown' h3

/-- ( *contest).Push. -/
theorem hPush {w0 : World} {p : Nat} {E : List (Int × Int)} {v : Value} {w : World} (h : HS w0 p E v w) (z0 z1 : Int) (hsz : E.length ≤ 10000000) :
    Calls Try.prog 110 #[.pointer (some ⟨p, 0, none⟩), .iface 67 (.agg #[.int .i64 z0, .int .i64 z1])] w fun e w' =>
      e = .returned (.tuple #[]) ∧ ∃ v', HS w0 p (E ++ [(z0, z1)]) v' w' := by
  obtain ⟨a, c, rfl, hm⟩ := h.own.is
  have c0 := h.cell
  have c1 := h.drew.cell
  have ta : ∀ W, (Instr.typeAssert (.iface 67 (.agg #[.int .i64 z0, .int .i64 z1])) 20 67 false).run Try.prog W = .ok (.agg #[.int .i64 z0, .int .i64 z1]) W := fun W => by kernel_rfl
  go_enter Try.func110, Try.ntmps110
  go_wp2
  have hl := h.lt
  have hb := h.bel.size
  have h1 := (h.drew).alloc (.cells #[.int .i64 z0, .int .i64 z1] 67)
  have h2 := (h.alloc (.cells #[.int .i64 z0, .int .i64 z1] 67)).drew
  have d0 := h1.cell
  have d2 := h2.cell
  go_region_law (first
    | (refine step_appE rfl (.tmp 7) (.tmp 10) rfl w0.heap.size E z0 z1 (.slice a E.length c) ?_ ?_ w.heap.size 1 ?_ ?_ ?_ ?_ ?_ ?_
       · simp [Act.eval]
       · first | exact h1.own | exact h2.own
       · simp [Act.eval]
       · exact World.cell?_alloc_at _ _ _ _ rfl
       · exact World.cell?_alloc_at _ _ _ _ rfl
       · omega
       · simp; omega
       intro av' cv' w8 own8 g8
       have S : HS w0 p (E ++ [(z0, z1)]) (.slice av' (E.length + 1) cv') (w8.setCell ⟨p, 0, none⟩ (.slice av' (E.length + 1) cv')) := by first | exact HS.put h1 own8 g8 | exact HS.put h2 own8 g8
       have A : w8.cell? ⟨p, 0, none⟩ = some (.slice a E.length c) ∧ w8.frozen? ⟨p, 0, none⟩ = false := by first | exact HS.after h1 g8 | exact HS.after h2 g8
       obtain ⟨A0, A1⟩ := A))
  all_goals
    go_wp2
    go_end0
    exact ⟨rfl, _, S⟩
end Go.Proofs.Ytcciabalbdnakab
