/- Frames in rows of the call's own, no two of them on one row: what stores do to them. No program's walk in it. -/
import Derived.Test.YtcciabalbdnakabDrawWin
import Derived.Test.YtcciabalbdnakabMark
set_option linter.unusedVariables false
set_option linter.unusedSimpArgs false
set_option maxRecDepth 20000
namespace Go.Proofs.Ytcciabalbdnakab
open Go.RowKit

theorem grown_at {w w' : World} (b : Below w.heap.size w w') : w.grownBy w' none := ⟨b.os, b.tape, b.output, b.size, fun k hk _ => b.block k hk⟩
def nthM (M : List (Frm × Value)) (j : Nat) : Frm × Value := M.getD j (⟨0, false, 0, []⟩, .slice none 0 0)
theorem nthM_eq {M : List (Frm × Value)} {j : Nat} (h : j < M.length) : nthM M j = M[j] := by simp [nthM, List.getD_eq_getElem?_getD, h]
theorem nthM_mem {M : List (Frm × Value)} {j : Nat} (h : j < M.length) : nthM M j ∈ M := by rw [nthM_eq h]; exact List.getElem_mem h
theorem nthM_set {M : List (Frm × Value)} {j i : Nat} {x : Frm × Value} (h : i < M.length) : nthM (M.set j x) i = if i = j then x else nthM M i := by
  rw [nthM_eq (by simpa using h), nthM_eq h, List.getElem_set]
  by_cases e : i = j
  · subst e; simp
  · rw [if_neg e, if_neg (fun h => e h.symm)]
theorem nthF_map {M : List (Frm × Value)} {j : Nat} (h : j < M.length) : nthF (M.map fun m => m.1) j = (nthM M j).1 := by
  rw [nthM_eq h]; simp [nthF, List.getD_eq_getElem?_getD, h]
/-- Two rows that are not one. -/
def Sep (u v : Option Nat) : Prop := u = none ∨ u ≠ v
theorem Sep.symm {u v : Option Nat} (h : Sep u v) : Sep v u := by
  cases u <;> cases v <;> simp_all [Sep]
  exact fun e => h e.symm
def Far (M : List (Frm × Value)) : Prop := ∀ i j, i < M.length → j < M.length → i ≠ j → Sep (nthM M i).2.ownBlock (nthM M j).2.ownBlock
theorem Far.set {M : List (Frm × Value)} (h : Far M) {j : Nat} {x : Frm × Value} (hx : x.2 = (nthM M j).2) : Far (M.set j x) := by
  intro i k hi hk hne
  rw [List.length_set] at hi hk
  rw [nthM_set hi, nthM_set hk]
  have e : ∀ i, i < M.length → (if i = j then x else nthM M i).2 = (nthM M i).2 := by
    intro i _
    by_cases e : i = j
    · rw [if_pos e, hx, e]
    · rw [if_neg e]
  rw [e i hi, e k hk]
  exact h i k hi hk hne

section
variable {B : Nat} {M : List (Frm × Value)} {v : Value} {w w' : World}
theorem OwnF.below (h : OwnF B M v w) (b : Below w.heap.size w w') : OwnF B M v w' := h.stay (grown_at b)
theorem OwnI.below' {Bn : Nat} {D : List Int} {v : Value} {w w' : World} (h : OwnI Bn D v w) (b : Below w.heap.size w w') : OwnI Bn D v w' := h.kept (grown_at b) (Classical.em _)
theorem OwnF.mono {B' : Nat} (h : OwnF B M v w) (hb : B' ≤ B) : OwnF B' M v w := by
  refine ⟨⟨h.1.1, ?_⟩, fun m hm => (h.2 m hm).mono hb⟩
  rcases h.1.2 with k | ⟨g, cap, cur, e, hg, r⟩
  · exact .inl k
  · exact .inr ⟨g, cap, cur, e, Nat.le_trans hb hg, r⟩
theorem OwnF.form {a : Option Addr} {n c : Nat} (h : OwnF B M (.slice a n c) w) (hn : 0 < M.length) : ∃ g, a = some ⟨g, 0, none⟩ ∧ n = M.length ∧ B ≤ g ∧ g < w.heap.size ∧ n ≤ c := by
  rcases h.1.2 with ⟨_, h0⟩ | ⟨g, cap, cur, hv, hb, hg, hnc, _⟩
  · omega
  · simp only [Value.slice.injEq] at hv
    obtain ⟨rfl, rfl, rfl⟩ := hv
    exact ⟨g, rfl, rfl, hb, (Array.getElem?_eq_some_iff.1 hg).1, hnc⟩
theorem OwnF.len {a : Option Addr} {n c : Nat} (h : OwnF B M (.slice a n c) w) : n = M.length ∧ n ≤ c := by
  rcases h.1.2 with ⟨e, h0⟩ | ⟨g, cap, cur, hv, hb, hg, hnc, _⟩
  · cases e; exact ⟨h0.symm, Nat.le_refl _⟩
  · simp only [Value.slice.injEq] at hv
    obtain ⟨-, rfl, rfl⟩ := hv
    exact ⟨rfl, hnc⟩
/-- All rows of it lie below this block. -/
def Under (hi : Nat) (M : List (Frm × Value)) (v : Value) : Prop := (∀ q, v.ownBlock = some q → q < hi) ∧ ∀ m ∈ M, ∀ q, m.2.ownBlock = some q → q < hi
theorem OwnF.under (h : OwnF B M v w) : Under w.heap.size M v := ⟨fun q hq => (h.1.lt q hq).2, fun m hm q hq => ((h.2 m hm).1.lt q hq).2⟩
/-- Between these two blocks alone something has turned. -/
structure Mid (lo hi : Nat) (w w' : World) : Prop where
  os : w'.os = w.os
  tape : w'.tape = w.tape
  output : w'.output = w.output
  size : w.heap.size ≤ w'.heap.size
  block : ∀ k, k < w.heap.size → (k < lo ∨ hi ≤ k) → w'.heap[k]? = w.heap[k]?
theorem Mid.refl (lo hi : Nat) (w : World) : Mid lo hi w w := ⟨rfl, rfl, rfl, Nat.le_refl _, fun _ _ _ => rfl⟩
theorem Mid.trans {lo hi : Nat} {a b c : World} (h : Mid lo hi a b) (k : Mid lo hi b c) : Mid lo hi a c :=
  ⟨k.os.trans h.os, k.tape.trans h.tape, k.output.trans h.output, Nat.le_trans h.size k.size, fun i hi hl => (k.block i (Nat.lt_of_lt_of_le hi h.size) hl).trans (h.block i hi hl)⟩
theorem Mid.grown {lo hi : Nat} {a b c : World} {r : Option Nat} (h : Mid lo hi a b) (k : b.grownBy c r) (hr : ∀ q, r = some q → lo ≤ q ∧ q < hi) : Mid lo hi a c :=
  h.trans ⟨k.os, k.tape, k.output, k.size, fun i hi' hl => k.block i hi' fun e => by have := hr i e.symm; omega⟩
theorem Mid.below {lo hi B : Nat} {w w' : World} (h : Mid lo hi w w') (hB : B ≤ lo) (hs : B ≤ w.heap.size) : Below B w w' := ⟨h.os, h.tape, h.output, h.size, fun k hk => h.block k (by omega) (.inl (by omega))⟩
theorem OwnI.mid {lo hi : Nat} {D : List Int} (h : OwnI B D v w) (k : Mid lo hi w w') (hB : hi ≤ B) : OwnI B D v w' := by
  refine ⟨⟨h.1.1, ?_⟩, h.2⟩
  rcases h.1.2 with e | ⟨g, cap, cur, e, hb, hg, r⟩
  · exact .inl e
  · exact .inr ⟨g, cap, cur, e, hb, (k.block g (Array.getElem?_eq_some_iff.1 hg).1 (.inr (by omega))).trans hg, r⟩
theorem OwnF.mid {lo hi : Nat} (h : OwnF B M v w) (k : Mid lo hi w w') (hB : hi ≤ B) : OwnF B M v w' := by
  refine ⟨⟨h.1.1, ?_⟩, fun m hm => (h.2 m hm).mid k hB⟩
  rcases h.1.2 with e | ⟨g, cap, cur, e, hb, hg, r⟩
  · exact .inl e
  · exact .inr ⟨g, cap, cur, e, hb, (k.block g (Array.getElem?_eq_some_iff.1 hg).1 (.inr (by omega))).trans hg, r⟩
end

theorem flatF_set : ∀ (M : List (Frm × Value)) (j : Nat) (x : Frm × Value), j < M.length → ((((flatF M).set (j * 4) (.int .i64 x.1.id)).set (j * 4 + 1) (.bool x.1.rm)).set (j * 4 + 2) (.int .i64 x.1.ln)).set (j * 4 + 3) x.2 = flatF (M.set j x) := by
  intro M
  induction M with
  | nil => intro j x h; simp at h
  | cons m M ih =>
    intro j x h
    cases j with
    | zero => rfl
    | succ j =>
      have k := ih j x (by simpa using h)
      have e1 : (j + 1) * 4 = j * 4 + 1 + 1 + 1 + 1 := by omega
      rw [e1]
      simpa [flatF] using k
theorem flatF_id : ∀ (M : List (Frm × Value)) (j : Nat) (i : Int), j < M.length → (flatF M).set (j * 4) (.int .i64 i) = flatF (M.set j (⟨i, (nthM M j).1.rm, (nthM M j).1.ln, (nthM M j).1.D⟩, (nthM M j).2)) := by
  intro M
  induction M with
  | nil => intro j x h; simp at h
  | cons m M ih =>
    intro j x h
    cases j with
    | zero => rfl
    | succ j =>
      have k := ih j x (by simpa using h)
      have e1 : (j + 1) * 4 = j * 4 + 1 + 1 + 1 + 1 := by omega
      rw [e1]
      simpa [flatF, nthM] using k
theorem flatF_rm : ∀ (M : List (Frm × Value)) (j : Nat) (i : Bool), j < M.length → (flatF M).set (j * 4 + 1) (.bool i) = flatF (M.set j (⟨(nthM M j).1.id, i, (nthM M j).1.ln, (nthM M j).1.D⟩, (nthM M j).2)) := by
  intro M
  induction M with
  | nil => intro j x h; simp at h
  | cons m M ih =>
    intro j x h
    cases j with
    | zero => rfl
    | succ j =>
      have k := ih j x (by simpa using h)
      have e1 : (j + 1) * 4 = j * 4 + 1 + 1 + 1 + 1 := by omega
      rw [e1]
      simpa [flatF, nthM] using k
theorem flatF_ln : ∀ (M : List (Frm × Value)) (j : Nat) (i : Int), j < M.length → (flatF M).set (j * 4 + 2) (.int .i64 i) = flatF (M.set j (⟨(nthM M j).1.id, (nthM M j).1.rm, i, (nthM M j).1.D⟩, (nthM M j).2)) := by
  intro M
  induction M with
  | nil => intro j x h; simp at h
  | cons m M ih =>
    intro j x h
    cases j with
    | zero => rfl
    | succ j =>
      have k := ih j x (by simpa using h)
      have e1 : (j + 1) * 4 = j * 4 + 1 + 1 + 1 + 1 := by omega
      rw [e1]
      simpa [flatF, nthM] using k
theorem flatF_D : ∀ (M : List (Frm × Value)) (j : Nat) (D : List Int), j < M.length → flatF M = flatF (M.set j (⟨(nthM M j).1.id, (nthM M j).1.rm, (nthM M j).1.ln, D⟩, (nthM M j).2)) := by
  intro M
  induction M with
  | nil => intro j x h; simp at h
  | cons m M ih =>
    intro j x h
    cases j with
    | zero => rfl
    | succ j =>
      have k := ih j x (by simpa using h)
      simpa [flatF, nthM] using k
theorem flatF_nth {M : List (Frm × Value)} {j : Nat} (h : j < M.length) : (flatF M)[j * 4]? = some (.int .i64 (nthM M j).1.id) ∧ (flatF M)[j * 4 + 1]? = some (.bool (nthM M j).1.rm) ∧ (flatF M)[j * 4 + 2]? = some (.int .i64 (nthM M j).1.ln) ∧ (flatF M)[j * 4 + 3]? = some (nthM M j).2 := by
  rw [nthM_eq h]; exact flatF_at M j h
theorem flatF_len (M : List (Frm × Value)) : (flatF M).length = M.length * 4 := by
  induction M with
  | nil => rfl
  | cons m M ih => rw [show flatF (m :: M) = [.int .i64 m.1.id, .bool m.1.rm, .int .i64 m.1.ln, m.2] ++ flatF M by rfl, List.length_append, ih]; simp; omega

section
variable {B g c : Nat} {M : List (Frm × Value)} {w w' : World}
/-- A store into the row that changes no data. -/
theorem OwnF.store {k : Nat} {y : Value} {j : Nat} {x : Frm × Value} (h : OwnF B M (.slice (some ⟨g, 0, none⟩) M.length c) w) (hj : j < M.length) (hx : x.2 = (nthM M j).2) (hD : x.1.D = (nthM M j).1.D) (e : (flatF M).set k y = flatF (M.set j x)) :
    OwnF B (M.set j x) (.slice (some ⟨g, 0, none⟩) M.length c) (w.setCell ⟨g, k, none⟩ y) ∧ w.grownBy (w.setCell ⟨g, k, none⟩ y) (some g) := by
  obtain ⟨o, G⟩ := h.1.stored k y
  refine ⟨⟨by rw [List.length_set, ← e]; exact o, fun m hm => ?_⟩, G⟩
  rcases List.mem_or_eq_of_mem_set hm with hm | rfl
  · exact (h.2 m hm).kept G (OwnI.ne_row h (h.2 m hm))
  · have h0 := h.2 _ (nthM_mem hj)
    rw [hx, hD]
    exact h0.kept G (OwnI.ne_row h h0)
theorem OwnF.cells {j : Nat} (h : OwnF B M (.slice (some ⟨g, 0, none⟩) M.length c) w) (hj : j < M.length) :
    w.cell? ⟨g, j * 4, none⟩ = some (.int .i64 (nthM M j).1.id) ∧ w.cell? ⟨g, j * 4 + 1, none⟩ = some (.bool (nthM M j).1.rm) ∧ w.cell? ⟨g, j * 4 + 2, none⟩ = some (.int .i64 (nthM M j).1.ln) ∧ w.cell? ⟨g, j * 4 + 3, none⟩ = some (nthM M j).2 := by
  obtain ⟨f0, f1, f2, f3⟩ := flatF_nth hj
  refine ⟨?_, ?_, ?_, ?_⟩ <;> rw [h.1.cellAt _ (by omega)] <;> assumption
theorem OwnF.frz (h : OwnF B M (.slice (some ⟨g, 0, none⟩) M.length c) w) (j : Nat) : w.frozen? ⟨g, j, none⟩ = false := h.1.frozenAt j
/-- One frame's data turned. -/
theorem OwnF.data {v : Value} {j : Nat} {D : List Int} (h : OwnF B M v w) (f : Far M) (hj : j < M.length) (k : w.grownBy w' (nthM M j).2.ownBlock) (o : OwnI B D (nthM M j).2 w') :
    OwnF B (M.set j (⟨(nthM M j).1.id, (nthM M j).1.rm, (nthM M j).1.ln, D⟩, (nthM M j).2)) v w' := by
  have h0 := h.2 _ (nthM_mem hj)
  refine ⟨?_, fun m hm => ?_⟩
  · rw [List.length_set, ← flatF_D M j D hj]
    exact h.1.kept k (Sep.symm (OwnI.ne_row h h0))
  · obtain ⟨i, hi, rfl⟩ := List.mem_iff_getElem.1 hm
    have hi' : i < M.length := by simpa using hi
    rw [← nthM_eq hi, nthM_set hi']
    by_cases e : i = j
    · rw [if_pos e]; exact o
    · rw [if_neg e]
      exact (h.2 _ (nthM_mem hi')).kept k (f i j hi' hj e)
end
end Go.Proofs.Ytcciabalbdnakab
