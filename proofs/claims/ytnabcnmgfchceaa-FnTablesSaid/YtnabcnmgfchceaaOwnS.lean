/- Frames in rows of the call's own, no two of them on one row: what stores do to them. No program's walk in it. -/
import Derived.Test.YtnabcnmgfchceaaDrawWin
import Derived.Test.YtnabcnmgfchceaaMark
set_option linter.unusedVariables false
set_option linter.unusedSimpArgs false
namespace Go.Proofs.Ytnabcnmgfchceaa
open Go.RowKit

def nthM (M : List (Frm × Value)) (j : Nat) : Frm × Value := M.getD j (⟨0, false, 0, []⟩, .slice none 0 0)
theorem nthM_eq {M : List (Frm × Value)} {j : Nat} (h : j < M.length) : nthM M j = M[j] := by simp [nthM, List.getD_eq_getElem?_getD, h]
theorem nthM_mem {M : List (Frm × Value)} {j : Nat} (h : j < M.length) : nthM M j ∈ M := by rw [nthM_eq h]; exact List.getElem_mem h
theorem nthM_set {M : List (Frm × Value)} {j i : Nat} {x : Frm × Value} (h : i < M.length) : nthM (M.set j x) i = if i = j then x else nthM M i := by
  rw [nthM_eq (by simpa using h), nthM_eq h, List.getElem_set]
  by_cases e : i = j
  · subst e; simp
  · rw [if_neg e, if_neg (fun h => e h.symm)]
theorem nthF_map {M : List (Frm × Value)} {j : Nat} (h : j < M.length) : nthF (M.map fun m => m.1) j = (nthM M j).1 := by
  rw [nthM_eq h]; simp [nthF, List.getD_eq_getElem?_getD, h]
/-- Two rows that are not one. -/
def Sep (u v : Option Nat) : Prop := u = none ∨ u ≠ v
theorem Sep.symm {u v : Option Nat} (h : Sep u v) : Sep v u := by
  cases u <;> cases v <;> simp_all [Sep]
  exact fun e => h e.symm
def Far (M : List (Frm × Value)) : Prop := ∀ i j, i < M.length → j < M.length → i ≠ j → Sep (nthM M i).2.ownBlock (nthM M j).2.ownBlock
theorem Far.set {M : List (Frm × Value)} (h : Far M) {j : Nat} {x : Frm × Value} (hx : x.2 = (nthM M j).2) : Far (M.set j x) := by
  intro i k hi hk hne
  rw [List.length_set] at hi hk
  rw [nthM_set hi, nthM_set hk]
  have e : ∀ i, i < M.length → (if i = j then x else nthM M i).2 = (nthM M i).2 := by
    intro i _
    by_cases e : i = j
    · rw [if_pos e, hx, e]
    · rw [if_neg e]
  rw [e i hi, e k hk]
  exact h i k hi hk hne

section
variable {B : Nat} {M : List (Frm × Value)} {v : Value} {w w' : World}
theorem OwnI.below' {Bn : Nat} {D : List Int} {v : Value} {w w' : World} (h : OwnI Bn D v w) (b : Below w.heap.size w w') : OwnI Bn D v w' := h.kept (grown_at b) (Classical.em _)
/-- All rows of it lie below this block. -/
def Under (hi : Nat) (M : List (Frm × Value)) (v : Value) : Prop := (∀ q, v.ownBlock = some q → q < hi) ∧ ∀ m ∈ M, ∀ q, m.2.ownBlock = some q → q < hi
/-- Between these two blocks alone something has turned. -/
structure Mid (lo hi : Nat) (w w' : World) : Prop where
  os : w'.os = w.os
  tape : w'.tape = w.tape
  output : w'.output = w.output
  size : w.heap.size ≤ w'.heap.size
  block : ∀ k, k < w.heap.size → (k < lo ∨ hi ≤ k) → w'.heap[k]? = w.heap[k]?
theorem Mid.refl (lo hi : Nat) (w : World) : Mid lo hi w w := ⟨rfl, rfl, rfl, Nat.le_refl _, fun _ _ _ => rfl⟩
theorem Mid.trans {lo hi : Nat} {a b c : World} (h : Mid lo hi a b) (k : Mid lo hi b c) : Mid lo hi a c :=
  ⟨k.os.trans h.os, k.tape.trans h.tape, k.output.trans h.output, Nat.le_trans h.size k.size, fun i hi hl => (k.block i (Nat.lt_of_lt_of_le hi h.size) hl).trans (h.block i hi hl)⟩
theorem Mid.grown {lo hi : Nat} {a b c : World} {r : Option Nat} (h : Mid lo hi a b) (k : b.grownBy c r) (hr : ∀ q, r = some q → lo ≤ q ∧ q < hi) : Mid lo hi a c :=
  h.trans ⟨k.os, k.tape, k.output, k.size, fun i hi' hl => k.block i hi' fun e => by have := hr i e.symm; omega⟩
theorem Mid.below {lo hi B : Nat} {w w' : World} (h : Mid lo hi w w') (hB : B ≤ lo) (hs : B ≤ w.heap.size) : Below B w w' := ⟨h.os, h.tape, h.output, h.size, fun k hk => h.block k (by omega) (.inl (by omega))⟩
theorem OwnI.mid {lo hi : Nat} {D : List Int} (h : OwnI B D v w) (k : Mid lo hi w w') (hB : hi ≤ B) : OwnI B D v w' := by
  refine ⟨⟨h.1.1, ?_⟩, h.2⟩
  rcases h.1.2 with e | ⟨g, cap, cur, e, hb, hg, r⟩
  · exact .inl e
  · exact .inr ⟨g, cap, cur, e, hb, (k.block g (Array.getElem?_eq_some_iff.1 hg).1 (.inr (by omega))).trans hg, r⟩
end

theorem flatF_set : ∀ (M : List (Frm × Value)) (j : Nat) (x : Frm × Value), j < M.length → ((((flatF M).set (j * 4) (.int .i64 x.1.id)).set (j * 4 + 1) (.bool x.1.rm)).set (j * 4 + 2) (.int .i64 x.1.ln)).set (j * 4 + 3) x.2 = flatF (M.set j x) := by
  intro M
  induction M with
  | nil => intro j x h; simp at h
  | cons m M ih =>
    intro j x h
    cases j with
    | zero => rfl
    | succ j =>
      have k := ih j x (by simpa using h)
      have e1 : (j + 1) * 4 = j * 4 + 1 + 1 + 1 + 1 := by omega
      rw [e1]
      simpa [flatF] using k
theorem flatF_id : ∀ (M : List (Frm × Value)) (j : Nat) (i : Int), j < M.length → (flatF M).set (j * 4) (.int .i64 i) = flatF (M.set j (⟨i, (nthM M j).1.rm, (nthM M j).1.ln, (nthM M j).1.D⟩, (nthM M j).2)) := by
  intro M
  induction M with
  | nil => intro j x h; simp at h
  | cons m M ih =>
    intro j x h
    cases j with
    | zero => rfl
    | succ j =>
      have k := ih j x (by simpa using h)
      have e1 : (j + 1) * 4 = j * 4 + 1 + 1 + 1 + 1 := by omega
      rw [e1]
      simpa [flatF, nthM] using k
theorem flatF_rm : ∀ (M : List (Frm × Value)) (j : Nat) (i : Bool), j < M.length → (flatF M).set (j * 4 + 1) (.bool i) = flatF (M.set j (⟨(nthM M j).1.id, i, (nthM M j).1.ln, (nthM M j).1.D⟩, (nthM M j).2)) := by
  intro M
  induction M with
  | nil => intro j x h; simp at h
  | cons m M ih =>
    intro j x h
    cases j with
    | zero => rfl
    | succ j =>
      have k := ih j x (by simpa using h)
      have e1 : (j + 1) * 4 = j * 4 + 1 + 1 + 1 + 1 := by omega
      rw [e1]
      simpa [flatF, nthM] using k
theorem flatF_ln : ∀ (M : List (Frm × Value)) (j : Nat) (i : Int), j < M.length → (flatF M).set (j * 4 + 2) (.int .i64 i) = flatF (M.set j (⟨(nthM M j).1.id, (nthM M j).1.rm, i, (nthM M j).1.D⟩, (nthM M j).2)) := by
  intro M
  induction M with
  | nil => intro j x h; simp at h
  | cons m M ih =>
    intro j x h
    cases j with
    | zero => rfl
    | succ j =>
      have k := ih j x (by simpa using h)
      have e1 : (j + 1) * 4 = j * 4 + 1 + 1 + 1 + 1 := by omega
      rw [e1]
      simpa [flatF, nthM] using k
theorem flatF_D : ∀ (M : List (Frm × Value)) (j : Nat) (D : List Int), j < M.length → flatF M = flatF (M.set j (⟨(nthM M j).1.id, (nthM M j).1.rm, (nthM M j).1.ln, D⟩, (nthM M j).2)) := by
  intro M
  induction M with
  | nil => intro j x h; simp at h
  | cons m M ih =>
    intro j x h
    cases j with
    | zero => rfl
    | succ j =>
      have k := ih j x (by simpa using h)
      simpa [flatF, nthM] using k
theorem flatF_nth {M : List (Frm × Value)} {j : Nat} (h : j < M.length) : (flatF M)[j * 4]? = some (.int .i64 (nthM M j).1.id) ∧ (flatF M)[j * 4 + 1]? = some (.bool (nthM M j).1.rm) ∧ (flatF M)[j * 4 + 2]? = some (.int .i64 (nthM M j).1.ln) ∧ (flatF M)[j * 4 + 3]? = some (nthM M j).2 := by
  rw [nthM_eq h]; exact flatF_at M j h
theorem flatF_len (M : List (Frm × Value)) : (flatF M).length = M.length * 4 := by
  induction M with
  | nil => rfl
  | cons m M ih => rw [show flatF (m :: M) = [.int .i64 m.1.id, .bool m.1.rm, .int .i64 m.1.ln, m.2] ++ flatF M by rfl, List.length_append, ih]; simp; omega

section
variable {B g c : Nat} {M : List (Frm × Value)} {w w' : World}
end
end Go.Proofs.Ytnabcnmgfchceaa
