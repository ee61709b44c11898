/- The exact laws' marks: markInt64S, heldInt64S, markFrame, heldFrame. -/
import Derived.Test.YtpenjbpcebfecaaM14
import Derived.Lib.SmallJoins
import Derived.Test.YtpenjbpcebfecaaM3

set_option linter.unusedVariables false
set_option linter.unusedSimpArgs false
set_option maxRecDepth 20000
namespace Go.Proofs.Ytpenjbpcebfecaa
open Go.RowKit

/-- The first j of the numbers marked, from k on. -/
def mkD (k : Int) (D : List Int) (j : Nat) : List Int := ((List.range j).map fun i : Nat => k + (i : Int)) ++ D.drop j
def marks (k : Int) (n : Nat) : List Int := (List.range n).map fun i : Nat => k + (i : Int)
theorem mkD_zero (k : Int) (D : List Int) : mkD k D 0 = D := by simp [mkD]
theorem mkD_all (k : Int) (D : List Int) : mkD k D D.length = marks k D.length := by simp [mkD, marks]
theorem mkD_len {k : Int} {D : List Int} {j : Nat} (h : j ≤ D.length) : (mkD k D j).length = D.length := by simp [mkD]; omega
theorem marks_len (k : Int) (n : Nat) : (marks k n).length = n := by simp [marks]
theorem mkD_succ {k : Int} {D : List Int} {j : Nat} (h : j < D.length) : (mkD k D j).set j (k + (j : Int)) = mkD k D (j + 1) := by
  unfold mkD
  rw [List.set_append_right _ _ (by simp), List.range_succ, List.map_append, List.append_assoc]
  congr 1
  rw [List.length_map, List.length_range, Nat.sub_self, List.drop_eq_getElem_cons h, List.set_cons_zero]
  rfl
theorem marks_nth {k : Int} {n j : Nat} (h : j < n) : nth (marks k n) j = k + (j : Int) := by
  simp [nth, marks, List.getD_eq_getElem?_getD, List.getElem?_map, List.getElem?_range h]

end Go.Proofs.Ytpenjbpcebfecaa

/- Frames in rows of the call's own, no two of them on one row: what stores do to them. No program's walk in it. -/

set_option linter.unusedVariables false
set_option linter.unusedSimpArgs false
set_option maxRecDepth 20000
namespace Go.Proofs.Ytpenjbpcebfecaa
open Go.RowKit

theorem grown_at {w w' : World} (b : Below w.heap.size w w') : w.grownBy w' none := ⟨b.os, b.tape, b.output, b.size, fun k hk _ => b.block k hk⟩
def nthM (M : List (Frm × Value)) (j : Nat) : Frm × Value := M.getD j (⟨0, false, 0, []⟩, .slice none 0 0)
theorem nthM_eq {M : List (Frm × Value)} {j : Nat} (h : j < M.length) : nthM M j = M[j] := by simp [nthM, List.getD_eq_getElem?_getD, h]
theorem nthM_mem {M : List (Frm × Value)} {j : Nat} (h : j < M.length) : nthM M j ∈ M := by rw [nthM_eq h]; exact List.getElem_mem h
theorem nthM_set {M : List (Frm × Value)} {j i : Nat} {x : Frm × Value} (h : i < M.length) : nthM (M.set j x) i = if i = j then x else nthM M i := by
  rw [nthM_eq (by simpa using h), nthM_eq h, List.getElem_set]
  by_cases e : i = j
  · subst e; simp
  · rw [if_neg e, if_neg (fun h => e h.symm)]
theorem nthF_map {M : List (Frm × Value)} {j : Nat} (h : j < M.length) : nthF (M.map fun m => m.1) j = (nthM M j).1 := by
  rw [nthM_eq h]; simp [nthF, List.getD_eq_getElem?_getD, h]
/-- Two rows that are not one. -/
def Sep (u v : Option Nat) : Prop := u = none ∨ u ≠ v
theorem Sep.symm {u v : Option Nat} (h : Sep u v) : Sep v u := by
  cases u <;> cases v <;> simp_all [Sep]
  exact fun e => h e.symm
def Far (M : List (Frm × Value)) : Prop := ∀ i j, i < M.length → j < M.length → i ≠ j → Sep (nthM M i).2.ownBlock (nthM M j).2.ownBlock
theorem Far.set {M : List (Frm × Value)} (h : Far M) {j : Nat} {x : Frm × Value} (hx : x.2 = (nthM M j).2) : Far (M.set j x) := by
  intro i k hi hk hne
  rw [List.length_set] at hi hk
  rw [nthM_set hi, nthM_set hk]
  have e : ∀ i, i < M.length → (if i = j then x else nthM M i).2 = (nthM M i).2 := by
    intro i _
    by_cases e : i = j
    · rw [if_pos e, hx, e]
    · rw [if_neg e]
  rw [e i hi, e k hk]
  exact h i k hi hk hne

section
variable {B : Nat} {M : List (Frm × Value)} {v : Value} {w w' : World}
theorem OwnF.below (h : OwnF B M v w) (b : Below w.heap.size w w') : OwnF B M v w' := h.stay (grown_at b)
theorem OwnI.below' {Bn : Nat} {D : List Int} {v : Value} {w w' : World} (h : OwnI Bn D v w) (b : Below w.heap.size w w') : OwnI Bn D v w' := h.kept (grown_at b) (Classical.em _)
theorem OwnF.mono {B' : Nat} (h : OwnF B M v w) (hb : B' ≤ B) : OwnF B' M v w := by
  refine ⟨⟨h.1.1, ?_⟩, fun m hm => (h.2 m hm).mono hb⟩
  rcases h.1.2 with k | ⟨g, cap, cur, e, hg, r⟩
  · exact .inl k
  · exact .inr ⟨g, cap, cur, e, Nat.le_trans hb hg, r⟩
theorem OwnF.form {a : Option Addr} {n c : Nat} (h : OwnF B M (.slice a n c) w) (hn : 0 < M.length) : ∃ g, a = some ⟨g, 0, none⟩ ∧ n = M.length ∧ B ≤ g ∧ g < w.heap.size ∧ n ≤ c := by
  rcases h.1.2 with ⟨_, h0⟩ | ⟨g, cap, cur, hv, hb, hg, hnc, _⟩
  · omega
  · simp only [Value.slice.injEq] at hv
    obtain ⟨rfl, rfl, rfl⟩ := hv
    exact ⟨g, rfl, rfl, hb, (Array.getElem?_eq_some_iff.1 hg).1, hnc⟩
theorem OwnF.len {a : Option Addr} {n c : Nat} (h : OwnF B M (.slice a n c) w) : n = M.length ∧ n ≤ c := by
  rcases h.1.2 with ⟨e, h0⟩ | ⟨g, cap, cur, hv, hb, hg, hnc, _⟩
  · cases e; exact ⟨h0.symm, Nat.le_refl _⟩
  · simp only [Value.slice.injEq] at hv
    obtain ⟨-, rfl, rfl⟩ := hv
    exact ⟨rfl, hnc⟩
/-- All rows of it lie below this block. -/
def Under (hi : Nat) (M : List (Frm × Value)) (v : Value) : Prop := (∀ q, v.ownBlock = some q → q < hi) ∧ ∀ m ∈ M, ∀ q, m.2.ownBlock = some q → q < hi
theorem OwnF.under (h : OwnF B M v w) : Under w.heap.size M v := ⟨fun q hq => (h.1.lt q hq).2, fun m hm q hq => ((h.2 m hm).1.lt q hq).2⟩
/-- Between these two blocks alone something has turned. -/
structure Mid (lo hi : Nat) (w w' : World) : Prop where
  os : w'.os = w.os
  tape : w'.tape = w.tape
  output : w'.output = w.output
  size : w.heap.size ≤ w'.heap.size
  block : ∀ k, k < w.heap.size → (k < lo ∨ hi ≤ k) → w'.heap[k]? = w.heap[k]?
theorem Mid.refl (lo hi : Nat) (w : World) : Mid lo hi w w := ⟨rfl, rfl, rfl, Nat.le_refl _, fun _ _ _ => rfl⟩
theorem Mid.trans {lo hi : Nat} {a b c : World} (h : Mid lo hi a b) (k : Mid lo hi b c) : Mid lo hi a c :=
  ⟨k.os.trans h.os, k.tape.trans h.tape, k.output.trans h.output, Nat.le_trans h.size k.size, fun i hi hl => (k.block i (Nat.lt_of_lt_of_le hi h.size) hl).trans (h.block i hi hl)⟩
theorem Mid.grown {lo hi : Nat} {a b c : World} {r : Option Nat} (h : Mid lo hi a b) (k : b.grownBy c r) (hr : ∀ q, r = some q → lo ≤ q ∧ q < hi) : Mid lo hi a c :=
  h.trans ⟨k.os, k.tape, k.output, k.size, fun i hi' hl => k.block i hi' fun e => by have := hr i e.symm; omega⟩
theorem Mid.below {lo hi B : Nat} {w w' : World} (h : Mid lo hi w w') (hB : B ≤ lo) (hs : B ≤ w.heap.size) : Below B w w' := ⟨h.os, h.tape, h.output, h.size, fun k hk => h.block k (by omega) (.inl (by omega))⟩
theorem OwnI.mid {lo hi : Nat} {D : List Int} (h : OwnI B D v w) (k : Mid lo hi w w') (hB : hi ≤ B) : OwnI B D v w' := by
  refine ⟨⟨h.1.1, ?_⟩, h.2⟩
  rcases h.1.2 with e | ⟨g, cap, cur, e, hb, hg, r⟩
  · exact .inl e
  · exact .inr ⟨g, cap, cur, e, hb, (k.block g (Array.getElem?_eq_some_iff.1 hg).1 (.inr (by omega))).trans hg, r⟩
theorem OwnF.mid {lo hi : Nat} (h : OwnF B M v w) (k : Mid lo hi w w') (hB : hi ≤ B) : OwnF B M v w' := by
  refine ⟨⟨h.1.1, ?_⟩, fun m hm => (h.2 m hm).mid k hB⟩
  rcases h.1.2 with e | ⟨g, cap, cur, e, hb, hg, r⟩
  · exact .inl e
  · exact .inr ⟨g, cap, cur, e, hb, (k.block g (Array.getElem?_eq_some_iff.1 hg).1 (.inr (by omega))).trans hg, r⟩
end

theorem flatF_set : ∀ (M : List (Frm × Value)) (j : Nat) (x : Frm × Value), j < M.length → ((((flatF M).set (j * 4) (.int .i64 x.1.id)).set (j * 4 + 1) (.bool x.1.rm)).set (j * 4 + 2) (.int .i64 x.1.ln)).set (j * 4 + 3) x.2 = flatF (M.set j x) := by
  intro M
  induction M with
  | nil => intro j x h; simp at h
  | cons m M ih =>
    intro j x h
    cases j with
    | zero => rfl
    | succ j =>
      have k := ih j x (by simpa using h)
      have e1 : (j + 1) * 4 = j * 4 + 1 + 1 + 1 + 1 := by omega
      rw [e1]
      simpa [flatF] using k
theorem flatF_id : ∀ (M : List (Frm × Value)) (j : Nat) (i : Int), j < M.length → (flatF M).set (j * 4) (.int .i64 i) = flatF (M.set j (⟨i, (nthM M j).1.rm, (nthM M j).1.ln, (nthM M j).1.D⟩, (nthM M j).2)) := by
  intro M
  induction M with
  | nil => intro j x h; simp at h
  | cons m M ih =>
    intro j x h
    cases j with
    | zero => rfl
    | succ j =>
      have k := ih j x (by simpa using h)
      have e1 : (j + 1) * 4 = j * 4 + 1 + 1 + 1 + 1 := by omega
      rw [e1]
      simpa [flatF, nthM] using k
theorem flatF_rm : ∀ (M : List (Frm × Value)) (j : Nat) (i : Bool), j < M.length → (flatF M).set (j * 4 + 1) (.bool i) = flatF (M.set j (⟨(nthM M j).1.id, i, (nthM M j).1.ln, (nthM M j).1.D⟩, (nthM M j).2)) := by
  intro M
  induction M with
  | nil => intro j x h; simp at h
  | cons m M ih =>
    intro j x h
    cases j with
    | zero => rfl
    | succ j =>
      have k := ih j x (by simpa using h)
      have e1 : (j + 1) * 4 = j * 4 + 1 + 1 + 1 + 1 := by omega
      rw [e1]
      simpa [flatF, nthM] using k
theorem flatF_ln : ∀ (M : List (Frm × Value)) (j : Nat) (i : Int), j < M.length → (flatF M).set (j * 4 + 2) (.int .i64 i) = flatF (M.set j (⟨(nthM M j).1.id, (nthM M j).1.rm, i, (nthM M j).1.D⟩, (nthM M j).2)) := by
  intro M
  induction M with
  | nil => intro j x h; simp at h
  | cons m M ih =>
    intro j x h
    cases j with
    | zero => rfl
    | succ j =>
      have k := ih j x (by simpa using h)
      have e1 : (j + 1) * 4 = j * 4 + 1 + 1 + 1 + 1 := by omega
      rw [e1]
      simpa [flatF, nthM] using k
theorem flatF_D : ∀ (M : List (Frm × Value)) (j : Nat) (D : List Int), j < M.length → flatF M = flatF (M.set j (⟨(nthM M j).1.id, (nthM M j).1.rm, (nthM M j).1.ln, D⟩, (nthM M j).2)) := by
  intro M
  induction M with
  | nil => intro j x h; simp at h
  | cons m M ih =>
    intro j x h
    cases j with
    | zero => rfl
    | succ j =>
      have k := ih j x (by simpa using h)
      simpa [flatF, nthM] using k
theorem flatF_nth {M : List (Frm × Value)} {j : Nat} (h : j < M.length) : (flatF M)[j * 4]? = some (.int .i64 (nthM M j).1.id) ∧ (flatF M)[j * 4 + 1]? = some (.bool (nthM M j).1.rm) ∧ (flatF M)[j * 4 + 2]? = some (.int .i64 (nthM M j).1.ln) ∧ (flatF M)[j * 4 + 3]? = some (nthM M j).2 := by
  rw [nthM_eq h]; exact flatF_at M j h
theorem flatF_len (M : List (Frm × Value)) : (flatF M).length = M.length * 4 := by
  induction M with
  | nil => rfl
  | cons m M ih => rw [show flatF (m :: M) = [.int .i64 m.1.id, .bool m.1.rm, .int .i64 m.1.ln, m.2] ++ flatF M by rfl, List.length_append, ih]; simp; omega

section
variable {B g c : Nat} {M : List (Frm × Value)} {w w' : World}
/-- A store into the row that changes no data. -/
theorem OwnF.store {k : Nat} {y : Value} {j : Nat} {x : Frm × Value} (h : OwnF B M (.slice (some ⟨g, 0, none⟩) M.length c) w) (hj : j < M.length) (hx : x.2 = (nthM M j).2) (hD : x.1.D = (nthM M j).1.D) (e : (flatF M).set k y = flatF (M.set j x)) :
    OwnF B (M.set j x) (.slice (some ⟨g, 0, none⟩) M.length c) (w.setCell ⟨g, k, none⟩ y) ∧ w.grownBy (w.setCell ⟨g, k, none⟩ y) (some g) := by
  obtain ⟨o, G⟩ := h.1.stored k y
  refine ⟨⟨by rw [List.length_set, ← e]; exact o, fun m hm => ?_⟩, G⟩
  rcases List.mem_or_eq_of_mem_set hm with hm | rfl
  · exact (h.2 m hm).kept G (OwnI.ne_row h (h.2 m hm))
  · have h0 := h.2 _ (nthM_mem hj)
    rw [hx, hD]
    exact h0.kept G (OwnI.ne_row h h0)
theorem OwnF.cells {j : Nat} (h : OwnF B M (.slice (some ⟨g, 0, none⟩) M.length c) w) (hj : j < M.length) :
    w.cell? ⟨g, j * 4, none⟩ = some (.int .i64 (nthM M j).1.id) ∧ w.cell? ⟨g, j * 4 + 1, none⟩ = some (.bool (nthM M j).1.rm) ∧ w.cell? ⟨g, j * 4 + 2, none⟩ = some (.int .i64 (nthM M j).1.ln) ∧ w.cell? ⟨g, j * 4 + 3, none⟩ = some (nthM M j).2 := by
  obtain ⟨f0, f1, f2, f3⟩ := flatF_nth hj
  refine ⟨?_, ?_, ?_, ?_⟩ <;> rw [h.1.cellAt _ (by omega)] <;> assumption
theorem OwnF.frz (h : OwnF B M (.slice (some ⟨g, 0, none⟩) M.length c) w) (j : Nat) : w.frozen? ⟨g, j, none⟩ = false := h.1.frozenAt j
/-- One frame's data turned. -/
theorem OwnF.data {v : Value} {j : Nat} {D : List Int} (h : OwnF B M v w) (f : Far M) (hj : j < M.length) (k : w.grownBy w' (nthM M j).2.ownBlock) (o : OwnI B D (nthM M j).2 w') :
    OwnF B (M.set j (⟨(nthM M j).1.id, (nthM M j).1.rm, (nthM M j).1.ln, D⟩, (nthM M j).2)) v w' := by
  have h0 := h.2 _ (nthM_mem hj)
  refine ⟨?_, fun m hm => ?_⟩
  · rw [List.length_set, ← flatF_D M j D hj]
    exact h.1.kept k (Sep.symm (OwnI.ne_row h h0))
  · obtain ⟨i, hi, rfl⟩ := List.mem_iff_getElem.1 hm
    have hi' : i < M.length := by simpa using hi
    rw [← nthM_eq hi, nthM_set hi']
    by_cases e : i = j
    · rw [if_pos e]; exact o
    · rw [if_neg e]
      exact (h.2 _ (nthM_mem hi')).kept k (f i j hi' hj e)
end
end Go.Proofs.Ytpenjbpcebfecaa

/- The exact laws' copies, marks and looks over a slice of frames: toFrameS (what it owns), markFrameS, heldFrameS. -/

set_option linter.unusedVariables false
set_option linter.unusedSimpArgs false
set_option maxRecDepth 20000
namespace Go.Proofs.Ytpenjbpcebfecaa
open Go.RowKit

/-- The data of the first k frames of the row stand in rows of their own. -/
def FarC (k : Nat) (cur : Array Value) : Prop := ∀ i j, i < k → j < k → i ≠ j → ∀ u v, cur[i * 4 + 3]? = some u → cur[j * 4 + 3]? = some v → Sep u.ownBlock v.ownBlock
theorem FarC.put {k : Nat} {cur cur' : Array Value} {dv : Value} (h : FarC k cur) (h1 : cur'[k * 4 + 3]? = some dv) (h2 : ∀ i, i < k * 4 → cur'[i]? = cur[i]?) (hd : ∀ i, i < k → ∀ u, cur[i * 4 + 3]? = some u → Sep u.ownBlock dv.ownBlock) : FarC (k + 1) cur' := by
  intro i j hi hj hne u v hu hv
  by_cases e : i = k
  · subst e
    rw [h1] at hu
    cases hu
    rw [h2 _ (by omega)] at hv
    exact (hd j (by omega) v hv).symm
  · rw [h2 _ (by omega)] at hu
    by_cases e2 : j = k
    · subst e2
      rw [h1] at hv
      cases hv
      exact hd i (by omega) u hu
    · rw [h2 _ (by omega)] at hv
      exact h i j (by omega) (by omega) hne u v hu hv
theorem RowF.sep {G n k : Nat} {L : List Frm} {cur : Array Value} {w : World} (h : RowF G n k L cur w) {dv : Value} (hd : ∀ q, dv.ownBlock = some q → w.heap.size ≤ q) : ∀ i, i < k → ∀ u, cur[i * 4 + 3]? = some u → Sep u.ownBlock dv.ownBlock := by
  intro i hi u hu
  obtain ⟨dj, e0, e1, e2, e3, ho⟩ := h.fr i hi
  rw [e3] at hu
  cases hu
  cases hq : u.ownBlock with
  | none => exact .inl rfl
  | some q => exact .inr fun e => by have h1 := (ho.1.lt q hq).2; have h2 := hd q e.symm; omega
/-- What a copy of frames leaves. -/
def GotF (L : List Frm) (w : World) (e : Ending) (w' : World) : Prop :=
  ∃ (M : List (Frm × Value)) (a : Option Addr) (c : Nat), e = .returned (.slice a L.length c) ∧ (M.map fun m => m.1) = L ∧ OwnF w.heap.size M (.slice a L.length c) w' ∧ Far M ∧ Below w.heap.size w w'
theorem RowF.own {G n : Nat} {L : List Frm} {cur : Array Value} {w : World} (h : RowF G n L.length L cur w) (hn : n = L.length) (hf : FarC L.length cur) (hm : L.length ≤ maxLen) {B : Nat} (hB : B ≤ G) :
    ∃ M : List (Frm × Value), (M.map fun m => m.1) = L ∧ OwnF B M (.slice (some ⟨G, 0, none⟩) L.length L.length) w ∧ Far M := by
  subst hn
  have hlen := h.len
  have hel : ∀ j (hj : j < ((List.range L.length).map fun j => (nthF L j, (cur[j * 4 + 3]?).getD (.slice none 0 0))).length), ((List.range L.length).map fun j => (nthF L j, (cur[j * 4 + 3]?).getD (Value.slice none 0 0)))[j] = (nthF L j, (cur[j * 4 + 3]?).getD (.slice none 0 0)) := by intro j hj; simp
  have hML : ((List.range L.length).map fun j => (nthF L j, (cur[j * 4 + 3]?).getD (Value.slice none 0 0))).length = L.length := by simp
  generalize hM : ((List.range L.length).map fun j => (nthF L j, (cur[j * 4 + 3]?).getD (Value.slice none 0 0))) = M at hel hML
  have hmap : (M.map fun m => m.1) = L := by
    apply List.ext_getElem?
    intro j
    by_cases hj : j < L.length
    · have hj2 : j < M.length := by omega
      rw [List.getElem?_eq_getElem (by simpa using hj2), List.getElem?_eq_getElem hj, List.getElem_map, hel j hj2]
      simp [nthF, List.getD_eq_getElem?_getD, hj]
    · rw [List.getElem?_eq_none (by simp; omega), List.getElem?_eq_none (by omega)]
  refine ⟨M, hmap, ⟨⟨?_, .inr ⟨G, L.length, cur, by rw [hML], hB, h.blk, by omega, hm, hlen, ?_⟩⟩, fun m hm => ?_⟩, fun i j hi hj hne => ?_⟩
  · rw [flatF_len]
  · have hfl := flatF_len M
    apply List.ext_getElem?
    intro j
    by_cases hj : j < M.length * 4
    · rw [List.getElem?_take, if_pos hj, Array.getElem?_toList]
      have hi : j / 4 < M.length := by omega
      obtain ⟨f0, f1, f2, f3⟩ := flatF_at M (j / 4) hi
      obtain ⟨dv, e0, e1, e2, e3, -⟩ := h.fr (j / 4) (by omega)
      rw [hel _ hi] at f0 f1 f2 f3
      rw [e3] at f3
      have hcase : j = j / 4 * 4 ∨ j = j / 4 * 4 + 1 ∨ j = j / 4 * 4 + 2 ∨ j = j / 4 * 4 + 3 := by omega
      rcases hcase with hc | hc | hc | hc
      · rw [hc, e0, f0]
      · rw [hc, e1, f1]
      · rw [hc, e2, f2]
      · rw [hc, e3, f3]; rfl
    · rw [List.getElem?_eq_none (by simp; omega), List.getElem?_eq_none (by omega)]
  · obtain ⟨i, hi, rfl⟩ := List.mem_iff_getElem.1 hm
    rw [hel i hi]
    obtain ⟨dv, e0, e1, e2, e3, ho⟩ := h.fr i (by omega)
    rw [e3]
    exact ho.mono (by omega)
  · rw [nthM_eq hi, nthM_eq hj, hel i hi, hel j hj]
    obtain ⟨du, _, _, _, e3, _⟩ := h.fr i (by omega)
    obtain ⟨dv, _, _, _, k3, _⟩ := h.fr j (by omega)
    rw [e3, k3]
    exact hf i j (by omega) (by omega) hne du dv e3 k3

/-- laws.toFrameS, and what it owns. -/
theorem toFramesOwn (a : Option Addr) (L : List Frm) (c : Nat) (w : World) (hd : Frs a L w) (h : L.length + room L L.length ≤ 1048576) :
    Calls Try.prog 15 #[.slice a L.length c] w (GotF L w) := by
  have hmk := make_frames L.length (by omega)
  go_enter Try.func15, Try.ntmps15
  go_wp2_with fail
  clear hmk
  go_loopw [4] (fun i wr => ∃ (k : Nat) (cur : Array Value), k ≤ L.length ∧ i = .int .i64 k ∧ RowF w.heap.size L.length k L cur wr ∧ FarC k cur ∧ Below w.heap.size w wr) (fun i _ => L.length - (intOf i).toNat)
  case atStart => exact ⟨0, _, Nat.zero_le _, rfl, ⟨heap_alloc_new _ _, by simp [madeCells], fun j hj => absurd hj (by omega)⟩, fun i j hi => absurd hi (by omega), (Below.refl _ _).alloc (Nat.le_refl _) _⟩
  case round =>
    obtain ⟨k, cur, hk, rfl, R, FC, b⟩ := hrel
    by_cases hlt : k < L.length
    · obtain ⟨g, o, ad, cc, rfl, ⟨c0, c1, c2, c3⟩, hn⟩ := (hd.below b).2 k hlt
      have hs := room_succ L k hlt
      have hl := room_le L (show k + 1 ≤ L.length by omega)
      have hf0 : nthF L k = ⟨(nthF L k).id, (nthF L k).rm, (nthF L k).ln, (nthF L k).D⟩ := rfl
      generalize (nthF L k).id = id at *
      generalize (nthF L k).rm = rm at *
      generalize (nthF L k).ln = ln at *
      generalize (nthF L k).D = D at *
      have hf := Lib.hid hf0
      clear hf0
      go_wp2_with fail
      refine (toFrOwn _ _ _ _ _ _ _ hn (by omega)).mono ?_
      rintro e w2 ⟨a', rfl, ho, b2⟩
      have hsep := Lib.hid (R.sep fun q hq => (ho.1.lt q hq).1)
      have ho' := ho.mono (B' := w.heap.size + 1) R.lt
      replace R := R.below b2
      replace b := Below.then2 b b2
      clear b2 hn c0 c1 c2 c3 ho
      obtain ⟨x0, x1, x2, x3, y0, y1, y2, y3⟩ := R.cells hlt
      have z0 := R.free (k * 4)
      have z1 := R.free (k * 4 + 1)
      have z2 := R.free (k * 4 + 2)
      have z3 := R.free (k * 4 + 3)
      go_wp2_with fail
      go_roundw
      case rel =>
        obtain ⟨cur', R', r1, r2⟩ := R.put hlt hf.out ho'
        exact ⟨k + 1, cur', by omega, by go_num, R', FC.put r1 r2 hsep.out, (((b.setCell (Nat.le_refl _) _).setCell (Nat.le_refl _) _).setCell (Nat.le_refl _) _).setCell (Nat.le_refl _) _⟩
      case measure => simp [intOf]; omega
    · obtain rfl : k = L.length := by omega
      obtain ⟨M, hM, hO, hF⟩ := R.own rfl FC hd.1 (Nat.le_refl _)
      go_wp2_with fail
      go_ret
      exact ⟨M, _, _, rfl, hM, hO, hF, b⟩

/-- The number ahead of frame j. -/
def kAt (k : Int) (L : List Frm) (j : Nat) : Int := k + 3 * (j : Int) + (room L j : Int)
def mkF (k : Int) (f : Frm) : Frm := ⟨k, (k + 1) % 3 == 0, k + 1 + 1, marks (k + 1 + 1 + 1) f.D.length⟩
def mkL (k : Int) (L : List Frm) : List Frm := (List.range L.length).map fun j => mkF (kAt k L j) (nthF L j)
theorem mkL_len (k : Int) (L : List Frm) : (mkL k L).length = L.length := by simp [mkL]
theorem mkL_nth {k : Int} {L : List Frm} {j : Nat} (h : j < L.length) : nthF (mkL k L) j = mkF (kAt k L j) (nthF L j) := by
  simp [nthF, mkL, List.getD_eq_getElem?_getD, h]
theorem kAt_succ {k : Int} {L : List Frm} {j : Nat} (h : j < L.length) : kAt k L (j + 1) = kAt k L j + 1 + 1 + 1 + ((nthF L j).D.length : Int) := by
  have := room_succ L j h
  simp only [kAt]; omega
/-- The first j of them are marked. -/
structure Mk (k : Int) (L : List Frm) (M0 : List (Frm × Value)) (j : Nat) (M : List (Frm × Value)) : Prop where
  len : M.length = M0.length
  dat : ∀ i, i < M.length → (nthM M i).2 = (nthM M0 i).2
  low : ∀ i, i < j → (nthM M i).1 = mkF (kAt k L i) (nthF L i)
  high : ∀ i, j ≤ i → i < M.length → nthM M i = nthM M0 i
theorem Mk.zero (k : Int) (L : List Frm) (M : List (Frm × Value)) : Mk k L M 0 M := ⟨rfl, fun _ _ => rfl, fun i hi => absurd hi (by omega), fun _ _ _ => rfl⟩
theorem Mk.succ {k : Int} {L : List Frm} {M0 M M' : List (Frm × Value)} {j : Nat} (h : Mk k L M0 j M) (hj : j < M.length) (hl : M'.length = M.length) (hs : ∀ i, i < M.length → nthM M' i = if i = j then (mkF (kAt k L j) (nthF L j), (nthM M j).2) else nthM M i) : Mk k L M0 (j + 1) M' := by
  refine ⟨hl.trans h.len, fun i hi => ?_, fun i hi => ?_, fun i hi hi2 => ?_⟩
  · rw [hs i (by omega)]
    by_cases e : i = j
    · rw [if_pos e, e]; exact h.dat j hj
    · rw [if_neg e]; exact h.dat i (by omega)
  · rw [hs i (by omega)]
    by_cases e : i = j
    · rw [if_pos e, e]
    · rw [if_neg e]; exact h.low i (by omega)
  · rw [hs i (by omega), if_neg (by omega)]; exact h.high i (by omega) (by omega)
theorem Mk.far {k : Int} {L : List Frm} {M0 M : List (Frm × Value)} {j : Nat} (h : Mk k L M0 j M) (f : Far M0) : Far M := by
  intro i l hi hl hne
  rw [h.dat i hi, h.dat l hl]
  exact f i l (by rw [← h.len]; exact hi) (by rw [← h.len]; exact hl) hne
theorem Mk.done {k : Int} {L : List Frm} {M0 M : List (Frm × Value)} (h : Mk k L M0 M0.length M) (hL : M0.length = L.length) : (M.map fun m => m.1) = mkL k L := by
  have hl := h.len
  apply List.ext_getElem?
  intro j
  by_cases hj : j < L.length
  · rw [List.getElem?_eq_getElem (by simp; omega), List.getElem?_eq_getElem (by rw [mkL_len]; exact hj), List.getElem_map, ← nthM_eq (by omega), h.low j (by omega)]
    simp [mkL]
  · rw [List.getElem?_eq_none (by simp; omega), List.getElem?_eq_none (by rw [mkL_len]; omega)]

theorem Mk.done' {k : Int} {L : List Frm} {M0 M : List (Frm × Value)} (hL : M0.length = L.length) (h : Mk k L M0 L.length M) : (M.map fun m => m.1) = mkL k L := Mk.done (by rw [hL]; exact h) hL
/-- What marks leave. -/
def Marked (B hi : Nat) (L : List Frm) (a : Option Addr) (c : Nat) (k : Int) (w : World) (e : Ending) (w' : World) : Prop :=
  ∃ M' : List (Frm × Value), e = .returned (.int .i64 (kAt k L L.length)) ∧ (M'.map fun m => m.1) = mkL k L ∧ OwnF B M' (.slice a L.length c) w' ∧ Far M' ∧ Mid B hi w w'

/-- The same, and that its rows still lie below. -/
def MarkedU (B hi : Nat) (L : List Frm) (a : Option Addr) (c : Nat) (k : Int) (w : World) (e : Ending) (w' : World) : Prop :=
  ∃ M' : List (Frm × Value), e = .returned (.int .i64 (kAt k L L.length)) ∧ (M'.map fun m => m.1) = mkL k L ∧ OwnF B M' (.slice a L.length c) w' ∧ Far M' ∧ Mid B hi w w' ∧ Under hi M' (.slice a L.length c)
theorem Mk.under {k : Int} {L : List Frm} {M0 M : List (Frm × Value)} {j hi : Nat} {v : Value} (h : Mk k L M0 j M) (u : Under hi M0 v) : Under hi M v := by
  refine ⟨u.1, fun m hm q hq => ?_⟩
  obtain ⟨i, hi, rfl⟩ := List.mem_iff_getElem.1 hm
  have hl := h.len
  rw [← nthM_eq hi, h.dat i hi] at hq
  exact u.2 _ (nthM_mem (by omega)) q hq
end Go.Proofs.Ytpenjbpcebfecaa

/- spec.l4CopyAll, spec.TakenOut: copies of frames, appended one by one to a row of the call's own. -/

set_option linter.unusedVariables false
set_option linter.unusedSimpArgs false
set_option maxRecDepth 20000
namespace Go.Proofs.Ytpenjbpcebfecaa
open Go.RowKit

/-- What a copy by appends leaves: a slice with an address. -/
def GotO (L : List Frm) (w : World) (e : Ending) (w' : World) : Prop :=
  ∃ (M : List (Frm × Value)) (g c : Nat), e = .returned (.slice (some ⟨g, 0, none⟩) L.length c) ∧ (M.map fun m => m.1) = L ∧ OwnF w.heap.size M (.slice (some ⟨g, 0, none⟩) L.length c) w' ∧ Below w.heap.size w w'
theorem own_made (w : World) {B : Nat} (hB : B ≤ w.heap.size) : OwnF B [] (.slice (some ⟨w.heap.size, 0, none⟩) 0 0) (w.alloc (.cells #[] 33)) :=
  ⟨World.ownsRow_made (base := B) (e := 33) (size := 4) w #[] 0 hB (Nat.zero_le _) rfl, fun m hm => by cases hm⟩
theorem map_snoc {M : List (Frm × Value)} {L : List Frm} {f : Frm} {v : Value} (h : (M.map fun m => m.1) = L) : ((M ++ [(f, v)]).map fun m => m.1) = L ++ [f] := by simp [h]
theorem takeF_snoc {L : List Frm} {k : Nat} (h : k < L.length) : L.take (k + 1) = L.take k ++ [nthF L k] := by
  rw [List.take_add_one, List.getElem?_eq_getElem h, nthF_eq h]; rfl

end Go.Proofs.Ytpenjbpcebfecaa
