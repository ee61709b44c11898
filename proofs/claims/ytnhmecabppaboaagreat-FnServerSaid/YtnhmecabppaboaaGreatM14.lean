/- The exact laws' marks: markInt64S, heldInt64S, markFrame, heldFrame. -/
import Derived.Test.YtnhmecabppaboaaGreatM13
import Derived.Lib.SmallJoins
import Derived.Test.YtnhmecabppaboaaGreatM3
import Derived.Test.YtnhmecabppaboaaGreatM18

set_option linter.unusedVariables false
set_option linter.unusedSimpArgs false
set_option maxRecDepth 20000
namespace Go.Proofs.YtnhmecabppaboaaGreat
open Go.RowKit

/-- The first j of the numbers marked, from k on. -/
def mkD (k : Int) (D : List Int) (j : Nat) : List Int := ((List.range j).map fun i : Nat => k + (i : Int)) ++ D.drop j
def marks (k : Int) (n : Nat) : List Int := (List.range n).map fun i : Nat => k + (i : Int)
theorem mkD_zero (k : Int) (D : List Int) : mkD k D 0 = D := by simp [mkD]
theorem mkD_all (k : Int) (D : List Int) : mkD k D D.length = marks k D.length := by simp [mkD, marks]
theorem mkD_len {k : Int} {D : List Int} {j : Nat} (h : j ≤ D.length) : (mkD k D j).length = D.length := by simp [mkD]; omega
theorem marks_len (k : Int) (n : Nat) : (marks k n).length = n := by simp [marks]
theorem mkD_succ {k : Int} {D : List Int} {j : Nat} (h : j < D.length) : (mkD k D j).set j (k + (j : Int)) = mkD k D (j + 1) := by
  unfold mkD
  rw [List.set_append_right _ _ (by simp), List.range_succ, List.map_append, List.append_assoc]
  congr 1
  rw [List.length_map, List.length_range, Nat.sub_self, List.drop_eq_getElem_cons h, List.set_cons_zero]
  rfl
theorem marks_nth {k : Int} {n j : Nat} (h : j < n) : nth (marks k n) j = k + (j : Int) := by
  simp [nth, marks, List.getD_eq_getElem?_getD, List.getElem?_map, List.getElem?_range h]

theorem markInts (Bn : Nat) (D : List Int) (a : Option Addr) (c : Nat) (k : Int) (w : World) (HO : OwnI Bn D (.slice a D.length c) w) (hn : D.length ≤ 2000000) (h0 : 0 ≤ k) (h1 : k ≤ 1000000000) :
    Calls Tryz.prog 60 #[.slice a D.length c, .int .i64 k] w fun e w' => e = .returned (.int .i64 (k + (D.length : Int))) ∧ OwnI Bn (marks k D.length) (.slice a D.length c) w' ∧ w.grownBy w' (Value.slice a D.length c).ownBlock := by
  go_enter Tryz.func60, Tryz.ntmps60
  go_wp2
  go_loopw [1, 5] (fun q i wr => ∃ j : Nat, j ≤ D.length ∧ q = .int .i64 (k + (j : Int)) ∧ i = .int .i64 j ∧ OwnI Bn (mkD k D j) (.slice a D.length c) wr ∧ w.grownBy wr (Value.slice a D.length c).ownBlock) (fun _ i _ => D.length - (intOf i).toNat)
  case atStart => exact ⟨0, Nat.zero_le _, by simp, rfl, by rw [mkD_zero]; exact HO, ⟨rfl, rfl, rfl, Nat.le_refl _, fun _ _ _ => rfl⟩⟩
  case round =>
    obtain ⟨j, hj, rfl, rfl, HO2, G⟩ := hrel
    by_cases hjn : j < D.length
    · obtain ⟨kb, c', e⟩ := Go.Joins.ownsRow_form HO.1 (by omega)
      simp only [Value.slice.injEq, true_and] at e
      obtain ⟨rfl, rfl⟩ := e
      have hl := mkD_len (k := k) (D := D) hj
      have o := HO2.1
      rw [hl] at o
      obtain ⟨x, hz⟩ : ∃ x, wr.cell? ⟨kb, j, none⟩ = some x := ⟨_, (o.cellAt j (by omega)).trans (List.getElem?_eq_getElem (by rw [List.length_map, hl]; exact hjn))⟩
      have hf := o.frozenAt j
      obtain ⟨o1, k1⟩ := o.stored j (.int .i64 (k + (j : Int)))
      have hb := mkD_len (k := k) (D := D) (j := j + 1) (by omega)
      have HO3 : OwnI Bn (mkD k D (j + 1)) (.slice (some ⟨kb, 0, none⟩) D.length c) (wr.setCell ⟨kb, j, none⟩ (.int .i64 (k + (j : Int)))) := by
        rw [← mkD_succ hjn]
        refine ⟨?_, fun y hy => ?_⟩
        · rw [List.length_set, hl, List.map_set]; exact o1
        · rcases List.mem_or_eq_of_mem_set hy with hy | rfl
          · exact HO2.2 y hy
          · exact Go.WalkArith.wf_i64 ⟨by omega, by omega⟩
      clear o o1 HO2 hl hb
      generalize hm : D.length = m at *
      go_wp2_with fail
      go_roundw
      case rel => exact ⟨j + 1, by omega, by go_num, by go_num, HO3, grown_trans G k1⟩
      case measure => simp [intOf]; omega
    · obtain rfl : j = D.length := by omega
      rw [mkD_all] at HO2
      generalize hm : D.length = m at *
      go_wp2_with fail
      go_ret
      subst hm
      exact ⟨rfl, HO2, G⟩
theorem heldInts (a : Option Addr) (n c : Nat) (k : Int) (w : World) (hN : Nums a (marks k n) w) (hn : n ≤ 2000000) (h0 : 0 ≤ k) (h1 : k ≤ 1000000000) :
    Calls Tryz.prog 62 #[.slice a n c, .int .i64 k] w fun e w' => e = .returned (.int .i64 (k + (n : Int))) ∧ w = w' := by
  go_enter Tryz.func62, Tryz.ntmps62
  go_wp2
  go_loopw [1, 5] (fun q i wr => ∃ j : Nat, j ≤ n ∧ q = .int .i64 (k + (j : Int)) ∧ i = .int .i64 j ∧ wr = w) (fun _ i _ => n - (intOf i).toNat)
  case atStart => exact ⟨0, Nat.zero_le _, by simp, rfl, rfl⟩
  case round =>
    obtain ⟨j, hj, rfl, rfl, rfl⟩ := hrel
    by_cases hjn : j < n
    · obtain ⟨b, off, rfl, hc⟩ := hN.2.2 j (by rw [marks_len]; exact hjn)
      rw [marks_nth hjn] at hc
      clear hN
      go_wp2_with fail
      go_roundw
      case rel => exact ⟨j + 1, by omega, by go_num, by go_num, trivial⟩
      case measure => simp [intOf]; omega
    · obtain rfl : j = n := by omega
      go_wp2_with fail
      go_ret
      exact ⟨rfl, rfl⟩
end Go.Proofs.YtnhmecabppaboaaGreat

/- Frames in rows of the call's own, no two of them on one row: what stores do to them. No program's walk in it. -/

set_option linter.unusedVariables false
set_option linter.unusedSimpArgs false
set_option maxRecDepth 20000
namespace Go.Proofs.YtnhmecabppaboaaGreat
open Go.RowKit

def nthM (M : List (Frm × Value)) (j : Nat) : Frm × Value := M.getD j (⟨0, false, 0, []⟩, .slice none 0 0)
theorem nthM_eq {M : List (Frm × Value)} {j : Nat} (h : j < M.length) : nthM M j = M[j] := by simp [nthM, List.getD_eq_getElem?_getD, h]
theorem nthM_mem {M : List (Frm × Value)} {j : Nat} (h : j < M.length) : nthM M j ∈ M := by rw [nthM_eq h]; exact List.getElem_mem h
theorem nthM_set {M : List (Frm × Value)} {j i : Nat} {x : Frm × Value} (h : i < M.length) : nthM (M.set j x) i = if i = j then x else nthM M i := by
  rw [nthM_eq (by simpa using h), nthM_eq h, List.getElem_set]
  by_cases e : i = j
  · subst e; simp
  · rw [if_neg e, if_neg (fun h => e h.symm)]
theorem nthF_map {M : List (Frm × Value)} {j : Nat} (h : j < M.length) : nthF (M.map fun m => m.1) j = (nthM M j).1 := by
  rw [nthM_eq h]; simp [nthF, List.getD_eq_getElem?_getD, h]
/-- Two rows that are not one. -/
def Sep (u v : Option Nat) : Prop := u = none ∨ u ≠ v
theorem Sep.symm {u v : Option Nat} (h : Sep u v) : Sep v u := by
  cases u <;> cases v <;> simp_all [Sep]
  exact fun e => h e.symm
def Far (M : List (Frm × Value)) : Prop := ∀ i j, i < M.length → j < M.length → i ≠ j → Sep (nthM M i).2.ownBlock (nthM M j).2.ownBlock
theorem Far.set {M : List (Frm × Value)} (h : Far M) {j : Nat} {x : Frm × Value} (hx : x.2 = (nthM M j).2) : Far (M.set j x) := by
  intro i k hi hk hne
  rw [List.length_set] at hi hk
  rw [nthM_set hi, nthM_set hk]
  have e : ∀ i, i < M.length → (if i = j then x else nthM M i).2 = (nthM M i).2 := by
    intro i _
    by_cases e : i = j
    · rw [if_pos e, hx, e]
    · rw [if_neg e]
  rw [e i hi, e k hk]
  exact h i k hi hk hne

section
variable {B : Nat} {M : List (Frm × Value)} {v : Value} {w w' : World}
theorem OwnF.below (h : OwnF B M v w) (b : Below w.heap.size w w') : OwnF B M v w' := h.stay (grown_at b)
theorem OwnI.below' {Bn : Nat} {D : List Int} {v : Value} {w w' : World} (h : OwnI Bn D v w) (b : Below w.heap.size w w') : OwnI Bn D v w' := h.kept (grown_at b) (Classical.em _)
theorem OwnF.mono {B' : Nat} (h : OwnF B M v w) (hb : B' ≤ B) : OwnF B' M v w := by
  refine ⟨⟨h.1.1, ?_⟩, fun m hm => (h.2 m hm).mono hb⟩
  rcases h.1.2 with k | ⟨g, cap, cur, e, hg, r⟩
  · exact .inl k
  · exact .inr ⟨g, cap, cur, e, Nat.le_trans hb hg, r⟩
theorem OwnF.form {a : Option Addr} {n c : Nat} (h : OwnF B M (.slice a n c) w) (hn : 0 < M.length) : ∃ g, a = some ⟨g, 0, none⟩ ∧ n = M.length ∧ B ≤ g ∧ g < w.heap.size ∧ n ≤ c := by
  rcases h.1.2 with ⟨_, h0⟩ | ⟨g, cap, cur, hv, hb, hg, hnc, _⟩
  · omega
  · simp only [Value.slice.injEq] at hv
    obtain ⟨rfl, rfl, rfl⟩ := hv
    exact ⟨g, rfl, rfl, hb, (Array.getElem?_eq_some_iff.1 hg).1, hnc⟩
theorem OwnF.len {a : Option Addr} {n c : Nat} (h : OwnF B M (.slice a n c) w) : n = M.length ∧ n ≤ c := by
  rcases h.1.2 with ⟨e, h0⟩ | ⟨g, cap, cur, hv, hb, hg, hnc, _⟩
  · cases e; exact ⟨h0.symm, Nat.le_refl _⟩
  · simp only [Value.slice.injEq] at hv
    obtain ⟨-, rfl, rfl⟩ := hv
    exact ⟨rfl, hnc⟩
/-- All rows of it lie below this block. -/
def Under (hi : Nat) (M : List (Frm × Value)) (v : Value) : Prop := (∀ q, v.ownBlock = some q → q < hi) ∧ ∀ m ∈ M, ∀ q, m.2.ownBlock = some q → q < hi
theorem OwnF.under (h : OwnF B M v w) : Under w.heap.size M v := ⟨fun q hq => (h.1.lt q hq).2, fun m hm q hq => ((h.2 m hm).1.lt q hq).2⟩
/-- Between these two blocks alone something has turned. -/
structure Mid (lo hi : Nat) (w w' : World) : Prop where
  os : w'.os = w.os
  tape : w'.tape = w.tape
  output : w'.output = w.output
  size : w.heap.size ≤ w'.heap.size
  block : ∀ k, k < w.heap.size → (k < lo ∨ hi ≤ k) → w'.heap[k]? = w.heap[k]?
theorem Mid.refl (lo hi : Nat) (w : World) : Mid lo hi w w := ⟨rfl, rfl, rfl, Nat.le_refl _, fun _ _ _ => rfl⟩
theorem Mid.trans {lo hi : Nat} {a b c : World} (h : Mid lo hi a b) (k : Mid lo hi b c) : Mid lo hi a c :=
  ⟨k.os.trans h.os, k.tape.trans h.tape, k.output.trans h.output, Nat.le_trans h.size k.size, fun i hi hl => (k.block i (Nat.lt_of_lt_of_le hi h.size) hl).trans (h.block i hi hl)⟩
theorem Mid.grown {lo hi : Nat} {a b c : World} {r : Option Nat} (h : Mid lo hi a b) (k : b.grownBy c r) (hr : ∀ q, r = some q → lo ≤ q ∧ q < hi) : Mid lo hi a c :=
  h.trans ⟨k.os, k.tape, k.output, k.size, fun i hi' hl => k.block i hi' fun e => by have := hr i e.symm; omega⟩
theorem Mid.below {lo hi B : Nat} {w w' : World} (h : Mid lo hi w w') (hB : B ≤ lo) (hs : B ≤ w.heap.size) : Below B w w' := ⟨h.os, h.tape, h.output, h.size, fun k hk => h.block k (by omega) (.inl (by omega))⟩
theorem OwnI.mid {lo hi : Nat} {D : List Int} (h : OwnI B D v w) (k : Mid lo hi w w') (hB : hi ≤ B) : OwnI B D v w' := by
  refine ⟨⟨h.1.1, ?_⟩, h.2⟩
  rcases h.1.2 with e | ⟨g, cap, cur, e, hb, hg, r⟩
  · exact .inl e
  · exact .inr ⟨g, cap, cur, e, hb, (k.block g (Array.getElem?_eq_some_iff.1 hg).1 (.inr (by omega))).trans hg, r⟩
theorem OwnF.mid {lo hi : Nat} (h : OwnF B M v w) (k : Mid lo hi w w') (hB : hi ≤ B) : OwnF B M v w' := by
  refine ⟨⟨h.1.1, ?_⟩, fun m hm => (h.2 m hm).mid k hB⟩
  rcases h.1.2 with e | ⟨g, cap, cur, e, hb, hg, r⟩
  · exact .inl e
  · exact .inr ⟨g, cap, cur, e, hb, (k.block g (Array.getElem?_eq_some_iff.1 hg).1 (.inr (by omega))).trans hg, r⟩
end

theorem flatF_set : ∀ (M : List (Frm × Value)) (j : Nat) (x : Frm × Value), j < M.length → ((((flatF M).set (j * 4) (.int .i64 x.1.id)).set (j * 4 + 1) (.bool x.1.rm)).set (j * 4 + 2) (.int .i64 x.1.ln)).set (j * 4 + 3) x.2 = flatF (M.set j x) := by
  intro M
  induction M with
  | nil => intro j x h; simp at h
  | cons m M ih =>
    intro j x h
    cases j with
    | zero => rfl
    | succ j =>
      have k := ih j x (by simpa using h)
      have e1 : (j + 1) * 4 = j * 4 + 1 + 1 + 1 + 1 := by omega
      rw [e1]
      simpa [flatF] using k
theorem flatF_id : ∀ (M : List (Frm × Value)) (j : Nat) (i : Int), j < M.length → (flatF M).set (j * 4) (.int .i64 i) = flatF (M.set j (⟨i, (nthM M j).1.rm, (nthM M j).1.ln, (nthM M j).1.D⟩, (nthM M j).2)) := by
  intro M
  induction M with
  | nil => intro j x h; simp at h
  | cons m M ih =>
    intro j x h
    cases j with
    | zero => rfl
    | succ j =>
      have k := ih j x (by simpa using h)
      have e1 : (j + 1) * 4 = j * 4 + 1 + 1 + 1 + 1 := by omega
      rw [e1]
      simpa [flatF, nthM] using k
theorem flatF_rm : ∀ (M : List (Frm × Value)) (j : Nat) (i : Bool), j < M.length → (flatF M).set (j * 4 + 1) (.bool i) = flatF (M.set j (⟨(nthM M j).1.id, i, (nthM M j).1.ln, (nthM M j).1.D⟩, (nthM M j).2)) := by
  intro M
  induction M with
  | nil => intro j x h; simp at h
  | cons m M ih =>
    intro j x h
    cases j with
    | zero => rfl
    | succ j =>
      have k := ih j x (by simpa using h)
      have e1 : (j + 1) * 4 = j * 4 + 1 + 1 + 1 + 1 := by omega
      rw [e1]
      simpa [flatF, nthM] using k
theorem flatF_ln : ∀ (M : List (Frm × Value)) (j : Nat) (i : Int), j < M.length → (flatF M).set (j * 4 + 2) (.int .i64 i) = flatF (M.set j (⟨(nthM M j).1.id, (nthM M j).1.rm, i, (nthM M j).1.D⟩, (nthM M j).2)) := by
  intro M
  induction M with
  | nil => intro j x h; simp at h
  | cons m M ih =>
    intro j x h
    cases j with
    | zero => rfl
    | succ j =>
      have k := ih j x (by simpa using h)
      have e1 : (j + 1) * 4 = j * 4 + 1 + 1 + 1 + 1 := by omega
      rw [e1]
      simpa [flatF, nthM] using k
theorem flatF_D : ∀ (M : List (Frm × Value)) (j : Nat) (D : List Int), j < M.length → flatF M = flatF (M.set j (⟨(nthM M j).1.id, (nthM M j).1.rm, (nthM M j).1.ln, D⟩, (nthM M j).2)) := by
  intro M
  induction M with
  | nil => intro j x h; simp at h
  | cons m M ih =>
    intro j x h
    cases j with
    | zero => rfl
    | succ j =>
      have k := ih j x (by simpa using h)
      simpa [flatF, nthM] using k
theorem flatF_nth {M : List (Frm × Value)} {j : Nat} (h : j < M.length) : (flatF M)[j * 4]? = some (.int .i64 (nthM M j).1.id) ∧ (flatF M)[j * 4 + 1]? = some (.bool (nthM M j).1.rm) ∧ (flatF M)[j * 4 + 2]? = some (.int .i64 (nthM M j).1.ln) ∧ (flatF M)[j * 4 + 3]? = some (nthM M j).2 := by
  rw [nthM_eq h]; exact flatF_at M j h
theorem flatF_len (M : List (Frm × Value)) : (flatF M).length = M.length * 4 := by
  induction M with
  | nil => rfl
  | cons m M ih => rw [show flatF (m :: M) = [.int .i64 m.1.id, .bool m.1.rm, .int .i64 m.1.ln, m.2] ++ flatF M by rfl, List.length_append, ih]; simp; omega

section
variable {B g c : Nat} {M : List (Frm × Value)} {w w' : World}
/-- A store into the row that changes no data. -/
theorem OwnF.store {k : Nat} {y : Value} {j : Nat} {x : Frm × Value} (h : OwnF B M (.slice (some ⟨g, 0, none⟩) M.length c) w) (hj : j < M.length) (hx : x.2 = (nthM M j).2) (hD : x.1.D = (nthM M j).1.D) (e : (flatF M).set k y = flatF (M.set j x)) :
    OwnF B (M.set j x) (.slice (some ⟨g, 0, none⟩) M.length c) (w.setCell ⟨g, k, none⟩ y) ∧ w.grownBy (w.setCell ⟨g, k, none⟩ y) (some g) := by
  obtain ⟨o, G⟩ := h.1.stored k y
  refine ⟨⟨by rw [List.length_set, ← e]; exact o, fun m hm => ?_⟩, G⟩
  rcases List.mem_or_eq_of_mem_set hm with hm | rfl
  · exact (h.2 m hm).kept G (OwnI.ne_row h (h.2 m hm))
  · have h0 := h.2 _ (nthM_mem hj)
    rw [hx, hD]
    exact h0.kept G (OwnI.ne_row h h0)
theorem OwnF.cells {j : Nat} (h : OwnF B M (.slice (some ⟨g, 0, none⟩) M.length c) w) (hj : j < M.length) :
    w.cell? ⟨g, j * 4, none⟩ = some (.int .i64 (nthM M j).1.id) ∧ w.cell? ⟨g, j * 4 + 1, none⟩ = some (.bool (nthM M j).1.rm) ∧ w.cell? ⟨g, j * 4 + 2, none⟩ = some (.int .i64 (nthM M j).1.ln) ∧ w.cell? ⟨g, j * 4 + 3, none⟩ = some (nthM M j).2 := by
  obtain ⟨f0, f1, f2, f3⟩ := flatF_nth hj
  refine ⟨?_, ?_, ?_, ?_⟩ <;> rw [h.1.cellAt _ (by omega)] <;> assumption
theorem OwnF.frz (h : OwnF B M (.slice (some ⟨g, 0, none⟩) M.length c) w) (j : Nat) : w.frozen? ⟨g, j, none⟩ = false := h.1.frozenAt j
/-- One frame's data turned. -/
theorem OwnF.data {v : Value} {j : Nat} {D : List Int} (h : OwnF B M v w) (f : Far M) (hj : j < M.length) (k : w.grownBy w' (nthM M j).2.ownBlock) (o : OwnI B D (nthM M j).2 w') :
    OwnF B (M.set j (⟨(nthM M j).1.id, (nthM M j).1.rm, (nthM M j).1.ln, D⟩, (nthM M j).2)) v w' := by
  have h0 := h.2 _ (nthM_mem hj)
  refine ⟨?_, fun m hm => ?_⟩
  · rw [List.length_set, ← flatF_D M j D hj]
    exact h.1.kept k (Sep.symm (OwnI.ne_row h h0))
  · obtain ⟨i, hi, rfl⟩ := List.mem_iff_getElem.1 hm
    have hi' : i < M.length := by simpa using hi
    rw [← nthM_eq hi, nthM_set hi']
    by_cases e : i = j
    · rw [if_pos e]; exact o
    · rw [if_neg e]
      exact (h.2 _ (nthM_mem hi')).kept k (f i j hi' hj e)
end
end Go.Proofs.YtnhmecabppaboaaGreat

/- The exact laws' copies, marks and looks over a slice of frames: toFrameS (what it owns), markFrameS, heldFrameS. -/

set_option linter.unusedVariables false
set_option linter.unusedSimpArgs false
set_option maxRecDepth 20000
namespace Go.Proofs.YtnhmecabppaboaaGreat
open Go.RowKit

/-- The data of the first k frames of the row stand in rows of their own. -/
def FarC (k : Nat) (cur : Array Value) : Prop := ∀ i j, i < k → j < k → i ≠ j → ∀ u v, cur[i * 4 + 3]? = some u → cur[j * 4 + 3]? = some v → Sep u.ownBlock v.ownBlock
theorem FarC.put {k : Nat} {cur cur' : Array Value} {dv : Value} (h : FarC k cur) (h1 : cur'[k * 4 + 3]? = some dv) (h2 : ∀ i, i < k * 4 → cur'[i]? = cur[i]?) (hd : ∀ i, i < k → ∀ u, cur[i * 4 + 3]? = some u → Sep u.ownBlock dv.ownBlock) : FarC (k + 1) cur' := by
  intro i j hi hj hne u v hu hv
  by_cases e : i = k
  · subst e
    rw [h1] at hu
    cases hu
    rw [h2 _ (by omega)] at hv
    exact (hd j (by omega) v hv).symm
  · rw [h2 _ (by omega)] at hu
    by_cases e2 : j = k
    · subst e2
      rw [h1] at hv
      cases hv
      exact hd i (by omega) u hu
    · rw [h2 _ (by omega)] at hv
      exact h i j (by omega) (by omega) hne u v hu hv
theorem RowF.sep {G n k : Nat} {L : List Frm} {cur : Array Value} {w : World} (h : RowF G n k L cur w) {dv : Value} (hd : ∀ q, dv.ownBlock = some q → w.heap.size ≤ q) : ∀ i, i < k → ∀ u, cur[i * 4 + 3]? = some u → Sep u.ownBlock dv.ownBlock := by
  intro i hi u hu
  obtain ⟨dj, e0, e1, e2, e3, ho⟩ := h.fr i hi
  rw [e3] at hu
  cases hu
  cases hq : u.ownBlock with
  | none => exact .inl rfl
  | some q => exact .inr fun e => by have h1 := (ho.1.lt q hq).2; have h2 := hd q e.symm; omega
/-- What a copy of frames leaves. -/
def GotF (L : List Frm) (w : World) (e : Ending) (w' : World) : Prop :=
  ∃ (M : List (Frm × Value)) (a : Option Addr) (c : Nat), e = .returned (.slice a L.length c) ∧ (M.map fun m => m.1) = L ∧ OwnF w.heap.size M (.slice a L.length c) w' ∧ Far M ∧ Below w.heap.size w w'
theorem RowF.own {G n : Nat} {L : List Frm} {cur : Array Value} {w : World} (h : RowF G n L.length L cur w) (hn : n = L.length) (hf : FarC L.length cur) (hm : L.length ≤ maxLen) {B : Nat} (hB : B ≤ G) :
    ∃ M : List (Frm × Value), (M.map fun m => m.1) = L ∧ OwnF B M (.slice (some ⟨G, 0, none⟩) L.length L.length) w ∧ Far M := by
  subst hn
  have hlen := h.len
  have hel : ∀ j (hj : j < ((List.range L.length).map fun j => (nthF L j, (cur[j * 4 + 3]?).getD (.slice none 0 0))).length), ((List.range L.length).map fun j => (nthF L j, (cur[j * 4 + 3]?).getD (Value.slice none 0 0)))[j] = (nthF L j, (cur[j * 4 + 3]?).getD (.slice none 0 0)) := by intro j hj; simp
  have hML : ((List.range L.length).map fun j => (nthF L j, (cur[j * 4 + 3]?).getD (Value.slice none 0 0))).length = L.length := by simp
  generalize hM : ((List.range L.length).map fun j => (nthF L j, (cur[j * 4 + 3]?).getD (Value.slice none 0 0))) = M at hel hML
  have hmap : (M.map fun m => m.1) = L := by
    apply List.ext_getElem?
    intro j
    by_cases hj : j < L.length
    · have hj2 : j < M.length := by omega
      rw [List.getElem?_eq_getElem (by simpa using hj2), List.getElem?_eq_getElem hj, List.getElem_map, hel j hj2]
      simp [nthF, List.getD_eq_getElem?_getD, hj]
    · rw [List.getElem?_eq_none (by simp; omega), List.getElem?_eq_none (by omega)]
  refine ⟨M, hmap, ⟨⟨?_, .inr ⟨G, L.length, cur, by rw [hML], hB, h.blk, by omega, hm, hlen, ?_⟩⟩, fun m hm => ?_⟩, fun i j hi hj hne => ?_⟩
  · rw [flatF_len]
  · have hfl := flatF_len M
    apply List.ext_getElem?
    intro j
    by_cases hj : j < M.length * 4
    · rw [List.getElem?_take, if_pos hj, Array.getElem?_toList]
      have hi : j / 4 < M.length := by omega
      obtain ⟨f0, f1, f2, f3⟩ := flatF_at M (j / 4) hi
      obtain ⟨dv, e0, e1, e2, e3, -⟩ := h.fr (j / 4) (by omega)
      rw [hel _ hi] at f0 f1 f2 f3
      rw [e3] at f3
      have hcase : j = j / 4 * 4 ∨ j = j / 4 * 4 + 1 ∨ j = j / 4 * 4 + 2 ∨ j = j / 4 * 4 + 3 := by omega
      rcases hcase with hc | hc | hc | hc
      · rw [hc, e0, f0]
      · rw [hc, e1, f1]
      · rw [hc, e2, f2]
      · rw [hc, e3, f3]; rfl
    · rw [List.getElem?_eq_none (by simp; omega), List.getElem?_eq_none (by omega)]
  · obtain ⟨i, hi, rfl⟩ := List.mem_iff_getElem.1 hm
    rw [hel i hi]
    obtain ⟨dv, e0, e1, e2, e3, ho⟩ := h.fr i (by omega)
    rw [e3]
    exact ho.mono (by omega)
  · rw [nthM_eq hi, nthM_eq hj, hel i hi, hel j hj]
    obtain ⟨du, _, _, _, e3, _⟩ := h.fr i (by omega)
    obtain ⟨dv, _, _, _, k3, _⟩ := h.fr j (by omega)
    rw [e3, k3]
    exact hf i j (by omega) (by omega) hne du dv e3 k3

/-- laws.toFrameS, and what it owns. -/
theorem toFramesOwn (a : Option Addr) (L : List Frm) (c : Nat) (w : World) (hd : Frs a L w) (h : L.length + room L L.length ≤ 1048576) :
    Calls Tryz.prog 81 #[.slice a L.length c] w (GotF L w) := by
  have hmk := make_frames L.length (by omega)
  go_enter Tryz.func81, Tryz.ntmps81
  go_wp2_with fail
  clear hmk
  go_loopw [4] (fun i wr => ∃ (k : Nat) (cur : Array Value), k ≤ L.length ∧ i = .int .i64 k ∧ RowF w.heap.size L.length k L cur wr ∧ FarC k cur ∧ Below w.heap.size w wr) (fun i _ => L.length - (intOf i).toNat)
  case atStart => exact ⟨0, _, Nat.zero_le _, rfl, ⟨heap_alloc_new _ _, by simp [madeCells], fun j hj => absurd hj (by omega)⟩, fun i j hi => absurd hi (by omega), (Below.refl _ _).alloc (Nat.le_refl _) _⟩
  case round =>
    obtain ⟨k, cur, hk, rfl, R, FC, b⟩ := hrel
    by_cases hlt : k < L.length
    · obtain ⟨g, o, ad, cc, rfl, ⟨c0, c1, c2, c3⟩, hn⟩ := (hd.below b).2 k hlt
      have hs := room_succ L k hlt
      have hl := room_le L (show k + 1 ≤ L.length by omega)
      have hf0 : nthF L k = ⟨(nthF L k).id, (nthF L k).rm, (nthF L k).ln, (nthF L k).D⟩ := rfl
      generalize (nthF L k).id = id at *
      generalize (nthF L k).rm = rm at *
      generalize (nthF L k).ln = ln at *
      generalize (nthF L k).D = D at *
      have hf := Lib.hid hf0
      clear hf0
      go_wp2_with fail
      refine (toFrOwn _ _ _ _ _ _ _ hn (by omega)).mono ?_
      rintro e w2 ⟨a', rfl, ho, b2⟩
      have hsep := Lib.hid (R.sep fun q hq => (ho.1.lt q hq).1)
      have ho' := ho.mono (B' := w.heap.size + 1) R.lt
      replace R := R.below b2
      replace b := Below.then2 b b2
      clear b2 hn c0 c1 c2 c3 ho
      obtain ⟨x0, x1, x2, x3, y0, y1, y2, y3⟩ := R.cells hlt
      have z0 := R.free (k * 4)
      have z1 := R.free (k * 4 + 1)
      have z2 := R.free (k * 4 + 2)
      have z3 := R.free (k * 4 + 3)
      go_wp2_with fail
      go_roundw
      case rel =>
        obtain ⟨cur', R', r1, r2⟩ := R.put hlt hf.out ho'
        exact ⟨k + 1, cur', by omega, by go_num, R', FC.put r1 r2 hsep.out, (((b.setCell (Nat.le_refl _) _).setCell (Nat.le_refl _) _).setCell (Nat.le_refl _) _).setCell (Nat.le_refl _) _⟩
      case measure => simp [intOf]; omega
    · obtain rfl : k = L.length := by omega
      obtain ⟨M, hM, hO, hF⟩ := R.own rfl FC hd.1 (Nat.le_refl _)
      go_wp2_with fail
      go_ret
      exact ⟨M, _, _, rfl, hM, hO, hF, b⟩

/-- The number ahead of frame j. -/
def kAt (k : Int) (L : List Frm) (j : Nat) : Int := k + 3 * (j : Int) + (room L j : Int)
def mkF (k : Int) (f : Frm) : Frm := ⟨k, (k + 1) % 3 == 0, k + 1 + 1, marks (k + 1 + 1 + 1) f.D.length⟩
def mkL (k : Int) (L : List Frm) : List Frm := (List.range L.length).map fun j => mkF (kAt k L j) (nthF L j)
theorem mkL_len (k : Int) (L : List Frm) : (mkL k L).length = L.length := by simp [mkL]
theorem mkL_nth {k : Int} {L : List Frm} {j : Nat} (h : j < L.length) : nthF (mkL k L) j = mkF (kAt k L j) (nthF L j) := by
  simp [nthF, mkL, List.getD_eq_getElem?_getD, h]
theorem kAt_succ {k : Int} {L : List Frm} {j : Nat} (h : j < L.length) : kAt k L (j + 1) = kAt k L j + 1 + 1 + 1 + ((nthF L j).D.length : Int) := by
  have := room_succ L j h
  simp only [kAt]; omega
/-- The first j of them are marked. -/
structure Mk (k : Int) (L : List Frm) (M0 : List (Frm × Value)) (j : Nat) (M : List (Frm × Value)) : Prop where
  len : M.length = M0.length
  dat : ∀ i, i < M.length → (nthM M i).2 = (nthM M0 i).2
  low : ∀ i, i < j → (nthM M i).1 = mkF (kAt k L i) (nthF L i)
  high : ∀ i, j ≤ i → i < M.length → nthM M i = nthM M0 i
theorem Mk.zero (k : Int) (L : List Frm) (M : List (Frm × Value)) : Mk k L M 0 M := ⟨rfl, fun _ _ => rfl, fun i hi => absurd hi (by omega), fun _ _ _ => rfl⟩
theorem Mk.succ {k : Int} {L : List Frm} {M0 M M' : List (Frm × Value)} {j : Nat} (h : Mk k L M0 j M) (hj : j < M.length) (hl : M'.length = M.length) (hs : ∀ i, i < M.length → nthM M' i = if i = j then (mkF (kAt k L j) (nthF L j), (nthM M j).2) else nthM M i) : Mk k L M0 (j + 1) M' := by
  refine ⟨hl.trans h.len, fun i hi => ?_, fun i hi => ?_, fun i hi hi2 => ?_⟩
  · rw [hs i (by omega)]
    by_cases e : i = j
    · rw [if_pos e, e]; exact h.dat j hj
    · rw [if_neg e]; exact h.dat i (by omega)
  · rw [hs i (by omega)]
    by_cases e : i = j
    · rw [if_pos e, e]
    · rw [if_neg e]; exact h.low i (by omega)
  · rw [hs i (by omega), if_neg (by omega)]; exact h.high i (by omega) (by omega)
theorem Mk.far {k : Int} {L : List Frm} {M0 M : List (Frm × Value)} {j : Nat} (h : Mk k L M0 j M) (f : Far M0) : Far M := by
  intro i l hi hl hne
  rw [h.dat i hi, h.dat l hl]
  exact f i l (by rw [← h.len]; exact hi) (by rw [← h.len]; exact hl) hne
theorem Mk.done {k : Int} {L : List Frm} {M0 M : List (Frm × Value)} (h : Mk k L M0 M0.length M) (hL : M0.length = L.length) : (M.map fun m => m.1) = mkL k L := by
  have hl := h.len
  apply List.ext_getElem?
  intro j
  by_cases hj : j < L.length
  · rw [List.getElem?_eq_getElem (by simp; omega), List.getElem?_eq_getElem (by rw [mkL_len]; exact hj), List.getElem_map, ← nthM_eq (by omega), h.low j (by omega)]
    simp [mkL]
  · rw [List.getElem?_eq_none (by simp; omega), List.getElem?_eq_none (by rw [mkL_len]; omega)]

theorem Mk.done' {k : Int} {L : List Frm} {M0 M : List (Frm × Value)} (hL : M0.length = L.length) (h : Mk k L M0 L.length M) : (M.map fun m => m.1) = mkL k L := Mk.done (by rw [hL]; exact h) hL
/-- What marks leave. -/
def Marked (B hi : Nat) (L : List Frm) (a : Option Addr) (c : Nat) (k : Int) (w : World) (e : Ending) (w' : World) : Prop :=
  ∃ M' : List (Frm × Value), e = .returned (.int .i64 (kAt k L L.length)) ∧ (M'.map fun m => m.1) = mkL k L ∧ OwnF B M' (.slice a L.length c) w' ∧ Far M' ∧ Mid B hi w w'

/-- The same, and that its rows still lie below. -/
def MarkedU (B hi : Nat) (L : List Frm) (a : Option Addr) (c : Nat) (k : Int) (w : World) (e : Ending) (w' : World) : Prop :=
  ∃ M' : List (Frm × Value), e = .returned (.int .i64 (kAt k L L.length)) ∧ (M'.map fun m => m.1) = mkL k L ∧ OwnF B M' (.slice a L.length c) w' ∧ Far M' ∧ Mid B hi w w' ∧ Under hi M' (.slice a L.length c)
theorem Mk.under {k : Int} {L : List Frm} {M0 M : List (Frm × Value)} {j hi : Nat} {v : Value} (h : Mk k L M0 j M) (u : Under hi M0 v) : Under hi M v := by
  refine ⟨u.1, fun m hm q hq => ?_⟩
  obtain ⟨i, hi, rfl⟩ := List.mem_iff_getElem.1 hm
  have hl := h.len
  rw [← nthM_eq hi, h.dat i hi] at hq
  exact u.2 _ (nthM_mem (by omega)) q hq
set_option maxHeartbeats 2000000 in
theorem markFramesU (B hi : Nat) (M : List (Frm × Value)) (L : List Frm) (hM : (M.map fun m => m.1) = L) (a : Option Addr) (c : Nat) (k : Int) (w : World) (HO : OwnF B M (.slice a L.length c) w) (hf : Far M) (hu : Under hi M (.slice a L.length c))
    (hn : L.length + room L L.length ≤ 1048577) (h0 : 0 ≤ k) (h1 : k ≤ 90000000) :
    Calls Tryz.prog 84 #[.slice a L.length c, .int .i64 k] w (MarkedU B hi L a c k w) := by
  have hml : M.length = L.length := by rw [← hM]; simp
  go_enter Tryz.func84, Tryz.ntmps84
  go_wp2_with fail
  go_loopw [1, 5] (fun q i wr => ∃ (j : Nat) (M' : List (Frm × Value)), j ≤ L.length ∧ q = .int .i64 (kAt k L j) ∧ i = .int .i64 j ∧ Mk k L M j M' ∧ OwnF B M' (.slice a L.length c) wr ∧ Mid B hi w wr) (fun _ i _ => L.length - (intOf i).toNat)
  case atStart => exact ⟨0, M, Nat.zero_le _, by simp [kAt, room_zero], rfl, Mk.zero _ _ _, HO, Mid.refl _ _ _⟩
  case round =>
    obtain ⟨j, M1, hj, rfl, rfl, K, O, G⟩ := hrel
    have hkl := K.len
    by_cases hlt : j < L.length
    · have hr1 := room_succ L j hlt
      have hr2 := room_le L (show j + 1 ≤ L.length by omega)
      have hks := kAt_succ (k := k) hlt
      have hkb : 0 ≤ kAt k L j ∧ kAt k L j ≤ 100000000 := by simp only [kAt]; omega
      have hj1 : j < M1.length := by omega
      have hel : (nthM M1 j).1 = nthF L j := by
        rw [K.high j (Nat.le_refl _) hj1, ← hM, nthF_map (by omega)]
      obtain ⟨g, rfl, -, hBg, -, -⟩ := O.form (by omega)
      have hgh : g < hi := hu.1 g rfl
      have hdh : ∀ q, (nthM M1 j).2.ownBlock = some q → q < hi := fun q hq => hu.2 (nthM M j) (nthM_mem (by omega)) q (by rw [← K.dat j hj1]; exact hq)
      rw [show L.length = M1.length by omega] at O
      obtain ⟨x0, x1, x2, x3⟩ := O.cells hj1
      have O1 := O.store (k := j * 4) (y := .int .i64 (kAt k L j)) hj1 (x := (⟨kAt k L j, (nthM M1 j).1.rm, (nthM M1 j).1.ln, (nthM M1 j).1.D⟩, (nthM M1 j).2)) rfl rfl (flatF_id M1 j _ hj1)
      generalize hM2 : M1.set j (⟨kAt k L j, (nthM M1 j).1.rm, (nthM M1 j).1.ln, (nthM M1 j).1.D⟩, (nthM M1 j).2) = M2 at O1
      have hl2 : M2.length = M1.length := by rw [← hM2]; simp
      have hn2 : ∀ i, i < M1.length → nthM M2 i = if i = j then (⟨kAt k L j, (nthM M1 j).1.rm, (nthM M1 j).1.ln, (nthM M1 j).1.D⟩, (nthM M1 j).2) else nthM M1 i := fun i hi => by rw [← hM2]; exact nthM_set hi
      have hj2 : j < M2.length := by omega
      have e2 := hn2 j hj1
      rw [if_pos rfl] at e2
      obtain ⟨O1, G1⟩ := O1
      rw [← hl2] at O1
      have O2 := O1.store (k := j * 4 + 1) (y := .bool ((kAt k L j + 1) % 3 == 0)) hj2 (x := (⟨(nthM M2 j).1.id, (kAt k L j + 1) % 3 == 0, (nthM M2 j).1.ln, (nthM M2 j).1.D⟩, (nthM M2 j).2)) rfl rfl (flatF_rm M2 j _ hj2)
      generalize hM3 : M2.set j (⟨(nthM M2 j).1.id, (kAt k L j + 1) % 3 == 0, (nthM M2 j).1.ln, (nthM M2 j).1.D⟩, (nthM M2 j).2) = M3 at O2
      have hl3 : M3.length = M2.length := by rw [← hM3]; simp
      have hn3 : ∀ i, i < M2.length → nthM M3 i = if i = j then (⟨(nthM M2 j).1.id, (kAt k L j + 1) % 3 == 0, (nthM M2 j).1.ln, (nthM M2 j).1.D⟩, (nthM M2 j).2) else nthM M2 i := fun i hi => by rw [← hM3]; exact nthM_set hi
      have hj3 : j < M3.length := by omega
      have e3 := hn3 j hj2
      rw [if_pos rfl] at e3
      obtain ⟨O2, G2⟩ := O2
      rw [← hl3] at O2
      have O3 := O2.store (k := j * 4 + 2) (y := .int .i64 (kAt k L j + 1 + 1)) hj3 (x := (⟨(nthM M3 j).1.id, (nthM M3 j).1.rm, kAt k L j + 1 + 1, (nthM M3 j).1.D⟩, (nthM M3 j).2)) rfl rfl (flatF_ln M3 j _ hj3)
      generalize hM4 : M3.set j (⟨(nthM M3 j).1.id, (nthM M3 j).1.rm, kAt k L j + 1 + 1, (nthM M3 j).1.D⟩, (nthM M3 j).2) = M4 at O3
      have hl4 : M4.length = M3.length := by rw [← hM4]; simp
      have hn4 : ∀ i, i < M3.length → nthM M4 i = if i = j then (⟨(nthM M3 j).1.id, (nthM M3 j).1.rm, kAt k L j + 1 + 1, (nthM M3 j).1.D⟩, (nthM M3 j).2) else nthM M3 i := fun i hi => by rw [← hM4]; exact nthM_set hi
      have hj4 : j < M4.length := by omega
      have e4 := hn4 j hj3
      rw [if_pos rfl] at e4
      obtain ⟨O3, G3⟩ := O3
      rw [← hl4] at O3
      have z0 := O.frz (j * 4)
      have z1 := O.frz (j * 4 + 1)
      have z2 := O.frz (j * 4 + 2)
      have hfar4 : Far M4 := by
        intro i l hi hl hne
        have hd : ∀ i, i < M4.length → (nthM M4 i).2 = (nthM M1 i).2 := by
          intro i hi
          rw [hn4 i (by omega)]
          by_cases e : i = j
          · subst e; rw [if_pos rfl, e3, e2]
          · rw [if_neg e, hn3 i (by omega), if_neg e, hn2 i (by omega), if_neg e]
        rw [hd i hi, hd l hl]
        exact K.far hf i l (by omega) (by omega) hne
      have e43 : (nthM M4 j).1.D = (nthF L j).D := by rw [e4, e3, e2, hel]
      have e4v : (nthM M4 j).2 = (nthM M1 j).2 := by rw [e4, e3, e2]
      have hod := O3.2 _ (nthM_mem hj4)
      rw [e43] at hod
      have G4 := ((G.grown G1 fun q e => by cases e; exact ⟨hBg, hgh⟩).grown G2 fun q e => by cases e; exact ⟨hBg, hgh⟩).grown G3 fun q e => by cases e; exact ⟨hBg, hgh⟩
      have hlast : ∀ i, i < M1.length → nthM M4 i = if i = j then (⟨kAt k L j, (kAt k L j + 1) % 3 == 0, kAt k L j + 1 + 1, (nthF L j).D⟩, (nthM M1 j).2) else nthM M1 i := by
        intro i hi
        by_cases e : i = j
        · subst e; rw [if_pos rfl, e4, e3, e2, hel]
        · rw [hn4 i (by omega), if_neg e, hn3 i (by omega), if_neg e, hn2 i (by omega), if_neg e, if_neg e]
      have HK := Lib.hid (show ∀ M5 : List (Frm × Value), M5.length = M4.length → (∀ i, i < M4.length → nthM M5 i = if i = j then (⟨(nthM M4 j).1.id, (nthM M4 j).1.rm, (nthM M4 j).1.ln, marks (kAt k L j + 1 + 1 + 1) (nthF L j).D.length⟩, (nthM M4 j).2) else nthM M4 i) → Mk k L M (j + 1) M5 by
        intro M5 h5 hh
        refine K.succ hj1 (by omega) fun i hi => ?_
        rw [hh i (by omega)]
        by_cases e : i = j
        · rw [if_pos e, if_pos e, hlast j hj1, if_pos rfl]; rfl
        · rw [if_neg e, if_neg e, hlast i hi, if_neg e])
      obtain ⟨ad, cd, hv, -⟩ := hod.nums
      rw [hv] at hod
      have hv1 := hv
      rw [e4v] at hv1
      rw [hv1] at x3 hdh
      have HD := Lib.hid (show ∀ w5 D', (((wr.setCell ⟨g, j * 4, none⟩ (.int .i64 (kAt k L j))).setCell ⟨g, j * 4 + 1, none⟩ (.bool ((kAt k L j + 1) % 3 == 0))).setCell ⟨g, j * 4 + 2, none⟩ (.int .i64 (kAt k L j + 1 + 1))).grownBy w5 (Value.slice ad (nthF L j).D.length cd).ownBlock → OwnI B D' (.slice ad (nthF L j).D.length cd) w5 → _ by
        intro w5 D' k5 o5
        rw [← hv] at k5 o5
        exact O3.data hfar4 hj4 k5 o5)
      rw [hkl] at hl2
      have hlen4 : M4.length = M.length := by omega
      clear hM2 hM3 hM4 hn2 hn3 hn4 hlast e2 e3 e4 hel O O1 O2 O3 G1 G2 G3 hfar4 K hv hv1 e4v e43
      generalize kAt k L j = q at *
      generalize (nthF L j).D = D at *
      go_wp2_with fail
      refine (markInts B D ad cd (q + 1 + 1 + 1) _ hod (by omega) (by omega) (by omega)).mono ?_
      rintro e w5 ⟨rfl, o5, k5⟩
      have O5 := HD.out w5 _ k5 o5
      have K5 := HK.out _ (by simp) (fun i hi => nthM_set hi)
      have G5 := G4.grown k5 fun p hp => ⟨(hod.1.lt p hp).1, hdh p hp⟩
      generalize M4.set j _ = M5 at O5 K5
      have hl5 := K5.len
      clear hod HD HK G4 o5 k5 G x3 z0 z1 z2 x0 x1 x2
      go_wp2_with fail
      go_roundw
      case rel => exact ⟨j + 1, M5, by omega, by rw [hks], by go_num, K5, by rw [← hml, ← hlen4]; exact O5, G5⟩
      case measure => simp [intOf]; omega
    · obtain rfl : j = L.length := by omega
      have hd := Mk.done' hml K
      have hfr := K.far hf
      have hun := K.under hu
      go_wp2_with fail
      go_ret
      exact ⟨M1, rfl, hd, O, hfr, G, hun⟩
theorem markFramesB (B hi : Nat) (M : List (Frm × Value)) (L : List Frm) (hM : (M.map fun m => m.1) = L) (a : Option Addr) (c : Nat) (k : Int) (w : World) (HO : OwnF B M (.slice a L.length c) w) (hf : Far M) (hu : Under hi M (.slice a L.length c))
    (hn : L.length + room L L.length ≤ 1048577) (h0 : 0 ≤ k) (h1 : k ≤ 90000000) :
    Calls Tryz.prog 84 #[.slice a L.length c, .int .i64 k] w (Marked B hi L a c k w) :=
  (markFramesU B hi M L hM a c k w HO hf hu hn h0 h1).mono fun e w' ⟨M', h1, h2, h3, h4, h5, _⟩ => ⟨M', h1, h2, h3, h4, h5⟩
theorem markFrames (B hi : Nat) (M : List (Frm × Value)) (L : List Frm) (hM : (M.map fun m => m.1) = L) (a : Option Addr) (c : Nat) (k : Int) (w : World) (HO : OwnF B M (.slice a L.length c) w) (hf : Far M) (hu : Under hi M (.slice a L.length c))
    (hn : L.length + room L L.length ≤ 1048576) (h0 : 0 ≤ k) (h1 : k ≤ 90000000) :
    Calls Tryz.prog 84 #[.slice a L.length c, .int .i64 k] w (Marked B hi L a c k w) := markFramesB B hi M L hM a c k w HO hf hu (by omega) h0 h1
/-- laws.heldFrameS of frames that bear their marks. -/
theorem heldFramesB (a : Option Addr) (L : List Frm) (c : Nat) (k : Int) (w : World) (hd : Frs a (mkL k L) w) (hn : L.length + room L L.length ≤ 1048577) (h0 : 0 ≤ k) (h1 : k ≤ 90000000) :
    Calls Tryz.prog 85 #[.slice a L.length c, .int .i64 k] w fun e w' => e = .returned (.int .i64 (kAt k L L.length)) ∧ Below w.heap.size w w' := by
  go_enter Tryz.func85, Tryz.ntmps85
  go_wp2_with fail
  go_loopw [1, 5] (fun q i wr => ∃ j : Nat, j ≤ L.length ∧ q = .int .i64 (kAt k L j) ∧ i = .int .i64 j ∧ Below w.heap.size w wr) (fun _ i _ => L.length - (intOf i).toNat)
  case atStart => exact ⟨0, Nat.zero_le _, by simp [kAt, room_zero], rfl, Below.refl _ _⟩
  case round =>
    obtain ⟨j, hj, rfl, rfl, b⟩ := hrel
    by_cases hlt : j < L.length
    · have hr1 := room_succ L j hlt
      have hr2 := room_le L (show j + 1 ≤ L.length by omega)
      have hks := kAt_succ (k := k) hlt
      have hkb : 0 ≤ kAt k L j ∧ kAt k L j ≤ 100000000 := by simp only [kAt]; omega
      obtain ⟨g, o, ad, cc, rfl, ⟨c0, c1, c2, c3⟩, hn1⟩ := (hd.below b).2 j (by rw [mkL_len]; exact hlt)
      rw [mkL_nth hlt] at c0 c1 c2 c3 hn1
      simp only [mkF, marks_len] at c0 c1 c2 c3 hn1
      generalize kAt k L j = q at *
      generalize (nthF L j).D.length = n at *
      go_wp2_with fail
      refine (heldInts ad n cc (q + 1 + 1 + 1) _ hn1 (by omega) (by omega) (by omega)).mono ?_
      rintro e w5 ⟨rfl, rfl⟩
      go_wp2_with fail
      go_roundw
      case rel => exact ⟨j + 1, by omega, by rw [hks], by go_num, b⟩
      case measure => simp [intOf]; omega
    · obtain rfl : j = L.length := by omega
      go_wp2_with fail
      go_ret
      exact ⟨rfl, b⟩
theorem heldFrames (a : Option Addr) (L : List Frm) (c : Nat) (k : Int) (w : World) (hd : Frs a (mkL k L) w) (hn : L.length + room L L.length ≤ 1048576) (h0 : 0 ≤ k) (h1 : k ≤ 90000000) :
    Calls Tryz.prog 85 #[.slice a L.length c, .int .i64 k] w fun e w' => e = .returned (.int .i64 (kAt k L L.length)) ∧ Below w.heap.size w w' := heldFramesB a L c k w hd (by omega) h0 h1
end Go.Proofs.YtnhmecabppaboaaGreat

/- spec.l4CopyAll, spec.TakenOut: copies of frames, appended one by one to a row of the call's own. -/

set_option linter.unusedVariables false
set_option linter.unusedSimpArgs false
set_option maxRecDepth 20000
namespace Go.Proofs.YtnhmecabppaboaaGreat
open Go.RowKit

/-- What a copy by appends leaves: a slice with an address. -/
def GotO (L : List Frm) (w : World) (e : Ending) (w' : World) : Prop :=
  ∃ (M : List (Frm × Value)) (g c : Nat), e = .returned (.slice (some ⟨g, 0, none⟩) L.length c) ∧ (M.map fun m => m.1) = L ∧ OwnF w.heap.size M (.slice (some ⟨g, 0, none⟩) L.length c) w' ∧ Below w.heap.size w w'
theorem own_made (w : World) {B : Nat} (hB : B ≤ w.heap.size) : OwnF B [] (.slice (some ⟨w.heap.size, 0, none⟩) 0 0) (w.alloc (.cells #[] 35)) :=
  ⟨World.ownsRow_made (base := B) (e := 35) (size := 4) w #[] 0 hB (Nat.zero_le _) rfl, fun m hm => by cases hm⟩
theorem map_snoc {M : List (Frm × Value)} {L : List Frm} {f : Frm} {v : Value} (h : (M.map fun m => m.1) = L) : ((M ++ [(f, v)]).map fun m => m.1) = L ++ [f] := by simp [h]
theorem takeF_snoc {L : List Frm} {k : Nat} (h : k < L.length) : L.take (k + 1) = L.take k ++ [nthF L k] := by
  rw [List.take_add_one, List.getElem?_eq_getElem h, nthF_eq h]; rfl

/-- spec.l4CopyAll. -/
theorem copyAllB (a : Option Addr) (L : List Frm) (c : Nat) (w : World) (hd : Frs a L w) (hL : L.length ≤ 1048576) (hs8 : ∀ j, j < L.length → (nthF L j).D.length ≤ 1048576) :
    Calls Tryz.prog 70 #[.slice a L.length c] w (GotO L w) := by
  go_enter Tryz.func70, Tryz.ntmps70
  have own0 := own_made w (Nat.le_refl _)
  go_wp2_with fail
  go_loopw [3, 4] (fun l i wr => ∃ (k : Nat) (M : List (Frm × Value)) (g c' : Nat), k ≤ L.length ∧ i = .int .i64 k ∧ l = .slice (some ⟨g, 0, none⟩) M.length c' ∧ (M.map fun m => m.1) = L.take k ∧ OwnF w.heap.size M (.slice (some ⟨g, 0, none⟩) M.length c') wr ∧ Below w.heap.size w wr) (fun _ i _ => L.length - (intOf i).toNat)
  case atStart => exact ⟨0, [], _, _, Nat.zero_le _, rfl, rfl, rfl, own0, (Below.refl _ _).alloc (Nat.le_refl _) _⟩
  case round =>
    clear own0
    obtain ⟨k, M, g, c', hk, rfl, rfl, hM, O, b⟩ := hrel
    have hml : M.length = k := by
      have := congrArg List.length hM
      simp at this; omega
    by_cases hlt : k < L.length
    · obtain ⟨g0, o, ad, cc, rfl, ⟨c0, c1, c2, c3⟩, hn⟩ := (hd.below b).2 k hlt
      have hs := hs8 k hlt
      have hsn := takeF_snoc hlt
      have hf0 : nthF L k = ⟨(nthF L k).id, (nthF L k).rm, (nthF L k).ln, (nthF L k).D⟩ := rfl
      generalize (nthF L k).id = id at *
      generalize (nthF L k).rm = rm at *
      generalize (nthF L k).ln = ln at *
      generalize (nthF L k).D = D at *
      rw [hf0] at hsn
      replace hsn := Lib.hid hsn
      replace hM := Lib.hid hM
      replace hml := Lib.hid hml
      clear hf0
      go_wp2_with fail
      refine (copyFrB id rm ln ad D cc wr hn hs).mono ?_
      rintro e w2 ⟨av, cv, rfl, oA, g2⟩
      replace oA := oA.mono b.size
      replace O := O.stay g2
      replace b := b.trans ((below_new g2).mono b.size)
      clear g2 hn c0 c1 c2 c3
      have O1 := O.stay (World.grownBy_alloc w2 (.cells #[.int .i64 id, .bool rm, .int .i64 ln, .slice av D.length cv] 35) none)
      have o1 := oA.stay (World.grownBy_alloc w2 (.cells #[.int .i64 id, .bool rm, .int .i64 ln, .slice av D.length cv] 35) none)
      have b1 := below_more b (.cells #[.int .i64 id, .bool rm, .int .i64 ln, .slice av D.length cv] 35)
      have hsz1 := b1.size
      have hmb : M.length ≤ 2000000 := by have := hml.out; omega
      clear O oA b
      go_wp2_with (at_builtin; refine wpList_appF rfl _ _ rfl w.heap.size M ⟨id, rm, ln, D⟩ (.slice av D.length cv) _ rfl O1 o1 w2.heap.size 1 rfl (World.cell?_alloc_at _ _ _ _ rfl) (World.cell?_alloc_at _ _ _ _ rfl) (World.cell?_alloc_at _ _ _ _ rfl) (World.cell?_alloc_at _ _ _ _ rfl) hmb hsz1 ?_)
      intro av2 cv2 w4 O4 g4
      have b4 := b1.grown g4 b1.size (fun q e => (O1.1.lt q e).1)
      clear O1 o1 b1 g4
      obtain ⟨gg, rfl, -, -, -, -⟩ := O4.form (by simp)
      go_wp2_with fail
      go_roundw
      case rel => exact ⟨k + 1, M ++ [(⟨id, rm, ln, D⟩, .slice av D.length cv)], gg, cv2, by omega, by go_num, by simp, by rw [hsn.out]; exact map_snoc hM.out, by rw [List.length_append]; exact O4, b4⟩
      case measure => simp [intOf]; omega
    · obtain rfl : k = L.length := by omega
      rw [List.take_length] at hM
      rw [hml] at O
      go_wp2_with fail
      go_ret
      exact ⟨M, g, c', by rw [hml] <;> rfl, hM, O, b⟩
theorem copyAll (a : Option Addr) (L : List Frm) (c : Nat) (w : World) (hd : Frs a L w) (hL : L.length ≤ 1000) (hs8 : ∀ j, j < L.length → (nthF L j).D.length ≤ 1000) :
    Calls Tryz.prog 70 #[.slice a L.length c] w (GotO L w) := copyAllB a L c w hd (by omega) fun j hj => by have := hs8 j hj; omega
/-- spec.TakenOut. -/
theorem specTakenOut (a : Option Addr) (L : List Frm) (c : Nat) (r : Int) (w : World) (hd : Frs a L w) :
    Calls Tryz.prog 73 #[.slice a L.length c, .int .i64 r] w (GotO (outV L r) w) := by
  go_enter Tryz.func73, Tryz.ntmps73
  have own0 := own_made w (Nat.le_refl _)
  have bw : Below w.heap.size w (w.alloc (.cells #[] 35)) := (Below.refl _ _).alloc (Nat.le_refl _) _
  have hd0 := hd
  go_upto_region 2 with fail
  replace hd := hd.below bw
  generalize w.alloc (.cells #[] 35) = W at *
  go_wp2_with fail
  refine (specBoxOk a L c W hd).mono ?_
  rintro e w1 ⟨he, b1⟩
  replace hd := hd.below b1
  replace own0 := own0.below b1
  replace bw := bw.trans (b1.mono bw.size)
  clear b1 W
  cases hb : boxB L with
  | false =>
    rw [hb] at he
    subst he
    have HV := Lib.hid (outV_bad r hb)
    clear hb
    go_wp2_with fail
    go_ret
    exact ⟨[], _, 0, by rw [HV.out] <;> rfl, by rw [HV.out] <;> rfl, by rw [HV.out]; exact own0, bw⟩
  | true =>
    rw [hb] at he
    subst he
    have HV := Lib.hid (outV_ok r hb)
    have hB := boxB_iff.1 hb
    have h8 : ∀ j, j < L.length → (nthF L j).D.length ≤ 8 := fun j hj => hB.2.short hj
    have h16 := hB.1
    replace h8 := Lib.hid h8
    clear hB hb
    go_wp2_with fail
    go_loopw [5, 6] (fun l i wr => ∃ (k : Nat) (M : List (Frm × Value)) (g c' : Nat), k ≤ L.length ∧ i = .int .i64 k ∧ l = .slice (some ⟨g, 0, none⟩) M.length c' ∧ (M.map fun m => m.1) = (L.take k).filter (notR r) ∧ OwnF w.heap.size M (.slice (some ⟨g, 0, none⟩) M.length c') wr ∧ Below w.heap.size w wr) (fun _ i _ => L.length - (intOf i).toNat)
    case atStart => exact ⟨0, [], _, _, Nat.zero_le _, rfl, rfl, rfl, own0, bw⟩
    case round =>
      clear hd
      clear own0
      obtain ⟨k, M, g, c', hk, rfl, rfl, hM, O, b⟩ := hrel
      have hml : M.length ≤ 16 := by
        have h1 := congrArg List.length hM
        have h2 := List.length_filter_le (notR r) (L.take k)
        simp at h1 h2; omega
      by_cases hlt : k < L.length
      · obtain ⟨g0, o, ad, cc, rfl, ⟨c0, c1, c2, c3⟩, hn⟩ := (hd0.below b).2 k hlt
        have hs := h8.out k hlt
        have hfs := filter_succ L r k hlt
        have hrk : rkF (nthF L k) = rankV (nthF L k).id (nthF L k).rm (nthF L k).ln (nthF L k).D := rfl
        have hf0 : nthF L k = ⟨(nthF L k).id, (nthF L k).rm, (nthF L k).ln, (nthF L k).D⟩ := rfl
        rw [hrk] at hfs
        clear hrk
        generalize (nthF L k).id = id at *
        generalize (nthF L k).rm = rm at *
        generalize (nthF L k).ln = ln at *
        generalize (nthF L k).D = D at *
        rw [hf0] at hfs
        generalize hq : rankV id rm ln D = q at *
        replace hq := Lib.hid hq
        replace hM := Lib.hid hM
        replace hfs := Lib.hid hfs
        have hfc : FrC g0 (o + k * 4) ad cc ⟨id, rm, ln, D⟩ wr := ⟨⟨c0, c1, c2, c3⟩, hn⟩
        clear hf0
        go_wp2_with fail
        refine (specRankOf id rm ln ad D cc wr hn).mono ?_
        rintro e w2 ⟨he, b2⟩
        rw [hq.out] at he
        subst he
        by_cases hqr : q = r
        · have hfs2 := hfs.out
          rw [if_neg (by simp [hqr]), List.append_nil] at hfs2
          replace hfs2 := Lib.hid hfs2
          have hqb : (q != r) = false := by simp [hqr]
          replace O := O.below b2
          replace b := b.trans (b2.mono b.size)
          clear hqr c0 c1 c2 c3 b2 hn
          go_wp2_with fail
          go_roundw
          case rel => exact ⟨k + 1, M, g, c', by omega, by go_num, rfl, by rw [hfs2.out]; exact hM.out, O, b⟩
          case measure => simp [intOf]; omega
        · have hfs2 := hfs.out
          rw [if_pos hqr] at hfs2
          replace hfs2 := Lib.hid hfs2
          have hqb : (q != r) = true := by simp [hqr]
          replace O := O.below b2
          replace b := b.trans (b2.mono b.size)
          replace hfc := hfc.below b2
          clear hqr c0 c1 c2 c3 b2 hn
          obtain ⟨⟨c0, c1, c2, c3⟩, hn⟩ := hfc
          simp only at c0 c1 c2 c3 hn
          go_wp2_with fail
          refine (copyFr id rm ln ad D cc w2 hn (by omega)).mono ?_
          rintro e w3 ⟨av, cv, rfl, oA, g2⟩
          replace oA := oA.mono b.size
          replace O := O.stay g2
          replace b := b.trans ((below_new g2).mono b.size)
          clear g2 hn c0 c1 c2 c3
          have O1 := O.stay (World.grownBy_alloc w3 (.cells #[.int .i64 id, .bool rm, .int .i64 ln, .slice av D.length cv] 35) none)
          have o1 := oA.stay (World.grownBy_alloc w3 (.cells #[.int .i64 id, .bool rm, .int .i64 ln, .slice av D.length cv] 35) none)
          have b1 := below_more b (.cells #[.int .i64 id, .bool rm, .int .i64 ln, .slice av D.length cv] 35)
          have hsz1 := b1.size
          have hmb : M.length ≤ 2000000 := by omega
          clear O oA b
          go_wp2_with (at_builtin; refine wpList_appF rfl _ _ rfl w.heap.size M ⟨id, rm, ln, D⟩ (.slice av D.length cv) _ rfl O1 o1 w3.heap.size 1 rfl (World.cell?_alloc_at _ _ _ _ rfl) (World.cell?_alloc_at _ _ _ _ rfl) (World.cell?_alloc_at _ _ _ _ rfl) (World.cell?_alloc_at _ _ _ _ rfl) hmb hsz1 ?_)
          intro av2 cv2 w4 O4 g4
          have b4 := b1.grown g4 b1.size (fun q e => (O1.1.lt q e).1)
          clear O1 o1 b1 g4
          obtain ⟨gg, rfl, -, -, -, -⟩ := O4.form (by simp)
          go_wp2_with fail
          go_roundw
          case rel => exact ⟨k + 1, M ++ [(⟨id, rm, ln, D⟩, .slice av D.length cv)], gg, cv2, by omega, by go_num, by simp, by rw [hfs2.out]; exact map_snoc hM.out, by rw [List.length_append]; exact O4, b4⟩
          case measure => simp [intOf]; omega
      · obtain rfl : k = L.length := by omega
        rw [List.take_length] at hM
        have hml2 : M.length = (L.filter (notR r)).length := by rw [← hM]; simp
        replace hml2 := Lib.hid hml2
        go_wp2_with fail
        go_ret
        exact ⟨M, g, c', by rw [HV.out, ← hml2.out] <;> rfl, by rw [HV.out]; exact hM, by rw [HV.out, ← hml2.out]; exact O, b⟩
end Go.Proofs.YtnhmecabppaboaaGreat
