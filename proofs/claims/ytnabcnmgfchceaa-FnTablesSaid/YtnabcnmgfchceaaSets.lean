/- The exact laws' copies, marks and looks over a slice of frames: toFrameS (what it owns), markFrameS, heldFrameS. -/
import Derived.Test.YtnabcnmgfchceaaOwnS
set_option linter.unusedVariables false
set_option linter.unusedSimpArgs false
namespace Go.Proofs.Ytnabcnmgfchceaa
open Go.RowKit

/-- The data of the first k frames of the row stand in rows of their own. -/
def FarC (k : Nat) (cur : Array Value) : Prop := ∀ i j, i < k → j < k → i ≠ j → ∀ u v, cur[i * 4 + 3]? = some u → cur[j * 4 + 3]? = some v → Sep u.ownBlock v.ownBlock
theorem FarC.put {k : Nat} {cur cur' : Array Value} {dv : Value} (h : FarC k cur) (h1 : cur'[k * 4 + 3]? = some dv) (h2 : ∀ i, i < k * 4 → cur'[i]? = cur[i]?) (hd : ∀ i, i < k → ∀ u, cur[i * 4 + 3]? = some u → Sep u.ownBlock dv.ownBlock) : FarC (k + 1) cur' := by
  intro i j hi hj hne u v hu hv
  by_cases e : i = k
  · subst e
    rw [h1] at hu
    cases hu
    rw [h2 _ (by omega)] at hv
    exact (hd j (by omega) v hv).symm
  · rw [h2 _ (by omega)] at hu
    by_cases e2 : j = k
    · subst e2
      rw [h1] at hv
      cases hv
      exact hd i (by omega) u hu
    · rw [h2 _ (by omega)] at hv
      exact h i j (by omega) (by omega) hne u v hu hv


/-- The number ahead of frame j. -/
def kAt (k : Int) (L : List Frm) (j : Nat) : Int := k + 3 * (j : Int) + (room L j : Int)
def mkF (k : Int) (f : Frm) : Frm := ⟨k, (k + 1) % 3 == 0, k + 1 + 1, marks (k + 1 + 1 + 1) f.D.length⟩
def mkL (k : Int) (L : List Frm) : List Frm := (List.range L.length).map fun j => mkF (kAt k L j) (nthF L j)
theorem mkL_len (k : Int) (L : List Frm) : (mkL k L).length = L.length := by simp [mkL]
theorem mkL_nth {k : Int} {L : List Frm} {j : Nat} (h : j < L.length) : nthF (mkL k L) j = mkF (kAt k L j) (nthF L j) := by
  simp [nthF, mkL, List.getD_eq_getElem?_getD, h]
theorem kAt_succ {k : Int} {L : List Frm} {j : Nat} (h : j < L.length) : kAt k L (j + 1) = kAt k L j + 1 + 1 + 1 + ((nthF L j).D.length : Int) := by
  have := room_succ L j h
  simp only [kAt]; omega
/-- The first j of them are marked. -/
structure Mk (k : Int) (L : List Frm) (M0 : List (Frm × Value)) (j : Nat) (M : List (Frm × Value)) : Prop where
  len : M.length = M0.length
  dat : ∀ i, i < M.length → (nthM M i).2 = (nthM M0 i).2
  low : ∀ i, i < j → (nthM M i).1 = mkF (kAt k L i) (nthF L i)
  high : ∀ i, j ≤ i → i < M.length → nthM M i = nthM M0 i
theorem Mk.zero (k : Int) (L : List Frm) (M : List (Frm × Value)) : Mk k L M 0 M := ⟨rfl, fun _ _ => rfl, fun i hi => absurd hi (by omega), fun _ _ _ => rfl⟩
theorem Mk.succ {k : Int} {L : List Frm} {M0 M M' : List (Frm × Value)} {j : Nat} (h : Mk k L M0 j M) (hj : j < M.length) (hl : M'.length = M.length) (hs : ∀ i, i < M.length → nthM M' i = if i = j then (mkF (kAt k L j) (nthF L j), (nthM M j).2) else nthM M i) : Mk k L M0 (j + 1) M' := by
  refine ⟨hl.trans h.len, fun i hi => ?_, fun i hi => ?_, fun i hi hi2 => ?_⟩
  · rw [hs i (by omega)]
    by_cases e : i = j
    · rw [if_pos e, e]; exact h.dat j hj
    · rw [if_neg e]; exact h.dat i (by omega)
  · rw [hs i (by omega)]
    by_cases e : i = j
    · rw [if_pos e, e]
    · rw [if_neg e]; exact h.low i (by omega)
  · rw [hs i (by omega), if_neg (by omega)]; exact h.high i (by omega) (by omega)
theorem Mk.far {k : Int} {L : List Frm} {M0 M : List (Frm × Value)} {j : Nat} (h : Mk k L M0 j M) (f : Far M0) : Far M := by
  intro i l hi hl hne
  rw [h.dat i hi, h.dat l hl]
  exact f i l (by rw [← h.len]; exact hi) (by rw [← h.len]; exact hl) hne
theorem Mk.done {k : Int} {L : List Frm} {M0 M : List (Frm × Value)} (h : Mk k L M0 M0.length M) (hL : M0.length = L.length) : (M.map fun m => m.1) = mkL k L := by
  have hl := h.len
  apply List.ext_getElem?
  intro j
  by_cases hj : j < L.length
  · rw [List.getElem?_eq_getElem (by simp; omega), List.getElem?_eq_getElem (by rw [mkL_len]; exact hj), List.getElem_map, ← nthM_eq (by omega), h.low j (by omega)]
    simp [mkL]
  · rw [List.getElem?_eq_none (by simp; omega), List.getElem?_eq_none (by rw [mkL_len]; omega)]

theorem Mk.done' {k : Int} {L : List Frm} {M0 M : List (Frm × Value)} (hL : M0.length = L.length) (h : Mk k L M0 L.length M) : (M.map fun m => m.1) = mkL k L := Mk.done (by rw [hL]; exact h) hL

theorem Mk.under {k : Int} {L : List Frm} {M0 M : List (Frm × Value)} {j hi : Nat} {v : Value} (h : Mk k L M0 j M) (u : Under hi M0 v) : Under hi M v := by
  refine ⟨u.1, fun m hm q hq => ?_⟩
  obtain ⟨i, hi, rfl⟩ := List.mem_iff_getElem.1 hm
  have hl := h.len
  rw [← nthM_eq hi, h.dat i hi] at hq
  exact u.2 _ (nthM_mem (by omega)) q hq
end Go.Proofs.Ytnabcnmgfchceaa
