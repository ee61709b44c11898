/- A slice of frames in memory, and the exact laws' own functions over it: szFrameS, toFrameS, eqFrameS. -/
import Derived.Test.YtnabcnmgfchceaaRank
import Derived.Test.YtnabcnmgfchceaaLiftF
import Derived.Deep.RegionWith
import Derived.Deep.QuietTactic
import Derived.BigQuiet
import Derived.Deep.CutRange
import Derived.Deep.DeepCutAuto
namespace Go.Proofs.Ytnabcnmgfchceaa
open Go.RowKit

/-- What a frame says. -/
structure Frm where
  id : Int
  rm : Bool
  ln : Int
  D : List Int
def nthF (L : List Frm) (j : Nat) : Frm := L.getD j ⟨0, false, 0, []⟩
/-- From place o of block g on the frame f stands, its data at ad. -/
def FrC (g o : Nat) (ad : Option Addr) (c : Nat) (f : Frm) (w : World) : Prop :=
  (w.cell? ⟨g, o, none⟩ = some (.int .i64 f.id) ∧ w.cell? ⟨g, o + 1, none⟩ = some (.bool f.rm) ∧ w.cell? ⟨g, o + 2, none⟩ = some (.int .i64 f.ln) ∧ w.cell? ⟨g, o + 3, none⟩ = some (.slice ad f.D.length c)) ∧ Nums ad f.D w
theorem FrC.below {g o : Nat} {ad : Option Addr} {c : Nat} {f : Frm} {w w' : World} (h : FrC g o ad c f w) (b : Below w.heap.size w w') : FrC g o ad c f w' := by
  obtain ⟨⟨h0, h1, h2, h3⟩, hn⟩ := h
  have hg : g < w.heap.size := World.block_lt_of_cell? w _ h0
  exact ⟨⟨(b.cell hg).trans h0, (b.cell hg).trans h1, (b.cell hg).trans h2, (b.cell hg).trans h3⟩, hn.below b⟩
theorem FrC.drew {g o : Nat} {ad : Option Addr} {c : Nat} {f : Frm} {w : World} (h : FrC g o ad c f w) : FrC g o ad c f w.drew := h
/-- Element j of the slice at a is the frame f. -/
def FrAt (a : Option Addr) (j : Nat) (f : Frm) (w : World) : Prop := ∃ g o ad c, a = some ⟨g, o, none⟩ ∧ FrC g (o + j * 4) ad c f w
theorem FrAt.below {a : Option Addr} {j : Nat} {f : Frm} {w w' : World} (h : FrAt a j f w) (b : Below w.heap.size w w') : FrAt a j f w' := by
  obtain ⟨g, o, ad, c, ha, hc⟩ := h
  exact ⟨g, o, ad, c, ha, hc.below b⟩
/-- The slice at a holds the frames L. -/
def Frs (a : Option Addr) (L : List Frm) (w : World) : Prop := L.length ≤ maxLen ∧ ∀ j, j < L.length → FrAt a j (nthF L j) w
theorem Frs.below {a : Option Addr} {L : List Frm} {w w' : World} (h : Frs a L w) (b : Below w.heap.size w w') : Frs a L w' := ⟨h.1, fun j hj => (h.2 j hj).below b⟩
theorem Frs.alloc {a : Option Addr} {L : List Frm} {w : World} (h : Frs a L w) (o : Obj) : Frs a L (w.alloc o) := h.below ((Below.refl _ _).alloc (Nat.le_refl _) _)
theorem Frs.drew {a : Option Addr} {L : List Frm} {w : World} (h : Frs a L w) : Frs a L w.drew := h

/-- How many places the frames' data take up, of the first k. -/
def room (L : List Frm) (k : Nat) : Nat := ((L.take k).map fun f => f.D.length).sum
theorem room_zero (L : List Frm) : room L 0 = 0 := by simp [room]
theorem room_succ (L : List Frm) (k : Nat) (h : k < L.length) : room L (k + 1) = room L k + (nthF L k).D.length := by
  have e : L.take (k + 1) = L.take k ++ [nthF L k] := by
    rw [List.take_add_one, List.getElem?_eq_getElem h, nthF, List.getD_eq_getElem?_getD, List.getElem?_eq_getElem h]; rfl
  unfold room
  rw [e, List.map_append, List.sum_append]
  simp
theorem room_le (L : List Frm) {j k : Nat} (h : j ≤ k) : room L j ≤ room L k := by
  induction k with
  | zero => rw [Nat.le_zero.1 h]; exact Nat.le_refl _
  | succ k ih =>
    by_cases e : j = k + 1
    · rw [e]; exact Nat.le_refl _
    · refine Nat.le_trans (ih (by omega)) ?_
      by_cases hk : k < L.length
      · rw [room_succ L k hk]; omega
      · simp [room, List.take_of_length_le (Nat.le_of_not_lt hk), List.take_of_length_le (Nat.le_succ_of_le (Nat.le_of_not_lt hk))]


end Go.Proofs.Ytnabcnmgfchceaa
