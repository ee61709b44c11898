/- How great the boxes' answers are, and small things for the exact laws. No program's walk in it. -/
import Derived.Test.YtcciabalbdnakabPutI
import Derived.Test.YtcciabalbdnakabPutSp
set_option linter.unusedVariables false
set_option linter.unusedSimpArgs false
set_option maxRecDepth 20000
namespace Go.Proofs.Ytcciabalbdnakab
open Go.RowKit

/-- Not more than 16 frames, of not more than 8 data each. -/
def Lean16 (X : List Frm) : Prop := X.length ≤ 16 ∧ ∀ x ∈ X, x.D.length ≤ 8
theorem Lean16.nil : Lean16 [] := ⟨Nat.zero_le _, fun x hx => by cases hx⟩
theorem Lean16.box {L : List Frm} (h : boxB L = true) : Lean16 L := by
  have hB := boxB_iff.1 h
  refine ⟨hB.1, fun x hx => ?_⟩
  obtain ⟨j, hj, rfl⟩ := List.mem_iff_getElem.1 hx
  have := hB.2.short hj
  rwa [nthF_eq hj] at this
theorem lean_out (L : List Frm) (r : Int) : Lean16 (outV L r) := by
  cases hb : boxB L with
  | false => rw [outV_bad r hb]; exact Lean16.nil
  | true =>
    rw [outV_ok r hb]
    have h := Lean16.box hb
    exact ⟨Nat.le_trans (List.length_filter_le _ _) h.1, fun x hx => h.2 x (List.mem_filter.1 hx).1⟩
theorem lean_spl {L : List Frm} {p q : Nat} {f : Frm} (h : Lean16 L) (hp : p ≤ q) (hq : q ≤ L.length) (hl : (splL L p q [f]).length ≤ 16) (hf : 0 ≤ rkF f) : Lean16 (splL L p q [f]) := by
  refine ⟨hl, fun x hx => ?_⟩
  simp only [splL, List.mem_append] at hx
  rcases hx with hx | hx | hx
  · exact h.2 x (List.mem_of_mem_take hx)
  · simp at hx; subst hx; exact rkF_len hf
  · exact h.2 x (List.mem_of_mem_drop hx)
theorem lean_put (L : List Frm) (f : Frm) : Lean16 (putV L f).1 := by
  cases hb : boxB L with
  | false => rw [putV_bad f hb]; exact Lean16.nil
  | true =>
    have h := Lean16.box hb
    have hB := (boxB_iff.1 hb).2
    by_cases hn : rkF f < 0
    · rw [putV_no hb hn]; exact h
    have hp := pos_at (r := rkF f) hB
    generalize posN L (rkF f) L.length = p at hp
    cases hm : metB L (rkF f) p with
    | true =>
      rw [putV_over hb hn hp hm]
      have hl := (metB_yes.1 hm).1
      have h16 := h.1
      exact lean_spl h (by omega) (by omega) (by rw [splL_len hp.1]; simp; omega) (by omega)
    | false =>
      by_cases h16 : 16 ≤ L.length
      · rw [putV_full hb hn hp hm h16]; exact h
      · rw [putV_new hb hn hp hm h16]
        have hpl := hp.1
        exact lean_spl h (by omega) hpl (by rw [splL_len hpl]; simp; omega) (by omega)
theorem Lean16.room {X : List Frm} (h : Lean16 X) : ∀ k, k ≤ X.length → room X k ≤ 8 * k := by
  intro k
  induction k with
  | zero => intro _; rw [room_zero]; exact Nat.le_refl _
  | succ k ih =>
    intro hk
    rw [room_succ X k (by omega)]
    have h1 := ih (by omega)
    have h2 := h.2 (nthF X k) (by rw [nthF_eq (by omega)]; exact List.getElem_mem _)
    omega
theorem Lean16.fits {X : List Frm} (h : Lean16 X) : X.length + Go.Proofs.Ytcciabalbdnakab.room X X.length ≤ 1048576 := by
  have h1 := h.room X.length (Nat.le_refl _)
  have h2 := h.1
  omega
theorem OwnF.addressed {B n c : Nat} {M : List (Frm × Value)} {a : Option Addr} {w : World} (h : OwnF B M (.slice a n c) w) : Addressed a c := by
  rcases h.1.2 with ⟨e, _⟩ | ⟨g, cap, cur, e, _⟩
  · cases e; exact .inl ⟨rfl, rfl⟩
  · cases e; exact .inr ⟨g, 0, rfl⟩
theorem OwnF.frsOf {B n c : Nat} {M : List (Frm × Value)} {a : Option Addr} {X : List Frm} {w : World} (h : OwnF B M (.slice a n c) w) (hM : (M.map fun m => m.1) = X) (hn : X.length ≤ 2000000) : Frs a X w := by
  obtain ⟨a', c', e, hf⟩ := h.frs (by have := congrArg List.length hM; simp at this; omega)
  simp only [Value.slice.injEq] at e
  obtain ⟨rfl, _, _⟩ := e
  rw [hM] at hf
  exact hf
/-- The two answers of PutIn, by their parts. -/
def PutOx (X : List Frm) (k : Int) (w : World) (e : Ending) (w' : World) : Prop :=
  ∃ (M : List (Frm × Value)) (g c : Nat), e = .returned (.tuple #[.slice (some ⟨g, 0, none⟩) X.length c, .int .i64 k]) ∧ (M.map fun m => m.1) = X ∧ OwnF w.heap.size M (.slice (some ⟨g, 0, none⟩) X.length c) w' ∧ Below w.heap.size w w'
theorem PutO.parts {X : List Frm} {k : Int} {w w' : World} {e : Ending} (h : PutO (X, k) w e w') : PutOx X k w e w' := h
def PutGotx (X : List Frm) (k : Int) (w : World) (e : Ending) (w' : World) : Prop :=
  ∃ (M : List (Frm × Value)) (a : Option Addr) (c : Nat), e = .returned (.tuple #[.slice a X.length c, .int .i64 k]) ∧ (M.map fun m => m.1) = X ∧ OwnF w.heap.size M (.slice a X.length c) w' ∧ Far M ∧ Below w.heap.size w w'
theorem PutGot.parts {X : List Frm} {k : Int} {w w' : World} {e : Ending} (h : PutGot (X, k) w e w') : PutGotx X k w e w' := h
theorem Bx.mid {g lo hi : Nat} {x0 x1 x2 x3 : Value} {w w' : World} (h : Bx g x0 x1 x2 x3 w) (k : Mid lo hi w w') (hg : g < lo ∨ hi ≤ g) : Bx g x0 x1 x2 x3 w' := (k.block g h.lt hg).trans h
theorem kAt_le {X : List Frm} {j : Nat} (h : X.length + room X X.length ≤ 1048576) (hj : j ≤ X.length) : kAt 1 X j ≤ 5000000 := by
  have := room_le X hj
  simp only [kAt]; omega
theorem Bx.below' {g : Nat} {x0 x1 x2 x3 : Value} {w w' : World} (h : Bx g x0 x1 x2 x3 w) (b : Below w.heap.size w w') : Bx g x0 x1 x2 x3 w' := (b.block g h.lt).trans h
theorem OwnI.nums2 {Bn : Nat} {D : List Int} {a : Option Addr} {n c : Nat} {w : World} (h : OwnI Bn D (.slice a n c) w) : Nums a D w := by
  obtain ⟨a', c', e, hn⟩ := h.nums
  simp only [Value.slice.injEq] at e
  obtain ⟨rfl, _, _⟩ := e
  exact hn
theorem kAt_pos {k : Int} {X : List Frm} {j : Nat} (h : 0 ≤ k) : 0 ≤ kAt k X j := by simp only [kAt]; omega
end Go.Proofs.Ytcciabalbdnakab
