/- Boxes, plainly: by ranks, one of each; a frame put in, a rank taken out. No program's walk in it. -/
import Derived.Test.YtcciabalbdnakabSpWin
set_option linter.unusedSimpArgs false
set_option maxRecDepth 20000
namespace Go.Proofs.Ytcciabalbdnakab

/-- The first k are right, and their ranks rise. -/
def Rise (L : List Frm) (k : Nat) : Prop := ∀ j, j < k → 0 ≤ rkF (nthF L j) ∧ (0 < j → rkF (nthF L (j - 1)) < rkF (nthF L j))
def lastR (L : List Frm) : Nat → Int
  | 0 => -1
  | k + 1 => rkF (nthF L k)
def riseB (L : List Frm) : Bool := (List.range L.length).all fun j => decide (0 ≤ rkF (nthF L j)) && (decide (j = 0) || decide (rkF (nthF L (j - 1)) < rkF (nthF L j)))
theorem riseB_iff (L : List Frm) : riseB L = true ↔ Rise L L.length := by
  simp only [riseB, List.all_eq_true, List.mem_range, Bool.and_eq_true, Bool.or_eq_true, decide_eq_true_eq, Rise]
  constructor
  · intro h j hj
    refine ⟨(h j hj).1, fun h0 => ?_⟩
    rcases (h j hj).2 with h2 | h2
    · omega
    · exact h2
  · intro h j hj
    refine ⟨(h j hj).1, ?_⟩
    by_cases h0 : j = 0
    · exact .inl h0
    · exact .inr ((h j hj).2 (by omega))
def boxB (L : List Frm) : Bool := decide (L.length ≤ 16) && riseB L
theorem boxB_iff {L : List Frm} : boxB L = true ↔ L.length ≤ 16 ∧ Rise L L.length := by rw [boxB, Bool.and_eq_true, decide_eq_true_eq, riseB_iff]
theorem boxB_yes {L : List Frm} (h : L.length ≤ 16) (r : Rise L L.length) : boxB L = true := boxB_iff.2 ⟨h, r⟩
theorem boxB_no {L : List Frm} (h : ¬ (L.length ≤ 16 ∧ Rise L L.length)) : boxB L = false := by
  cases hb : boxB L with
  | false => rfl
  | true => exact absurd (boxB_iff.1 hb) h
theorem boxB_long {L : List Frm} (h : 16 < L.length) : boxB L = false := boxB_no fun k => by omega
theorem Rise.zero (L : List Frm) : Rise L 0 := fun j hj => absurd hj (by omega)
theorem Rise.less {L : List Frm} {k n : Nat} (h : Rise L n) (hk : k ≤ n) : Rise L k := fun j hj => h j (by omega)
theorem Rise.last_ge {L : List Frm} {k : Nat} (h : Rise L k) : -1 ≤ lastR L k := by
  cases k with
  | zero => exact Int.le_refl _
  | succ k => have := (h k (by omega)).1; simp only [lastR]; omega
theorem Rise.succ {L : List Frm} {k : Nat} (h : Rise L k) (hk : lastR L k < rkF (nthF L k)) : Rise L (k + 1) := by
  intro j hj
  by_cases e : j = k
  · subst e
    refine ⟨by have := h.last_ge; omega, fun h0 => ?_⟩
    obtain ⟨i, rfl⟩ : ∃ i, j = i + 1 := ⟨j - 1, by omega⟩
    exact hk
  · exact h j (by omega)
theorem Rise.stop {L : List Frm} {k n : Nat} (hn : k < n) (hk : rkF (nthF L k) ≤ lastR L k) : ¬ Rise L n := by
  intro h
  have h1 := h k hn
  cases k with
  | zero => simp only [lastR] at hk; omega
  | succ k => have := h1.2 (by omega); simp only [lastR] at hk; simp at this; omega
theorem Rise.lt {L : List Frm} {n : Nat} (h : Rise L n) : ∀ {i j : Nat}, i < j → j < n → rkF (nthF L i) < rkF (nthF L j) := by
  intro i j hij
  induction j with
  | zero => omega
  | succ j ih =>
    intro hj
    have h1 := (h (j + 1) hj).2 (by omega)
    simp at h1
    by_cases e : i = j
    · subst e; exact h1
    · have := ih (by omega) (by omega); omega

/-- Where a rank would stand: behind all of the first k that are lower. -/
def posN (L : List Frm) (r : Int) : Nat → Nat
  | 0 => 0
  | k + 1 => if rkF (nthF L k) < r then k + 1 else posN L r k
theorem posN_yes {L : List Frm} {r : Int} {k : Nat} (h : rkF (nthF L k) < r) : posN L r (k + 1) = k + 1 := by simp [posN, h]
theorem posN_no {L : List Frm} {r : Int} {k : Nat} (h : ¬ rkF (nthF L k) < r) : posN L r (k + 1) = posN L r k := by simp [posN, h]
theorem posN_le (L : List Frm) (r : Int) (k : Nat) : posN L r k ≤ k := by
  induction k with
  | zero => exact Nat.le_refl _
  | succ k ih =>
    by_cases h : rkF (nthF L k) < r
    · rw [posN_yes h]; exact Nat.le_refl _
    · rw [posN_no h]; omega
theorem posN_iff {L : List Frm} {r : Int} {k : Nat} (h : Rise L k) : ∀ j, j < k → (j < posN L r k ↔ rkF (nthF L j) < r) := by
  induction k with
  | zero => intro j hj; omega
  | succ k ih =>
    intro j hj
    have ih := ih (h.less (Nat.le_succ k))
    by_cases e : rkF (nthF L k) < r
    · rw [posN_yes e]
      refine ⟨fun _ => ?_, fun _ => by omega⟩
      by_cases e2 : j = k
      · subst e2; exact e
      · have := h.lt (show j < k by omega) (by omega); omega
    · rw [posN_no e]
      by_cases e2 : j = k
      · subst e2
        have := posN_le L r j
        exact ⟨fun _ => by omega, fun _ => by omega⟩
      · exact ih j (by omega)
/-- p is the place of the rank r. -/
def Pos (L : List Frm) (r : Int) (p : Nat) : Prop := p ≤ L.length ∧ (∀ j, j < p → rkF (nthF L j) < r) ∧ ∀ j, p ≤ j → j < L.length → r ≤ rkF (nthF L j)
theorem pos_at {L : List Frm} {r : Int} (h : Rise L L.length) : Pos L r (posN L r L.length) := by
  have hl := posN_le L r L.length
  refine ⟨hl, fun j hj => (posN_iff h j (by omega)).1 hj, fun j hp hj => ?_⟩
  by_cases e : rkF (nthF L j) < r
  · have := (posN_iff h j hj).2 e; omega
  · omega
theorem Pos.eq {L : List Frm} {r : Int} {p q : Nat} (h : Pos L r p) (k : Pos L r q) : p = q := by
  obtain ⟨h0, h1, h2⟩ := h
  obtain ⟨k0, k1, k2⟩ := k
  by_cases e : p < q
  · have := k1 p e; have := h2 p (Nat.le_refl _) (by omega); omega
  by_cases e2 : q < p
  · have := h1 q e2; have := k2 q (Nat.le_refl _) (by omega); omega
  omega
/-- Does one of that rank stand at place p? -/
def metB (L : List Frm) (r : Int) (p : Nat) : Bool := decide (p < L.length) && decide (rkF (nthF L p) = r)
theorem metB_yes {L : List Frm} {r : Int} {p : Nat} : metB L r p = true ↔ p < L.length ∧ rkF (nthF L p) = r := by simp [metB]
theorem metB_end {L : List Frm} {r : Int} {p : Nat} (h : ¬ p < L.length) : metB L r p = false := by simp [metB, h]
theorem Pos.above {L : List Frm} {r : Int} {p : Nat} (h : Pos L r p) (hm : metB L r p = false) (hr : Rise L L.length) : ∀ j, p ≤ j → j < L.length → r < rkF (nthF L j) := by
  intro j hp hj
  have h1 := h.2.2 p (Nat.le_refl _) (by omega)
  have h2 : rkF (nthF L p) ≠ r := fun e => by rw [metB_yes.2 ⟨by omega, e⟩] at hm; cases hm
  by_cases e : j = p
  · subst e; omega
  · have := hr.lt (show p < j by omega) hj; omega
theorem Pos.behind {L : List Frm} {r : Int} {p : Nat} (hm : metB L r p = true) (hr : Rise L L.length) : ∀ j, p + 1 ≤ j → j < L.length → r < rkF (nthF L j) := by
  intro j hp hj
  have h2 := metB_yes.1 hm
  have := hr.lt (show p < j by omega) hj
  omega

theorem nthF_left {A B : List Frm} {j : Nat} (h : j < A.length) : nthF (A ++ B) j = nthF A j := by simp [nthF, List.getD_eq_getElem?_getD, List.getElem?_append_left h]
theorem nthF_right {A B : List Frm} {j : Nat} (h : A.length ≤ j) : nthF (A ++ B) j = nthF B (j - A.length) := by simp [nthF, List.getD_eq_getElem?_getD, List.getElem?_append_right h]
theorem nthF_take {L : List Frm} {p j : Nat} (h : j < p) : nthF (L.take p) j = nthF L j := by simp [nthF, List.getD_eq_getElem?_getD, List.getElem?_take, h]
theorem nthF_drop (L : List Frm) (p j : Nat) : nthF (L.drop p) j = nthF L (p + j) := by simp [nthF, List.getD_eq_getElem?_getD, List.getElem?_drop]
theorem nthF_eq {L : List Frm} {j : Nat} (h : j < L.length) : nthF L j = L[j] := by simp [nthF, List.getD_eq_getElem?_getD, h]

/-- The box with F in the place of those from p up to q. -/
def splL (L : List Frm) (p q : Nat) (F : List Frm) : List Frm := L.take p ++ (F ++ L.drop q)
theorem splL_len {L : List Frm} {p q : Nat} {F : List Frm} (hp : p ≤ L.length) : (splL L p q F).length = p + (F.length + (L.length - q)) := by simp [splL]; omega
theorem splL_low {L : List Frm} {p q : Nat} {F : List Frm} (hp : p ≤ L.length) {j : Nat} (h : j < p) : nthF (splL L p q F) j = nthF L j := by
  rw [splL, nthF_left (by simp; omega), nthF_take h]
theorem splL_mid {L : List Frm} {p q : Nat} {f : Frm} (hp : p ≤ L.length) : nthF (splL L p q [f]) p = f := by
  rw [splL, nthF_right (by simp; omega)]
  have : p - (L.take p).length = 0 := by simp; omega
  rw [this]; rfl
theorem splL_high {L : List Frm} {p q : Nat} {f : Frm} (hp : p ≤ L.length) (j : Nat) : nthF (splL L p q [f]) (p + 1 + j) = nthF L (q + j) := by
  rw [splL, nthF_right (by simp; omega)]
  have : p + 1 + j - (L.take p).length = j + 1 := by simp; omega
  rw [this, ← nthF_drop L q j]; rfl
theorem splL_rise {L : List Frm} {p q : Nat} {f : Frm} (hr : Rise L L.length) (hp : p ≤ L.length) (hf : 0 ≤ rkF f) (lo : ∀ j, j < p → rkF (nthF L j) < rkF f) (hi : ∀ j, q ≤ j → j < L.length → rkF f < rkF (nthF L j)) :
    Rise (splL L p q [f]) (splL L p q [f]).length := by
  rw [splL_len hp]
  simp only [List.length_singleton]
  intro j hj
  rcases Nat.lt_trichotomy j p with h | h | h
  · rw [splL_low hp h]
    refine ⟨(hr j (by omega)).1, fun h0 => ?_⟩
    rw [splL_low hp (by omega)]
    exact (hr j (by omega)).2 h0
  · subst h
    rw [splL_mid hp]
    refine ⟨hf, fun h0 => ?_⟩
    rw [splL_low hp (by omega)]
    exact lo _ (by omega)
  · obtain ⟨i, rfl⟩ : ∃ i, j = p + 1 + i := ⟨j - (p + 1), by omega⟩
    rw [splL_high hp]
    refine ⟨(hr _ (by omega)).1, fun _ => ?_⟩
    cases i with
    | zero =>
      have e : p + 1 + 0 - 1 = p := by omega
      rw [e, splL_mid hp]
      exact hi _ (by omega) (by omega)
    | succ i =>
      have e : p + 1 + (i + 1) - 1 = p + 1 + i := by omega
      rw [e, splL_high hp]
      exact hr.lt (by omega) (by omega)

/-- What PutIn answers. -/
def putV (L : List Frm) (f : Frm) : List Frm × Int :=
  if boxB L = true then
    if rkF f < 0 then (L, 3) else
    if metB L (rkF f) (posN L (rkF f) L.length) = true then (splL L (posN L (rkF f) L.length) (posN L (rkF f) L.length + 1) [f], 1) else
    if 16 ≤ L.length then (L, 2) else (splL L (posN L (rkF f) L.length) (posN L (rkF f) L.length) [f], 0)
  else ([], 3)
theorem putV_bad {L : List Frm} (f : Frm) (h : boxB L = false) : putV L f = ([], 3) := by simp [putV, h]
theorem putV_no {L : List Frm} {f : Frm} (h : boxB L = true) (k : rkF f < 0) : putV L f = (L, 3) := by simp [putV, h, k]
theorem putV_over {L : List Frm} {f : Frm} {p : Nat} (h : boxB L = true) (k : ¬ rkF f < 0) (hp : Pos L (rkF f) p) (m : metB L (rkF f) p = true) : putV L f = (splL L p (p + 1) [f], 1) := by
  have e := hp.eq (pos_at (boxB_iff.1 h).2)
  subst e
  rw [putV, if_pos h, if_neg k, if_pos m]
theorem putV_full {L : List Frm} {f : Frm} {p : Nat} (h : boxB L = true) (k : ¬ rkF f < 0) (hp : Pos L (rkF f) p) (m : metB L (rkF f) p = false) (n : 16 ≤ L.length) : putV L f = (L, 2) := by
  have e := hp.eq (pos_at (boxB_iff.1 h).2)
  subst e
  rw [putV, if_pos h, if_neg k, if_neg (by simp [m]), if_pos n]
theorem putV_new {L : List Frm} {f : Frm} {p : Nat} (h : boxB L = true) (k : ¬ rkF f < 0) (hp : Pos L (rkF f) p) (m : metB L (rkF f) p = false) (n : ¬ 16 ≤ L.length) : putV L f = (splL L p p [f], 0) := by
  have e := hp.eq (pos_at (boxB_iff.1 h).2)
  subst e
  rw [putV, if_pos h, if_neg k, if_neg (by simp [m]), if_neg n]
/-- What TakenOut answers. -/
def notR (r : Int) (f : Frm) : Bool := decide (rkF f ≠ r)
def outV (L : List Frm) (r : Int) : List Frm := if boxB L = true then L.filter (notR r) else []
theorem outV_bad {L : List Frm} (r : Int) (h : boxB L = false) : outV L r = [] := by simp [outV, h]
theorem outV_ok {L : List Frm} (r : Int) (h : boxB L = true) : outV L r = L.filter (notR r) := by simp [outV, h]
theorem take_low {L : List Frm} {r : Int} {p : Nat} (h : ∀ j, j < p → rkF (nthF L j) < r) : (L.take p).filter (notR r) = L.take p := by
  refine List.filter_eq_self.2 fun x hx => ?_
  obtain ⟨j, hj, rfl⟩ := List.mem_iff_getElem.1 hx
  have hj' : j < p ∧ j < L.length := by simp at hj; omega
  have := h j hj'.1
  rw [nthF_eq hj'.2] at this
  simp [notR]; omega
theorem drop_high {L : List Frm} {r : Int} {q : Nat} (h : ∀ j, q ≤ j → j < L.length → r < rkF (nthF L j)) : (L.drop q).filter (notR r) = L.drop q := by
  refine List.filter_eq_self.2 fun x hx => ?_
  obtain ⟨j, hj, rfl⟩ := List.mem_iff_getElem.1 hx
  have hj' : q + j < L.length := by simp at hj; omega
  have := h (q + j) (by omega) hj'
  rw [nthF_eq hj'] at this
  simp [notR]; omega
theorem splL_self {L : List Frm} {p : Nat} (h : p < L.length) : splL L p (p + 1) [nthF L p] = L := by
  rw [nthF_eq h]; simp [splL]
theorem spl_filter {L : List Frm} {r : Int} {p q : Nat} {f : Frm} (lo : ∀ j, j < p → rkF (nthF L j) < r) (hi : ∀ j, q ≤ j → j < L.length → r < rkF (nthF L j)) (hf : rkF f = r) :
    (splL L p q [f]).filter (notR r) = splL L p q [] := by
  rw [splL, List.filter_append, List.filter_append, take_low lo, drop_high hi]
  have : [f].filter (notR r) = [] := by simp [notR, hf]
  rw [this]; rfl
theorem outV_met {L : List Frm} {r : Int} {p : Nat} (h : boxB L = true) (hp : Pos L r p) (m : metB L r p = true) : outV L r = splL L p (p + 1) [] := by
  have hm := metB_yes.1 m
  rw [outV_ok r h]
  conv => lhs; rw [← splL_self hm.1]
  exact spl_filter hp.2.1 (Pos.behind m (boxB_iff.1 h).2) hm.2
theorem outV_not {L : List Frm} {r : Int} {p : Nat} (h : boxB L = true) (hp : Pos L r p) (m : metB L r p = false) : outV L r = L := by
  rw [outV_ok r h]
  have e := List.take_append_drop p L
  conv => lhs; rw [← e]
  rw [List.filter_append, take_low hp.2.1, drop_high (hp.above m (boxB_iff.1 h).2), e]
theorem filter_succ (L : List Frm) (r : Int) (k : Nat) (h : k < L.length) : (L.take (k + 1)).filter (notR r) = (L.take k).filter (notR r) ++ if rkF (nthF L k) ≠ r then [nthF L k] else [] := by
  have e : L.take (k + 1) = L.take k ++ [nthF L k] := by
    rw [List.take_add_one, List.getElem?_eq_getElem h, nthF_eq h]; rfl
  rw [e, List.filter_append]
  congr 1
  simp only [List.filter_cons, List.filter_nil, notR]
  by_cases h2 : rkF (nthF L k) = r <;> simp [h2]

theorem frOk_len {id : Int} {rm : Bool} {ln : Int} {D : List Int} (h : frOk id rm ln D = true) : D.length ≤ 8 := by
  simp only [frOk, inR, Bool.and_eq_true, decide_eq_true_eq] at h
  obtain ⟨⟨h1, h2⟩, _⟩ := h
  cases rm with
  | true => rw [if_pos rfl] at h2; omega
  | false => rw [if_neg (by simp)] at h2; omega
theorem rkF_ok {f : Frm} (h : 0 ≤ rkF f) : frOk f.id f.rm f.ln f.D = true := by
  cases hk : frOk f.id f.rm f.ln f.D with
  | true => rfl
  | false => have := rankV_neg.2 hk; unfold rkF at h; omega
theorem rkF_len {f : Frm} (h : 0 ≤ rkF f) : f.D.length ≤ 8 := frOk_len (rkF_ok h)
theorem Rise.short {L : List Frm} {n j : Nat} (h : Rise L n) (hj : j < n) : (nthF L j).D.length ≤ 8 := rkF_len (h j hj).1

/-! ### Promise 9. -/
/-- What is put in is there, in a box by ranks. -/
structure PutOk (L : List Frm) (f : Frm) (X : List Frm) (k : Int) (p : Nat) : Prop where
  box : boxB X = true
  lt : p < X.length
  len : X.length ≤ 16
  at' : nthF X p = f
  other : ∀ j, j < X.length → j ≠ p → rkF (nthF X j) ≠ rkF f
  out : (outV X (rkF f)).length + 1 = X.length
  over : (k = 1 ↔ X.length = L.length)
  one : k = 0 ∨ k = 1
theorem put_ok {L : List Frm} {f : Frm} {X : List Frm} {k : Int} (h : putV L f = (X, k)) (h3 : k ≠ 3) (h2 : k ≠ 2) : ∃ p, PutOk L f X k p := by
  cases hb : boxB L with
  | false => rw [putV_bad f hb] at h; cases h; exact absurd rfl h3
  | true =>
    have hB := boxB_iff.1 hb
    by_cases hn : rkF f < 0
    · rw [putV_no hb hn] at h; cases h; exact absurd rfl h3
    have hp := pos_at (r := rkF f) hB.2
    generalize posN L (rkF f) L.length = p at hp
    have main : ∀ q, p ≤ q → q ≤ L.length → (p + (1 + (L.length - q)) ≤ 16) → (∀ j, q ≤ j → j < L.length → rkF f < rkF (nthF L j)) → (k = 1 ↔ p + (1 + (L.length - q)) = L.length) → (k = 0 ∨ k = 1) → X = splL L p q [f] → ∃ p, PutOk L f X k p := by
      rintro q hpq hq hl hi ho h01 rfl
      have hlen := splL_len (L := L) (p := p) (q := q) (F := [f]) hp.1
      simp only [List.length_singleton] at hlen
      have hbox : boxB (splL L p q [f]) = true := boxB_yes (by omega) (splL_rise hB.2 hp.1 (by omega) hp.2.1 hi)
      refine ⟨p, hbox, by omega, by omega, splL_mid hp.1, fun j hj hne => ?_, ?_, by rw [hlen]; exact ho, h01⟩
      · rcases Nat.lt_trichotomy j p with h | h | h
        · rw [splL_low hp.1 h]; have := hp.2.1 j h; omega
        · exact absurd h hne
        · obtain ⟨i, rfl⟩ : ∃ i, j = p + 1 + i := ⟨j - (p + 1), by omega⟩
          rw [splL_high hp.1]; have := hi (q + i) (by omega) (by omega); omega
      · rw [outV_ok _ hbox, spl_filter hp.2.1 hi rfl, splL_len hp.1, hlen]; simp; omega
    cases hm : metB L (rkF f) p with
    | true =>
      rw [putV_over hb hn hp hm] at h
      cases h
      have hm' := metB_yes.1 hm
      exact main (p + 1) (by omega) (by omega) (by omega) (Pos.behind hm hB.2) ⟨fun _ => by omega, fun _ => rfl⟩ (.inr rfl) rfl
    | false =>
      by_cases h16 : 16 ≤ L.length
      · rw [putV_full hb hn hp hm h16] at h; cases h; exact absurd rfl h2
      · rw [putV_new hb hn hp hm h16] at h
        cases h
        have := hp.1
        exact main p (Nat.le_refl _) hp.1 (by omega) (hp.above hm hB.2) ⟨fun e => by omega, fun e => by omega⟩ (.inl rfl) rfl
/-- In the other ways the box is as it was, or empty. -/
theorem put_stay {L : List Frm} {f : Frm} {X : List Frm} {k : Int} (h : putV L f = (X, k)) (h3 : k = 3 ∨ k = 2) : X = [] ∨ X = L := by
  rw [putV] at h
  split at h
  · split at h
    · cases h; exact .inr rfl
    · split at h
      · cases h; rcases h3 with h3 | h3 <;> cases h3
      · split at h
        · cases h; exact .inr rfl
        · cases h; rcases h3 with h3 | h3 <;> cases h3
  · cases h; exact .inl rfl
end Go.Proofs.Ytcciabalbdnakab
