/- container/heap over the contest: up, down, Push, Pop; the first one stays the least. -/
import Derived.Test.YtcciabalbdnakabHeapM
set_option linter.unusedVariables false
namespace Go.Proofs.Ytcciabalbdnakab
open Go.RowKit

theorem ltE_yes {a b : Int × Int} : ltE a b = true ↔ a.1 < b.1 ∨ (a.1 = b.1 ∧ a.2 < b.2) := by
  unfold ltE
  split
  · rename_i h; rw [decide_eq_true_eq]; omega
  · rename_i h; rw [decide_eq_true_eq]; omega
theorem ltE_no {a b : Int × Int} : ltE a b = false ↔ b.1 < a.1 ∨ (a.1 = b.1 ∧ b.2 ≤ a.2) := by
  rw [← Bool.not_eq_true, ltE_yes]; omega

def minE (x m : Int × Int) : Int × Int := if ltE x m = true then x else m
/-- On its way up: x stands at j, m is the least of the others. -/
structure Upw (m x : Int × Int) (P : Int × Int → Prop) (E : List (Int × Int)) (j : Nat) : Prop where
  lt : j < E.length
  here : nthE E j = x
  others : ∀ i, i < E.length → i ≠ j → ltE (nthE E i) m = false
  top : j = 0 → ltE x m = true
  root : j ≠ 0 → nthE E 0 = m
  all : ∀ i, i < E.length → P (nthE E i)
/-- The first one is the least. -/
structure Least (P : Int × Int → Prop) (E : List (Int × Int)) : Prop where
  least : ∀ i, i < E.length → ltE (nthE E i) (nthE E 0) = false
  all : ∀ i, i < E.length → P (nthE E i)
section
variable {m x : Int × Int} {P : Int × Int → Prop} {E : List (Int × Int)} {j : Nat}
theorem Upw.done0 (h : Upw m x P E 0) : Least P E ∧ nthE E 0 = minE x m := by
  have ht := h.top rfl
  refine ⟨⟨fun i hi => ?_, h.all⟩, by rw [minE, if_pos ht]; exact h.here⟩
  rw [h.here]
  by_cases e : i = 0
  · subst e; rw [h.here]; rw [ltE_no]; omega
  · have := h.others i hi e
    rw [ltE_no] at this ⊢
    rw [ltE_yes] at ht
    omega
theorem Upw.done (h : Upw m x P E j) (hj : j ≠ 0) (hl : ltE x (nthE E ((j - 1) / 2)) = false) : Least P E ∧ nthE E 0 = minE x m := by
  have hr := h.root hj
  have hx : ltE x m = false := by
    by_cases e : (j - 1) / 2 = 0
    · rw [e, hr] at hl; exact hl
    · have hlt := h.lt
      have h2 := h.others ((j - 1) / 2) (by omega) (by omega)
      rw [ltE_no] at h2 hl ⊢
      omega
  refine ⟨⟨fun i hi => ?_, h.all⟩, by rw [minE, hx]; exact hr⟩
  rw [hr]
  by_cases e : i = j
  · subst e; rw [h.here]; exact hx
  · exact h.others i hi e
theorem Upw.step (h : Upw m x P E j) (hj : j ≠ 0) (hl : ltE x (nthE E ((j - 1) / 2)) = true) : Upw m x P (swapE E ((j - 1) / 2) j) ((j - 1) / 2) := by
  have hlt := h.lt
  have hi : (j - 1) / 2 < E.length := by omega
  have hij : (j - 1) / 2 ≠ j := by omega
  refine ⟨by rw [swapE_len]; exact hi, ?_, ?_, ?_, ?_, ?_⟩
  · rw [swapE_at hi hlt, if_neg hij, if_pos rfl]; exact h.here
  · intro i hi' hne
    rw [swapE_len] at hi'
    rw [swapE_at hi hlt]
    by_cases e : i = j
    · rw [if_pos e]; exact h.others _ hi hij
    · rw [if_neg e, if_neg hne]; exact h.others i hi' e
  · intro e; rw [e, h.root hj] at hl; exact hl
  · intro e
    rw [swapE_at hi hlt, if_neg (by omega), if_neg (fun k => e k.symm)]; exact h.root hj
  · intro i hi'
    rw [swapE_len] at hi'
    rw [swapE_at hi hlt]
    split
    · exact h.all _ hi
    · split
      · exact h.all _ hlt
      · exact h.all _ hi'
end

set_option maxRecDepth 20000 in
/-- container/heap.up. -/
theorem heapUp {w0 : World} {p : Nat} {E : List (Int × Int)} {v : Value} {w : World} (h : HS w0 p E v w) (j : Nat) (m x : Int × Int) (P : Int × Int → Prop) (U : Upw m x P E j) (hsz : E.length ≤ 10000000) :
    Calls Try.prog 78 #[.iface 62 (.pointer (some ⟨p, 0, none⟩)), .int .i64 j] w fun e w' =>
      e = .returned (.tuple #[]) ∧ ∃ E', HS w0 p E' v w' ∧ E'.length = E.length ∧ Least P E' ∧ nthE E' 0 = minE x m := by
  go_enter Try.func78, Try.ntmps78
  go_wp2_with fail
  go_loopw [1] (fun i wr => ∃ (k : Nat) (F : List (Int × Int)), i = .int .i64 k ∧ F.length = E.length ∧ HS w0 p F v wr ∧ Upw m x P F k) (fun i _ => (intOf i).toNat)
  case atStart => exact ⟨j, E, rfl, rfl, h, U⟩
  case round =>
    clear h U
    obtain ⟨k, F, rfl, hF, h, U⟩ := hrel
    have hlt := U.lt
    cases k with
    | zero =>
      have D := Lib.hid U.done0
      clear U
      go_wp2
      go_end0
      exact ⟨rfl, F, h, hF, D.out⟩
    | succ k =>
      have HF := Lib.hid hF
      have hk0 : (k : Int) < 10000000 := by omega
      have hk1 : ((k : Int) / 2 == (k : Int) + 1) = false := by rw [beq_eq_false_iff_ne]; omega
      clear hF
      have e1 : ((k + 1 : Nat) : Int) = (k : Int) + 1 := by omega
      have e2 : ((k / 2 : Nat) : Int) = (k : Int) / 2 := by omega
      have hlt2 : k / 2 < F.length := by omega
      have e3 : (k + 1 - 1) / 2 = k / 2 := by simp
      have HL := hLess h (k + 1) (k / 2) hlt hlt2
      rw [e1, e2, U.here] at HL
      obtain ⟨a, c, rfl, _⟩ := h.own.is
      have ml := mLess p a F.length c wr h.cell
      cases hl : ltE x (nthE F (k / 2)) with
      | false =>
        have D := Lib.hid (U.done (by omega) (by rw [e3]; exact hl))
        clear U e3
        rw [hl] at HL
        clear e1 e2 hl
        go_wp2_with fail
        refine HL.mono ?_
        rintro e w2 ⟨rfl, b2⟩
        replace h := h.below b2
        clear b2 HL
        go_wp2_with fail
        go_end0
        exact ⟨rfl, F, h, HF.out, D.out⟩
      | true =>
        have D := Lib.hid (U.step (by omega) (by rw [e3]; exact hl))
        rw [e3] at D
        clear U e3
        rw [hl] at HL
        have E1 := Lib.hid e1
        have E2 := Lib.hid e2
        clear hl e1 e2
        go_wp2_with fail
        refine HL.mono ?_
        rintro e w2 ⟨rfl, b2⟩
        replace h := h.below b2
        clear b2 HL ml
        have HS := hSwap h (k / 2) (k + 1) hlt2 hlt
        rw [E1.out, E2.out] at HS
        have ms := mSwap p a F.length c w2 h.cell
        go_wp2_with fail
        refine HS.mono ?_
        rintro e w3 ⟨rfl, h3⟩
        clear HS ms h
        go_wp2_with fail
        go_roundw
        case rel => exact ⟨k / 2, _, by rw [E2.out], by rw [swapE_len]; exact HF.out, h3, D.out⟩
        case measure => simp [intOf]; omega
end Go.Proofs.Ytcciabalbdnakab
