/- Contracts of MostLength, of the program and of the model. -/
import Derived.Test.YtnabcnmgfchceaaMost
import Derived.Test.YtnabcnmgfchceaaFr
import Derived.WalkArith
namespace Go.Proofs.Ytnabcnmgfchceaa
open Go.RowKit

theorem mostV_bd (n : Int) : -1 ≤ mostV n ∧ mostV n ≤ 100 := by
  unfold mostV
  split
  · omega
  · split
    · omega
    · omega
theorem implLong (n : Int) (w : World) (_hn : (Lit.int .i64 n).wf = true) :
    Calls Try.prog 44 #[.int .i64 n] w fun e w' => e = .returned (.int .i64 (longV n)) ∧ Below w.heap.size w w' := by
  by_cases h1 : n < 0
  · have HM := Lib.hid (longV_no (n := n) (.inl h1))
    go_enter Try.func44, Try.ntmps44
    go_wp2
    go_ret
    exact ⟨ret_int HM.out.symm, Below.refl _ _⟩
  by_cases h2 : 8 < n
  · have HM := Lib.hid (longV_no (n := n) (.inr h2))
    go_enter Try.func44, Try.ntmps44
    go_wp2
    go_ret
    exact ⟨ret_int HM.out.symm, Below.refl _ _⟩
  have HM := Lib.hid (longV_yes (n := n) (by omega) (by omega))
  have h0 : 0 ≤ n := by omega
  have h4 : n ≤ 8 := by omega
  have hb := mostV_bd (19 + 8 * n + 15)
  have he : Hid (19 + 8 * n + 15 = 34 + 8 * n) := Lib.hid (by omega)
  clear h1 h2
  go_enter Try.func44, Try.ntmps44
  go_wp2_with fail
  refine (implMost _ _ (Go.WalkArith.wf_i64 ⟨by omega, by omega⟩)).mono ?_
  rintro e w1 ⟨rfl, b1⟩
  go_wp2
  go_ret
  exact ⟨ret_int (by rw [HM.out, ← he.out]), b1⟩
theorem specLong (n : Int) (w : World) (_hn : (Lit.int .i64 n).wf = true) :
    Calls Try.prog 45 #[.int .i64 n] w fun e w' => e = .returned (.int .i64 (longV n)) ∧ w = w' := by
  by_cases h : 0 ≤ n ∧ n ≤ 8
  · have HM := Lib.hid (longV_yes (n := n) h.1 h.2)
    have h0 := h.1
    have h4 := h.2
    have hb := mostV_bd (34 + 8 * n)
    have hd : (decide (0 ≤ n) && decide (n ≤ 8)) = true := by simp; omega
    clear h
    go_enter Try.func45, Try.ntmps45
    go_wp2_with fail
    refine (l1In _ _ _ _).mono ?_
    rintro e w1 ⟨rfl, rfl⟩
    rw [hd]
    clear hd
    go_wp2_with fail
    refine (specMost _ _ (Go.WalkArith.wf_i64 ⟨by omega, by omega⟩)).mono ?_
    rintro e w1 ⟨rfl, rfl⟩
    go_wp2
    go_ret
    exact ⟨ret_int (by rw [HM.out]), rfl⟩
  · have HM := Lib.hid (longV_no (n := n) (by omega))
    have hd : (decide (0 ≤ n) && decide (n ≤ 8)) = false := by simp; omega
    clear h
    go_enter Try.func45, Try.ntmps45
    go_wp2_with fail
    refine (l1In _ _ _ _).mono ?_
    rintro e w1 ⟨rfl, rfl⟩
    rw [hd]
    clear hd
    go_wp2
    go_ret
    exact ⟨ret_int HM.out.symm, rfl⟩

end Go.Proofs.Ytnabcnmgfchceaa
