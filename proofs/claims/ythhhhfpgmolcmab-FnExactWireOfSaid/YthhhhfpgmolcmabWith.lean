/- Contracts of WithCheck and CheckRight, of the program and of the model: at every text both answer alike. -/
import Derived.Test.YthhhhfpgmolcmabCheck
import Derived.Test.YthhhhfpgmolcmabDigs
import Derived.Test.YthhhhfpgmolcmabNum
set_option linter.unusedSimpArgs false
set_option linter.unusedVariables false
namespace Go.Proofs.Ythhhhfpgmolcmab
open Go.RowKit

/-- spec.WithCheck. -/
theorem specWith (s : ByteArray) (w : World) (hs : s.size ≤ maxLen) :
    Calls Try.prog 50 #[.string s] w fun e w' => e = .returned (.tuple #[.string (withV s), .bool (withOk s)]) ∧ Below w.heap.size w w' := by
  have hs' := hs
  unfold maxLen at hs'
  cases hb : okB s with
  | false =>
    have HC := Lib.hid (crcV_no hb)
    have HW := Lib.hid (withOk_no hb)
    clear hb
    go_enter Try.func50, Try.ntmps50
    go_wp2_with (go_at_call 63; refine (specCheck _ _ hs).mono ?_; rw [HC.out]; rintro e w' ⟨rfl, rfl⟩)
    go_ret2
    exact ⟨ret_text (withV_no HW.out).symm HW.out.symm, Below.refl _ _⟩
  | true =>
    have HC := Lib.hid (crcV_yes hb)
    have hl := okB_size hb
    have hlt := crc_lt s.data.toList
    have HB := Lib.hid hb
    have hof : 15 ≤ 32 := by decide
    clear hb
    go_enter Try.func50, Try.ntmps50
    go_wp2_with fail
    refine (specCheck _ _ hs).mono ?_
    rw [HC.out]
    rintro e w' ⟨rfl, rfl⟩
    go_wp2_with fail
    refine (specOf _ _ _).mono ?_
    rintro e w1 ⟨rfl, hb1⟩
    have hz := (tail15 s.data.toList).1
    have HK := Lib.hid (okB_with HB.out)
    by_cases h385 : s.size ≤ 385
    · have HW := Lib.hid (withOk_yes HB.out h385)
      go_wp2_with fail
      refine (specOk _ _ (by rw [ByteArray.size_append, hz]; unfold maxLen; omega)).mono ?_
      rw [HK.out, decide_eq_true (by omega)]
      rintro e w' ⟨rfl, rfl⟩
      go_wp2_with fail
      go_ret2
      exact ⟨ret_text (withV_yes HW.out).symm HW.out.symm, hb1⟩
    · have HW := Lib.hid (withOk_long (s := s) (by omega))
      go_wp2_with fail
      refine (specOk _ _ (by rw [ByteArray.size_append, hz]; unfold maxLen; omega)).mono ?_
      rw [HK.out, decide_eq_false (by omega)]
      rintro e w' ⟨rfl, rfl⟩
      go_wp2_with fail
      go_ret2
      exact ⟨ret_text (withV_no HW.out).symm HW.out.symm, hb1⟩
/-- impl.WithCheck. -/
theorem implWith (s : ByteArray) (w : World) (hs : s.size ≤ maxLen) :
    Calls Try.prog 45 #[.string s] w fun e w' => e = .returned (.tuple #[.string (withV s), .bool (withOk s)]) ∧ Below w.heap.size w w' := by
  have hs' := hs
  unfold maxLen at hs'
  cases hb : okB s with
  | false =>
    have HW := Lib.hid (withOk_no hb)
    go_enter Try.func45, Try.ntmps45
    go_wp2_with fail
    refine (implOk _ _ hs).mono ?_
    rw [hb]
    rintro e w1 ⟨rfl, hb1⟩
    clear hb
    go_wp2_with fail
    go_ret2
    exact ⟨ret_text (withV_no HW.out).symm HW.out.symm, hb1⟩
  | true =>
    have HC := Lib.hid (crcV_yes hb)
    have hl := okB_size hb
    have HB := Lib.hid hb
    clear hb
    by_cases h385 : s.size ≤ 385
    · have HW := Lib.hid (withOk_yes HB.out h385)
      have d1 : decide (400 < (s.size : Int) + 15) = false := by simp; omega
      go_enter Try.func45, Try.ntmps45
      go_wp2_with fail
      refine (implOk _ _ hs).mono ?_
      rw [HB.out]
      rintro e w1 ⟨rfl, hb1⟩
      go_wp2_with fail
      refine (implCheck _ _ hs).mono ?_
      rw [HC.out]
      rintro e w2 ⟨rfl, hb2⟩
      go_wp2_with fail
      refine (implOf _ _ _).mono ?_
      rintro e w3 ⟨rfl, hb3⟩
      have hz := (tail15 s.data.toList).1
      go_wp2_with fail
      go_ret2
      exact ⟨ret_text (withV_yes HW.out).symm HW.out.symm, Below.then2 (Below.then2 hb1 hb2) hb3⟩
    · have HW := Lib.hid (withOk_long (s := s) (by omega))
      have d1 : decide (400 < (s.size : Int) + 15) = true := by simp; omega
      go_enter Try.func45, Try.ntmps45
      go_wp2_with fail
      refine (implOk _ _ hs).mono ?_
      rw [HB.out]
      rintro e w1 ⟨rfl, hb1⟩
      go_wp2_with fail
      go_ret2
      exact ⟨ret_text (withV_no HW.out).symm HW.out.symm, hb1⟩

end Go.Proofs.Ythhhhfpgmolcmab
