/- Contracts of WithCheck and CheckRight, of the program and of the model: at every text both answer alike. -/
import Derived.Test.YtcciabalbdnakaaDoorCheck
import Derived.Test.YtcciabalbdnakaaDoorDigs
import Derived.Test.YtcciabalbdnakaaDoorNum
set_option linter.unusedSimpArgs false
set_option linter.unusedVariables false
set_option maxRecDepth 20000
namespace Go.Proofs.YtcciabalbdnakaaDoor
open Go.RowKit

/-- spec.WithCheck. -/
theorem specWith (s : ByteArray) (w : World) (hs : s.size ≤ maxLen) :
    Calls Tryd.prog 39 #[.string s] w fun e w' => e = .returned (.tuple #[.string (withV s), .bool (withOk s)]) ∧ Below w.heap.size w w' := by
  have hs' := hs
  unfold maxLen at hs'
  cases hb : okB s with
  | false =>
    have HC := Lib.hid (crcV_no hb)
    have HW := Lib.hid (withOk_no hb)
    clear hb
    go_enter Tryd.func39, Tryd.ntmps39
    go_wp2_with (go_at_call 64; refine (specCheck _ _ hs).mono ?_; rw [HC.out]; rintro e w' ⟨rfl, rfl⟩)
    go_ret2
    exact ⟨ret_text (withV_no HW.out).symm HW.out.symm, Below.refl _ _⟩
  | true =>
    have HC := Lib.hid (crcV_yes hb)
    have hl := okB_size hb
    have hlt := crc_lt s.data.toList
    have HB := Lib.hid hb
    have hof : 15 ≤ 32 := by decide
    clear hb
    go_enter Tryd.func39, Tryd.ntmps39
    go_wp2_with fail
    refine (specCheck _ _ hs).mono ?_
    rw [HC.out]
    rintro e w' ⟨rfl, rfl⟩
    go_wp2_with fail
    refine (specOf _ _ _).mono ?_
    rintro e w1 ⟨rfl, hb1⟩
    have hz := (tail15 s.data.toList).1
    have HK := Lib.hid (okB_with HB.out)
    by_cases h385 : s.size ≤ 385
    · have HW := Lib.hid (withOk_yes HB.out h385)
      go_wp2_with fail
      refine (specOk _ _ (by rw [ByteArray.size_append, hz]; unfold maxLen; omega)).mono ?_
      rw [HK.out, decide_eq_true (by omega)]
      rintro e w' ⟨rfl, rfl⟩
      go_wp2_with fail
      go_ret2
      exact ⟨ret_text (withV_yes HW.out).symm HW.out.symm, hb1⟩
    · have HW := Lib.hid (withOk_long (s := s) (by omega))
      go_wp2_with fail
      refine (specOk _ _ (by rw [ByteArray.size_append, hz]; unfold maxLen; omega)).mono ?_
      rw [HK.out, decide_eq_false (by omega)]
      rintro e w' ⟨rfl, rfl⟩
      go_wp2_with fail
      go_ret2
      exact ⟨ret_text (withV_no HW.out).symm HW.out.symm, hb1⟩
/-- impl.WithCheck. -/
theorem implWith (s : ByteArray) (w : World) (hs : s.size ≤ maxLen) :
    Calls Tryd.prog 7 #[.string s] w fun e w' => e = .returned (.tuple #[.string (withV s), .bool (withOk s)]) ∧ Below w.heap.size w w' := by
  have hs' := hs
  unfold maxLen at hs'
  cases hb : okB s with
  | false =>
    have HW := Lib.hid (withOk_no hb)
    go_enter Tryd.func7, Tryd.ntmps7
    go_wp2_with fail
    refine (implOk _ _ hs).mono ?_
    rw [hb]
    rintro e w1 ⟨rfl, hb1⟩
    clear hb
    go_wp2_with fail
    go_ret2
    exact ⟨ret_text (withV_no HW.out).symm HW.out.symm, hb1⟩
  | true =>
    have HC := Lib.hid (crcV_yes hb)
    have hl := okB_size hb
    have HB := Lib.hid hb
    clear hb
    by_cases h385 : s.size ≤ 385
    · have HW := Lib.hid (withOk_yes HB.out h385)
      have d1 : decide (400 < (s.size : Int) + 15) = false := by simp; omega
      go_enter Tryd.func7, Tryd.ntmps7
      go_wp2_with fail
      refine (implOk _ _ hs).mono ?_
      rw [HB.out]
      rintro e w1 ⟨rfl, hb1⟩
      go_wp2_with fail
      refine (implCheck _ _ hs).mono ?_
      rw [HC.out]
      rintro e w2 ⟨rfl, hb2⟩
      go_wp2_with fail
      refine (implOf _ _ _).mono ?_
      rintro e w3 ⟨rfl, hb3⟩
      have hz := (tail15 s.data.toList).1
      go_wp2_with fail
      go_ret2
      exact ⟨ret_text (withV_yes HW.out).symm HW.out.symm, Below.then2 (Below.then2 hb1 hb2) hb3⟩
    · have HW := Lib.hid (withOk_long (s := s) (by omega))
      have d1 : decide (400 < (s.size : Int) + 15) = true := by simp; omega
      go_enter Tryd.func7, Tryd.ntmps7
      go_wp2_with fail
      refine (implOk _ _ hs).mono ?_
      rw [HB.out]
      rintro e w1 ⟨rfl, hb1⟩
      go_wp2_with fail
      go_ret2
      exact ⟨ret_text (withV_no HW.out).symm HW.out.symm, hb1⟩
/-- spec.CheckRight. -/
theorem specRight (s : ByteArray) (w : World) (hs : s.size ≤ maxLen) :
    Calls Tryd.prog 41 #[.string s] w fun e w' => e = .returned (.bool (rightB s)) ∧ w = w' := by
  have hs' := hs
  unfold maxLen at hs'
  cases hb : okB s with
  | false =>
    have HR := Lib.hid (rightB_no hb)
    go_enter Tryd.func41, Tryd.ntmps41
    go_wp2_with fail
    refine (specOk _ _ hs).mono ?_
    rw [hb]
    rintro e w1 ⟨rfl, rfl⟩
    clear hb
    go_wp2_with fail
    go_ret
    exact ⟨ret_bool HR.out.symm, rfl⟩
  | true =>
    have HB := Lib.hid hb
    clear hb
    by_cases h15 : 15 ≤ s.size
    · have HR := Lib.hid (right_spec HB.out h15)
      go_enter Tryd.func41, Tryd.ntmps41
      go_wp2_with fail
      refine (specOk _ _ hs).mono ?_
      rw [HB.out]
      rintro e w1 ⟨rfl, rfl⟩
      obtain ⟨p1, p2⟩ := okB_parts HB.out (s.size - 15) (by omega)
      have z1 := size_front s (s.size - 15) (by omega)
      have z2 := size_back s (s.size - 15)
      have Z := Lib.hid (And.intro z1 z2)
      have P1 := Lib.hid p1
      clear z1 z2 p1 p2
      go_wp2_with fail
      refine (specNum _ _ (by rw [Z.out.2]; unfold maxLen; omega)).mono ?_
      rintro e w1 ⟨rfl, rfl⟩
      go_wp2_with fail
      refine (specCheck _ _ (by rw [Z.out.1]; unfold maxLen; omega)).mono ?_
      rw [crcV_yes P1.out]
      rintro e w1 ⟨rfl, rfl⟩
      go_wp2_with fail
      go_ret
      exact ⟨ret_bool HR.out.symm, rfl⟩
    · have HR := Lib.hid (rightB_short (s := s) (by omega))
      go_enter Tryd.func41, Tryd.ntmps41
      go_wp2_with fail
      refine (specOk _ _ hs).mono ?_
      rw [HB.out]
      rintro e w1 ⟨rfl, rfl⟩
      go_wp2_with fail
      go_ret
      exact ⟨ret_bool HR.out.symm, rfl⟩
/-- impl.CheckRight. -/
theorem implRight (s : ByteArray) (w : World) (hs : s.size ≤ maxLen) :
    Calls Tryd.prog 52 #[.string s] w fun e w' => e = .returned (.bool (rightB s)) ∧ Below w.heap.size w w' := by
  have hs' := hs
  unfold maxLen at hs'
  by_cases h15 : 15 ≤ s.size
  · go_enter Tryd.func52, Tryd.ntmps52
    have HR := Lib.hid (right_impl_teq h15)
    have Z := Lib.hid (size_front s (s.size - 15) (by omega))
    go_wp2_with fail
    refine (implWith _ _ (by rw [Z.out]; unfold maxLen; omega)).mono ?_
    rintro e w1 ⟨rfl, hb1⟩
    cases hw : withOk (s.extract 0 (s.size - 15)) with
    | false =>
      rw [hw] at HR
      clear hw
      go_wp2_with fail
      go_ret
      exact ⟨ret_bool HR.out, hb1⟩
    | true =>
      rw [hw] at HR
      clear hw
      go_wp2_with fail
      go_ret
      exact ⟨ret_bool HR.out, hb1⟩
  · have HR := Lib.hid (rightB_short (s := s) (by omega))
    go_enter Tryd.func52, Tryd.ntmps52
    go_wp2_with fail
    go_ret
    exact ⟨ret_bool HR.out.symm, Below.refl _ _⟩

end Go.Proofs.YtcciabalbdnakaaDoor
