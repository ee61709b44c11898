/- Contracts of NeedOf, of the model. -/
import Derived.Test.YtcciabalbdnakaaDoorNeedP
import Derived.Test.YtcciabalbdnakaaDoorProg
import Derived.Test.YtcciabalbdnakaaDoorNum
import Derived.Test.YtcciabalbdnakaaDoorOk
import Derived.Test.YtcciabalbdnakaaDoorMin
import Derived.WalkArith
set_option maxRecDepth 20000
namespace Go.Proofs.YtcciabalbdnakaaDoor
open Go.RowKit

theorem u8_ne49 {c : UInt8} (h : c ≠ 49) : (c.toNat : Int) ≠ 49 := by
  intro e
  apply h
  apply UInt8.toNat_inj.1
  have h2 : c.toNat = 49 := by omega
  rw [h2]; rfl
theorem u8_ne48 {c : UInt8} (h : c ≠ 48) : (c.toNat : Int) ≠ 48 := by
  intro e
  apply h
  apply UInt8.toNat_inj.1
  have h2 : c.toNat = 48 := by omega
  rw [h2]; rfl
/-- spec.NeedOf. -/
theorem specNeed (s : ByteArray) (w : World) (hs : s.size ≤ maxLen) :
    Calls Tryd.prog 15 #[.string s] w fun e w' => e = .returned (.int .i64 (needV s)) ∧ w = w' := by
  have hs' := hs
  unfold maxLen at hs'
  go_enter Tryd.func15, Tryd.ntmps15
  go_wp2_with fail
  refine (specOk _ _ hs).mono ?_
  rintro e w1 ⟨rfl, rfl⟩
  cases hb : okB s with
  | false =>
    have HN := Lib.hid (needV_no hb)
    clear hb
    go_wp2_with fail
    go_ret
    exact ⟨ret_int HN.out.symm, rfl⟩
  | true =>
    by_cases h19 : 19 ≤ s.size
    · have hi := index_at s 12 12 w (by omega) rfl
      rw [byteAt_eq] at hi
      by_cases h49 : byteAt s 12 = 49
      · have HN := Lib.hid (needV_rm hb h19 h49)
        rw [h49] at hi
        clear hb h49
        go_wp2_with fail
        go_ret
        exact ⟨ret_int HN.out.symm, rfl⟩
      · have HN := Lib.hid (needV_len hb h19 h49)
        have hne := u8_ne49 h49
        generalize ((byteAt s 12).toNat : Int) = d at hi hne
        have hbd := numV_bd (lenS s)
        have hsz : (s.extract 15 19).size = 4 := size_ext h19
        have HS := Lib.hid (show lenS s = s.extract 15 19 from rfl)
        clear hb h49
        go_wp2_with fail
        refine (specNum _ _ (by rw [hsz]; decide)).mono ?_
        rintro e w1 ⟨rfl, rfl⟩
        rw [HS.out] at hbd HN
        generalize numV (s.extract 15 19) = n at *
        generalize numOk (s.extract 15 19) = k at *
        by_cases hn8 : n < 8
        · rw [if_pos hn8] at HN
          go_wp2_with fail
          refine (minLt _ _ _ hn8).mono ?_
          rintro e w1 ⟨rfl, rfl⟩
          go_wp2_with fail
          go_ret
          exact ⟨ret_int HN.out.symm, rfl⟩
        · rw [if_neg hn8] at HN
          go_wp2_with fail
          refine (minGe _ _ _ (by omega)).mono ?_
          rintro e w1 ⟨rfl, rfl⟩
          go_wp2_with fail
          go_ret
          exact ⟨ret_int HN.out.symm, rfl⟩
    · have HN := Lib.hid (needV_short (s := s) (by omega))
      clear hb
      go_wp2_with fail
      go_ret
      exact ⟨ret_int HN.out.symm, rfl⟩

end Go.Proofs.YtcciabalbdnakaaDoor
