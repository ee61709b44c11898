/- Contract of the program's bits that a frame says ahead of its tail (checkedBody). -/
import Derived.Test.YthhhhfpgmolcmabFull
import Derived.Test.YthhhhfpgmolcmabBody
import Derived.Test.YthhhhfpgmolcmabWith
set_option linter.unusedVariables false
namespace Go.Proofs.Ythhhhfpgmolcmab
open Go.RowKit

/-- impl.checkedBody. -/
theorem implChecked (id : Int) (rm : Bool) (ln : Int) (a : Option Addr) (D : List Int) (c : Nat) (w : World) (hd : Nums a D w) :
    Calls Try.prog 22 #[frV id rm ln a D.length c] w fun e w' => e = .returned (.string (fullV id rm ln D)) ∧ Below w.heap.size w w' := by
  have f0 := Four.made (.int .i64 id) (.bool rm) (.int .i64 ln) (.slice a D.length c) 26 (Below.refl w.heap.size w)
  have hbl : (bodyV id rm ln D).size ≤ 100 := by
    cases h : frOk id rm ln D with
    | true => have := frOk_len h; rw [body_size h]; omega
    | false => rw [bodyV_no h]; decide
  have HV : Hid (fullV id rm ln D = withV (bodyV id rm ln D)) := Lib.hid rfl
  go_enter Try.func22, Try.ntmps22
  go_wp2_with fail
  refine (implBodyOf _ _ _ _ _ _ _ (hd.alloc _)).mono ?_
  rintro e w1 ⟨rfl, b1⟩
  replace f0 := f0.below b1
  clear b1
  generalize bodyV id rm ln D = b at *
  go_wp2_with fail
  refine (implWith _ _ (by unfold maxLen; omega)).mono ?_
  rintro e w3 ⟨rfl, b2⟩
  replace f0 := f0.below b2
  clear b2
  generalize withV b = u at *
  generalize withOk b = uo at *
  go_wp2_with fail
  go_ret
  exact ⟨by rw [HV.out]; rfl, f0.2⟩

end Go.Proofs.Ythhhhfpgmolcmab
