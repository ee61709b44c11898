/- Contracts of RankOf, of the program and of the model: twice the Id, and 1 more of a remote one; -1 of a frame that is not right. -/
import Derived.Test.YtcciabalbdnakabFok
set_option maxRecDepth 20000
namespace Go.Proofs.Ytcciabalbdnakab
open Go.RowKit

def rankV (id : Int) (rm : Bool) (ln : Int) (D : List Int) : Int := if frOk id rm ln D = true then (if rm = true then id * 2 + 1 else id * 2) else -1
theorem rankV_no {id : Int} {rm : Bool} {ln : Int} {D : List Int} (h : frOk id rm ln D = false) : rankV id rm ln D = -1 := by simp [rankV, h]
theorem rankV_yes {id : Int} {rm : Bool} {ln : Int} {D : List Int} (h : frOk id rm ln D = true) : rankV id rm ln D = if rm = true then id * 2 + 1 else id * 2 := by simp [rankV, h]
theorem frOk_id {id : Int} {rm : Bool} {ln : Int} {D : List Int} (h : frOk id rm ln D = true) : 0 ≤ id ∧ id ≤ 2047 := by
  simp only [frOk, inR, Bool.and_eq_true, decide_eq_true_eq] at h; omega
theorem rankV_le (id : Int) (rm : Bool) (ln : Int) (D : List Int) : -1 ≤ rankV id rm ln D ∧ rankV id rm ln D ≤ 4095 := by
  cases h : frOk id rm ln D with
  | false => rw [rankV_no h]; omega
  | true =>
    have := frOk_id h
    rw [rankV_yes h]
    cases rm <;> simp <;> omega
theorem rankV_neg {id : Int} {rm : Bool} {ln : Int} {D : List Int} : rankV id rm ln D < 0 ↔ frOk id rm ln D = false := by
  cases h : frOk id rm ln D with
  | false => rw [rankV_no h]; simp
  | true =>
    have := frOk_id h
    rw [rankV_yes h]
    cases rm <;> simp <;> omega

/-- impl.RankOf. -/
theorem implRankOf (id : Int) (rm : Bool) (ln : Int) (a : Option Addr) (D : List Int) (c : Nat) (w : World) (hd : Nums a D w) :
    Calls Try.prog 14 #[frV id rm ln a D.length c] w fun e w' => e = .returned (.int .i64 (rankV id rm ln D)) ∧ Below w.heap.size w w' := by
  have f0 := Four.made (.int .i64 id) (.bool rm) (.int .i64 ln) (.slice a D.length c) 26 (Below.refl w.heap.size w)
  go_enter Try.func14, Try.ntmps14
  go_wp2_with fail
  refine (implFrameOk _ _ _ _ _ _ _ (hd.alloc _)).mono ?_
  rintro e w1 ⟨rfl, b1⟩
  replace f0 := f0.below b1
  clear b1 hd
  obtain ⟨⟨c0, c1, c2, c3⟩, b1⟩ := f0
  cases hok : frOk id rm ln D with
  | false =>
    have HV := Lib.hid (rankV_no hok)
    clear hok
    go_wp2_with fail
    go_ret
    exact ⟨by rw [HV.out]; rfl, b1⟩
  | true =>
    have HV := Lib.hid (rankV_yes hok)
    have hid := frOk_id hok
    clear hok
    cases rm with
    | true =>
      go_wp2_with fail
      go_ret
      exact ⟨by rw [HV.out]; simp, b1⟩
    | false =>
      go_wp2_with fail
      go_ret
      exact ⟨by rw [HV.out]; simp, b1⟩
/-- spec.RankOf. -/
theorem specRankOf (id : Int) (rm : Bool) (ln : Int) (a : Option Addr) (D : List Int) (c : Nat) (w : World) (hd : Nums a D w) :
    Calls Try.prog 17 #[frV id rm ln a D.length c] w fun e w' => e = .returned (.int .i64 (rankV id rm ln D)) ∧ Below w.heap.size w w' := by
  have f0 := Four.made (.int .i64 id) (.bool rm) (.int .i64 ln) (.slice a D.length c) 26 (Below.refl w.heap.size w)
  go_enter Try.func17, Try.ntmps17
  go_wp2_with fail
  refine (specFrameOk _ _ _ _ _ _ _ (hd.alloc _)).mono ?_
  rintro e w1 ⟨rfl, b1⟩
  replace f0 := f0.below b1
  clear b1 hd
  obtain ⟨⟨c0, c1, c2, c3⟩, b1⟩ := f0
  cases hok : frOk id rm ln D with
  | false =>
    have HV := Lib.hid (rankV_no hok)
    clear hok
    go_wp2_with fail
    go_ret
    exact ⟨by rw [HV.out]; rfl, b1⟩
  | true =>
    have HV := Lib.hid (rankV_yes hok)
    have hid := frOk_id hok
    clear hok
    have e2 : 2 * id = id * 2 := by omega
    cases rm with
    | true =>
      go_wp2_with fail
      go_ret
      exact ⟨by rw [HV.out]; simp, b1⟩
    | false =>
      go_wp2_with fail
      go_ret
      exact ⟨by rw [HV.out]; simp, b1⟩
end Go.Proofs.Ytcciabalbdnakab
