/- What a frame says on the wire, as bits, plain: its length, and the most that it can be. -/
import Derived.Test.YtngcekegngmedaaGreatDoorM11
import Derived.Test.YtngcekegngmedaaGreatDoorM50
import Derived.Test.YtngcekegngmedaaGreatDoorM6
import Derived.Test.YtngcekegngmedaaGreatDoorM10
import Derived.Test.YtngcekegngmedaaGreatDoorM1
import Derived.Test.YtngcekegngmedaaGreatDoorM52
import Derived.Deep.CutRange

set_option maxRecDepth 20000
namespace Go.Proofs.YtngcekegngmedaaGreatDoor
open Go.RowKit

/-- Ten ones. -/
def ones : ByteArray := ⟨#[49, 49, 49, 49, 49, 49, 49, 49, 49, 49]⟩
def wireV (id : Int) (rm : Bool) (ln : Int) (D : List Int) : ByteArray := if frOk id rm ln D = true then stfV (fullV id rm ln D) ++ ones else ByteArray.empty
def lengthV (id : Int) (rm : Bool) (ln : Int) (D : List Int) : Int := if frOk id rm ln D = true then ((wireV id rm ln D).size : Int) else -1
def longV (n : Int) : Int := if n < 0 ∨ 8 < n then -1 else 34 + 8 * n + mostV (34 + 8 * n) + 10
theorem wireV_no {id : Int} {rm : Bool} {ln : Int} {D : List Int} (h : frOk id rm ln D = false) : wireV id rm ln D = ByteArray.empty := by simp [wireV, h]
theorem wireV_yes {id : Int} {rm : Bool} {ln : Int} {D : List Int} (h : frOk id rm ln D = true) : wireV id rm ln D = stfV (fullV id rm ln D) ++ ones := by simp [wireV, h]
theorem lengthV_no {id : Int} {rm : Bool} {ln : Int} {D : List Int} (h : frOk id rm ln D = false) : lengthV id rm ln D = -1 := by simp [lengthV, h]
theorem lengthV_yes {id : Int} {rm : Bool} {ln : Int} {D : List Int} (h : frOk id rm ln D = true) : lengthV id rm ln D = ((wireV id rm ln D).size : Int) := by simp [lengthV, h]
theorem longV_no {n : Int} (h : n < 0 ∨ 8 < n) : longV n = -1 := by simp [longV, h]
theorem longV_yes {n : Int} (h1 : 0 ≤ n) (h2 : n ≤ 8) : longV n = 34 + 8 * n + mostV (34 + 8 * n) + 10 := by
  have : ¬ (n < 0 ∨ 8 < n) := by omega
  simp [longV, this]

theorem stf_len {id : Int} {rm : Bool} {ln : Int} {D : List Int} (h : frOk id rm ln D = true) : stfOk (fullV id rm ln D) = true ∧ 34 + 8 * D.length ≤ (stfV (fullV id rm ln D)).size ∧
    (stfV (fullV id rm ln D)).size ≤ 34 + 8 * D.length + (33 + 8 * D.length) / 4 := by
  have hl := frOk_len h
  have hs := full_size h
  have e : (fullV id rm ln D).data.toList.length = 34 + 8 * D.length := hs
  have h1 := (stuff_len (fullV id rm ln D).data.toList).1
  have h2 := stuff_most (fullV id rm ln D).data.toList
  have hok : stfOk (fullV id rm ln D) = true := stfOk_yes (full_ok h) (by omega)
  rw [stfV_yes hok, arr_size]
  exact ⟨hok, by omega, by omega⟩
theorem wire_size {id : Int} {rm : Bool} {ln : Int} {D : List Int} (h : frOk id rm ln D = true) : (wireV id rm ln D).size = (stfV (fullV id rm ln D)).size + 10 := by
  rw [wireV_yes h, ByteArray.size_append]; rfl
/-- Promise 5: no frame is longer than the most. -/
theorem wire_most {id : Int} {rm : Bool} {ln : Int} {D : List Int} (h : frOk id rm ln D = true) : 44 + 8 * D.length ≤ (wireV id rm ln D).size ∧ ((wireV id rm ln D).size : Int) ≤ longV D.length := by
  have hl := frOk_len h
  obtain ⟨_, h1, h2⟩ := stf_len h
  have e1 : longV (D.length : Int) = 34 + 8 * (D.length : Int) + mostV (34 + 8 * (D.length : Int)) + 10 := longV_yes (by omega) (by omega)
  have e2 : mostV (34 + 8 * (D.length : Int)) = (34 + 8 * (D.length : Int) - 1) / 4 := mostV_yes (by omega) (by omega)
  rw [wire_size h, e1, e2]
  exact ⟨by omega, by omega⟩
theorem stfV_len (s : ByteArray) : (stfV s).size ≤ 400 := by
  cases h : stfOk s with
  | false => rw [stfV_no h]; decide
  | true =>
    have h2 := h
    simp only [stfOk, Bool.and_eq_true, decide_eq_true_eq] at h2
    rw [stfV_yes h, arr_size]; exact h2.2
theorem wire_len (id : Int) (rm : Bool) (ln : Int) (D : List Int) : (wireV id rm ln D).size ≤ 410 := by
  cases h : frOk id rm ln D with
  | false => rw [wireV_no h]; decide
  | true => rw [wire_size h]; have := stfV_len (fullV id rm ln D); omega
theorem lengthV_wf (id : Int) (rm : Bool) (ln : Int) (D : List Int) : -1 ≤ lengthV id rm ln D ∧ lengthV id rm ln D ≤ 410 := by
  have := wire_len id rm ln D
  unfold lengthV
  split <;> omega

end Go.Proofs.YtngcekegngmedaaGreatDoor

/- Contracts of WireOf and LengthOf, of the program (its pieces joined by strings.Join) and of the model. -/

set_option maxRecDepth 20000
namespace Go.Proofs.YtngcekegngmedaaGreatDoor
open Go.RowKit

/-- spec.WireOf. -/
theorem specWireOf (id : Int) (rm : Bool) (ln : Int) (a : Option Addr) (D : List Int) (c : Nat) (w : World) (hd : Nums a D w) :
    Calls Tryz.prog 33 #[frV id rm ln a D.length c] w fun e w' => e = .returned (.string (wireV id rm ln D)) ∧ Below w.heap.size w w' := by
  have f0 := Four.made (.int .i64 id) (.bool rm) (.int .i64 ln) (.slice a D.length c) 26 (Below.refl w.heap.size w)
  go_enter Tryz.func33, Tryz.ntmps33
  go_wp2_with fail
  refine (specFrameOk _ _ _ _ _ _ _ (hd.alloc _)).mono ?_
  rintro e w1 ⟨rfl, b1⟩
  replace f0 := f0.below b1
  clear b1
  cases hok : frOk id rm ln D with
  | false =>
    have HV := Lib.hid (wireV_no hok)
    clear hok
    go_wp2_with fail
    go_ret
    exact ⟨by rw [HV.out]; rfl, f0.2⟩
  | true =>
    have HV := Lib.hid (wireV_yes hok)
    have hfl := full_len id rm ln D
    clear hok
    have fk := f0
    obtain ⟨⟨c0, c1, c2, c3⟩, _⟩ := fk
    go_wp2_with fail
    refine (specFull _ _ _ _ _ _ _ (hd.below f0.2)).mono ?_
    rintro e w2 ⟨rfl, b2⟩
    replace f0 := f0.below b2
    clear b2 c0 c1 c2 c3
    generalize fullV id rm ln D = u at *
    go_wp2_with fail
    refine (specStuffed _ _ (by unfold maxLen; omega)).mono ?_
    rintro e w4 ⟨rfl, b2⟩
    replace f0 := f0.below b2
    clear b2
    have HO : Hid (ones = ⟨#[49, 49, 49, 49, 49, 49, 49, 49, 49, 49]⟩) := Lib.hid rfl
    have hsl := stfV_len u
    generalize stfV u = t at *
    generalize stfOk u = tk at *
    go_wp2_with fail
    go_ret
    exact ⟨by rw [HV.out, HO.out]; rfl, f0.2⟩

end Go.Proofs.YtngcekegngmedaaGreatDoor
