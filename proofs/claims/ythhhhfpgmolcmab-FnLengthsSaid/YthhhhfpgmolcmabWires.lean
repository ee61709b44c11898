/- What a frame says on the wire, as bits, plain: its length, and the most that it can be. -/
import Derived.Test.YthhhhfpgmolcmabFull
import Derived.Test.YthhhhfpgmolcmabStfd
import Derived.Test.YthhhhfpgmolcmabMost
namespace Go.Proofs.Ythhhhfpgmolcmab
open Go.RowKit

/-- Ten ones. -/
def ones : ByteArray := ⟨#[49, 49, 49, 49, 49, 49, 49, 49, 49, 49]⟩
def wireV (id : Int) (rm : Bool) (ln : Int) (D : List Int) : ByteArray := if frOk id rm ln D = true then stfV (fullV id rm ln D) ++ ones else ByteArray.empty
def lengthV (id : Int) (rm : Bool) (ln : Int) (D : List Int) : Int := if frOk id rm ln D = true then ((wireV id rm ln D).size : Int) else -1
def longV (n : Int) : Int := if n < 0 ∨ 8 < n then -1 else 34 + 8 * n + mostV (34 + 8 * n) + 10
theorem wireV_no {id : Int} {rm : Bool} {ln : Int} {D : List Int} (h : frOk id rm ln D = false) : wireV id rm ln D = ByteArray.empty := by simp [wireV, h]
theorem wireV_yes {id : Int} {rm : Bool} {ln : Int} {D : List Int} (h : frOk id rm ln D = true) : wireV id rm ln D = stfV (fullV id rm ln D) ++ ones := by simp [wireV, h]
theorem lengthV_no {id : Int} {rm : Bool} {ln : Int} {D : List Int} (h : frOk id rm ln D = false) : lengthV id rm ln D = -1 := by simp [lengthV, h]
theorem lengthV_yes {id : Int} {rm : Bool} {ln : Int} {D : List Int} (h : frOk id rm ln D = true) : lengthV id rm ln D = ((wireV id rm ln D).size : Int) := by simp [lengthV, h]
theorem longV_no {n : Int} (h : n < 0 ∨ 8 < n) : longV n = -1 := by simp [longV, h]
theorem longV_yes {n : Int} (h1 : 0 ≤ n) (h2 : n ≤ 8) : longV n = 34 + 8 * n + mostV (34 + 8 * n) + 10 := by
  have : ¬ (n < 0 ∨ 8 < n) := by omega
  simp [longV, this]

theorem stf_len {id : Int} {rm : Bool} {ln : Int} {D : List Int} (h : frOk id rm ln D = true) : stfOk (fullV id rm ln D) = true ∧ 34 + 8 * D.length ≤ (stfV (fullV id rm ln D)).size ∧
    (stfV (fullV id rm ln D)).size ≤ 34 + 8 * D.length + (33 + 8 * D.length) / 4 := by
  have hl := frOk_len h
  have hs := full_size h
  have e : (fullV id rm ln D).data.toList.length = 34 + 8 * D.length := hs
  have h1 := (stuff_len (fullV id rm ln D).data.toList).1
  have h2 := stuff_most (fullV id rm ln D).data.toList
  have hok : stfOk (fullV id rm ln D) = true := stfOk_yes (full_ok h) (by omega)
  rw [stfV_yes hok, arr_size]
  exact ⟨hok, by omega, by omega⟩
theorem wire_size {id : Int} {rm : Bool} {ln : Int} {D : List Int} (h : frOk id rm ln D = true) : (wireV id rm ln D).size = (stfV (fullV id rm ln D)).size + 10 := by
  rw [wireV_yes h, ByteArray.size_append]; rfl
/-- Promise 5: no frame is longer than the most. -/
theorem wire_most {id : Int} {rm : Bool} {ln : Int} {D : List Int} (h : frOk id rm ln D = true) : 44 + 8 * D.length ≤ (wireV id rm ln D).size ∧ ((wireV id rm ln D).size : Int) ≤ longV D.length := by
  have hl := frOk_len h
  obtain ⟨_, h1, h2⟩ := stf_len h
  have e1 : longV (D.length : Int) = 34 + 8 * (D.length : Int) + mostV (34 + 8 * (D.length : Int)) + 10 := longV_yes (by omega) (by omega)
  have e2 : mostV (34 + 8 * (D.length : Int)) = (34 + 8 * (D.length : Int) - 1) / 4 := mostV_yes (by omega) (by omega)
  rw [wire_size h, e1, e2]
  exact ⟨by omega, by omega⟩
theorem stfV_len (s : ByteArray) : (stfV s).size ≤ 400 := by
  cases h : stfOk s with
  | false => rw [stfV_no h]; decide
  | true =>
    have h2 := h
    simp only [stfOk, Bool.and_eq_true, decide_eq_true_eq] at h2
    rw [stfV_yes h, arr_size]; exact h2.2
theorem wire_len (id : Int) (rm : Bool) (ln : Int) (D : List Int) : (wireV id rm ln D).size ≤ 410 := by
  cases h : frOk id rm ln D with
  | false => rw [wireV_no h]; decide
  | true => rw [wire_size h]; have := stfV_len (fullV id rm ln D); omega
theorem lengthV_wf (id : Int) (rm : Bool) (ln : Int) (D : List Int) : -1 ≤ lengthV id rm ln D ∧ lengthV id rm ln D ≤ 410 := by
  have := wire_len id rm ln D
  unfold lengthV
  split <;> omega

end Go.Proofs.Ythhhhfpgmolcmab
