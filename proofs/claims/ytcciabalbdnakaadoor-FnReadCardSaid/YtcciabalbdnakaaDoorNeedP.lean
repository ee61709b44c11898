/- How many bits a frame has that begins so, plain. -/
import Derived.Test.YtcciabalbdnakaaDoorBits
set_option linter.unusedVariables false
set_option linter.unusedSimpArgs false
set_option maxRecDepth 20000
namespace Go.Proofs.YtcciabalbdnakaaDoor
open Go.RowKit

def byteAt (s : ByteArray) (k : Nat) : UInt8 := s.data.toList.getD k 0
theorem byteAt_eq {s : ByteArray} {k : Nat} (h : k < s.size) : s[k]'h = byteAt s k := by
  have h2 : k < s.data.toList.length := h
  rw [byteAt, List.getD_eq_getElem?_getD, List.getElem?_eq_getElem h2]
  rfl
theorem ext_list (s : ByteArray) (i j : Nat) : (s.extract i j).data.toList = (s.data.toList.drop i).take (j - i) := by
  simp [ByteArray.data_extract, Array.toList_extract]
def idS (s : ByteArray) : ByteArray := s.extract 1 12
def lenS (s : ByteArray) : ByteArray := s.extract 15 19
def byS (s : ByteArray) (i : Nat) : ByteArray := s.extract (19 + 8 * i) (27 + 8 * i)
/-- How many bits a frame has that begins so. -/
def needV (s : ByteArray) : Int := if okB s = true ∧ 19 ≤ s.size then (if byteAt s 12 = 49 then 34 else 34 + 8 * (if numV (lenS s) < 8 then numV (lenS s) else 8)) else -1
theorem needV_no {s : ByteArray} (h : okB s = false) : needV s = -1 := by simp [needV, h]
theorem needV_short {s : ByteArray} (h : s.size < 19) : needV s = -1 := by
  have : ¬ (okB s = true ∧ 19 ≤ s.size) := fun e => by omega
  simp only [needV, if_neg this]
theorem needV_rm {s : ByteArray} (h : okB s = true) (h2 : 19 ≤ s.size) (h3 : byteAt s 12 = 49) : needV s = 34 := by simp [needV, h, h2, h3]
theorem needV_len {s : ByteArray} (h : okB s = true) (h2 : 19 ≤ s.size) (h3 : byteAt s 12 ≠ 49) : needV s = 34 + 8 * (if numV (lenS s) < 8 then numV (lenS s) else 8) := by simp [needV, h, h2, h3]
theorem needV_eq {s : ByteArray} (h : okB s = true) (h2 : 19 ≤ s.size) : needV s = 34 + 8 * (if (if (byteAt s 12 == 49) = true then 0 else numV (lenS s)) < 8 then (if (byteAt s 12 == 49) = true then 0 else numV (lenS s)) else 8) := by
  by_cases h3 : byteAt s 12 = 49
  · have e : (byteAt s 12 == 49) = true := by rw [h3]; rfl
    rw [needV_rm h h2 h3, e]; rfl
  · have e : (byteAt s 12 == 49) = false := beq_eq_false_iff_ne.2 h3
    rw [needV_len h h2 h3, e]; rfl
theorem numV_bd (s : ByteArray) : 0 ≤ numV s ∧ numV s ≤ 4294967295 := by
  cases h : numOk s with
  | false => simp [numV, h]
  | true =>
    have h2 := h
    simp only [numOk, Bool.and_eq_true, decide_eq_true_eq] at h2
    have h3 := num_take_bd h2.1 h2.2 s.size
    rw [List.take_of_length_le (show s.data.toList.length ≤ s.size from Nat.le_refl _)] at h3
    simpa [numV, h] using h3
theorem needV_bd (s : ByteArray) : -1 ≤ needV s ∧ needV s ≤ 98 := by
  have := numV_bd (lenS s)
  unfold needV
  split
  · split
    · omega
    · split <;> omega
  · omega
theorem size_ext {s : ByteArray} {i j : Nat} (h : j ≤ s.size) : (s.extract i j).size = j - i := by rw [ByteArray.size_extract]; omega

end Go.Proofs.YtcciabalbdnakaaDoor
