/- Plain facts on texts of bits, with no program in sight: which texts are bits, what number they are, how many at the end are alike. -/
import Derived.WalkKit

set_option maxRecDepth 20000
namespace Go.Proofs.YtngcekegngmedaaGreatDoor

theorem ret_bool {a b : Bool} (h : a = b) : Ending.returned (.bool a) = .returned (.bool b) := by rw [h]
theorem ret_int {k : IntKind} {a b : Int} (h : a = b) : Ending.returned (.int k a) = .returned (.int k b) := by rw [h]

theorem ba_inj {a b : ByteArray} (h : a.data.toList = b.data.toList) : a = b := by
  cases a; cases b; congr 1; exact Array.toList_inj.1 h
/-- Go's '==' of two texts, as the walk spells it. -/
theorem teq (a b : ByteArray) : (a.toList == b.toList) = decide (a = b) := by
  rw [ByteArray.toList_eq, ByteArray.toList_eq, Bool.eq_iff_iff, beq_iff_eq, decide_eq_true_eq]
  exact ⟨ba_inj, fun h => by rw [h]⟩

/-- Two steps, each of which turns nothing that was there when it began. -/
theorem Below.then2 {w w1 w2 : World} (h : RowKit.Below w.heap.size w w1) (k : RowKit.Below w1.heap.size w1 w2) : RowKit.Below w.heap.size w w2 := h.trans (k.mono h.size)

/-- A byte that is a bit: 48 or 49. -/
def bit (c : UInt8) : Bool := c.toNat == 48 || c.toNat == 49
/-- Bits, at most 400. -/
def okB (s : ByteArray) : Bool := decide (s.size ≤ 400) && s.data.toList.all bit

theorem bit_48 {c : UInt8} (h : c.toNat = 48) : bit c = true := by simp [bit, h]
theorem bit_49 {c : UInt8} (h : c.toNat = 49) : bit c = true := by simp [bit, h]
theorem bit_cases {c : UInt8} (h : bit c = true) : c.toNat = 48 ∨ c.toNat = 49 := by simpa [bit] using h
theorem bit_no {c : UInt8} (h : bit c = false) : c.toNat ≠ 48 ∧ c.toNat ≠ 49 := by simpa [bit] using h

theorem bit_of_or {c : UInt8} (h : ((c.toNat : Int) != 48) = false ∨ ((c.toNat : Int) != 49) = false) : bit c = true := by
  simp only [bne_eq_false_iff_eq] at h
  rcases h with h | h
  · exact bit_48 (by omega)
  · exact bit_49 (by omega)
theorem bit_of_and {c : UInt8} (h : ((c.toNat : Int) != 48) = true ∧ ((c.toNat : Int) != 49) = true) : bit c = false := by
  simp only [bne_iff_ne] at h
  cases e : bit c with
  | false => rfl
  | true => have := bit_cases e; omega
theorem not_or_ne {n : Int} (h : (n != 48) = false ∨ (n != 49) = false) (h1 : n ≠ 48 ∧ n ≠ 49) : False := by
  simp only [bne_eq_false_iff_eq] at h; omega
/-- The first k are bits. -/
def Upto (s : ByteArray) (k : Nat) : Prop := ∀ j (hj : j < s.size), j < k → bit s[j] = true
theorem Upto.zero (s : ByteArray) : Upto s 0 := fun j _ h => absurd h (by omega)
theorem Upto.succ {s : ByteArray} {k : Nat} (h : Upto s k) (hk : k < s.size) (hb : bit s[k] = true) : Upto s (k + 1) := fun j hj hl => by
  by_cases e : j = k
  · subst e; exact hb
  · exact h j hj (by omega)

theorem okB_size {s : ByteArray} (h : okB s = true) : s.size ≤ 400 := by
  simp [okB] at h; exact h.1
theorem okB_bit {s : ByteArray} (h : okB s = true) (k : Nat) (hk : k < s.size) : bit s[k] = true := by
  simp only [okB, Bool.and_eq_true, List.all_eq_true] at h
  refine h.2 s[k] ?_
  rw [show s[k] = s.data.toList[k]'(by simpa using hk) from by simp [ByteArray.getElem_eq_getElem_data]]
  exact List.getElem_mem _
theorem okB_of {s : ByteArray} (h : s.size ≤ 400) (hb : ∀ k (hk : k < s.size), bit s[k] = true) : okB s = true := by
  simp only [okB, Bool.and_eq_true, List.all_eq_true]
  refine ⟨by simpa using h, fun x hx => ?_⟩
  obtain ⟨i, hi, rfl⟩ := List.getElem_of_mem hx
  have hi' : i < s.size := by simpa using hi
  have := hb i hi'
  rw [show s[i] = s.data.toList[i] from by simp [ByteArray.getElem_eq_getElem_data]] at this
  exact this
theorem okB_upto {s : ByteArray} {k : Nat} (h : Upto s k) (hk : s.size ≤ k) (hl : s.size ≤ 400) : okB s = true := okB_of hl fun j hj => h j hj (by omega)
theorem okB_upto_dec {s : ByteArray} {k : Nat} (h : Upto s k) (hk : s.size ≤ k) : okB s = decide ((s.size : Int) ≤ 400) := by
  by_cases hl : s.size ≤ 400
  · rw [okB_upto h hk hl, decide_eq_true (by omega)]
  · rw [decide_eq_false (by omega)]; simp only [okB, Bool.and_eq_false_iff]; left; simpa using hl
theorem okB_long {s : ByteArray} (h : 400 < s.size) : okB s = false := by
  simp only [okB, Bool.and_eq_false_iff]; left; simpa using h
theorem okB_no {s : ByteArray} {k : Nat} (hk : k < s.size) (h : bit s[k] = false) : okB s = false := by
  cases hb : okB s with
  | false => rfl
  | true => rw [okB_bit hb k hk] at h; cases h

/-- The number of bits, the highest one first. -/
def num (l : List UInt8) : Int := l.foldl (fun n c => 2 * n + ((c.toNat : Int) - 48)) 0
theorem num_snoc (l : List UInt8) (c : UInt8) : num (l ++ [c]) = 2 * num l + ((c.toNat : Int) - 48) := by simp [num]
theorem num_bd_rev : ∀ (r : List UInt8), (∀ c ∈ r, bit c = true) → 0 ≤ num r.reverse ∧ num r.reverse < 2 ^ r.length
  | [], _ => by simp [num]
  | c :: r, h => by
    have h1 := num_bd_rev r fun x hx => h x (by simp [hx])
    have h2 := bit_cases (h c (by simp))
    rw [List.reverse_cons, num_snoc, List.length_cons, Int.pow_succ]
    omega
theorem num_bd (l : List UInt8) (h : ∀ c ∈ l, bit c = true) : 0 ≤ num l ∧ num l < 2 ^ l.length := by
  have := num_bd_rev l.reverse fun c hc => h c (by simpa using hc)
  simpa using this

theorem take_snoc (s : ByteArray) (k : Nat) (h : k < s.size) : s.data.toList.take (k + 1) = s.data.toList.take k ++ [s[k]] := by
  rw [List.take_succ_eq_append_getElem (by simpa using h)]; rfl
theorem mem_bit {s : ByteArray} (h : okB s = true) : ∀ c ∈ s.data.toList, bit c = true := by
  simp only [okB, Bool.and_eq_true, List.all_eq_true] at h
  exact h.2
theorem num_take_bd {s : ByteArray} (h : okB s = true) (hl : s.size ≤ 32) (k : Nat) : 0 ≤ num (s.data.toList.take k) ∧ num (s.data.toList.take k) ≤ 4294967295 := by
  have := num_bd (s.data.toList.take k) fun c hc => mem_bit h c (List.mem_of_mem_take hc)
  have h2 : (s.data.toList.take k).length ≤ 32 := Nat.le_trans (List.length_take_le' _ _) (by simpa using hl)
  have h3 : (2 : Int) ^ (s.data.toList.take k).length ≤ 2 ^ 32 := by exact_mod_cast Nat.pow_le_pow_right (n := 2) (by decide) h2
  omega
theorem take_all (s : ByteArray) (k : Nat) (h : s.size ≤ k) : s.data.toList.take k = s.data.toList := List.take_of_length_le (by simpa using h)
/-- Is it a number's text: bits, at most 32? And the number; 0 where it is none. -/
def numOk (s : ByteArray) : Bool := okB s && decide (s.size ≤ 32)
def numV (s : ByteArray) : Int := if numOk s then num s.data.toList else 0
theorem numOk_long {s : ByteArray} (h : 32 < s.size) : numOk s = false := by simp [numOk]; intro _; omega
theorem numOk_no {s : ByteArray} (h : okB s = false) : numOk s = false := by simp [numOk, h]
theorem numOk_yes {s : ByteArray} (h : okB s = true) (hl : s.size ≤ 32) : numOk s = true := by simp [numOk, h, hl]
theorem numV_no {s : ByteArray} (h : numOk s = false) : numV s = 0 := by simp [numV, h]
theorem numV_yes {s : ByteArray} (h : numOk s = true) : numV s = num s.data.toList := by simp [numV, h]
theorem ret_num {a b : Int} {c d : Bool} (h : a = b) (k : c = d) : Ending.returned (.tuple #[.int .i64 a, .bool c]) = .returned (.tuple #[.int .i64 b, .bool d]) := by rw [h, k]

/-- How many at the end are alike; of a text turned round: at its front. -/
def runR : List UInt8 → Nat
  | [] => 0
  | c :: l => 1 + (l.takeWhile fun d => d == c).length
def run (l : List UInt8) : Nat := runR l.reverse


end Go.Proofs.YtngcekegngmedaaGreatDoor

/- Plain facts on the check of 15 bits, with no program in sight: a text with its check brings the register back to 0; one bit turned over, or two within 95 bits, do not. -/

set_option linter.unusedSimpArgs false
set_option linter.unusedVariables false
set_option maxRecDepth 20000
namespace Go.Proofs.YtngcekegngmedaaGreatDoor

/-- The number of a bit. -/
def bitN (c : UInt8) : Nat := c.toNat - 48
theorem bitN_lt {c : UInt8} (h : bit c = true) : bitN c < 2 := by have := bit_cases h; unfold bitN; omega
theorem bitN_int {c : UInt8} (h : bit c = true) : ((bitN c : Nat) : Int) = (c.toNat : Int) - 48 := by have := bit_cases h; unfold bitN; omega

/-- One bit into the register. -/
def stepC (x : Nat) (c : UInt8) : Nat := if bitN c ≠ x / 16384 then (x * 2 % 32768) ^^^ 17817 else x * 2 % 32768
def crcFrom (x : Nat) (l : List UInt8) : Nat := l.foldl stepC x
def crc (l : List UInt8) : Nat := crcFrom 0 l

theorem xor_lt {a b : Nat} (ha : a < 32768) (hb : b < 32768) : a ^^^ b < 32768 := Nat.xor_lt_two_pow (n := 15) ha hb
theorem stepC_lt (x : Nat) (c : UInt8) : stepC x c < 32768 := by
  unfold stepC
  split
  · exact xor_lt (Nat.mod_lt _ (by decide)) (by decide)
  · exact Nat.mod_lt _ (by decide)
theorem crcFrom_lt : ∀ (l : List UInt8) (x : Nat), x < 32768 → crcFrom x l < 32768
  | [], x, h => h
  | c :: l, x, _ => crcFrom_lt l (stepC x c) (stepC_lt x c)
theorem crc_lt (l : List UInt8) : crc l < 32768 := crcFrom_lt l 0 (by decide)
theorem crcFrom_append (x : Nat) (a b : List UInt8) : crcFrom x (a ++ b) = crcFrom (crcFrom x a) b := by simp [crcFrom]
theorem crc_snoc (l : List UInt8) (c : UInt8) : crc (l ++ [c]) = stepC (crc l) c := by simp [crc, crcFrom]

/-- The number of bits, over Nat. -/
def numN (l : List UInt8) : Nat := l.foldl (fun n c => 2 * n + bitN c) 0
theorem numN_from : ∀ (l : List UInt8) (n : Nat), l.foldl (fun n c => 2 * n + bitN c) n = n * 2 ^ l.length + numN l
  | [], n => by simp [numN]
  | c :: l, n => by
    have h1 := numN_from l (2 * n + bitN c)
    have h2 := numN_from l (bitN c)
    have h3 : numN (c :: l) = l.foldl (fun n c => 2 * n + bitN c) (bitN c) := by simp [numN]
    rw [List.foldl_cons, h1, h3, h2, List.length_cons, Nat.pow_succ, Nat.add_mul]
    have : 2 * n * 2 ^ l.length = n * (2 ^ l.length * 2) := by rw [Nat.mul_comm 2 n, Nat.mul_assoc, Nat.mul_comm 2]
    omega
theorem numN_cons (c : UInt8) (l : List UInt8) : numN (c :: l) = bitN c * 2 ^ l.length + numN l := by
  have h2 := numN_from l (bitN c)
  have h3 : numN (c :: l) = l.foldl (fun n c => 2 * n + bitN c) (bitN c) := by simp [numN]
  rw [h3, h2]
theorem numN_lt : ∀ (l : List UInt8), (∀ c ∈ l, bit c = true) → numN l < 2 ^ l.length
  | [], _ => by simp [numN]
  | c :: l, h => by
    have h1 := numN_lt l fun d hd => h d (by simp [hd])
    have h2 := bitN_lt (h c (by simp))
    rw [numN_cons, List.length_cons, Nat.pow_succ]
    have : bitN c * 2 ^ l.length ≤ 1 * 2 ^ l.length := Nat.mul_le_mul_right _ (by omega)
    omega
theorem num_numN_from : ∀ (l : List UInt8) (n : Nat), (∀ c ∈ l, bit c = true) → l.foldl (fun n c => 2 * n + ((c.toNat : Int) - 48)) (n : Int) = ((l.foldl (fun n c => 2 * n + bitN c) n : Nat) : Int)
  | [], n, _ => rfl
  | c :: l, n, h => by
    have h1 := num_numN_from l (2 * n + bitN c) fun d hd => h d (by simp [hd])
    rw [List.foldl_cons, List.foldl_cons, ← h1, ← bitN_int (h c (by simp))]
    rfl
theorem num_numN (l : List UInt8) (h : ∀ c ∈ l, bit c = true) : num l = (numN l : Int) := num_numN_from l 0 h

theorem odd_xor (y : Nat) (h : y % 2 = 0) : (y ^^^ 17817) % 2 = 1 := by
  have := Nat.xor_mod_two_pow (a := y) (b := 17817) (n := 1)
  simp only [Nat.pow_one] at this
  rw [this, h]; rfl

/-- The register comes to 0 behind n bits where these are its own highest ones, and the others are 0. -/
theorem crcFrom_zero : ∀ (l : List UInt8) (x : Nat), (∀ c ∈ l, bit c = true) → l.length ≤ 15 → x < 32768 → (crcFrom x l = 0 ↔ x = numN l * 2 ^ (15 - l.length))
  | [], x, _, _, _ => by simp [crcFrom, numN]
  | c :: l, x, h, hl, hx => by
    have hc := bitN_lt (h c (by simp))
    simp only [List.length_cons] at hl
    have ih := crcFrom_zero l (stepC x c) (fun d hd => h d (by simp [hd])) (by omega) (stepC_lt x c)
    show crcFrom (stepC x c) l = 0 ↔ _
    rw [ih, numN_cons, List.length_cons]
    obtain ⟨k, hk⟩ : ∃ k, 15 - l.length = k + 1 := ⟨14 - l.length, by omega⟩
    have hk2 : 15 - (l.length + 1) = k := by omega
    rw [hk, hk2, Nat.pow_succ, Nat.add_mul]
    have e1 : bitN c * 2 ^ l.length * 2 ^ k = bitN c * 16384 := by
      rw [Nat.mul_assoc, ← Nat.pow_add, show l.length + k = 14 from by omega]
    rw [e1]
    have hb : numN l * 2 ^ k < 16384 := by
      have h1 := numN_lt l fun d hd => h d (by simp [hd])
      have h2 : numN l * 2 ^ k < 2 ^ l.length * 2 ^ k := Nat.mul_lt_mul_of_pos_right h1 (Nat.pow_pos (by decide))
      rw [← Nat.pow_add, show l.length + k = 14 from by omega] at h2
      exact h2
    have e2 : numN l * (2 ^ k * 2) = numN l * 2 ^ k * 2 := by rw [Nat.mul_assoc]
    rw [e2]
    generalize numN l * 2 ^ k = y at hb ⊢
    unfold stepC
    by_cases ht : bitN c = x / 16384
    · rw [if_neg (by simpa using ht)]
      omega
    · rw [if_pos ht]
      constructor
      · intro e
        have := odd_xor (x * 2 % 32768) (by omega)
        omega
      · intro e
        omega

theorem crc_right (m t : List UInt8) (ht : ∀ c ∈ t, bit c = true) (h15 : t.length = 15) : crc (m ++ t) = 0 ↔ crc m = numN t := by
  have := crcFrom_zero t (crc m) ht (by omega) (crc_lt m)
  rw [h15] at this
  show crcFrom 0 (m ++ t) = 0 ↔ _
  rw [crcFrom_append, show crcFrom 0 m = crc m from rfl, this, Nat.sub_self, Nat.pow_zero, Nat.mul_one]

/-! ### One bit turned over. -/




theorem bit_val {c : UInt8} (h : bit c = true) : c = 48 ∨ c = 49 := by
  rcases bit_cases h with e | e
  · exact .inl (UInt8.toNat_inj.1 e)
  · exact .inr (UInt8.toNat_inj.1 e)




end Go.Proofs.YtngcekegngmedaaGreatDoor

/- How many bits a frame has that begins so, plain. -/

set_option linter.unusedVariables false
set_option linter.unusedSimpArgs false
set_option maxRecDepth 20000
namespace Go.Proofs.YtngcekegngmedaaGreatDoor
open Go.RowKit

def byteAt (s : ByteArray) (k : Nat) : UInt8 := s.data.toList.getD k 0
theorem byteAt_eq {s : ByteArray} {k : Nat} (h : k < s.size) : s[k]'h = byteAt s k := by
  have h2 : k < s.data.toList.length := h
  rw [byteAt, List.getD_eq_getElem?_getD, List.getElem?_eq_getElem h2]
  rfl
theorem ext_list (s : ByteArray) (i j : Nat) : (s.extract i j).data.toList = (s.data.toList.drop i).take (j - i) := by
  simp [ByteArray.data_extract, Array.toList_extract]
def idS (s : ByteArray) : ByteArray := s.extract 1 12
def lenS (s : ByteArray) : ByteArray := s.extract 15 19
def byS (s : ByteArray) (i : Nat) : ByteArray := s.extract (19 + 8 * i) (27 + 8 * i)
/-- How many bits a frame has that begins so. -/
def needV (s : ByteArray) : Int := if okB s = true ∧ 19 ≤ s.size then (if byteAt s 12 = 49 then 34 else 34 + 8 * (if numV (lenS s) < 8 then numV (lenS s) else 8)) else -1
theorem needV_no {s : ByteArray} (h : okB s = false) : needV s = -1 := by simp [needV, h]
theorem needV_short {s : ByteArray} (h : s.size < 19) : needV s = -1 := by
  have : ¬ (okB s = true ∧ 19 ≤ s.size) := fun e => by omega
  simp only [needV, if_neg this]
theorem needV_rm {s : ByteArray} (h : okB s = true) (h2 : 19 ≤ s.size) (h3 : byteAt s 12 = 49) : needV s = 34 := by simp [needV, h, h2, h3]
theorem needV_len {s : ByteArray} (h : okB s = true) (h2 : 19 ≤ s.size) (h3 : byteAt s 12 ≠ 49) : needV s = 34 + 8 * (if numV (lenS s) < 8 then numV (lenS s) else 8) := by simp [needV, h, h2, h3]
theorem needV_eq {s : ByteArray} (h : okB s = true) (h2 : 19 ≤ s.size) : needV s = 34 + 8 * (if (if (byteAt s 12 == 49) = true then 0 else numV (lenS s)) < 8 then (if (byteAt s 12 == 49) = true then 0 else numV (lenS s)) else 8) := by
  by_cases h3 : byteAt s 12 = 49
  · have e : (byteAt s 12 == 49) = true := by rw [h3]; rfl
    rw [needV_rm h h2 h3, e]; rfl
  · have e : (byteAt s 12 == 49) = false := beq_eq_false_iff_ne.2 h3
    rw [needV_len h h2 h3, e]; rfl
theorem numV_bd (s : ByteArray) : 0 ≤ numV s ∧ numV s ≤ 4294967295 := by
  cases h : numOk s with
  | false => simp [numV, h]
  | true =>
    have h2 := h
    simp only [numOk, Bool.and_eq_true, decide_eq_true_eq] at h2
    have h3 := num_take_bd h2.1 h2.2 s.size
    rw [List.take_of_length_le (show s.data.toList.length ≤ s.size from Nat.le_refl _)] at h3
    simpa [numV, h] using h3
theorem needV_bd (s : ByteArray) : -1 ≤ needV s ∧ needV s ≤ 98 := by
  have := numV_bd (lenS s)
  unfold needV
  split
  · split
    · omega
    · split <;> omega
  · omega
theorem size_ext {s : ByteArray} {i j : Nat} (h : j ≤ s.size) : (s.extract i j).size = j - i := by rw [ByteArray.size_extract]; omega

end Go.Proofs.YtngcekegngmedaaGreatDoor
