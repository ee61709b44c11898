/- Plain facts on the check of 15 bits, with no program in sight: a text with its check brings the register back to 0; one bit turned over, or two within 95 bits, do not. -/
import Derived.Test.YtnabcnmgfchceaaBits
set_option linter.unusedSimpArgs false
set_option linter.unusedVariables false
namespace Go.Proofs.Ytnabcnmgfchceaa

/-- The number of a bit. -/
def bitN (c : UInt8) : Nat := c.toNat - 48
theorem bitN_lt {c : UInt8} (h : bit c = true) : bitN c < 2 := by have := bit_cases h; unfold bitN; omega
theorem bitN_int {c : UInt8} (h : bit c = true) : ((bitN c : Nat) : Int) = (c.toNat : Int) - 48 := by have := bit_cases h; unfold bitN; omega

/-- One bit into the register. -/
def stepC (x : Nat) (c : UInt8) : Nat := if bitN c ≠ x / 16384 then (x * 2 % 32768) ^^^ 17817 else x * 2 % 32768
def crcFrom (x : Nat) (l : List UInt8) : Nat := l.foldl stepC x
def crc (l : List UInt8) : Nat := crcFrom 0 l

theorem xor_lt {a b : Nat} (ha : a < 32768) (hb : b < 32768) : a ^^^ b < 32768 := Nat.xor_lt_two_pow (n := 15) ha hb
theorem stepC_lt (x : Nat) (c : UInt8) : stepC x c < 32768 := by
  unfold stepC
  split
  · exact xor_lt (Nat.mod_lt _ (by decide)) (by decide)
  · exact Nat.mod_lt _ (by decide)
theorem crcFrom_lt : ∀ (l : List UInt8) (x : Nat), x < 32768 → crcFrom x l < 32768
  | [], x, h => h
  | c :: l, x, _ => crcFrom_lt l (stepC x c) (stepC_lt x c)
theorem crc_lt (l : List UInt8) : crc l < 32768 := crcFrom_lt l 0 (by decide)
theorem crcFrom_append (x : Nat) (a b : List UInt8) : crcFrom x (a ++ b) = crcFrom (crcFrom x a) b := by simp [crcFrom]
theorem crc_snoc (l : List UInt8) (c : UInt8) : crc (l ++ [c]) = stepC (crc l) c := by simp [crc, crcFrom]

/-- The number of bits, over Nat. -/
def numN (l : List UInt8) : Nat := l.foldl (fun n c => 2 * n + bitN c) 0
theorem numN_from : ∀ (l : List UInt8) (n : Nat), l.foldl (fun n c => 2 * n + bitN c) n = n * 2 ^ l.length + numN l
  | [], n => by simp [numN]
  | c :: l, n => by
    have h1 := numN_from l (2 * n + bitN c)
    have h2 := numN_from l (bitN c)
    have h3 : numN (c :: l) = l.foldl (fun n c => 2 * n + bitN c) (bitN c) := by simp [numN]
    rw [List.foldl_cons, h1, h3, h2, List.length_cons, Nat.pow_succ, Nat.add_mul]
    have : 2 * n * 2 ^ l.length = n * (2 ^ l.length * 2) := by rw [Nat.mul_comm 2 n, Nat.mul_assoc, Nat.mul_comm 2]
    omega
theorem numN_cons (c : UInt8) (l : List UInt8) : numN (c :: l) = bitN c * 2 ^ l.length + numN l := by
  have h2 := numN_from l (bitN c)
  have h3 : numN (c :: l) = l.foldl (fun n c => 2 * n + bitN c) (bitN c) := by simp [numN]
  rw [h3, h2]
theorem numN_lt : ∀ (l : List UInt8), (∀ c ∈ l, bit c = true) → numN l < 2 ^ l.length
  | [], _ => by simp [numN]
  | c :: l, h => by
    have h1 := numN_lt l fun d hd => h d (by simp [hd])
    have h2 := bitN_lt (h c (by simp))
    rw [numN_cons, List.length_cons, Nat.pow_succ]
    have : bitN c * 2 ^ l.length ≤ 1 * 2 ^ l.length := Nat.mul_le_mul_right _ (by omega)
    omega
theorem num_numN_from : ∀ (l : List UInt8) (n : Nat), (∀ c ∈ l, bit c = true) → l.foldl (fun n c => 2 * n + ((c.toNat : Int) - 48)) (n : Int) = ((l.foldl (fun n c => 2 * n + bitN c) n : Nat) : Int)
  | [], n, _ => rfl
  | c :: l, n, h => by
    have h1 := num_numN_from l (2 * n + bitN c) fun d hd => h d (by simp [hd])
    rw [List.foldl_cons, List.foldl_cons, ← h1, ← bitN_int (h c (by simp))]
    rfl
theorem num_numN (l : List UInt8) (h : ∀ c ∈ l, bit c = true) : num l = (numN l : Int) := num_numN_from l 0 h

theorem odd_xor (y : Nat) (h : y % 2 = 0) : (y ^^^ 17817) % 2 = 1 := by
  have := Nat.xor_mod_two_pow (a := y) (b := 17817) (n := 1)
  simp only [Nat.pow_one] at this
  rw [this, h]; rfl

/-- The register comes to 0 behind n bits where these are its own highest ones, and the others are 0. -/
theorem crcFrom_zero : ∀ (l : List UInt8) (x : Nat), (∀ c ∈ l, bit c = true) → l.length ≤ 15 → x < 32768 → (crcFrom x l = 0 ↔ x = numN l * 2 ^ (15 - l.length))
  | [], x, _, _, _ => by simp [crcFrom, numN]
  | c :: l, x, h, hl, hx => by
    have hc := bitN_lt (h c (by simp))
    simp only [List.length_cons] at hl
    have ih := crcFrom_zero l (stepC x c) (fun d hd => h d (by simp [hd])) (by omega) (stepC_lt x c)
    show crcFrom (stepC x c) l = 0 ↔ _
    rw [ih, numN_cons, List.length_cons]
    obtain ⟨k, hk⟩ : ∃ k, 15 - l.length = k + 1 := ⟨14 - l.length, by omega⟩
    have hk2 : 15 - (l.length + 1) = k := by omega
    rw [hk, hk2, Nat.pow_succ, Nat.add_mul]
    have e1 : bitN c * 2 ^ l.length * 2 ^ k = bitN c * 16384 := by
      rw [Nat.mul_assoc, ← Nat.pow_add, show l.length + k = 14 from by omega]
    rw [e1]
    have hb : numN l * 2 ^ k < 16384 := by
      have h1 := numN_lt l fun d hd => h d (by simp [hd])
      have h2 : numN l * 2 ^ k < 2 ^ l.length * 2 ^ k := Nat.mul_lt_mul_of_pos_right h1 (Nat.pow_pos (by decide))
      rw [← Nat.pow_add, show l.length + k = 14 from by omega] at h2
      exact h2
    have e2 : numN l * (2 ^ k * 2) = numN l * 2 ^ k * 2 := by rw [Nat.mul_assoc]
    rw [e2]
    generalize numN l * 2 ^ k = y at hb ⊢
    unfold stepC
    by_cases ht : bitN c = x / 16384
    · rw [if_neg (by simpa using ht)]
      omega
    · rw [if_pos ht]
      constructor
      · intro e
        have := odd_xor (x * 2 % 32768) (by omega)
        omega
      · intro e
        omega

theorem crc_right (m t : List UInt8) (ht : ∀ c ∈ t, bit c = true) (h15 : t.length = 15) : crc (m ++ t) = 0 ↔ crc m = numN t := by
  have := crcFrom_zero t (crc m) ht (by omega) (crc_lt m)
  rw [h15] at this
  show crcFrom 0 (m ++ t) = 0 ↔ _
  rw [crcFrom_append, show crcFrom 0 m = crc m from rfl, this, Nat.sub_self, Nat.pow_zero, Nat.mul_one]

/-! ### One bit turned over. -/
/-- What a difference in the register becomes with the next bit. -/
def turnT (d : Nat) : Nat := if 16384 ≤ d then (d * 2 % 32768) ^^^ 17817 else d * 2 % 32768
/-- What a turned bit makes of the register, n bits later. -/
def pw : Nat → Nat
  | 0 => 17817
  | n + 1 => turnT (pw n)
theorem turnT_lt (d : Nat) : turnT d < 32768 := by
  unfold turnT
  split
  · exact xor_lt (Nat.mod_lt _ (by decide)) (by decide)
  · exact Nat.mod_lt _ (by decide)
theorem pw_lt : ∀ n, pw n < 32768
  | 0 => by decide
  | n + 1 => turnT_lt _

theorem top_iff (x : Nat) (h : x < 32768) : x.testBit 14 = decide (16384 ≤ x) := by
  rw [Nat.testBit_eq_decide_div_mod_eq]
  simp only [decide_eq_decide]
  omega
theorem dbl_xor (x d : Nat) : (x ^^^ d) * 2 % 32768 = (x * 2 % 32768) ^^^ (d * 2 % 32768) := by
  have h1 := Nat.xor_mod_two_pow (a := x * 2) (b := d * 2) (n := 15)
  have h2 : (x ^^^ d) * 2 = (x * 2) ^^^ (d * 2) := by
    have := Nat.shiftLeft_xor_distrib (a := x) (b := d) (i := 1)
    simpa [Nat.shiftLeft_eq] using this
  rw [h2]; exact h1
theorem div_top (x : Nat) (h : x < 32768) : x / 16384 = if 16384 ≤ x then 1 else 0 := by split <;> omega
theorem top_xor (x d : Nat) (hx : x < 32768) (hd : d < 32768) : decide (16384 ≤ x ^^^ d) = (decide (16384 ≤ x) != decide (16384 ≤ d)) := by
  rw [← top_iff _ (xor_lt hx hd), ← top_iff x hx, ← top_iff d hd, Nat.testBit_xor]

theorem xor4 (X D K : Nat) : (X ^^^ K) ^^^ (D ^^^ K) = X ^^^ D := by
  rw [Nat.xor_comm D K, Nat.xor_assoc, ← Nat.xor_assoc K K D, Nat.xor_self, Nat.zero_xor]
theorem xor_back (a k : Nat) : a ^^^ k ^^^ k = a := by rw [Nat.xor_assoc, Nat.xor_self, Nat.xor_zero]

theorem stepC_xor (x d : Nat) (c : UInt8) (hc : bit c = true) (hx : x < 32768) (hd : d < 32768) : stepC (x ^^^ d) c = stepC x c ^^^ turnT d := by
  have ht := top_xor x d hx hd
  have hb := bitN_lt hc
  unfold stepC turnT
  rw [dbl_xor, div_top _ (xor_lt hx hd), div_top x hx]
  generalize x * 2 % 32768 = X
  generalize d * 2 % 32768 = D
  by_cases h1 : 16384 ≤ x <;> by_cases h2 : 16384 ≤ d
  all_goals
    simp only [h1, h2, decide_true, decide_false, bne_self_eq_false, Bool.true_bne, Bool.false_bne, Bool.not_false, Bool.not_true, decide_eq_true_eq, decide_eq_false_iff_not] at ht
    simp only [h1, h2, ht, if_true, if_false]
    have hb2 : bitN c = 0 ∨ bitN c = 1 := by omega
    rcases hb2 with e | e <;> simp only [e, ne_eq, Nat.zero_ne_one, Nat.one_ne_zero, not_true_eq_false, not_false_eq_true, if_true, if_false] <;> first | rfl | exact (xor4 X D _).symm | ac_rfl

/-- The other bit. -/
def flip (c : UInt8) : UInt8 := if c = 48 then 49 else 48
theorem bit_val {c : UInt8} (h : bit c = true) : c = 48 ∨ c = 49 := by
  rcases bit_cases h with e | e
  · exact .inl (UInt8.toNat_inj.1 e)
  · exact .inr (UInt8.toNat_inj.1 e)
theorem flip_bit (c : UInt8) : bit (flip c) = true := by unfold flip; split <;> rfl
theorem flip_flip {c : UInt8} (h : bit c = true) : flip (flip c) = c := by rcases bit_val h with rfl | rfl <;> rfl
theorem stepC_flip (x : Nat) (c : UInt8) (h : bit c = true) (hx : x < 32768) : stepC x (flip c) = stepC x c ^^^ 17817 := by
  unfold stepC
  rw [div_top x hx]
  generalize x * 2 % 32768 = X
  have e0 : bitN 48 = 0 := rfl
  have e1 : bitN 49 = 1 := rfl
  rcases bit_val h with rfl | rfl
  · rw [show flip 48 = 49 from rfl, e0, e1]
    by_cases h1 : 16384 ≤ x <;> simp [h1, xor_back]
  · rw [show flip 49 = 48 from rfl, e0, e1]
    by_cases h1 : 16384 ≤ x <;> simp [h1, xor_back]
theorem crcFrom_xor : ∀ (l : List UInt8) (x n : Nat), (∀ c ∈ l, bit c = true) → x < 32768 → crcFrom (x ^^^ pw n) l = crcFrom x l ^^^ pw (n + l.length)
  | [], x, n, _, _ => rfl
  | c :: l, x, n, h, hx => by
    show crcFrom (stepC (x ^^^ pw n) c) l = crcFrom (stepC x c) l ^^^ _
    rw [stepC_xor x (pw n) c (h c (by simp)) hx (pw_lt n), show turnT (pw n) = pw (n + 1) from rfl, crcFrom_xor l _ (n + 1) (fun d hd => h d (by simp [hd])) (stepC_lt x c), List.length_cons]
    rw [show n + 1 + l.length = n + (l.length + 1) from by omega]
theorem crc_flip (a b : List UInt8) (c : UInt8) (hc : bit c = true) (hb : ∀ d ∈ b, bit d = true) : crc (a ++ flip c :: b) = crc (a ++ c :: b) ^^^ pw b.length := by
  show crcFrom 0 _ = crcFrom 0 _ ^^^ _
  rw [crcFrom_append, crcFrom_append]
  show crcFrom (stepC (crc a) (flip c)) b = crcFrom (stepC (crc a) c) b ^^^ _
  rw [stepC_flip _ c hc (crc_lt a), show (17817 : Nat) = pw 0 from rfl, crcFrom_xor b _ 0 hb (stepC_lt _ _), Nat.zero_add]

/-- The bits with the one at place i turned over. -/
def turnL (l : List UInt8) (i : Nat) : List UInt8 := l.set i (flip (l.getD i 48))
theorem turnL_eq (l : List UInt8) (i : Nat) (hi : i < l.length) : turnL l i = l.take i ++ flip l[i] :: l.drop (i + 1) := by
  unfold turnL
  rw [List.getD_eq_getElem?_getD, List.getElem?_eq_getElem hi, Option.getD_some, List.set_eq_take_append_cons_drop, if_pos hi]
theorem split_eq (l : List UInt8) (i : Nat) (hi : i < l.length) : l = l.take i ++ l[i] :: l.drop (i + 1) := by
  rw [← List.drop_eq_getElem_cons hi, List.take_append_drop]
theorem turnL_length (l : List UInt8) (i : Nat) : (turnL l i).length = l.length := by simp [turnL]
theorem turnL_bit (l : List UInt8) (i : Nat) (h : ∀ c ∈ l, bit c = true) : ∀ c ∈ turnL l i, bit c = true := by
  intro c hc
  rcases List.mem_or_eq_of_mem_set hc with hc | hc
  · exact h c hc
  · subst hc; exact flip_bit _
theorem crc_turn (l : List UInt8) (i : Nat) (hi : i < l.length) (h : ∀ c ∈ l, bit c = true) : crc (turnL l i) = crc l ^^^ pw (l.length - 1 - i) := by
  have e := crc_flip (l.take i) (l.drop (i + 1)) l[i] (h _ (List.getElem_mem hi)) (fun d hd => h d (List.mem_of_mem_drop hd))
  rw [← turnL_eq l i hi, ← split_eq l i hi, List.length_drop] at e
  rw [e, show l.length - (i + 1) = l.length - 1 - i from by omega]
theorem turnL_twice (l : List UInt8) (i : Nat) (h : ∀ c ∈ l, bit c = true) : turnL (turnL l i) i = l := by
  by_cases hi : i < l.length
  · unfold turnL
    rw [List.set_set]
    have : (l.set i (flip (l.getD i 48))).getD i 48 = flip (l.getD i 48) := by
      rw [List.getD_eq_getElem?_getD, List.getElem?_set_self hi, Option.getD_some]
    rw [this, flip_flip (h _ (by rw [List.getD_eq_getElem?_getD, List.getElem?_eq_getElem hi]; exact List.getElem_mem hi))]
    rw [List.getD_eq_getElem?_getD, List.getElem?_eq_getElem hi, Option.getD_some, List.set_getElem_self]
  · unfold turnL
    rw [List.set_eq_of_length_le (by rw [List.length_set]; omega), List.set_eq_of_length_le (by omega)]

/-- The differences that one turned bit makes, of the last hundred bits. -/
def pwList : Nat → Nat → List Nat
  | 0, _ => []
  | n + 1, x => x :: pwList n (turnT x)
theorem pwList_at : ∀ (n k j : Nat), j < n → (pwList n (pw k))[j]? = some (pw (k + j))
  | 0, _, _, h => absurd h (by omega)
  | n + 1, k, 0, _ => by simp [pwList]
  | n + 1, k, j + 1, h => by
    have := pwList_at n (k + 1) j (by omega)
    simp only [pwList, List.getElem?_cons_succ]
    rw [show turnT (pw k) = pw (k + 1) from rfl, this, show k + 1 + j = k + (j + 1) from by omega]
theorem pwList_length : ∀ (n x : Nat), (pwList n x).length = n
  | 0, _ => rfl
  | n + 1, x => by simp [pwList, pwList_length n]
theorem pw_table : (pwList 100 17817).Nodup ∧ 0 ∉ pwList 100 17817 := by decide +kernel
theorem pw_ne0 (a : Nat) (h : a < 100) : pw a ≠ 0 := by
  intro e
  have := pwList_at 100 0 a h
  rw [Nat.zero_add, e] at this
  exact pw_table.2 (List.mem_of_getElem? this)
theorem pw_inj (a b : Nat) (ha : a < 100) (hb : b < 100) (h : pw a = pw b) : a = b := by
  have h1 := pwList_at 100 0 a ha
  have h2 := pwList_at 100 0 b hb
  rw [Nat.zero_add] at h1 h2
  rw [h, ← h2] at h1
  exact (List.getElem?_inj (show a < (pwList 100 17817).length by rw [pwList_length]; exact ha) pw_table.1).1 h1

/-- One bit turned over: not right; two: right where they are one. -/
theorem crc_one {l : List UInt8} {i : Nat} (h : ∀ c ∈ l, bit c = true) (h0 : crc l = 0) (hi : i < l.length) (hl : l.length ≤ 100) : crc (turnL l i) ≠ 0 := by
  rw [crc_turn l i hi h, h0, Nat.zero_xor]
  exact pw_ne0 _ (by omega)
theorem crc_two {l : List UInt8} {i k : Nat} (h : ∀ c ∈ l, bit c = true) (h0 : crc l = 0) (hi : i < l.length) (hk : k < l.length) (hl : l.length ≤ 100) : crc (turnL (turnL l i) k) = 0 ↔ i = k := by
  constructor
  · intro e
    have hk' : k < (turnL l i).length := by rw [turnL_length]; exact hk
    rw [crc_turn _ k hk' (turnL_bit l i h), crc_turn l i hi h, h0, Nat.zero_xor, turnL_length] at e
    have e2 : pw (l.length - 1 - i) = pw (l.length - 1 - k) := by
      have := congrArg (· ^^^ pw (l.length - 1 - k)) e
      simp only [xor_back, Nat.zero_xor] at this
      exact this
    have := pw_inj _ _ (by omega) (by omega) e2
    omega
  · intro e
    subst e
    rw [turnL_twice l i h]; exact h0

end Go.Proofs.Ytnabcnmgfchceaa
