/- Plain facts on texts of bits, with no program in sight: which texts are bits, what number they are, how many at the end are alike. -/
import Derived.WalkKit

set_option maxRecDepth 20000
namespace Go.Proofs.Ytohjfjcpkloigaa

theorem ret_bool {a b : Bool} (h : a = b) : Ending.returned (.bool a) = .returned (.bool b) := by rw [h]
theorem ret_int {k : IntKind} {a b : Int} (h : a = b) : Ending.returned (.int k a) = .returned (.int k b) := by rw [h]

theorem ba_inj {a b : ByteArray} (h : a.data.toList = b.data.toList) : a = b := by
  cases a; cases b; congr 1; exact Array.toList_inj.1 h
/-- Go's '==' of two texts, as the walk spells it. -/
theorem teq (a b : ByteArray) : (a.toList == b.toList) = decide (a = b) := by
  rw [ByteArray.toList_eq, ByteArray.toList_eq, Bool.eq_iff_iff, beq_iff_eq, decide_eq_true_eq]
  exact ⟨ba_inj, fun h => by rw [h]⟩

/-- Two steps, each of which turns nothing that was there when it began. -/
theorem Below.then2 {w w1 w2 : World} (h : RowKit.Below w.heap.size w w1) (k : RowKit.Below w1.heap.size w1 w2) : RowKit.Below w.heap.size w w2 := h.trans (k.mono h.size)

/-- A byte that is a bit: 48 or 49. -/
def bit (c : UInt8) : Bool := c.toNat == 48 || c.toNat == 49
/-- Bits, at most 400. -/
def okB (s : ByteArray) : Bool := decide (s.size ≤ 400) && s.data.toList.all bit

theorem bit_48 {c : UInt8} (h : c.toNat = 48) : bit c = true := by simp [bit, h]
theorem bit_49 {c : UInt8} (h : c.toNat = 49) : bit c = true := by simp [bit, h]
theorem bit_cases {c : UInt8} (h : bit c = true) : c.toNat = 48 ∨ c.toNat = 49 := by simpa [bit] using h
theorem bit_no {c : UInt8} (h : bit c = false) : c.toNat ≠ 48 ∧ c.toNat ≠ 49 := by simpa [bit] using h

theorem bit_of_or {c : UInt8} (h : ((c.toNat : Int) != 48) = false ∨ ((c.toNat : Int) != 49) = false) : bit c = true := by
  simp only [bne_eq_false_iff_eq] at h
  rcases h with h | h
  · exact bit_48 (by omega)
  · exact bit_49 (by omega)
theorem bit_of_and {c : UInt8} (h : ((c.toNat : Int) != 48) = true ∧ ((c.toNat : Int) != 49) = true) : bit c = false := by
  simp only [bne_iff_ne] at h
  cases e : bit c with
  | false => rfl
  | true => have := bit_cases e; omega
theorem not_or_ne {n : Int} (h : (n != 48) = false ∨ (n != 49) = false) (h1 : n ≠ 48 ∧ n ≠ 49) : False := by
  simp only [bne_eq_false_iff_eq] at h; omega
/-- The first k are bits. -/
def Upto (s : ByteArray) (k : Nat) : Prop := ∀ j (hj : j < s.size), j < k → bit s[j] = true
theorem Upto.zero (s : ByteArray) : Upto s 0 := fun j _ h => absurd h (by omega)
theorem Upto.succ {s : ByteArray} {k : Nat} (h : Upto s k) (hk : k < s.size) (hb : bit s[k] = true) : Upto s (k + 1) := fun j hj hl => by
  by_cases e : j = k
  · subst e; exact hb
  · exact h j hj (by omega)

theorem okB_size {s : ByteArray} (h : okB s = true) : s.size ≤ 400 := by
  simp [okB] at h; exact h.1
theorem okB_bit {s : ByteArray} (h : okB s = true) (k : Nat) (hk : k < s.size) : bit s[k] = true := by
  simp only [okB, Bool.and_eq_true, List.all_eq_true] at h
  refine h.2 s[k] ?_
  rw [show s[k] = s.data.toList[k]'(by simpa using hk) from by simp [ByteArray.getElem_eq_getElem_data]]
  exact List.getElem_mem _
theorem okB_of {s : ByteArray} (h : s.size ≤ 400) (hb : ∀ k (hk : k < s.size), bit s[k] = true) : okB s = true := by
  simp only [okB, Bool.and_eq_true, List.all_eq_true]
  refine ⟨by simpa using h, fun x hx => ?_⟩
  obtain ⟨i, hi, rfl⟩ := List.getElem_of_mem hx
  have hi' : i < s.size := by simpa using hi
  have := hb i hi'
  rw [show s[i] = s.data.toList[i] from by simp [ByteArray.getElem_eq_getElem_data]] at this
  exact this
theorem okB_upto {s : ByteArray} {k : Nat} (h : Upto s k) (hk : s.size ≤ k) (hl : s.size ≤ 400) : okB s = true := okB_of hl fun j hj => h j hj (by omega)
theorem okB_upto_dec {s : ByteArray} {k : Nat} (h : Upto s k) (hk : s.size ≤ k) : okB s = decide ((s.size : Int) ≤ 400) := by
  by_cases hl : s.size ≤ 400
  · rw [okB_upto h hk hl, decide_eq_true (by omega)]
  · rw [decide_eq_false (by omega)]; simp only [okB, Bool.and_eq_false_iff]; left; simpa using hl
theorem okB_long {s : ByteArray} (h : 400 < s.size) : okB s = false := by
  simp only [okB, Bool.and_eq_false_iff]; left; simpa using h
theorem okB_no {s : ByteArray} {k : Nat} (hk : k < s.size) (h : bit s[k] = false) : okB s = false := by
  cases hb : okB s with
  | false => rfl
  | true => rw [okB_bit hb k hk] at h; cases h
theorem okB_first {s : ByteArray} (h : okB s = false) (hl : s.size ≤ 400) : ∃ k, ∃ hk : k < s.size, bit s[k] = false := by
  apply Classical.byContradiction
  intro hn
  have : okB s = true := okB_of hl fun k hk => by
    cases hb : bit s[k] with
    | true => rfl
    | false => exact absurd ⟨k, hk, hb⟩ hn
  rw [h] at this; cases this

/-- The number of bits, the highest one first. -/
def num (l : List UInt8) : Int := l.foldl (fun n c => 2 * n + ((c.toNat : Int) - 48)) 0
theorem num_snoc (l : List UInt8) (c : UInt8) : num (l ++ [c]) = 2 * num l + ((c.toNat : Int) - 48) := by simp [num]
theorem num_nil : num [] = 0 := rfl
theorem num_bd_rev : ∀ (r : List UInt8), (∀ c ∈ r, bit c = true) → 0 ≤ num r.reverse ∧ num r.reverse < 2 ^ r.length
  | [], _ => by simp [num]
  | c :: r, h => by
    have h1 := num_bd_rev r fun x hx => h x (by simp [hx])
    have h2 := bit_cases (h c (by simp))
    rw [List.reverse_cons, num_snoc, List.length_cons, Int.pow_succ]
    omega
theorem num_bd (l : List UInt8) (h : ∀ c ∈ l, bit c = true) : 0 ≤ num l ∧ num l < 2 ^ l.length := by
  have := num_bd_rev l.reverse fun c hc => h c (by simpa using hc)
  simpa using this

theorem take_snoc (s : ByteArray) (k : Nat) (h : k < s.size) : s.data.toList.take (k + 1) = s.data.toList.take k ++ [s[k]] := by
  rw [List.take_succ_eq_append_getElem (by simpa using h)]; rfl
theorem mem_bit {s : ByteArray} (h : okB s = true) : ∀ c ∈ s.data.toList, bit c = true := by
  simp only [okB, Bool.and_eq_true, List.all_eq_true] at h
  exact h.2
theorem num_take_bd {s : ByteArray} (h : okB s = true) (hl : s.size ≤ 32) (k : Nat) : 0 ≤ num (s.data.toList.take k) ∧ num (s.data.toList.take k) ≤ 4294967295 := by
  have := num_bd (s.data.toList.take k) fun c hc => mem_bit h c (List.mem_of_mem_take hc)
  have h2 : (s.data.toList.take k).length ≤ 32 := Nat.le_trans (List.length_take_le' _ _) (by simpa using hl)
  have h3 : (2 : Int) ^ (s.data.toList.take k).length ≤ 2 ^ 32 := by exact_mod_cast Nat.pow_le_pow_right (n := 2) (by decide) h2
  omega
theorem take_all (s : ByteArray) (k : Nat) (h : s.size ≤ k) : s.data.toList.take k = s.data.toList := List.take_of_length_le (by simpa using h)
/-- Is it a number's text: bits, at most 32? And the number; 0 where it is none. -/
def numOk (s : ByteArray) : Bool := okB s && decide (s.size ≤ 32)
def numV (s : ByteArray) : Int := if numOk s then num s.data.toList else 0
theorem numOk_long {s : ByteArray} (h : 32 < s.size) : numOk s = false := by simp [numOk]; intro _; omega
theorem numOk_no {s : ByteArray} (h : okB s = false) : numOk s = false := by simp [numOk, h]
theorem numOk_yes {s : ByteArray} (h : okB s = true) (hl : s.size ≤ 32) : numOk s = true := by simp [numOk, h, hl]
theorem numV_no {s : ByteArray} (h : numOk s = false) : numV s = 0 := by simp [numV, h]
theorem numV_yes {s : ByteArray} (h : numOk s = true) : numV s = num s.data.toList := by simp [numV, h]
theorem ret_num {a b : Int} {c d : Bool} (h : a = b) (k : c = d) : Ending.returned (.tuple #[.int .i64 a, .bool c]) = .returned (.tuple #[.int .i64 b, .bool d]) := by rw [h, k]

/-- How many at the end are alike; of a text turned round: at its front. -/
def runR : List UInt8 → Nat
  | [] => 0
  | c :: l => 1 + (l.takeWhile fun d => d == c).length
def run (l : List UInt8) : Nat := runR l.reverse
theorem run_nil : run [] = 0 := rfl
theorem run_one (c : UInt8) : run [c] = 1 := rfl
theorem run_snoc_same (l : List UInt8) (c : UInt8) : run (l ++ [c] ++ [c]) = run (l ++ [c]) + 1 := by
  simp [run, runR]; omega
theorem run_snoc_other (l : List UInt8) (c d : UInt8) (h : d ≠ c) : run (l ++ [d] ++ [c]) = 1 := by
  simp [run, runR, h]
theorem run_le (l : List UInt8) : run l ≤ l.length := by
  unfold run
  cases h : l.reverse with
  | nil => simp [runR]
  | cons c r =>
    have : l.length = r.length + 1 := by rw [← List.length_reverse, h]; rfl
    have := (List.takeWhile_sublist (l := r) fun d => d == c).length_le
    simp [runR]; omega
theorem runR_lt : ∀ (c : UInt8) (r : List UInt8) (k : Nat), k ≤ (r.takeWhile fun d => d == c).length → (k < (r.takeWhile fun d => d == c).length ↔ ∃ h : k < r.length, r[k] = c)
  | c, [], k, h => by simp at h; subst h; simp
  | c, d :: r, 0, _ => by
    by_cases e : d = c <;> simp [e]
  | c, d :: r, k + 1, h => by
    by_cases e : d = c
    · simp only [List.takeWhile_cons, e, beq_self_eq_true, if_true, List.length_cons] at h ⊢
      have := runR_lt c r k (by omega)
      simp only [Nat.add_lt_add_iff_right, List.getElem_cons_succ]
      rw [this]
    · simp [e] at h

/-- The last byte; 0 of none. -/
def lastC (l : List UInt8) : Int := match l.reverse with | [] => 0 | c :: _ => (c.toNat : Int)
theorem lastC_snoc (l : List UInt8) (c : UInt8) : lastC (l ++ [c]) = (c.toNat : Int) := by simp [lastC]
theorem snoc_of : ∀ (l : List UInt8), l = [] ∨ ∃ r c, l = r ++ [c] := by
  intro l
  cases h : l.reverse with
  | nil => left; simpa using h
  | cons c r => right; exact ⟨r.reverse, c, by rw [← List.reverse_reverse l, h]; simp⟩
theorem run_same {l : List UInt8} {c : UInt8} (h : lastC l = (c.toNat : Int)) (hc : c.toNat ≠ 0) : run (l ++ [c]) = run l + 1 := by
  rcases snoc_of l with rfl | ⟨r, d, rfl⟩
  · simp [lastC] at h; omega
  · rw [lastC_snoc] at h
    have : d = c := UInt8.toNat_inj.1 (by omega)
    subst this
    exact run_snoc_same r d
theorem run_other {l : List UInt8} {c : UInt8} (h : lastC l ≠ (c.toNat : Int)) : run (l ++ [c]) = 1 := by
  rcases snoc_of l with rfl | ⟨r, d, rfl⟩
  · rfl
  · rw [lastC_snoc] at h
    exact run_snoc_other r c d (fun e => h (by rw [e]))
/-- From the end: is one more alike? -/
theorem run_more (s : ByteArray) (k : Nat) (hk : k ≤ run s.data.toList) (hp : k < s.size) :
    (s[s.size - 1 - k]'(by omega) = s[s.size - 1]'(by omega)) ↔ k < run s.data.toList := by
  have hl : s.data.toList.length = s.size := by simp
  cases hr : s.data.toList.reverse with
  | nil => have := congrArg List.length hr; simp only [List.length_reverse, hl, List.length_nil] at this; omega
  | cons c r =>
    have hlen : s.size = r.length + 1 := by rw [← hl, ← List.length_reverse, hr]; rfl
    have at' : ∀ j (hj : j < s.size), s[s.size - 1 - j]'(by omega) = (c :: r)[j]'(by simp; omega) := by
      intro j hj
      have : (c :: r)[j]'(by simp; omega) = s.data.toList.reverse[j]'(by simp; omega) := by simp [hr]
      rw [this, List.getElem_reverse]
      simp [ByteArray.getElem_eq_getElem_data]
    have h0 := at' 0 (by omega)
    simp only [Nat.sub_zero, List.getElem_cons_zero] at h0
    rw [at' k hp, h0]
    simp only [run, hr, runR] at hk ⊢
    cases k with
    | zero => simp; omega
    | succ k =>
      have := runR_lt c r k (by omega)
      simp only [List.getElem_cons_succ]
      constructor
      · intro e
        have := this.2 ⟨by omega, e⟩
        omega
      · intro e
        exact (this.1 (by omega)).2
def runV (s : ByteArray) : Int := if okB s then (run s.data.toList : Int) else 0
theorem runV_no {s : ByteArray} (h : okB s = false) : runV s = 0 := by simp [runV, h]
theorem runV_yes {s : ByteArray} (h : okB s = true) : runV s = (run s.data.toList : Int) := by simp [runV, h]
theorem run_le_size (s : ByteArray) : run s.data.toList ≤ s.size := by simpa using run_le s.data.toList

end Go.Proofs.Ytohjfjcpkloigaa

/- Plain facts on the check of 15 bits, with no program in sight: a text with its check brings the register back to 0; one bit turned over, or two within 95 bits, do not. -/

set_option linter.unusedSimpArgs false
set_option linter.unusedVariables false
set_option maxRecDepth 20000
namespace Go.Proofs.Ytohjfjcpkloigaa

/-- The number of a bit. -/
def bitN (c : UInt8) : Nat := c.toNat - 48
theorem bitN_lt {c : UInt8} (h : bit c = true) : bitN c < 2 := by have := bit_cases h; unfold bitN; omega
theorem bitN_int {c : UInt8} (h : bit c = true) : ((bitN c : Nat) : Int) = (c.toNat : Int) - 48 := by have := bit_cases h; unfold bitN; omega

/-- One bit into the register. -/
def stepC (x : Nat) (c : UInt8) : Nat := if bitN c ≠ x / 16384 then (x * 2 % 32768) ^^^ 17817 else x * 2 % 32768
def crcFrom (x : Nat) (l : List UInt8) : Nat := l.foldl stepC x
def crc (l : List UInt8) : Nat := crcFrom 0 l

theorem xor_lt {a b : Nat} (ha : a < 32768) (hb : b < 32768) : a ^^^ b < 32768 := Nat.xor_lt_two_pow (n := 15) ha hb
theorem stepC_lt (x : Nat) (c : UInt8) : stepC x c < 32768 := by
  unfold stepC
  split
  · exact xor_lt (Nat.mod_lt _ (by decide)) (by decide)
  · exact Nat.mod_lt _ (by decide)
theorem crcFrom_lt : ∀ (l : List UInt8) (x : Nat), x < 32768 → crcFrom x l < 32768
  | [], x, h => h
  | c :: l, x, _ => crcFrom_lt l (stepC x c) (stepC_lt x c)
theorem crc_lt (l : List UInt8) : crc l < 32768 := crcFrom_lt l 0 (by decide)
theorem crcFrom_append (x : Nat) (a b : List UInt8) : crcFrom x (a ++ b) = crcFrom (crcFrom x a) b := by simp [crcFrom]
theorem crc_snoc (l : List UInt8) (c : UInt8) : crc (l ++ [c]) = stepC (crc l) c := by simp [crc, crcFrom]

/-- The number of bits, over Nat. -/
def numN (l : List UInt8) : Nat := l.foldl (fun n c => 2 * n + bitN c) 0
theorem numN_from : ∀ (l : List UInt8) (n : Nat), l.foldl (fun n c => 2 * n + bitN c) n = n * 2 ^ l.length + numN l
  | [], n => by simp [numN]
  | c :: l, n => by
    have h1 := numN_from l (2 * n + bitN c)
    have h2 := numN_from l (bitN c)
    have h3 : numN (c :: l) = l.foldl (fun n c => 2 * n + bitN c) (bitN c) := by simp [numN]
    rw [List.foldl_cons, h1, h3, h2, List.length_cons, Nat.pow_succ, Nat.add_mul]
    have : 2 * n * 2 ^ l.length = n * (2 ^ l.length * 2) := by rw [Nat.mul_comm 2 n, Nat.mul_assoc, Nat.mul_comm 2]
    omega
theorem numN_cons (c : UInt8) (l : List UInt8) : numN (c :: l) = bitN c * 2 ^ l.length + numN l := by
  have h2 := numN_from l (bitN c)
  have h3 : numN (c :: l) = l.foldl (fun n c => 2 * n + bitN c) (bitN c) := by simp [numN]
  rw [h3, h2]
theorem numN_lt : ∀ (l : List UInt8), (∀ c ∈ l, bit c = true) → numN l < 2 ^ l.length
  | [], _ => by simp [numN]
  | c :: l, h => by
    have h1 := numN_lt l fun d hd => h d (by simp [hd])
    have h2 := bitN_lt (h c (by simp))
    rw [numN_cons, List.length_cons, Nat.pow_succ]
    have : bitN c * 2 ^ l.length ≤ 1 * 2 ^ l.length := Nat.mul_le_mul_right _ (by omega)
    omega
theorem num_numN_from : ∀ (l : List UInt8) (n : Nat), (∀ c ∈ l, bit c = true) → l.foldl (fun n c => 2 * n + ((c.toNat : Int) - 48)) (n : Int) = ((l.foldl (fun n c => 2 * n + bitN c) n : Nat) : Int)
  | [], n, _ => rfl
  | c :: l, n, h => by
    have h1 := num_numN_from l (2 * n + bitN c) fun d hd => h d (by simp [hd])
    rw [List.foldl_cons, List.foldl_cons, ← h1, ← bitN_int (h c (by simp))]
    rfl
theorem num_numN (l : List UInt8) (h : ∀ c ∈ l, bit c = true) : num l = (numN l : Int) := num_numN_from l 0 h

theorem odd_xor (y : Nat) (h : y % 2 = 0) : (y ^^^ 17817) % 2 = 1 := by
  have := Nat.xor_mod_two_pow (a := y) (b := 17817) (n := 1)
  simp only [Nat.pow_one] at this
  rw [this, h]; rfl

/-- The register comes to 0 behind n bits where these are its own highest ones, and the others are 0. -/
theorem crcFrom_zero : ∀ (l : List UInt8) (x : Nat), (∀ c ∈ l, bit c = true) → l.length ≤ 15 → x < 32768 → (crcFrom x l = 0 ↔ x = numN l * 2 ^ (15 - l.length))
  | [], x, _, _, _ => by simp [crcFrom, numN]
  | c :: l, x, h, hl, hx => by
    have hc := bitN_lt (h c (by simp))
    simp only [List.length_cons] at hl
    have ih := crcFrom_zero l (stepC x c) (fun d hd => h d (by simp [hd])) (by omega) (stepC_lt x c)
    show crcFrom (stepC x c) l = 0 ↔ _
    rw [ih, numN_cons, List.length_cons]
    obtain ⟨k, hk⟩ : ∃ k, 15 - l.length = k + 1 := ⟨14 - l.length, by omega⟩
    have hk2 : 15 - (l.length + 1) = k := by omega
    rw [hk, hk2, Nat.pow_succ, Nat.add_mul]
    have e1 : bitN c * 2 ^ l.length * 2 ^ k = bitN c * 16384 := by
      rw [Nat.mul_assoc, ← Nat.pow_add, show l.length + k = 14 from by omega]
    rw [e1]
    have hb : numN l * 2 ^ k < 16384 := by
      have h1 := numN_lt l fun d hd => h d (by simp [hd])
      have h2 : numN l * 2 ^ k < 2 ^ l.length * 2 ^ k := Nat.mul_lt_mul_of_pos_right h1 (Nat.pow_pos (by decide))
      rw [← Nat.pow_add, show l.length + k = 14 from by omega] at h2
      exact h2
    have e2 : numN l * (2 ^ k * 2) = numN l * 2 ^ k * 2 := by rw [Nat.mul_assoc]
    rw [e2]
    generalize numN l * 2 ^ k = y at hb ⊢
    unfold stepC
    by_cases ht : bitN c = x / 16384
    · rw [if_neg (by simpa using ht)]
      omega
    · rw [if_pos ht]
      constructor
      · intro e
        have := odd_xor (x * 2 % 32768) (by omega)
        omega
      · intro e
        omega

theorem crc_right (m t : List UInt8) (ht : ∀ c ∈ t, bit c = true) (h15 : t.length = 15) : crc (m ++ t) = 0 ↔ crc m = numN t := by
  have := crcFrom_zero t (crc m) ht (by omega) (crc_lt m)
  rw [h15] at this
  show crcFrom 0 (m ++ t) = 0 ↔ _
  rw [crcFrom_append, show crcFrom 0 m = crc m from rfl, this, Nat.sub_self, Nat.pow_zero, Nat.mul_one]

/-! ### One bit turned over. -/
/-- What a difference in the register becomes with the next bit. -/
def turnT (d : Nat) : Nat := if 16384 ≤ d then (d * 2 % 32768) ^^^ 17817 else d * 2 % 32768
/-- What a turned bit makes of the register, n bits later. -/
def pw : Nat → Nat
  | 0 => 17817
  | n + 1 => turnT (pw n)
theorem turnT_lt (d : Nat) : turnT d < 32768 := by
  unfold turnT
  split
  · exact xor_lt (Nat.mod_lt _ (by decide)) (by decide)
  · exact Nat.mod_lt _ (by decide)
theorem pw_lt : ∀ n, pw n < 32768
  | 0 => by decide
  | n + 1 => turnT_lt _

theorem top_iff (x : Nat) (h : x < 32768) : x.testBit 14 = decide (16384 ≤ x) := by
  rw [Nat.testBit_eq_decide_div_mod_eq]
  simp only [decide_eq_decide]
  omega
theorem dbl_xor (x d : Nat) : (x ^^^ d) * 2 % 32768 = (x * 2 % 32768) ^^^ (d * 2 % 32768) := by
  have h1 := Nat.xor_mod_two_pow (a := x * 2) (b := d * 2) (n := 15)
  have h2 : (x ^^^ d) * 2 = (x * 2) ^^^ (d * 2) := by
    have := Nat.shiftLeft_xor_distrib (a := x) (b := d) (i := 1)
    simpa [Nat.shiftLeft_eq] using this
  rw [h2]; exact h1
theorem div_top (x : Nat) (h : x < 32768) : x / 16384 = if 16384 ≤ x then 1 else 0 := by split <;> omega
theorem top_xor (x d : Nat) (hx : x < 32768) (hd : d < 32768) : decide (16384 ≤ x ^^^ d) = (decide (16384 ≤ x) != decide (16384 ≤ d)) := by
  rw [← top_iff _ (xor_lt hx hd), ← top_iff x hx, ← top_iff d hd, Nat.testBit_xor]

theorem xor4 (X D K : Nat) : (X ^^^ K) ^^^ (D ^^^ K) = X ^^^ D := by
  rw [Nat.xor_comm D K, Nat.xor_assoc, ← Nat.xor_assoc K K D, Nat.xor_self, Nat.zero_xor]
theorem xor_back (a k : Nat) : a ^^^ k ^^^ k = a := by rw [Nat.xor_assoc, Nat.xor_self, Nat.xor_zero]

theorem stepC_xor (x d : Nat) (c : UInt8) (hc : bit c = true) (hx : x < 32768) (hd : d < 32768) : stepC (x ^^^ d) c = stepC x c ^^^ turnT d := by
  have ht := top_xor x d hx hd
  have hb := bitN_lt hc
  unfold stepC turnT
  rw [dbl_xor, div_top _ (xor_lt hx hd), div_top x hx]
  generalize x * 2 % 32768 = X
  generalize d * 2 % 32768 = D
  by_cases h1 : 16384 ≤ x <;> by_cases h2 : 16384 ≤ d
  all_goals
    simp only [h1, h2, decide_true, decide_false, bne_self_eq_false, Bool.true_bne, Bool.false_bne, Bool.not_false, Bool.not_true, decide_eq_true_eq, decide_eq_false_iff_not] at ht
    simp only [h1, h2, ht, if_true, if_false]
    have hb2 : bitN c = 0 ∨ bitN c = 1 := by omega
    rcases hb2 with e | e <;> simp only [e, ne_eq, Nat.zero_ne_one, Nat.one_ne_zero, not_true_eq_false, not_false_eq_true, if_true, if_false] <;> first | rfl | exact (xor4 X D _).symm | ac_rfl

/-- The other bit. -/
def flip (c : UInt8) : UInt8 := if c = 48 then 49 else 48
theorem bit_val {c : UInt8} (h : bit c = true) : c = 48 ∨ c = 49 := by
  rcases bit_cases h with e | e
  · exact .inl (UInt8.toNat_inj.1 e)
  · exact .inr (UInt8.toNat_inj.1 e)
theorem flip_bit (c : UInt8) : bit (flip c) = true := by unfold flip; split <;> rfl
theorem flip_flip {c : UInt8} (h : bit c = true) : flip (flip c) = c := by rcases bit_val h with rfl | rfl <;> rfl
theorem stepC_flip (x : Nat) (c : UInt8) (h : bit c = true) (hx : x < 32768) : stepC x (flip c) = stepC x c ^^^ 17817 := by
  unfold stepC
  rw [div_top x hx]
  generalize x * 2 % 32768 = X
  have e0 : bitN 48 = 0 := rfl
  have e1 : bitN 49 = 1 := rfl
  rcases bit_val h with rfl | rfl
  · rw [show flip 48 = 49 from rfl, e0, e1]
    by_cases h1 : 16384 ≤ x <;> simp [h1, xor_back]
  · rw [show flip 49 = 48 from rfl, e0, e1]
    by_cases h1 : 16384 ≤ x <;> simp [h1, xor_back]
theorem crcFrom_xor : ∀ (l : List UInt8) (x n : Nat), (∀ c ∈ l, bit c = true) → x < 32768 → crcFrom (x ^^^ pw n) l = crcFrom x l ^^^ pw (n + l.length)
  | [], x, n, _, _ => rfl
  | c :: l, x, n, h, hx => by
    show crcFrom (stepC (x ^^^ pw n) c) l = crcFrom (stepC x c) l ^^^ _
    rw [stepC_xor x (pw n) c (h c (by simp)) hx (pw_lt n), show turnT (pw n) = pw (n + 1) from rfl, crcFrom_xor l _ (n + 1) (fun d hd => h d (by simp [hd])) (stepC_lt x c), List.length_cons]
    rw [show n + 1 + l.length = n + (l.length + 1) from by omega]
theorem crc_flip (a b : List UInt8) (c : UInt8) (hc : bit c = true) (hb : ∀ d ∈ b, bit d = true) : crc (a ++ flip c :: b) = crc (a ++ c :: b) ^^^ pw b.length := by
  show crcFrom 0 _ = crcFrom 0 _ ^^^ _
  rw [crcFrom_append, crcFrom_append]
  show crcFrom (stepC (crc a) (flip c)) b = crcFrom (stepC (crc a) c) b ^^^ _
  rw [stepC_flip _ c hc (crc_lt a), show (17817 : Nat) = pw 0 from rfl, crcFrom_xor b _ 0 hb (stepC_lt _ _), Nat.zero_add]

/-- The bits with the one at place i turned over. -/
def turnL (l : List UInt8) (i : Nat) : List UInt8 := l.set i (flip (l.getD i 48))
theorem turnL_eq (l : List UInt8) (i : Nat) (hi : i < l.length) : turnL l i = l.take i ++ flip l[i] :: l.drop (i + 1) := by
  unfold turnL
  rw [List.getD_eq_getElem?_getD, List.getElem?_eq_getElem hi, Option.getD_some, List.set_eq_take_append_cons_drop, if_pos hi]
theorem split_eq (l : List UInt8) (i : Nat) (hi : i < l.length) : l = l.take i ++ l[i] :: l.drop (i + 1) := by
  rw [← List.drop_eq_getElem_cons hi, List.take_append_drop]
theorem turnL_length (l : List UInt8) (i : Nat) : (turnL l i).length = l.length := by simp [turnL]
theorem turnL_bit (l : List UInt8) (i : Nat) (h : ∀ c ∈ l, bit c = true) : ∀ c ∈ turnL l i, bit c = true := by
  intro c hc
  rcases List.mem_or_eq_of_mem_set hc with hc | hc
  · exact h c hc
  · subst hc; exact flip_bit _
theorem crc_turn (l : List UInt8) (i : Nat) (hi : i < l.length) (h : ∀ c ∈ l, bit c = true) : crc (turnL l i) = crc l ^^^ pw (l.length - 1 - i) := by
  have e := crc_flip (l.take i) (l.drop (i + 1)) l[i] (h _ (List.getElem_mem hi)) (fun d hd => h d (List.mem_of_mem_drop hd))
  rw [← turnL_eq l i hi, ← split_eq l i hi, List.length_drop] at e
  rw [e, show l.length - (i + 1) = l.length - 1 - i from by omega]
theorem turnL_twice (l : List UInt8) (i : Nat) (h : ∀ c ∈ l, bit c = true) : turnL (turnL l i) i = l := by
  by_cases hi : i < l.length
  · unfold turnL
    rw [List.set_set]
    have : (l.set i (flip (l.getD i 48))).getD i 48 = flip (l.getD i 48) := by
      rw [List.getD_eq_getElem?_getD, List.getElem?_set_self hi, Option.getD_some]
    rw [this, flip_flip (h _ (by rw [List.getD_eq_getElem?_getD, List.getElem?_eq_getElem hi]; exact List.getElem_mem hi))]
    rw [List.getD_eq_getElem?_getD, List.getElem?_eq_getElem hi, Option.getD_some, List.set_getElem_self]
  · unfold turnL
    rw [List.set_eq_of_length_le (by rw [List.length_set]; omega), List.set_eq_of_length_le (by omega)]

/-- The differences that one turned bit makes, of the last hundred bits. -/
def pwList : Nat → Nat → List Nat
  | 0, _ => []
  | n + 1, x => x :: pwList n (turnT x)
theorem pwList_at : ∀ (n k j : Nat), j < n → (pwList n (pw k))[j]? = some (pw (k + j))
  | 0, _, _, h => absurd h (by omega)
  | n + 1, k, 0, _ => by simp [pwList]
  | n + 1, k, j + 1, h => by
    have := pwList_at n (k + 1) j (by omega)
    simp only [pwList, List.getElem?_cons_succ]
    rw [show turnT (pw k) = pw (k + 1) from rfl, this, show k + 1 + j = k + (j + 1) from by omega]
theorem pwList_length : ∀ (n x : Nat), (pwList n x).length = n
  | 0, _ => rfl
  | n + 1, x => by simp [pwList, pwList_length n]
theorem pw_table : (pwList 100 17817).Nodup ∧ 0 ∉ pwList 100 17817 := by decide +kernel
theorem pw_ne0 (a : Nat) (h : a < 100) : pw a ≠ 0 := by
  intro e
  have := pwList_at 100 0 a h
  rw [Nat.zero_add, e] at this
  exact pw_table.2 (List.mem_of_getElem? this)
theorem pw_inj (a b : Nat) (ha : a < 100) (hb : b < 100) (h : pw a = pw b) : a = b := by
  have h1 := pwList_at 100 0 a ha
  have h2 := pwList_at 100 0 b hb
  rw [Nat.zero_add] at h1 h2
  rw [h, ← h2] at h1
  exact (List.getElem?_inj (show a < (pwList 100 17817).length by rw [pwList_length]; exact ha) pw_table.1).1 h1

/-- One bit turned over: not right; two: right where they are one. -/
theorem crc_one {l : List UInt8} {i : Nat} (h : ∀ c ∈ l, bit c = true) (h0 : crc l = 0) (hi : i < l.length) (hl : l.length ≤ 100) : crc (turnL l i) ≠ 0 := by
  rw [crc_turn l i hi h, h0, Nat.zero_xor]
  exact pw_ne0 _ (by omega)
theorem crc_two {l : List UInt8} {i k : Nat} (h : ∀ c ∈ l, bit c = true) (h0 : crc l = 0) (hi : i < l.length) (hk : k < l.length) (hl : l.length ≤ 100) : crc (turnL (turnL l i) k) = 0 ↔ i = k := by
  constructor
  · intro e
    have hk' : k < (turnL l i).length := by rw [turnL_length]; exact hk
    rw [crc_turn _ k hk' (turnL_bit l i h), crc_turn l i hi h, h0, Nat.zero_xor, turnL_length] at e
    have e2 : pw (l.length - 1 - i) = pw (l.length - 1 - k) := by
      have := congrArg (· ^^^ pw (l.length - 1 - k)) e
      simp only [xor_back, Nat.zero_xor] at this
      exact this
    have := pw_inj _ _ (by omega) (by omega) e2
    omega
  · intro e
    subst e
    rw [turnL_twice l i h]; exact h0

end Go.Proofs.Ytohjfjcpkloigaa

/- Plain facts on stuffing, with no program in sight: what is put in, what comes out again, how much it is at most, and that never are six alike. -/

set_option linter.unusedSimpArgs false
set_option linter.unusedVariables false
set_option maxRecDepth 20000
namespace Go.Proofs.Ytohjfjcpkloigaa

/-- All of a list are bits. -/
def AllB (l : List UInt8) : Prop := ∀ c ∈ l, bit c = true
theorem AllB.nil : AllB [] := fun c h => by cases h
theorem AllB.snoc {l : List UInt8} {c : UInt8} (h : AllB l) (hc : bit c = true) : AllB (l ++ [c]) := fun d hd => by
  rcases List.mem_append.1 hd with hd | hd
  · exact h d hd
  · simp at hd; subst hd; exact hc
theorem AllB.front {l : List UInt8} {c : UInt8} (h : AllB (l ++ [c])) : AllB l ∧ bit c = true :=
  ⟨fun d hd => h d (List.mem_append_left _ hd), h c (by simp)⟩

/-- One bit more, and behind five alike the other one. -/
def stf (b : List UInt8) (c : UInt8) : List UInt8 := if run (b ++ [c]) = 5 then b ++ [c] ++ [flip c] else b ++ [c]
def stuffL (l : List UInt8) : List UInt8 := l.foldl stf []
theorem stuffL_nil : stuffL [] = [] := rfl
theorem stuffL_snoc (l : List UInt8) (c : UInt8) : stuffL (l ++ [c]) = stf (stuffL l) c := by simp [stuffL]

theorem bit_ne0 {c : UInt8} (h : bit c = true) : c.toNat ≠ 0 := by have := bit_cases h; omega
theorem flip_ne {c : UInt8} (h : bit c = true) : flip c ≠ c := by rcases bit_val h with rfl | rfl <;> decide
theorem eq_flip {c d : UInt8} (h : bit c = true) (hd : bit d = true) (hn : d ≠ c) : d = flip c := by
  rcases bit_val h with rfl | rfl <;> rcases bit_val hd with rfl | rfl <;> first | rfl | exact absurd rfl hn
theorem run_flip (l : List UInt8) {c : UInt8} (h : bit c = true) : run (l ++ [c] ++ [flip c]) = 1 := run_snoc_other l (flip c) c (fun e => flip_ne h e.symm)
theorem run_pos (l : List UInt8) (c : UInt8) : 1 ≤ run (l ++ [c]) := by simp [run, runR]
theorem run_step (l : List UInt8) (c : UInt8) : run (l ++ [c]) = run l + 1 ∨ run (l ++ [c]) = 1 := by
  rcases snoc_of l with rfl | ⟨r, d, rfl⟩
  · right; rfl
  · by_cases e : d = c
    · subst e; left; exact run_snoc_same r d
    · right; exact run_snoc_other r c d e

/-- By snoc: what holds of none, and goes from a list to one more, holds of all. -/
theorem snoc_ind {P : List UInt8 → Prop} (h0 : P []) (h1 : ∀ l c, P l → P (l ++ [c])) : ∀ l, P l := by
  intro l
  have : ∀ n (l : List UInt8), l.length = n → P l := by
    intro n
    induction n with
    | zero => intro l h; rw [List.length_eq_zero_iff.1 h]; exact h0
    | succ n ih =>
      intro l h
      rcases snoc_of l with rfl | ⟨r, c, rfl⟩
      · simp at h
      · exact h1 r c (ih r (by simpa using h))
  exact this _ l rfl

theorem run_stuff : ∀ l, run (stuffL l) ≤ 4 := by
  refine snoc_ind (by decide) fun l c ih => ?_
  rw [stuffL_snoc]
  unfold stf
  split
  · rename_i h
    by_cases e : flip c = c
    · exfalso; unfold flip at e; split at e <;> simp_all
    · rw [run_snoc_other _ (flip c) c (fun h => e h.symm)]; omega
  · rename_i h
    rcases run_step (stuffL l) c with h' | h' <;> omega
theorem stuff_bits : ∀ l, AllB l → AllB (stuffL l) := by
  refine snoc_ind (fun _ => AllB.nil) fun l c ih h => ?_
  obtain ⟨hl, hc⟩ := h.front
  rw [stuffL_snoc]
  unfold stf
  split
  · exact ((ih hl).snoc hc).snoc (flip_bit c)
  · exact (ih hl).snoc hc

/-! ### Never six alike. -/
theorem stuff_never : ∀ l k, run ((stuffL l).take k) ≤ 5 := by
  refine snoc_ind (fun k => by simp [stuffL_nil]; decide) fun l c ih k => ?_
  have h4 := run_stuff l
  rw [stuffL_snoc]
  unfold stf
  have hb : ∀ k, run ((stuffL l ++ [c]).take k) ≤ 5 := by
    intro k
    by_cases hk : k ≤ (stuffL l).length
    · rw [List.take_append_of_le_length hk]; exact ih k
    · rw [List.take_of_length_le (by simp; omega)]
      rcases run_step (stuffL l) c with h' | h' <;> omega
  split
  · by_cases hk : k ≤ (stuffL l ++ [c]).length
    · rw [List.take_append_of_le_length hk]; exact hb k
    · rw [List.take_of_length_le (by simp at hk ⊢; omega)]
      by_cases e : flip c = c
      · exfalso; unfold flip at e; split at e <;> simp_all
      · rw [run_snoc_other _ (flip c) c (fun h => e h.symm)]; omega
  · exact hb k

/-! ### How many are put in. -/
theorem stuff_len : ∀ l, l.length ≤ (stuffL l).length ∧ (l ≠ [] → 1 ≤ run (stuffL l) ∧ 4 * ((stuffL l).length - l.length) + run (stuffL l) ≤ l.length) := by
  refine snoc_ind ⟨by simp [stuffL_nil], fun h => absurd rfl h⟩ fun l c ih => ?_
  obtain ⟨i1, i2⟩ := ih
  have h4 := run_stuff l
  have hp := run_pos (stuffL l) c
  have hst := run_step (stuffL l) c
  have h0 : l = [] → (stuffL l).length = 0 ∧ run (stuffL l) = 0 := by intro e; subst e; exact ⟨rfl, rfl⟩
  rw [stuffL_snoc]
  unfold stf
  split
  · rename_i h5
    have hf : run (stuffL l ++ [c] ++ [flip c]) = 1 := by
      by_cases e : flip c = c
      · exfalso; unfold flip at e; split at e <;> simp_all
      · exact run_snoc_other _ (flip c) c (fun h => e h.symm)
    rw [hf]
    simp only [List.length_append, List.length_singleton]
    refine ⟨by omega, fun _ => ⟨by omega, ?_⟩⟩
    by_cases e : l = []
    · have := h0 e; omega
    · have := i2 e; omega
  · rename_i h5
    simp only [List.length_append, List.length_singleton]
    refine ⟨by omega, fun _ => ⟨hp, ?_⟩⟩
    by_cases e : l = []
    · have h1 := h0 e; have : l.length = 0 := by rw [e]; rfl
      omega
    · have := i2 e; omega
theorem stuff_most (l : List UInt8) : (stuffL l).length ≤ l.length + (l.length - 1) / 4 := by
  obtain ⟨h1, h2⟩ := stuff_len l
  by_cases e : l = []
  · subst e; simp [stuffL_nil]
  · have := h2 e; omega

/-! ### Taken out again. -/
/-- What has come out of the bits so far: nothing where they are none that stuffing makes. -/
def unS (p : List UInt8) (o : Option (List UInt8)) (c : UInt8) : Option (List UInt8) :=
  match o with
  | none => none
  | some l => if run p = 5 then (if lastC p = (c.toNat : Int) then none else some l) else some (l ++ [c])
def unF : List UInt8 × Option (List UInt8) → UInt8 → List UInt8 × Option (List UInt8) := fun st c => (st.1 ++ [c], unS st.1 st.2 c)
def unP (s : List UInt8) : Option (List UInt8) := (s.foldl unF ([], some [])).2
theorem unP_fst (s : List UInt8) : (s.foldl unF ([], some [])).1 = s := by
  refine snoc_ind (P := fun s => (s.foldl unF ([], some [])).1 = s) rfl (fun l c ih => ?_) s
  rw [List.foldl_append]; simp [unF, ih]
theorem unP_nil : unP [] = some [] := rfl
theorem unP_snoc (s : List UInt8) (c : UInt8) : unP (s ++ [c]) = unS s (unP s) c := by
  have h := unP_fst s
  unfold unP
  rw [List.foldl_append]
  simp [unF, h]
/-- What comes out of the whole. -/
def unL (s : List UInt8) : Option (List UInt8) := if run s = 5 then none else unP s

theorem un_stuff : ∀ l, AllB l → unP (stuffL l) = some l := by
  refine snoc_ind (fun _ => rfl) fun l c ih h => ?_
  obtain ⟨hl, hc⟩ := h.front
  have h4 := run_stuff l
  have h1 : unP (stuffL l ++ [c]) = some (l ++ [c]) := by
    rw [unP_snoc, ih hl]; unfold unS; simp only; rw [if_neg (by omega)]
  rw [stuffL_snoc]
  unfold stf
  split
  · rename_i h5
    rw [unP_snoc, h1]; unfold unS; simp only
    rw [if_pos h5, lastC_snoc, if_neg]
    intro e
    exact flip_ne hc (UInt8.toNat_inj.1 (by omega))
  · exact h1
theorem unL_stuff (l : List UInt8) (h : AllB l) : unL (stuffL l) = some l := by
  have := run_stuff l
  unfold unL
  rw [if_neg (by omega), un_stuff l h]

theorem stuff_un : ∀ s, AllB s → ∀ o, unP s = some o → run s ≤ 5 ∧ AllB o ∧ (if run s = 5 then ∃ r c, s = r ++ [c] ∧ stuffL o = s ++ [flip c] else stuffL o = s) := by
  refine snoc_ind (fun _ o h => ?_) fun s c ih h o ho => ?_
  · simp [unP_nil] at h; subst h
    exact ⟨by decide, AllB.nil, by rw [if_neg (by decide)]; rfl⟩
  · obtain ⟨hs, hc⟩ := h.front
    rw [unP_snoc] at ho
    cases hp : unP s with
    | none => rw [hp] at ho; simp [unS] at ho
    | some o' =>
      rw [hp] at ho
      obtain ⟨i1, i2, i3⟩ := ih hs o' hp
      unfold unS at ho
      simp only at ho
      by_cases h5 : run s = 5
      · rw [if_pos h5] at ho i3
        obtain ⟨r, d, rfl, i4⟩ := i3
        have hd := hs.front.2
        by_cases e : lastC (r ++ [d]) = (c.toNat : Int)
        · rw [if_pos e] at ho; cases ho
        · rw [if_neg e] at ho
          cases ho
          rw [lastC_snoc] at e
          have hn : c ≠ d := fun h => e (by rw [h])
          have hf := eq_flip hd hc hn
          subst hf
          rw [run_flip r hd]
          exact ⟨by omega, i2, by rw [if_neg (by omega)]; exact i4⟩
      · rw [if_neg h5] at ho i3
        cases ho
        refine ⟨by rcases run_step s c with h' | h' <;> omega, i2.snoc hc, ?_⟩
        rw [stuffL_snoc, i3]
        unfold stf
        split
        · exact ⟨s, c, rfl, rfl⟩
        · rfl
theorem unL_back {s o : List UInt8} (h : AllB s) (ho : unL s = some o) : stuffL o = s ∧ AllB o := by
  unfold unL at ho
  by_cases h5 : run s = 5
  · rw [if_pos h5] at ho; cases ho
  · rw [if_neg h5] at ho
    obtain ⟨_, i2, i3⟩ := stuff_un s h o ho
    rw [if_neg h5] at i3
    exact ⟨i3, i2⟩
theorem unP_len : ∀ s o, unP s = some o → o.length ≤ s.length := by
  refine snoc_ind (fun o h => by simp [unP_nil] at h; subst h; simp) fun s c ih o ho => ?_
  rw [unP_snoc] at ho
  cases hp : unP s with
  | none => rw [hp] at ho; simp [unS] at ho
  | some o' =>
    rw [hp] at ho
    have := ih o' hp
    unfold unS at ho
    simp only at ho
    split at ho
    · split at ho
      · cases ho
      · cases ho; simp; omega
    · cases ho; simp; omega

end Go.Proofs.Ytohjfjcpkloigaa
