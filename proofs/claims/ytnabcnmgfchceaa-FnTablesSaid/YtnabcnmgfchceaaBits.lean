/- Plain facts on texts of bits, with no program in sight: which texts are bits, what number they are, how many at the end are alike. -/
import Derived.WalkKit
namespace Go.Proofs.Ytnabcnmgfchceaa

theorem ret_bool {a b : Bool} (h : a = b) : Ending.returned (.bool a) = .returned (.bool b) := by rw [h]
theorem ret_int {k : IntKind} {a b : Int} (h : a = b) : Ending.returned (.int k a) = .returned (.int k b) := by rw [h]

theorem ba_inj {a b : ByteArray} (h : a.data.toList = b.data.toList) : a = b := by
  cases a; cases b; congr 1; exact Array.toList_inj.1 h
/-- Go's '==' of two texts, as the walk spells it. -/
theorem teq (a b : ByteArray) : (a.toList == b.toList) = decide (a = b) := by
  rw [ByteArray.toList_eq, ByteArray.toList_eq, Bool.eq_iff_iff, beq_iff_eq, decide_eq_true_eq]
  exact ⟨ba_inj, fun h => by rw [h]⟩

/-- Two steps, each of which turns nothing that was there when it began. -/
theorem Below.then2 {w w1 w2 : World} (h : RowKit.Below w.heap.size w w1) (k : RowKit.Below w1.heap.size w1 w2) : RowKit.Below w.heap.size w w2 := h.trans (k.mono h.size)

/-- A byte that is a bit: 48 or 49. -/
def bit (c : UInt8) : Bool := c.toNat == 48 || c.toNat == 49
/-- Bits, at most 400. -/
def okB (s : ByteArray) : Bool := decide (s.size ≤ 400) && s.data.toList.all bit

theorem bit_48 {c : UInt8} (h : c.toNat = 48) : bit c = true := by simp [bit, h]
theorem bit_49 {c : UInt8} (h : c.toNat = 49) : bit c = true := by simp [bit, h]
theorem bit_cases {c : UInt8} (h : bit c = true) : c.toNat = 48 ∨ c.toNat = 49 := by simpa [bit] using h
theorem bit_no {c : UInt8} (h : bit c = false) : c.toNat ≠ 48 ∧ c.toNat ≠ 49 := by simpa [bit] using h

theorem bit_of_or {c : UInt8} (h : ((c.toNat : Int) != 48) = false ∨ ((c.toNat : Int) != 49) = false) : bit c = true := by
  simp only [bne_eq_false_iff_eq] at h
  rcases h with h | h
  · exact bit_48 (by omega)
  · exact bit_49 (by omega)
theorem bit_of_and {c : UInt8} (h : ((c.toNat : Int) != 48) = true ∧ ((c.toNat : Int) != 49) = true) : bit c = false := by
  simp only [bne_iff_ne] at h
  cases e : bit c with
  | false => rfl
  | true => have := bit_cases e; omega
theorem not_or_ne {n : Int} (h : (n != 48) = false ∨ (n != 49) = false) (h1 : n ≠ 48 ∧ n ≠ 49) : False := by
  simp only [bne_eq_false_iff_eq] at h; omega
/-- The first k are bits. -/
def Upto (s : ByteArray) (k : Nat) : Prop := ∀ j (hj : j < s.size), j < k → bit s[j] = true
theorem Upto.zero (s : ByteArray) : Upto s 0 := fun j _ h => absurd h (by omega)
theorem Upto.succ {s : ByteArray} {k : Nat} (h : Upto s k) (hk : k < s.size) (hb : bit s[k] = true) : Upto s (k + 1) := fun j hj hl => by
  by_cases e : j = k
  · subst e; exact hb
  · exact h j hj (by omega)

theorem okB_size {s : ByteArray} (h : okB s = true) : s.size ≤ 400 := by
  simp [okB] at h; exact h.1
theorem okB_bit {s : ByteArray} (h : okB s = true) (k : Nat) (hk : k < s.size) : bit s[k] = true := by
  simp only [okB, Bool.and_eq_true, List.all_eq_true] at h
  refine h.2 s[k] ?_
  rw [show s[k] = s.data.toList[k]'(by simpa using hk) from by simp [ByteArray.getElem_eq_getElem_data]]
  exact List.getElem_mem _
theorem okB_of {s : ByteArray} (h : s.size ≤ 400) (hb : ∀ k (hk : k < s.size), bit s[k] = true) : okB s = true := by
  simp only [okB, Bool.and_eq_true, List.all_eq_true]
  refine ⟨by simpa using h, fun x hx => ?_⟩
  obtain ⟨i, hi, rfl⟩ := List.getElem_of_mem hx
  have hi' : i < s.size := by simpa using hi
  have := hb i hi'
  rw [show s[i] = s.data.toList[i] from by simp [ByteArray.getElem_eq_getElem_data]] at this
  exact this
theorem okB_upto {s : ByteArray} {k : Nat} (h : Upto s k) (hk : s.size ≤ k) (hl : s.size ≤ 400) : okB s = true := okB_of hl fun j hj => h j hj (by omega)
theorem okB_upto_dec {s : ByteArray} {k : Nat} (h : Upto s k) (hk : s.size ≤ k) : okB s = decide ((s.size : Int) ≤ 400) := by
  by_cases hl : s.size ≤ 400
  · rw [okB_upto h hk hl, decide_eq_true (by omega)]
  · rw [decide_eq_false (by omega)]; simp only [okB, Bool.and_eq_false_iff]; left; simpa using hl
theorem okB_long {s : ByteArray} (h : 400 < s.size) : okB s = false := by
  simp only [okB, Bool.and_eq_false_iff]; left; simpa using h
theorem okB_no {s : ByteArray} {k : Nat} (hk : k < s.size) (h : bit s[k] = false) : okB s = false := by
  cases hb : okB s with
  | false => rfl
  | true => rw [okB_bit hb k hk] at h; cases h
theorem okB_first {s : ByteArray} (h : okB s = false) (hl : s.size ≤ 400) : ∃ k, ∃ hk : k < s.size, bit s[k] = false := by
  apply Classical.byContradiction
  intro hn
  have : okB s = true := okB_of hl fun k hk => by
    cases hb : bit s[k] with
    | true => rfl
    | false => exact absurd ⟨k, hk, hb⟩ hn
  rw [h] at this; cases this

/-- The number of bits, the highest one first. -/
def num (l : List UInt8) : Int := l.foldl (fun n c => 2 * n + ((c.toNat : Int) - 48)) 0
theorem num_snoc (l : List UInt8) (c : UInt8) : num (l ++ [c]) = 2 * num l + ((c.toNat : Int) - 48) := by simp [num]
theorem num_nil : num [] = 0 := rfl
theorem num_bd_rev : ∀ (r : List UInt8), (∀ c ∈ r, bit c = true) → 0 ≤ num r.reverse ∧ num r.reverse < 2 ^ r.length
  | [], _ => by simp [num]
  | c :: r, h => by
    have h1 := num_bd_rev r fun x hx => h x (by simp [hx])
    have h2 := bit_cases (h c (by simp))
    rw [List.reverse_cons, num_snoc, List.length_cons, Int.pow_succ]
    omega
theorem num_bd (l : List UInt8) (h : ∀ c ∈ l, bit c = true) : 0 ≤ num l ∧ num l < 2 ^ l.length := by
  have := num_bd_rev l.reverse fun c hc => h c (by simpa using hc)
  simpa using this

theorem take_snoc (s : ByteArray) (k : Nat) (h : k < s.size) : s.data.toList.take (k + 1) = s.data.toList.take k ++ [s[k]] := by
  rw [List.take_succ_eq_append_getElem (by simpa using h)]; rfl
theorem mem_bit {s : ByteArray} (h : okB s = true) : ∀ c ∈ s.data.toList, bit c = true := by
  simp only [okB, Bool.and_eq_true, List.all_eq_true] at h
  exact h.2
theorem num_take_bd {s : ByteArray} (h : okB s = true) (hl : s.size ≤ 32) (k : Nat) : 0 ≤ num (s.data.toList.take k) ∧ num (s.data.toList.take k) ≤ 4294967295 := by
  have := num_bd (s.data.toList.take k) fun c hc => mem_bit h c (List.mem_of_mem_take hc)
  have h2 : (s.data.toList.take k).length ≤ 32 := Nat.le_trans (List.length_take_le' _ _) (by simpa using hl)
  have h3 : (2 : Int) ^ (s.data.toList.take k).length ≤ 2 ^ 32 := by exact_mod_cast Nat.pow_le_pow_right (n := 2) (by decide) h2
  omega
theorem take_all (s : ByteArray) (k : Nat) (h : s.size ≤ k) : s.data.toList.take k = s.data.toList := List.take_of_length_le (by simpa using h)
/-- Is it a number's text: bits, at most 32? And the number; 0 where it is none. -/
def numOk (s : ByteArray) : Bool := okB s && decide (s.size ≤ 32)
def numV (s : ByteArray) : Int := if numOk s then num s.data.toList else 0
theorem numOk_long {s : ByteArray} (h : 32 < s.size) : numOk s = false := by simp [numOk]; intro _; omega
theorem numOk_no {s : ByteArray} (h : okB s = false) : numOk s = false := by simp [numOk, h]
theorem numOk_yes {s : ByteArray} (h : okB s = true) (hl : s.size ≤ 32) : numOk s = true := by simp [numOk, h, hl]
theorem numV_no {s : ByteArray} (h : numOk s = false) : numV s = 0 := by simp [numV, h]
theorem numV_yes {s : ByteArray} (h : numOk s = true) : numV s = num s.data.toList := by simp [numV, h]
theorem ret_num {a b : Int} {c d : Bool} (h : a = b) (k : c = d) : Ending.returned (.tuple #[.int .i64 a, .bool c]) = .returned (.tuple #[.int .i64 b, .bool d]) := by rw [h, k]

/-- How many at the end are alike; of a text turned round: at its front. -/
def runR : List UInt8 → Nat
  | [] => 0
  | c :: l => 1 + (l.takeWhile fun d => d == c).length
def run (l : List UInt8) : Nat := runR l.reverse
theorem run_nil : run [] = 0 := rfl
theorem run_one (c : UInt8) : run [c] = 1 := rfl
theorem run_snoc_same (l : List UInt8) (c : UInt8) : run (l ++ [c] ++ [c]) = run (l ++ [c]) + 1 := by
  simp [run, runR]; omega
theorem run_snoc_other (l : List UInt8) (c d : UInt8) (h : d ≠ c) : run (l ++ [d] ++ [c]) = 1 := by
  simp [run, runR, h]
theorem run_le (l : List UInt8) : run l ≤ l.length := by
  unfold run
  cases h : l.reverse with
  | nil => simp [runR]
  | cons c r =>
    have : l.length = r.length + 1 := by rw [← List.length_reverse, h]; rfl
    have := (List.takeWhile_sublist (l := r) fun d => d == c).length_le
    simp [runR]; omega
theorem runR_lt : ∀ (c : UInt8) (r : List UInt8) (k : Nat), k ≤ (r.takeWhile fun d => d == c).length → (k < (r.takeWhile fun d => d == c).length ↔ ∃ h : k < r.length, r[k] = c)
  | c, [], k, h => by simp at h; subst h; simp
  | c, d :: r, 0, _ => by
    by_cases e : d = c <;> simp [e]
  | c, d :: r, k + 1, h => by
    by_cases e : d = c
    · simp only [List.takeWhile_cons, e, beq_self_eq_true, if_true, List.length_cons] at h ⊢
      have := runR_lt c r k (by omega)
      simp only [Nat.add_lt_add_iff_right, List.getElem_cons_succ]
      rw [this]
    · simp [e] at h

/-- The last byte; 0 of none. -/
def lastC (l : List UInt8) : Int := match l.reverse with | [] => 0 | c :: _ => (c.toNat : Int)
theorem lastC_snoc (l : List UInt8) (c : UInt8) : lastC (l ++ [c]) = (c.toNat : Int) := by simp [lastC]
theorem snoc_of : ∀ (l : List UInt8), l = [] ∨ ∃ r c, l = r ++ [c] := by
  intro l
  cases h : l.reverse with
  | nil => left; simpa using h
  | cons c r => right; exact ⟨r.reverse, c, by rw [← List.reverse_reverse l, h]; simp⟩
theorem run_same {l : List UInt8} {c : UInt8} (h : lastC l = (c.toNat : Int)) (hc : c.toNat ≠ 0) : run (l ++ [c]) = run l + 1 := by
  rcases snoc_of l with rfl | ⟨r, d, rfl⟩
  · simp [lastC] at h; omega
  · rw [lastC_snoc] at h
    have : d = c := UInt8.toNat_inj.1 (by omega)
    subst this
    exact run_snoc_same r d
theorem run_other {l : List UInt8} {c : UInt8} (h : lastC l ≠ (c.toNat : Int)) : run (l ++ [c]) = 1 := by
  rcases snoc_of l with rfl | ⟨r, d, rfl⟩
  · rfl
  · rw [lastC_snoc] at h
    exact run_snoc_other r c d (fun e => h (by rw [e]))
/-- From the end: is one more alike? -/
theorem run_more (s : ByteArray) (k : Nat) (hk : k ≤ run s.data.toList) (hp : k < s.size) :
    (s[s.size - 1 - k]'(by omega) = s[s.size - 1]'(by omega)) ↔ k < run s.data.toList := by
  have hl : s.data.toList.length = s.size := by simp
  cases hr : s.data.toList.reverse with
  | nil => have := congrArg List.length hr; simp only [List.length_reverse, hl, List.length_nil] at this; omega
  | cons c r =>
    have hlen : s.size = r.length + 1 := by rw [← hl, ← List.length_reverse, hr]; rfl
    have at' : ∀ j (hj : j < s.size), s[s.size - 1 - j]'(by omega) = (c :: r)[j]'(by simp; omega) := by
      intro j hj
      have : (c :: r)[j]'(by simp; omega) = s.data.toList.reverse[j]'(by simp; omega) := by simp [hr]
      rw [this, List.getElem_reverse]
      simp [ByteArray.getElem_eq_getElem_data]
    have h0 := at' 0 (by omega)
    simp only [Nat.sub_zero, List.getElem_cons_zero] at h0
    rw [at' k hp, h0]
    simp only [run, hr, runR] at hk ⊢
    cases k with
    | zero => simp; omega
    | succ k =>
      have := runR_lt c r k (by omega)
      simp only [List.getElem_cons_succ]
      constructor
      · intro e
        have := this.2 ⟨by omega, e⟩
        omega
      · intro e
        exact (this.1 (by omega)).2
def runV (s : ByteArray) : Int := if okB s then (run s.data.toList : Int) else 0
theorem runV_no {s : ByteArray} (h : okB s = false) : runV s = 0 := by simp [runV, h]
theorem runV_yes {s : ByteArray} (h : okB s = true) : runV s = (run s.data.toList : Int) := by simp [runV, h]
theorem run_le_size (s : ByteArray) : run s.data.toList ≤ s.size := by simpa using run_le s.data.toList

end Go.Proofs.Ytnabcnmgfchceaa
