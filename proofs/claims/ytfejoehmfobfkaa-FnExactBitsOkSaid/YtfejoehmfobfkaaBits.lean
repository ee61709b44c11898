/- Plain facts on texts of bits, with no program in sight: which texts are bits, what number they are, how many at the end are alike. -/
import Derived.WalkKit
namespace Go.Proofs.Ytfejoehmfobfkaa

theorem ret_bool {a b : Bool} (h : a = b) : Ending.returned (.bool a) = .returned (.bool b) := by rw [h]
theorem ret_int {k : IntKind} {a b : Int} (h : a = b) : Ending.returned (.int k a) = .returned (.int k b) := by rw [h]

/-- A byte that is a bit: 48 or 49. -/
def bit (c : UInt8) : Bool := c.toNat == 48 || c.toNat == 49
/-- Bits, at most 400. -/
def okB (s : ByteArray) : Bool := decide (s.size ≤ 400) && s.data.toList.all bit

theorem bit_48 {c : UInt8} (h : c.toNat = 48) : bit c = true := by simp [bit, h]
theorem bit_49 {c : UInt8} (h : c.toNat = 49) : bit c = true := by simp [bit, h]
theorem bit_cases {c : UInt8} (h : bit c = true) : c.toNat = 48 ∨ c.toNat = 49 := by simpa [bit] using h
theorem bit_no {c : UInt8} (h : bit c = false) : c.toNat ≠ 48 ∧ c.toNat ≠ 49 := by simpa [bit] using h

theorem bit_of_or {c : UInt8} (h : ((c.toNat : Int) != 48) = false ∨ ((c.toNat : Int) != 49) = false) : bit c = true := by
  simp only [bne_eq_false_iff_eq] at h
  rcases h with h | h
  · exact bit_48 (by omega)
  · exact bit_49 (by omega)
theorem bit_of_and {c : UInt8} (h : ((c.toNat : Int) != 48) = true ∧ ((c.toNat : Int) != 49) = true) : bit c = false := by
  simp only [bne_iff_ne] at h
  cases e : bit c with
  | false => rfl
  | true => have := bit_cases e; omega
theorem not_or_ne {n : Int} (h : (n != 48) = false ∨ (n != 49) = false) (h1 : n ≠ 48 ∧ n ≠ 49) : False := by
  simp only [bne_eq_false_iff_eq] at h; omega
/-- The first k are bits. -/
def Upto (s : ByteArray) (k : Nat) : Prop := ∀ j (hj : j < s.size), j < k → bit s[j] = true
theorem Upto.zero (s : ByteArray) : Upto s 0 := fun j _ h => absurd h (by omega)
theorem Upto.succ {s : ByteArray} {k : Nat} (h : Upto s k) (hk : k < s.size) (hb : bit s[k] = true) : Upto s (k + 1) := fun j hj hl => by
  by_cases e : j = k
  · subst e; exact hb
  · exact h j hj (by omega)

theorem okB_size {s : ByteArray} (h : okB s = true) : s.size ≤ 400 := by
  simp [okB] at h; exact h.1
theorem okB_bit {s : ByteArray} (h : okB s = true) (k : Nat) (hk : k < s.size) : bit s[k] = true := by
  simp only [okB, Bool.and_eq_true, List.all_eq_true] at h
  refine h.2 s[k] ?_
  rw [show s[k] = s.data.toList[k]'(by simpa using hk) from by simp [ByteArray.getElem_eq_getElem_data]]
  exact List.getElem_mem _
theorem okB_of {s : ByteArray} (h : s.size ≤ 400) (hb : ∀ k (hk : k < s.size), bit s[k] = true) : okB s = true := by
  simp only [okB, Bool.and_eq_true, List.all_eq_true]
  refine ⟨by simpa using h, fun x hx => ?_⟩
  obtain ⟨i, hi, rfl⟩ := List.getElem_of_mem hx
  have hi' : i < s.size := by simpa using hi
  have := hb i hi'
  rw [show s[i] = s.data.toList[i] from by simp [ByteArray.getElem_eq_getElem_data]] at this
  exact this
theorem okB_upto {s : ByteArray} {k : Nat} (h : Upto s k) (hk : s.size ≤ k) (hl : s.size ≤ 400) : okB s = true := okB_of hl fun j hj => h j hj (by omega)
theorem okB_upto_dec {s : ByteArray} {k : Nat} (h : Upto s k) (hk : s.size ≤ k) : okB s = decide ((s.size : Int) ≤ 400) := by
  by_cases hl : s.size ≤ 400
  · rw [okB_upto h hk hl, decide_eq_true (by omega)]
  · rw [decide_eq_false (by omega)]; simp only [okB, Bool.and_eq_false_iff]; left; simpa using hl
theorem okB_long {s : ByteArray} (h : 400 < s.size) : okB s = false := by
  simp only [okB, Bool.and_eq_false_iff]; left; simpa using h
theorem okB_no {s : ByteArray} {k : Nat} (hk : k < s.size) (h : bit s[k] = false) : okB s = false := by
  cases hb : okB s with
  | false => rfl
  | true => rw [okB_bit hb k hk] at h; cases h
theorem okB_first {s : ByteArray} (h : okB s = false) (hl : s.size ≤ 400) : ∃ k, ∃ hk : k < s.size, bit s[k] = false := by
  apply Classical.byContradiction
  intro hn
  have : okB s = true := okB_of hl fun k hk => by
    cases hb : bit s[k] with
    | true => rfl
    | false => exact absurd ⟨k, hk, hb⟩ hn
  rw [h] at this; cases this

/-- The number of bits, the highest one first. -/
def num (l : List UInt8) : Int := l.foldl (fun n c => 2 * n + ((c.toNat : Int) - 48)) 0
theorem num_snoc (l : List UInt8) (c : UInt8) : num (l ++ [c]) = 2 * num l + ((c.toNat : Int) - 48) := by simp [num]
theorem num_nil : num [] = 0 := rfl
theorem num_bd_rev : ∀ (r : List UInt8), (∀ c ∈ r, bit c = true) → 0 ≤ num r.reverse ∧ num r.reverse < 2 ^ r.length
  | [], _ => by simp [num]
  | c :: r, h => by
    have h1 := num_bd_rev r fun x hx => h x (by simp [hx])
    have h2 := bit_cases (h c (by simp))
    rw [List.reverse_cons, num_snoc, List.length_cons, Int.pow_succ]
    omega
theorem num_bd (l : List UInt8) (h : ∀ c ∈ l, bit c = true) : 0 ≤ num l ∧ num l < 2 ^ l.length := by
  have := num_bd_rev l.reverse fun c hc => h c (by simpa using hc)
  simpa using this

/-- How many at the end are alike; of a text turned round: at its front. -/
def runR : List UInt8 → Nat
  | [] => 0
  | c :: l => 1 + (l.takeWhile fun d => d == c).length
def run (l : List UInt8) : Nat := runR l.reverse
theorem run_nil : run [] = 0 := rfl
theorem run_one (c : UInt8) : run [c] = 1 := rfl
theorem run_snoc_same (l : List UInt8) (c : UInt8) : run (l ++ [c] ++ [c]) = run (l ++ [c]) + 1 := by
  simp [run, runR]; omega
theorem run_snoc_other (l : List UInt8) (c d : UInt8) (h : d ≠ c) : run (l ++ [d] ++ [c]) = 1 := by
  simp [run, runR, h]
theorem run_le (l : List UInt8) : run l ≤ l.length := by
  unfold run
  cases h : l.reverse with
  | nil => simp [runR]
  | cons c r =>
    have : l.length = r.length + 1 := by rw [← List.length_reverse, h]; rfl
    have := (List.takeWhile_sublist (l := r) fun d => d == c).length_le
    simp [runR]; omega
theorem runR_lt : ∀ (c : UInt8) (r : List UInt8) (k : Nat), k ≤ (r.takeWhile fun d => d == c).length → (k < (r.takeWhile fun d => d == c).length ↔ ∃ h : k < r.length, r[k] = c)
  | c, [], k, h => by simp at h; subst h; simp
  | c, d :: r, 0, _ => by
    by_cases e : d = c <;> simp [e]
  | c, d :: r, k + 1, h => by
    by_cases e : d = c
    · simp only [List.takeWhile_cons, e, beq_self_eq_true, if_true, List.length_cons] at h ⊢
      have := runR_lt c r k (by omega)
      simp only [Nat.add_lt_add_iff_right, List.getElem_cons_succ]
      rw [this]
    · simp [e] at h

end Go.Proofs.Ytfejoehmfobfkaa
