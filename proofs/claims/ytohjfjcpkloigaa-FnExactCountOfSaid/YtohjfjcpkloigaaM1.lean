/- Contracts of BitsOk, of the program and of the model: at every text both answer okB of it; the program's goes through the text by runes, the model's by bytes. -/
import Derived.Test.YtohjfjcpkloigaaM0
import Derived.Test.YtohjfjcpkloigaaRows
import Derived.WalkKit
import Derived.WalkSpells
import Derived.LoopTactic
import Derived.Lib.Hide
import Derived.Laws.BytesArg
import Derived.IntWalk

set_option maxRecDepth 20000
namespace Go.Proofs.Ytohjfjcpkloigaa
open Go.RowKit

/-- A byte out of a text at a place that is in it. -/
theorem index_at (s : ByteArray) (i : Int) (n : Nat) (w : World) (hn : n < s.size) (hi : i = n) :
    (Instr.index 9 (.string s) (.int .i64 i)).run Try.prog w = .ok (.int .u8 (s[n]'hn).toNat) w := by
  subst hi
  rw [run_index_string w _ s .i64 _ Try.underlying9, dif_pos (by omega)]
  rfl

/-- What the program's range over the text meets at place k: the byte itself where it is a bit; else a rune that is neither. -/
theorem rune_no (s : ByteArray) (k : Nat) (hk : k < s.size) (h : bit s[k] = false) : ((Utf8.decode s k).1 : Int) ≠ 48 ∧ ((Utf8.decode s k).1 : Int) ≠ 49 := by
  have hn := bit_no h
  by_cases ha : (s[k]'hk).toNat < 128
  · rw [decode_ascii s k hk ha]
    show ((s[k].toNat : Nat) : Int) ≠ 48 ∧ ((s[k].toNat : Nat) : Int) ≠ 49
    omega
  · have := (decode_high s k hk (by omega)).1
    omega

theorem below_iter (w : World) (s : ByteArray) (k : Nat) : Below w.heap.size w (w.iter s k) := (Below.refl _ _).alloc (Nat.le_refl _) _

end Go.Proofs.Ytohjfjcpkloigaa

/- Contracts of BitsOf, of the program and of the model: at every two numbers both answer ofS of them and ofOk of them. -/

set_option maxRecDepth 20000
namespace Go.Proofs.Ytohjfjcpkloigaa
open Go.RowKit

/-- Does n fit in count bits? -/
def ofOk (n count : Int) : Bool := decide (0 ≤ count) && decide (count ≤ 32) && decide (0 ≤ n) && decide (n < 2 ^ count.toNat)
/-- The byte at place i of the c bits of n. -/
def dig (n : Int) (c i : Nat) : Int := 48 + n / 2 ^ (c - 1 - i) % 2
def digs (n : Int) (c : Nat) : List Int := (List.range c).map (dig n c)
def ofS (n count : Int) : ByteArray := if ofOk n count then strOfNums (digs n count.toNat) else ByteArray.empty
theorem ofOk_no {n count : Int} (h : count < 0 ∨ 32 < count ∨ n < 0 ∨ ¬ n < 2 ^ count.toNat) : ofOk n count = false := by
  simp only [ofOk, Bool.and_eq_false_iff, decide_eq_false_iff_not]; omega
theorem ofOk_yes {n : Int} {c : Nat} (h1 : c ≤ 32) (h2 : 0 ≤ n) (h3 : n < 2 ^ c) : ofOk n (c : Int) = true := by
  simp only [ofOk, Bool.and_eq_true, decide_eq_true_eq, Int.toNat_natCast]; omega
theorem ofS_no {n count : Int} (h : ofOk n count = false) : ofS n count = ByteArray.empty := by simp [ofS, h]
theorem ofS_yes {n : Int} {c : Nat} (h : ofOk n (c : Int) = true) : ofS n (c : Int) = strOfNums (digs n c) := by simp [ofS, h]
theorem ret_text {a b : ByteArray} {c d : Bool} (h : a = b) (k : c = d) : Ending.returned (.tuple #[.string a, .bool c]) = .returned (.tuple #[.string b, .bool d]) := by rw [h, k]

/-- A row of c bytes, byte i being f i. -/
def brow (c : Nat) (f : Nat → Int) : Array Value := ((List.range c).map fun i => Value.int .u8 (f i)).toArray
theorem brow_size (c : Nat) (f : Nat → Int) : (brow c f).size = c := by simp [brow]
theorem brow_get {c : Nat} (f : Nat → Int) {i : Nat} (h : i < c) : (brow c f)[i]? = some (.int .u8 (f i)) := by
  simp [brow, h]
theorem brow_set {c : Nat} (f g : Nat → Int) (i : Nat) (v : Int) (hv : ∀ j, j < c → g j = if j = i then v else f j) :
    (brow c f).setIfInBounds i (.int .u8 v) = brow c g := by
  apply Array.ext
  · simp [brow]
  · intro j h1 h2
    have hj : j < c := by simpa [brow_size] using h2
    have := hv j hj
    simp only [brow, List.getElem_toArray, List.getElem_map, List.getElem_range] at *
    rw [Array.getElem_setIfInBounds (by simpa using hj)]
    by_cases e : i = j
    · subst e; simp [this]
    · rw [if_neg e, this, if_neg (Ne.symm e)]; simp
theorem brow_made (c : Nat) : madeCells #[.int .u8 0] (c * 1) = brow c fun _ => 0 := by
  apply Array.ext
  · simp [madeCells, brow]
  · intro j h1 h2
    simp [madeCells, brow, Nat.mod_one]

theorem i64_and1 (n : Int) : bits .and .i64 n 1 = n % 2 := by
  have h1 : (BitVec.ofInt 64 1).toNat = 2 ^ 1 - 1 := by decide
  have key : (BitVec.ofInt 64 n &&& BitVec.ofInt 64 1).toNat = (n % ((2 ^ 64 : Nat) : Int)).toNat % 2 ^ 1 := by
    rw [BitVec.toNat_and, BitVec.toNat_ofInt, h1, Nat.and_two_pow_sub_one_eq_mod]
  show IntKind.i64.wrap ((BitVec.ofInt 64 n &&& BitVec.ofInt 64 1).toNat : Nat) = n % 2
  rw [key, IntKind.wrap_i64]
  omega
theorem dig_of (n : Int) (c k : Nat) : (48 + bits .and .i64 (n / 2 ^ (c - 1 - k)) 1) % 256 = dig n c k := by
  rw [i64_and1]; unfold dig; omega

theorem make_bytes (c : Nat) (hc : c ≤ 32) (W : World) : (Instr.makeSlice 22 (.int .i64 c) (.int .i64 c)).run Try.prog W =
    .ok (.slice (some ⟨W.heap.size, 0, none⟩) c c) (W.alloc (.cells (brow c fun _ => 0) 5)) := by
  obtain ⟨i0, hi, hz0, hz1, hz2⟩ := info_parts (show (Try.prog.info? 5).map (fun i => (i.zero, i.size, i.bytes)) = some (some (.int .u8 0), 1, 1) by kernel_rfl)
  have := run_make (P := Try.prog) W 22 5 i0 (.int .u8 0) Try.underlying22 hi hz0 .i64 .i64 c c (by omega) (Int.le_refl _) (by rw [hz2]; omega) (by omega)
  rw [this, hz1]
  simp only [Int.toNat_natCast]
  rw [show (Value.int .u8 0).cells = #[.int .u8 0] from rfl, brow_made]

theorem wrap_pow {c : Nat} (h : c ≤ 32) : wrap64 (2 ^ c) = 2 ^ c := by
  have h3 : (2 : Int) ^ c ≤ 2 ^ 32 := by exact_mod_cast Nat.pow_le_pow_right (n := 2) (by decide) h
  have h4 : (0 : Int) ≤ 2 ^ c := Int.le_of_lt (Int.pow_pos (by decide))
  exact IntWalk.wrap64_in _ ⟨by omega, by omega⟩

theorem div_pow (n : Int) (j : Nat) : n / 2 ^ j / 2 = n / 2 ^ (j + 1) := by
  rw [Int.ediv_ediv_of_nonneg (Int.le_of_lt (Int.pow_pos (by decide))), Int.pow_succ]

end Go.Proofs.Ytohjfjcpkloigaa

/- Numbers within a range; impl.within. -/

set_option linter.unusedVariables false
set_option linter.unusedSimpArgs false
set_option maxRecDepth 20000
namespace Go.Proofs.Ytohjfjcpkloigaa
open Go.RowKit

def rng (x lo hi : Int) : Bool := decide (lo ≤ x) && decide (x ≤ hi)
theorem rng_iff {x lo hi : Int} : rng x lo hi = true ↔ lo ≤ x ∧ x ≤ hi := by simp [rng]
/-- impl.within. -/
theorem implWithin (x lo hi : Int) (w : World) :
    Calls Try.prog 45 #[.int .i64 x, .int .i64 lo, .int .i64 hi] w fun e w' => e = .returned (.bool (rng x lo hi)) ∧ w = w' := by
  go_enter Try.func45, Try.ntmps45
  go_wp2
  all_goals (go_ret; exact ⟨ret_bool (by simp only [rng]; first | (simp_all; done) | (simp_all; omega)), rfl⟩)
end Go.Proofs.Ytohjfjcpkloigaa

/- Contracts of the small functions about a frame's head: headedOf, inRange, dataSize of the program, l1In of the model. -/

set_option maxRecDepth 20000
namespace Go.Proofs.Ytohjfjcpkloigaa
open Go.RowKit

/-- A frame (or a headed frame of the program's own) as the machine's value. -/
abbrev frV (id : Int) (rm : Bool) (ln : Int) (a : Option Addr) (n c : Nat) : Value := .agg #[.int .i64 id, .bool rm, .int .i64 ln, .slice a n c]
abbrev hdV (id : Int) (rm : Bool) (ln : Int) : Value := .agg #[.int .i64 id, .bool rm, .int .i64 ln]

/-- What impl.head.inRange asks. -/
def inR (id ln : Int) : Bool := decide (0 ≤ id) && decide (id ≤ 2047) && decide (0 ≤ ln) && decide (ln ≤ 8)

/-- spec.l1In. -/
theorem l1In (x lo hi : Int) (w : World) :
    Calls Try.prog 58 #[.int .i64 x, .int .i64 lo, .int .i64 hi] w fun e w' => e = .returned (.bool (decide (lo ≤ x) && decide (x ≤ hi))) ∧ w = w' := by
  go_enter Try.func58, Try.ntmps58
  go_wp2
  all_goals (go_ret; exact ⟨ret_bool (by first | (simp_all; done) | (simp_all; omega)), rfl⟩)
end Go.Proofs.Ytohjfjcpkloigaa
