/- Contracts of BitsOk, of the program and of the model: at every text both answer okB of it; the program's goes through the text by runes, the model's by bytes. -/
import Derived.Test.YtnabcnmgfchceaaBits
import Derived.Test.YtnabcnmgfchceaaRows
import Derived.WalkKit
import Derived.WalkSpells
import Derived.LoopTactic
import Derived.Lib.Hide
namespace Go.Proofs.Ytnabcnmgfchceaa
open Go.RowKit

/-- A byte out of a text at a place that is in it. -/
theorem index_at (s : ByteArray) (i : Int) (n : Nat) (w : World) (hn : n < s.size) (hi : i = n) :
    (Instr.index 9 (.string s) (.int .i64 i)).run Try.prog w = .ok (.int .u8 (s[n]'hn).toNat) w := by
  subst hi
  rw [run_index_string w _ s .i64 _ Try.underlying9, dif_pos (by omega)]
  rfl

/-- What the program's range over the text meets at place k: the byte itself where it is a bit; else a rune that is neither. -/
theorem rune_no (s : ByteArray) (k : Nat) (hk : k < s.size) (h : bit s[k] = false) : ((Utf8.decode s k).1 : Int) ≠ 48 ∧ ((Utf8.decode s k).1 : Int) ≠ 49 := by
  have hn := bit_no h
  by_cases ha : (s[k]'hk).toNat < 128
  · rw [decode_ascii s k hk ha]
    show ((s[k].toNat : Nat) : Int) ≠ 48 ∧ ((s[k].toNat : Nat) : Int) ≠ 49
    omega
  · have := (decode_high s k hk (by omega)).1
    omega

theorem below_iter (w : World) (s : ByteArray) (k : Nat) : Below w.heap.size w (w.iter s k) := (Below.refl _ _).alloc (Nat.le_refl _) _

end Go.Proofs.Ytnabcnmgfchceaa
