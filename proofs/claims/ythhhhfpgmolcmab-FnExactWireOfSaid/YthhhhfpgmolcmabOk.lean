/- Contracts of BitsOk, of the program and of the model: at every text both answer okB of it; the program's goes through the text by runes, the model's by bytes. -/
import Derived.Test.YthhhhfpgmolcmabBits
import Derived.Test.YthhhhfpgmolcmabRows
import Derived.WalkKit
import Derived.WalkSpells
import Derived.LoopTactic
import Derived.Lib.Hide
namespace Go.Proofs.Ythhhhfpgmolcmab
open Go.RowKit

/-- A byte out of a text at a place that is in it. -/
theorem index_at (s : ByteArray) (i : Int) (n : Nat) (w : World) (hn : n < s.size) (hi : i = n) :
    (Instr.index 9 (.string s) (.int .i64 i)).run Try.prog w = .ok (.int .u8 (s[n]'hn).toNat) w := by
  subst hi
  rw [run_index_string w _ s .i64 _ Try.underlying9, dif_pos (by omega)]
  rfl

/-- spec.BitsOk. -/
theorem specOk (s : ByteArray) (w : World) (hs : s.size ≤ maxLen) :
    Calls Try.prog 48 #[.string s] w fun e w' => e = .returned (.bool (okB s)) ∧ w = w' := by
  unfold maxLen at hs
  go_enter Try.func48, Try.ntmps48
  go_wp2
  go_loop [3] (fun i => ∃ k : Nat, k ≤ s.size ∧ i = .int .i64 k ∧ Upto s k) (fun i => s.size - (intOf i).toNat)
  case atStart => exact ⟨0, Nat.zero_le _, rfl, Upto.zero s⟩
  case round =>
    obtain ⟨k, hk, rfl, hr⟩ := hrel
    by_cases hlt : k < s.size
    · go_wp2
      all_goals first
        | (go_ret; exact ⟨ret_bool (okB_no hlt (bit_of_and ‹_›)).symm, rfl⟩)
        | (go_round
           case rel => exact ⟨k + 1, by omega, by go_num, hr.succ hlt (by first | exact bit_48 (by omega) | exact bit_of_or ‹_›)⟩
           case measure => simp [intOf]; omega)
    · go_wp2
      go_ret
      exact ⟨ret_bool (okB_upto_dec hr (by omega)).symm, rfl⟩

/-- What the program's range over the text meets at place k: the byte itself where it is a bit; else a rune that is neither. -/
theorem rune_no (s : ByteArray) (k : Nat) (hk : k < s.size) (h : bit s[k] = false) : ((Utf8.decode s k).1 : Int) ≠ 48 ∧ ((Utf8.decode s k).1 : Int) ≠ 49 := by
  have hn := bit_no h
  by_cases ha : (s[k]'hk).toNat < 128
  · rw [decode_ascii s k hk ha]
    show ((s[k].toNat : Nat) : Int) ≠ 48 ∧ ((s[k].toNat : Nat) : Int) ≠ 49
    omega
  · have := (decode_high s k hk (by omega)).1
    omega

theorem below_iter (w : World) (s : ByteArray) (k : Nat) : Below w.heap.size w (w.iter s k) := (Below.refl _ _).alloc (Nat.le_refl _) _

/-- impl.BitsOk. -/
theorem implOk (s : ByteArray) (w : World) (hs : s.size ≤ maxLen) :
    Calls Try.prog 39 #[.string s] w fun e w' => e = .returned (.bool (okB s)) ∧ Below w.heap.size w w' := by
  unfold maxLen at hs
  by_cases hl : 400 < s.size
  · go_enter Try.func39, Try.ntmps39
    go_wp2
    go_ret
    exact ⟨ret_bool (okB_long hl).symm, Below.refl _ _⟩
  · go_enter Try.func39, Try.ntmps39
    go_wp2
    go_loopw [4] (fun _ wr => ∃ k : Nat, k ≤ s.size ∧ wr = w.iter s k ∧ Upto s k) (fun _ wr => s.size - wr.iterPos w.heap.size)
    case atStart => exact ⟨0, Nat.zero_le _, rfl, Upto.zero s⟩
    case round =>
      obtain ⟨k, hk, rfl, hr⟩ := hrel
      by_cases hlt : k < s.size
      · cases hb : bit s[k] with
        | true =>
          have hnx : ∀ ty, (Instr.next (.pointer (some ⟨w.heap.size, 0, none⟩)) true ty).run Try.prog (w.iter s k) = _ := fun ty => run_next_ascii w s k ty hlt (by have := bit_cases hb; omega)
          go_wp2
          all_goals first
            | (go_ret; exact absurd hb (by rw [bit_of_and ‹_›]; simp))
            | (go_roundw
               case rel => exact ⟨k + 1, by omega, rfl, hr.succ hlt hb⟩
               case measure => simp; omega)
        | false =>
          have hnx : ∀ ty, (Instr.next (.pointer (some ⟨w.heap.size, 0, none⟩)) true ty).run Try.prog (w.iter s k) = _ := fun ty => run_next_any w s k ty hlt
          have hn := rune_no s k hlt hb
          go_wp2
          all_goals first
            | (go_ret; exact ⟨ret_bool (okB_no hlt hb).symm, below_iter w s _⟩)
            | exact absurd hn (fun hn => not_or_ne ‹_› hn)
      · have hnx : ∀ ty, (Instr.next (.pointer (some ⟨w.heap.size, 0, none⟩)) true ty).run Try.prog (w.iter s k) = _ := fun ty => run_next_end w s k ty hlt
        go_wp2
        go_ret
        exact ⟨ret_bool (okB_upto hr (by omega) (by omega)).symm, below_iter w s k⟩

end Go.Proofs.Ythhhhfpgmolcmab
