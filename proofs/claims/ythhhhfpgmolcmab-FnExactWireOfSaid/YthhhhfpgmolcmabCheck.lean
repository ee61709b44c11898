/- Contracts of CheckOf, of the program and of the model: at every text of bits both answer its check of 15 bits, -1 at any other. -/
import Derived.Test.YthhhhfpgmolcmabCrc
import Derived.Test.YthhhhfpgmolcmabOk
import Derived.IntWalk
set_option linter.unusedSimpArgs false
set_option linter.unusedVariables false
namespace Go.Proofs.Ythhhhfpgmolcmab
open Go.RowKit

/-- The check of a text of bits; -1 of another text. -/
def crcV (s : ByteArray) : Int := if okB s then (crc s.data.toList : Int) else -1
theorem crcV_no {s : ByteArray} (h : okB s = false) : crcV s = -1 := by simp [crcV, h]
theorem crcV_yes {s : ByteArray} (h : okB s = true) : crcV s = (crc s.data.toList : Int) := by simp [crcV, h]

theorem i64_xor {a b : Nat} (ha : a < 32768) (hb : b < 32768) : Go.bits .xor .i64 (a : Int) (b : Int) = ((a ^^^ b : Nat) : Int) := by
  have h1 : (BitVec.ofInt 64 (a : Int)).toNat = a := by rw [BitVec.toNat_ofInt]; omega
  have h2 : (BitVec.ofInt 64 (b : Int)).toNat = b := by rw [BitVec.toNat_ofInt]; omega
  have key : (BitVec.ofInt 64 (a : Int) ^^^ BitVec.ofInt 64 (b : Int)).toNat = a ^^^ b := by
    rw [BitVec.toNat_xor, h1, h2]
  have hlt := xor_lt ha hb
  show IntKind.i64.wrap ((BitVec.ofInt 64 (a : Int) ^^^ BitVec.ofInt 64 (b : Int)).toNat : Nat) = _
  rw [key, IntKind.wrap_i64]
  omega

theorem stepC_same {x : Nat} {c : UInt8} (hx : x < 32768) (hc : bit c = true) (h : (c.toNat = 49 ↔ 16384 ≤ x)) : (stepC x c : Int) = (x : Int) * 2 % 32768 := by
  have hb := bit_cases hc
  have : bitN c = x / 16384 := by unfold bitN; omega
  unfold stepC
  rw [if_neg (by simpa using this)]; omega
theorem stepC_other {x : Nat} {c : UInt8} (hx : x < 32768) (hc : bit c = true) (h : ¬ (c.toNat = 49 ↔ 16384 ≤ x)) : (stepC x c : Int) = Go.bits .xor .i64 ((x : Int) * 2 % 32768) 17817 := by
  have hb := bit_cases hc
  have : ¬ bitN c = x / 16384 := by unfold bitN; omega
  unfold stepC
  rw [if_pos this]
  have := i64_xor (a := x * 2 % 32768) (b := 17817) (Nat.mod_lt _ (by decide)) (by decide)
  rw [← this]; congr 1

/-- spec.l1Bit, at a place in a text. -/
theorem specBit (s : ByteArray) (i : Nat) (w : World) (hi : i < s.size) (hs : s.size ≤ maxLen) (hb : bit (s[i]'hi) = true) :
    Calls Try.prog 70 #[.string s, .int .i64 i] w fun e w' => e = .returned (.int .i64 ((s[i]'hi).toNat - 48)) ∧ w = w' := by
  unfold maxLen at hs
  have hc := bit_cases hb
  have c1 : 48 ≤ (s[i].toNat : Int) := by omega
  have c2 : (s[i].toNat : Int) ≤ 49 := by omega
  clear hb hc
  go_enter Try.func70, Try.ntmps70
  go_wp2
  go_ret
  exact ⟨rfl, rfl⟩
/-- spec.CheckOf. -/
theorem specCheck (s : ByteArray) (w : World) (hs : s.size ≤ maxLen) :
    Calls Try.prog 63 #[.string s] w fun e w' => e = .returned (.int .i64 (crcV s)) ∧ w = w' := by
  have hs' := hs
  unfold maxLen at hs'
  cases hb : okB s with
  | false =>
    go_enter Try.func63, Try.ntmps63
    go_wp2_with (go_at_call 48; refine (specOk _ _ hs).mono ?_; rintro e w' ⟨rfl, rfl⟩)
    go_ret
    exact ⟨ret_int (crcV_no hb).symm, rfl⟩
  | true =>
    have HV := Lib.hid (crcV_yes hb)
    have HB := Lib.hid hb
    have hl := okB_size hb
    go_enter Try.func63, Try.ntmps63
    go_wp2_with (go_at_call 48; refine (specOk _ _ hs).mono ?_; rintro e w' ⟨rfl, rfl⟩)
    clear hb
    go_loop [3, 4, 5] (fun x i _ => ∃ k n : Nat, k ≤ s.size ∧ i = .int .i64 k ∧ x = .int .i64 n ∧ Hid (n = crc (s.data.toList.take k))) (fun _ i _ => s.size - (intOf i).toNat)
    case atStart => exact ⟨0, 0, Nat.zero_le _, rfl, rfl, Lib.hid rfl⟩
    case round =>
      obtain ⟨k, n, hk, rfl, rfl, HN⟩ := hrel
      have hn : n < 32768 := by rw [HN.out]; exact crc_lt _
      by_cases hlt : k < s.size
      · have hbk := okB_bit HB.out k hlt
        have hc := bit_cases hbk
        have HS : Hid (stepC n s[k] = crc (s.data.toList.take (k + 1))) := Lib.hid (by rw [take_snoc s k hlt, crc_snoc, HN.out])
        have d0 : 0 ≤ (n : Int) := by omega
        have d1 : (n : Int) ≤ 32767 := by omega
        by_cases ht : (s[k].toNat = 49 ↔ 16384 ≤ n)
        · have HC := Lib.hid (stepC_same hn hbk ht)
          have ht' : ((s[k].toNat : Int) - 48 != (n : Int) / 16384) = false := by rw [bne_eq_false_iff_eq]; omega
          have HBK := Lib.hid hbk
          clear hc hbk ht hn
          go_wp2_with (go_at_call 70; refine (specBit s k _ hlt hs HBK.out).mono ?_; rintro e w' ⟨rfl, rfl⟩)
          go_round
          case rel => exact ⟨k + 1, stepC n s[k], by omega, by go_num, by rw [HC.out], HS⟩
          case measure => simp [intOf]; omega
        · have HC := Lib.hid (stepC_other hn hbk ht)
          have ht' : ((s[k].toNat : Int) - 48 != (n : Int) / 16384) = true := by rw [bne_iff_ne]; omega
          have HBK := Lib.hid hbk
          clear hc hbk ht hn
          go_wp2_with (go_at_call 70; refine (specBit s k _ hlt hs HBK.out).mono ?_; rintro e w' ⟨rfl, rfl⟩)
          go_round
          case rel => exact ⟨k + 1, stepC n s[k], by omega, by go_num, by rw [HC.out], HS⟩
          case measure => simp [intOf]; omega
      · go_wp2
        go_ret
        exact ⟨ret_int (by rw [HV.out, ← take_all s k (by omega), HN.out]), rfl⟩

/-- impl's method of the polynomial, at a bit. -/
theorem implStep (n : Nat) (c : UInt8) (w : World) (hn : n < 32768) (hb : bit c = true) :
    Calls Try.prog 68 #[.int .i64 17817, .int .i64 n, .int .i32 c.toNat] w fun e w' => e = .returned (.int .i64 (stepC n c)) ∧ w = w' := by
  have hc := bit_cases hb
  have d0 : 0 ≤ (n : Int) := by omega
  have d1 : (n : Int) ≤ 32767 := by omega
  by_cases ht : (c.toNat = 49 ↔ 16384 ≤ n)
  · have HC := Lib.hid (stepC_same hn hb ht)
    have ht' : (((c.toNat : Int) == 49) == ((n : Int) / 16384 == 1)) = true := by
      rw [beq_iff_eq, Bool.eq_iff_iff, beq_iff_eq, beq_iff_eq]; omega
    clear hc hb ht hn
    go_enter Try.func68, Try.ntmps68
    go_wp2
    go_ret
    exact ⟨ret_int (by rw [HC.out]), rfl⟩
  · have HC := Lib.hid (stepC_other hn hb ht)
    have ht' : (((c.toNat : Int) == 49) == ((n : Int) / 16384 == 1)) = false := by
      rw [beq_eq_false_iff_ne, ne_eq, Bool.eq_iff_iff, beq_iff_eq, beq_iff_eq]; omega
    clear hc hb ht hn
    go_enter Try.func68, Try.ntmps68
    go_wp2
    go_ret
    exact ⟨ret_int (by rw [HC.out]), rfl⟩

/-- impl.CheckOf. -/
theorem implCheck (s : ByteArray) (w : World) (hs : s.size ≤ maxLen) :
    Calls Try.prog 60 #[.string s] w fun e w' => e = .returned (.int .i64 (crcV s)) ∧ Below w.heap.size w w' := by
  have hs' := hs
  unfold maxLen at hs'
  cases hb : okB s with
  | false =>
    go_enter Try.func60, Try.ntmps60
    go_wp2_with (go_at_call 39; refine (implOk _ _ hs).mono ?_; rintro e w1 ⟨rfl, hb1⟩)
    go_ret
    exact ⟨ret_int (crcV_no hb).symm, ‹_›⟩
  | true =>
    have HV := Lib.hid (crcV_yes hb)
    have HB := Lib.hid hb
    have hl := okB_size hb
    go_enter Try.func60, Try.ntmps60
    go_wp2_with (go_at_call 39; refine (implOk _ _ hs).mono ?_; rintro e w1 ⟨rfl, hb1⟩)
    have hb1 : Below w.heap.size w w1 := by assumption
    clear hb
    go_loopw [4, 6] (fun x _ wr => ∃ k n : Nat, k ≤ s.size ∧ wr = w1.iter s k ∧ x = .int .i64 n ∧ Hid (n = crc (s.data.toList.take k))) (fun _ _ wr => s.size - wr.iterPos w1.heap.size)
    case atStart => exact ⟨0, 0, Nat.zero_le _, rfl, rfl, Lib.hid rfl⟩
    case round =>
      obtain ⟨k, n, hk, rfl, rfl, HN⟩ := hrel
      have hn : n < 32768 := by rw [HN.out]; exact crc_lt _
      by_cases hlt : k < s.size
      · have hbk := okB_bit HB.out k hlt
        have hc := bit_cases hbk
        have HS : Hid (stepC n s[k] = crc (s.data.toList.take (k + 1))) := Lib.hid (by rw [take_snoc s k hlt, crc_snoc, HN.out])
        have c1 : 48 ≤ (s[k].toNat : Int) := by omega
        have c2 : (s[k].toNat : Int) ≤ 49 := by omega
        have hnx : ∀ ty, (Instr.next (.pointer (some ⟨w1.heap.size, 0, none⟩)) true ty).run Try.prog (w1.iter s k) = _ := fun ty => run_next_ascii w1 s k ty hlt (by omega)
        have HBK := Lib.hid hbk
        have HNN := Lib.hid hn
        clear hc hbk hn
        go_wp2_with fail
        refine (implStep n s[k] _ HNN.out HBK.out).mono ?_
        rintro e w' ⟨rfl, rfl⟩
        go_wp2_with fail
        go_roundw
        case rel => exact ⟨k + 1, stepC n s[k], by omega, rfl, rfl, HS⟩
        case measure => simp; omega
      · have hnx : ∀ ty, (Instr.next (.pointer (some ⟨w1.heap.size, 0, none⟩)) true ty).run Try.prog (w1.iter s k) = _ := fun ty => run_next_end w1 s k ty hlt
        go_wp2
        go_ret
        exact ⟨ret_int (by rw [HV.out, ← take_all s k (by omega), HN.out]), hb1.trans ((below_iter w1 s k).mono hb1.size)⟩

end Go.Proofs.Ythhhhfpgmolcmab
