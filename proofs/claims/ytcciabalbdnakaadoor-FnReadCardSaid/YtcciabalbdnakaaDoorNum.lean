/- Contracts of NumberOf, of the program and of the model: at every text both answer numV of it and whether it is a number's text. -/
import Derived.Test.YtcciabalbdnakaaDoorOk
set_option maxRecDepth 20000
namespace Go.Proofs.YtcciabalbdnakaaDoor
open Go.RowKit

/-- spec.NumberOf. -/
theorem specNum (s : ByteArray) (w : World) (hs : s.size ≤ maxLen) :
    Calls Tryd.prog 42 #[.string s] w fun e w' => e = .returned (.tuple #[.int .i64 (numV s), .bool (numOk s)]) ∧ w = w' := by
  have hs' := hs
  unfold maxLen at hs'
  cases hb : okB s with
  | false =>
    go_enter Tryd.func42, Tryd.ntmps42
    go_wp2_with (go_at_call 45; refine (specOk _ _ hs).mono ?_; rintro e w' ⟨rfl, rfl⟩)
    go_ret2
    exact ⟨ret_num (numV_no (numOk_no hb)).symm (numOk_no hb).symm, rfl⟩
  | true =>
    have hl := okB_size hb
    by_cases h32 : 32 < s.size
    · go_enter Tryd.func42, Tryd.ntmps42
      go_wp2_with (go_at_call 45; refine (specOk _ _ hs).mono ?_; rintro e w' ⟨rfl, rfl⟩)
      go_ret2
      exact ⟨ret_num (numV_no (numOk_long h32)).symm (numOk_long h32).symm, rfl⟩
    · have HV := Lib.hid (numV_yes (numOk_yes hb (by omega)))
      have HO := Lib.hid (numOk_yes hb (by omega))
      have HB := Lib.hid hb
      go_enter Tryd.func42, Tryd.ntmps42
      go_wp2_with (go_at_call 45; refine (specOk _ _ hs).mono ?_; rintro e w' ⟨rfl, rfl⟩)
      go_loop [4, 5] (fun n i => ∃ k : Nat, k ≤ s.size ∧ i = .int .i64 k ∧ n = .int .i64 (num (s.data.toList.take k))) (fun _ i => s.size - (intOf i).toNat)
      case atStart => exact ⟨0, Nat.zero_le _, rfl, rfl⟩
      case round =>
        obtain ⟨k, hk, rfl, rfl⟩ := hrel
        by_cases hlt : k < s.size
        · have hc := bit_cases (okB_bit hb k hlt)
          have HS := Lib.hid (num_snoc (s.data.toList.take k) s[k])
          have HT := Lib.hid (take_snoc s k hlt)
          obtain ⟨m1, m2⟩ := num_take_bd hb (by omega) k
          have c1 : 48 ≤ (s[k].toNat : Int) := by omega
          have c2 : (s[k].toNat : Int) ≤ 49 := by omega
          clear hb hc
          go_wp2
          go_round
          case rel => exact ⟨k + 1, by omega, by go_num, by rw [HT.out, HS.out]⟩
          case measure => simp [intOf]; omega
        · clear hb
          go_wp2
          go_ret2
          exact ⟨ret_num (by rw [HV.out, take_all s k (by omega)]) HO.out.symm, rfl⟩

/-- impl.NumberOf. -/
theorem implNum (s : ByteArray) (w : World) (hs : s.size ≤ maxLen) :
    Calls Tryd.prog 58 #[.string s] w fun e w' => e = .returned (.tuple #[.int .i64 (numV s), .bool (numOk s)]) ∧ Below w.heap.size w w' := by
  have hs' := hs
  unfold maxLen at hs'
  by_cases h32 : 32 < s.size
  · go_enter Tryd.func58, Tryd.ntmps58
    go_wp2
    go_ret2
    exact ⟨ret_num (numV_no (numOk_long h32)).symm (numOk_long h32).symm, Below.refl _ _⟩
  · cases hb : okB s with
    | false =>
      go_enter Tryd.func58, Tryd.ntmps58
      go_wp2_with (go_at_call 19; refine (implOk _ _ hs).mono ?_; rintro e w1 ⟨rfl, hb1⟩)
      go_ret2
      exact ⟨ret_num (numV_no (numOk_no hb)).symm (numOk_no hb).symm, ‹_›⟩
    | true =>
      have HV := Lib.hid (numV_yes (numOk_yes hb (by omega)))
      have HO := Lib.hid (numOk_yes hb (by omega))
      go_enter Tryd.func58, Tryd.ntmps58
      go_wp2_with (go_at_call 19; refine (implOk _ _ hs).mono ?_; rintro e w1 ⟨rfl, hb1⟩)
      have hb1 : Below w.heap.size w w1 := by assumption
      go_loopw [4, 6] (fun n _ wr => ∃ k : Nat, k ≤ s.size ∧ wr = w1.iter s k ∧ n = .int .i64 (num (s.data.toList.take k))) (fun _ _ wr => s.size - wr.iterPos w1.heap.size)
      case atStart => exact ⟨0, Nat.zero_le _, rfl, rfl⟩
      case round =>
        obtain ⟨k, hk, rfl, rfl⟩ := hrel
        by_cases hlt : k < s.size
        · have hc := bit_cases (okB_bit hb k hlt)
          have HS := Lib.hid (num_snoc (s.data.toList.take k) s[k])
          have HT := Lib.hid (take_snoc s k hlt)
          obtain ⟨m1, m2⟩ := num_take_bd hb (by omega) k
          have c1 : 48 ≤ (s[k].toNat : Int) := by omega
          have c2 : (s[k].toNat : Int) ≤ 49 := by omega
          have hnx : ∀ ty, (Instr.next (.pointer (some ⟨w1.heap.size, 0, none⟩)) true ty).run Tryd.prog (w1.iter s k) = _ := fun ty => run_next_ascii w1 s k ty hlt (by omega)
          clear hb hc
          go_wp2
          go_roundw
          case rel => exact ⟨k + 1, by omega, rfl, by rw [HT.out, HS.out, Int.mul_comm]⟩
          case measure => simp; omega
        · have hnx : ∀ ty, (Instr.next (.pointer (some ⟨w1.heap.size, 0, none⟩)) true ty).run Tryd.prog (w1.iter s k) = _ := fun ty => run_next_end w1 s k ty hlt
          clear hb
          go_wp2
          go_ret2
          exact ⟨ret_num (by rw [HV.out, take_all s k (by omega)]) HO.out.symm, hb1.trans ((below_iter w1 s k).mono hb1.size)⟩

end Go.Proofs.YtcciabalbdnakaaDoor
