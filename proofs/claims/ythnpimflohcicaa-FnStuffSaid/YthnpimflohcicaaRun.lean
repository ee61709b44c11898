/- Contracts of RunOf, of the program and of the model: at every text both answer runV of it. -/
import Derived.Test.YthnpimflohcicaaOk
import Derived.Deep.QuietTactic
import Derived.BigQuiet
import Derived.IntWalk
import Derived.WalkSmall
namespace Go.Proofs.Ythnpimflohcicaa
open Go.RowKit

/-- impl.RunOf. -/
theorem implRun (s : ByteArray) (w : World) (hs : s.size ≤ maxLen) :
    Calls Try.prog 15 #[.string s] w fun e w' => e = .returned (.int .i64 (runV s)) ∧ Below w.heap.size w w' := by
  have hs' := hs
  unfold maxLen at hs'
  cases hb : okB s with
  | false =>
    go_enter Try.func15, Try.ntmps15
    go_wp2_with (go_at_call 21; refine (implOk _ _ hs).mono ?_; rintro e w1 ⟨rfl, hb1⟩)
    go_ret
    exact ⟨ret_int (runV_no hb).symm, ‹_›⟩
  | true =>
    have HV := Lib.hid (runV_yes hb)
    have hl := okB_size hb
    go_enter Try.func15, Try.ntmps15
    go_wp2_with (go_at_call 21; refine (implOk _ _ hs).mono ?_; rintro e w1 ⟨rfl, hb1⟩)
    have hb1 : Below w.heap.size w w1 := by assumption
    go_loopw [3, 4, 6] (fun last n _ wr => ∃ k : Nat, k ≤ s.size ∧ wr = w1.iter s k ∧ last = .int .i32 (lastC (s.data.toList.take k)) ∧ n = .int .i64 (run (s.data.toList.take k))) (fun _ _ _ wr => s.size - wr.iterPos w1.heap.size)
    case atStart => exact ⟨0, Nat.zero_le _, rfl, rfl, rfl⟩
    case round =>
      obtain ⟨k, hk, rfl, rfl, rfl⟩ := hrel
      by_cases hlt : k < s.size
      · have hc := bit_cases (okB_bit hb k hlt)
        have hrl : run (s.data.toList.take k) ≤ k := Nat.le_trans (run_le _) (List.length_take_le _ _)
        have HT := Lib.hid (take_snoc s k hlt)
        have HL : Hid (lastC (s.data.toList.take (k + 1)) = (s[k].toNat : Int)) := by rw [HT.out]; exact lastC_snoc _ _
        have c1 : 48 ≤ (s[k].toNat : Int) := by omega
        have c2 : (s[k].toNat : Int) ≤ 49 := by omega
        have hnx : ∀ ty, (Instr.next (.pointer (some ⟨w1.heap.size, 0, none⟩)) true ty).run Try.prog (w1.iter s k) = _ := fun ty => run_next_ascii w1 s k ty hlt (by omega)
        have hnz : s[k].toNat ≠ 0 := by omega
        clear hb hc
        by_cases he : (s[k].toNat : Int) = lastC (s.data.toList.take k)
        · have HR : Hid (run (s.data.toList.take (k + 1)) = run (s.data.toList.take k) + 1) := by rw [HT.out]; exact run_same he.symm hnz
          have he' : ((s[k].toNat : Int) != lastC (s.data.toList.take k)) = false := by simp [he]
          clear he hnz
          go_wp2
          go_roundw
          case rel => exact ⟨k + 1, by omega, rfl, by rw [HL.out], by rw [HR.out]; go_num⟩
          case measure => simp; omega
        · have HR : Hid (run (s.data.toList.take (k + 1)) = 1) := by rw [HT.out]; exact run_other (Ne.symm he)
          have he' : ((s[k].toNat : Int) != lastC (s.data.toList.take k)) = true := by simpa using he
          clear he hnz
          go_wp2
          go_roundw
          case rel => exact ⟨k + 1, by omega, rfl, by rw [HL.out], by rw [HR.out]; rfl⟩
          case measure => simp; omega
      · have hnx : ∀ ty, (Instr.next (.pointer (some ⟨w1.heap.size, 0, none⟩)) true ty).run Try.prog (w1.iter s k) = _ := fun ty => run_next_end w1 s k ty hlt
        clear hb
        go_wp2
        go_ret
        exact ⟨ret_int (by rw [HV.out, take_all s k (by omega)]), hb1.trans ((below_iter w1 s k).mono hb1.size)⟩

end Go.Proofs.Ythnpimflohcicaa
