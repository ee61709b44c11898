/- laws.markText: a text for a number. -/
import Derived.Test.YtjlegnnekjcpmaaGreatM11
import Derived.Deep.CutRange
set_option linter.unusedVariables false
set_option linter.unusedSimpArgs false
set_option maxRecDepth 20000
namespace Go.Proofs.YtjlegnnekjcpmaaGreat
open Go.RowKit

/-- The digits put ahead of what is there. -/
def mtV : Nat → Nat → ByteArray → ByteArray
  | 0, _, out => out
  | fuel + 1, k, out => if k = 0 then out else mtV fuel (k / 10) (⟨#[UInt8.ofNat (48 + k % 10)]⟩ ++ out)
theorem mtV_zero (f : Nat) (out : ByteArray) : mtV f 0 out = out := by cases f <;> simp [mtV]
def markS (k : Int) : ByteArray := ⟨#[109]⟩ ++ mtV k.toNat k.toNat ⟨#[]⟩

set_option maxHeartbeats 4000000 in
/-- laws.markText. -/
theorem markTextV (k : Int) (w : World) (h0 : 0 < k) (h1 : k ≤ 90000000) :
    Calls Tryz.prog 113 #[.int .i64 k] w fun e w' => e = .returned (.string (markS k)) ∧ Below w.heap.size w w' := by
  have HV : Hid (markS k = ⟨#[109]⟩ ++ mtV k.toNat k.toNat ⟨#[]⟩) := Lib.hid rfl
  have hk : k = ((k.toNat : Nat) : Int) := by omega
  have hb : k.toNat ≤ 90000000 := by omega
  have hp : 0 < k.toNat := by omega
  generalize k.toNat = m at *
  subst hk
  clear h0 h1
  go_enter Tryz.func113, Tryz.ntmps113
  go_wp2_with fail
  go_loopw [0, 3] (fun n s wr => ∃ (f q : Nat) (out : ByteArray), n = .int .i64 (q : Int) ∧ s = .string out ∧ q ≤ f ∧ mtV f q out = mtV m m ⟨#[]⟩ ∧ q * 10 ^ out.size ≤ 90000000 ∧ out.size ≤ 8 ∧ Below w.heap.size w wr) (fun n _ _ => (intOf n).toNat)
  case atStart => exact ⟨m, m, ⟨#[]⟩, rfl, rfl, Nat.le_refl _, rfl, by rw [show (ByteArray.size ⟨#[]⟩) = 0 from rfl]; simpa using hb, by decide, Below.refl _ _⟩
  case round =>
    obtain ⟨f, q, out, rfl, rfl, hf, hv, hq, hs, b⟩ := hrel
    have hq9 : q ≤ 90000000 := Nat.le_trans (Nat.le_mul_of_pos_right q (Nat.pow_pos (by decide))) hq
    replace hv := Lib.hid hv
    by_cases hz : q = 0
    · subst hz
      have hc : ¬ 9223372036854775807 < 1 + out.size := by omega
      have hV : markS (m : Int) = ⟨#[109]⟩ ++ out := by have h := hv.out; rw [mtV_zero] at h; rw [HV.out, ← h]
      clear hv hq HV
      go_wp2_with fail
      go_ret
      exact ⟨by rw [hV]; rfl, b⟩
    · have hq0 : 0 < q := by omega
      have hs7 : out.size ≤ 7 := by
        rcases Nat.lt_or_ge 7 out.size with h | h
        · have h1 : 10 ^ 8 ≤ 10 ^ out.size := Nat.pow_le_pow_right (by decide) h
          have h2 : 1 * 10 ^ out.size ≤ q * 10 ^ out.size := Nat.mul_le_mul_right _ hq0
          omega
        · exact h
      obtain ⟨f, rfl⟩ : ∃ f', f = f' + 1 := ⟨f - 1, by omega⟩
      have hw1 : IntKind.i64.wrap ((q : Int) / 10) = ((q / 10 : Nat) : Int) := by rw [IntWalk.i64_in _ (by omega)]; omega
      have hc : ¬ 9223372036854775807 < 1 + out.size := by omega
      have hv2 : Hid (mtV f (q / 10) (⟨#[UInt8.ofNat (48 + q % 10)]⟩ ++ out) = mtV m m ⟨#[]⟩) := by
        have h := hv.out
        rw [mtV, if_neg hz] at h
        exact Lib.hid h
      have hq2 : q / 10 * 10 ^ (1 + out.size) ≤ 90000000 := by
        rw [Nat.add_comm, Nat.pow_succ, Nat.mul_comm (10 ^ out.size) 10, ← Nat.mul_assoc]
        exact Nat.le_trans (Nat.mul_le_mul_right _ (Nat.div_mul_le_self q 10)) hq
      clear hv hq
      have hcv := run_convert_bytes_arg (P := Tryz.prog) (wr.alloc (.cells #[.int .u8 (48 + (q : Int) % 10)] 5)) 73 5 Tryz.underlying73 Tryz.underlying5 wr.heap.size 0 1 1 [48 + (q : Int) % 10] rfl
        (by
          intro i hi
          obtain rfl : i = 0 := by omega
          rw [World.cell?_alloc_at _ _ _ _ rfl]
          rfl) 9 Tryz.underlying9
      have hso : strOfNums [48 + (q : Int) % 10] = ⟨#[UInt8.ofNat (48 + q % 10)]⟩ := by
        have ht : (48 + (q : Int) % 10).toNat = 48 + q % 10 := by omega
        simp [strOfNums, ht]
      rw [hso] at hcv
      have hz1 : (⟨#[UInt8.ofNat (48 + q % 10)]⟩ : ByteArray).size = 1 := rfl
      generalize hd : (⟨#[UInt8.ofNat (48 + q % 10)]⟩ : ByteArray) = d at *
      replace hd := Lib.hid hd
      have hc1 : ¬ 9223372036854775807 < d.size + out.size := by omega
      go_wp2_with fail
      go_roundw
      case rel => exact ⟨f, q / 10, d ++ out, rfl, rfl, by omega, hv2.out, by rw [ByteArray.size_append, hz1]; exact hq2, by rw [ByteArray.size_append, hz1]; omega, below_more b _⟩
      case measure => simp [intOf]; omega
end Go.Proofs.YtjlegnnekjcpmaaGreat

