/- Contracts of the laws' draws of bits and of a bit turned over, and of the model's draw of a text with its check. -/
import Derived.Test.YthnpimflohcicaaDice
import Derived.Test.YthnpimflohcicaaDigs
set_option linter.unusedSimpArgs false
set_option linter.unusedVariables false
namespace Go.Proofs.Ythnpimflohcicaa
open Go.RowKit

/-- What a throw of bits leaves: N bits; nothing but the cursor has been written. -/
def ThrownBits (B p : Nat) (a : Option Addr) (len cap : Nat) (N : Nat) (w : World) (e : Ending) (w' : World) : Prop :=
  ∃ t : ByteArray, t.size = N ∧ okB t = true ∧ e = .returned (.string t) ∧ w.grownBy w' (some p) ∧ Dt B p a len cap w'

theorem okB_more {t : ByteArray} {c : UInt8} (h : okB t = true) (hc : bit c = true) (hl : t.size < 400) : okB (t ++ ⟨#[c]⟩) = true := by
  have hz : (⟨#[c]⟩ : ByteArray).size = 1 := rfl
  have h1 : okB ⟨#[c]⟩ = true := (okB_iff _).2 ⟨by rw [hz]; omega, fun x hx => by simp at hx; subst hx; exact hc⟩
  rw [okB_append h h1, hz, decide_eq_true_eq]; omega
theorem okB_last {t : ByteArray} (h : okB t = true) (h0 : 0 < t.size) (hl : t.size < 400) : okB (t ++ t.extract (t.size - 1) t.size) = true := by
  have hp := (okB_parts h (t.size - 1) (by omega)).2
  have hz := size_back t (t.size - 1)
  rw [okB_append h hp, hz, decide_eq_true_eq]; omega

/-- laws.bits. -/
theorem throwBits {B p : Nat} {a : Option Addr} {len cap : Nat} (N : Nat) (w : World) (hN : N ≤ 400) (st : Dt B p a len cap w) :
    Calls Try.prog 10 #[.pointer (some ⟨p, 0, none⟩), .int .i64 N] w (ThrownBits B p a len cap N w) := by
  go_enter Try.func10, Try.ntmps10
  go_wp2_with fail
  go_loopw [1, 5] (fun k s wr => ∃ (i : Nat) (t : ByteArray), k = .int .i64 i ∧ s = .string t ∧ i + t.size = N ∧ Hid (okB t = true) ∧ w.grownBy wr (some p) ∧ Dt B p a len cap wr) (fun k _ _ => (intOf k).toNat)
  case atStart => exact ⟨N, ByteArray.empty, rfl, rfl, by simp, Lib.hid (by decide), grown_refl _ _, st⟩
  case round =>
    obtain ⟨i, t, rfl, rfl, ht, HO, gr, sr⟩ := hrel
    by_cases hlt : 0 < i
    · by_cases h0 : 0 < t.size
      · go_wp2_with fail
        refine (throwAny (B := B) (a := a) (len := len) (cap := cap) 2 _ (by omega) (by omega) sr).mono ?_
        rintro e w1 ⟨b1, b10, b11, rfl, g1, s1⟩
        have hb1 : b1 = 0 ∨ b1 = 1 := by omega
        rcases hb1 with rfl | rfl
        · go_wp2_with fail
          go_roundw
          case rel => exact ⟨i - 1, _, by go_num, rfl, by rw [size_last _ h0]; omega, Lib.hid (okB_last HO.out h0 (by omega)), grown_trans gr g1, s1⟩
          case measure => simp [intOf]; omega
        · go_wp2_with fail
          refine (throwAny (B := B) (a := a) (len := len) (cap := cap) 2 _ (by omega) (by omega) s1).mono ?_
          rintro e w2 ⟨b2, b20, b21, rfl, g2, s2⟩
          have hb2 : b2 = 0 ∨ b2 = 1 := by omega
          rcases hb2 with rfl | rfl <;> (
            go_wp2_with fail
            go_roundw
            case rel => exact ⟨i - 1, _, by go_num, rfl, by rw [ByteArray.size_append]; show i - 1 + (t.size + 1) = N; omega, Lib.hid (okB_more HO.out (by decide) (by omega)), grown_trans (grown_trans gr g1) g2, s2⟩
            case measure => simp [intOf]; omega)
      · go_wp2_with fail
        refine (throwAny (B := B) (a := a) (len := len) (cap := cap) 2 _ (by omega) (by omega) sr).mono ?_
        rintro e w2 ⟨b2, b20, b21, rfl, g2, s2⟩
        have hb2 : b2 = 0 ∨ b2 = 1 := by omega
        rcases hb2 with rfl | rfl <;> (
            go_wp2_with fail
            go_roundw
            case rel => exact ⟨i - 1, _, by go_num, rfl, by rw [ByteArray.size_append]; show i - 1 + (t.size + 1) = N; omega, Lib.hid (okB_more HO.out (by decide) (by omega)), grown_trans gr g2, s2⟩
            case measure => simp [intOf]; omega)
    · obtain rfl : i = 0 := by omega
      go_wp2_with fail
      go_ret
      exact ⟨t, by omega, HO.out, rfl, gr, sr⟩


end Go.Proofs.Ythnpimflohcicaa
