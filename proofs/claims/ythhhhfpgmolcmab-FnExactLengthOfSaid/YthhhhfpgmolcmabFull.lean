/- A right frame's bits with their check, plain: they are bits, and how many. -/
import Derived.Test.YthhhhfpgmolcmabFrames
import Derived.Test.YthhhhfpgmolcmabDigs
namespace Go.Proofs.Ythhhhfpgmolcmab
open Go.RowKit

def fullV (id : Int) (rm : Bool) (ln : Int) (D : List Int) : ByteArray := withV (bodyV id rm ln D)

theorem flat_bits : ∀ (D : List Int), D.all byOk = true → ∀ c ∈ (D.flatMap fun b => (ofS b 8).data.toList), bit c = true
  | [], _, c, hc => by cases hc
  | b :: D, h, c, hc => by
    simp only [List.all_cons, Bool.and_eq_true] at h
    rw [List.flatMap_cons, List.mem_append] at hc
    rcases hc with hc | hc
    · have hb : 0 ≤ b ∧ b ≤ 255 := by have := h.1; simp only [byOk, Bool.and_eq_true, decide_eq_true_eq] at this; exact this
      exact mem_bit (facts (n := b) (c := 8) (by omega) hb.1 (by omega)).2.1 c hc
    · exact flat_bits D h.2 c hc
theorem headS_bits {id : Int} {rm : Bool} {ln : Int} (h : 0 ≤ id ∧ id ≤ 2047 ∧ 0 ≤ ln ∧ ln ≤ 8) : ∀ c ∈ (headS id rm ln).data.toList, bit c = true := by
  intro c hc
  unfold headS at hc
  rw [headX_list] at hc
  simp only [List.mem_append, List.mem_cons, List.not_mem_nil, or_false] at hc
  rcases hc with (((hc | hc) | hc) | hc) | hc
  · subst hc; decide
  · exact mem_bit (facts (n := id) (c := 11) (by omega) h.1 (by omega)).2.1 c hc
  · subst hc; cases rm <;> decide
  · rcases hc with rfl | rfl <;> decide
  · exact mem_bit (facts (n := ln) (c := 4) (by omega) h.2.2.1 (by omega)).2.1 c hc
theorem body_ok {id : Int} {rm : Bool} {ln : Int} {D : List Int} (h : frOk id rm ln D = true) : okB (bodyV id rm ln D) = true := by
  obtain ⟨h1, h2, h3⟩ := frOk_spec h
  have hl := frOk_len h
  rw [okB_iff, body_size h]
  refine ⟨by omega, ?_⟩
  intro c hc
  rw [body_list h, List.mem_append] at hc
  rcases hc with hc | hc
  · exact headS_bits h1 c hc
  · exact flat_bits D h3 c hc
theorem body_with {id : Int} {rm : Bool} {ln : Int} {D : List Int} (h : frOk id rm ln D = true) : withOk (bodyV id rm ln D) = true := by
  have hl := frOk_len h
  exact withOk_yes (body_ok h) (by rw [body_size h]; omega)
theorem full_size {id : Int} {rm : Bool} {ln : Int} {D : List Int} (h : frOk id rm ln D = true) : (fullV id rm ln D).size = 34 + 8 * D.length := by
  rw [fullV, withV_yes (body_with h), ByteArray.size_append, body_size h, (tail15 _).1]
  omega
theorem full_ok {id : Int} {rm : Bool} {ln : Int} {D : List Int} (h : frOk id rm ln D = true) : okB (fullV id rm ln D) = true := by
  have hl := frOk_len h
  rw [fullV, withV_yes (body_with h), okB_with (body_ok h), decide_eq_true_eq, body_size h]
  omega
theorem full_len (id : Int) (rm : Bool) (ln : Int) (D : List Int) : (fullV id rm ln D).size ≤ 98 := by
  cases h : frOk id rm ln D with
  | true => have := frOk_len h; rw [full_size h]; omega
  | false =>
    have e : (fullV id rm ln D) = withV ByteArray.empty := by rw [fullV, bodyV_no h]
    have e2 : withOk ByteArray.empty = true := by decide
    rw [e, withV_yes e2, ByteArray.size_append, (tail15 _).1]
    decide

end Go.Proofs.Ythhhhfpgmolcmab
