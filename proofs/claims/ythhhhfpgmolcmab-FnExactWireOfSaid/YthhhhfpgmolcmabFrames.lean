/- Frames as bits, plain: how long a body is, what stands at its front, and that two right frames of one body are one frame. -/
import Derived.Test.YthhhhfpgmolcmabBody
import Derived.Test.YthhhhfpgmolcmabSpSame
namespace Go.Proofs.Ythhhhfpgmolcmab
open Go.RowKit

theorem ofs11 {n : Int} (h0 : 0 ≤ n) (h : n ≤ 2047) : (ofS n 11).size = 11 ∧ numV (ofS n 11) = n := by
  have hp : n < 2 ^ 11 := by omega
  obtain ⟨f1, _, _, f4⟩ := facts (n := n) (c := 11) (by omega) h0 hp
  have e : ((11 : Nat) : Int) = 11 := rfl
  rw [e] at f1 f4
  exact ⟨f1, f4⟩
theorem ofs4 {n : Int} (h0 : 0 ≤ n) (h : n ≤ 8) : (ofS n 4).size = 4 ∧ numV (ofS n 4) = n := by
  have hp : n < 2 ^ 4 := by omega
  obtain ⟨f1, _, _, f4⟩ := facts (n := n) (c := 4) (by omega) h0 hp
  have e : ((4 : Nat) : Int) = 4 := rfl
  rw [e] at f1 f4
  exact ⟨f1, f4⟩
theorem ofs8 {n : Int} (h : byOk n = true) : (ofS n 8).size = 8 ∧ numV (ofS n 8) = n := by
  simp only [byOk, Bool.and_eq_true, decide_eq_true_eq] at h
  have hp : n < 2 ^ 8 := by omega
  obtain ⟨f1, _, _, f4⟩ := facts (n := n) (c := 8) (by omega) h.1 hp
  have e : ((8 : Nat) : Int) = 8 := rfl
  rw [e] at f1 f4
  exact ⟨f1, f4⟩

theorem frOk_spec {id : Int} {rm : Bool} {ln : Int} {D : List Int} (h : frOk id rm ln D = true) : (0 ≤ id ∧ id ≤ 2047 ∧ 0 ≤ ln ∧ ln ≤ 8) ∧ (D.length : Int) = (if rm = true then 0 else ln) ∧ D.all byOk = true := by
  simp only [frOk, inR, Bool.and_eq_true, decide_eq_true_eq] at h
  exact ⟨⟨h.1.1.1.1.1, h.1.1.1.1.2, h.1.1.1.2, h.1.1.2⟩, h.1.2, h.2⟩

theorem len_list (s : ByteArray) : s.data.toList.length = s.size := rfl
theorem headX_list (x : ByteArray) (rm : Bool) (y : ByteArray) : (headX x rm y).data.toList = [48] ++ x.data.toList ++ [if rm = true then 49 else 48] ++ [48, 48] ++ y.data.toList := by
  unfold headX
  cases rm <;> simp
theorem headS_19 {id : Int} {rm : Bool} {ln : Int} (h : 0 ≤ id ∧ id ≤ 2047 ∧ 0 ≤ ln ∧ ln ≤ 8) : (headS id rm ln).size = 19 := by
  have h1 := (ofs11 h.1 h.2.1).1
  have h2 := (ofs4 h.2.2.1 h.2.2.2).1
  rw [← len_list, headS, headX_list]
  simp only [List.length_append, List.length_singleton, len_list, h1, h2]
  rfl
theorem headS_inj {i0 i1 : Int} {r0 r1 : Bool} {l0 l1 : Int} (h0 : 0 ≤ i0 ∧ i0 ≤ 2047 ∧ 0 ≤ l0 ∧ l0 ≤ 8) (h1 : 0 ≤ i1 ∧ i1 ≤ 2047 ∧ 0 ≤ l1 ∧ l1 ≤ 8)
    (h : (headS i0 r0 l0).data.toList = (headS i1 r1 l1).data.toList) : i0 = i1 ∧ r0 = r1 ∧ l0 = l1 := by
  obtain ⟨a1, a2⟩ := ofs11 h0.1 h0.2.1
  obtain ⟨b1, b2⟩ := ofs4 h0.2.2.1 h0.2.2.2
  obtain ⟨c1, c2⟩ := ofs11 h1.1 h1.2.1
  obtain ⟨d1, d2⟩ := ofs4 h1.2.2.1 h1.2.2.2
  rw [headS, headS, headX_list, headX_list] at h
  obtain ⟨h, ey⟩ := List.append_inj' h (by rw [len_list, len_list, b1, d1])
  obtain ⟨h, _⟩ := List.append_inj' h rfl
  obtain ⟨h, er⟩ := List.append_inj' h rfl
  obtain ⟨_, ex⟩ := List.append_inj' h (by rw [len_list, len_list, a1, c1])
  have e1 : i0 = i1 := by rw [← a2, ← c2, ba_inj ex]
  have e2 : l0 = l1 := by rw [← b2, ← d2, ba_inj ey]
  refine ⟨e1, ?_, e2⟩
  cases r0 <;> cases r1 <;> simp at er ⊢

theorem flat_len : ∀ (D : List Int), D.all byOk = true → (D.flatMap fun b => (ofS b 8).data.toList).length = 8 * D.length
  | [], _ => rfl
  | b :: D, h => by
    simp only [List.all_cons, Bool.and_eq_true] at h
    rw [List.flatMap_cons, List.length_append, flat_len D h.2, len_list, (ofs8 h.1).1, List.length_cons]
    omega
theorem flat_inj : ∀ (D E : List Int), D.all byOk = true → E.all byOk = true → (D.flatMap fun b => (ofS b 8).data.toList) = (E.flatMap fun b => (ofS b 8).data.toList) → D = E
  | [], [], _, _, _ => rfl
  | [], e :: E, _, hE, h => by
    have h1 := flat_len (e :: E) hE
    rw [← h] at h1
    simp at h1
  | d :: D, [], hD, _, h => by
    have h1 := flat_len (d :: D) hD
    rw [h] at h1
    simp at h1
  | d :: D, e :: E, hD, hE, h => by
    simp only [List.all_cons, Bool.and_eq_true] at hD hE
    rw [List.flatMap_cons, List.flatMap_cons] at h
    obtain ⟨h1, h2⟩ := List.append_inj h (by rw [len_list, len_list, (ofs8 hD.1).1, (ofs8 hE.1).1])
    have e1 : d = e := by rw [← (ofs8 hD.1).2, ← (ofs8 hE.1).2, ba_inj h1]
    rw [e1, flat_inj D E hD.2 hE.2 h2]

theorem body_list {id : Int} {rm : Bool} {ln : Int} {D : List Int} (h : frOk id rm ln D = true) : (bodyV id rm ln D).data.toList = (headS id rm ln).data.toList ++ D.flatMap fun b => (ofS b 8).data.toList := by
  rw [bodyV_yes h, uptoB, upto, List.take_length]
theorem body_size {id : Int} {rm : Bool} {ln : Int} {D : List Int} (h : frOk id rm ln D = true) : (bodyV id rm ln D).size = 19 + 8 * D.length := by
  obtain ⟨h1, h2, h3⟩ := frOk_spec h
  rw [← len_list, body_list h, List.length_append, flat_len D h3, len_list, headS_19 h1]
theorem body_head {id : Int} {rm : Bool} {ln : Int} {D : List Int} (h : frOk id rm ln D = true) : (bodyV id rm ln D).extract 0 19 = headV id rm ln D := by
  obtain ⟨h1, h2, h3⟩ := frOk_spec h
  apply ba_inj
  have h19 := headS_19 (rm := rm) h1
  rw [front_list, body_list h, headV_yes h, List.take_left' (by rw [len_list, h19])]
theorem body_same {i0 : Int} {r0 : Bool} {l0 : Int} {D0 : List Int} {i1 : Int} {r1 : Bool} {l1 : Int} {D1 : List Int} (h0 : frOk i0 r0 l0 D0 = true) :
    ((bodyV i0 r0 l0 D0).toList == (bodyV i1 r1 l1 D1).toList) = sameFr i0 r0 l0 D0 i1 r1 l1 D1 := by
  rw [teq]
  obtain ⟨a1, a2, a3⟩ := frOk_spec h0
  cases h1 : frOk i1 r1 l1 D1 with
  | false =>
    have hne : ¬ bodyV i0 r0 l0 D0 = bodyV i1 r1 l1 D1 := by
      intro e
      have h2 := body_size h0
      rw [e, bodyV_no h1] at h2
      have : ByteArray.empty.size = 0 := rfl
      omega
    rw [decide_eq_false hne]
    symm
    rw [Bool.eq_false_iff]
    intro e
    simp only [sameFr, Bool.and_eq_true, decide_eq_true_eq] at e
    obtain ⟨⟨⟨rfl, rfl⟩, rfl⟩, rfl⟩ := e
    rw [h0] at h1
    cases h1
  | true =>
    obtain ⟨b1, b2, b3⟩ := frOk_spec h1
    rw [Bool.eq_iff_iff, decide_eq_true_eq]
    simp only [sameFr, Bool.and_eq_true, decide_eq_true_eq]
    constructor
    · intro e
      have e' : (bodyV i0 r0 l0 D0).data.toList = (bodyV i1 r1 l1 D1).data.toList := by rw [e]
      rw [body_list h0, body_list h1] at e'
      obtain ⟨eh, ed⟩ := List.append_inj e' (by rw [len_list, len_list, headS_19 a1, headS_19 b1])
      obtain ⟨e1, e2, e3⟩ := headS_inj a1 b1 eh
      exact ⟨⟨⟨e1, e2⟩, e3⟩, flat_inj D0 D1 a3 b3 ed⟩
    · rintro ⟨⟨⟨rfl, rfl⟩, rfl⟩, rfl⟩
      rfl
end Go.Proofs.Ythhhhfpgmolcmab
