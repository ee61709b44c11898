/- Contracts of BodyOf, of the program (a strings.Builder) and of the model. -/
import Derived.Test.YtpefcbpapmfejaaM3
import Derived.Test.YtpefcbpapmfejaaM4
import Derived.Lib.OthersKept
import Derived.Deep.CutRange
import Derived.Test.YtpefcbpapmfejaaM1

set_option maxRecDepth 20000
namespace Go.Proofs.Ytpefcbpapmfejaa
open Go.RowKit

/-- What has been put out behind the first k bytes of data. -/
def upto (h : ByteArray) (D : List Int) (k : Nat) : List UInt8 := h.data.toList ++ (D.take k).flatMap fun b => (ofS b 8).data.toList
def uptoB (h : ByteArray) (D : List Int) (k : Nat) : ByteArray := ⟨(upto h D k).toArray⟩
def bodyV (id : Int) (rm : Bool) (ln : Int) (D : List Int) : ByteArray := if frOk id rm ln D = true then uptoB (headS id rm ln) D D.length else ByteArray.empty
theorem bodyV_no {id : Int} {rm : Bool} {ln : Int} {D : List Int} (h : frOk id rm ln D = false) : bodyV id rm ln D = ByteArray.empty := by simp [bodyV, h]
theorem bodyV_yes {id : Int} {rm : Bool} {ln : Int} {D : List Int} (h : frOk id rm ln D = true) : bodyV id rm ln D = uptoB (headS id rm ln) D D.length := by simp [bodyV, h]
theorem upto_zero (h : ByteArray) (D : List Int) : upto h D 0 = h.data.toList := by simp [upto]
theorem uptoB_zero (h : ByteArray) (D : List Int) : uptoB h D 0 = h := by unfold uptoB; rw [upto_zero]
theorem upto_succ (h : ByteArray) (D : List Int) (k : Nat) (hk : k < D.length) : upto h D (k + 1) = upto h D k ++ (ofS (nth D k) 8).data.toList := by
  have e : nth D k = D[k] := by rw [nth, List.getD_eq_getElem?_getD, List.getElem?_eq_getElem hk]; rfl
  unfold upto
  rw [e, List.take_succ_eq_append_getElem hk, List.flatMap_append, ← List.append_assoc]
  simp only [List.flatMap_cons, List.flatMap_nil, List.append_nil]
theorem uptoB_succ (h : ByteArray) (D : List Int) (k : Nat) (hk : k < D.length) : uptoB h D (k + 1) = uptoB h D k ++ ofS (nth D k) 8 := by
  unfold uptoB; rw [upto_succ h D k hk]
  apply ba_inj; simp
theorem upto_len (h : ByteArray) (D : List Int) : ∀ k, k ≤ D.length → (upto h D k).length ≤ h.size + 32 * k
  | 0, _ => by rw [upto_zero]; exact Nat.le_refl _
  | k + 1, hk => by
    rw [upto_succ h D k (by omega), List.length_append]
    have := upto_len h D k (by omega)
    have h2 : (ofS (nth D k) 8).data.toList.length ≤ 32 := ofS8 (nth D k)
    omega
theorem headX_size (x y : ByteArray) (rm : Bool) (hx : x.size ≤ 32) (hy : y.size ≤ 32) : (headX x rm y).size ≤ 100 := by
  have e1 : (⟨#[48]⟩ : ByteArray).size = 1 := rfl
  have e2 : (⟨#[49]⟩ : ByteArray).size = 1 := rfl
  have e3 : (⟨#[48, 48]⟩ : ByteArray).size = 2 := rfl
  unfold headX
  rw [ByteArray.size_append, ByteArray.size_append, ByteArray.size_append, ByteArray.size_append]
  cases rm
  · rw [if_neg (by decide)]; omega
  · rw [if_pos rfl]; omega
theorem headS_some (id : Int) (rm : Bool) (ln : Int) : (headS id rm ln).toList.isEmpty = false := by
  have e1 : (⟨#[48]⟩ : ByteArray).size = 1 := rfl
  have e3 : (⟨#[48, 48]⟩ : ByteArray).size = 2 := rfl
  have : 0 < (headS id rm ln).size := by
    unfold headS headX
    rw [ByteArray.size_append, ByteArray.size_append, ByteArray.size_append, ByteArray.size_append]
    omega
  rw [ByteArray.toList_eq]
  rw [Bool.eq_false_iff]
  intro e
  rw [List.isEmpty_iff] at e
  have h2 : (headS id rm ln).size = (headS id rm ln).data.toList.length := rfl
  have h3 : (headS id rm ln).data.toList.length = 0 := by rw [e]; rfl
  omega
theorem headS_size (id : Int) (rm : Bool) (ln : Int) : (headS id rm ln).size ≤ 100 := headX_size _ _ _ (ofS11 id) (ofS4 ln)
theorem frOk_len {id : Int} {rm : Bool} {ln : Int} {D : List Int} (h : frOk id rm ln D = true) : D.length ≤ 8 := by
  simp only [frOk, inR, Bool.and_eq_true, decide_eq_true_eq] at h
  obtain ⟨⟨h1, h2⟩, _⟩ := h
  split at h2 <;> omega

theorem bld_at {T e : TypeId} {B b : Nat} {p : Value} {bs : List Value} {w w' : World} (h : Lib.BuilderAtF T e B b p bs w) (k : Below w.heap.size w w') : Lib.BuilderAtF T e B b p bs w' := by
  have hb := h.lt
  obtain ⟨h0, v, h1, h2, h3⟩ := h
  refine ⟨h0, v, (k.block b hb).trans h1, ?_, h3⟩
  exact h2.kept (row := none) ⟨k.os, k.tape, k.output, k.size, fun j hj _ => k.block j hj⟩ (Classical.em _)
theorem bld_keep {T e : TypeId} {B b : Nat} {bs : List Value} {w w' : World} (h : Lib.IsBuilderF T e B b bs w) (k : Below w.heap.size w w') : Lib.IsBuilderF T e B b bs w' := by
  rcases h with h | h
  · exact .inl (bld_at h k)
  · exact .inr (bld_at h k)

end Go.Proofs.Ytpefcbpapmfejaa

/- Frames as bits, plain: how long a body is, what stands at its front, and that two right frames of one body are one frame. -/

set_option maxRecDepth 20000
namespace Go.Proofs.Ytpefcbpapmfejaa
open Go.RowKit

theorem ofs11 {n : Int} (h0 : 0 ≤ n) (h : n ≤ 2047) : (ofS n 11).size = 11 ∧ numV (ofS n 11) = n := by
  have hp : n < 2 ^ 11 := by omega
  obtain ⟨f1, _, _, f4⟩ := facts (n := n) (c := 11) (by omega) h0 hp
  have e : ((11 : Nat) : Int) = 11 := rfl
  rw [e] at f1 f4
  exact ⟨f1, f4⟩
theorem ofs4 {n : Int} (h0 : 0 ≤ n) (h : n ≤ 8) : (ofS n 4).size = 4 ∧ numV (ofS n 4) = n := by
  have hp : n < 2 ^ 4 := by omega
  obtain ⟨f1, _, _, f4⟩ := facts (n := n) (c := 4) (by omega) h0 hp
  have e : ((4 : Nat) : Int) = 4 := rfl
  rw [e] at f1 f4
  exact ⟨f1, f4⟩
theorem ofs8 {n : Int} (h : byOk n = true) : (ofS n 8).size = 8 ∧ numV (ofS n 8) = n := by
  simp only [byOk, Bool.and_eq_true, decide_eq_true_eq] at h
  have hp : n < 2 ^ 8 := by omega
  obtain ⟨f1, _, _, f4⟩ := facts (n := n) (c := 8) (by omega) h.1 hp
  have e : ((8 : Nat) : Int) = 8 := rfl
  rw [e] at f1 f4
  exact ⟨f1, f4⟩

theorem frOk_spec {id : Int} {rm : Bool} {ln : Int} {D : List Int} (h : frOk id rm ln D = true) : (0 ≤ id ∧ id ≤ 2047 ∧ 0 ≤ ln ∧ ln ≤ 8) ∧ (D.length : Int) = (if rm = true then 0 else ln) ∧ D.all byOk = true := by
  simp only [frOk, inR, Bool.and_eq_true, decide_eq_true_eq] at h
  exact ⟨⟨h.1.1.1.1.1, h.1.1.1.1.2, h.1.1.1.2, h.1.1.2⟩, h.1.2, h.2⟩

theorem len_list (s : ByteArray) : s.data.toList.length = s.size := rfl
theorem headX_list (x : ByteArray) (rm : Bool) (y : ByteArray) : (headX x rm y).data.toList = [48] ++ x.data.toList ++ [if rm = true then 49 else 48] ++ [48, 48] ++ y.data.toList := by
  unfold headX
  cases rm <;> simp
theorem headS_19 {id : Int} {rm : Bool} {ln : Int} (h : 0 ≤ id ∧ id ≤ 2047 ∧ 0 ≤ ln ∧ ln ≤ 8) : (headS id rm ln).size = 19 := by
  have h1 := (ofs11 h.1 h.2.1).1
  have h2 := (ofs4 h.2.2.1 h.2.2.2).1
  rw [← len_list, headS, headX_list]
  simp only [List.length_append, List.length_singleton, len_list, h1, h2]
  rfl
theorem headS_inj {i0 i1 : Int} {r0 r1 : Bool} {l0 l1 : Int} (h0 : 0 ≤ i0 ∧ i0 ≤ 2047 ∧ 0 ≤ l0 ∧ l0 ≤ 8) (h1 : 0 ≤ i1 ∧ i1 ≤ 2047 ∧ 0 ≤ l1 ∧ l1 ≤ 8)
    (h : (headS i0 r0 l0).data.toList = (headS i1 r1 l1).data.toList) : i0 = i1 ∧ r0 = r1 ∧ l0 = l1 := by
  obtain ⟨a1, a2⟩ := ofs11 h0.1 h0.2.1
  obtain ⟨b1, b2⟩ := ofs4 h0.2.2.1 h0.2.2.2
  obtain ⟨c1, c2⟩ := ofs11 h1.1 h1.2.1
  obtain ⟨d1, d2⟩ := ofs4 h1.2.2.1 h1.2.2.2
  rw [headS, headS, headX_list, headX_list] at h
  obtain ⟨h, ey⟩ := List.append_inj' h (by rw [len_list, len_list, b1, d1])
  obtain ⟨h, _⟩ := List.append_inj' h rfl
  obtain ⟨h, er⟩ := List.append_inj' h rfl
  obtain ⟨_, ex⟩ := List.append_inj' h (by rw [len_list, len_list, a1, c1])
  have e1 : i0 = i1 := by rw [← a2, ← c2, ba_inj ex]
  have e2 : l0 = l1 := by rw [← b2, ← d2, ba_inj ey]
  refine ⟨e1, ?_, e2⟩
  cases r0 <;> cases r1 <;> simp at er ⊢

theorem flat_len : ∀ (D : List Int), D.all byOk = true → (D.flatMap fun b => (ofS b 8).data.toList).length = 8 * D.length
  | [], _ => rfl
  | b :: D, h => by
    simp only [List.all_cons, Bool.and_eq_true] at h
    rw [List.flatMap_cons, List.length_append, flat_len D h.2, len_list, (ofs8 h.1).1, List.length_cons]
    omega
theorem flat_inj : ∀ (D E : List Int), D.all byOk = true → E.all byOk = true → (D.flatMap fun b => (ofS b 8).data.toList) = (E.flatMap fun b => (ofS b 8).data.toList) → D = E
  | [], [], _, _, _ => rfl
  | [], e :: E, _, hE, h => by
    have h1 := flat_len (e :: E) hE
    rw [← h] at h1
    simp at h1
  | d :: D, [], hD, _, h => by
    have h1 := flat_len (d :: D) hD
    rw [h] at h1
    simp at h1
  | d :: D, e :: E, hD, hE, h => by
    simp only [List.all_cons, Bool.and_eq_true] at hD hE
    rw [List.flatMap_cons, List.flatMap_cons] at h
    obtain ⟨h1, h2⟩ := List.append_inj h (by rw [len_list, len_list, (ofs8 hD.1).1, (ofs8 hE.1).1])
    have e1 : d = e := by rw [← (ofs8 hD.1).2, ← (ofs8 hE.1).2, ba_inj h1]
    rw [e1, flat_inj D E hD.2 hE.2 h2]

theorem body_list {id : Int} {rm : Bool} {ln : Int} {D : List Int} (h : frOk id rm ln D = true) : (bodyV id rm ln D).data.toList = (headS id rm ln).data.toList ++ D.flatMap fun b => (ofS b 8).data.toList := by
  rw [bodyV_yes h, uptoB, upto, List.take_length]
theorem body_size {id : Int} {rm : Bool} {ln : Int} {D : List Int} (h : frOk id rm ln D = true) : (bodyV id rm ln D).size = 19 + 8 * D.length := by
  obtain ⟨h1, h2, h3⟩ := frOk_spec h
  rw [← len_list, body_list h, List.length_append, flat_len D h3, len_list, headS_19 h1]
theorem body_head {id : Int} {rm : Bool} {ln : Int} {D : List Int} (h : frOk id rm ln D = true) : (bodyV id rm ln D).extract 0 19 = headV id rm ln D := by
  obtain ⟨h1, h2, h3⟩ := frOk_spec h
  apply ba_inj
  have h19 := headS_19 (rm := rm) h1
  rw [front_list, body_list h, headV_yes h, List.take_left' (by rw [len_list, h19])]
theorem body_same {i0 : Int} {r0 : Bool} {l0 : Int} {D0 : List Int} {i1 : Int} {r1 : Bool} {l1 : Int} {D1 : List Int} (h0 : frOk i0 r0 l0 D0 = true) :
    ((bodyV i0 r0 l0 D0).toList == (bodyV i1 r1 l1 D1).toList) = sameFr i0 r0 l0 D0 i1 r1 l1 D1 := by
  rw [teq]
  obtain ⟨a1, a2, a3⟩ := frOk_spec h0
  cases h1 : frOk i1 r1 l1 D1 with
  | false =>
    have hne : ¬ bodyV i0 r0 l0 D0 = bodyV i1 r1 l1 D1 := by
      intro e
      have h2 := body_size h0
      rw [e, bodyV_no h1] at h2
      have : ByteArray.empty.size = 0 := rfl
      omega
    rw [decide_eq_false hne]
    symm
    rw [Bool.eq_false_iff]
    intro e
    simp only [sameFr, Bool.and_eq_true, decide_eq_true_eq] at e
    obtain ⟨⟨⟨rfl, rfl⟩, rfl⟩, rfl⟩ := e
    rw [h0] at h1
    cases h1
  | true =>
    obtain ⟨b1, b2, b3⟩ := frOk_spec h1
    rw [Bool.eq_iff_iff, decide_eq_true_eq]
    simp only [sameFr, Bool.and_eq_true, decide_eq_true_eq]
    constructor
    · intro e
      have e' : (bodyV i0 r0 l0 D0).data.toList = (bodyV i1 r1 l1 D1).data.toList := by rw [e]
      rw [body_list h0, body_list h1] at e'
      obtain ⟨eh, ed⟩ := List.append_inj e' (by rw [len_list, len_list, headS_19 a1, headS_19 b1])
      obtain ⟨e1, e2, e3⟩ := headS_inj a1 b1 eh
      exact ⟨⟨⟨e1, e2⟩, e3⟩, flat_inj D0 D1 a3 b3 ed⟩
    · rintro ⟨⟨⟨rfl, rfl⟩, rfl⟩, rfl⟩
      rfl
end Go.Proofs.Ytpefcbpapmfejaa

/- A right frame's bits with their check, plain: they are bits, and how many. -/

set_option maxRecDepth 20000
namespace Go.Proofs.Ytpefcbpapmfejaa
open Go.RowKit

def fullV (id : Int) (rm : Bool) (ln : Int) (D : List Int) : ByteArray := withV (bodyV id rm ln D)

theorem flat_bits : ∀ (D : List Int), D.all byOk = true → ∀ c ∈ (D.flatMap fun b => (ofS b 8).data.toList), bit c = true
  | [], _, c, hc => by cases hc
  | b :: D, h, c, hc => by
    simp only [List.all_cons, Bool.and_eq_true] at h
    rw [List.flatMap_cons, List.mem_append] at hc
    rcases hc with hc | hc
    · have hb : 0 ≤ b ∧ b ≤ 255 := by have := h.1; simp only [byOk, Bool.and_eq_true, decide_eq_true_eq] at this; exact this
      exact mem_bit (facts (n := b) (c := 8) (by omega) hb.1 (by omega)).2.1 c hc
    · exact flat_bits D h.2 c hc
theorem headS_bits {id : Int} {rm : Bool} {ln : Int} (h : 0 ≤ id ∧ id ≤ 2047 ∧ 0 ≤ ln ∧ ln ≤ 8) : ∀ c ∈ (headS id rm ln).data.toList, bit c = true := by
  intro c hc
  unfold headS at hc
  rw [headX_list] at hc
  simp only [List.mem_append, List.mem_cons, List.not_mem_nil, or_false] at hc
  rcases hc with (((hc | hc) | hc) | hc) | hc
  · subst hc; decide
  · exact mem_bit (facts (n := id) (c := 11) (by omega) h.1 (by omega)).2.1 c hc
  · subst hc; cases rm <;> decide
  · rcases hc with rfl | rfl <;> decide
  · exact mem_bit (facts (n := ln) (c := 4) (by omega) h.2.2.1 (by omega)).2.1 c hc
theorem body_ok {id : Int} {rm : Bool} {ln : Int} {D : List Int} (h : frOk id rm ln D = true) : okB (bodyV id rm ln D) = true := by
  obtain ⟨h1, h2, h3⟩ := frOk_spec h
  have hl := frOk_len h
  rw [okB_iff, body_size h]
  refine ⟨by omega, ?_⟩
  intro c hc
  rw [body_list h, List.mem_append] at hc
  rcases hc with hc | hc
  · exact headS_bits h1 c hc
  · exact flat_bits D h3 c hc
theorem body_with {id : Int} {rm : Bool} {ln : Int} {D : List Int} (h : frOk id rm ln D = true) : withOk (bodyV id rm ln D) = true := by
  have hl := frOk_len h
  exact withOk_yes (body_ok h) (by rw [body_size h]; omega)
theorem full_size {id : Int} {rm : Bool} {ln : Int} {D : List Int} (h : frOk id rm ln D = true) : (fullV id rm ln D).size = 34 + 8 * D.length := by
  rw [fullV, withV_yes (body_with h), ByteArray.size_append, body_size h, (tail15 _).1]
  omega
theorem full_ok {id : Int} {rm : Bool} {ln : Int} {D : List Int} (h : frOk id rm ln D = true) : okB (fullV id rm ln D) = true := by
  have hl := frOk_len h
  rw [fullV, withV_yes (body_with h), okB_with (body_ok h), decide_eq_true_eq, body_size h]
  omega
theorem full_len (id : Int) (rm : Bool) (ln : Int) (D : List Int) : (fullV id rm ln D).size ≤ 98 := by
  cases h : frOk id rm ln D with
  | true => have := frOk_len h; rw [full_size h]; omega
  | false =>
    have e : (fullV id rm ln D) = withV ByteArray.empty := by rw [fullV, bodyV_no h]
    have e2 : withOk ByteArray.empty = true := by decide
    rw [e, withV_yes e2, ByteArray.size_append, (tail15 _).1]
    decide

end Go.Proofs.Ytpefcbpapmfejaa
