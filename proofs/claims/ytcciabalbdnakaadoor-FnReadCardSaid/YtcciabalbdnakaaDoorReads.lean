/- What is read out of bits, plain: the need, the code, the frame; promise 6: what is said of a right frame is read as it, and what is read says just these bits. -/
import Derived.Test.YtcciabalbdnakaaDoorFull
import Derived.Test.YtcciabalbdnakaaDoorNeedP
set_option linter.unusedVariables false
set_option linter.unusedSimpArgs false
set_option maxRecDepth 20000
namespace Go.Proofs.YtcciabalbdnakaaDoor
open Go.RowKit

def readD (s : ByteArray) (k : Nat) : List Int := (List.range k).map fun i => numV (byS s i)
theorem readD_zero (s : ByteArray) : readD s 0 = [] := rfl
theorem readD_succ (s : ByteArray) (k : Nat) : readD s (k + 1) = readD s k ++ [numV (byS s k)] := by simp [readD, List.range_succ]
theorem readD_len (s : ByteArray) (k : Nat) : (readD s k).length = k := by simp [readD]
/-- The three bits that are always 0. -/
def formB (s : ByteArray) : Bool := byteAt s 0 == 48 && byteAt s 13 == 48 && byteAt s 14 == 48
def rdCode (s : ByteArray) : Int :=
  if needV s < 0 then 1 else if needV s ≠ s.size then 2 else if rightB s = false then 3 else if formB s = false then 4 else if 8 < numV (lenS s) then 5 else 0
def rdId (s : ByteArray) : Int := if rdCode s = 0 then numV (idS s) else 0
def rdRm (s : ByteArray) : Bool := if rdCode s = 0 then byteAt s 12 == 49 else false
def rdLn (s : ByteArray) : Int := if rdCode s = 0 then numV (lenS s) else 0
def rdD (s : ByteArray) : List Int := if rdCode s = 0 then readD s ((s.size - 34) / 8) else []
theorem rd_1 {s : ByteArray} (h : needV s < 0) : rdCode s = 1 := by simp [rdCode, h]
theorem rd_2 {s : ByteArray} (h : ¬ needV s < 0) (h2 : needV s ≠ s.size) : rdCode s = 2 := by simp [rdCode, h, h2]
theorem rd_3 {s : ByteArray} (h : ¬ needV s < 0) (h2 : needV s = s.size) (h3 : rightB s = false) : rdCode s = 3 := by simp [rdCode, h, h2, h3]
theorem rd_4 {s : ByteArray} (h : ¬ needV s < 0) (h2 : needV s = s.size) (h3 : rightB s = true) (h4 : formB s = false) : rdCode s = 4 := by simp [rdCode, h, h2, h3, h4]
theorem rd_5 {s : ByteArray} (h : ¬ needV s < 0) (h2 : needV s = s.size) (h3 : rightB s = true) (h4 : formB s = true) (h5 : 8 < numV (lenS s)) : rdCode s = 5 := by simp [rdCode, h, h2, h3, h4, h5]
theorem rd_0 {s : ByteArray} (h : ¬ needV s < 0) (h2 : needV s = s.size) (h3 : rightB s = true) (h4 : formB s = true) (h5 : ¬ 8 < numV (lenS s)) : rdCode s = 0 := by simp [rdCode, h, h2, h3, h4, h5]
theorem rd_of_0 {s : ByteArray} (h : rdCode s = 0) : 0 ≤ needV s ∧ needV s = s.size ∧ rightB s = true ∧ formB s = true ∧ numV (lenS s) ≤ 8 := by
  unfold rdCode at h
  split at h
  · omega
  · split at h
    · omega
    · split at h
      · omega
      · split at h
        · omega
        · split at h
          · omega
          · rename_i h1 h2 h3 h4 h5
            exact ⟨by omega, by omega, by simpa using h3, by simpa using h4, by omega⟩
theorem rd_not {s : ByteArray} (h : rdCode s ≠ 0) : rdId s = 0 ∧ rdRm s = false ∧ rdLn s = 0 ∧ rdD s = [] := by simp [rdId, rdRm, rdLn, rdD, h]
theorem rd_yes {s : ByteArray} (h : rdCode s = 0) : rdId s = numV (idS s) ∧ rdRm s = (byteAt s 12 == 49) ∧ rdLn s = numV (lenS s) ∧ rdD s = readD s ((s.size - 34) / 8) := by simp [rdId, rdRm, rdLn, rdD, h]

/-! ### What is read says just these bits. -/
theorem okB_ext {s : ByteArray} (h : okB s = true) (i j : Nat) : okB (s.extract i j) = true := by
  rw [okB_iff] at h ⊢
  refine ⟨by rw [ByteArray.size_extract]; omega, fun c hc => h.2 c ?_⟩
  rw [ext_list] at hc
  exact List.mem_of_mem_drop (List.mem_of_mem_take hc)
theorem num_bits {x : ByteArray} (h : okB x = true) (n : Nat) (hn : x.size = n) (h32 : n ≤ 32) : 0 ≤ numV x ∧ numV x < 2 ^ n ∧ ofS (numV x) (n : Int) = x := by
  have hb := mem_bit h
  have e1 : numV x = (numN x.data.toList : Int) := by
    rw [numV, if_pos (numOk_yes h (by omega)), num_numN _ hb]
  have h2 := numN_lt _ hb
  rw [len_list, hn] at h2
  have h3 : ((numN x.data.toList : Nat) : Int) < 2 ^ n := by exact_mod_cast h2
  obtain ⟨f1, f2, _, f4⟩ := facts (n := numV x) (c := n) h32 (by omega) (by omega)
  refine ⟨by omega, by omega, ?_⟩
  apply ba_inj
  have g2 := mem_bit f2
  have e2 : numV (ofS (numV x) (n : Int)) = (numN (ofS (numV x) (n : Int)).data.toList : Int) := by
    rw [numV, if_pos (numOk_yes f2 (by omega)), num_numN _ g2]
  exact numN_inj _ _ g2 hb (by rw [len_list, len_list, f1, hn]) (by omega)
theorem idS_bits {s : ByteArray} (h : okB s = true) (hl : 19 ≤ s.size) : 0 ≤ numV (idS s) ∧ numV (idS s) ≤ 2047 ∧ ofS (numV (idS s)) 11 = idS s := by
  obtain ⟨h1, h2, h3⟩ := num_bits (okB_ext h 1 12) 11 (size_ext (by omega)) (by omega)
  have e : ((11 : Nat) : Int) = 11 := rfl
  rw [e] at h3
  have e2 : (2 : Int) ^ 11 = 2048 := by decide
  rw [e2] at h2
  exact ⟨h1, by unfold idS; omega, h3⟩
theorem lenS_bits {s : ByteArray} (h : okB s = true) (hl : 19 ≤ s.size) : 0 ≤ numV (lenS s) ∧ numV (lenS s) ≤ 15 ∧ ofS (numV (lenS s)) 4 = lenS s := by
  obtain ⟨h1, h2, h3⟩ := num_bits (okB_ext h 15 19) 4 (size_ext (by omega)) (by omega)
  have e : ((4 : Nat) : Int) = 4 := rfl
  rw [e] at h3
  have e2 : (2 : Int) ^ 4 = 16 := by decide
  rw [e2] at h2
  exact ⟨h1, by unfold lenS; omega, h3⟩
theorem byS_bits {s : ByteArray} (h : okB s = true) {i : Nat} (hl : 27 + 8 * i ≤ s.size) : 0 ≤ numV (byS s i) ∧ numV (byS s i) ≤ 255 ∧ ofS (numV (byS s i)) 8 = byS s i := by
  obtain ⟨h1, h2, h3⟩ := num_bits (okB_ext h (19 + 8 * i) (27 + 8 * i)) 8 (by rw [size_ext hl]; omega) (by omega)
  have e : ((8 : Nat) : Int) = 8 := rfl
  rw [e] at h3
  have e2 : (2 : Int) ^ 8 = 256 := by decide
  rw [e2] at h2
  exact ⟨h1, by unfold byS; omega, h3⟩
theorem readD_by {s : ByteArray} (h : okB s = true) : ∀ k, 19 + 8 * k ≤ s.size → (readD s k).all byOk = true ∧ ((readD s k).flatMap fun b => (ofS b 8).data.toList) = (s.data.toList.drop 19).take (8 * k)
  | 0, _ => by simp [readD]
  | k + 1, hk => by
    obtain ⟨h1, h2⟩ := readD_by h k (by omega)
    obtain ⟨h3, h4, h5⟩ := byS_bits h (i := k) (by omega)
    rw [readD_succ, List.all_append, h1, List.flatMap_append, h2]
    refine ⟨by simp [byOk, h3, h4], ?_⟩
    simp only [List.flatMap_cons, List.flatMap_nil, List.append_nil]
    rw [h5, byS, ext_list, show 27 + 8 * k - (19 + 8 * k) = 8 by omega, show 8 * (k + 1) = 8 * k + 8 by omega, List.take_add, List.drop_drop]
theorem parts19 (L : List UInt8) (h : 19 ≤ L.length) : L = [L.getD 0 0] ++ (L.drop 1).take 11 ++ [L.getD 12 0] ++ [L.getD 13 0, L.getD 14 0] ++ (L.drop 15).take 4 ++ L.drop 19 := by
  iterate 19 (rcases L with _ | ⟨_, L⟩; · simp at h)
  rfl
/-- What is read is a right frame, and says just these bits. -/
theorem read_back {s : ByteArray} (h : rdCode s = 0) : frOk (rdId s) (rdRm s) (rdLn s) (rdD s) = true ∧ fullV (rdId s) (rdRm s) (rdLn s) (rdD s) = s ∧ withOk (bodyV (rdId s) (rdRm s) (rdLn s) (rdD s)) = true := by
  obtain ⟨h1, h2, h3, h4, h5⟩ := rd_of_0 h
  obtain ⟨y1, y2, y3, y4⟩ := rd_yes h
  have hok : okB s = true := by
    cases hb : okB s with
    | true => rfl
    | false => rw [needV_no hb] at h1; omega
  have h19 : 19 ≤ s.size := by
    by_cases h : 19 ≤ s.size
    · exact h
    · rw [needV_short (by omega)] at h1; omega
  obtain ⟨i1, i2, i3⟩ := idS_bits hok h19
  obtain ⟨l1, l2, l3⟩ := lenS_bits hok h19
  have hz : (s.size : Int) = 34 + 8 * (if rdRm s = true then 0 else rdLn s) := by
    rw [y2, y3]
    by_cases hr : byteAt s 12 = 49
    · rw [needV_rm hok h19 hr] at h2; simp [hr]; omega
    · rw [needV_len hok h19 hr] at h2
      simp only [beq_iff_eq, if_neg hr]
      split at h2 <;> omega
  have hk0 : (((s.size - 34) / 8 : Nat) : Int) = if rdRm s = true then 0 else rdLn s := by
    omega
  generalize hk : (s.size - 34) / 8 = k at y4 hk0
  have hsz : s.size = 34 + 8 * k := by omega
  obtain ⟨d1, d2⟩ := readD_by hok k (by omega)
  have hfr : frOk (rdId s) (rdRm s) (rdLn s) (rdD s) = true := by
    rw [frOk_yes ⟨by rw [y1]; omega, by rw [y1]; omega, by rw [y3]; omega, by rw [y3]; omega⟩ (by rw [y4, readD_len]; exact hk0), y4]
    exact d1
  have hform := h4
  simp only [formB, Bool.and_eq_true, beq_iff_eq] at hform
  obtain ⟨⟨f0, f13⟩, f14⟩ := hform
  have hbit : byteAt s 12 = if rdRm s = true then 49 else 48 := by
    rw [y2]
    have hm : byteAt s 12 ∈ s.data.toList := by
      rw [byteAt, List.getD_eq_getElem?_getD, List.getElem?_eq_getElem (by rw [len_list]; omega)]
      exact List.getElem_mem _
    rcases bit_val (mem_bit hok _ hm) with e | e <;> rw [e] <;> rfl
  have hbody : bodyV (rdId s) (rdRm s) (rdLn s) (rdD s) = s.extract 0 (s.size - 15) := by
    apply ba_inj
    rw [body_list hfr, headS, headX_list, front_list, y4, d2, y1, y3, i3, l3, ← hbit, idS, lenS, ext_list, ext_list]
    have hp := parts19 s.data.toList (by rw [len_list]; exact h19)
    rw [show s.data.toList.getD 0 0 = 48 from f0, show s.data.toList.getD 13 0 = 48 from f13, show s.data.toList.getD 14 0 = 48 from f14] at hp
    rw [show s.size - 15 = 19 + 8 * k by omega, List.take_add]
    have h6 : List.take 19 s.data.toList = [48] ++ List.take 11 (List.drop 1 s.data.toList) ++ [s.data.toList.getD 12 0] ++ [48, 48] ++ List.take 4 (List.drop 15 s.data.toList) := by
      conv => lhs; rw [hp]
      have e1 : (List.take 11 (List.drop 1 s.data.toList)).length = 11 := by rw [List.length_take, List.length_drop, len_list]; omega
      have e2 : (List.take 4 (List.drop 15 s.data.toList)).length = 4 := by rw [List.length_take, List.length_drop, len_list]; omega
      rw [List.take_left']
      simp only [List.length_append, e1, e2, List.length_cons, List.length_nil]
    rw [h6]
    rfl
  obtain ⟨w1, w2⟩ := (right_impl (s := s) (by omega)).2 h3
  refine ⟨hfr, ?_, ?_⟩
  · rw [fullV, hbody]; exact w2
  · rw [hbody]; exact w1

/-! ### What is said is read. -/
theorem full_list {id : Int} {rm : Bool} {ln : Int} {D : List Int} (h : frOk id rm ln D = true) :
    (fullV id rm ln D).data.toList = [48] ++ (ofS id 11).data.toList ++ [if rm = true then 49 else 48] ++ [48, 48] ++ (ofS ln 4).data.toList ++
      ((D.flatMap fun b => (ofS b 8).data.toList) ++ (ofS (crc (bodyV id rm ln D).data.toList) 15).data.toList) := by
  rw [fullV, withV_yes (body_with h), append_toList, body_list h, headS, headX_list, List.append_assoc]
theorem full_front {id : Int} {rm : Bool} {ln : Int} {D : List Int} (h : frOk id rm ln D = true) : (fullV id rm ln D).extract 0 ((fullV id rm ln D).size - 15) = bodyV id rm ln D := by
  apply ba_inj
  have h1 := full_size h
  have h2 := body_size h
  rw [front_list, fullV, withV_yes (body_with h), append_toList, ← withV_yes (body_with h), List.take_left']
  rw [len_list]
  have h3 : (withV (bodyV id rm ln D)).size = 34 + 8 * D.length := h1
  omega
theorem full_right {id : Int} {rm : Bool} {ln : Int} {D : List Int} (h : frOk id rm ln D = true) : rightB (fullV id rm ln D) = true := by
  have h1 := full_size h
  refine (right_impl (s := fullV id rm ln D) (by omega)).1 ?_
  rw [full_front h]
  exact ⟨body_with h, rfl⟩
/-- Promise 6: what is said of a right frame is read as it. -/
theorem read_said {id : Int} {rm : Bool} {ln : Int} {D : List Int} (h : frOk id rm ln D = true) :
    rdCode (fullV id rm ln D) = 0 ∧ rdId (fullV id rm ln D) = id ∧ rdRm (fullV id rm ln D) = rm ∧ rdLn (fullV id rm ln D) = ln ∧ rdD (fullV id rm ln D) = D ∧ needV (fullV id rm ln D) = (fullV id rm ln D).size := by
  have hok := full_ok h
  have hsz := full_size h
  have hr := full_right h
  have hL := full_list h
  obtain ⟨h1, h2, h3⟩ := frOk_spec h
  obtain ⟨x1, x2⟩ := ofs11 h1.1 h1.2.1
  obtain ⟨y1, y2⟩ := ofs4 h1.2.2.1 h1.2.2.2
  have hF := flat_len D h3
  generalize fullV id rm ln D = s at *
  generalize (ofS (crc (bodyV id rm ln D).data.toList) 15).data.toList = T at hL
  have e := (parts19 s.data.toList (by rw [len_list]; omega)).symm.trans hL
  have l1 : (List.take 11 (List.drop 1 s.data.toList)).length = 11 := by rw [List.length_take, List.length_drop, len_list]; omega
  have l2 : (List.take 4 (List.drop 15 s.data.toList)).length = 4 := by rw [List.length_take, List.length_drop, len_list]; omega
  obtain ⟨e, eR⟩ := List.append_inj e (by simp only [List.length_append, List.length_cons, List.length_nil, l1, l2, len_list, x1, y1])
  obtain ⟨e, eY⟩ := List.append_inj' e (by rw [l2, len_list, y1])
  obtain ⟨e, e13⟩ := List.append_inj' e rfl
  obtain ⟨e, e12⟩ := List.append_inj' e rfl
  obtain ⟨e0, eX⟩ := List.append_inj' e (by rw [l1, len_list, x1])
  simp only [List.cons.injEq, and_true] at e0 e12 e13
  have hid : idS s = ofS id 11 := ba_inj (by rw [idS, ext_list]; exact eX)
  have hln : lenS s = ofS ln 4 := ba_inj (by rw [lenS, ext_list]; exact eY)
  have b12 : byteAt s 12 = if rm = true then 49 else 48 := e12
  have hform : formB s = true := by
    rw [formB, show byteAt s 0 = 48 from e0, show byteAt s 13 = 48 from e13.1, show byteAt s 14 = 48 from e13.2]
    rfl
  have vid : numV (idS s) = id := by rw [hid]; exact x2
  have vln : numV (lenS s) = ln := by rw [hln]; exact y2
  have hneed : needV s = s.size := by
    cases rm with
    | true =>
      rw [needV_rm hok (by omega) (by rw [b12]; rfl)]
      simp only [if_true] at h2
      omega
    | false =>
      rw [needV_len hok (by omega) (by rw [b12]; decide), vln]
      simp only [Bool.false_eq_true, if_false] at h2
      split <;> omega
  have hcode : rdCode s = 0 := rd_0 (by omega) hneed hr hform (by omega)
  obtain ⟨z1, z2, z3, z4⟩ := rd_yes hcode
  refine ⟨hcode, by rw [z1, vid], ?_, by rw [z3, vln], ?_, hneed⟩
  · rw [z2, b12]; cases rm <;> rfl
  · have hk : (s.size - 34) / 8 = D.length := by omega
    obtain ⟨d1, d2⟩ := readD_by hok D.length (by omega)
    rw [z4, hk]
    refine flat_inj _ _ d1 h3 ?_
    rw [d2, eR, List.take_left' hF]

end Go.Proofs.YtcciabalbdnakaaDoor
