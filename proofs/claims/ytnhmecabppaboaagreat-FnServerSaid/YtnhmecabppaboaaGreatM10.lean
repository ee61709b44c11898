/- What a frame says on the wire, as bits, plain: its length, and the most that it can be. -/
import Derived.Test.YtnhmecabppaboaaGreatM5
import Derived.Test.YtnhmecabppaboaaGreatM6
import Derived.Test.YtnhmecabppaboaaGreatM9
import Derived.Test.YtnhmecabppaboaaGreatM3
import Derived.Test.YtnhmecabppaboaaGreatM4
import Derived.Test.YtnhmecabppaboaaGreatM1
import Derived.Test.YtnhmecabppaboaaGreatM23
import Derived.Deep.CutRange

set_option maxRecDepth 20000
namespace Go.Proofs.YtnhmecabppaboaaGreat
open Go.RowKit

/-- Ten ones. -/
def ones : ByteArray := ⟨#[49, 49, 49, 49, 49, 49, 49, 49, 49, 49]⟩
def wireV (id : Int) (rm : Bool) (ln : Int) (D : List Int) : ByteArray := if frOk id rm ln D = true then stfV (fullV id rm ln D) ++ ones else ByteArray.empty
def lengthV (id : Int) (rm : Bool) (ln : Int) (D : List Int) : Int := if frOk id rm ln D = true then ((wireV id rm ln D).size : Int) else -1
theorem wireV_no {id : Int} {rm : Bool} {ln : Int} {D : List Int} (h : frOk id rm ln D = false) : wireV id rm ln D = ByteArray.empty := by simp [wireV, h]
theorem wireV_yes {id : Int} {rm : Bool} {ln : Int} {D : List Int} (h : frOk id rm ln D = true) : wireV id rm ln D = stfV (fullV id rm ln D) ++ ones := by simp [wireV, h]
theorem lengthV_no {id : Int} {rm : Bool} {ln : Int} {D : List Int} (h : frOk id rm ln D = false) : lengthV id rm ln D = -1 := by simp [lengthV, h]
theorem lengthV_yes {id : Int} {rm : Bool} {ln : Int} {D : List Int} (h : frOk id rm ln D = true) : lengthV id rm ln D = ((wireV id rm ln D).size : Int) := by simp [lengthV, h]
theorem stf_len {id : Int} {rm : Bool} {ln : Int} {D : List Int} (h : frOk id rm ln D = true) : stfOk (fullV id rm ln D) = true ∧ 34 + 8 * D.length ≤ (stfV (fullV id rm ln D)).size ∧
    (stfV (fullV id rm ln D)).size ≤ 34 + 8 * D.length + (33 + 8 * D.length) / 4 := by
  have hl := frOk_len h
  have hs := full_size h
  have e : (fullV id rm ln D).data.toList.length = 34 + 8 * D.length := hs
  have h1 := (stuff_len (fullV id rm ln D).data.toList).1
  have h2 := stuff_most (fullV id rm ln D).data.toList
  have hok : stfOk (fullV id rm ln D) = true := stfOk_yes (full_ok h) (by omega)
  rw [stfV_yes hok, arr_size]
  exact ⟨hok, by omega, by omega⟩
theorem wire_size {id : Int} {rm : Bool} {ln : Int} {D : List Int} (h : frOk id rm ln D = true) : (wireV id rm ln D).size = (stfV (fullV id rm ln D)).size + 10 := by
  rw [wireV_yes h, ByteArray.size_append]; rfl
/-- Promise 5: no frame is longer than the most. -/
theorem wire_most {id : Int} {rm : Bool} {ln : Int} {D : List Int} (h : frOk id rm ln D = true) : 44 + 8 * D.length ≤ (wireV id rm ln D).size ∧ ((wireV id rm ln D).size : Int) ≤ longV D.length := by
  have hl := frOk_len h
  obtain ⟨_, h1, h2⟩ := stf_len h
  have e1 : longV (D.length : Int) = 34 + 8 * (D.length : Int) + mostV (34 + 8 * (D.length : Int)) + 10 := longV_yes (by omega) (by omega)
  have e2 : mostV (34 + 8 * (D.length : Int)) = (34 + 8 * (D.length : Int) - 1) / 4 := mostV_yes (by omega) (by omega)
  rw [wire_size h, e1, e2]
  exact ⟨by omega, by omega⟩
theorem stfV_len (s : ByteArray) : (stfV s).size ≤ 400 := by
  cases h : stfOk s with
  | false => rw [stfV_no h]; decide
  | true =>
    have h2 := h
    simp only [stfOk, Bool.and_eq_true, decide_eq_true_eq] at h2
    rw [stfV_yes h, arr_size]; exact h2.2
theorem wire_len (id : Int) (rm : Bool) (ln : Int) (D : List Int) : (wireV id rm ln D).size ≤ 410 := by
  cases h : frOk id rm ln D with
  | false => rw [wireV_no h]; decide
  | true => rw [wire_size h]; have := stfV_len (fullV id rm ln D); omega
theorem lengthV_wf (id : Int) (rm : Bool) (ln : Int) (D : List Int) : -1 ≤ lengthV id rm ln D ∧ lengthV id rm ln D ≤ 410 := by
  have := wire_len id rm ln D
  unfold lengthV
  split <;> omega

end Go.Proofs.YtnhmecabppaboaaGreat

/- Servers, plain: what a right one is, who begins, one bit, a run. -/

set_option linter.unusedVariables false
set_option linter.unusedSimpArgs false
set_option maxRecDepth 20000
namespace Go.Proofs.YtnhmecabppaboaaGreat
open Go.RowKit

/-- What a server holds. -/
structure Srv where
  bx : List (List Frm)
  busy : Int
  node : Int
  rank : Int
  now : Int
def nthB (X : List (List Frm)) (j : Nat) : List Frm := X.getD j []
theorem nthB_eq {X : List (List Frm)} {j : Nat} (h : j < X.length) : nthB X j = X[j] := by simp [nthB, h]
theorem nthB_mem {X : List (List Frm)} {j : Nat} (h : j < X.length) : nthB X j ∈ X := by rw [nthB_eq h]; exact List.getElem_mem h
theorem nthB_set {X : List (List Frm)} {k : Nat} (hk : k < X.length) (L : List Frm) (i : Nat) : nthB (X.set k L) i = if i = k then L else nthB X i := by
  simp only [nthB, List.getD_eq_getElem?_getD, List.getElem?_set]
  by_cases e : i = k
  · subst e; simp [hk]
  · rw [if_neg (fun h => e h.symm), if_neg e]
def hasB (L : List Frm) (r : Int) : Bool := L.any fun f => decide (rkF f = r)
theorem hasB_iff {L : List Frm} {r : Int} : hasB L r = true ↔ ∃ j, j < L.length ∧ rkF (nthF L j) = r := by
  unfold hasB
  rw [List.any_eq_true]
  constructor
  · rintro ⟨f, hf, h⟩
    obtain ⟨j, hj, rfl⟩ := List.mem_iff_getElem.1 hf
    exact ⟨j, hj, by rw [nthF_eq hj]; simpa using h⟩
  · rintro ⟨j, hj, h⟩
    exact ⟨L[j], List.getElem_mem hj, by rw [← nthF_eq hj]; simpa using h⟩
theorem hasB_pos {L : List Frm} {r : Int} {p : Nat} (hr : Rise L L.length) (hp : Pos L r p) : metB L r p = hasB L r := by
  rw [Bool.eq_iff_iff, metB_yes, hasB_iff]
  constructor
  · rintro ⟨h1, h2⟩; exact ⟨p, h1, h2⟩
  · rintro ⟨j, hj, e⟩
    have h1 : ¬ j < p := fun h => by have := hp.2.1 j h; omega
    have h2 : p < L.length := by omega
    refine ⟨h2, ?_⟩
    by_cases e2 : j = p
    · rw [← e2]; exact e
    · have := hr.lt (i := p) (j := j) (by omega) hj
      have := hp.2.2 p (Nat.le_refl _) h2
      omega
def boxesB (X : List (List Frm)) : Bool := decide (2 ≤ X.length) && decide (X.length ≤ 6) && X.all boxB
theorem boxesB_iff {X : List (List Frm)} : boxesB X = true ↔ 2 ≤ X.length ∧ X.length ≤ 6 ∧ ∀ j, j < X.length → boxB (nthB X j) = true := by
  unfold boxesB
  simp only [Bool.and_eq_true, decide_eq_true_eq, List.all_eq_true, and_assoc]
  constructor
  · rintro ⟨h1, h2, h3⟩; exact ⟨h1, h2, fun j hj => h3 _ (nthB_mem hj)⟩
  · rintro ⟨h1, h2, h3⟩
    refine ⟨h1, h2, fun L hL => ?_⟩
    obtain ⟨j, hj, rfl⟩ := List.mem_iff_getElem.1 hL
    rw [← nthB_eq hj]; exact h3 j hj
/-- What Node and Rank tell. -/
def sndB (s : Srv) : Bool := if s.busy ≤ 3 then decide (s.node = 0) && decide (s.rank = 0) else decide (0 ≤ s.node) && decide (s.node ≤ (s.bx.length : Int) - 1) && hasB (nthB s.bx s.node.toNat) s.rank
def srvB (s : Srv) : Bool := boxesB s.bx && (decide (0 ≤ s.busy) && decide (s.busy ≤ 200)) && (decide (0 ≤ s.now) && decide (s.now ≤ 100000)) && sndB s
theorem srvB_iff {s : Srv} : srvB s = true ↔ boxesB s.bx = true ∧ 0 ≤ s.busy ∧ s.busy ≤ 200 ∧ 0 ≤ s.now ∧ s.now ≤ 100000 ∧ sndB s = true := by
  unfold srvB
  simp only [Bool.and_eq_true, decide_eq_true_eq, and_assoc]
theorem sndB_low {s : Srv} (h : s.busy ≤ 3) : sndB s = true ↔ s.node = 0 ∧ s.rank = 0 := by unfold sndB; rw [if_pos h]; simp
theorem sndB_high {s : Srv} (h : ¬ s.busy ≤ 3) : sndB s = true ↔ 0 ≤ s.node ∧ s.node < (s.bx.length : Int) ∧ hasB (nthB s.bx s.node.toNat) s.rank = true := by
  unfold sndB; rw [if_neg h]; simp only [Bool.and_eq_true, decide_eq_true_eq, and_assoc]
  constructor
  · rintro ⟨a, b, c⟩; exact ⟨a, by omega, c⟩
  · rintro ⟨a, b, c⟩; exact ⟨a, by omega, c⟩

/-! ### Who begins. -/
/-- The first frames of the boxes that are not empty, among the first k, and whose they are. -/
def firK (X : List (List Frm)) : Nat → List (Nat × Frm)
  | 0 => []
  | k + 1 => firK X k ++ if (nthB X k).length = 0 then [] else [(k, nthF (nthB X k) 0)]
def nthK (F : List (Nat × Frm)) (j : Nat) : Nat × Frm := F.getD j (0, ⟨0, false, 0, []⟩)
theorem firK_no {X : List (List Frm)} {k : Nat} (h : (nthB X k).length = 0) : firK X (k + 1) = firK X k := by rw [firK, if_pos h, List.append_nil]
theorem firK_yes {X : List (List Frm)} {k : Nat} (h : ¬ (nthB X k).length = 0) : firK X (k + 1) = firK X k ++ [(k, nthF (nthB X k) 0)] := by rw [firK, if_neg h]
theorem firK_len (X : List (List Frm)) : ∀ k, (firK X k).length ≤ k
  | 0 => Nat.le_refl _
  | k + 1 => by
    have := firK_len X k
    by_cases h : (nthB X k).length = 0
    · rw [firK_no h]; omega
    · rw [firK_yes h, List.length_append]; simp; omega
theorem firK_at (X : List (List Frm)) : ∀ (k j : Nat), j < (firK X k).length → (nthK (firK X k) j).1 < k ∧ (nthB X (nthK (firK X k) j).1).length ≠ 0 ∧ (nthK (firK X k) j).2 = nthF (nthB X (nthK (firK X k) j).1) 0
  | 0, j, h => absurd h (by simp [firK])
  | k + 1, j, h => by
    by_cases h0 : (nthB X k).length = 0
    · rw [firK_no h0] at h ⊢
      have := firK_at X k j h
      exact ⟨by omega, this.2⟩
    · rw [firK_yes h0] at h ⊢
      by_cases hj : j < (firK X k).length
      · have e : nthK (firK X k ++ [(k, nthF (nthB X k) 0)]) j = nthK (firK X k) j := by
          rw [nthK, nthK, List.getD_eq_getElem?_getD, List.getD_eq_getElem?_getD, List.getElem?_append_left hj]
        rw [e]
        have := firK_at X k j hj
        exact ⟨by omega, this.2⟩
      · have hj2 : j = (firK X k).length := by simp at h; omega
        have e : nthK (firK X k ++ [(k, nthF (nthB X k) 0)]) j = (k, nthF (nthB X k) 0) := by
          rw [hj2, nthK, List.getD_eq_getElem?_getD, List.getElem?_append_right (Nat.le_refl _)]
          simp
        rw [e]
        exact ⟨by omega, h0, rfl⟩
/-- The frames alone. -/
def firF (X : List (List Frm)) (k : Nat) : List Frm := (firK X k).map fun x => x.2
theorem firF_len (X : List (List Frm)) (k : Nat) : (firF X k).length = (firK X k).length := by simp [firF]
theorem firF_nth {X : List (List Frm)} {k j : Nat} (h : j < (firK X k).length) : nthF (firF X k) j = (nthK (firK X k) j).2 := by
  simp [firF, nthF, nthK, List.getD_eq_getElem?_getD, h]
def winX (X : List (List Frm)) : Option Nat := winN (firF X X.length) (firF X X.length).length
/-- It begins, if any waits. -/
def begS (s : Srv) : Srv :=
  match winX s.bx with
  | none => s
  | some b => ⟨s.bx, lengthV (nthF (firF s.bx s.bx.length) b).id (nthF (firF s.bx s.bx.length) b).rm (nthF (firF s.bx s.bx.length) b).ln (nthF (firF s.bx s.bx.length) b).D + 3, ((nthK (firK s.bx s.bx.length) b).1 : Int), rkF (nthF (firF s.bx s.bx.length) b), s.now⟩
/-- What the frame of a rank is. -/
def frmR (L : List Frm) (r : Int) : Frm := nthF L (posN L r L.length)
theorem frmR_eq {L : List Frm} {r : Int} {p : Nat} (hr : Rise L L.length) (hp : Pos L r p) : frmR L r = nthF L p := by unfold frmR; rw [(pos_at hr).eq hp]
/-- The frame on the wire ends. -/
def endS (s : Srv) : Srv := ⟨s.bx.set s.node.toNat (outV (nthB s.bx s.node.toNat) s.rank), s.busy, 0, 0, s.now⟩
def endE (s : Srv) : Ev := ⟨s.now, s.node.toNat, 1, frmR (nthB s.bx s.node.toNat) s.rank⟩
/-- Ahead of the count: who begins. -/
def setS (s : Srv) : Srv := if s.busy = 0 then begS s else s
def lowS (s : Srv) : Srv := ⟨s.bx, s.busy - 1, s.node, s.rank, s.now⟩
/-- One bit. -/
def bitS (s : Srv) : Srv :=
  let t := setS s
  let u := if 0 < t.busy then (if t.busy - 1 = 3 then endS (lowS t) else lowS t) else t
  ⟨u.bx, u.busy, u.node, u.rank, u.now + 1⟩
def bitE (s : Srv) : List Ev := if 0 < (setS s).busy ∧ (setS s).busy - 1 = 3 then [endE (lowS (setS s))] else []
theorem setS_free {s : Srv} (h : s.busy = 0) : setS s = begS s := if_pos h
theorem setS_busy {s : Srv} (h : s.busy ≠ 0) : setS s = s := if_neg h
theorem begS_bx (s : Srv) : (begS s).bx = s.bx ∧ (begS s).now = s.now := by unfold begS; split <;> exact ⟨rfl, rfl⟩
theorem setS_bx (s : Srv) : (setS s).bx = s.bx ∧ (setS s).now = s.now := by
  unfold setS; split
  · exact begS_bx s
  · exact ⟨rfl, rfl⟩
theorem bitS_now (s : Srv) : (bitS s).now = s.now + 1 := by
  have h := (setS_bx s).2
  unfold bitS
  dsimp only
  split
  · split
    · show (setS s).now + 1 = _; rw [h]
    · show (setS s).now + 1 = _; rw [h]
  · rw [h]
theorem bitS_len (s : Srv) : (bitS s).bx.length = s.bx.length := by
  have h := (setS_bx s).1
  unfold bitS
  dsimp only
  split
  · split
    · show ((setS s).bx.set _ _).length = _; rw [List.length_set, h]
    · show (setS s).bx.length = _; rw [h]
  · rw [h]
theorem firF_right {X : List (List Frm)} (h : boxesB X = true) {k j : Nat} (hk : k ≤ X.length) (hj : j < (firF X k).length) : 0 ≤ rkF (nthF (firF X k) j) := by
  rw [firF_len] at hj
  rw [firF_nth hj]
  obtain ⟨h1, h2, h3⟩ := firK_at X k j hj
  rw [h3]
  have hb := (boxesB_iff.1 h).2.2 (nthK (firK X k) j).1 (by omega)
  exact ((boxB_iff.1 hb).2 0 (by omega)).1
theorem len_pos {f : Frm} (h : 0 ≤ rkF f) : 44 ≤ lengthV f.id f.rm f.ln f.D ∧ lengthV f.id f.rm f.ln f.D ≤ 132 := by
  have hok := rkF_ok h
  have h1 := wire_most hok
  have h8 := frOk_max hok
  rw [lengthV_yes hok]
  refine ⟨by omega, ?_⟩
  have h2 := h1.2
  rw [longV_yes (by omega) (by omega)] at h2
  have : mostV (34 + 8 * (f.D.length : Int)) ≤ 24 := by
    unfold mostV
    split
    · omega
    · split <;> omega
  omega
/-- A begun server is right. -/
theorem begS_right {s : Srv} (h : srvB s = true) (h0 : s.busy = 0) : srvB (begS s) = true ∧ ((begS s).busy = 0 ∨ 44 ≤ (begS s).busy) := by
  obtain ⟨hb, h1, h2, h3, h4, h5⟩ := srvB_iff.1 h
  unfold begS
  cases hw : winX s.bx with
  | none => exact ⟨h, .inl h0⟩
  | some b =>
    have hlt := (winN_lt hw).1
    have hp := len_pos (firF_right hb (Nat.le_refl _) hlt)
    have hlt2 := hlt
    rw [firF_len] at hlt2
    obtain ⟨g1, g2, g3⟩ := firK_at s.bx s.bx.length b hlt2
    refine ⟨srvB_iff.2 ⟨hb, by dsimp only; omega, by dsimp only; omega, h3, h4, ?_⟩, .inr (by dsimp only; omega)⟩
    rw [sndB_high (by dsimp only; omega)]
    dsimp only
    refine ⟨by omega, by omega, hasB_iff.2 ⟨0, ?_, ?_⟩⟩
    · rw [Int.toNat_natCast]; omega
    · rw [Int.toNat_natCast, firF_nth hlt2, g3]
theorem out_right {L : List Frm} (r : Int) (h : boxB L = true) : boxB (outV L r) = true := by
  rw [outV_ok r h]
  obtain ⟨h1, h2⟩ := boxB_iff.1 h
  refine boxB_yes (Nat.le_trans (List.length_filter_le _ _) h1) ?_
  have hp := pos_at (r := r) h2
  cases hm : metB L r (posN L r L.length) with
  | false =>
    have := outV_not h hp hm
    rw [outV_ok r h] at this
    rw [this]; exact h2
  | true =>
    have := outV_met h hp hm
    rw [outV_ok r h] at this
    rw [this]
    generalize posN L r L.length = p at *
    have hpl := (metB_yes.1 hm).1
    have hl : (splL L p (p + 1) []).length = L.length - 1 := by rw [splL_len (by omega)]; simp; omega
    intro j hj
    rw [hl] at hj
    have e : ∀ i, i < L.length - 1 → nthF (splL L p (p + 1) []) i = nthF L (if i < p then i else i + 1) := fun i hi => by
      unfold splL
      by_cases hi2 : i < p
      · rw [if_pos hi2, nthF_left (by rw [List.length_take]; omega), nthF_take hi2]
      · rw [if_neg hi2, nthF_right (by rw [List.length_take]; omega), List.nil_append, nthF_drop, List.length_take]
        congr 1; omega
    rw [e j hj]
    refine ⟨(h2 _ (by split <;> omega)).1, fun h0 => ?_⟩
    rw [e (j - 1) (by omega)]
    exact h2.lt (by split <;> split <;> omega) (by split <;> omega)
/-- A right server stays right. -/
theorem bitS_right {s : Srv} (h : srvB s = true) (hn : s.now < 100000) : srvB (bitS s) = true := by
  have hset : srvB (setS s) = true ∧ ((setS s).busy ≠ 0 ∨ (setS s).busy = 0) := by
    by_cases h0 : s.busy = 0
    · rw [setS_free h0]; exact ⟨(begS_right h h0).1, (Decidable.em _).symm⟩
    · rw [setS_busy h0]; exact ⟨h, (Decidable.em _).symm⟩
  have hnow := (setS_bx s).2
  obtain ⟨hb, h1, h2, h3, h4, h5⟩ := srvB_iff.1 hset.1
  unfold bitS
  dsimp only
  split
  · rename_i hpos
    split
    · rename_i h33
      have hs := (sndB_high (s := setS s) (by omega)).1 h5
      obtain ⟨b1, b2, b3⟩ := boxesB_iff.1 hb
      refine srvB_iff.2 ⟨boxesB_iff.2 ⟨?_, ?_, fun j hj => ?_⟩, ?_, ?_, ?_, ?_, (sndB_low ?_).2 ⟨rfl, rfl⟩⟩
      · show 2 ≤ ((setS s).bx.set _ _).length; rw [List.length_set]; exact b1
      · show ((setS s).bx.set _ _).length ≤ 6; rw [List.length_set]; exact b2
      · have hj' : j < (setS s).bx.length := by
          have : ((setS s).bx.set (setS s).node.toNat (outV (nthB (setS s).bx (setS s).node.toNat) (setS s).rank)).length = _ := List.length_set
          rw [← this]; exact hj
        show boxB (nthB ((setS s).bx.set (setS s).node.toNat (outV (nthB (setS s).bx (setS s).node.toNat) (setS s).rank)) j) = true
        rw [nthB_set (by omega)]
        split
        · exact out_right _ (b3 _ (by omega))
        · exact b3 j hj'
      · show 0 ≤ (setS s).busy - 1; omega
      · show (setS s).busy - 1 ≤ 200; omega
      · show 0 ≤ (setS s).now + 1; omega
      · show (setS s).now + 1 ≤ 100000; omega
      · show (setS s).busy - 1 ≤ 3; omega
    · rename_i h33
      refine srvB_iff.2 ⟨hb, ?_, ?_, ?_, ?_, ?_⟩
      · show 0 ≤ (setS s).busy - 1; omega
      · show (setS s).busy - 1 ≤ 200; omega
      · show 0 ≤ (setS s).now + 1; omega
      · show (setS s).now + 1 ≤ 100000; omega
      · by_cases h3' : (setS s).busy ≤ 3
        · refine (sndB_low ?_).2 ((sndB_low h3').1 h5)
          show (setS s).busy - 1 ≤ 3; omega
        · refine (sndB_high ?_).2 ((sndB_high h3').1 h5)
          show ¬ (setS s).busy - 1 ≤ 3; omega
  · refine srvB_iff.2 ⟨hb, h1, h2, ?_, ?_, ?_⟩
    · show 0 ≤ (setS s).now + 1; omega
    · show (setS s).now + 1 ≤ 100000; omega
    · by_cases h3' : (setS s).busy ≤ 3
      · exact (sndB_low h3').2 ((sndB_low h3').1 h5)
      · exact (sndB_high h3').2 ((sndB_high h3').1 h5)

/-! ### A run. -/
def runS (s : Srv) : Nat → Srv
  | 0 => s
  | k + 1 => bitS (runS s k)
def runF (s : Srv) : Nat → List Ev
  | 0 => []
  | k + 1 => runF s k ++ bitE (runS s k)
theorem runS_now (s : Srv) : ∀ k, (runS s k).now = s.now + k
  | 0 => by simp [runS]
  | k + 1 => by rw [runS, bitS_now, runS_now s k]; omega
theorem runS_len (s : Srv) : ∀ k, (runS s k).bx.length = s.bx.length
  | 0 => rfl
  | k + 1 => by rw [runS, bitS_len, runS_len s k]
theorem runS_right {s : Srv} (h : srvB s = true) : ∀ k : Nat, s.now + k ≤ 100000 → srvB (runS s k) = true
  | 0, _ => h
  | k + 1, hk => bitS_right (runS_right h k (by omega)) (by rw [runS_now]; omega)
theorem bitE_len (s : Srv) : (bitE s).length ≤ 1 := by unfold bitE; split <;> simp
theorem runF_len (s : Srv) : ∀ k, (runF s k).length ≤ k
  | 0 => Nat.le_refl _
  | k + 1 => by
    rw [runF, List.length_append]
    have := runF_len s k
    have := bitE_len (runS s k)
    omega
/-- The model's bit: none at the end of time. -/
def tikS (s : Srv) : Srv := if s.now < 100000 then bitS s else s
def tikE (s : Srv) : List Ev := if s.now < 100000 then bitE s else []
def tunS (s : Srv) : Nat → Srv
  | 0 => s
  | k + 1 => tikS (tunS s k)
def tunE (s : Srv) : Nat → List Ev
  | 0 => []
  | k + 1 => tunE s k ++ tikE (tunS s k)
/-- How many bits are played. -/
def sK (s : Srv) (n : Nat) : Nat := (min (n : Int) (100000 - s.now)).toNat
theorem tun_run {s : Srv} (h : s.now ≤ 100000) : ∀ n : Nat, tunS s n = runS s (sK s n) ∧ tunE s n = runF s (sK s n)
  | 0 => by
    have e : sK s 0 = 0 := by unfold sK; omega
    rw [e]; exact ⟨rfl, rfl⟩
  | n + 1 => by
    obtain ⟨h1, h2⟩ := tun_run h n
    rw [tunS, tunE, h1, h2]
    unfold tikS tikE
    rw [runS_now]
    by_cases hlt : s.now + (sK s n : Int) < 100000
    · rw [if_pos hlt, if_pos hlt]
      have e : sK s (n + 1) = sK s n + 1 := by unfold sK at *; omega
      rw [e]; exact ⟨rfl, rfl⟩
    · rw [if_neg hlt, if_neg hlt]
      have e : sK s (n + 1) = sK s n := by unfold sK at *; omega
      rw [e]; exact ⟨rfl, by rw [List.append_nil]⟩
def srZ : Srv := ⟨[], 0, 0, 0, 0⟩
/-- What ServerFor answers. -/
def forK (s : Srv) (bits : Int) : Nat := if 0 ≤ bits ∧ bits ≤ 5000 then sK s bits.toNat else 0
def forS (s : Srv) (bits : Int) : Srv := if srvB s = true then runS s (forK s bits) else srZ
def forE (s : Srv) (bits : Int) : List Ev := if srvB s = true then runF s (forK s bits) else []
theorem forK_le {s : Srv} (bits : Int) (h : s.now ≤ 100000) : forK s bits ≤ 5000 ∧ s.now + forK s bits ≤ 100000 := by
  unfold forK
  split
  · unfold sK; omega
  · omega
/-- What ServerPut answers. -/
def putS (s : Srv) (node : Int) (f : Frm) : Srv × Int :=
  if srvB s = true then
    if 0 ≤ node ∧ node < (s.bx.length : Int) then
      if 3 < s.busy ∧ s.node = node ∧ s.rank = rkF f then (s, 2)
      else (⟨s.bx.set node.toNat (putV (nthB s.bx node.toNat) f).1, s.busy, s.node, s.rank, s.now⟩, (putV (nthB s.bx node.toNat) f).2)
    else (s, 3)
  else (srZ, 3)
end Go.Proofs.YtnhmecabppaboaaGreat

/- Contracts of WireOf and LengthOf, of the program (its pieces joined by strings.Join) and of the model. -/

set_option maxRecDepth 20000
namespace Go.Proofs.YtnhmecabppaboaaGreat
open Go.RowKit

/-- impl.joined, of what is stuffed and the ends. -/
theorem five_cells {b : Nat} {s t1 t2 t3 t4 : ByteArray} {w : World} (h0 : w.cell? ⟨b, 0, none⟩ = some (.string s)) (h1 : w.cell? ⟨b, 1, none⟩ = some (.string t1)) (h2 : w.cell? ⟨b, 2, none⟩ = some (.string t2))
    (h3 : w.cell? ⟨b, 3, none⟩ = some (.string t3)) (h4 : w.cell? ⟨b, 4, none⟩ = some (.string t4)) : ∀ (j : Nat) x, [s, t1, t2, t3, t4][j]? = some x → w.cell? ⟨b, 0 + j, none⟩ = some (.string x)
  | 0, x, h => by cases h; exact h0
  | 1, x, h => by cases h; exact h1
  | 2, x, h => by cases h; exact h2
  | 3, x, h => by cases h; exact h3
  | 4, x, h => by cases h; exact h4
  | n + 5, x, h => by simp at h
theorem join_ones (s : ByteArray) : (⟨(Lib.join ([s, ⟨#[49]⟩, ⟨#[49]⟩, ⟨#[49]⟩, ⟨#[49, 49, 49, 49, 49, 49, 49]⟩].map (·.data.toList)) (⟨#[]⟩ : ByteArray).data.toList).toArray⟩ : ByteArray) = s ++ ones := by
  apply ba_inj
  simp [Lib.join_cons, Lib.joinTail, ones]
theorem joined (b : Nat) (s : ByteArray) (w : World) (hs : s.size ≤ 400) (h0 : w.cell? ⟨b, 0, none⟩ = some (.string s)) (h1 : w.cell? ⟨b, 1, none⟩ = some (.string ⟨#[49]⟩)) (h2 : w.cell? ⟨b, 2, none⟩ = some (.string ⟨#[49]⟩))
    (h3 : w.cell? ⟨b, 3, none⟩ = some (.string ⟨#[49]⟩)) (h4 : w.cell? ⟨b, 4, none⟩ = some (.string ⟨#[49, 49, 49, 49, 49, 49, 49]⟩)) (hb : b < w.heap.size) :
    Calls Tryz.prog 116 #[.slice (some ⟨b, 0, none⟩) 5 5] w fun e w' => e = .returned (.string (s ++ ones)) ∧ Below w.heap.size w w' := by
  have HJ := Lib.hid (join_ones s)
  have hl : (Lib.join ([s, ⟨#[49]⟩, ⟨#[49]⟩, ⟨#[49]⟩, ⟨#[49, 49, 49, 49, 49, 49, 49]⟩].map (·.data.toList)) (⟨#[]⟩ : ByteArray).data.toList).length ≤ 140737488355328 := by
    have e := congrArg ByteArray.size HJ.out
    rw [arr_size, ByteArray.size_append] at e
    have e1 : ones.size = 10 := rfl
    omega
  go_enter Tryz.func116, Tryz.ntmps116
  go_wp2_with fail
  refine (joinOf b 0 5 [s, ⟨#[49]⟩, ⟨#[49]⟩, ⟨#[49]⟩, ⟨#[49, 49, 49, 49, 49, 49, 49]⟩] ⟨#[]⟩ _ (five_cells h0 h1 h2 h3 h4) hb (by simp) (by simp) hl).mono ?_
  rintro e w1 ⟨rfl, b1⟩
  clear h0 h1 h2 h3 h4 hl
  rw [HJ.out]
  go_wp2_with fail
  go_ret
  exact ⟨rfl, b1⟩
/-- impl.WireOf. -/
theorem implWireOf (id : Int) (rm : Bool) (ln : Int) (a : Option Addr) (D : List Int) (c : Nat) (w : World) (hd : Nums a D w) :
    Calls Tryz.prog 105 #[frV id rm ln a D.length c] w fun e w' => e = .returned (.string (wireV id rm ln D)) ∧ Below w.heap.size w w' := by
  have f0 := Four.made (.int .i64 id) (.bool rm) (.int .i64 ln) (.slice a D.length c) 35 (Below.refl w.heap.size w)
  go_enter Tryz.func105, Tryz.ntmps105
  go_wp2_with fail
  refine (implFrameOk _ _ _ _ _ _ _ (hd.alloc _)).mono ?_
  rintro e w1 ⟨rfl, b1⟩
  replace f0 := f0.below b1
  clear b1
  cases hok : frOk id rm ln D with
  | false =>
    have HV := Lib.hid (wireV_no hok)
    clear hok
    go_wp2_with fail
    go_ret
    exact ⟨by rw [HV.out]; rfl, f0.2⟩
  | true =>
    have HV := Lib.hid (wireV_yes hok)
    have hfl := full_len id rm ln D
    have hsl := stfV_len (fullV id rm ln D)
    clear hok
    have fk := f0
    obtain ⟨⟨c0, c1, c2, c3⟩, _⟩ := fk
    go_wp2_with fail
    refine (implChecked _ _ _ _ _ _ _ (hd.below f0.2)).mono ?_
    rintro e w2 ⟨rfl, b2⟩
    replace f0 := f0.below b2
    clear b2 c0 c1 c2 c3
    generalize fullV id rm ln D = u at *
    go_wp2_with fail
    refine (implStuffed _ _ (by unfold maxLen; omega)).mono ?_
    rintro e w4 ⟨rfl, b2⟩
    replace f0 := f0.below b2
    clear b2
    generalize stfV u = t at *
    generalize stfOk u = tk at *
    go_wp2_with fail
    have f5 := f0.alloc (.cells #[.string t, .string ⟨#[49]⟩, .string ⟨#[49]⟩, .string ⟨#[49]⟩, .string ⟨#[49, 49, 49, 49, 49, 49, 49]⟩] 9)
    refine (joined _ t _ hsl (by rw [World.cell?_alloc_at _ _ _ _ rfl]; rfl) (by rw [World.cell?_alloc_at _ _ _ _ rfl]; rfl) (by rw [World.cell?_alloc_at _ _ _ _ rfl]; rfl) (by rw [World.cell?_alloc_at _ _ _ _ rfl]; rfl)
      (by rw [World.cell?_alloc_at _ _ _ _ rfl]; rfl) (by simp)).mono ?_
    rintro e w5 ⟨rfl, b2⟩
    replace f5 := f5.below b2
    clear b2 f0
    generalize t ++ ones = v at *
    go_wp2_with fail
    go_ret
    exact ⟨by rw [HV.out]; rfl, f5.2⟩
/-- spec.WireOf. -/
theorem specWireOf (id : Int) (rm : Bool) (ln : Int) (a : Option Addr) (D : List Int) (c : Nat) (w : World) (hd : Nums a D w) :
    Calls Tryz.prog 92 #[frV id rm ln a D.length c] w fun e w' => e = .returned (.string (wireV id rm ln D)) ∧ Below w.heap.size w w' := by
  have f0 := Four.made (.int .i64 id) (.bool rm) (.int .i64 ln) (.slice a D.length c) 35 (Below.refl w.heap.size w)
  go_enter Tryz.func92, Tryz.ntmps92
  go_wp2_with fail
  refine (specFrameOk _ _ _ _ _ _ _ (hd.alloc _)).mono ?_
  rintro e w1 ⟨rfl, b1⟩
  replace f0 := f0.below b1
  clear b1
  cases hok : frOk id rm ln D with
  | false =>
    have HV := Lib.hid (wireV_no hok)
    clear hok
    go_wp2_with fail
    go_ret
    exact ⟨by rw [HV.out]; rfl, f0.2⟩
  | true =>
    have HV := Lib.hid (wireV_yes hok)
    have hfl := full_len id rm ln D
    clear hok
    have fk := f0
    obtain ⟨⟨c0, c1, c2, c3⟩, _⟩ := fk
    go_wp2_with fail
    refine (specFull _ _ _ _ _ _ _ (hd.below f0.2)).mono ?_
    rintro e w2 ⟨rfl, b2⟩
    replace f0 := f0.below b2
    clear b2 c0 c1 c2 c3
    generalize fullV id rm ln D = u at *
    go_wp2_with fail
    refine (specStuffed _ _ (by unfold maxLen; omega)).mono ?_
    rintro e w4 ⟨rfl, b2⟩
    replace f0 := f0.below b2
    clear b2
    have HO : Hid (ones = ⟨#[49, 49, 49, 49, 49, 49, 49, 49, 49, 49]⟩) := Lib.hid rfl
    have hsl := stfV_len u
    generalize stfV u = t at *
    generalize stfOk u = tk at *
    go_wp2_with fail
    go_ret
    exact ⟨by rw [HV.out, HO.out]; rfl, f0.2⟩
/-- impl.LengthOf. -/
theorem implLengthOf (id : Int) (rm : Bool) (ln : Int) (a : Option Addr) (D : List Int) (c : Nat) (w : World) (hd : Nums a D w) :
    Calls Tryz.prog 89 #[frV id rm ln a D.length c] w fun e w' => e = .returned (.int .i64 (lengthV id rm ln D)) ∧ Below w.heap.size w w' := by
  have f0 := Four.made (.int .i64 id) (.bool rm) (.int .i64 ln) (.slice a D.length c) 35 (Below.refl w.heap.size w)
  go_enter Tryz.func89, Tryz.ntmps89
  go_wp2_with fail
  refine (implFrameOk _ _ _ _ _ _ _ (hd.alloc _)).mono ?_
  rintro e w1 ⟨rfl, b1⟩
  replace f0 := f0.below b1
  clear b1
  cases hok : frOk id rm ln D with
  | false =>
    have HV := Lib.hid (lengthV_no hok)
    clear hok
    go_wp2_with fail
    go_ret
    exact ⟨ret_int HV.out.symm, f0.2⟩
  | true =>
    have HV := Lib.hid (lengthV_yes hok)
    have hl := wire_len id rm ln D
    clear hok
    have fk := f0
    obtain ⟨⟨c0, c1, c2, c3⟩, _⟩ := fk
    go_wp2_with fail
    refine (implWireOf _ _ _ _ _ _ _ (hd.below f0.2)).mono ?_
    rintro e w2 ⟨rfl, b2⟩
    replace f0 := f0.below b2
    clear b2 c0 c1 c2 c3
    generalize wireV id rm ln D = u at *
    go_wp2_with fail
    go_ret
    exact ⟨ret_int HV.out.symm, f0.2⟩
/-- spec.LengthOf. -/
theorem specLengthOf (id : Int) (rm : Bool) (ln : Int) (a : Option Addr) (D : List Int) (c : Nat) (w : World) (hd : Nums a D w) :
    Calls Tryz.prog 72 #[frV id rm ln a D.length c] w fun e w' => e = .returned (.int .i64 (lengthV id rm ln D)) ∧ Below w.heap.size w w' := by
  have f0 := Four.made (.int .i64 id) (.bool rm) (.int .i64 ln) (.slice a D.length c) 35 (Below.refl w.heap.size w)
  go_enter Tryz.func72, Tryz.ntmps72
  go_wp2_with fail
  refine (specFrameOk _ _ _ _ _ _ _ (hd.alloc _)).mono ?_
  rintro e w1 ⟨rfl, b1⟩
  replace f0 := f0.below b1
  clear b1
  cases hok : frOk id rm ln D with
  | false =>
    have HV := Lib.hid (lengthV_no hok)
    clear hok
    go_wp2_with fail
    go_ret
    exact ⟨ret_int HV.out.symm, f0.2⟩
  | true =>
    have HV := Lib.hid (lengthV_yes hok)
    have hl := wire_len id rm ln D
    clear hok
    have fk := f0
    obtain ⟨⟨c0, c1, c2, c3⟩, _⟩ := fk
    go_wp2_with fail
    refine (specWireOf _ _ _ _ _ _ _ (hd.below f0.2)).mono ?_
    rintro e w2 ⟨rfl, b2⟩
    replace f0 := f0.below b2
    clear b2 c0 c1 c2 c3
    generalize wireV id rm ln D = u at *
    go_wp2_with fail
    go_ret
    exact ⟨ret_int HV.out.symm, f0.2⟩

end Go.Proofs.YtnhmecabppaboaaGreat

/- A right server stays right when a frame is put into it. -/

set_option linter.unusedVariables false
set_option linter.unusedSimpArgs false
set_option maxRecDepth 20000
namespace Go.Proofs.YtnhmecabppaboaaGreat
open Go.RowKit

theorem newS_box {n : Int} (h : 2 ≤ n ∧ n ≤ 6) : srvB ⟨List.replicate n.toNat [], 0, 0, 0, 0⟩ = true := by
  refine srvB_iff.2 ⟨boxesB_iff.2 ⟨?_, ?_, fun j hj => ?_⟩, by simp, by simp, by simp, by simp, (sndB_low (by simp)).2 ⟨rfl, rfl⟩⟩
  · simp; omega
  · simp; omega
  · have e : nthB (List.replicate n.toNat []) j = [] := by
      unfold nthB
      rw [List.getD_eq_getElem?_getD, List.getElem?_replicate]
      split <;> rfl
    show boxB (nthB (List.replicate n.toNat []) j) = true
    rw [e]
    exact boxB_yes (Nat.zero_le _) (fun j hj => absurd hj (Nat.not_lt_zero _))
theorem putS_right {s : Srv} (node : Int) (f : Frm) (h : srvB s = true) : srvB (putS s node f).1 = true := by
  obtain ⟨hb, h1, h2, h3, h4, h5⟩ := srvB_iff.1 h
  obtain ⟨b1, b2, b3⟩ := boxesB_iff.1 hb
  unfold putS
  rw [if_pos h]
  split
  · rename_i hn
    split
    · exact h
    · rename_i hne
      have hlt : node.toNat < s.bx.length := by omega
      obtain ⟨p1, p2, _, _⟩ := put_facts f (b3 _ hlt)
      have hat := nthB_set hlt (putV (nthB s.bx node.toNat) f).1
      refine srvB_iff.2 ⟨boxesB_iff.2 ⟨by simpa using b1, by simpa using b2, fun j hj => ?_⟩, h1, h2, h3, h4, ?_⟩
      · have hj' : j < s.bx.length := by simpa using hj
        show boxB (nthB (s.bx.set node.toNat (putV (nthB s.bx node.toNat) f).1) j) = true
        rw [hat]
        split
        · exact p1
        · exact b3 j hj'
      · by_cases h3' : s.busy ≤ 3
        · exact (sndB_low (s := ⟨s.bx.set node.toNat (putV (nthB s.bx node.toNat) f).1, s.busy, s.node, s.rank, s.now⟩) h3').2 ((sndB_low h3').1 h5)
        · obtain ⟨q1, q2, q3⟩ := (sndB_high h3').1 h5
          refine (sndB_high (s := ⟨s.bx.set node.toNat (putV (nthB s.bx node.toNat) f).1, s.busy, s.node, s.rank, s.now⟩) h3').2 ⟨q1, by simpa using q2, ?_⟩
          show hasB (nthB (s.bx.set node.toNat (putV (nthB s.bx node.toNat) f).1) s.node.toNat) s.rank = true
          rw [hat]
          split
          · rename_i e
            have e2 : s.node = node := by omega
            obtain ⟨j, hj, hr⟩ := hasB_iff.1 q3
            have hr2 : rkF (nthF (nthB s.bx s.node.toNat) j) ≠ rkF f := by rw [hr]; intro h6; exact hne ⟨by omega, e2, h6⟩
            rw [e] at hj hr hr2
            obtain ⟨i, hi, hx⟩ := mem_nthF.1 (p2 _ (mem_nthF.2 ⟨j, hj, rfl⟩) hr2)
            exact hasB_iff.2 ⟨i, hi, by rw [hx]; exact hr⟩
          · exact q3
  · exact h
end Go.Proofs.YtnhmecabppaboaaGreat

/- Between two frames of a server's run lie at least four bits, plain. -/

set_option linter.unusedVariables false
set_option linter.unusedSimpArgs false
set_option maxRecDepth 20000
namespace Go.Proofs.YtnhmecabppaboaaGreat
open Go.RowKit

/-- How far ahead the next end of a frame lies, at least. -/
def aheadS (s : Srv) : Int := if s.busy ≤ 3 then s.busy else s.busy - 4
theorem bitS_busy (s : Srv) : (bitS s).busy = if 0 < (setS s).busy then (setS s).busy - 1 else (setS s).busy := by
  unfold bitS
  dsimp only
  split
  · split <;> rfl
  · rfl
theorem bitE_at {s : Srv} {e : Ev} (h : e ∈ bitE s) : e.at_ = s.now ∧ (setS s).busy = 4 := by
  unfold bitE at h
  split at h
  · rename_i hc
    rw [List.mem_singleton] at h
    subst h
    exact ⟨(setS_bx s).2, by omega⟩
  · cases h
theorem setS_busy' {s : Srv} (h : srvB s = true) : (setS s).busy = s.busy ∨ s.busy = 0 ∧ 44 ≤ (setS s).busy := by
  by_cases h0 : s.busy = 0
  · rw [setS_free h0]
    rcases (begS_right h h0).2 with e | e
    · left; omega
    · right; exact ⟨h0, e⟩
  · left; rw [setS_busy h0]
theorem bit_ahead {s : Srv} (h : srvB s = true) {a : Int} (ha : a + 4 ≤ s.now + aheadS s) : a + 4 ≤ (bitS s).now + aheadS (bitS s) ∧ ∀ e ∈ bitE s, a + 4 ≤ e.at_ := by
  have hb := (srvB_iff.1 h).2.1
  have h1 := bitS_busy s
  have h2 := bitS_now s
  unfold aheadS at ha ⊢
  refine ⟨?_, fun e he => ?_⟩
  · rw [h2, h1]
    rcases setS_busy' h with e | ⟨e0, e⟩
    · rw [e]; split at ha <;> repeat' split
      all_goals omega
    · split at ha <;> repeat' split
      all_goals omega
  · obtain ⟨e1, e2⟩ := bitE_at he
    rcases setS_busy' h with e | ⟨e0, e⟩
    · split at ha <;> omega
    · split at ha <;> omega
theorem bit_new {s : Srv} (h : srvB s = true) {e : Ev} (he : e ∈ bitE s) : e.at_ + 4 ≤ (bitS s).now + aheadS (bitS s) := by
  obtain ⟨e1, e2⟩ := bitE_at he
  have h1 := bitS_busy s
  have h2 := bitS_now s
  unfold aheadS
  rw [h2, h1, e2]
  simp
  omega
theorem run_gap {s : Srv} (h : srvB s = true) : ∀ k : Nat, s.now + k ≤ 100000 → (∀ e ∈ runF s k, e.at_ + 4 ≤ (runS s k).now + aheadS (runS s k)) ∧ (runF s k).Pairwise fun e f => e.at_ + 4 ≤ f.at_
  | 0, _ => ⟨fun e he => (nomatch he), List.Pairwise.nil⟩
  | k + 1, hk => by
    obtain ⟨h1, h2⟩ := run_gap h k (by omega)
    have hr := runS_right h k (by omega)
    have hl := bitE_len (runS s k)
    rw [runF, runS]
    refine ⟨fun e he => ?_, List.pairwise_append.2 ⟨h2, ?_, fun e he f hf => (bit_ahead hr (h1 e he)).2 f hf⟩⟩
    · rcases List.mem_append.1 he with h' | h'
      · exact (bit_ahead hr (h1 e h')).1
      · exact bit_new hr h'
    · match hb : bitE (runS s k), hl with
      | [], _ => exact List.Pairwise.nil
      | [x], _ => exact List.pairwise_singleton _ _
theorem for_gap {s : Srv} (h : srvB s = true) (bits : Int) {j : Nat} (hj : j + 1 < (forE s bits).length) : (nthE (forE s bits) j).at_ + 4 ≤ (nthE (forE s bits) (j + 1)).at_ := by
  have hn := (srvB_iff.1 h).2.2.2.2.1
  have hk := (forK_le bits hn).2
  have hp := (run_gap h (forK s bits) hk).2
  have e : forE s bits = runF s (forK s bits) := by unfold forE; rw [if_pos h]
  rw [e] at hj ⊢
  have := (List.pairwise_iff_getElem.1 hp) j (j + 1) (by omega) hj (by omega)
  simpa [nthE, List.getD_eq_getElem?_getD, hj, show j < (runF s (forK s bits)).length by omega] using this
theorem run_at {s : Srv} : ∀ (k : Nat) (e : Ev), e ∈ runF s k → s.now ≤ e.at_ ∧ e.at_ < s.now + k
  | 0, e, he => nomatch he
  | k + 1, e, he => by
    rw [runF] at he
    rcases List.mem_append.1 he with h | h
    · have := run_at k e h; omega
    · have := (bitE_at h).1
      rw [runS_now] at this
      omega
theorem for_at {s : Srv} (h : srvB s = true) (bits : Int) {j : Nat} (hj : j < (forE s bits).length) : 0 ≤ (nthE (forE s bits) j).at_ ∧ (nthE (forE s bits) j).at_ ≤ 100000 := by
  have hn := (srvB_iff.1 h).2.2.2
  have hk := (forK_le bits hn.2.1).2
  have e : forE s bits = runF s (forK s bits) := by unfold forE; rw [if_pos h]
  rw [e] at hj ⊢
  have e2 : nthE (runF s (forK s bits)) j = (runF s (forK s bits))[j] := by simp [nthE, List.getD_eq_getElem?_getD, hj]
  rw [e2]
  have := run_at (s := s) (forK s bits) _ (List.getElem_mem hj)
  omega
end Go.Proofs.YtnhmecabppaboaaGreat
