/- Events that the call owns; laws.markEventS, heldEventS. -/
import Derived.Test.YtnhmecabppaboaaGreatM15
import Derived.Test.YtnhmecabppaboaaGreatM19
import Derived.Test.YtnhmecabppaboaaGreatM25
import Derived.Deep.DeepCutAuto
import Derived.Deep.CutRange
import Derived.Test.YtnhmecabppaboaaGreatM3
import Derived.Test.YtnhmecabppaboaaGreatM21

set_option linter.unusedVariables false
set_option linter.unusedSimpArgs false
namespace Go.Proofs.YtnhmecabppaboaaGreat
open Go.RowKit

theorem OwnE.kp {Y : Nat → Prop} {lo hi : Nat} {e : Ev} {p : EvP} {w w' : World} (h : OwnE lo hi e p w) (k : Kp Y w w') (hy : ∀ q, lo ≤ q → q < hi → Y q) : OwnE lo hi e p w' :=
  ⟨h.1.kp k fun q hq => hy q (h.1.1.lt q hq).1 (h.2 q hq), h.2⟩
/-- The slice at a holds the events N in a row of the call's own, each one's data in the blocks from L to H. -/
structure EvO (a : Option Addr) (N : List Ev) (P : Nat → EvP) (L H : Nat → Nat) (w : World) : Prop where
  row : ∀ j, j < N.length → ∃ g, a = some ⟨g, 0, none⟩ ∧ ∃ cur : Array Value, w.heap[g]? = some (.cells cur 43 (0, 0)) ∧ ∀ i v, (evC (nthE N j) (P j).1 (P j).2).toList[i]? = some v → cur[j * 7 + i]? = some v
  mem : ∀ j, j < N.length → OwnE (L j) (H j) (nthE N j) (P j) w
  out : ∀ j, j < N.length → L j ≤ H j ∧ H j ≤ w.heap.size ∧ ∀ g, a = some ⟨g, 0, none⟩ → g < L j ∨ H j ≤ g
  far : ∀ i j, i < N.length → j < N.length → i ≠ j → H i ≤ L j ∨ H j ≤ L i
/-- The blocks that are not theirs. -/
def EvY (a : Option Addr) (n : Nat) (L H : Nat → Nat) (q : Nat) : Prop := (∀ g, a = some ⟨g, 0, none⟩ → q ≠ g) ∧ ∀ j, j < n → q < L j ∨ H j ≤ q
section
variable {Y : Nat → Prop} {a : Option Addr} {N : List Ev} {P : Nat → EvP} {L H : Nat → Nat} {w w' : World}
theorem EvO.kp (h : EvO a N P L H w) (k : Kp Y w w') (hy : ∀ q, ¬ Y q → EvY a N.length L H q) : EvO a N P L H w' := by
  refine ⟨fun j hj => ?_, fun j hj => (h.mem j hj).kp k fun q h1 h2 => ?_, fun j hj => ?_, h.far⟩
  · obtain ⟨g, ha, cur, hb, hc⟩ := h.row j hj
    refine ⟨g, ha, cur, (k.block g ?_ (Array.getElem?_eq_some_iff.1 hb).1).trans hb, hc⟩
    exact Classical.byContradiction fun hn => (hy g hn).1 g ha rfl
  · refine Classical.byContradiction fun hn => ?_
    have := (hy q hn).2 j hj
    omega
  · have h1 := h.out j hj
    exact ⟨h1.1, Nat.le_trans h1.2.1 k.size, h1.2.2⟩
theorem EvO.below (h : EvO a N P L H w) (b : Below w.heap.size w w') : EvO a N P L H w' := h.kp (Y := fun _ => True) (Kp.ofBelow b) fun q hq => absurd trivial hq
theorem EvO.evs (h : EvO a N P L H w) (hm : N.length ≤ maxLen) : Evs a N w := by
  refine ⟨hm, fun j hj => ?_⟩
  obtain ⟨g, ha, cur, hb, hc⟩ := h.row j hj
  refine ⟨g, 0, (P j).1, (P j).2, ha, fun i v hv => ?_, ?_⟩
  · rw [cell_of_row w g _ _ _ _ hb, Nat.zero_add]; exact hc i v hv
  · obtain ⟨a', c', e, hn⟩ := (h.mem j hj).1.nums
    simp only [Value.slice.injEq] at e
    obtain ⟨e1, -, -⟩ := e
    rw [e1]; exact hn
theorem EvO.nil (a : Option Addr) (P : Nat → EvP) (L H : Nat → Nat) (w : World) : EvO a [] P L H w :=
  ⟨fun j hj => absurd hj (Nat.not_lt_zero _), fun j hj => absurd hj (Nat.not_lt_zero _), fun j hj => absurd hj (Nat.not_lt_zero _), fun i j hi => absurd hi (Nat.not_lt_zero _)⟩
theorem RowE.evo {B : Nat} {c : Nat} {n : Nat} (h : RowE OwnE B N.length N P L H (.slice a n c) w) : EvO a N P L H w := by
  refine ⟨fun j hj => ?_, h.mem, fun j hj => ?_, fun i j hi hj hij => ?_⟩
  · rcases h.own.2 with ⟨e, h0⟩ | ⟨g, cap, cur, e, hb, hg, hle, hmx, hcs, htk⟩
    · rw [h0] at hj; exact absurd hj (Nat.not_lt_zero _)
    · simp only [Value.slice.injEq] at e
      refine ⟨g, e.1, cur, hg, fun i x hx => ?_⟩
      have hi : i < 7 := (List.getElem?_eq_some_iff.1 hx).1
      have h2 := flatE_at N P N.length j i x hj hx
      rw [← htk, List.getElem?_take_of_lt (by omega)] at h2
      rw [← Array.getElem?_toList]
      exact h2
  · have ho := h.out j hj
    exact ⟨ho.2.1, ho.2.2, fun g hg => h.apart j hj g (by rw [hg]; rfl)⟩
  · rcases Nat.lt_or_gt_of_ne hij with e | e
    · exact .inl (h.far i j e hj)
    · exact .inr (h.far j i e hi)
end
/-! ### Marks. -/
def k6E (k : Int) (e : Ev) : Int := k + 1 + 1 + 1 + 1 + 1 + 1 + (e.fr.D.length : Int)
def mkEv (k : Int) (e : Ev) : Ev := ⟨k, (k + 1).toNat, k + 1 + 1, ⟨k + 1 + 1 + 1, (k + 1 + 1 + 1 + 1) % 3 == 0, k + 1 + 1 + 1 + 1 + 1, marks (k + 1 + 1 + 1 + 1 + 1 + 1) e.fr.D.length⟩⟩
theorem mkEv_C {k : Int} {e : Ev} {ad : Option Addr} {cd : Nat} (h : 0 ≤ k) : evC (mkEv k e) ad cd = #[.int .i64 k, .int .i64 (k + 1), .int .i64 (k + 1 + 1), .int .i64 (k + 1 + 1 + 1), .bool ((k + 1 + 1 + 1 + 1) % 3 == 0), .int .i64 (k + 1 + 1 + 1 + 1 + 1), .slice ad e.fr.D.length cd] := by
  simp only [mkEv, evC, marks_len, Int.toNat_of_nonneg (show 0 ≤ k + 1 by omega)]
/-- How much the first k events' data take up. -/
def roomE (N : List Ev) (k : Nat) : Nat := ((N.take k).map fun e => e.fr.D.length).sum
theorem roomE_zero (N : List Ev) : roomE N 0 = 0 := by simp [roomE]
theorem roomE_succ (N : List Ev) (k : Nat) (h : k < N.length) : roomE N (k + 1) = roomE N k + (nthE N k).fr.D.length := by
  have e : N.take (k + 1) = N.take k ++ [nthE N k] := by
    rw [List.take_add_one, List.getElem?_eq_getElem h, nthE, List.getD_eq_getElem?_getD, List.getElem?_eq_getElem h]; rfl
  unfold roomE
  rw [e, List.map_append, List.sum_append]
  simp
theorem roomE_le (N : List Ev) {j k : Nat} (h : j ≤ k) : roomE N j ≤ roomE N k := by
  induction k with
  | zero => rw [Nat.le_zero.1 h]; exact Nat.le_refl _
  | succ k ih =>
    by_cases e : j = k + 1
    · rw [e]; exact Nat.le_refl _
    · refine Nat.le_trans (ih (by omega)) ?_
      by_cases hk : k < N.length
      · rw [roomE_succ N k hk]; omega
      · simp [roomE, List.take_of_length_le (Nat.le_of_not_lt hk), List.take_of_length_le (Nat.le_succ_of_le (Nat.le_of_not_lt hk))]
def kE (k : Int) (N : List Ev) (j : Nat) : Int := k + 6 * (j : Int) + (roomE N j : Int)
theorem kE_zero (k : Int) (N : List Ev) : kE k N 0 = k := by simp [kE, roomE_zero]
theorem kE_succ {k : Int} {N : List Ev} {j : Nat} (h : j < N.length) : kE k N (j + 1) = k6E (kE k N j) (nthE N j) := by
  unfold kE k6E
  rw [roomE_succ N j h]
  omega
/-- The first j of them marked. -/
def mixE (k : Int) (N : List Ev) (j : Nat) : List Ev := (List.range N.length).map fun i => if i < j then mkEv (kE k N i) (nthE N i) else nthE N i
theorem mixE_len (k : Int) (N : List Ev) (j : Nat) : (mixE k N j).length = N.length := by simp [mixE]
theorem mixE_nth {k : Int} {N : List Ev} {j i : Nat} (h : i < N.length) : nthE (mixE k N j) i = if i < j then mkEv (kE k N i) (nthE N i) else nthE N i := by
  simp [nthE, mixE, h]
theorem mixE_zero (k : Int) (N : List Ev) : mixE k N 0 = N := by
  apply List.ext_getElem
  · exact mixE_len _ _ _
  · intro i h1 h2
    simp [mixE, nthE, h2]
set_option maxHeartbeats 16000000 in
set_option maxRecDepth 20000 in
/-- laws.markEventS. -/
theorem markEvents (a : Option Addr) (N : List Ev) (P : Nat → EvP) (L H : Nat → Nat) (cap : Nat) (k0 : Int) (w : World) (HO : EvO a N P L H w) (hm : N.length ≤ 2000000) (hs : roomE N N.length ≤ 2000000) (h0 : 0 ≤ k0) (h1 : k0 ≤ 100000000) :
    Calls Tryz.prog 24 #[.slice a N.length cap, .int .i64 k0] w fun e w' => e = .returned (.int .i64 (kE k0 N N.length)) ∧ EvO a (mixE k0 N N.length) P L H w' ∧ Kp (EvY a N.length L H) w w' := by
  go_enter Tryz.func24, Tryz.ntmps24
  go_wp2_with fail
  go_loopw [1, 5] (fun kk i wr => ∃ j : Nat, j ≤ N.length ∧ i = .int .i64 j ∧ kk = .int .i64 (kE k0 N j) ∧ EvO a (mixE k0 N j) P L H wr ∧ Kp (EvY a N.length L H) w wr) (fun _ i _ => N.length - (intOf i).toNat)
  case atStart => exact ⟨0, Nat.zero_le _, rfl, by rw [kE_zero], by rw [mixE_zero]; exact HO, Kp.refl _ _⟩
  case round =>
    obtain ⟨j, hj, rfl, rfl, HR, M0⟩ := hrel
    by_cases hlt : j < N.length
    case neg =>
      obtain rfl : j = N.length := by omega
      go_wp2_with fail
      go_ret
      exact ⟨rfl, HR, M0⟩
    have hlm : (mixE k0 N j).length = N.length := mixE_len _ _ _
    have hlm1 : (mixE k0 N (j + 1)).length = N.length := mixE_len _ _ _
    have hrj := roomE_succ N j hlt
    have hrl := roomE_le N (show j + 1 ≤ N.length by omega)
    have HK : Hid (kE k0 N (j + 1) = k6E (kE k0 N j) (nthE N j)) := Lib.hid (kE_succ hlt)
    have hkb : 0 ≤ kE k0 N j ∧ kE k0 N j ≤ 200000000 := by unfold kE; omega
    have hnn : nthE (mixE k0 N j) j = nthE N j := by rw [mixE_nth hlt, if_neg (by omega)]
    have hnn' : nthE (mixE k0 N (j + 1)) j = mkEv (kE k0 N j) (nthE N j) := by rw [mixE_nth hlt, if_pos (by omega)]
    have hoth : ∀ i, i < N.length → i ≠ j → nthE (mixE k0 N (j + 1)) i = nthE (mixE k0 N j) i := by
      intro i hi0 hne
      rw [mixE_nth hi0, mixE_nth hi0]
      by_cases e : i < j
      · rw [if_pos e, if_pos (by omega)]
      · rw [if_neg e, if_neg (by omega)]
    obtain ⟨g, rfl, cur, hblk, hc⟩ := HR.row j (by rw [hlm]; exact hlt)
    have I := HR.mem j (by rw [hlm]; exact hlt)
    have ho := HR.out j (by rw [hlm]; exact hlt)
    have hog := ho.2.2 g rfl
    rw [hnn] at hc I
    replace HR := Lib.hid HR
    replace hnn' := Lib.hid hnn'
    replace hoth := Lib.hid hoth
    replace hlm := Lib.hid hlm
    replace hlm1 := Lib.hid hlm1
    clear hnn
    have hDl : (nthE N j).fr.D.length ≤ 2000000 := by omega
    clear hrj hrl
    generalize nthE N j = e at *
    generalize kE k0 N j = k at *
    generalize hP : P j = p at *
    replace hP := Lib.hid hP
    have cc : ∀ i v, (evC e p.1 p.2).toList[i]? = some v → wr.cell? ⟨g, j * 7 + i, none⟩ = some v := fun i v hv => by rw [cell_of_row wr g _ _ _ _ hblk]; exact hc i v hv
    have hcap : j * 7 + 7 ≤ cur.size := by
      have := (Array.getElem?_eq_some_iff.1 (hc 6 _ rfl)).1
      omega
    have ff : ∀ i, wr.frozen? ⟨g, i, none⟩ = false := fun i => frozen_of_row wr g i _ _ hblk
    have c0 := cc 0 _ rfl
    have c1 := cc 1 _ rfl
    have c2 := cc 2 _ rfl
    have c3 := cc 3 _ rfl
    have c4 := cc 4 _ rfl
    have c5 := cc 5 _ rfl
    have c6 := cc 6 _ rfl
    have f0 := ff (j * 7 + 0)
    have f1 := ff (j * 7 + 1)
    have f2 := ff (j * 7 + 2)
    have f3 := ff (j * 7 + 3)
    have f4 := ff (j * 7 + 4)
    have f5 := ff (j * 7 + 5)
    rw [Nat.add_zero] at c0 f0
    clear cc ff
    go_wp2_with fail
    generalize hW : World.setCell _ _ _ = W1
    obtain ⟨cur1, b1, hc1⟩ : ∃ cur1, W1.heap[g]? = some (.cells cur1 43 (0, 0)) ∧ cur1 = (((((cur.setIfInBounds (j * 7) (.int .i64 k)).setIfInBounds (j * 7 + 1) (.int .i64 (k + 1))).setIfInBounds (j * 7 + 2) (.int .i64 (k + 1 + 1))).setIfInBounds (j * 7 + 3) (.int .i64 (k + 1 + 1 + 1))).setIfInBounds (j * 7 + 3 + 1) (.bool ((k + 1 + 1 + 1 + 1) % 3 == 0))).setIfInBounds (j * 7 + 3 + 2) (.int .i64 (k + 1 + 1 + 1 + 1 + 1)) :=
      ⟨_, by rw [← hW]; exact heap_setCell_same _ _ _ _ _ _ (heap_setCell_same _ _ _ _ _ _ (heap_setCell_same _ _ _ _ _ _ (heap_setCell_same _ _ _ _ _ _ (heap_setCell_same _ _ _ _ _ _ (heap_setCell_same _ _ _ _ _ _ (hblk)))))), rfl⟩
    have m1 : Mid g (g + 1) wr W1 := by rw [← hW]; exact (((((mid_cell _ _ _ _).trans (mid_cell _ _ _ _)).trans (mid_cell _ _ _ _)).trans (mid_cell _ _ _ _)).trans (mid_cell _ _ _ _)).trans (mid_cell _ _ _ _)
    have k1 : Kp (fun q => q ≠ g) wr W1 := ⟨m1.size, fun q hq hl => m1.block q hl (by omega), m1.os, m1.tape, m1.output⟩
    have I1 := I.kp k1 fun q h1 h2 => by show q ≠ g; omega
    clear hW m1 c0 c1 c2 c3 c4 c5 c6 f0 f1 f2 f3 f4 f5 I
    refine (markInts (L j) e.fr.D p.1 p.2 _ W1 I1.1 hDl (by omega) (by omega)).mono ?_
    rintro e' w2 ⟨rfl, hd2, g2⟩
    have m2 : Mid (L j) (H j) W1 w2 := (Mid.refl (L j) (H j) W1).grown g2 (fun q hq => ⟨I1.1.low hq, I1.2 q hq⟩)
    have k2 : Kp (fun q => q < L j ∨ H j ≤ q) W1 w2 := ⟨m2.size, fun q hq hl => m2.block q hl hq, m2.os, m2.tape, m2.output⟩
    have b2 := (k2.block g (by show g < L j ∨ H j ≤ g; omega) (Array.getElem?_eq_some_iff.1 b1).1).trans b1
    have k12 : Kp (fun q => q ≠ g ∧ (q < L j ∨ H j ≤ q)) wr w2 := Kp.trans ⟨k1.size, fun q hq hl => k1.block q hq.1 hl, k1.os, k1.tape, k1.output⟩ ⟨k2.size, fun q hq hl => k2.block q hq.2 hl, k2.os, k2.tape, k2.output⟩
    have hin : ∀ i v, (evC (mkEv k e) p.1 p.2).toList[i]? = some v → cur1[j * 7 + i]? = some v := by
      intro i v hv
      have hi : i < 7 := (List.getElem?_eq_some_iff.1 hv).1
      rw [hc1]
      rw [mkEv_C hkb.1] at hv
      have C6 := hc 6 _ rfl
      match i, hi, hv with
      | 0, _, hv => (rw [← hv]; simp only [Array.getElem?_setIfInBounds, Array.size_setIfInBounds]; (repeat (first | rw [if_neg (by omega)] | rw [if_pos (by omega)] | rw [if_pos trivial])); rfl)
      | 1, _, hv => (rw [← hv]; simp only [Array.getElem?_setIfInBounds, Array.size_setIfInBounds]; (repeat (first | rw [if_neg (by omega)] | rw [if_pos (by omega)] | rw [if_pos trivial])); rfl)
      | 2, _, hv => (rw [← hv]; simp only [Array.getElem?_setIfInBounds, Array.size_setIfInBounds]; (repeat (first | rw [if_neg (by omega)] | rw [if_pos (by omega)] | rw [if_pos trivial])); rfl)
      | 3, _, hv => (rw [← hv]; simp only [Array.getElem?_setIfInBounds, Array.size_setIfInBounds]; (repeat (first | rw [if_neg (by omega)] | rw [if_pos (by omega)] | rw [if_pos trivial])); rfl)
      | 4, _, hv => (rw [← hv]; simp only [Array.getElem?_setIfInBounds, Array.size_setIfInBounds]; (repeat (first | rw [if_neg (by omega)] | rw [if_pos (by omega)] | rw [if_pos trivial])); rfl)
      | 5, _, hv => (rw [← hv]; simp only [Array.getElem?_setIfInBounds, Array.size_setIfInBounds]; (repeat (first | rw [if_neg (by omega)] | rw [if_pos (by omega)] | rw [if_pos trivial])); rfl)
      | 6, _, hv => (simp only [Array.getElem?_setIfInBounds]; (repeat rw [if_neg (by omega)]); rw [C6]; exact hv)
    have hout : ∀ i, i < j * 7 ∨ j * 7 + 7 ≤ i → cur1[i]? = cur[i]? := by
      intro i hi
      rw [hc1]
      simp only [Array.getElem?_setIfInBounds]
      repeat rw [if_neg (by omega)]
    have HR2 : EvO (some ⟨g, 0, none⟩) (mixE k0 N (j + 1)) P L H w2 := by
      have HR := HR.out
      refine ⟨fun i hi => ⟨g, rfl, cur1, b2, fun q v hv => ?_⟩, fun i hi => ?_, fun i hi => ?_, fun i q hi hq => ?_⟩
      · rw [hlm1.out] at hi
        by_cases e0 : i = j
        · subst e0
          rw [hnn'.out, hP.out] at hv
          exact hin q v hv
        · have hq : q < 7 := (List.getElem?_eq_some_iff.1 hv).1
          rw [hoth.out i hi e0] at hv
          obtain ⟨g', hg', cur', hb', hcc⟩ := HR.row i (by rw [hlm.out]; exact hi)
          cases hg'
          obtain rfl : cur' = cur := by
            have := hb'.symm.trans hblk
            injection this with this
            injection this
          rw [hout _ (by omega)]
          exact hcc q v hv
      · rw [hlm1.out] at hi
        by_cases e0 : i = j
        · subst e0
          rw [hnn'.out, hP.out]
          refine ⟨?_, ?_⟩
          · show OwnI (L i) (marks _ e.fr.D.length) (.slice p.1 (marks _ e.fr.D.length).length p.2) w2
            rw [marks_len]; exact hd2
          · show ∀ q, (Value.slice p.1 (marks _ e.fr.D.length).length p.2).ownBlock = some q → q < H i
            rw [marks_len]; exact I1.2
        · rw [hoth.out i hi e0]
          have h3 := HR.far i j (by rw [hlm.out]; exact hi) (by rw [hlm.out]; exact hlt) e0
          have h4 := (HR.out i (by rw [hlm.out]; exact hi)).2.2 g rfl
          exact (HR.mem i (by rw [hlm.out]; exact hi)).kp k12 fun q h1 h2 => by
            show q ≠ g ∧ (q < L j ∨ H j ≤ q)
            omega
      · rw [hlm1.out] at hi
        have h1 := HR.out i (by rw [hlm.out]; exact hi)
        exact ⟨h1.1, Nat.le_trans h1.2.1 k12.size, h1.2.2⟩
      · rw [hlm1.out] at hi hq
        exact HR.far i q (by rw [hlm.out]; exact hi) (by rw [hlm.out]; exact hq)
    have M2 : Kp (EvY (some ⟨g, 0, none⟩) N.length L H) w w2 := M0.trans ⟨k12.size, fun q hq hl => k12.block q ⟨hq.1 g rfl, hq.2 j hlt⟩ hl, k12.os, k12.tape, k12.output⟩
    have e6 : k + 1 + 1 + 1 + 1 + 1 + 1 + (e.fr.D.length : Int) = k6E k e := rfl
    rw [e6]
    have HK' := HK.out
    rw [← HK']
    clear HR M0 hd2 g2 m2 k2 k12 k1 b1 b2 hblk hc hin hout hc1 I1 HK' e6
    go_wp2_with fail
    go_roundw
    case rel => exact ⟨j + 1, hlt, by go_num, rfl, HR2, M2⟩
    case measure => simp [intOf]; omega
set_option maxHeartbeats 8000000 in
set_option maxRecDepth 20000 in
/-- laws.heldEventS. -/
theorem heldEvents (a : Option Addr) (N : List Ev) (c : Nat) (k0 : Int) (w : World) (hd : Evs a (mixE k0 N N.length) w) (hm : N.length ≤ 2000000) (hs : roomE N N.length ≤ 2000000) (h0 : 0 ≤ k0) (h1 : k0 ≤ 100000000) :
    Calls Tryz.prog 26 #[.slice a N.length c, .int .i64 k0] w fun e w' => e = .returned (.int .i64 (kE k0 N N.length)) ∧ Below w.heap.size w w' := by
  go_enter Tryz.func26, Tryz.ntmps26
  go_wp2_with fail
  go_loopw [1, 5] (fun kk i wr => ∃ j : Nat, j ≤ N.length ∧ i = .int .i64 j ∧ kk = .int .i64 (kE k0 N j) ∧ Below w.heap.size w wr) (fun _ i _ => N.length - (intOf i).toNat)
  case atStart => exact ⟨0, Nat.zero_le _, rfl, by rw [kE_zero], Below.refl _ _⟩
  case round =>
    obtain ⟨j, hj, rfl, rfl, B0⟩ := hrel
    by_cases hlt : j < N.length
    case neg =>
      obtain rfl : j = N.length := by omega
      go_wp2_with fail
      go_ret
      exact ⟨rfl, B0⟩
    obtain ⟨g, o, ad, cd, rfl, hc, hn⟩ := (hd.below B0).2 j (by rw [mixE_len]; exact hlt)
    rw [mixE_nth hlt, if_pos hlt] at hc hn
    have hrj := roomE_succ N j hlt
    have hrl := roomE_le N (show j + 1 ≤ N.length by omega)
    have HK : Hid (kE k0 N (j + 1) = k6E (kE k0 N j) (nthE N j)) := Lib.hid (kE_succ hlt)
    have hkb : 0 ≤ kE k0 N j ∧ kE k0 N j ≤ 200000000 := by unfold kE; omega
    have hDl : (nthE N j).fr.D.length ≤ 2000000 := by omega
    clear hrj hrl
    generalize nthE N j = e at *
    generalize kE k0 N j = k at *
    rw [mkEv_C hkb.1] at hc
    have cc : ∀ i v, (#[Value.int .i64 k, .int .i64 (k + 1), .int .i64 (k + 1 + 1), .int .i64 (k + 1 + 1 + 1), .bool ((k + 1 + 1 + 1 + 1) % 3 == 0), .int .i64 (k + 1 + 1 + 1 + 1 + 1), .slice ad e.fr.D.length cd] : Array Value).toList[i]? = some v → wr.cell? ⟨g, o + j * 7 + i, none⟩ = some v := fun i v hv => hc i v hv
    have hnm : Nums ad (marks (k + 1 + 1 + 1 + 1 + 1 + 1) e.fr.D.length) wr := hn
    clear hn hc
    have c0 := cc 0 _ rfl
    have c1 := cc 1 _ rfl
    have c2 := cc 2 _ rfl
    have c3 := cc 3 _ rfl
    have c4 := cc 4 _ rfl
    have c5 := cc 5 _ rfl
    have c6 := cc 6 _ rfl
    rw [Nat.add_zero] at c0
    clear cc
    have e6 : k + 1 + 1 + 1 + 1 + 1 + 1 + (e.fr.D.length : Int) = k6E k e := rfl
    have q6 : ¬ k6E k e < 0 := by rw [← e6]; omega
    go_wp2_with fail
    refine (heldInts ad e.fr.D.length cd _ wr hnm hDl (by omega) (by omega)).mono ?_
    rintro e' w2 ⟨rfl, rfl⟩
    rw [e6]
    have HK' := HK.out
    rw [← HK'] at q6 ⊢
    clear c0 c1 c2 c3 c4 c5 c6 hnm HK' e6
    go_wp2_with fail
    go_roundw
    case rel => exact ⟨j + 1, hlt, by go_num, rfl, B0⟩
    case measure => simp [intOf]; omega
end Go.Proofs.YtnhmecabppaboaaGreat

/- The walk of laws.FnExactServerPut. -/

set_option linter.unusedVariables false
set_option linter.unusedSimpArgs false
set_option maxRecDepth 20000
namespace Go.Proofs.YtnhmecabppaboaaGreat
open Go.RowKit

theorem ownLtS {B : Nat} {D : List Int} {v : Value} {w : World} (h : OwnI B D v w) : ∀ q, v.ownBlock = some q → q < w.heap.size := fun q hq => (h.1.lt q hq).2
theorem mid_setRowS (w : World) (g : Nat) (D : Array Value) : Mid g (g + 1) w (w.setRow g D) := ⟨rfl, rfl, rfl, by simp, fun k hk hc => setRow_other w g k D (by omega)⟩
section
variable {g : Nat} {a : Option Addr} {n c : Nat} {busy node rank now : Int} {T : TypeId} {w : World} {ops : Array Oper} {rest : List Oper} {o : Oper} {act : Act} {Q : Exit → Act → World → Prop} {x : Operand}
theorem svTakeL (h : w.heap[g]? = some (.cells (svC a n c busy node rank now) T (0, 0))) (ho : o.op = .load 46 x) (hx : act.eval x = .pointer (some ⟨g, 0, none⟩))
    (hw : Region.wanted o (yielded ops act.tmps) = true) (k : wpList Tryz.prog ops Q rest (act.put o.dst (svV a n c busy node rank now)) w) : wpList Tryz.prog ops Q (o :: rest) act w :=
  BigFrame.wpList_want hw fun _ hK => wp_load_row 46 x ho g hx T (svC a n c busy node rank now) (0, 0) _ h Tryz.underlying46 rfl (by kernel_rfl) (hK _ _ k)
theorem sv_tookL (h : w.heap[g]? = some (.cells (svC a n c busy node rank now) T (0, 0))) (ho : o.op = .load 46 x) (hx : act.eval x = .pointer (some ⟨g, 0, none⟩)) : (execOp act.eval o).run Tryz.prog w = .ok (.value (svV a n c busy node rank now)) w := by
  unfold execOp
  simp only [ho, hx, Instr.loadAt, Instr.sureAddr, Sem.run_bind, Sem.run_pure, Result.andThen_ok, run_loadVar_row w g T 46 (svC a n c busy node rank now) (0, 0) _ h Tryz.underlying46 rfl (by kernel_rfl)]
theorem svTakeI (h : w.heap[g]? = some (.cells (svC a n c busy node rank now) T (0, 0))) (ho : o.op = .load 26 x) (hx : act.eval x = .pointer (some ⟨g, 0, none⟩))
    (hw : Region.wanted o (yielded ops act.tmps) = true) (k : wpList Tryz.prog ops Q rest (act.put o.dst (svV a n c busy node rank now)) w) : wpList Tryz.prog ops Q (o :: rest) act w :=
  BigFrame.wpList_want hw fun _ hK => wp_load_row 26 x ho g hx T (svC a n c busy node rank now) (0, 0) _ h Tryz.underlying26 rfl (by kernel_rfl) (hK _ _ k)
theorem sv_tookI (h : w.heap[g]? = some (.cells (svC a n c busy node rank now) T (0, 0))) (ho : o.op = .load 26 x) (hx : act.eval x = .pointer (some ⟨g, 0, none⟩)) : (execOp act.eval o).run Tryz.prog w = .ok (.value (svV a n c busy node rank now)) w := by
  unfold execOp
  simp only [ho, hx, Instr.loadAt, Instr.sureAddr, Sem.run_bind, Sem.run_pure, Result.andThen_ok, run_loadVar_row w g T 26 (svC a n c busy node rank now) (0, 0) _ h Tryz.underlying26 rfl (by kernel_rfl)]
end
/-- A server goes into a fresh block, in a region that draws its order. -/
theorem h_putS {md : Region.Mode} {ops : Array Oper} {Q : Exit → Act → World → Prop} {S : World → Prop} (i g : Nat) {oi : Oper} {fuel : Nat} {listed : Array Bool} {a : Act} {w : World} {a2 : Option Addr} {len c2 : Nat} {busy node rank now : Int} {x y : Operand} {C : Array Value}
    (hi : ops.toList[i]? = some oi) (hd : oi.dst = none) (hr : Region.ready md ops listed = [i]) (hw : Region.wanted oi (yielded ops a.tmps) = true) (ho : oi.op = .store 26 x y) (hx : a.eval x = .pointer (some ⟨g, 0, none⟩)) (hy : a.eval y = svV a2 len c2 busy node rank now)
    (hg : w.heap[g]? = some (.cells C 26 (0, 0))) (hC : C.size = 5) (hS : S (w.setRow g (svC a2 len c2 busy node rank now)))
    (k : wpAnyH Tryz.prog md ops Q S fuel (listed.setIfInBounds i true) a (w.setRow g (svC a2 len c2 busy node rank now))) : wpAnyH Tryz.prog md ops Q S (fuel + 1) listed a w := by
  refine held_op i (op_at hi) hr hw (wp_store_row 26 x y ho g (svC a2 len c2 busy node rank now) hx hy 26 C hg (by kernel_rfl) (hC.trans rfl) (by simp [Value.oneCell']) ⟨hS, ?_⟩)
  rw [hd]
  exact k
/-- A server and a frame, as a law of both holds them. -/
structure Yq (ga gb : Nat) (a : Option Addr) (X : List (List Frm)) (c : Nat) (busy nd rank now : Int) (f : Frm) (af : Option Addr) (cf : Nat) (w0 w : World) : Prop where
  bu : w.heap[ga]? = some (.cells (svC a X.length c busy nd rank now) 46 (0, 0))
  fr : w.heap[gb]? = some (.cells (frC f af cf) 114 (0, 0))
  bel : Below w0.heap.size w0 w
theorem Yq.below {ga gb : Nat} {a : Option Addr} {X : List (List Frm)} {c : Nat} {busy nd rank now : Int} {f : Frm} {af : Option Addr} {cf : Nat} {w0 w w' : World} (h : Yq ga gb a X c busy nd rank now f af cf w0 w) (b : Below w.heap.size w w') : Yq ga gb a X c busy nd rank now f af cf w0 w' :=
  ⟨blkV h.bu b, blkV h.fr b, Below.then2 h.bel b⟩
theorem Yq.made (a : Option Addr) (X : List (List Frm)) (c : Nat) (busy nd rank now : Int) (f : Frm) (af : Option Addr) (cf : Nat) (w : World) : Yq w.heap.size (w.heap.size + 1) a X c busy nd rank now f af cf w ((w.alloc (.cells (svC a X.length c busy nd rank now) 46)).alloc (.cells (frC f af cf) 114)) := by
  obtain ⟨h1, h2, b⟩ := two_made w (svC a X.length c busy nd rank now) (frC f af cf) 46 114
  exact ⟨h1, h2, b⟩
end Go.Proofs.YtnhmecabppaboaaGreat

/- laws.likeServer of two servers that hold the same. -/

set_option linter.unusedVariables false
set_option linter.unusedSimpArgs false
namespace Go.Proofs.YtnhmecabppaboaaGreat
open Go.RowKit

structure LkS (p1 p2 p3 p4 : Addr) (v1 v2 v3 v4 : Value) (al bl : Option Addr) (L : List Frm) (W u : World) : Prop where
  c1 : u.cell? p1 = some v1
  c2 : u.cell? p2 = some v2
  c3 : u.cell? p3 = some v3
  c4 : u.cell? p4 = some v4
  f1 : Frs al L u
  f2 : Frs bl L u
  b : Below W.heap.size W u
theorem LkS.below {p1 p2 p3 p4 : Addr} {v1 v2 v3 v4 : Value} {al bl : Option Addr} {L : List Frm} {W u u' : World} (h : LkS p1 p2 p3 p4 v1 v2 v3 v4 al bl L W u) (b : Below u.heap.size u u') : LkS p1 p2 p3 p4 v1 v2 v3 v4 al bl L W u' :=
  ⟨(b.cell (World.block_lt_of_cell? u _ h.c1)).trans h.c1, (b.cell (World.block_lt_of_cell? u _ h.c2)).trans h.c2, (b.cell (World.block_lt_of_cell? u _ h.c3)).trans h.c3, (b.cell (World.block_lt_of_cell? u _ h.c4)).trans h.c4, h.f1.below b, h.f2.below b, Below.then2 h.b b⟩
set_option maxHeartbeats 8000000 in
set_option maxRecDepth 20000 in
/-- laws.likeServer, of two servers that hold the same. -/
theorem likeSrv (R R' : Option Addr → Nat → Nat → Prop) (a b : Option Addr) (X : List (List Frm)) (c c' : Nat) (busy nd rank now : Int) (w : World) (ha : Bxs R a X w) (hb : Bxs R' b X w) (hm : X.length ≤ 2000000) :
    Calls Tryz.prog 15 #[svV a X.length c busy nd rank now, svV b X.length c' busy nd rank now] w fun e w' => e = .returned (.bool true) ∧ Below w.heap.size w w' := by
  obtain ⟨HC, HD, B⟩ := two_made w (svC a X.length c busy nd rank now) (svC b X.length c' busy nd rank now) 26 26
  go_enter Tryz.func15, Tryz.ntmps15
  go_upto_region 1 with fail
  replace ha := ha.below B
  replace hb := hb.below B
  generalize hw : (w.alloc _).alloc _ = W at HC HD B ha hb ⊢
  clear hw
  have r0 := cell_of_row _ w.heap.size 0 _ _ _ HC
  have r1 := cell_of_row _ w.heap.size 1 _ _ _ HC
  have r2 := cell_of_row _ w.heap.size 2 _ _ _ HC
  have r3 := cell_of_row _ w.heap.size 3 _ _ _ HC
  have r4 := cell_of_row _ w.heap.size 4 _ _ _ HC
  have q0 := cell_of_row _ (w.heap.size + 1) 0 _ _ _ HD
  have q1 := cell_of_row _ (w.heap.size + 1) 1 _ _ _ HD
  have q2 := cell_of_row _ (w.heap.size + 1) 2 _ _ _ HD
  have q3 := cell_of_row _ (w.heap.size + 1) 3 _ _ _ HD
  have q4 := cell_of_row _ (w.heap.size + 1) 4 _ _ _ HD
  go_wp2_with fail
  clear r0 r1 r2 r3 r4 q0 q1 q2 q3 q4
  go_loopw [5] (fun i wr => ∃ k : Nat, k ≤ X.length ∧ i = .int .i64 k ∧ Below W.heap.size W wr) (fun i _ => X.length - (intOf i).toNat)
  case atStart => exact ⟨0, Nat.zero_le _, rfl, Below.refl _ _⟩
  case round =>
    obtain ⟨k, hk, rfl, bw⟩ := hrel
    have r0 := cell_of_row _ w.heap.size 0 _ _ _ (blkV HC bw)
    have q0 := cell_of_row _ (w.heap.size + 1) 0 _ _ _ (blkV HD bw)
    by_cases hlt : k < X.length
    · obtain ⟨g, o, al, cl, rfl, e1, f1, -⟩ := (ha.below bw).2 k hlt
      obtain ⟨g', o', bl, cl', rfl, e2, f2, -⟩ := (hb.below bw).2 k hlt
      generalize nthB X k = L at *
      have hkI : (k : Int) < X.length := by omega
      go_upto_region 6 with fail
      refine region_class (fun u => LkS ⟨w.heap.size, 0, none⟩ ⟨w.heap.size + 1, 0, none⟩ ⟨g, o + k, none⟩ ⟨g', o' + k, none⟩ (.slice (some ⟨g, o, none⟩) X.length c) (.slice (some ⟨g', o', none⟩) X.length c') (.slice al L.length cl) (.slice bl L.length cl') al bl L W u) (by kernel_rfl) (by kernel_rfl) ⟨r0, q0, e1, e2, f1.drew, f2.drew, bw.drew⟩ ?_
      clear e1 e2 f1 f2 bw r0 q0
      repeat first
        | go_big_quiet_skip
        | (go_big_quiet_want
           apply Exists.intro
           refine ⟨fun u hu => ?_, ?_⟩
           · apply quietAt_val
             obtain ⟨c1, c2, c3, c4, h1, h2, h3⟩ := hu
             go_simp
             rfl
           simp only [Act.put, List.setIfInBounds_toArray, List.set_cons_zero, List.set_cons_succ]
           go_big_quiet_on)
        | (go_big_quiet_want
           apply Exists.intro
           refine ⟨fun u hu => ?_, ?_⟩
           · apply quietAt_enter 49 #[.slice al L.length cl, .slice bl L.length cl']
             · go_simp
             · refine (likeFrs al bl L cl cl' u hu.f1 hu.f2).mono ?_
               rintro e w2 ⟨rfl, b2⟩
               exact ⟨rfl, hu.below b2⟩
           simp only [Act.put, List.setIfInBounds_toArray, List.set_cons_zero, List.set_cons_succ]
           go_big_quiet_on)
      refine wpQuiet_nil ?_
      intro W2 L2
      have bw := L2.b
      clear L2
      go_wp2_with fail
      go_roundw
      case rel => exact ⟨k + 1, by omega, by go_num, bw⟩
      case measure => simp [intOf]; omega
    · have hkI : ¬ (k : Int) < X.length := by omega
      go_wp2_with fail
      go_ret
      exact ⟨rfl, Below.then2 B bw⟩
end Go.Proofs.YtnhmecabppaboaaGreat

/- laws.likeEvents of two lists that hold the same. -/

set_option linter.unusedVariables false
set_option linter.unusedSimpArgs false
namespace Go.Proofs.YtnhmecabppaboaaGreat
open Go.RowKit

structure LkE (g o g' o' : Nat) (e : Ev) (ad : Option Addr) (cd : Nat) (ad' : Option Addr) (cd' : Nat) (W u : World) : Prop where
  c0 : u.cell? ⟨g, o, none⟩ = some (.int .i64 e.at_)
  c1 : u.cell? ⟨g, o + 1, none⟩ = some (.int .i64 (e.node : Int))
  c2 : u.cell? ⟨g, o + 2, none⟩ = some (.int .i64 e.kind)
  c3 : u.cell? ⟨g, o + 3, none⟩ = some (.int .i64 e.fr.id)
  c4 : u.cell? ⟨g, o + 4, none⟩ = some (.bool e.fr.rm)
  c5 : u.cell? ⟨g, o + 5, none⟩ = some (.int .i64 e.fr.ln)
  c6 : u.cell? ⟨g, o + 6, none⟩ = some (.slice ad e.fr.D.length cd)
  d0 : u.cell? ⟨g', o', none⟩ = some (.int .i64 e.at_)
  d1 : u.cell? ⟨g', o' + 1, none⟩ = some (.int .i64 (e.node : Int))
  d2 : u.cell? ⟨g', o' + 2, none⟩ = some (.int .i64 e.kind)
  d3 : u.cell? ⟨g', o' + 3, none⟩ = some (.int .i64 e.fr.id)
  d4 : u.cell? ⟨g', o' + 4, none⟩ = some (.bool e.fr.rm)
  d5 : u.cell? ⟨g', o' + 5, none⟩ = some (.int .i64 e.fr.ln)
  d6 : u.cell? ⟨g', o' + 6, none⟩ = some (.slice ad' e.fr.D.length cd')
  n1 : Nums ad e.fr.D u
  n2 : Nums ad' e.fr.D u
  b : Below W.heap.size W u
theorem LkE.below {g o g' o' : Nat} {e : Ev} {ad : Option Addr} {cd : Nat} {ad' : Option Addr} {cd' : Nat} {W u u' : World} (h : LkE g o g' o' e ad cd ad' cd' W u) (b : Below u.heap.size u u') : LkE g o g' o' e ad cd ad' cd' W u' := by
  have h1 : g < u.heap.size := World.block_lt_of_cell? u _ h.c0
  have h2 : g' < u.heap.size := World.block_lt_of_cell? u _ h.d0
  exact ⟨(b.cell h1).trans h.c0, (b.cell h1).trans h.c1, (b.cell h1).trans h.c2, (b.cell h1).trans h.c3, (b.cell h1).trans h.c4, (b.cell h1).trans h.c5, (b.cell h1).trans h.c6,
    (b.cell h2).trans h.d0, (b.cell h2).trans h.d1, (b.cell h2).trans h.d2, (b.cell h2).trans h.d3, (b.cell h2).trans h.d4, (b.cell h2).trans h.d5, (b.cell h2).trans h.d6, h.n1.below b, h.n2.below b, Below.then2 h.b b⟩
set_option maxHeartbeats 16000000 in
set_option maxRecDepth 20000 in
/-- laws.likeEvents, of two lists that hold the same. -/
theorem likeEvs (a b : Option Addr) (N : List Ev) (c c' : Nat) (w : World) (ha : Evs a N w) (hb : Evs b N w) :
    Calls Tryz.prog 16 #[.slice a N.length c, .slice b N.length c'] w fun e w' => e = .returned (.bool true) ∧ Below w.heap.size w w' := by
  have hm := ha.1
  unfold maxLen at hm
  go_enter Tryz.func16, Tryz.ntmps16
  go_wp2_with fail
  go_loopw [5] (fun i wr => ∃ k : Nat, k ≤ N.length ∧ i = .int .i64 k ∧ Below w.heap.size w wr) (fun i _ => N.length - (intOf i).toNat)
  case atStart => exact ⟨0, Nat.zero_le _, rfl, Below.refl _ _⟩
  case round =>
    obtain ⟨k, hk, rfl, bw⟩ := hrel
    by_cases hlt : k < N.length
    · obtain ⟨g, o, ad, cd, rfl, r1, n1⟩ := (ha.below bw).2 k hlt
      obtain ⟨g', o', ad', cd', rfl, r2, n2⟩ := (hb.below bw).2 k hlt
      generalize nthE N k = e at *
      have hkI : (k : Int) < N.length := by omega
      have hL : LkE g (o + k * 7) g' (o' + k * 7) e ad cd ad' cd' w wr := ⟨r1 0 _ rfl, r1 1 _ rfl, r1 2 _ rfl, r1 3 _ rfl, r1 4 _ rfl, r1 5 _ rfl, r1 6 _ rfl, r2 0 _ rfl, r2 1 _ rfl, r2 2 _ rfl, r2 3 _ rfl, r2 4 _ rfl, r2 5 _ rfl, r2 6 _ rfl, n1, n2, bw⟩
      go_upto_region 6 with fail
      refine region_class (fun u => LkE g (o + k * 7) g' (o' + k * 7) e ad cd ad' cd' w u) (by kernel_rfl) (by kernel_rfl) (hL.below (Below.refl wr.heap.size wr).drew) ?_
      clear r1 r2 n1 n2 bw hL
      repeat first
        | go_big_quiet_skip
        | (go_big_quiet_want
           apply Exists.intro
           refine ⟨fun u hu => ?_, ?_⟩
           · apply quietAt_val
             obtain ⟨c0, c1, c2, c3, c4, c5, c6, d0, d1, d2, d3, d4, d5, d6, n1, n2, hb⟩ := hu
             go_simp
             rfl
           simp only [Act.put, List.setIfInBounds_toArray, List.set_cons_zero, List.set_cons_succ]
           go_big_quiet_on)
        | (go_big_quiet_want
           apply Exists.intro
           refine ⟨fun u hu => ?_, ?_⟩
           · apply quietAt_enter 50 #[frV e.fr.id e.fr.rm e.fr.ln ad e.fr.D.length cd, frV e.fr.id e.fr.rm e.fr.ln ad' e.fr.D.length cd']
             · go_simp
             · refine (specSame e.fr.id e.fr.rm e.fr.ln ad e.fr.D cd e.fr.id e.fr.rm e.fr.ln ad' e.fr.D cd' u hu.n1 hu.n2).mono ?_
               rintro x w2 ⟨rfl, b2⟩
               rw [sameFr_yes rfl rfl rfl rfl]
               exact ⟨rfl, hu.below b2⟩
           simp only [Act.put, List.setIfInBounds_toArray, List.set_cons_zero, List.set_cons_succ]
           go_big_quiet_on)
      refine wpQuiet_nil ?_
      intro W2 L2
      have bw := L2.b
      clear L2
      go_wp2_with fail
      go_roundw
      case rel => exact ⟨k + 1, by omega, by go_num, bw⟩
      case measure => simp [intOf]; omega
    · have hkI : ¬ (k : Int) < N.length := by omega
      go_wp2_with fail
      go_ret
      exact ⟨rfl, bw⟩
end Go.Proofs.YtnhmecabppaboaaGreat
