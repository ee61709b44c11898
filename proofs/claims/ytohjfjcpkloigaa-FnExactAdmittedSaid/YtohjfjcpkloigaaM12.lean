/- The exact laws' functions over messages: szMsgS, toMsg, toMsgS, eqMsg, eqMsgS, markMsgS; the arguments opened. -/
import Derived.Test.YtohjfjcpkloigaaM9
import Derived.Test.YtohjfjcpkloigaaM11
import Derived.Laws.BitsAllLaws
import Derived.Below
import Derived.ProofKit
import Derived.OpenShut
import Derived.ChangeOld
import Derived.ChangeSame
import Derived.ChangeSlices
import Derived.Deep.Slices
import Derived.Lib.SmallJoins
import Derived.Test.YtohjfjcpkloigaaM6
import Derived.Test.YtohjfjcpkloigaaM8
import Derived.Test.YtohjfjcpkloigaaM7
import Derived.Deep.DeepCutAuto
import Derived.Deep.CutRange
import Derived.Deep.RegionLaw
import Derived.Test.YtohjfjcpkloigaaM3

set_option linter.unusedVariables false
set_option linter.unusedSimpArgs false
set_option maxRecDepth 20000
namespace Go.Proofs.Ytohjfjcpkloigaa
open Go.ChangeShapes Go.WideShapes Go.ChangeAt Go.RowKit Go.Joins

/-- laws.szMsgS. -/
theorem szMsgOk (a : Option Addr) (n c : Nat) (w : World) (h : n ≤ 1048576) :
    Calls Try.prog 32 #[.slice a n c, .int .i64 1048576] w fun e w' => ∃ k : Int, 0 ≤ k ∧ e = .returned (.int .i64 k) ∧ w = w' := by
  go_enter Try.func32, Try.ntmps32
  go_wp2
  go_ret
  exact ⟨_, by omega, rfl, rfl⟩
theorem szMsgBig (a : Option Addr) (n c : Nat) (w : World) (hm : n ≤ maxLen) (h : 1048576 < n) :
    Calls Try.prog 32 #[.slice a n c, .int .i64 1048576] w fun e w' => e = .returned (.int .i64 (-1)) ∧ w = w' := by
  unfold maxLen at hm
  go_enter Try.func32, Try.ntmps32
  go_wp2
  go_ret
  exact ⟨rfl, rfl⟩
/-- laws.toMsg. -/
theorem toMg (m : Ms) (w : World) : Calls Try.prog 65 #[mgV m] w fun e w' => e = .returned (mgV m) ∧ Below w.heap.size w w' := by
  obtain ⟨id, sz, pe, ji, de, no⟩ := m
  go_enter Try.func65, Try.ntmps65
  go_wp2
  exact bodyPost_ret (v := mgV ⟨id, sz, pe, ji, de, no⟩) (by simp [results, Try.results65, go_sem]) rfl ⟨rfl, (((Below.refl _ _).alloc (Nat.le_refl _) _).alloc (by simp) _).alloc (by simp; omega) _⟩
/-- laws.eqMsg, of two that are the same. -/
theorem eqMg (m : Ms) (w : World) : Calls Try.prog 66 #[mgV m, mgV m] w fun e w' => e = .returned (.bool true) ∧ Below w.heap.size w w' := by
  obtain ⟨id, sz, pe, ji, de, no⟩ := m
  go_enter Try.func66, Try.ntmps66
  go_wp2
  go_ret
  exact ⟨rfl, ((Below.refl _ _).alloc (Nat.le_refl _) _).alloc (by simp) _⟩

/-- Block G is a row of n messages; the first k are those of T. -/
structure RowMs (G n k : Nat) (T : List Ms) (cur : Array Value) (w : World) : Prop where
  blk : w.heap[G]? = some (.cells cur 31 (0, 0))
  len : cur.size = n * 6
  fr : ∀ j, j < k → cur[j * 6]? = some (.int .i64 (nthTb T j).id) ∧ cur[j * 6 + 1]? = some (.int .i64 (nthTb T j).sz) ∧ cur[j * 6 + 2]? = some (.int .i64 (nthTb T j).pe) ∧
    cur[j * 6 + 3]? = some (.int .i64 (nthTb T j).ji) ∧ cur[j * 6 + 4]? = some (.int .i64 (nthTb T j).de) ∧ cur[j * 6 + 5]? = some (.int .i64 (nthTb T j).no)
section
variable {G n k : Nat} {T : List Ms} {cur : Array Value} {w w' : World}
theorem RowMs.lt (h : RowMs G n k T cur w) : G < w.heap.size := (Array.getElem?_eq_some_iff.1 h.blk).1
theorem RowMs.below (h : RowMs G n k T cur w) (b : Below w.heap.size w w') : RowMs G n k T cur w' := ⟨(b.block G h.lt).trans h.blk, h.len, h.fr⟩
theorem RowMs.free (h : RowMs G n k T cur w) (j : Nat) : w.frozen? ⟨G, j, none⟩ = false := frozen_of_row w G j _ _ h.blk
theorem RowMs.cell (h : RowMs G n k T cur w) (j : Nat) : w.cell? ⟨G, j, none⟩ = cur[j]? := cell_of_row w G j _ _ _ h.blk
theorem RowMs.cells (h : RowMs G n k T cur w) {q : Nat} (hk : q < n) : ∃ x0 x1 x2 x3 x4 x5, w.cell? ⟨G, q * 6, none⟩ = some x0 ∧ w.cell? ⟨G, q * 6 + 1, none⟩ = some x1 ∧ w.cell? ⟨G, q * 6 + 2, none⟩ = some x2 ∧
    w.cell? ⟨G, q * 6 + 3, none⟩ = some x3 ∧ w.cell? ⟨G, q * 6 + 4, none⟩ = some x4 ∧ w.cell? ⟨G, q * 6 + 5, none⟩ = some x5 := by
  have hl := h.len
  refine ⟨cur[q * 6], cur[q * 6 + 1], cur[q * 6 + 2], cur[q * 6 + 3], cur[q * 6 + 4], cur[q * 6 + 5], ?_, ?_, ?_, ?_, ?_, ?_⟩ <;> rw [h.cell] <;> exact Array.getElem?_eq_getElem (by omega)
abbrev putM (w : World) (G k : Nat) (m : Ms) : World :=
  (((((w.setCell ⟨G, k * 6, none⟩ (.int .i64 m.id)).setCell ⟨G, k * 6 + 1, none⟩ (.int .i64 m.sz)).setCell ⟨G, k * 6 + 2, none⟩ (.int .i64 m.pe)).setCell ⟨G, k * 6 + 3, none⟩ (.int .i64 m.ji)).setCell ⟨G, k * 6 + 4, none⟩ (.int .i64 m.de)).setCell ⟨G, k * 6 + 5, none⟩ (.int .i64 m.no)
theorem RowMs.put (h : RowMs G n k T cur w) (hk : k < n) {m : Ms} (hf : nthTb T k = m) : ∃ cur', RowMs G n (k + 1) T cur' (putM w G k m) := by
  have hl := h.len
  refine ⟨_, heap_setCell_same _ _ _ _ _ _ (heap_setCell_same _ _ _ _ _ _ (heap_setCell_same _ _ _ _ _ _ (heap_setCell_same _ _ _ _ _ _ (heap_setCell_same _ _ _ _ _ _ (heap_setCell_same _ _ _ _ _ _ h.blk))))), by simp [hl], fun j hj => ?_⟩
  by_cases e : j = k
  · subst e
    rw [hf]
    refine ⟨?_, ?_, ?_, ?_, ?_, ?_⟩ <;> simp [Array.getElem?_setIfInBounds, hl] <;> omega
  · obtain ⟨e0, e1, e2, e3, e4, e5⟩ := h.fr j (by omega)
    refine ⟨?_, ?_, ?_, ?_, ?_, ?_⟩
    all_goals (simp only [Array.getElem?_setIfInBounds]; repeat rw [if_neg (by omega)])
    all_goals assumption
theorem RowMs.turn (h : RowMs G n 0 [] cur w) (j : Nat) (m : Ms) : ∃ cur', RowMs G n 0 [] cur' (putM w G j m) :=
  ⟨_, heap_setCell_same _ _ _ _ _ _ (heap_setCell_same _ _ _ _ _ _ (heap_setCell_same _ _ _ _ _ _ (heap_setCell_same _ _ _ _ _ _ (heap_setCell_same _ _ _ _ _ _ (heap_setCell_same _ _ _ _ _ _ h.blk))))), by simp [h.len], fun j hj => absurd hj (by omega)⟩
theorem grown_cell (w : World) (g k : Nat) (v : Value) : w.grownBy (w.setCell ⟨g, k, none⟩ v) (some g) := grown_set _ _ _ _
theorem grown_putM (w : World) (g j : Nat) (m : Ms) : w.grownBy (putM w g j m) (some g) :=
  grown_trans (grown_trans (grown_trans (grown_trans (grown_trans (grown_cell w g _ _) (grown_cell _ g _ _)) (grown_cell _ g _ _)) (grown_cell _ g _ _)) (grown_cell _ g _ _)) (grown_cell _ g _ _)
theorem RowMs.tbl (h : RowMs G n T.length T cur w) (hm : T.length ≤ maxLen) : Tbl (some ⟨G, 0, none⟩) T w := by
  refine ⟨hm, fun j hj => ?_⟩
  obtain ⟨e0, e1, e2, e3, e4, e5⟩ := h.fr j hj
  refine ⟨G, 0, rfl, ?_, ?_, ?_, ?_, ?_, ?_⟩ <;> rw [h.cell, Nat.zero_add] <;> assumption
end
theorem make_msgs (c : Nat) (hc : c ≤ 1048576) (W : World) : (Instr.makeSlice 27 (.int .i64 c) (.int .i64 c)).run Try.prog W =
    .ok (.slice (some ⟨W.heap.size, 0, none⟩) c c) (W.alloc (.cells (madeCells #[.int .i64 0, .int .i64 0, .int .i64 0, .int .i64 0, .int .i64 0, .int .i64 0] (c * 6)) 31)) := by
  obtain ⟨i0, hi, hz0, hz1, hz2⟩ := info_parts (show (Try.prog.info? 31).map (fun i => (i.zero, i.size, i.bytes)) = some (some (.agg #[.int .i64 0, .int .i64 0, .int .i64 0, .int .i64 0, .int .i64 0, .int .i64 0]), 6, 48) by kernel_rfl)
  have := run_make (P := Try.prog) W 27 31 i0 (.agg #[.int .i64 0, .int .i64 0, .int .i64 0, .int .i64 0, .int .i64 0, .int .i64 0]) Try.underlying27 hi hz0 .i64 .i64 c c (by omega) (Int.le_refl _) (by rw [hz2]; omega) (by omega)
  rw [this, hz1]
  simp only [Int.toNat_natCast]
  rfl

set_option maxHeartbeats 1000000 in
/-- laws.toMsgS. -/
theorem toMgs (a : Option Addr) (T : List Ms) (c : Nat) (w : World) (hd : Tbl a T w) (h : T.length ≤ 1048576) :
    Calls Try.prog 33 #[.slice a T.length c] w fun e w' => ∃ g cur, e = .returned (.slice (some ⟨g, 0, none⟩) T.length T.length) ∧ w.heap.size ≤ g ∧ RowMs g T.length T.length T cur w' ∧ Below w.heap.size w w' := by
  have hmk := make_msgs T.length h
  go_enter Try.func33, Try.ntmps33
  go_wp2_with fail
  clear hmk
  go_loopw [4] (fun i wr => ∃ (k : Nat) (cur : Array Value), k ≤ T.length ∧ i = .int .i64 k ∧ RowMs w.heap.size T.length k T cur wr ∧ Below w.heap.size w wr) (fun i _ => T.length - (intOf i).toNat)
  case atStart => exact ⟨0, _, Nat.zero_le _, rfl, ⟨heap_alloc_new _ _, by simp [madeCells], fun j hj => absurd hj (by omega)⟩, (Below.refl _ _).alloc (Nat.le_refl _) _⟩
  case round =>
    obtain ⟨k, cur, hk, rfl, R, b⟩ := hrel
    by_cases hlt : k < T.length
    · obtain ⟨g, o, rfl, c0, c1, c2, c3, c4, c5⟩ := (hd.below b).2 k hlt
      generalize hf0 : nthTb T k = m at c0 c1 c2 c3 c4 c5
      obtain ⟨id, sz, pe, ji, de, no⟩ := m
      have hf := Lib.hid hf0
      clear hf0
      go_wp2_with fail
      refine (toMg ⟨id, sz, pe, ji, de, no⟩ _).mono ?_
      rintro e w2 ⟨rfl, b2⟩
      replace R := R.below b2
      replace b := Below.then2 b b2
      clear b2 c0 c1 c2 c3 c4 c5
      obtain ⟨x0, x1, x2, x3, x4, x5, y0, y1, y2, y3, y4, y5⟩ := R.cells hlt
      have z0 := R.free (k * 6)
      have z1 := R.free (k * 6 + 1)
      have z2 := R.free (k * 6 + 2)
      have z3 := R.free (k * 6 + 3)
      have z4 := R.free (k * 6 + 4)
      have z5 := R.free (k * 6 + 5)
      go_wp2_with fail
      go_roundw
      case rel =>
        obtain ⟨cur', R'⟩ := R.put hlt hf.out
        exact ⟨k + 1, cur', by omega, by go_num, R', (((((b.setCell (Nat.le_refl _) _).setCell (Nat.le_refl _) _).setCell (Nat.le_refl _) _).setCell (Nat.le_refl _) _).setCell (Nat.le_refl _) _).setCell (Nat.le_refl _) _⟩
      case measure => simp [intOf]; omega
    · obtain rfl : k = T.length := by omega
      go_wp2_with fail
      go_ret
      exact ⟨_, cur, rfl, Nat.le_refl _, R, b⟩
set_option maxHeartbeats 1000000 in
/-- laws.eqMsgS, of two lists that hold the same. -/
theorem eqMgs (a b : Option Addr) (T : List Ms) (c c' : Nat) (w : World) (ha : Tbl a T w) (hb : Tbl b T w) :
    Calls Try.prog 34 #[.slice a T.length c, .slice b T.length c'] w fun e w' => e = .returned (.bool true) ∧ Below w.heap.size w w' := by
  have hm := ha.1
  unfold maxLen at hm
  go_enter Try.func34, Try.ntmps34
  go_wp2_with fail
  go_loopw [5] (fun i wr => ∃ k : Nat, k ≤ T.length ∧ i = .int .i64 k ∧ Below w.heap.size w wr) (fun i _ => T.length - (intOf i).toNat)
  case atStart => exact ⟨0, Nat.zero_le _, rfl, Below.refl _ _⟩
  case round =>
    obtain ⟨k, hk, rfl, bw⟩ := hrel
    by_cases hlt : k < T.length
    · obtain ⟨g, o, rfl, fa⟩ := (ha.below bw).2 k hlt
      obtain ⟨g', o', rfl, fb⟩ := (hb.below bw).2 k hlt
      generalize nthTb T k = m at *
      obtain ⟨id, sz, pe, ji, de, no⟩ := m
      go_upto_region 6 with fail
      refine region_class (fun u => MsC g (o + k * 6) ⟨id, sz, pe, ji, de, no⟩ u ∧ MsC g' (o' + k * 6) ⟨id, sz, pe, ji, de, no⟩ u ∧ Below w.heap.size w u) (by kernel_rfl) (by kernel_rfl) ⟨fa, fb, bw.drew⟩ ?_
      clear fa fb bw
      repeat first
        | go_big_quiet_skip
        | (go_big_quiet_want
           apply Exists.intro
           refine ⟨fun u hu => ?_, ?_⟩
           · apply quietAt_val
             obtain ⟨⟨a0, a1, a2, a3, a4, a5⟩, ⟨b0, b1, b2, b3, b4, b5⟩, _⟩ := hu
             go_simp
             rfl
           simp only [Act.put, List.setIfInBounds_toArray, List.set_cons_zero, List.set_cons_succ]
           go_big_quiet_on)
        | (go_big_quiet_want
           apply Exists.intro
           refine ⟨fun u hu => ?_, ?_⟩
           · apply quietAt_enter 66 #[mgV ⟨id, sz, pe, ji, de, no⟩, mgV ⟨id, sz, pe, ji, de, no⟩]
             · go_simp
             · refine (eqMg ⟨id, sz, pe, ji, de, no⟩ u).mono ?_
               rintro e w2 ⟨rfl, b2⟩
               exact ⟨rfl, hu.1.below b2 hu.1.lt, hu.2.1.below b2 hu.2.1.lt, Below.then2 hu.2.2 b2⟩
           simp only [Act.put, List.setIfInBounds_toArray, List.set_cons_zero, List.set_cons_succ]
           go_big_quiet_on)
      refine wpQuiet_nil ?_
      intro W2 L2
      have bw := L2.2.2
      clear L2
      go_wp2_with fail
      go_roundw
      case rel => exact ⟨k + 1, by omega, by go_num, bw⟩
      case measure => simp [intOf]; omega
    · go_wp2_with fail
      go_ret
      exact ⟨rfl, bw⟩
theorem cellsMsg : Try.prog.cellsOf 79 = 6 := by kernel_rfl
/-- The six cells of a message, opened. -/
theorem msg_cells {H : Type} {enc : TypeId × Value → H} {w : World} {base n : Nat} {cs : List Value} {y : DataW H × List MemPlace}
    (h : DataW.trod enc Try.prog w base (fun _ => true) true n 79 cs = some y) : ∃ m : Ms, cs = (mgC m).toList ∧ (Lit.int .i64 m.sz).wf = true := by
  obtain ⟨xs, k, _, _, hl, hxl, hf⟩ := DataW.trod_struct Try.underlying79 h
  have hl6 : cs.length = 6 := hl.trans cellsMsg
  have hx6 : xs.length = 6 := hxl
  match cs, hl6, xs, hx6 with
  | [c0, c1, c2, c3, c4, c5], _, [y0, y1, y2, y3, y4, y5], _ =>
    have g0 := hf 0 _ rfl
    have g1 := hf 1 _ rfl
    have g2 := hf 2 _ rfl
    have g3 := hf 3 _ rfl
    have g4 := hf 4 _ rfl
    have g5 := hf 5 _ rfl
    clear hf hl hxl h
    simp [one64] at g0 g1 g2 g3 g4 g5
    obtain ⟨id, e0, -, -⟩ := DataW.trod_int Try.underlying2 g0
    obtain ⟨sz, e1, -, hw⟩ := DataW.trod_int Try.underlying2 g1
    obtain ⟨pe, e2, -, -⟩ := DataW.trod_int Try.underlying2 g2
    obtain ⟨ji, e3, -, -⟩ := DataW.trod_int Try.underlying2 g3
    obtain ⟨de, e4, -, -⟩ := DataW.trod_int Try.underlying2 g4
    obtain ⟨no, e5, -, -⟩ := DataW.trod_int Try.underlying2 g5
    simp only [List.cons.injEq, and_true] at e0 e1 e2 e3 e4 e5
    subst e0 e1 e2 e3 e4 e5
    exact ⟨⟨id, sz, pe, ji, de, no⟩, rfl, hw⟩
/-- A message by value, opened. -/
theorem msg_open {H : Type} {enc : TypeId × Value → H} {w : World} {r : Reach} {b0 base : Nat} {v : Value} {d : DataW H} {p : List MemPlace}
    (hv : Value.okWide Try.prog w r b0 79 v) (h : DataW.Trod enc Try.prog w base (fun _ => true) true 79 v d p) : ∃ m : Ms, v = mgV m ∧ (Lit.int .i64 m.sz).wf = true := by
  obtain ⟨cs, rfl, hsz⟩ := okWide_struct Try.underlying79 hv
  obtain ⟨fuel, hf⟩ := h
  obtain ⟨m, hcs, hw⟩ := msg_cells hf
  refine ⟨m, ?_, hw⟩
  have : cs.toList = (mgC m).toList := hcs
  rw [show cs = mgC m from Array.toList_inj.1 this]
/-- A slice of messages, opened. -/
theorem msgs_open {H : Type} {enc : TypeId × Value → H} {w : World} {base : Nat} {fuel : Nat} {cs : List Value} {x : DataW H × List MemPlace}
    (h : DataW.trod enc Try.prog w base (fun _ => true) true fuel 45 cs = some x) : ∃ a L c, cs = [.slice a (L : List Ms).length c] ∧ Tbl a L w := by
  rcases Go.Deep.open_slice Try.underlying45 h with ⟨hcs, _⟩ | ⟨a, len, cap, m, n, D, Pl, hcs, _, hl, hm, hmm, _, hx⟩
  · exact ⟨none, [], 0, hcs, Tbl.nil _ _⟩
  · rw [if_pos rfl] at hmm
    subst hmm
    rw [cellsMsg] at hx
    obtain ⟨f, hf⟩ := Go.Deep.choose_lt (α := Ms) (p := fun i f => ∃ g o, some a = some ⟨g, o, none⟩ ∧ MsC g (o + i * 6) f w) (n := len) (fun i hi => by
      obtain ⟨cs', h1, h2⟩ := hx i (by omega)
      obtain ⟨m, rfl, _⟩ := msg_cells h2
      obtain ⟨_, _, hc⟩ := World.cells?_some h1
      have k0 := hc 0 (by simp)
      have k1 := hc 1 (by simp)
      have k2 := hc 2 (by simp)
      have k3 := hc 3 (by simp)
      have k4 := hc 4 (by simp)
      have k5 := hc 5 (by simp)
      obtain ⟨b, off, spot⟩ := a
      have hspot : spot = none := by
        obtain ⟨cs0, g1, g2⟩ := hx 0 (by omega)
        obtain ⟨_, rfl, _⟩ := msg_cells g2
        obtain ⟨_, _, gc⟩ := World.cells?_some g1
        have := World.cell?_spot ((gc 0 (by simp)).trans rfl)
        simpa [Addr.add] using this
      subst hspot
      have hadd : ∀ j, ((⟨b, off, none⟩ : Addr).add (i * 6)).add j = ⟨b, off + i * 6 + j, none⟩ := by
        intro j
        unfold Addr.add
        split <;> split <;> simp_all
      rw [hadd] at k0 k1 k2 k3 k4 k5
      exact ⟨m, b, off, rfl, k0, k1, k2, k3, k4, k5⟩)
    refine ⟨some a, (List.range len).map f, m, by simpa using hcs, by simp; omega, fun j hj => ?_⟩
    have hj' : j < len := by simpa using hj
    have e : nthTb ((List.range len).map f) j = f j := by simp [nthTb, List.getD_eq_getElem?_getD, hj']
    rw [e]
    exact hf j hj'
end Go.Proofs.Ytohjfjcpkloigaa

/- The exact laws' marks: markInt64S, heldInt64S, markFrame, heldFrame. -/

set_option linter.unusedVariables false
set_option linter.unusedSimpArgs false
set_option maxRecDepth 20000
namespace Go.Proofs.Ytohjfjcpkloigaa
open Go.RowKit

/-- The first j of the numbers marked, from k on. -/
def mkD (k : Int) (D : List Int) (j : Nat) : List Int := ((List.range j).map fun i : Nat => k + (i : Int)) ++ D.drop j
def marks (k : Int) (n : Nat) : List Int := (List.range n).map fun i : Nat => k + (i : Int)
theorem mkD_zero (k : Int) (D : List Int) : mkD k D 0 = D := by simp [mkD]
theorem mkD_all (k : Int) (D : List Int) : mkD k D D.length = marks k D.length := by simp [mkD, marks]
theorem mkD_len {k : Int} {D : List Int} {j : Nat} (h : j ≤ D.length) : (mkD k D j).length = D.length := by simp [mkD]; omega
theorem marks_len (k : Int) (n : Nat) : (marks k n).length = n := by simp [marks]
theorem mkD_succ {k : Int} {D : List Int} {j : Nat} (h : j < D.length) : (mkD k D j).set j (k + (j : Int)) = mkD k D (j + 1) := by
  unfold mkD
  rw [List.set_append_right _ _ (by simp), List.range_succ, List.map_append, List.append_assoc]
  congr 1
  rw [List.length_map, List.length_range, Nat.sub_self, List.drop_eq_getElem_cons h, List.set_cons_zero]
  rfl
theorem marks_nth {k : Int} {n j : Nat} (h : j < n) : nth (marks k n) j = k + (j : Int) := by
  simp [nth, marks, List.getD_eq_getElem?_getD, List.getElem?_map, List.getElem?_range h]

end Go.Proofs.Ytohjfjcpkloigaa

/- Frames in rows of the call's own, no two of them on one row: what stores do to them. No program's walk in it. -/

set_option linter.unusedVariables false
set_option linter.unusedSimpArgs false
set_option maxRecDepth 20000
namespace Go.Proofs.Ytohjfjcpkloigaa
open Go.RowKit

def nthM (M : List (Frm × Value)) (j : Nat) : Frm × Value := M.getD j (⟨0, false, 0, []⟩, .slice none 0 0)
theorem nthM_eq {M : List (Frm × Value)} {j : Nat} (h : j < M.length) : nthM M j = M[j] := by simp [nthM, List.getD_eq_getElem?_getD, h]
theorem nthM_mem {M : List (Frm × Value)} {j : Nat} (h : j < M.length) : nthM M j ∈ M := by rw [nthM_eq h]; exact List.getElem_mem h
theorem nthM_set {M : List (Frm × Value)} {j i : Nat} {x : Frm × Value} (h : i < M.length) : nthM (M.set j x) i = if i = j then x else nthM M i := by
  rw [nthM_eq (by simpa using h), nthM_eq h, List.getElem_set]
  by_cases e : i = j
  · subst e; simp
  · rw [if_neg e, if_neg (fun h => e h.symm)]
theorem nthF_map {M : List (Frm × Value)} {j : Nat} (h : j < M.length) : nthF (M.map fun m => m.1) j = (nthM M j).1 := by
  rw [nthM_eq h]; simp [nthF, List.getD_eq_getElem?_getD, h]
/-- Two rows that are not one. -/
def Sep (u v : Option Nat) : Prop := u = none ∨ u ≠ v
theorem Sep.symm {u v : Option Nat} (h : Sep u v) : Sep v u := by
  cases u <;> cases v <;> simp_all [Sep]
  exact fun e => h e.symm
def Far (M : List (Frm × Value)) : Prop := ∀ i j, i < M.length → j < M.length → i ≠ j → Sep (nthM M i).2.ownBlock (nthM M j).2.ownBlock
theorem Far.set {M : List (Frm × Value)} (h : Far M) {j : Nat} {x : Frm × Value} (hx : x.2 = (nthM M j).2) : Far (M.set j x) := by
  intro i k hi hk hne
  rw [List.length_set] at hi hk
  rw [nthM_set hi, nthM_set hk]
  have e : ∀ i, i < M.length → (if i = j then x else nthM M i).2 = (nthM M i).2 := by
    intro i _
    by_cases e : i = j
    · rw [if_pos e, hx, e]
    · rw [if_neg e]
  rw [e i hi, e k hk]
  exact h i k hi hk hne

section
variable {B : Nat} {M : List (Frm × Value)} {v : Value} {w w' : World}
theorem OwnI.below' {Bn : Nat} {D : List Int} {v : Value} {w w' : World} (h : OwnI Bn D v w) (b : Below w.heap.size w w') : OwnI Bn D v w' := h.kept (grown_at b) (Classical.em _)
/-- All rows of it lie below this block. -/
def Under (hi : Nat) (M : List (Frm × Value)) (v : Value) : Prop := (∀ q, v.ownBlock = some q → q < hi) ∧ ∀ m ∈ M, ∀ q, m.2.ownBlock = some q → q < hi
/-- Between these two blocks alone something has turned. -/
structure Mid (lo hi : Nat) (w w' : World) : Prop where
  os : w'.os = w.os
  tape : w'.tape = w.tape
  output : w'.output = w.output
  size : w.heap.size ≤ w'.heap.size
  block : ∀ k, k < w.heap.size → (k < lo ∨ hi ≤ k) → w'.heap[k]? = w.heap[k]?
theorem Mid.refl (lo hi : Nat) (w : World) : Mid lo hi w w := ⟨rfl, rfl, rfl, Nat.le_refl _, fun _ _ _ => rfl⟩
theorem Mid.trans {lo hi : Nat} {a b c : World} (h : Mid lo hi a b) (k : Mid lo hi b c) : Mid lo hi a c :=
  ⟨k.os.trans h.os, k.tape.trans h.tape, k.output.trans h.output, Nat.le_trans h.size k.size, fun i hi hl => (k.block i (Nat.lt_of_lt_of_le hi h.size) hl).trans (h.block i hi hl)⟩
theorem Mid.grown {lo hi : Nat} {a b c : World} {r : Option Nat} (h : Mid lo hi a b) (k : b.grownBy c r) (hr : ∀ q, r = some q → lo ≤ q ∧ q < hi) : Mid lo hi a c :=
  h.trans ⟨k.os, k.tape, k.output, k.size, fun i hi' hl => k.block i hi' fun e => by have := hr i e.symm; omega⟩
theorem Mid.below {lo hi B : Nat} {w w' : World} (h : Mid lo hi w w') (hB : B ≤ lo) (hs : B ≤ w.heap.size) : Below B w w' := ⟨h.os, h.tape, h.output, h.size, fun k hk => h.block k (by omega) (.inl (by omega))⟩
theorem OwnI.mid {lo hi : Nat} {D : List Int} (h : OwnI B D v w) (k : Mid lo hi w w') (hB : hi ≤ B) : OwnI B D v w' := by
  refine ⟨⟨h.1.1, ?_⟩, h.2⟩
  rcases h.1.2 with e | ⟨g, cap, cur, e, hb, hg, r⟩
  · exact .inl e
  · exact .inr ⟨g, cap, cur, e, hb, (k.block g (Array.getElem?_eq_some_iff.1 hg).1 (.inr (by omega))).trans hg, r⟩
end

theorem flatF_set : ∀ (M : List (Frm × Value)) (j : Nat) (x : Frm × Value), j < M.length → ((((flatF M).set (j * 4) (.int .i64 x.1.id)).set (j * 4 + 1) (.bool x.1.rm)).set (j * 4 + 2) (.int .i64 x.1.ln)).set (j * 4 + 3) x.2 = flatF (M.set j x) := by
  intro M
  induction M with
  | nil => intro j x h; simp at h
  | cons m M ih =>
    intro j x h
    cases j with
    | zero => rfl
    | succ j =>
      have k := ih j x (by simpa using h)
      have e1 : (j + 1) * 4 = j * 4 + 1 + 1 + 1 + 1 := by omega
      rw [e1]
      simpa [flatF] using k
theorem flatF_id : ∀ (M : List (Frm × Value)) (j : Nat) (i : Int), j < M.length → (flatF M).set (j * 4) (.int .i64 i) = flatF (M.set j (⟨i, (nthM M j).1.rm, (nthM M j).1.ln, (nthM M j).1.D⟩, (nthM M j).2)) := by
  intro M
  induction M with
  | nil => intro j x h; simp at h
  | cons m M ih =>
    intro j x h
    cases j with
    | zero => rfl
    | succ j =>
      have k := ih j x (by simpa using h)
      have e1 : (j + 1) * 4 = j * 4 + 1 + 1 + 1 + 1 := by omega
      rw [e1]
      simpa [flatF, nthM] using k
theorem flatF_rm : ∀ (M : List (Frm × Value)) (j : Nat) (i : Bool), j < M.length → (flatF M).set (j * 4 + 1) (.bool i) = flatF (M.set j (⟨(nthM M j).1.id, i, (nthM M j).1.ln, (nthM M j).1.D⟩, (nthM M j).2)) := by
  intro M
  induction M with
  | nil => intro j x h; simp at h
  | cons m M ih =>
    intro j x h
    cases j with
    | zero => rfl
    | succ j =>
      have k := ih j x (by simpa using h)
      have e1 : (j + 1) * 4 = j * 4 + 1 + 1 + 1 + 1 := by omega
      rw [e1]
      simpa [flatF, nthM] using k
theorem flatF_ln : ∀ (M : List (Frm × Value)) (j : Nat) (i : Int), j < M.length → (flatF M).set (j * 4 + 2) (.int .i64 i) = flatF (M.set j (⟨(nthM M j).1.id, (nthM M j).1.rm, i, (nthM M j).1.D⟩, (nthM M j).2)) := by
  intro M
  induction M with
  | nil => intro j x h; simp at h
  | cons m M ih =>
    intro j x h
    cases j with
    | zero => rfl
    | succ j =>
      have k := ih j x (by simpa using h)
      have e1 : (j + 1) * 4 = j * 4 + 1 + 1 + 1 + 1 := by omega
      rw [e1]
      simpa [flatF, nthM] using k
theorem flatF_D : ∀ (M : List (Frm × Value)) (j : Nat) (D : List Int), j < M.length → flatF M = flatF (M.set j (⟨(nthM M j).1.id, (nthM M j).1.rm, (nthM M j).1.ln, D⟩, (nthM M j).2)) := by
  intro M
  induction M with
  | nil => intro j x h; simp at h
  | cons m M ih =>
    intro j x h
    cases j with
    | zero => rfl
    | succ j =>
      have k := ih j x (by simpa using h)
      simpa [flatF, nthM] using k
theorem flatF_nth {M : List (Frm × Value)} {j : Nat} (h : j < M.length) : (flatF M)[j * 4]? = some (.int .i64 (nthM M j).1.id) ∧ (flatF M)[j * 4 + 1]? = some (.bool (nthM M j).1.rm) ∧ (flatF M)[j * 4 + 2]? = some (.int .i64 (nthM M j).1.ln) ∧ (flatF M)[j * 4 + 3]? = some (nthM M j).2 := by
  rw [nthM_eq h]; exact flatF_at M j h
theorem flatF_len (M : List (Frm × Value)) : (flatF M).length = M.length * 4 := by
  induction M with
  | nil => rfl
  | cons m M ih => rw [show flatF (m :: M) = [.int .i64 m.1.id, .bool m.1.rm, .int .i64 m.1.ln, m.2] ++ flatF M by rfl, List.length_append, ih]; simp; omega

section
variable {B g c : Nat} {M : List (Frm × Value)} {w w' : World}
end
end Go.Proofs.Ytohjfjcpkloigaa

/- The exact laws' copies, marks and looks over a slice of frames: toFrameS (what it owns), markFrameS, heldFrameS. -/

set_option linter.unusedVariables false
set_option linter.unusedSimpArgs false
set_option maxRecDepth 20000
namespace Go.Proofs.Ytohjfjcpkloigaa
open Go.RowKit

/-- The data of the first k frames of the row stand in rows of their own. -/
def FarC (k : Nat) (cur : Array Value) : Prop := ∀ i j, i < k → j < k → i ≠ j → ∀ u v, cur[i * 4 + 3]? = some u → cur[j * 4 + 3]? = some v → Sep u.ownBlock v.ownBlock
theorem FarC.put {k : Nat} {cur cur' : Array Value} {dv : Value} (h : FarC k cur) (h1 : cur'[k * 4 + 3]? = some dv) (h2 : ∀ i, i < k * 4 → cur'[i]? = cur[i]?) (hd : ∀ i, i < k → ∀ u, cur[i * 4 + 3]? = some u → Sep u.ownBlock dv.ownBlock) : FarC (k + 1) cur' := by
  intro i j hi hj hne u v hu hv
  by_cases e : i = k
  · subst e
    rw [h1] at hu
    cases hu
    rw [h2 _ (by omega)] at hv
    exact (hd j (by omega) v hv).symm
  · rw [h2 _ (by omega)] at hu
    by_cases e2 : j = k
    · subst e2
      rw [h1] at hv
      cases hv
      exact hd i (by omega) u hu
    · rw [h2 _ (by omega)] at hv
      exact h i j (by omega) (by omega) hne u v hu hv


/-- The number ahead of frame j. -/
def kAt (k : Int) (L : List Frm) (j : Nat) : Int := k + 3 * (j : Int) + (room L j : Int)
def mkF (k : Int) (f : Frm) : Frm := ⟨k, (k + 1) % 3 == 0, k + 1 + 1, marks (k + 1 + 1 + 1) f.D.length⟩
def mkL (k : Int) (L : List Frm) : List Frm := (List.range L.length).map fun j => mkF (kAt k L j) (nthF L j)
theorem mkL_len (k : Int) (L : List Frm) : (mkL k L).length = L.length := by simp [mkL]
theorem mkL_nth {k : Int} {L : List Frm} {j : Nat} (h : j < L.length) : nthF (mkL k L) j = mkF (kAt k L j) (nthF L j) := by
  simp [nthF, mkL, List.getD_eq_getElem?_getD, h]
theorem kAt_succ {k : Int} {L : List Frm} {j : Nat} (h : j < L.length) : kAt k L (j + 1) = kAt k L j + 1 + 1 + 1 + ((nthF L j).D.length : Int) := by
  have := room_succ L j h
  simp only [kAt]; omega
/-- The first j of them are marked. -/
structure Mk (k : Int) (L : List Frm) (M0 : List (Frm × Value)) (j : Nat) (M : List (Frm × Value)) : Prop where
  len : M.length = M0.length
  dat : ∀ i, i < M.length → (nthM M i).2 = (nthM M0 i).2
  low : ∀ i, i < j → (nthM M i).1 = mkF (kAt k L i) (nthF L i)
  high : ∀ i, j ≤ i → i < M.length → nthM M i = nthM M0 i
theorem Mk.zero (k : Int) (L : List Frm) (M : List (Frm × Value)) : Mk k L M 0 M := ⟨rfl, fun _ _ => rfl, fun i hi => absurd hi (by omega), fun _ _ _ => rfl⟩
theorem Mk.succ {k : Int} {L : List Frm} {M0 M M' : List (Frm × Value)} {j : Nat} (h : Mk k L M0 j M) (hj : j < M.length) (hl : M'.length = M.length) (hs : ∀ i, i < M.length → nthM M' i = if i = j then (mkF (kAt k L j) (nthF L j), (nthM M j).2) else nthM M i) : Mk k L M0 (j + 1) M' := by
  refine ⟨hl.trans h.len, fun i hi => ?_, fun i hi => ?_, fun i hi hi2 => ?_⟩
  · rw [hs i (by omega)]
    by_cases e : i = j
    · rw [if_pos e, e]; exact h.dat j hj
    · rw [if_neg e]; exact h.dat i (by omega)
  · rw [hs i (by omega)]
    by_cases e : i = j
    · rw [if_pos e, e]
    · rw [if_neg e]; exact h.low i (by omega)
  · rw [hs i (by omega), if_neg (by omega)]; exact h.high i (by omega) (by omega)
theorem Mk.far {k : Int} {L : List Frm} {M0 M : List (Frm × Value)} {j : Nat} (h : Mk k L M0 j M) (f : Far M0) : Far M := by
  intro i l hi hl hne
  rw [h.dat i hi, h.dat l hl]
  exact f i l (by rw [← h.len]; exact hi) (by rw [← h.len]; exact hl) hne
theorem Mk.done {k : Int} {L : List Frm} {M0 M : List (Frm × Value)} (h : Mk k L M0 M0.length M) (hL : M0.length = L.length) : (M.map fun m => m.1) = mkL k L := by
  have hl := h.len
  apply List.ext_getElem?
  intro j
  by_cases hj : j < L.length
  · rw [List.getElem?_eq_getElem (by simp; omega), List.getElem?_eq_getElem (by rw [mkL_len]; exact hj), List.getElem_map, ← nthM_eq (by omega), h.low j (by omega)]
    simp [mkL]
  · rw [List.getElem?_eq_none (by simp; omega), List.getElem?_eq_none (by rw [mkL_len]; omega)]

theorem Mk.done' {k : Int} {L : List Frm} {M0 M : List (Frm × Value)} (hL : M0.length = L.length) (h : Mk k L M0 L.length M) : (M.map fun m => m.1) = mkL k L := Mk.done (by rw [hL]; exact h) hL

theorem Mk.under {k : Int} {L : List Frm} {M0 M : List (Frm × Value)} {j hi : Nat} {v : Value} (h : Mk k L M0 j M) (u : Under hi M0 v) : Under hi M v := by
  refine ⟨u.1, fun m hm q hq => ?_⟩
  obtain ⟨i, hi, rfl⟩ := List.mem_iff_getElem.1 hm
  have hl := h.len
  rw [← nthM_eq hi, h.dat i hi] at hq
  exact u.2 _ (nthM_mem (by omega)) q hq
end Go.Proofs.Ytohjfjcpkloigaa

/- The model's draws of tables: l15Draw, l15DrawAny, l15DrawAt. What is drawn is told as a row of the call's own, all numbers. -/

set_option linter.unusedVariables false
set_option linter.unusedSimpArgs false
set_option maxRecDepth 20000
namespace Go.Proofs.Ytohjfjcpkloigaa
open Go.RowKit

def isI (x : Value) : Prop := ∃ i : Int, x = .int .i64 i
/-- The slice v, in a row of the call's own, holds n messages. -/
def RowA (B n : Nat) (v : Value) (w : World) : Prop := ∃ xs, w.ownsRow B 31 6 v n xs ∧ ∀ x ∈ xs, isI x
section
variable {B n : Nat} {v : Value} {w w' : World}
theorem RowA.kept {row : Option Nat} (h : RowA B n v w) (k : w.grownBy w' row) (hne : v.ownBlock = none ∨ v.ownBlock ≠ row) : RowA B n v w' := h.imp fun xs h => ⟨World.ownsRow.kept h.1 k hne, h.2⟩
theorem RowA.is (h : RowA B n v w) : ∃ a c, v = .slice a n c := by
  obtain ⟨xs, h, _⟩ := h
  rcases h.2 with ⟨rfl, hn⟩ | ⟨g, cap, cur, rfl, _⟩
  · exact ⟨none, 0, by rw [hn]⟩
  · exact ⟨_, cap, rfl⟩
theorem RowA.low (h : RowA B n v w) {k : Nat} (hk : v.ownBlock = some k) : B ≤ k ∧ k < w.heap.size := by
  obtain ⟨xs, h, _⟩ := h
  exact World.ownsRow.lt h k hk
theorem RowA.at_ {a : Option Addr} {c : Nat} (h : RowA B n (.slice a n c) w) (hn : 0 < n) : ∃ g, a = some ⟨g, 0, none⟩ ∧ ∀ j, j < n * 6 → (∃ i : Int, w.cell? ⟨g, j, none⟩ = some (.int .i64 i)) ∧ w.frozen? ⟨g, j, none⟩ = false := by
  obtain ⟨xs, h, hx⟩ := h
  rcases h.2 with ⟨_, h0⟩ | ⟨g, cap, cur, e, _⟩
  · omega
  · simp only [Value.slice.injEq, true_and] at e
    obtain ⟨rfl, rfl⟩ := e
    refine ⟨g, rfl, fun j hj => ⟨?_, World.ownsRow.frozenAt h j⟩⟩
    have hl : j < xs.length := by rw [h.1]; exact hj
    rw [World.ownsRow.cellAt h j hj, List.getElem?_eq_getElem hl]
    obtain ⟨i, hi⟩ := hx _ (List.getElem_mem hl)
    exact ⟨i, by rw [hi]⟩
theorem RowA.stored {g c : Nat} (h : RowA B n (.slice (some ⟨g, 0, none⟩) n c) w) (j : Nat) (i : Int) : RowA B n (.slice (some ⟨g, 0, none⟩) n c) (w.setCell ⟨g, j, none⟩ (.int .i64 i)) := by
  obtain ⟨xs, h, hx⟩ := h
  refine ⟨_, (World.ownsRow.stored h j (.int .i64 i)).1, fun x hx' => ?_⟩
  rcases List.mem_or_eq_of_mem_set hx' with h1 | rfl
  · exact hx x h1
  · exact ⟨i, rfl⟩
theorem RowA.tbl {a : Option Addr} {c : Nat} (h : RowA B n (.slice a n c) w) (hm : n ≤ 2000000) : ∃ T : List Ms, T.length = n ∧ Tbl a T w := by
  by_cases hn : n = 0
  · subst hn
    exact ⟨[], rfl, Tbl.nil _ _⟩
  · obtain ⟨g, rfl, hc⟩ := h.at_ (by omega)
    obtain ⟨f, hf⟩ := Go.Deep.choose_lt (α := Ms) (p := fun i f => MsC g (0 + i * 6) f w) (n := n) (fun i hi => by
      obtain ⟨⟨x0, h0⟩, _⟩ := hc (i * 6) (by omega)
      obtain ⟨⟨x1, h1⟩, _⟩ := hc (i * 6 + 1) (by omega)
      obtain ⟨⟨x2, h2⟩, _⟩ := hc (i * 6 + 2) (by omega)
      obtain ⟨⟨x3, h3⟩, _⟩ := hc (i * 6 + 3) (by omega)
      obtain ⟨⟨x4, h4⟩, _⟩ := hc (i * 6 + 4) (by omega)
      obtain ⟨⟨x5, h5⟩, _⟩ := hc (i * 6 + 5) (by omega)
      rw [Nat.zero_add]
      exact ⟨⟨x0, x1, x2, x3, x4, x5⟩, h0, h1, h2, h3, h4, h5⟩)
    refine ⟨(List.range n).map f, by simp, by simp; unfold maxLen; omega, fun j hj => ⟨g, 0, rfl, ?_⟩⟩
    have hj' : j < n := by simpa using hj
    have e : nthTb ((List.range n).map f) j = f j := by simp [nthTb, List.getD_eq_getElem?_getD, hj']
    rw [e]
    exact hf j hj'
theorem RowA.ne_cur {B' p : Nat} {a : Option Addr} {len cap : Nat} (h : RowA B n v w) (s : St B' p a len cap w) : v.ownBlock ≠ some p := by
  obtain ⟨xs, h, _⟩ := h
  rcases h.2 with ⟨rfl, _⟩ | ⟨g', cap', cur, rfl, _, hg, _⟩
  · simp [Value.ownBlock]
  · intro e
    simp only [Value.ownBlock, Option.some.injEq] at e
    subst e
    obtain ⟨⟨i, h', c⟩, _⟩ := s
    rw [c.block] at hg
    simp at hg
end
theorem infoMs : (Try.prog.info? 31).map (fun i => (i.zero, i.size, i.bytes)) = some (some (.agg #[.int .i64 0, .int .i64 0, .int .i64 0, .int .i64 0, .int .i64 0, .int .i64 0]), 6, 48) := by kernel_rfl
/-- 'append' of one message. -/
theorem wpList_appMs {ops : Array Oper} {rest : List Oper} {p : Oper} {a : Act} {w : World} {Q : Exit → Act → World → Prop} (hgd : p.guard = none) (s x : Operand)
    (ho : p.op = .call { callee := .builtin .append, args := #[s, x], argTypes := #[27, 27] })
    (Bn n : Nat) (m : Ms) (v : Value) (hs : a.eval s = v) (hown : RowA Bn n v w) (g1 c1 : Nat) (hx : a.eval x = .slice (some ⟨g1, 0, none⟩) 1 c1)
    (hc : w.heap[g1]? = some (.cells (mgC m) 31 (0, 0))) (hsz : n ≤ 1000000) (hB : Bn ≤ w.heap.size)
    (h : ∀ av cv w', RowA Bn (n + 1) (.slice av (n + 1) cv) w' → w.grownBy w' v.ownBlock → wpList Try.prog ops Q rest (a.put p.dst (.slice av (n + 1) cv)) w') : wpList Try.prog ops Q (p :: rest) a w := by
  obtain ⟨i0, hi, hz0, hz1, hz2⟩ := info_parts infoMs
  obtain ⟨xs, ho1, hxs⟩ := hown
  refine wpList_append_own _ hgd s x 27 ho Bn 31 i0 (.agg #[.int .i64 0, .int .i64 0, .int .i64 0, .int .i64 0, .int .i64 0, .int .i64 0]) 6 48 Try.underlying27 hi hz0 hz1 hz2 rfl (by decide) v n xs hs ho1 ⟨g1, 0, none⟩ 1 c1 (mgC m).toList hx rfl ?_ ?_ ?_ ?_ hB ?_
  · intro j u hu
    rw [show (⟨g1, 0, none⟩ : Addr).add j = ⟨g1, j, none⟩ by unfold Addr.add; split <;> simp_all, cell_of_row w g1 _ _ _ _ hc, ← Array.getElem?_toList]
    exact hu
  · intro u hu; simp at hu; rcases hu with rfl | rfl | rfl | rfl | rfl | rfl <;> rfl
  · unfold maxLen; omega
  · omega
  · intro v' w' k2 k3 k4
    have hR : RowA Bn (n + 1) v' w' := ⟨_, k2, fun y hy => by
      rcases List.mem_append.1 hy with hy | hy
      · exact hxs y hy
      · simp at hy; rcases hy with rfl | rfl | rfl | rfl | rfl | rfl <;> exact ⟨_, rfl⟩⟩
    obtain ⟨av, cv, rfl⟩ := hR.is
    exact h av cv w' hR k3

/-- What stands while a table is drawn: the cursor, the row. -/
structure TS (w0 : World) (B p : Nat) (a : Option Addr) (len cap n : Nat) (v : Value) (w : World) : Prop where
  st : St B p a len cap w
  grown : w0.grownBy w (some p)
  own : RowA w0.heap.size n v w
  pl : p < w0.heap.size
section
variable {w0 : World} {B p : Nat} {a : Option Addr} {len cap n : Nat} {v : Value} {w : World}
theorem TS.step {w' : World} (F : TS w0 B p a len cap n v w) (k : w.grownBy w' (some p)) (t : St B p a len cap w') : TS w0 B p a len cap n v w' :=
  ⟨t, grown_trans F.grown k, F.own.kept k (.inr (F.own.ne_cur F.st)), F.pl⟩
theorem TS.alloc (F : TS w0 B p a len cap n v w) (o : Obj) : TS w0 B p a len cap n v (w.alloc o) := F.step (World.grownBy_alloc w o _) (F.st.alloc o)
theorem TS.drew (F : TS w0 B p a len cap n v w) : TS w0 B p a len cap n v w.drew := F.step (grown_drew (grown_refl w _)) F.st.drew
theorem TS.row (F : TS w0 B p a len cap n v w) {n' : Nat} {v' : Value} {w' : World} (own' : RowA w0.heap.size n' v' w') (k : w.grownBy w' v.ownBlock) : TS w0 B p a len cap n' v' w' := by
  have h1 := F.pl
  refine ⟨F.st.step k (fun j e => by have := F.own.low e; omega), ?_, own', h1⟩
  cases hv : v.ownBlock with
  | none => rw [hv] at k; exact grown_trans F.grown (grown_some k _)
  | some q => rw [hv] at k; exact grown_own F.grown k (F.own.low hv).1
/-- A number is stored in the row. -/
theorem TS.set {g c : Nat} (F : TS w0 B p a len cap n (.slice (some ⟨g, 0, none⟩) n c) w) (j : Nat) (i : Int) : TS w0 B p a len cap n (.slice (some ⟨g, 0, none⟩) n c) (w.setCell ⟨g, j, none⟩ (.int .i64 i)) := F.row (F.own.stored j i) (grown_set w g j _)
/-- A store in a block of the call's own that is neither the row nor the cursor. -/
theorem TS.other (F : TS w0 B p a len cap n v w) {g : Nat} (k : Nat) (x : Value) (hg : w0.heap.size ≤ g) (hv : v.ownBlock ≠ some g) (hp : g ≠ p) : TS w0 B p a len cap n v (w.setCell ⟨g, k, none⟩ x) := by
  have h1 := F.pl
  have hs : w.grownBy (w.setCell ⟨g, k, none⟩ x) (some g) := grown_set w g k x
  exact ⟨F.st.step hs (fun j e => by cases e; omega), grown_own F.grown hs hg, F.own.kept hs (.inr hv), h1⟩
theorem TS.made {w0 : World} (st : St B p a len cap w0) : TS w0 B p a len cap 0 (.slice (some ⟨w0.heap.size, 0, none⟩) 0 0) (w0.alloc (.cells #[] 31)) :=
  ⟨st.alloc _, World.grownBy_alloc w0 _ _, ⟨[], World.ownsRow_made (base := w0.heap.size) (e := 31) (size := 6) w0 #[] 0 (Nat.le_refl _) (Nat.zero_le _) rfl, fun x hx => by cases hx⟩, st.lt⟩
end
theorem blk_grown {w w' : World} {g : Nat} {o : Obj} {r : Option Nat} (h : w.heap[g]? = some o) (k : w.grownBy w' r) (hne : some g ≠ r) : w'.heap[g]? = some o := (k.block g (Array.getElem?_eq_some_iff.1 h).1 hne).trans h
theorem keep6 {w : World} {gF g : Nat} {o : Obj} (h : w.heap[gF]? = some o) (hne : gF ≠ g) (a0 a1 a2 a3 a4 a5 : Nat) (x0 x1 x2 x3 x4 x5 : Value) :
    ((((((w.setCell ⟨g, a0, none⟩ x0).setCell ⟨g, a1, none⟩ x1).setCell ⟨g, a2, none⟩ x2).setCell ⟨g, a3, none⟩ x3).setCell ⟨g, a4, none⟩ x4).setCell ⟨g, a5, none⟩ x5).heap[gF]? = some o :=
  blk_grown h (grown_trans (grown_trans (grown_trans (grown_trans (grown_trans (grown_set _ _ _ _) (grown_set _ _ _ _)) (grown_set _ _ _ _)) (grown_set _ _ _ _)) (grown_set _ _ _ _)) (grown_set _ _ _ _)) (by simpa using hne)
abbrev listJ : Array Value := (#[.int .i64 0, .int .i64 0, .int .i64 5, .int .i64 40, .int .i64 150] : Array Value)
theorem pickJ {x : Int} (h0 : 0 ≤ x) (h1 : x ≤ 4) : ∃ v : Int, listJ[x.toNat]? = some (.int .i64 v) := by
  have hx : x = 0 ∨ x = 1 ∨ x = 2 ∨ x = 3 ∨ x = 4 := by omega
  rcases hx with rfl | rfl | rfl | rfl | rfl <;> exact ⟨_, rfl⟩
/-- What a draw of a table leaves. -/
def DrewT (B p : Nat) (a : Option Addr) (len cap lo hi : Nat) (w : World) (e : Ending) (w' : World) : Prop :=
  ∃ (n : Nat) (v : Value), e = .returned v ∧ TS w B p a len cap n v w' ∧ lo ≤ n ∧ n ≤ hi

set_option maxHeartbeats 8000000 in
/-- spec.l15Draw. -/
theorem drawTable {B p : Nat} {a : Option Addr} {len cap : Nat} (w : World) (st : St B p a len cap w) :
    Calls Try.prog 85 #[.pointer (some ⟨p, 0, none⟩)] w (DrewT B p a len cap 1 5 w) := by
  have F := TS.made st
  have hp := st.lt
  go_enter Try.func85, Try.ntmps85
  go_upto_region 2 with fail
  generalize w.alloc (.cells #[] 31) = W at *
  generalize (.slice (some ⟨w.heap.size, 0, none⟩) 0 0 : Value) = v0 at *
  go_wp2_with fail
  refine (belowPos (B := B) (a := a) (len := len) (cap := cap) 5 _ (by omega) (by omega) F.st).mono ?_
  rintro e w1 ⟨n, n0, n1, rfl, g1, s1⟩
  replace F := F.step g1 s1
  clear g1 s1
  obtain ⟨n, rfl⟩ := Int.eq_ofNat_of_zero_le n0
  have hn4 : n ≤ 4 := by omega
  replace F := Lib.hid F
  go_wp2_with fail
  go_loopw [3, 4] (fun l i wr => ∃ (n m : Nat), i = .int .i64 n ∧ 1 ≤ m + n ∧ m + n ≤ 5 ∧ TS w B p a len cap m l wr) (fun _ i _ => (intOf i).toNat)
  case atStart => exact ⟨1 + n, 0, by simp, by omega, by omega, F.out⟩
  case round =>
    clear F n0 n1 hn4
    obtain ⟨n, m, rfl, hn1, hn5, F⟩ := hrel
    obtain ⟨av, cv, rfl⟩ := F.own.is
    by_cases h0 : n = 0
    · subst h0
      have hm1 : 1 ≤ m := by omega
      obtain ⟨g, rfl, hc0⟩ := F.own.at_ hm1
      have hgl := (F.own.low (k := g) rfl)
      obtain ⟨k, hkm⟩ : ∃ k, m = k + 1 := ⟨m - 1, by omega⟩
      have hk2 : (m : Int) - 1 = (k : Int) := by omega
      have hk1 : IntKind.i64.wrap (k : Int) = (k : Int) := IntWalk.i64_in _ (by omega)
      have hk3 : IntKind.i64.wrap ((m : Int) - 1) = (k : Int) := by rw [hk2]; exact hk1
      have hkl : k < m := by omega
      have hk6 : k * 6 + 6 ≤ m * 6 := by omega
      replace hkm := Lib.hid hkm
      go_wp2_with fail
      refine (onceAny (B := B) (a := a) (len := len) (cap := cap) 2 _ (by omega) (by omega) F.st).mono ?_
      rintro e w2 ⟨bb, rfl, gX, sX⟩
      replace F := F.step gX sX
      clear gX sX hc0
      have hgl2 := (F.own.low (k := g) rfl).2
      cases bb with
      | false =>
        go_wp2_with fail
        refine (onceAny (B := B) (a := a) (len := len) (cap := cap) 5 _ (by omega) (by omega) F.st).mono ?_
        rintro e wa ⟨b5, rfl, gX, sX⟩
        replace F := F.step gX sX
        clear gX sX
        cases b5 with
        | false =>
          go_wp2_with fail
          go_ret
          exact ⟨m, _, rfl, F, hm1, by omega⟩
        | true =>
          go_wp2_with fail
          refine (belowPos (B := B) (a := a) (len := len) (cap := cap) 200 _ (by omega) (by omega) F.st).mono ?_
          rintro e wb ⟨pp, p0, p1, rfl, gX, sX⟩
          replace F := F.step gX sX
          clear gX sX
          obtain ⟨_, e0, hc⟩ := F.own.at_ hm1
          cases e0
          obtain ⟨⟨q2, qc2⟩, qf2⟩ := hc 2 (by omega)
          clear hc
          go_upto_region 15 with fail
          replace F := F.set 2 (100 + pp)
          clear qc2 qf2
          generalize World.setCell _ _ _ = wc at F ⊢
          go_wp2_with fail
          refine (belowPos (B := B) (a := a) (len := len) (cap := cap) 50 _ (by omega) (by omega) F.st).mono ?_
          rintro e wd ⟨jj, j0, j1, rfl, gX, sX⟩
          replace F := F.step gX sX
          clear gX sX
          obtain ⟨_, e0, hc⟩ := F.own.at_ hm1
          cases e0
          obtain ⟨⟨q3, qc3⟩, qf3⟩ := hc 3 (by omega)
          clear hc
          go_upto_region 16 with fail
          replace F := F.set 3 jj
          clear qc3 qf3
          generalize World.setCell _ _ _ = we at F ⊢
          obtain ⟨_, e0, hc⟩ := F.own.at_ hm1
          cases e0
          obtain ⟨⟨q2, qc2⟩, qf2⟩ := hc 2 (by omega)
          obtain ⟨⟨q4, qc4⟩, qf4⟩ := hc 4 (by omega)
          clear hc
          go_upto_region 17 with fail
          replace F := F.set 4 q2
          clear qc2 qf2 qc4 qf4
          generalize World.setCell _ _ _ = wf at F ⊢
          go_wp2_with fail
          go_ret
          exact ⟨m, _, rfl, F, hm1, by omega⟩
      | true =>
        by_cases hm2 : 1 < m
        · have hm2d : decide (1 < m) = true := decide_eq_true hm2
          go_upto_region 10 with fail
          obtain ⟨_, e0, hc⟩ := F.own.at_ hm1
          cases e0
          obtain ⟨⟨x0, xc0⟩, xf0⟩ := hc (0) (by omega)
          obtain ⟨⟨x1, xc1⟩, xf1⟩ := hc (1) (by omega)
          obtain ⟨⟨x2, xc2⟩, xf2⟩ := hc (2) (by omega)
          obtain ⟨⟨x3, xc3⟩, xf3⟩ := hc (3) (by omega)
          obtain ⟨⟨x4, xc4⟩, xf4⟩ := hc (4) (by omega)
          obtain ⟨⟨x5, xc5⟩, xf5⟩ := hc (5) (by omega)
          clear hc
          go_upto_region 11 with fail
          have HF := heap_alloc_new w2 (.cells (mgC ⟨x0, x1, x2, x3, x4, x5⟩) 31)
          replace F := F.alloc (.cells (mgC ⟨x0, x1, x2, x3, x4, x5⟩) 31)
          clear xc0 xf0 xc1 xf1 xc2 xf2 xc3 xf3 xc4 xf4 xc5 xf5
          have hgF : w2.heap.size ≠ g := by omega
          generalize w2.alloc _ = w3 at F HF ⊢
          generalize w2.heap.size = gF at HF hgF ⊢
          obtain ⟨_, e0, hc⟩ := F.own.at_ hm1
          cases e0
          obtain ⟨⟨y0, yc0⟩, yf0⟩ := hc (0) (by omega)
          obtain ⟨⟨y1, yc1⟩, yf1⟩ := hc (1) (by omega)
          obtain ⟨⟨y2, yc2⟩, yf2⟩ := hc (2) (by omega)
          obtain ⟨⟨y3, yc3⟩, yf3⟩ := hc (3) (by omega)
          obtain ⟨⟨y4, yc4⟩, yf4⟩ := hc (4) (by omega)
          obtain ⟨⟨y5, yc5⟩, yf5⟩ := hc (5) (by omega)
          obtain ⟨⟨z0, zc0⟩, zf0⟩ := hc (k * 6) (by omega)
          obtain ⟨⟨z1, zc1⟩, zf1⟩ := hc (k * 6 + 1) (by omega)
          obtain ⟨⟨z2, zc2⟩, zf2⟩ := hc (k * 6 + 2) (by omega)
          obtain ⟨⟨z3, zc3⟩, zf3⟩ := hc (k * 6 + 3) (by omega)
          obtain ⟨⟨z4, zc4⟩, zf4⟩ := hc (k * 6 + 4) (by omega)
          obtain ⟨⟨z5, zc5⟩, zf5⟩ := hc (k * 6 + 5) (by omega)
          clear hc
          go_upto_region 12 with fail
          replace F := ((((((F.set 0 z0).set 1 z1).set 2 z2).set 3 z3).set 4 z4).set 5 z5)
          replace HF := keep6 HF hgF 0 1 2 3 4 5 (.int .i64 z0) (.int .i64 z1) (.int .i64 z2) (.int .i64 z3) (.int .i64 z4) (.int .i64 z5)
          clear yc0 yf0 yc1 yf1 yc2 yf2 yc3 yf3 yc4 yf4 yc5 yf5 zc0 zf0 zc1 zf1 zc2 zf2 zc3 zf3 zc4 zf4 zc5 zf5
          generalize World.setCell _ _ _ = w4 at F HF ⊢
          have f0 := cell_of_row w4 gF 0 _ _ _ HF
          have f1 := cell_of_row w4 gF 1 _ _ _ HF
          have f2 := cell_of_row w4 gF 2 _ _ _ HF
          have f3 := cell_of_row w4 gF 3 _ _ _ HF
          have f4 := cell_of_row w4 gF 4 _ _ _ HF
          have f5 := cell_of_row w4 gF 5 _ _ _ HF
          simp at f0 f1 f2 f3 f4 f5
          obtain ⟨_, e0, hc⟩ := F.own.at_ hm1
          cases e0
          obtain ⟨⟨z0, zc0⟩, zf0⟩ := hc (k * 6) (by omega)
          obtain ⟨⟨z1, zc1⟩, zf1⟩ := hc (k * 6 + 1) (by omega)
          obtain ⟨⟨z2, zc2⟩, zf2⟩ := hc (k * 6 + 2) (by omega)
          obtain ⟨⟨z3, zc3⟩, zf3⟩ := hc (k * 6 + 3) (by omega)
          obtain ⟨⟨z4, zc4⟩, zf4⟩ := hc (k * 6 + 4) (by omega)
          obtain ⟨⟨z5, zc5⟩, zf5⟩ := hc (k * 6 + 5) (by omega)
          clear hc
          go_upto_region 13 with fail
          replace F := ((((((F.set (k * 6) x0).set (k * 6 + 1) x1).set (k * 6 + 2) x2).set (k * 6 + 3) x3).set (k * 6 + 4) x4).set (k * 6 + 5) x5)
          clear zc0 zf0 zc1 zf1 zc2 zf2 zc3 zf3 zc4 zf4 zc5 zf5 f0 f1 f2 f3 f4 f5 HF
          generalize World.setCell _ _ _ = w5 at F ⊢
          go_wp2_with fail
          refine (onceAny (B := B) (a := a) (len := len) (cap := cap) 5 _ (by omega) (by omega) F.st).mono ?_
          rintro e wa ⟨b5, rfl, gX, sX⟩
          replace F := F.step gX sX
          clear gX sX
          cases b5 with
          | false =>
            go_wp2_with fail
            go_ret
            exact ⟨m, _, rfl, F, hm1, by omega⟩
          | true =>
            go_wp2_with fail
            refine (belowPos (B := B) (a := a) (len := len) (cap := cap) 200 _ (by omega) (by omega) F.st).mono ?_
            rintro e wb ⟨pp, p0, p1, rfl, gX, sX⟩
            replace F := F.step gX sX
            clear gX sX
            obtain ⟨_, e0, hc⟩ := F.own.at_ hm1
            cases e0
            obtain ⟨⟨q2, qc2⟩, qf2⟩ := hc 2 (by omega)
            clear hc
            go_upto_region 15 with fail
            replace F := F.set 2 (100 + pp)
            clear qc2 qf2
            generalize World.setCell _ _ _ = wc at F ⊢
            go_wp2_with fail
            refine (belowPos (B := B) (a := a) (len := len) (cap := cap) 50 _ (by omega) (by omega) F.st).mono ?_
            rintro e wd ⟨jj, j0, j1, rfl, gX, sX⟩
            replace F := F.step gX sX
            clear gX sX
            obtain ⟨_, e0, hc⟩ := F.own.at_ hm1
            cases e0
            obtain ⟨⟨q3, qc3⟩, qf3⟩ := hc 3 (by omega)
            clear hc
            go_upto_region 16 with fail
            replace F := F.set 3 jj
            clear qc3 qf3
            generalize World.setCell _ _ _ = we at F ⊢
            obtain ⟨_, e0, hc⟩ := F.own.at_ hm1
            cases e0
            obtain ⟨⟨q2, qc2⟩, qf2⟩ := hc 2 (by omega)
            obtain ⟨⟨q4, qc4⟩, qf4⟩ := hc 4 (by omega)
            clear hc
            go_upto_region 17 with fail
            replace F := F.set 4 q2
            clear qc2 qf2 qc4 qf4
            generalize World.setCell _ _ _ = wf at F ⊢
            go_wp2_with fail
            go_ret
            exact ⟨m, _, rfl, F, hm1, by omega⟩
        · have hm2d : decide (1 < m) = false := decide_eq_false hm2
          go_wp2_with fail
          refine (onceAny (B := B) (a := a) (len := len) (cap := cap) 5 _ (by omega) (by omega) F.st).mono ?_
          rintro e wa ⟨b5, rfl, gX, sX⟩
          replace F := F.step gX sX
          clear gX sX
          cases b5 with
          | false =>
            go_wp2_with fail
            go_ret
            exact ⟨m, _, rfl, F, hm1, by omega⟩
          | true =>
            go_wp2_with fail
            refine (belowPos (B := B) (a := a) (len := len) (cap := cap) 200 _ (by omega) (by omega) F.st).mono ?_
            rintro e wb ⟨pp, p0, p1, rfl, gX, sX⟩
            replace F := F.step gX sX
            clear gX sX
            obtain ⟨_, e0, hc⟩ := F.own.at_ hm1
            cases e0
            obtain ⟨⟨q2, qc2⟩, qf2⟩ := hc 2 (by omega)
            clear hc
            go_upto_region 15 with fail
            replace F := F.set 2 (100 + pp)
            clear qc2 qf2
            generalize World.setCell _ _ _ = wc at F ⊢
            go_wp2_with fail
            refine (belowPos (B := B) (a := a) (len := len) (cap := cap) 50 _ (by omega) (by omega) F.st).mono ?_
            rintro e wd ⟨jj, j0, j1, rfl, gX, sX⟩
            replace F := F.step gX sX
            clear gX sX
            obtain ⟨_, e0, hc⟩ := F.own.at_ hm1
            cases e0
            obtain ⟨⟨q3, qc3⟩, qf3⟩ := hc 3 (by omega)
            clear hc
            go_upto_region 16 with fail
            replace F := F.set 3 jj
            clear qc3 qf3
            generalize World.setCell _ _ _ = we at F ⊢
            obtain ⟨_, e0, hc⟩ := F.own.at_ hm1
            cases e0
            obtain ⟨⟨q2, qc2⟩, qf2⟩ := hc 2 (by omega)
            obtain ⟨⟨q4, qc4⟩, qf4⟩ := hc 4 (by omega)
            clear hc
            go_upto_region 17 with fail
            replace F := F.set 4 q2
            clear qc2 qf2 qc4 qf4
            generalize World.setCell _ _ _ = wf at F ⊢
            go_wp2_with fail
            go_ret
            exact ⟨m, _, rfl, F, hm1, by omega⟩
    · have hpos : 0 < n := by omega
      go_wp2_with fail
      refine (belowPos (B := B) (a := a) (len := len) (cap := cap) 10 _ (by omega) (by omega) F.st).mono ?_
      rintro e w2 ⟨x, x0, x1, rfl, gX, sX⟩
      replace F := F.step gX sX
      clear gX sX
      go_wp2_with fail
      refine (belowPos (B := B) (a := a) (len := len) (cap := cap) 9 _ (by omega) (by omega) F.st).mono ?_
      rintro e w3 ⟨y, y0, y1, rfl, gX, sX⟩
      replace F := F.step gX sX
      clear gX sX
      go_wp2_with fail
      refine (belowPos (B := B) (a := a) (len := len) (cap := cap) 12 _ (by omega) (by omega) F.st).mono ?_
      rintro e w4 ⟨z, z0, z1, rfl, gX, sX⟩
      replace F := F.step gX sX
      clear gX sX
      go_wp2_with fail
      refine (belowPos (B := B) (a := a) (len := len) (cap := cap) 3 _ (by omega) (by omega) F.st).mono ?_
      rintro e w5 ⟨q, q0, q1, rfl, gX, sX⟩
      replace F := F.step gX sX
      clear gX sX
      have hm5 : m ≤ 5 := by omega
      have hvg : ∀ r, (Value.slice av m cv).ownBlock = some r → r < w5.heap.size := fun r hr => (F.own.low hr).2
      have hw5 := F.grown.size
      have hp5 := F.st.lt
      have HB := heap_alloc_new w5 (.cells (mgC ⟨10 * (m : Int) + x, y, 400 + 100 * z, 0, 0, q⟩) 31)
      replace F := F.alloc (.cells (mgC ⟨10 * (m : Int) + x, y, 400 + 100 * z, 0, 0, q⟩) 31)
      go_upto_region 6 with fail
      generalize w5.alloc _ = W5 at F HB ⊢
      generalize w5.heap.size = gm at HB hvg hw5 hp5 ⊢
      have hgm := (Array.getElem?_eq_some_iff.1 HB).1
      have HL := heap_alloc_new W5 (.cells listJ 2)
      have gA := World.grownBy_alloc W5 (.cells listJ 2) none
      replace HB := blk_grown HB gA (by simp)
      replace F := F.alloc (.cells listJ 2)
      have hWl : p < W5.heap.size := by omega
      have hm2 : 0 ≤ 400 + 100 * z ∧ 400 + 100 * z ≤ 2000 := by omega
      generalize 10 * (m : Int) + x = m0 at *
      generalize 400 + 100 * z = m2 at *
      go_wp2_with fail
      refine (belowPos (B := B) (a := a) (len := len) (cap := cap) 5 _ (by omega) (by omega) F.st).mono ?_
      rintro e w6 ⟨r, r0, r1, rfl, gX, sX⟩
      replace F := F.step gX sX
      replace HB := blk_grown HB gX (by simp; omega)
      replace HL := blk_grown HL gX (by simp; omega)
      obtain ⟨jv, hjv⟩ := pickJ r0 (by omega)
      have k1 := (cell_of_row w6 _ r.toNat _ _ _ HL).trans hjv
      have c3 := cell_of_row w6 gm 3 _ _ _ HB
      have z3 := frozen_of_row w6 gm 3 _ _ HB
      have hr5 : r < 5 := by omega
      clear gX sX gA HL hjv
      go_upto_region 7 with fail
      replace F := F.other (g := gm) 3 (.int .i64 jv) hw5 (fun e => by have := hvg gm e; omega) (by omega)
      replace HB := heap_setCell_same w6 gm 3 _ _ (.int .i64 jv) HB
      clear c3 z3 k1
      generalize w6.setCell _ _ = w7 at F HB ⊢
      have FD := F.drew
      have HD : w7.drew.heap[gm]? = _ := HB
      have c2 := cell_of_row w7.drew gm 2 _ _ _ HD
      clear F HB
      go_region_law (first
        | (go_simp
           refine (belowPos (B := B) (a := a) (len := len) (cap := cap) 3 _ (by omega) (by omega) FD.st).mono ?_
           rintro e w8 ⟨d, d0, d1, rfl, gX, sX⟩
           have F8 := FD.step gX sX
           have HB8 := blk_grown HD gX (by simp; omega)
           have e2 := cell_of_row w8 gm 2 _ _ _ HB8
           have e4 := cell_of_row w8 gm 4 _ _ _ HB8
           have z4 := frozen_of_row w8 gm 4 _ _ HB8))
      all_goals
        generalize IntKind.i64.wrap (m2 - IntKind.i64.wrap (d * 100)) = dv
        have F9 := F8.other (g := gm) 4 (.int .i64 dv) hw5 (fun e => by have := hvg gm e; omega) (by omega)
        have HB9 := heap_setCell_same w8 gm 4 _ _ (.int .i64 dv) HB8
        go_upto_region 8 with fail
        clear c2 e2 e4 z4 F8 HB8 FD HD
        generalize World.setCell _ _ _ = w9 at F9 HB9 ⊢
        have b0 := cell_of_row w9 gm 0 _ _ _ HB9
        have b1 := cell_of_row w9 gm 1 _ _ _ HB9
        have b2 := cell_of_row w9 gm 2 _ _ _ HB9
        have b3 := cell_of_row w9 gm 3 _ _ _ HB9
        have b4 := cell_of_row w9 gm 4 _ _ _ HB9
        have b5 := cell_of_row w9 gm 5 _ _ _ HB9
        simp at b0 b1 b2 b3 b4 b5
        have FA := F9.alloc (.cells (mgC ⟨m0, y, m2, jv, dv, q⟩) 31)
        have HA := heap_alloc_new w9 (.cells (mgC ⟨m0, y, m2, jv, dv, q⟩) 31)
        have hsz : m ≤ 1000000 := by omega
        have hB := FA.grown.size
        go_wp2_with (at_builtin; (refine wpList_appMs rfl _ _ rfl w.heap.size m ⟨m0, y, m2, jv, dv, q⟩ _ rfl FA.own w9.heap.size 1 rfl HA hsz hB ?_; intro av2 cv2 w10 O10 g10))
        have FB := FA.row O10 g10
        clear FA F9 HB9 HA b0 b1 b2 b3 b4 b5 O10 g10
        go_wp2_with fail
        go_roundw
        case rel => exact ⟨n - 1, m + 1, by go_num, by omega, by omega, FB⟩
        case measure => simp [intOf]; omega
/-- A row of noughts is made. -/
theorem TS.zero {w0 : World} {B p : Nat} {a : Option Addr} {len cap n : Nat} {v : Value} {w : World} (F : TS w0 B p a len cap n v w) (k : Nat) (hk : k ≤ 1048576) :
    TS w0 B p a len cap k (.slice (some ⟨w.heap.size, 0, none⟩) k k) (w.alloc (.cells (madeCells #[.int .i64 0, .int .i64 0, .int .i64 0, .int .i64 0, .int .i64 0, .int .i64 0] (k * 6)) 31)) := by
  have hz : (madeCells #[Value.int .i64 0, .int .i64 0, .int .i64 0, .int .i64 0, .int .i64 0, .int .i64 0] (k * 6)).size = k * 6 := by simp [madeCells]
  refine ⟨F.st.alloc _, grown_trans F.grown (World.grownBy_alloc w _ _), ⟨_, ⟨?_, .inr ⟨w.heap.size, k, _, rfl, F.grown.size, heap_alloc_new w _, Nat.le_refl _, by unfold maxLen; omega, hz, List.take_of_length_le (by rw [Array.length_toList, hz]; omega)⟩⟩, fun x hx => ?_⟩, F.pl⟩
  · rw [Array.length_toList, hz]
  · obtain ⟨j, hj, rfl⟩ := List.mem_iff_getElem.1 hx
    have h6 : j % 6 = 0 ∨ j % 6 = 1 ∨ j % 6 = 2 ∨ j % 6 = 3 ∨ j % 6 = 4 ∨ j % 6 = 5 := by omega
    refine ⟨0, ?_⟩
    simp only [madeCells, Array.getElem_toList, Array.getElem_map, Array.getElem_range]
    rcases h6 with h | h | h | h | h | h <;> simp [h]

set_option maxHeartbeats 8000000 in
/-- spec.l15DrawAny. -/
theorem drawAnyTable {B p : Nat} {a : Option Addr} {len cap : Nat} (w : World) (st : St B p a len cap w) :
    Calls Try.prog 75 #[.pointer (some ⟨p, 0, none⟩)] w (DrewT B p a len cap 0 13 w) := by
  go_enter Try.func75, Try.ntmps75
  go_wp2_with fail
  refine (drawTable (B := B) (a := a) (len := len) (cap := cap) w st).mono ?_
  rintro e w2 ⟨m, v, rfl, F, hm1, hm5⟩
  obtain ⟨av, cv, rfl⟩ := F.own.is
  obtain ⟨g, rfl, _⟩ := F.own.at_ hm1
  go_wp2_with fail
  refine (onceAny (B := B) (a := a) (len := len) (cap := cap) 5 _ (by omega) (by omega) F.st).mono ?_
  rintro e w3 ⟨bb, rfl, gX, sX⟩
  replace F := F.step gX sX
  clear gX sX
  cases bb with
  | false =>
    go_wp2_with fail
    go_ret
    exact ⟨m, _, rfl, F, by omega, by omega⟩
  | true =>
    go_wp2_with fail
    refine (belowPos (B := B) (a := a) (len := len) (cap := cap) (m : Int) _ (by omega) (by omega) F.st).mono ?_
    rintro e w4 ⟨i, i0, i1, rfl, gX, sX⟩
    replace F := F.step gX sX
    clear gX sX
    obtain ⟨i, rfl⟩ := Int.eq_ofNat_of_zero_le i0
    have him : i < m := by omega
    have him6 : i * 6 + 6 ≤ m * 6 := by omega
    clear i0 i1
    go_wp2_with fail
    refine (belowPos (B := B) (a := a) (len := len) (cap := cap) 8 _ (by omega) (by omega) F.st).mono ?_
    rintro e w5 ⟨x, x0, x1, rfl, gX, sX⟩
    replace F := F.step gX sX
    clear gX sX
    have hx : x = 0 ∨ x = 1 ∨ x = 2 ∨ x = 3 ∨ x = 4 ∨ x = 5 ∨ x = 6 ∨ x = 7 := by omega
    clear x0 x1
    rcases hx with rfl | rfl | rfl | rfl | rfl | rfl | rfl | rfl
    · go_wp2_with fail
      refine (numAny (B := B) (a := a) (len := len) (cap := cap) 2047 _ (by omega) (by omega) F.st).mono ?_
      rintro e w6 ⟨y, y0, y1, rfl, gX, sX⟩
      replace F := F.step gX sX
      clear gX sX y0 y1
      obtain ⟨_, e0, hc⟩ := F.own.at_ hm1
      cases e0
      obtain ⟨⟨q, qc⟩, qf⟩ := hc (i * 6) (by omega)
      clear hc
      go_upto_region 22 with fail
      replace F := F.set (i * 6) y
      clear qc qf
      generalize World.setCell _ _ _ = wf at F ⊢
      go_wp2_with fail
      go_ret
      exact ⟨m, _, rfl, F, by omega, by omega⟩
    · go_wp2_with fail
      refine (numAny (B := B) (a := a) (len := len) (cap := cap) 8 _ (by omega) (by omega) F.st).mono ?_
      rintro e w6 ⟨y, y0, y1, rfl, gX, sX⟩
      replace F := F.step gX sX
      clear gX sX y0 y1
      obtain ⟨_, e0, hc⟩ := F.own.at_ hm1
      cases e0
      obtain ⟨⟨q, qc⟩, qf⟩ := hc (i * 6 + 1) (by omega)
      clear hc
      go_upto_region 22 with fail
      replace F := F.set (i * 6 + 1) y
      clear qc qf
      generalize World.setCell _ _ _ = wf at F ⊢
      go_wp2_with fail
      go_ret
      exact ⟨m, _, rfl, F, by omega, by omega⟩
    · go_wp2_with fail
      refine (numAny (B := B) (a := a) (len := len) (cap := cap) 20000 _ (by omega) (by omega) F.st).mono ?_
      rintro e w6 ⟨y, y0, y1, rfl, gX, sX⟩
      replace F := F.step gX sX
      clear gX sX y0 y1
      obtain ⟨_, e0, hc⟩ := F.own.at_ hm1
      cases e0
      obtain ⟨⟨q, qc⟩, qf⟩ := hc (i * 6 + 2) (by omega)
      clear hc
      go_upto_region 22 with fail
      replace F := F.set (i * 6 + 2) y
      clear qc qf
      generalize World.setCell _ _ _ = wf at F ⊢
      go_wp2_with fail
      go_ret
      exact ⟨m, _, rfl, F, by omega, by omega⟩
    · obtain ⟨_, e0, hc⟩ := F.own.at_ hm1
      cases e0
      obtain ⟨⟨q2, qc2⟩, qf2⟩ := hc (i * 6 + 2) (by omega)
      clear hc
      have FD := F.drew
      have qd2 : w5.drew.cell? ⟨g, i * 6 + 2, none⟩ = some (.int .i64 q2) := qc2
      have hgd := (FD.own.low (k := g) rfl)
      clear F qc2 qf2
      go_upto_region 13 with fail
      go_region_law (first
        | (go_simp
           refine (fromAny (B := B) (a := a) (len := len) (cap := cap) 0 1 _ (by omega) (by omega) (by omega) FD.st).mono ?_
           rintro e w6 ⟨d, d0, d1, rfl, gX, sX⟩
           have F8 := FD.step gX sX
           have e2 := (World.cell?_of_block (a := ⟨g, i * 6 + 2, none⟩) (gX.block g hgd.2 (by simp; have := FD.pl; omega))).trans qd2
           obtain ⟨_, e0, hc⟩ := F8.own.at_ hm1
           cases e0
           obtain ⟨⟨q3, qc3⟩, qf3⟩ := hc (i * 6 + 3) (by omega)
           clear hc))
      all_goals
        generalize IntKind.i64.wrap (q2 + d) = dv
        have F9 := F8.set (i * 6 + 3) dv
        go_upto_region 22 with fail
        clear qc3 qf3 e2 qd2 FD F8
        generalize World.setCell _ _ _ = wf at F9 ⊢
        go_wp2_with fail
        go_ret
        exact ⟨m, _, rfl, F9, by omega, by omega⟩
    · obtain ⟨_, e0, hc⟩ := F.own.at_ hm1
      cases e0
      obtain ⟨⟨q2, qc2⟩, qf2⟩ := hc (i * 6 + 2) (by omega)
      clear hc
      have FD := F.drew
      have qd2 : w5.drew.cell? ⟨g, i * 6 + 2, none⟩ = some (.int .i64 q2) := qc2
      have hgd := (FD.own.low (k := g) rfl)
      clear F qc2 qf2
      go_upto_region 15 with fail
      go_region_law (first
        | (go_simp
           refine (fromAny (B := B) (a := a) (len := len) (cap := cap) 0 1 _ (by omega) (by omega) (by omega) FD.st).mono ?_
           rintro e w6 ⟨d, d0, d1, rfl, gX, sX⟩
           have F8 := FD.step gX sX
           have e2 := (World.cell?_of_block (a := ⟨g, i * 6 + 2, none⟩) (gX.block g hgd.2 (by simp; have := FD.pl; omega))).trans qd2
           obtain ⟨_, e0, hc⟩ := F8.own.at_ hm1
           cases e0
           obtain ⟨⟨q4, qc4⟩, qf4⟩ := hc (i * 6 + 4) (by omega)
           clear hc))
      all_goals
        generalize IntKind.i64.wrap (d * IntKind.i64.wrap (q2 + 1)) = dv
        have F9 := F8.set (i * 6 + 4) dv
        go_upto_region 22 with fail
        clear qc4 qf4 e2 qd2 FD F8
        generalize World.setCell _ _ _ = wf at F9 ⊢
        go_wp2_with fail
        go_ret
        exact ⟨m, _, rfl, F9, by omega, by omega⟩
    · go_wp2_with fail
      refine (numAny (B := B) (a := a) (len := len) (cap := cap) 5 _ (by omega) (by omega) F.st).mono ?_
      rintro e w6 ⟨y, y0, y1, rfl, gX, sX⟩
      replace F := F.step gX sX
      clear gX sX y0 y1
      obtain ⟨_, e0, hc⟩ := F.own.at_ hm1
      cases e0
      obtain ⟨⟨q, qc⟩, qf⟩ := hc (i * 6 + 5) (by omega)
      clear hc
      go_upto_region 22 with fail
      replace F := F.set (i * 6 + 5) y
      clear qc qf
      generalize World.setCell _ _ _ = wf at F ⊢
      go_wp2_with fail
      go_ret
      exact ⟨m, _, rfl, F, by omega, by omega⟩
    · obtain ⟨_, e0, hc⟩ := F.own.at_ hm1
      cases e0
      obtain ⟨⟨x0, xc0⟩, xf0⟩ := hc 0 (by omega)
      obtain ⟨⟨x1, xc1⟩, xf1⟩ := hc 1 (by omega)
      obtain ⟨⟨x2, xc2⟩, xf2⟩ := hc 2 (by omega)
      obtain ⟨⟨x3, xc3⟩, xf3⟩ := hc 3 (by omega)
      obtain ⟨⟨x4, xc4⟩, xf4⟩ := hc 4 (by omega)
      obtain ⟨⟨x5, xc5⟩, xf5⟩ := hc 5 (by omega)
      clear hc
      have FA := F.alloc (.cells (mgC ⟨x0, x1, x2, x3, x4, x5⟩) 31)
      have HA := heap_alloc_new w5 (.cells (mgC ⟨x0, x1, x2, x3, x4, x5⟩) 31)
      have hsz : m ≤ 1000000 := by omega
      have hB := FA.grown.size
      go_wp2_with (at_builtin; refine wpList_appMs rfl _ _ rfl w.heap.size m ⟨x0, x1, x2, x3, x4, x5⟩ _ rfl FA.own w5.heap.size 1 rfl HA hsz hB ?_; intro av2 cv2 w10 O10 g10)
      have FB := FA.row O10 g10
      go_wp2_with fail
      go_ret
      exact ⟨m + 1, _, rfl, FB, by omega, by omega⟩
    · go_wp2_with fail
      refine (belowPos (B := B) (a := a) (len := len) (cap := cap) 2 _ (by omega) (by omega) F.st).mono ?_
      rintro e w6 ⟨y, y0, y1, rfl, gX, sX⟩
      replace F := F.step gX sX
      clear gX sX
      have hy : y = 0 ∨ y = 1 := by omega
      clear y0 y1
      rcases hy with rfl | rfl
      · have hmk : ∀ W : World, (Instr.makeSlice 27 (.int .i64 0) (.int .i64 0)).run Try.prog W = .ok (.slice (some ⟨W.heap.size, 0, none⟩) 0 0) (W.alloc (.cells (madeCells #[.int .i64 0, .int .i64 0, .int .i64 0, .int .i64 0, .int .i64 0, .int .i64 0] (0 * 6)) 31)) := fun W => make_msgs 0 (by omega) W
        have FM := F.zero 0 (by omega)
        go_wp2_with fail
        go_ret
        exact ⟨0, _, rfl, FM, by omega, by omega⟩
      · have hmk : ∀ W : World, (Instr.makeSlice 27 (.int .i64 13) (.int .i64 13)).run Try.prog W = .ok (.slice (some ⟨W.heap.size, 0, none⟩) 13 13) (W.alloc (.cells (madeCells #[.int .i64 0, .int .i64 0, .int .i64 0, .int .i64 0, .int .i64 0, .int .i64 0] (13 * 6)) 31)) := fun W => make_msgs 13 (by omega) W
        have FM := F.zero 13 (by omega)
        go_wp2_with fail
        go_ret
        exact ⟨13, _, rfl, FM, by omega, by omega⟩
end Go.Proofs.Ytohjfjcpkloigaa

/- What is drawn of tables: DrawCodeOf, DrawHigherOf, DrawCostOf; laws.likeInts. -/

set_option linter.unusedVariables false
set_option linter.unusedSimpArgs false
set_option maxRecDepth 20000
namespace Go.Proofs.Ytohjfjcpkloigaa
open Go.RowKit

/-- spec.l15DrawAt. -/
theorem drawAt {B p : Nat} {a : Option Addr} {len cap : Nat} (w : World) (st : St B p a len cap w) :
    Calls Try.prog 53 #[.pointer (some ⟨p, 0, none⟩)] w fun e w' => ∃ (n : Nat) (v : Value) (i : Int), e = .returned (.tuple #[v, .int .i64 i]) ∧ TS w B p a len cap n v w' ∧ n ≤ 13 := by
  go_enter Try.func53, Try.ntmps53
  go_wp2_with fail
  refine (drawAnyTable (B := B) (a := a) (len := len) (cap := cap) w st).mono ?_
  rintro e w2 ⟨n, v, rfl, F, h0, h13⟩
  obtain ⟨av, cv, rfl⟩ := F.own.is
  go_wp2_with fail
  refine (onceAny (B := B) (a := a) (len := len) (cap := cap) 10 _ (by omega) (by omega) F.st).mono ?_
  rintro e w3 ⟨bb, rfl, gX, sX⟩
  replace F := F.step gX sX
  clear gX sX
  cases bb with
  | true =>
    go_wp2_with fail
    refine (fromAny (B := B) (a := a) (len := len) (cap := cap) (-1) n _ (by omega) (by omega) (by omega) F.st).mono ?_
    rintro e w4 ⟨i, i0, i1, rfl, gX, sX⟩
    replace F := F.step gX sX
    clear gX sX
    go_wp2_with fail
    go_ret2
    exact ⟨n, _, i, rfl, F, h13⟩
  | false =>
    by_cases hn : (1 : Int) < n
    · go_wp2_with fail
      refine (maxGt _ _ _ hn).mono ?_
      rintro e w4 ⟨rfl, rfl⟩
      go_wp2_with fail
      refine (belowPos (B := B) (a := a) (len := len) (cap := cap) (n : Int) _ (by omega) (by omega) F.st).mono ?_
      rintro e w5 ⟨i, i0, i1, rfl, gX, sX⟩
      replace F := F.step gX sX
      clear gX sX
      go_wp2_with fail
      go_ret2
      exact ⟨n, _, i, rfl, F, h13⟩
    · go_wp2_with fail
      refine (maxLe _ _ _ (by omega)).mono ?_
      rintro e w4 ⟨rfl, rfl⟩
      go_wp2_with fail
      refine (belowPos (B := B) (a := a) (len := len) (cap := cap) 1 _ (by omega) (by omega) F.st).mono ?_
      rintro e w5 ⟨i, i0, i1, rfl, gX, sX⟩
      replace F := F.step gX sX
      clear gX sX
      go_wp2_with fail
      go_ret2
      exact ⟨n, _, i, rfl, F, h13⟩
end Go.Proofs.Ytohjfjcpkloigaa

/- What is drawn for bounds: DrawBusyOf, DrawWaitOf. -/

set_option linter.unusedVariables false
set_option linter.unusedSimpArgs false
set_option maxRecDepth 20000
namespace Go.Proofs.Ytohjfjcpkloigaa
open Go.RowKit

/-- spec.DrawBusyOf. -/
theorem drawBusyOf {B : Nat} {a : Option Addr} {len cap : Nat} (w : World) (cd : Code B a len w) (hB : B ≤ w.heap.size) :
    Calls Try.prog 23 #[.slice a len cap] w fun e w' => ∃ (T : List Ms) (at_ : Option Addr) (c : Nat) (i : Int), e = .returned (.tuple #[.slice at_ T.length c, .int .i64 i]) ∧ Tbl at_ T w' ∧ T.length ≤ 13 ∧ Below w.heap.size w w' := by
  go_enter Try.func23, Try.ntmps23
  go_wp2_with fail
  refine (newAny (B := B) w cd hB).mono ?_
  rintro e w1 ⟨rfl, g1, s1⟩
  have b1 := below_new g1
  clear g1
  generalize hp : w.heap.size = p at s1 ⊢
  replace hp := Lib.hid hp
  go_wp2_with fail
  refine (drawAt (B := B) (a := a) (len := len) (cap := cap) w1 s1).mono ?_
  rintro e w2 ⟨n, v, i, rfl, F, h13⟩
  have hlow : w.heap.size ≤ w1.heap.size := b1.size
  have b := b1.grown F.grown b1.size (fun q e => by cases e; exact Nat.le_of_eq hp.out)
  obtain ⟨av, cv, rfl⟩ := F.own.is
  obtain ⟨T, rfl, hT⟩ := F.own.tbl (by omega)
  clear s1 b1
  go_wp2_with fail
  go_ret2
  exact ⟨T, _, _, i, rfl, hT, h13, by have := hp.out; subst this; exact b⟩
/-- spec.DrawWaitOf. -/
theorem drawWaitOf {B : Nat} {a : Option Addr} {len cap : Nat} (w : World) (cd : Code B a len w) (hB : B ≤ w.heap.size) :
    Calls Try.prog 25 #[.slice a len cap] w fun e w' => ∃ (T : List Ms) (at_ : Option Addr) (c : Nat) (i q : Int), e = .returned (.tuple #[.slice at_ T.length c, .int .i64 i, .int .i64 q]) ∧ Tbl at_ T w' ∧ T.length ≤ 13 ∧ Below w.heap.size w w' := by
  go_enter Try.func25, Try.ntmps25
  go_wp2_with fail
  refine (newAny (B := B) w cd hB).mono ?_
  rintro e w1 ⟨rfl, g1, s1⟩
  have b1 := below_new g1
  clear g1
  generalize hp : w.heap.size = p at s1 ⊢
  replace hp := Lib.hid hp
  go_wp2_with fail
  refine (drawAt (B := B) (a := a) (len := len) (cap := cap) w1 s1).mono ?_
  rintro e w2 ⟨n, v, i, rfl, F, h13⟩
  have hlow : w.heap.size ≤ w1.heap.size := b1.size
  obtain ⟨av, cv, rfl⟩ := F.own.is
  clear s1
  go_wp2_with fail
  refine (onceAny (B := B) (a := a) (len := len) (cap := cap) 10 _ (by omega) (by omega) F.st).mono ?_
  rintro e w3 ⟨bb, rfl, gX, sX⟩
  replace F := F.step gX sX
  clear gX sX
  cases bb with
  | true =>
    go_wp2_with fail
    refine (numAny (B := B) (a := a) (len := len) (cap := cap) 100000 _ (by omega) (by omega) F.st).mono ?_
    rintro e w4 ⟨q, i0, i1, rfl, gX, sX⟩
    replace F := F.step gX sX
    clear gX sX
    have b := b1.grown F.grown b1.size (fun q e => by cases e; exact Nat.le_of_eq hp.out)
    obtain ⟨T, rfl, hT⟩ := F.own.tbl (by omega)
    go_wp2_with fail
    exact bodyPost_ret (v := .tuple #[.slice av T.length cv, .int .i64 i, .int .i64 q]) (by simp [results, Try.results25, go_sem]) rfl ⟨T, _, _, i, q, rfl, hT, h13, by have := hp.out; subst this; exact b⟩
  | false =>
    go_wp2_with fail
    refine (belowPos (B := B) (a := a) (len := len) (cap := cap) 4 _ (by omega) (by omega) F.st).mono ?_
    rintro e w4 ⟨q, i0, i1, rfl, gX, sX⟩
    replace F := F.step gX sX
    clear gX sX
    have b := b1.grown F.grown b1.size (fun q e => by cases e; exact Nat.le_of_eq hp.out)
    obtain ⟨T, rfl, hT⟩ := F.own.tbl (by omega)
    go_wp2_with fail
    exact bodyPost_ret (v := .tuple #[.slice av T.length cv, .int .i64 i, .int .i64 q]) (by simp [results, Try.results25, go_sem]) rfl ⟨T, _, _, i, q, rfl, hT, h13, by have := hp.out; subst this; exact b⟩
end Go.Proofs.Ytohjfjcpkloigaa
