/- The exact laws' functions over messages: szMsgS, toMsg, toMsgS, eqMsg, eqMsgS, markMsgS; the arguments opened. -/
import Derived.Test.YtnabcnmgfchceaaMsg
import Derived.Test.YtnabcnmgfchceaaOpenS
import Derived.Laws.BitsAllLaws
import Derived.Below
import Derived.ProofKit
import Derived.OpenShut
import Derived.ChangeOld
import Derived.ChangeSame
import Derived.ChangeSlices
import Derived.Deep.Slices
set_option linter.unusedVariables false
set_option linter.unusedSimpArgs false
set_option maxRecDepth 20000
namespace Go.Proofs.Ytnabcnmgfchceaa
open Go.ChangeShapes Go.WideShapes Go.ChangeAt Go.RowKit Go.Joins

/-- laws.szMsgS. -/
theorem szMsgOk (a : Option Addr) (n c : Nat) (w : World) (h : n ≤ 1048576) :
    Calls Try.prog 21 #[.slice a n c, .int .i64 1048576] w fun e w' => ∃ k : Int, 0 ≤ k ∧ e = .returned (.int .i64 k) ∧ w = w' := by
  go_enter Try.func21, Try.ntmps21
  go_wp2
  go_ret
  exact ⟨_, by omega, rfl, rfl⟩
theorem szMsgBig (a : Option Addr) (n c : Nat) (w : World) (hm : n ≤ maxLen) (h : 1048576 < n) :
    Calls Try.prog 21 #[.slice a n c, .int .i64 1048576] w fun e w' => e = .returned (.int .i64 (-1)) ∧ w = w' := by
  unfold maxLen at hm
  go_enter Try.func21, Try.ntmps21
  go_wp2
  go_ret
  exact ⟨rfl, rfl⟩
/-- laws.toMsg. -/
theorem toMg (m : Ms) (w : World) : Calls Try.prog 28 #[mgV m] w fun e w' => e = .returned (mgV m) ∧ Below w.heap.size w w' := by
  obtain ⟨id, sz, pe, ji, de, no⟩ := m
  go_enter Try.func28, Try.ntmps28
  go_wp2
  exact bodyPost_ret (v := mgV ⟨id, sz, pe, ji, de, no⟩) (by simp [results, Try.results28, go_sem]) rfl ⟨rfl, (((Below.refl _ _).alloc (Nat.le_refl _) _).alloc (by simp) _).alloc (by simp; omega) _⟩
/-- laws.eqMsg, of two that are the same. -/
theorem eqMg (m : Ms) (w : World) : Calls Try.prog 48 #[mgV m, mgV m] w fun e w' => e = .returned (.bool true) ∧ Below w.heap.size w w' := by
  obtain ⟨id, sz, pe, ji, de, no⟩ := m
  go_enter Try.func48, Try.ntmps48
  go_wp2
  go_ret
  exact ⟨rfl, ((Below.refl _ _).alloc (Nat.le_refl _) _).alloc (by simp) _⟩

/-- Block G is a row of n messages; the first k are those of T. -/
structure RowMs (G n k : Nat) (T : List Ms) (cur : Array Value) (w : World) : Prop where
  blk : w.heap[G]? = some (.cells cur 32 (0, 0))
  len : cur.size = n * 6
  fr : ∀ j, j < k → cur[j * 6]? = some (.int .i64 (nthTb T j).id) ∧ cur[j * 6 + 1]? = some (.int .i64 (nthTb T j).sz) ∧ cur[j * 6 + 2]? = some (.int .i64 (nthTb T j).pe) ∧
    cur[j * 6 + 3]? = some (.int .i64 (nthTb T j).ji) ∧ cur[j * 6 + 4]? = some (.int .i64 (nthTb T j).de) ∧ cur[j * 6 + 5]? = some (.int .i64 (nthTb T j).no)
section
variable {G n k : Nat} {T : List Ms} {cur : Array Value} {w w' : World}
theorem RowMs.lt (h : RowMs G n k T cur w) : G < w.heap.size := (Array.getElem?_eq_some_iff.1 h.blk).1
theorem RowMs.below (h : RowMs G n k T cur w) (b : Below w.heap.size w w') : RowMs G n k T cur w' := ⟨(b.block G h.lt).trans h.blk, h.len, h.fr⟩
theorem RowMs.free (h : RowMs G n k T cur w) (j : Nat) : w.frozen? ⟨G, j, none⟩ = false := frozen_of_row w G j _ _ h.blk
theorem RowMs.cell (h : RowMs G n k T cur w) (j : Nat) : w.cell? ⟨G, j, none⟩ = cur[j]? := cell_of_row w G j _ _ _ h.blk
theorem RowMs.cells (h : RowMs G n k T cur w) {q : Nat} (hk : q < n) : ∃ x0 x1 x2 x3 x4 x5, w.cell? ⟨G, q * 6, none⟩ = some x0 ∧ w.cell? ⟨G, q * 6 + 1, none⟩ = some x1 ∧ w.cell? ⟨G, q * 6 + 2, none⟩ = some x2 ∧
    w.cell? ⟨G, q * 6 + 3, none⟩ = some x3 ∧ w.cell? ⟨G, q * 6 + 4, none⟩ = some x4 ∧ w.cell? ⟨G, q * 6 + 5, none⟩ = some x5 := by
  have hl := h.len
  refine ⟨cur[q * 6], cur[q * 6 + 1], cur[q * 6 + 2], cur[q * 6 + 3], cur[q * 6 + 4], cur[q * 6 + 5], ?_, ?_, ?_, ?_, ?_, ?_⟩ <;> rw [h.cell] <;> exact Array.getElem?_eq_getElem (by omega)
abbrev putM (w : World) (G k : Nat) (m : Ms) : World :=
  (((((w.setCell ⟨G, k * 6, none⟩ (.int .i64 m.id)).setCell ⟨G, k * 6 + 1, none⟩ (.int .i64 m.sz)).setCell ⟨G, k * 6 + 2, none⟩ (.int .i64 m.pe)).setCell ⟨G, k * 6 + 3, none⟩ (.int .i64 m.ji)).setCell ⟨G, k * 6 + 4, none⟩ (.int .i64 m.de)).setCell ⟨G, k * 6 + 5, none⟩ (.int .i64 m.no)
theorem RowMs.put (h : RowMs G n k T cur w) (hk : k < n) {m : Ms} (hf : nthTb T k = m) : ∃ cur', RowMs G n (k + 1) T cur' (putM w G k m) := by
  have hl := h.len
  refine ⟨_, heap_setCell_same _ _ _ _ _ _ (heap_setCell_same _ _ _ _ _ _ (heap_setCell_same _ _ _ _ _ _ (heap_setCell_same _ _ _ _ _ _ (heap_setCell_same _ _ _ _ _ _ (heap_setCell_same _ _ _ _ _ _ h.blk))))), by simp [hl], fun j hj => ?_⟩
  by_cases e : j = k
  · subst e
    rw [hf]
    refine ⟨?_, ?_, ?_, ?_, ?_, ?_⟩ <;> simp [Array.getElem?_setIfInBounds, hl] <;> omega
  · obtain ⟨e0, e1, e2, e3, e4, e5⟩ := h.fr j (by omega)
    refine ⟨?_, ?_, ?_, ?_, ?_, ?_⟩
    all_goals (simp only [Array.getElem?_setIfInBounds]; repeat rw [if_neg (by omega)])
    all_goals assumption
theorem RowMs.turn (h : RowMs G n 0 [] cur w) (j : Nat) (m : Ms) : ∃ cur', RowMs G n 0 [] cur' (putM w G j m) :=
  ⟨_, heap_setCell_same _ _ _ _ _ _ (heap_setCell_same _ _ _ _ _ _ (heap_setCell_same _ _ _ _ _ _ (heap_setCell_same _ _ _ _ _ _ (heap_setCell_same _ _ _ _ _ _ (heap_setCell_same _ _ _ _ _ _ h.blk))))), by simp [h.len], fun j hj => absurd hj (by omega)⟩
theorem grown_cell (w : World) (g k : Nat) (v : Value) : w.grownBy (w.setCell ⟨g, k, none⟩ v) (some g) := grown_set _ _ _ _
theorem grown_putM (w : World) (g j : Nat) (m : Ms) : w.grownBy (putM w g j m) (some g) :=
  grown_trans (grown_trans (grown_trans (grown_trans (grown_trans (grown_cell w g _ _) (grown_cell _ g _ _)) (grown_cell _ g _ _)) (grown_cell _ g _ _)) (grown_cell _ g _ _)) (grown_cell _ g _ _)
theorem RowMs.tbl (h : RowMs G n T.length T cur w) (hm : T.length ≤ maxLen) : Tbl (some ⟨G, 0, none⟩) T w := by
  refine ⟨hm, fun j hj => ?_⟩
  obtain ⟨e0, e1, e2, e3, e4, e5⟩ := h.fr j hj
  refine ⟨G, 0, rfl, ?_, ?_, ?_, ?_, ?_, ?_⟩ <;> rw [h.cell, Nat.zero_add] <;> assumption
end
theorem make_msgs (c : Nat) (hc : c ≤ 1048576) (W : World) : (Instr.makeSlice 24 (.int .i64 c) (.int .i64 c)).run Try.prog W =
    .ok (.slice (some ⟨W.heap.size, 0, none⟩) c c) (W.alloc (.cells (madeCells #[.int .i64 0, .int .i64 0, .int .i64 0, .int .i64 0, .int .i64 0, .int .i64 0] (c * 6)) 32)) := by
  obtain ⟨i0, hi, hz0, hz1, hz2⟩ := info_parts (show (Try.prog.info? 32).map (fun i => (i.zero, i.size, i.bytes)) = some (some (.agg #[.int .i64 0, .int .i64 0, .int .i64 0, .int .i64 0, .int .i64 0, .int .i64 0]), 6, 48) by kernel_rfl)
  have := run_make (P := Try.prog) W 24 32 i0 (.agg #[.int .i64 0, .int .i64 0, .int .i64 0, .int .i64 0, .int .i64 0, .int .i64 0]) Try.underlying24 hi hz0 .i64 .i64 c c (by omega) (Int.le_refl _) (by rw [hz2]; omega) (by omega)
  rw [this, hz1]
  simp only [Int.toNat_natCast]
  rfl

set_option maxHeartbeats 1000000 in
/-- laws.toMsgS. -/
theorem toMgs (a : Option Addr) (T : List Ms) (c : Nat) (w : World) (hd : Tbl a T w) (h : T.length ≤ 1048576) :
    Calls Try.prog 22 #[.slice a T.length c] w fun e w' => ∃ g cur, e = .returned (.slice (some ⟨g, 0, none⟩) T.length T.length) ∧ w.heap.size ≤ g ∧ RowMs g T.length T.length T cur w' ∧ Below w.heap.size w w' := by
  have hmk := make_msgs T.length h
  go_enter Try.func22, Try.ntmps22
  go_wp2_with fail
  clear hmk
  go_loopw [4] (fun i wr => ∃ (k : Nat) (cur : Array Value), k ≤ T.length ∧ i = .int .i64 k ∧ RowMs w.heap.size T.length k T cur wr ∧ Below w.heap.size w wr) (fun i _ => T.length - (intOf i).toNat)
  case atStart => exact ⟨0, _, Nat.zero_le _, rfl, ⟨heap_alloc_new _ _, by simp [madeCells], fun j hj => absurd hj (by omega)⟩, (Below.refl _ _).alloc (Nat.le_refl _) _⟩
  case round =>
    obtain ⟨k, cur, hk, rfl, R, b⟩ := hrel
    by_cases hlt : k < T.length
    · obtain ⟨g, o, rfl, c0, c1, c2, c3, c4, c5⟩ := (hd.below b).2 k hlt
      generalize hf0 : nthTb T k = m at c0 c1 c2 c3 c4 c5
      obtain ⟨id, sz, pe, ji, de, no⟩ := m
      have hf := Lib.hid hf0
      clear hf0
      go_wp2_with fail
      refine (toMg ⟨id, sz, pe, ji, de, no⟩ _).mono ?_
      rintro e w2 ⟨rfl, b2⟩
      replace R := R.below b2
      replace b := Below.then2 b b2
      clear b2 c0 c1 c2 c3 c4 c5
      obtain ⟨x0, x1, x2, x3, x4, x5, y0, y1, y2, y3, y4, y5⟩ := R.cells hlt
      have z0 := R.free (k * 6)
      have z1 := R.free (k * 6 + 1)
      have z2 := R.free (k * 6 + 2)
      have z3 := R.free (k * 6 + 3)
      have z4 := R.free (k * 6 + 4)
      have z5 := R.free (k * 6 + 5)
      go_wp2_with fail
      go_roundw
      case rel =>
        obtain ⟨cur', R'⟩ := R.put hlt hf.out
        exact ⟨k + 1, cur', by omega, by go_num, R', (((((b.setCell (Nat.le_refl _) _).setCell (Nat.le_refl _) _).setCell (Nat.le_refl _) _).setCell (Nat.le_refl _) _).setCell (Nat.le_refl _) _).setCell (Nat.le_refl _) _⟩
      case measure => simp [intOf]; omega
    · obtain rfl : k = T.length := by omega
      go_wp2_with fail
      go_ret
      exact ⟨_, cur, rfl, Nat.le_refl _, R, b⟩
set_option maxHeartbeats 1000000 in
/-- laws.eqMsgS, of two lists that hold the same. -/
theorem eqMgs (a b : Option Addr) (T : List Ms) (c c' : Nat) (w : World) (ha : Tbl a T w) (hb : Tbl b T w) :
    Calls Try.prog 23 #[.slice a T.length c, .slice b T.length c'] w fun e w' => e = .returned (.bool true) ∧ Below w.heap.size w w' := by
  have hm := ha.1
  unfold maxLen at hm
  go_enter Try.func23, Try.ntmps23
  go_wp2_with fail
  go_loopw [5] (fun i wr => ∃ k : Nat, k ≤ T.length ∧ i = .int .i64 k ∧ Below w.heap.size w wr) (fun i _ => T.length - (intOf i).toNat)
  case atStart => exact ⟨0, Nat.zero_le _, rfl, Below.refl _ _⟩
  case round =>
    obtain ⟨k, hk, rfl, bw⟩ := hrel
    by_cases hlt : k < T.length
    · obtain ⟨g, o, rfl, fa⟩ := (ha.below bw).2 k hlt
      obtain ⟨g', o', rfl, fb⟩ := (hb.below bw).2 k hlt
      generalize nthTb T k = m at *
      obtain ⟨id, sz, pe, ji, de, no⟩ := m
      go_upto_region 6 with fail
      refine region_class (fun u => MsC g (o + k * 6) ⟨id, sz, pe, ji, de, no⟩ u ∧ MsC g' (o' + k * 6) ⟨id, sz, pe, ji, de, no⟩ u ∧ Below w.heap.size w u) (by kernel_rfl) (by kernel_rfl) ⟨fa, fb, bw.drew⟩ ?_
      clear fa fb bw
      repeat first
        | go_big_quiet_skip
        | (go_big_quiet_want
           apply Exists.intro
           refine ⟨fun u hu => ?_, ?_⟩
           · apply quietAt_val
             obtain ⟨⟨a0, a1, a2, a3, a4, a5⟩, ⟨b0, b1, b2, b3, b4, b5⟩, _⟩ := hu
             go_simp
             rfl
           simp only [Act.put, List.setIfInBounds_toArray, List.set_cons_zero, List.set_cons_succ]
           go_big_quiet_on)
        | (go_big_quiet_want
           apply Exists.intro
           refine ⟨fun u hu => ?_, ?_⟩
           · apply quietAt_enter 48 #[mgV ⟨id, sz, pe, ji, de, no⟩, mgV ⟨id, sz, pe, ji, de, no⟩]
             · go_simp
             · refine (eqMg ⟨id, sz, pe, ji, de, no⟩ u).mono ?_
               rintro e w2 ⟨rfl, b2⟩
               exact ⟨rfl, hu.1.below b2 hu.1.lt, hu.2.1.below b2 hu.2.1.lt, Below.then2 hu.2.2 b2⟩
           simp only [Act.put, List.setIfInBounds_toArray, List.set_cons_zero, List.set_cons_succ]
           go_big_quiet_on)
      refine wpQuiet_nil ?_
      intro W2 L2
      have bw := L2.2.2
      clear L2
      go_wp2_with fail
      go_roundw
      case rel => exact ⟨k + 1, by omega, by go_num, bw⟩
      case measure => simp [intOf]; omega
    · go_wp2_with fail
      go_ret
      exact ⟨rfl, bw⟩
set_option maxHeartbeats 4000000 in
/-- laws.markMsgS: of what was there that row alone turns. -/
theorem markMgs (g n c : Nat) (cur : Array Value) (k : Nat) (w : World) (hg : w.heap[g]? = some (.cells cur 32 (0, 0))) (hl : cur.size = n * 6) (hn : n ≤ 1048576) (hk : k ≤ 1000000000) :
    Calls Try.prog 25 #[.slice (some ⟨g, 0, none⟩) n c, .int .i64 k] w fun e w' => ∃ k' : Nat, e = .returned (.int .i64 k') ∧ k' = k + 6 * n ∧ w.grownBy w' (some g) := by
  go_enter Try.func25, Try.ntmps25
  go_wp2_with fail
  go_loopw [1, 5] (fun q i wr => ∃ (j : Nat) (cur : Array Value), j ≤ n ∧ i = .int .i64 j ∧ q = .int .i64 ((k : Int) + 6 * (j : Int)) ∧ RowMs g n 0 [] cur wr ∧ w.grownBy wr (some g)) (fun _ i _ => n - (intOf i).toNat)
  case atStart => exact ⟨0, cur, Nat.zero_le _, rfl, by simp, ⟨hg, hl, fun j hj => absurd hj (by omega)⟩, grown_refl _ _⟩
  case round =>
    clear hg hl
    obtain ⟨j, cur, hj, rfl, rfl, R, b⟩ := hrel
    by_cases hlt : j < n
    · obtain ⟨x0, x1, x2, x3, x4, x5, y0, y1, y2, y3, y4, y5⟩ := R.cells hlt
      have z0 := R.free (j * 6)
      have z1 := R.free (j * 6 + 1)
      have z2 := R.free (j * 6 + 2)
      have z3 := R.free (j * 6 + 3)
      have z4 := R.free (j * 6 + 4)
      have z5 := R.free (j * 6 + 5)
      generalize hq : (k : Int) + 6 * (j : Int) = q
      have q0 : 0 ≤ q := by omega
      have q1 : q ≤ 1010000000 := by omega
      replace hq := Lib.hid hq
      go_wp2_with fail
      go_roundw
      case rel =>
        obtain ⟨cur', R'⟩ := R.turn j ⟨q, q + 1, q + 1 + 1, q + 1 + 1 + 1, q + 1 + 1 + 1 + 1, q + 1 + 1 + 1 + 1 + 1⟩
        have hg' := grown_putM wr g j ⟨q, q + 1, q + 1 + 1, q + 1 + 1 + 1, q + 1 + 1 + 1 + 1, q + 1 + 1 + 1 + 1 + 1⟩
        exact ⟨j + 1, cur', by omega, by go_num, by have := hq.out; congr 1; omega, R', grown_trans b hg'⟩
      case measure => simp [intOf]; omega
    · obtain rfl : j = n := by omega
      go_wp2_with fail
      go_ret
      exact ⟨k + 6 * j, by push_cast; rfl, rfl, b⟩
theorem cellsMsg : Try.prog.cellsOf 44 = 6 := by kernel_rfl
/-- The six cells of a message, opened. -/
theorem msg_cells {H : Type} {enc : TypeId × Value → H} {w : World} {base n : Nat} {cs : List Value} {y : DataW H × List MemPlace}
    (h : DataW.trod enc Try.prog w base (fun _ => true) true n 44 cs = some y) : ∃ m : Ms, cs = (mgC m).toList ∧ (Lit.int .i64 m.sz).wf = true := by
  obtain ⟨xs, k, _, _, hl, hxl, hf⟩ := DataW.trod_struct Try.underlying44 h
  have hl6 : cs.length = 6 := hl.trans cellsMsg
  have hx6 : xs.length = 6 := hxl
  match cs, hl6, xs, hx6 with
  | [c0, c1, c2, c3, c4, c5], _, [y0, y1, y2, y3, y4, y5], _ =>
    have g0 := hf 0 _ rfl
    have g1 := hf 1 _ rfl
    have g2 := hf 2 _ rfl
    have g3 := hf 3 _ rfl
    have g4 := hf 4 _ rfl
    have g5 := hf 5 _ rfl
    clear hf hl hxl h
    simp [one64] at g0 g1 g2 g3 g4 g5
    obtain ⟨id, e0, -, -⟩ := DataW.trod_int Try.underlying2 g0
    obtain ⟨sz, e1, -, hw⟩ := DataW.trod_int Try.underlying2 g1
    obtain ⟨pe, e2, -, -⟩ := DataW.trod_int Try.underlying2 g2
    obtain ⟨ji, e3, -, -⟩ := DataW.trod_int Try.underlying2 g3
    obtain ⟨de, e4, -, -⟩ := DataW.trod_int Try.underlying2 g4
    obtain ⟨no, e5, -, -⟩ := DataW.trod_int Try.underlying2 g5
    simp only [List.cons.injEq, and_true] at e0 e1 e2 e3 e4 e5
    subst e0 e1 e2 e3 e4 e5
    exact ⟨⟨id, sz, pe, ji, de, no⟩, rfl, hw⟩
/-- A message by value, opened. -/
theorem msg_open {H : Type} {enc : TypeId × Value → H} {w : World} {r : Reach} {b0 base : Nat} {v : Value} {d : DataW H} {p : List MemPlace}
    (hv : Value.okWide Try.prog w r b0 44 v) (h : DataW.Trod enc Try.prog w base (fun _ => true) true 44 v d p) : ∃ m : Ms, v = mgV m ∧ (Lit.int .i64 m.sz).wf = true := by
  obtain ⟨cs, rfl, hsz⟩ := okWide_struct Try.underlying44 hv
  obtain ⟨fuel, hf⟩ := h
  obtain ⟨m, hcs, hw⟩ := msg_cells hf
  refine ⟨m, ?_, hw⟩
  have : cs.toList = (mgC m).toList := hcs
  rw [show cs = mgC m from Array.toList_inj.1 this]
/-- A slice of messages, opened. -/
theorem msgs_open {H : Type} {enc : TypeId × Value → H} {w : World} {base : Nat} {fuel : Nat} {cs : List Value} {x : DataW H × List MemPlace}
    (h : DataW.trod enc Try.prog w base (fun _ => true) true fuel 36 cs = some x) : ∃ a L c, cs = [.slice a (L : List Ms).length c] ∧ Tbl a L w := by
  rcases Go.Deep.open_slice Try.underlying36 h with ⟨hcs, _⟩ | ⟨a, len, cap, m, n, D, Pl, hcs, _, hl, hm, hmm, _, hx⟩
  · exact ⟨none, [], 0, hcs, Tbl.nil _ _⟩
  · rw [if_pos rfl] at hmm
    subst hmm
    rw [cellsMsg] at hx
    obtain ⟨f, hf⟩ := Go.Deep.choose_lt (α := Ms) (p := fun i f => ∃ g o, some a = some ⟨g, o, none⟩ ∧ MsC g (o + i * 6) f w) (n := len) (fun i hi => by
      obtain ⟨cs', h1, h2⟩ := hx i (by omega)
      obtain ⟨m, rfl, _⟩ := msg_cells h2
      obtain ⟨_, _, hc⟩ := World.cells?_some h1
      have k0 := hc 0 (by simp)
      have k1 := hc 1 (by simp)
      have k2 := hc 2 (by simp)
      have k3 := hc 3 (by simp)
      have k4 := hc 4 (by simp)
      have k5 := hc 5 (by simp)
      obtain ⟨b, off, spot⟩ := a
      have hspot : spot = none := by
        obtain ⟨cs0, g1, g2⟩ := hx 0 (by omega)
        obtain ⟨_, rfl, _⟩ := msg_cells g2
        obtain ⟨_, _, gc⟩ := World.cells?_some g1
        have := World.cell?_spot ((gc 0 (by simp)).trans rfl)
        simpa [Addr.add] using this
      subst hspot
      have hadd : ∀ j, ((⟨b, off, none⟩ : Addr).add (i * 6)).add j = ⟨b, off + i * 6 + j, none⟩ := by
        intro j
        unfold Addr.add
        split <;> split <;> simp_all
      rw [hadd] at k0 k1 k2 k3 k4 k5
      exact ⟨m, b, off, rfl, k0, k1, k2, k3, k4, k5⟩)
    refine ⟨some a, (List.range len).map f, m, by simpa using hcs, by simp; omega, fun j hj => ?_⟩
    have hj' : j < len := by simpa using hj
    have e : nthTb ((List.range len).map f) j = f j := by simp [nthTb, List.getD_eq_getElem?_getD, hj']
    rw [e]
    exact hf j hj'
end Go.Proofs.Ytnabcnmgfchceaa

