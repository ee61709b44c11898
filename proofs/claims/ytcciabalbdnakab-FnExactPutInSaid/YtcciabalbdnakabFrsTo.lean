/- laws.toFrameS: a copy of a slice of frames, in a row of its own, each frame's data in a row of its own. -/
import Derived.Test.YtcciabalbdnakabFrs
import Derived.Test.YtcciabalbdnakabFrM
import Derived.Deep.CutRange
set_option maxRecDepth 20000
namespace Go.Proofs.Ytcciabalbdnakab
open Go.RowKit

theorem OwnI.made_row {D : List Int} (hw : ∀ x ∈ D, (Lit.int .i64 x).wf = true) (hm : D.length ≤ maxLen) (w1 : World) {B : Nat} (hB : B ≤ w1.heap.size) :
    OwnI B D (.slice (some ⟨w1.heap.size, 0, none⟩) D.length D.length) (w1.alloc (.cells (irow D.length fun j => nth D j) 2)) := by
  refine ⟨⟨by simp, .inr ⟨w1.heap.size, D.length, irow D.length fun j => nth D j, rfl, hB, heap_alloc_new _ _, Nat.le_refl _, hm, by simp [irow_size], ?_⟩⟩, hw⟩
  apply List.ext_getElem?
  intro j
  by_cases hj : j < D.length
  · simp [irow, hj, nth, List.getD_eq_getElem?_getD]
  · rw [List.getElem?_eq_none (by simp [irow]; omega), List.getElem?_eq_none (by simp; omega)]
theorem OwnI.made_at {D : List Int} {g : Nat} {B : Nat} {w1 : World} (hg : g = w1.heap.size) (hw : ∀ x ∈ D, (Lit.int .i64 x).wf = true) (hm : D.length ≤ maxLen) (hB : B ≤ w1.heap.size) :
    OwnI B D (.slice (some ⟨g, 0, none⟩) D.length D.length) (w1.alloc (.cells (irow D.length fun j => nth D j) 2)) := by
  subst hg; exact OwnI.made_row hw hm w1 hB
theorem ownInts_below {B : Nat} {D : List Int} {v : Value} {w w' : World} (h : OwnI B D v w) (b : Below w.heap.size w w') : OwnI B D v w' :=
  h.kept (row := none) ⟨b.os, b.tape, b.output, b.size, fun k hk _ => b.block k hk⟩ (by cases v.ownBlock <;> simp)

/-- laws.toFrame, its data in a row of its own. -/
theorem toFrOwn (id : Int) (rm : Bool) (ln : Int) (a : Option Addr) (D : List Int) (c : Nat) (w : World) (hd : Nums a D w) (h : D.length ≤ 1048576) :
    Calls Try.prog 22 #[frV id rm ln a D.length c] w fun e w' =>
      ∃ a', e = .returned (frV id rm ln a' D.length D.length) ∧ OwnI w.heap.size D (.slice a' D.length D.length) w' ∧ Below w.heap.size w w' := by
  go_enter Try.func22, Try.ntmps22
  go_wp2_with fail
  refine (toInts _ _ _ _ (hd.below ?_) h).mono ?_
  · exact (((Below.refl _ _).alloc (Nat.le_refl _) _).alloc (by simp) _).alloc (by simp; omega) _
  rintro e w' ⟨rfl, rfl⟩
  go_wp2
  refine bodyPost_ret (v := frV id rm ln (some ⟨w.heap.size + 1 + 1 + 1, 0, none⟩) D.length D.length) (by simp [results, Try.results22, go_sem]) rfl ⟨_, rfl, ?_, ?_⟩
  · exact OwnI.made_at (by simp) hd.2.1 hd.1 (by simp; omega)
  exact ((((Below.refl _ _).alloc (Nat.le_refl _) _).alloc (by simp) _).alloc (by simp; omega) _).alloc (by simp; omega) _

/-- Block G is a row of n frames; the first k are those of L. -/
structure RowF (G n k : Nat) (L : List Frm) (cur : Array Value) (w : World) : Prop where
  blk : w.heap[G]? = some (.cells cur 26 (0, 0))
  len : cur.size = n * 4
  fr : ∀ j, j < k → ∃ dv, cur[j * 4]? = some (.int .i64 (nthF L j).id) ∧ cur[j * 4 + 1]? = some (.bool (nthF L j).rm) ∧ cur[j * 4 + 2]? = some (.int .i64 (nthF L j).ln) ∧ cur[j * 4 + 3]? = some dv ∧ OwnI (G + 1) (nthF L j).D dv w
section
variable {G n k : Nat} {L : List Frm} {cur : Array Value} {w w' : World}
theorem RowF.lt (h : RowF G n k L cur w) : G < w.heap.size := (Array.getElem?_eq_some_iff.1 h.blk).1
theorem RowF.below (h : RowF G n k L cur w) (b : Below w.heap.size w w') : RowF G n k L cur w' := by
  refine ⟨(b.block G h.lt).trans h.blk, h.len, fun j hj => ?_⟩
  obtain ⟨dv, e0, e1, e2, e3, ho⟩ := h.fr j hj
  exact ⟨dv, e0, e1, e2, e3, ownInts_below ho b⟩
theorem RowF.free (h : RowF G n k L cur w) (j : Nat) : w.frozen? ⟨G, j, none⟩ = false := frozen_of_row w G j _ _ h.blk
theorem RowF.cell (h : RowF G n k L cur w) (j : Nat) : w.cell? ⟨G, j, none⟩ = cur[j]? := cell_of_row w G j _ _ _ h.blk
theorem RowF.cells (h : RowF G n k L cur w) (hk : k < n) : ∃ x0 x1 x2 x3, w.cell? ⟨G, k * 4, none⟩ = some x0 ∧ w.cell? ⟨G, k * 4 + 1, none⟩ = some x1 ∧ w.cell? ⟨G, k * 4 + 2, none⟩ = some x2 ∧ w.cell? ⟨G, k * 4 + 3, none⟩ = some x3 := by
  have hl := h.len
  refine ⟨cur[k * 4], cur[k * 4 + 1], cur[k * 4 + 2], cur[k * 4 + 3], ?_, ?_, ?_, ?_⟩ <;> rw [h.cell] <;> exact Array.getElem?_eq_getElem (by omega)
/-- The world behind the stores of frame k. -/
def putF (G k : Nat) (id : Int) (rm : Bool) (ln : Int) (dv : Value) (w : World) : World :=
  (((w.setCell ⟨G, k * 4, none⟩ (.int .i64 id)).setCell ⟨G, k * 4 + 1, none⟩ (.bool rm)).setCell ⟨G, k * 4 + 2, none⟩ (.int .i64 ln)).setCell ⟨G, k * 4 + 3, none⟩ dv
theorem putF_grown (G k : Nat) (id : Int) (rm : Bool) (ln : Int) (dv : Value) (w : World) : w.grownBy (putF G k id rm ln dv w) (some G) :=
  grown_trans (grown_trans (grown_trans (grown_set _ _ _ _) (grown_set _ _ _ _)) (grown_set _ _ _ _)) (grown_set _ _ _ _)
theorem RowF.put (h : RowF G n k L cur w) (hk : k < n) {id : Int} {rm : Bool} {ln : Int} {D : List Int} (hf : nthF L k = ⟨id, rm, ln, D⟩) {dv : Value} (ho : OwnI (G + 1) D dv w) :
    ∃ cur', RowF G n (k + 1) L cur' (putF G k id rm ln dv w) ∧ cur'[k * 4 + 3]? = some dv ∧ ∀ i, i < k * 4 → cur'[i]? = cur[i]? := by
  have hl := h.len
  have kg := putF_grown G k id rm ln dv w
  refine ⟨_, ⟨heap_setCell_same _ _ _ _ _ _ (heap_setCell_same _ _ _ _ _ _ (heap_setCell_same _ _ _ _ _ _ (heap_setCell_same _ _ _ _ _ _ h.blk))), by simp [hl], fun j hj => ?_⟩, by simp [Array.getElem?_setIfInBounds, hl]; omega, fun i hi => by simp only [Array.getElem?_setIfInBounds]; repeat rw [if_neg (by omega)]⟩
  by_cases e : j = k
  · subst e
    refine ⟨dv, ?_, ?_, ?_, ?_, ?_⟩
    · rw [hf]; simp [Array.getElem?_setIfInBounds, hl]; omega
    · rw [hf]; simp [Array.getElem?_setIfInBounds, hl]; omega
    · rw [hf]; simp [Array.getElem?_setIfInBounds, hl]; omega
    · simp [Array.getElem?_setIfInBounds, hl]; omega
    · rw [hf]; exact ho.kept kg (.inr fun e => by have := ho.low e; omega)
  · obtain ⟨dj, e0, e1, e2, e3, hj'⟩ := h.fr j (by omega)
    refine ⟨dj, ?_, ?_, ?_, ?_, hj'.kept kg (.inr fun e => by have := hj'.low e; omega)⟩
    all_goals (simp only [Array.getElem?_setIfInBounds]; repeat rw [if_neg (by omega)])
    all_goals assumption
theorem RowF.frs (h : RowF G n L.length L cur w) (hm : L.length ≤ maxLen) : Frs (some ⟨G, 0, none⟩) L w := by
  refine ⟨hm, fun j hj => ?_⟩
  obtain ⟨dv, e0, e1, e2, e3, ho⟩ := h.fr j hj
  obtain ⟨a, c, rfl, hn⟩ := ho.nums
  refine ⟨G, 0, a, c, rfl, ⟨?_, ?_, ?_, ?_⟩, hn⟩ <;> rw [h.cell, Nat.zero_add] <;> assumption
end
theorem make_frames (c : Nat) (hc : c ≤ 1048576) (W : World) : (Instr.makeSlice 31 (.int .i64 c) (.int .i64 c)).run Try.prog W =
    .ok (.slice (some ⟨W.heap.size, 0, none⟩) c c) (W.alloc (.cells (madeCells #[.int .i64 0, .bool false, .int .i64 0, .slice none 0 0] (c * 4)) 26)) := by
  obtain ⟨i0, hi, hz0, hz1, hz2⟩ := info_parts (show (Try.prog.info? 26).map (fun i => (i.zero, i.size, i.bytes)) = some (some (.agg #[.int .i64 0, .bool false, .int .i64 0, .slice none 0 0]), 4, 48) by kernel_rfl)
  have := run_make (P := Try.prog) W 31 26 i0 (.agg #[.int .i64 0, .bool false, .int .i64 0, .slice none 0 0]) Try.underlying31 hi hz0 .i64 .i64 c c (by omega) (Int.le_refl _) (by rw [hz2]; omega) (by omega)
  rw [this, hz1]
  simp only [Int.toNat_natCast]
  rfl

/-- laws.toFrameS. -/
theorem toFrames (a : Option Addr) (L : List Frm) (c : Nat) (w : World) (hd : Frs a L w) (h : L.length + room L L.length ≤ 1048576) :
    Calls Try.prog 25 #[.slice a L.length c] w fun e w' =>
      ∃ a', e = .returned (.slice a' L.length L.length) ∧ Frs a' L w' ∧ Below w.heap.size w w' := by
  have hmk := make_frames L.length (by omega)
  go_enter Try.func25, Try.ntmps25
  go_wp2_with fail
  clear hmk
  go_loopw [4] (fun i wr => ∃ (k : Nat) (cur : Array Value), k ≤ L.length ∧ i = .int .i64 k ∧ RowF w.heap.size L.length k L cur wr ∧ Below w.heap.size w wr) (fun i _ => L.length - (intOf i).toNat)
  case atStart => exact ⟨0, _, Nat.zero_le _, rfl, ⟨heap_alloc_new _ _, by simp [madeCells], fun j hj => absurd hj (by omega)⟩, (Below.refl _ _).alloc (Nat.le_refl _) _⟩
  case round =>
    obtain ⟨k, cur, hk, rfl, R, b⟩ := hrel
    by_cases hlt : k < L.length
    · obtain ⟨g, o, ad, cc, rfl, ⟨c0, c1, c2, c3⟩, hn⟩ := (hd.below b).2 k hlt
      have hs := room_succ L k hlt
      have hl := room_le L (show k + 1 ≤ L.length by omega)
      have hf0 : nthF L k = ⟨(nthF L k).id, (nthF L k).rm, (nthF L k).ln, (nthF L k).D⟩ := rfl
      generalize (nthF L k).id = id at *
      generalize (nthF L k).rm = rm at *
      generalize (nthF L k).ln = ln at *
      generalize (nthF L k).D = D at *
      have hf := Lib.hid hf0
      clear hf0
      go_wp2_with fail
      refine (toFrOwn _ _ _ _ _ _ _ hn (by omega)).mono ?_
      rintro e w2 ⟨a', rfl, ho, b2⟩
      have ho' := ho.mono (B' := w.heap.size + 1) R.lt
      replace R := R.below b2
      replace b := Below.then2 b b2
      clear b2 hn c0 c1 c2 c3 ho
      obtain ⟨x0, x1, x2, x3, y0, y1, y2, y3⟩ := R.cells hlt
      have z0 := R.free (k * 4)
      have z1 := R.free (k * 4 + 1)
      have z2 := R.free (k * 4 + 2)
      have z3 := R.free (k * 4 + 3)
      go_wp2_with fail
      go_roundw
      case rel =>
        obtain ⟨cur', R', -, -⟩ := R.put hlt hf.out ho'
        exact ⟨k + 1, cur', by omega, by go_num, R', (((b.setCell (Nat.le_refl _) _).setCell (Nat.le_refl _) _).setCell (Nat.le_refl _) _).setCell (Nat.le_refl _) _⟩
      case measure => simp [intOf]; omega
    · obtain rfl : k = L.length := by omega
      go_wp2_with fail
      go_ret
      exact ⟨_, rfl, R.frs hd.1, b⟩
end Go.Proofs.Ytcciabalbdnakab
