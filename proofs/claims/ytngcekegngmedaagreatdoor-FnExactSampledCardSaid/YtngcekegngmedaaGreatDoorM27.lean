/- A frame and a list of int64 as they come in: what the reading of the argument says of the memory. -/
import Derived.Test.YtngcekegngmedaaGreatDoorM3
import Derived.ChangeSlices
import Derived.Lib.SmallJoins
import Derived.Deep.Slices
import Derived.Laws.BitsAllLaws
import Derived.Below
import Derived.ProofKit
import Derived.OpenShut
import Derived.ChangeOld
import Derived.ChangeSame
import Derived.WalkKit

set_option maxRecDepth 20000
namespace Go.Proofs.YtngcekegngmedaaGreatDoor
open Go.ChangeShapes Go.WideShapes Go.ChangeAt Go.RowKit Go.Joins

theorem nums_open {H : Type} {enc : TypeId × Value → H} {w : World} {base : Nat} {fuel : Nat} {cs : List Value} {x : DataW H × List MemPlace}
    (h : DataW.trod enc Tryz.prog w base (fun _ => true) true fuel 24 cs = some x) : ∃ a D c, cs = [.slice a (D : List Int).length c] ∧ Nums a D w := by
  rcases open_ints Tryz.underlying24 Tryz.underlying2 (by kernel_rfl) h with ⟨hcs, _⟩ | ⟨⟨b, off, spot⟩, l, c, zs, hcs, _, hl, hm, hz, _, hcell, hwz⟩
  · exact ⟨none, [], 0, hcs, by simp, by simp, fun j hj => absurd hj (by simp)⟩
  · have hz' : zs.length = c := by simpa using hz
    have hlen : (zs.take l).length = l := by rw [List.length_take]; omega
    refine ⟨some ⟨b, off, spot⟩, zs.take l, c, by rw [hlen]; exact hcs, by rw [hlen]; omega, fun v hv => hwz v (List.mem_of_mem_take hv), fun j hj => ?_⟩
    rw [hlen] at hj
    have h0 := hcell j (by omega)
    have hspot : spot = none := by simpa [Addr.add] using World.cell?_spot (hcell 0 (by omega))
    subst hspot
    have hadd : (⟨b, off, none⟩ : Addr).add j = ⟨b, off + j, none⟩ := by unfold Addr.add; split <;> simp_all
    rw [hadd] at h0
    refine ⟨b, off, rfl, h0.trans ?_⟩
    simp only [nth, List.getD_eq_getElem?_getD, List.getElem?_take, hj, if_true]

theorem cellsFrame : Tryz.prog.cellsOf 78 = 4 := by kernel_rfl
end Go.Proofs.YtngcekegngmedaaGreatDoor

/- A slice of frames as it comes in: what the reading of the argument says of the memory. -/

set_option maxRecDepth 20000
namespace Go.Proofs.YtngcekegngmedaaGreatDoor
open Go.ChangeShapes Go.WideShapes Go.ChangeAt Go.RowKit Go.Joins

instance : Inhabited Frm := ⟨⟨0, false, 0, []⟩⟩
theorem one64 : Tryz.prog.cellsOf 2 = 1 := by kernel_rfl
theorem oneBool : Tryz.prog.cellsOf 4 = 1 := by kernel_rfl
theorem oneInts : Tryz.prog.cellsOf 24 = 1 := by kernel_rfl

/-- The four cells of a frame, opened. -/
theorem frame_cells {H : Type} {enc : TypeId × Value → H} {w : World} {base n : Nat} {cs : List Value} {y : DataW H × List MemPlace}
    (h : DataW.trod enc Tryz.prog w base (fun _ => true) true n 78 cs = some y) :
    ∃ id rm ln ad D c, cs = [.int .i64 id, .bool rm, .int .i64 ln, .slice ad (D : List Int).length c] ∧ Nums ad D w := by
  obtain ⟨y0, y1, y2, y3, m, _, hl, h0, h1, h2, h3⟩ := trod_struct4 Tryz.underlying78 h
  have hl4 : cs.length = 4 := hl.trans cellsFrame
  match cs, hl4 with
  | [c0, c1, c2, c3], _ =>
    simp [one64, oneBool, oneInts] at h0 h1 h2 h3
    obtain ⟨id, e0, -, -⟩ := DataW.trod_int Tryz.underlying2 h0
    obtain ⟨rm, e1, -⟩ := DataW.trod_bool Tryz.underlying4 h1
    obtain ⟨ln, e2, -, -⟩ := DataW.trod_int Tryz.underlying2 h2
    obtain ⟨ad, D, c, e3, hn⟩ := nums_open h3
    simp only [List.cons.injEq, and_true] at e0 e1 e2 e3
    subst e0 e1 e2 e3
    exact ⟨id, rm, ln, ad, D, c, rfl, hn⟩

/-- A slice of frames, opened. -/
theorem frames_open {H : Type} {enc : TypeId × Value → H} {w : World} {base : Nat} {fuel : Nat} {cs : List Value} {x : DataW H × List MemPlace}
    (h : DataW.trod enc Tryz.prog w base (fun _ => true) true fuel 80 cs = some x) : ∃ a L c, cs = [.slice a (L : List Frm).length c] ∧ Frs a L w := by
  rcases Go.Deep.open_slice Tryz.underlying80 h with ⟨hcs, _⟩ | ⟨a, len, cap, m, n, D, Pl, hcs, _, hl, hm, hmm, _, hx⟩
  · exact ⟨none, [], 0, hcs, by simp, fun j hj => absurd hj (by simp)⟩
  · rw [if_pos rfl] at hmm
    subst hmm
    rw [cellsFrame] at hx
    obtain ⟨f, hf⟩ := Go.Deep.choose_lt (α := Frm) (p := fun i f => FrAt (some a) i f w) (n := len) (fun i hi => by
      obtain ⟨cs', h1, h2⟩ := hx i (by omega)
      obtain ⟨id, rm, ln, ad, E, c, rfl, hn⟩ := frame_cells h2
      obtain ⟨_, _, hc⟩ := World.cells?_some h1
      have k0 := hc 0 (by omega)
      have k1 := hc 1 (by omega)
      have k2 := hc 2 (by omega)
      have k3 := hc 3 (by omega)
      obtain ⟨b, off, spot⟩ := a
      have hspot : spot = none := by
        obtain ⟨cs0, g1, g2⟩ := hx 0 (by omega)
        obtain ⟨_, _, _, _, _, _, rfl, _⟩ := frame_cells g2
        obtain ⟨_, _, gc⟩ := World.cells?_some g1
        have := World.cell?_spot ((gc 0 (by omega)).trans rfl)
        simpa [Addr.add] using this
      subst hspot
      have hadd : ∀ j, ((⟨b, off, none⟩ : Addr).add (i * 4)).add j = ⟨b, off + i * 4 + j, none⟩ := by
        intro j
        unfold Addr.add
        split <;> split <;> simp_all
      rw [hadd] at k0 k1 k2 k3
      exact ⟨⟨id, rm, ln, E⟩, b, off, ad, c, rfl, ⟨k0, k1, k2, k3⟩, hn⟩)
    refine ⟨some a, (List.range len).map f, m, by simpa using hcs, by simp; omega, fun j hj => ?_⟩
    have hj' : j < len := by simpa using hj
    have e : nthF ((List.range len).map f) j = f j := by simp [nthF, List.getD_eq_getElem?_getD, hj']
    rw [e]
    exact hf j hj'
end Go.Proofs.YtngcekegngmedaaGreatDoor

/- Filters, pairs of numbers in a slice: what Passes answers; the exact laws' own functions over them (szFilterS, toFilterS, eqFilterS); the argument opened. -/

set_option linter.unusedVariables false
set_option linter.unusedSimpArgs false
set_option maxRecDepth 20000
namespace Go.Proofs.YtngcekegngmedaaGreatDoor
open Go.RowKit

/-- A filter as the machine's value. -/
abbrev pV (m c : Int) : Value := .agg #[.int .i64 m, .int .i64 c]
def nthP (L : List (Int × Int)) (j : Nat) : Int × Int := L.getD j (0, 0)
theorem nthP_eq {L : List (Int × Int)} {j : Nat} (h : j < L.length) : nthP L j = L[j] := by simp [nthP, List.getD_eq_getElem?_getD, h]
def idIn (n : Int) : Bool := decide (0 ≤ n) && decide (n ≤ 2047)
theorem idIn_iff {n : Int} : idIn n = true ↔ 0 ≤ n ∧ n ≤ 2047 := by simp [idIn]
def flOk (f : Int × Int) : Bool := idIn f.1 && idIn f.2
theorem flOk_iff {m c : Int} : flOk (m, c) = true ↔ (0 ≤ m ∧ m ≤ 2047) ∧ 0 ≤ c ∧ c ≤ 2047 := by simp [flOk, idIn_iff]
/-- Does the filter let the id pass? -/
def letsB (f : Int × Int) (id : Int) : Bool := bits .and .i64 id f.1 == bits .and .i64 f.2 f.1
/-- What Passes answers. -/
def passV (L : List (Int × Int)) (id : Int) : Bool := idIn id && L.all flOk && (L.isEmpty || L.any fun f => letsB f id)

theorem and_nat {a b : Nat} (ha : a < 2048) (hb : b < 2048) : bits .and .i64 (a : Int) (b : Int) = ((a &&& b : Nat) : Int) := by
  have hx : a &&& b < 2048 := Nat.and_lt_two_pow (n := 11) _ (by omega)
  show IntKind.i64.wrap ((BitVec.ofInt 64 (a : Int) &&& BitVec.ofInt 64 (b : Int)).toNat : Int) = _
  rw [BitVec.toNat_and, ofInt_u64 a (by omega), ofInt_u64 b (by omega), IntKind.wrap_i64]
  omega
theorem xor_nat {a b : Nat} (ha : a < 2048) (hb : b < 2048) : bits .xor .i64 (a : Int) (b : Int) = ((a ^^^ b : Nat) : Int) := by
  have hx : a ^^^ b < 2048 := Nat.xor_lt_two_pow (n := 11) (by omega) (by omega)
  show IntKind.i64.wrap ((BitVec.ofInt 64 (a : Int) ^^^ BitVec.ofInt 64 (b : Int)).toNat : Int) = _
  rw [BitVec.toNat_xor, ofInt_u64 a (by omega), ofInt_u64 b (by omega), IntKind.wrap_i64]
  omega
theorem xor_zero {x y : Nat} (h : x ^^^ y = 0) : x = y := by
  apply Nat.eq_of_testBit_eq
  intro i
  have := congrArg (fun z => Nat.testBit z i) h
  simpa using this
/-- The program's own way of it. -/
theorem lets_imp {m c id : Int} (hm : 0 ≤ m ∧ m ≤ 2047) (hc : 0 ≤ c ∧ c ≤ 2047) (hi : 0 ≤ id ∧ id ≤ 2047) : (bits .and .i64 (bits .xor .i64 id c) m == 0) = letsB (m, c) id := by
  obtain ⟨m, rfl⟩ := Int.eq_ofNat_of_zero_le hm.1
  obtain ⟨c, rfl⟩ := Int.eq_ofNat_of_zero_le hc.1
  obtain ⟨id, rfl⟩ := Int.eq_ofNat_of_zero_le hi.1
  have hx : id ^^^ c < 2048 := Nat.xor_lt_two_pow (n := 11) (by omega) (by omega)
  simp only [letsB]
  rw [xor_nat (by omega) (by omega), and_nat hx (by omega), and_nat (by omega) (by omega), and_nat (by omega) (by omega), Nat.and_xor_distrib_right]
  rw [Bool.eq_iff_iff, beq_iff_eq, beq_iff_eq]
  refine ⟨fun h => ?_, fun h => ?_⟩
  · rw [xor_zero (x := id &&& m) (y := c &&& m) (by omega)]
  · rw [show id &&& m = c &&& m by omega, Nat.xor_self]; rfl

theorem pass_id {L : List (Int × Int)} {id : Int} (h : idIn id = false) : passV L id = false := by simp [passV, h]
theorem pass_no {L : List (Int × Int)} {id : Int} (h : L.all flOk = false) : passV L id = false := by simp only [passV, h, Bool.and_false, Bool.false_and]
theorem pass_ok {L : List (Int × Int)} {id : Int} (h : idIn id = true) (k : L.all flOk = true) : passV L id = (L.isEmpty || L.any fun f => letsB f id) := by simp only [passV, h, k, Bool.true_and]
theorem pass_hit {L : List (Int × Int)} {id : Int} (h : idIn id = true) (k : L.all flOk = true) {j : Nat} (hj : j < L.length) (hl : letsB (nthP L j) id = true) : passV L id = true := by
  rw [pass_ok h k, Bool.or_eq_true, List.any_eq_true]
  exact .inr ⟨_, List.getElem_mem hj, by rw [← nthP_eq hj]; exact hl⟩
theorem pass_none {L : List (Int × Int)} {id : Int} (h : idIn id = true) (k : L.all flOk = true) (hl : ∀ j, j < L.length → letsB (nthP L j) id = false) : passV L id = decide (L.length = 0) := by
  rw [pass_ok h k, show (L.any fun f => letsB f id) = false by
    rw [List.any_eq_false]
    intro f hf
    obtain ⟨j, hj, rfl⟩ := List.mem_iff_getElem.1 hf
    rw [← nthP_eq hj, hl j hj]
    simp, Bool.or_false]
  cases L <;> simp
theorem allP_yes {L : List (Int × Int)} (h : ∀ j, j < L.length → flOk (nthP L j) = true) : L.all flOk = true := by
  rw [List.all_eq_true]
  intro x hx
  obtain ⟨j, hj, rfl⟩ := List.mem_iff_getElem.1 hx
  rw [← nthP_eq hj]; exact h j hj
theorem allP_no {L : List (Int × Int)} {k : Nat} (hk : k < L.length) (h : flOk (nthP L k) = false) : L.all flOk = false := by
  rw [Bool.eq_false_iff]
  intro e
  rw [List.all_eq_true] at e
  have := e _ (List.getElem_mem hk)
  rw [← nthP_eq hk, h] at this
  cases this
theorem allP_at {L : List (Int × Int)} (h : L.all flOk = true) {j : Nat} (hj : j < L.length) : flOk (nthP L j) = true := by
  rw [nthP_eq hj]; exact List.all_eq_true.1 h _ (List.getElem_mem hj)

/-- From place o of block g on the filter f stands. -/
def FlC (g o : Nat) (f : Int × Int) (w : World) : Prop := w.cell? ⟨g, o, none⟩ = some (.int .i64 f.1) ∧ w.cell? ⟨g, o + 1, none⟩ = some (.int .i64 f.2)
theorem FlC.below {g o : Nat} {f : Int × Int} {w w' : World} (h : FlC g o f w) (b : Below w.heap.size w w') : FlC g o f w' := by
  have hg : g < w.heap.size := World.block_lt_of_cell? w _ h.1
  exact ⟨(b.cell hg).trans h.1, (b.cell hg).trans h.2⟩
/-- The slice at a holds the filters L. -/
def Fls (a : Option Addr) (L : List (Int × Int)) (w : World) : Prop := L.length ≤ maxLen ∧ ∀ j, j < L.length → ∃ g o, a = some ⟨g, o, none⟩ ∧ FlC g (o + j * 2) (nthP L j) w
theorem Fls.below {a : Option Addr} {L : List (Int × Int)} {w w' : World} (h : Fls a L w) (b : Below w.heap.size w w') : Fls a L w' := ⟨h.1, fun j hj => by
  obtain ⟨g, o, e, c⟩ := h.2 j hj
  exact ⟨g, o, e, c.below b⟩⟩
theorem Fls.alloc {a : Option Addr} {L : List (Int × Int)} {w : World} (h : Fls a L w) (o : Obj) : Fls a L (w.alloc o) := h.below ((Below.refl _ _).alloc (Nat.le_refl _) _)
theorem Fls.drew {a : Option Addr} {L : List (Int × Int)} {w : World} (h : Fls a L w) : Fls a L w.drew := h
theorem Fls.nil (a : Option Addr) (w : World) : Fls a [] w := ⟨Nat.zero_le _, fun j hj => by simp at hj⟩

/-- laws.toFilter. -/
theorem toFlt (m c : Int) (w : World) : Calls Tryz.prog 193 #[pV m c] w fun e w' => e = .returned (pV m c) ∧ Below w.heap.size w w' := by
  go_enter Tryz.func193, Tryz.ntmps193
  go_wp2
  exact bodyPost_ret (v := pV m c) (by simp [results, Tryz.results193, go_sem]) rfl ⟨rfl, (((Below.refl _ _).alloc (Nat.le_refl _) _).alloc (by simp) _).alloc (by simp; omega) _⟩
/-- laws.eqFilter, of two that are the same. -/
theorem eqFlt (m c : Int) (w : World) : Calls Tryz.prog 195 #[pV m c, pV m c] w fun e w' => e = .returned (.bool true) ∧ Below w.heap.size w w' := by
  go_enter Tryz.func195, Tryz.ntmps195
  go_wp2
  go_ret
  exact ⟨rfl, ((Below.refl _ _).alloc (Nat.le_refl _) _).alloc (by simp) _⟩

/-- Block G is a row of n filters; the first k are those of L. -/
structure RowP (G n k : Nat) (L : List (Int × Int)) (cur : Array Value) (w : World) : Prop where
  blk : w.heap[G]? = some (.cells cur 175 (0, 0))
  len : cur.size = n * 2
  fr : ∀ j, j < k → cur[j * 2]? = some (.int .i64 (nthP L j).1) ∧ cur[j * 2 + 1]? = some (.int .i64 (nthP L j).2)
section
variable {G n k : Nat} {L : List (Int × Int)} {cur : Array Value} {w w' : World}
theorem RowP.lt (h : RowP G n k L cur w) : G < w.heap.size := (Array.getElem?_eq_some_iff.1 h.blk).1
theorem RowP.below (h : RowP G n k L cur w) (b : Below w.heap.size w w') : RowP G n k L cur w' := ⟨(b.block G h.lt).trans h.blk, h.len, h.fr⟩
theorem RowP.free (h : RowP G n k L cur w) (j : Nat) : w.frozen? ⟨G, j, none⟩ = false := frozen_of_row w G j _ _ h.blk
theorem RowP.cell (h : RowP G n k L cur w) (j : Nat) : w.cell? ⟨G, j, none⟩ = cur[j]? := cell_of_row w G j _ _ _ h.blk
theorem RowP.cells (h : RowP G n k L cur w) (hk : k < n) : ∃ x0 x1, w.cell? ⟨G, k * 2, none⟩ = some x0 ∧ w.cell? ⟨G, k * 2 + 1, none⟩ = some x1 := by
  have hl := h.len
  refine ⟨cur[k * 2], cur[k * 2 + 1], ?_, ?_⟩ <;> rw [h.cell] <;> exact Array.getElem?_eq_getElem (by omega)
theorem RowP.put (h : RowP G n k L cur w) (hk : k < n) {m c : Int} (hf : nthP L k = (m, c)) :
    ∃ cur', RowP G n (k + 1) L cur' ((w.setCell ⟨G, k * 2, none⟩ (.int .i64 m)).setCell ⟨G, k * 2 + 1, none⟩ (.int .i64 c)) := by
  have hl := h.len
  refine ⟨_, heap_setCell_same _ _ _ _ _ _ (heap_setCell_same _ _ _ _ _ _ h.blk), by simp [hl], fun j hj => ?_⟩
  by_cases e : j = k
  · subst e
    rw [hf]
    refine ⟨?_, ?_⟩ <;> simp [Array.getElem?_setIfInBounds, hl] <;> omega
  · obtain ⟨e0, e1⟩ := h.fr j (by omega)
    refine ⟨?_, ?_⟩
    all_goals (simp only [Array.getElem?_setIfInBounds]; repeat rw [if_neg (by omega)])
    all_goals assumption
theorem RowP.fls (h : RowP G n L.length L cur w) (hm : L.length ≤ maxLen) : Fls (some ⟨G, 0, none⟩) L w := by
  refine ⟨hm, fun j hj => ?_⟩
  obtain ⟨e0, e1⟩ := h.fr j hj
  refine ⟨G, 0, rfl, ?_, ?_⟩ <;> rw [h.cell, Nat.zero_add] <;> assumption
end
theorem make_filters (c : Nat) (hc : c ≤ 1048576) (W : World) : (Instr.makeSlice 30 (.int .i64 c) (.int .i64 c)).run Tryz.prog W =
    .ok (.slice (some ⟨W.heap.size, 0, none⟩) c c) (W.alloc (.cells (madeCells #[.int .i64 0, .int .i64 0] (c * 2)) 175)) := by
  obtain ⟨i0, hi, hz0, hz1, hz2⟩ := info_parts (show (Tryz.prog.info? 175).map (fun i => (i.zero, i.size, i.bytes)) = some (some (.agg #[.int .i64 0, .int .i64 0]), 2, 16) by kernel_rfl)
  have := run_make (P := Tryz.prog) W 30 175 i0 (.agg #[.int .i64 0, .int .i64 0]) Tryz.underlying30 hi hz0 .i64 .i64 c c (by omega) (Int.le_refl _) (by rw [hz2]; omega) (by omega)
  rw [this, hz1]
  simp only [Int.toNat_natCast]
  rfl

/-- laws.eqFilterS, of two lists that hold the same. -/
theorem eqFlts (a b : Option Addr) (L : List (Int × Int)) (c c' : Nat) (w : World) (ha : Fls a L w) (hb : Fls b L w) :
    Calls Tryz.prog 135 #[.slice a L.length c, .slice b L.length c'] w fun e w' => e = .returned (.bool true) ∧ Below w.heap.size w w' := by
  have hm := ha.1
  unfold maxLen at hm
  go_enter Tryz.func135, Tryz.ntmps135
  go_wp2_with fail
  go_loopw [5] (fun i wr => ∃ k : Nat, k ≤ L.length ∧ i = .int .i64 k ∧ Below w.heap.size w wr) (fun i _ => L.length - (intOf i).toNat)
  case atStart => exact ⟨0, Nat.zero_le _, rfl, Below.refl _ _⟩
  case round =>
    obtain ⟨k, hk, rfl, bw⟩ := hrel
    by_cases hlt : k < L.length
    · obtain ⟨g, o, rfl, fa⟩ := (ha.below bw).2 k hlt
      obtain ⟨g', o', rfl, fb⟩ := (hb.below bw).2 k hlt
      generalize nthP L k = f at *
      obtain ⟨m, cc⟩ := f
      go_upto_region 6 with fail
      refine region_class (fun u => FlC g (o + k * 2) (m, cc) u ∧ FlC g' (o' + k * 2) (m, cc) u ∧ Below w.heap.size w u) (by kernel_rfl) (by kernel_rfl) ⟨fa, fb, bw.drew⟩ ?_
      clear fa fb bw
      repeat first
        | go_big_quiet_skip
        | (go_big_quiet_want
           apply Exists.intro
           refine ⟨fun u hu => ?_, ?_⟩
           · apply quietAt_val
             obtain ⟨⟨a0, a1⟩, ⟨b0, b1⟩, _⟩ := hu
             go_simp
             rfl
           simp only [Act.put, List.setIfInBounds_toArray, List.set_cons_zero, List.set_cons_succ]
           go_big_quiet_on)
        | (go_big_quiet_want
           apply Exists.intro
           refine ⟨fun u hu => ?_, ?_⟩
           · apply quietAt_enter 195 #[pV m cc, pV m cc]
             · go_simp
             · refine (eqFlt m cc u).mono ?_
               rintro e w2 ⟨rfl, b2⟩
               exact ⟨rfl, hu.1.below b2, hu.2.1.below b2, Below.then2 hu.2.2 b2⟩
           simp only [Act.put, List.setIfInBounds_toArray, List.set_cons_zero, List.set_cons_succ]
           go_big_quiet_on)
      refine wpQuiet_nil ?_
      intro W2 L2
      have bw := L2.2.2
      clear L2
      go_wp2_with fail
      go_roundw
      case rel => exact ⟨k + 1, by omega, by go_num, bw⟩
      case measure => simp [intOf]; omega
    · go_wp2_with fail
      go_ret
      exact ⟨rfl, bw⟩
theorem cellsFilter : Tryz.prog.cellsOf 193 = 2 := by kernel_rfl
/-- A slice of filters, opened. -/
theorem filters_open {H : Type} {enc : TypeId × Value → H} {w : World} {base : Nat} {fuel : Nat} {cs : List Value} {x : DataW H × List MemPlace}
    (h : DataW.trod enc Tryz.prog w base (fun _ => true) true fuel 81 cs = some x) : ∃ a L c, cs = [.slice a (L : List (Int × Int)).length c] ∧ Fls a L w := by
  rcases Go.Deep.open_slice Tryz.underlying81 h with ⟨hcs, _⟩ | ⟨a, len, cap, m, n, D, Pl, hcs, _, hl, hm, hmm, _, hx⟩
  · exact ⟨none, [], 0, hcs, Fls.nil _ _⟩
  · rw [if_pos rfl] at hmm
    subst hmm
    rw [cellsFilter] at hx
    have hcell : ∀ {cs' : List Value} {y : DataW H × List MemPlace}, DataW.trod enc Tryz.prog w base (fun _ => true) true n 193 cs' = some y → ∃ m c, cs' = [.int .i64 m, .int .i64 c] := by
      intro cs' y hy
      obtain ⟨y0, y1, m, _, hl, h0, h1⟩ := Go.ChangeShapes.trod_struct2 Tryz.underlying193 hy
      have hl2 : cs'.length = 2 := hl.trans cellsFilter
      match cs', hl2 with
      | [c0, c1], _ =>
        simp [one64] at h0 h1
        obtain ⟨m, e0, -, -⟩ := DataW.trod_int Tryz.underlying2 h0
        obtain ⟨c, e1, -, -⟩ := DataW.trod_int Tryz.underlying2 h1
        simp only [List.cons.injEq, and_true] at e0 e1
        subst e0 e1
        exact ⟨m, c, rfl⟩
    obtain ⟨f, hf⟩ := Go.Deep.choose_lt (α := Int × Int) (p := fun i f => ∃ g o, some a = some ⟨g, o, none⟩ ∧ FlC g (o + i * 2) f w) (n := len) (fun i hi => by
      obtain ⟨cs', h1, h2⟩ := hx i (by omega)
      obtain ⟨m, c, rfl⟩ := hcell h2
      obtain ⟨_, _, hc⟩ := World.cells?_some h1
      have k0 := hc 0 (by omega)
      have k1 := hc 1 (by omega)
      obtain ⟨b, off, spot⟩ := a
      have hspot : spot = none := by
        obtain ⟨cs0, g1, g2⟩ := hx 0 (by omega)
        obtain ⟨_, _, rfl⟩ := hcell g2
        obtain ⟨_, _, gc⟩ := World.cells?_some g1
        have := World.cell?_spot ((gc 0 (by omega)).trans rfl)
        simpa [Addr.add] using this
      subst hspot
      have hadd : ∀ j, ((⟨b, off, none⟩ : Addr).add (i * 2)).add j = ⟨b, off + i * 2 + j, none⟩ := by
        intro j
        unfold Addr.add
        split <;> split <;> simp_all
      rw [hadd] at k0 k1
      exact ⟨(m, c), b, off, rfl, k0, k1⟩)
    refine ⟨some a, (List.range len).map f, m, by simpa using hcs, by simp; omega, fun j hj => ?_⟩
    have hj' : j < len := by simpa using hj
    have e : nthP ((List.range len).map f) j = f j := by simp [nthP, List.getD_eq_getElem?_getD, hj']
    rw [e]
    exact hf j hj'
end Go.Proofs.YtngcekegngmedaaGreatDoor

/- impl.Passes by its parts (idOk, sieveOf, filtersOk, sievesOf, the sieves' lets), spec.Passes: both answer passV. -/

set_option linter.unusedVariables false
set_option linter.unusedSimpArgs false
set_option maxRecDepth 20000
namespace Go.Proofs.YtngcekegngmedaaGreatDoor
open Go.RowKit

/-- impl.idOk. -/
theorem implIdOk (n : Int) (w : World) : Calls Tryz.prog 218 #[.int .i64 n] w fun e w' => e = .returned (.bool (idIn n)) ∧ w = w' := by
  go_enter Tryz.func218, Tryz.ntmps218
  go_wp2
  all_goals (go_ret; exact ⟨ret_bool (by simp only [idIn]; simp_all; try omega), rfl⟩)
/-- A right filter as a sieve. -/
abbrev mV (m c : Int) : Value := .iface 201 (pV m c)
/-- impl.sieveOf. -/
theorem sieveYes (m c : Int) (w : World) (h : flOk (m, c) = true) : Calls Tryz.prog 219 #[pV m c] w fun e w' => e = .returned (mV m c) ∧ Below w.heap.size w w' := by
  simp only [flOk, Bool.and_eq_true] at h
  obtain ⟨h1, h2⟩ := h
  go_enter Tryz.func219, Tryz.ntmps219
  go_wp2_with fail
  refine (implIdOk _ _).mono ?_
  rintro e w1 ⟨rfl, rfl⟩
  rw [h1]
  go_wp2_with fail
  refine (implIdOk _ _).mono ?_
  rintro e w1 ⟨rfl, rfl⟩
  rw [h2]
  go_wp2
  go_ret
  exact ⟨rfl, (Below.refl _ _).alloc (Nat.le_refl _) _⟩
theorem sieveNo (m c : Int) (w : World) (h : flOk (m, c) = false) : Calls Tryz.prog 219 #[pV m c] w fun e w' => e = .returned .nilIface ∧ Below w.heap.size w w' := by
  simp only [flOk] at h
  go_enter Tryz.func219, Tryz.ntmps219
  go_wp2_with fail
  refine (implIdOk _ _).mono ?_
  rintro e w1 ⟨rfl, rfl⟩
  cases h1 : idIn m with
  | false =>
    go_wp2
    go_ret
    exact ⟨rfl, (Below.refl _ _).alloc (Nat.le_refl _) _⟩
  | true =>
    rw [h1, Bool.true_and] at h
    go_wp2_with fail
    refine (implIdOk _ _).mono ?_
    rintro e w1 ⟨rfl, rfl⟩
    rw [h]
    go_wp2
    go_ret
    exact ⟨rfl, (Below.refl _ _).alloc (Nat.le_refl _) _⟩
/-- impl.filtersOk. -/
theorem filtersOk (a : Option Addr) (L : List (Int × Int)) (c : Nat) (w : World) (hd : Fls a L w) :
    Calls Tryz.prog 171 #[.slice a L.length c] w fun e w' => e = .returned (.bool (L.all flOk)) ∧ Below w.heap.size w w' := by
  have hm := hd.1
  unfold maxLen at hm
  go_enter Tryz.func171, Tryz.ntmps171
  go_wp2_with fail
  go_loopw [9] (fun i wr => ∃ k : Nat, k ≤ L.length ∧ i = .int .i64 k ∧ (∀ j, j < k → flOk (nthP L j) = true) ∧ Below w.heap.size w wr) (fun i _ => L.length - (intOf i).toNat)
  case atStart => exact ⟨0, Nat.zero_le _, rfl, fun j hj => absurd hj (by omega), Below.refl _ _⟩
  case round =>
    obtain ⟨k, hk, rfl, hr, b⟩ := hrel
    by_cases hlt : k < L.length
    · obtain ⟨g, o, rfl, c0, c1⟩ := (hd.below b).2 k hlt
      have hf0 : nthP L k = ((nthP L k).1, (nthP L k).2) := rfl
      have hn := Lib.hid (allP_no (L := L) hlt)
      generalize (nthP L k).1 = m at *
      generalize (nthP L k).2 = cc at *
      have hf := Lib.hid hf0
      clear hf0
      replace hr := Lib.hid hr
      have b1 := below_more b (.cells #[.int .i64 m, .int .i64 cc] 175)
      go_wp2_with fail
      cases hok : flOk (m, cc) with
      | true =>
        refine (sieveYes _ _ _ hok).mono ?_
        rintro e w2 ⟨rfl, b2⟩
        have ta : ∀ W, (Instr.typeAssert (mV m cc) 204 201 true).run Tryz.prog W = .ok (.tuple #[pV m cc, .bool true]) W := fun W => by kernel_rfl
        replace b := below_more (Below.then2 b1 b2) (.cells #[.int .i64 m, .int .i64 cc] 201)
        clear b1 b2 c0 c1 hn
        replace hok := Lib.hid hok
        go_wp2_with fail
        go_roundw
        case rel => exact ⟨k + 1, by omega, by go_num, fun j hj => by
          by_cases e : j = k
          · rw [e, hf.out]; exact hok.out
          · exact hr.out j (by omega), b⟩
        case measure => simp [intOf]; omega
      | false =>
        refine (sieveNo _ _ _ hok).mono ?_
        rintro e w2 ⟨rfl, b2⟩
        have ta : ∀ W, (Instr.typeAssert .nilIface 204 201 true).run Tryz.prog W = .ok (.tuple #[pV 0 0, .bool false]) W := fun W => by kernel_rfl
        replace b := below_more (Below.then2 b1 b2) (.cells #[.int .i64 0, .int .i64 0] 201)
        have HV := Lib.hid (hn.out (by rw [hf.out]; exact hok))
        clear b1 b2 c0 c1 hn hok
        go_wp2_with fail
        go_ret
        exact ⟨by rw [HV.out] <;> rfl, b⟩
    · have hall := Lib.hid (allP_yes (L := L) fun j hj => hr j (by omega))
      go_wp2_with fail
      go_ret
      exact ⟨by rw [hall.out] <;> rfl, b⟩
theorem make_sieves (c : Nat) (hc : c ≤ 1048576) (W : World) : (Instr.makeSlice 255 (.int .i64 c) (.int .i64 c)).run Tryz.prog W =
    .ok (.slice (some ⟨W.heap.size, 0, none⟩) c c) (W.alloc (.cells (madeCells #[.nilIface] (c * 1)) 204)) := by
  obtain ⟨i0, hi, hz0, hz1, hz2⟩ := info_parts (show (Tryz.prog.info? 204).map (fun i => (i.zero, i.size, i.bytes)) = some (some .nilIface, 1, 16) by kernel_rfl)
  have := run_make (P := Tryz.prog) W 255 204 i0 .nilIface Tryz.underlying255 hi hz0 .i64 .i64 c c (by omega) (Int.le_refl _) (by rw [hz2]; omega) (by omega)
  rw [this, hz1]
  simp only [Int.toNat_natCast]
  rfl
/-- Block G is a row of n sieves; the first k are those of L. -/
structure RowV (G n k : Nat) (L : List (Int × Int)) (cur : Array Value) (w : World) : Prop where
  blk : w.heap[G]? = some (.cells cur 204 (0, 0))
  len : cur.size = n
  fr : ∀ j, j < k → cur[j]? = some (mV (nthP L j).1 (nthP L j).2)
section
variable {G n k : Nat} {L : List (Int × Int)} {cur : Array Value} {w w' : World}
theorem RowV.lt (h : RowV G n k L cur w) : G < w.heap.size := (Array.getElem?_eq_some_iff.1 h.blk).1
theorem RowV.below (h : RowV G n k L cur w) (b : Below w.heap.size w w') : RowV G n k L cur w' := ⟨(b.block G h.lt).trans h.blk, h.len, h.fr⟩
theorem RowV.free (h : RowV G n k L cur w) (j : Nat) : w.frozen? ⟨G, j, none⟩ = false := frozen_of_row w G j _ _ h.blk
theorem RowV.cell (h : RowV G n k L cur w) (j : Nat) : w.cell? ⟨G, j, none⟩ = cur[j]? := cell_of_row w G j _ _ _ h.blk
theorem RowV.some (h : RowV G n k L cur w) (hk : k < n) : ∃ x, w.cell? ⟨G, k, none⟩ = some x := by
  have hl := h.len
  exact ⟨cur[k], by rw [h.cell]; exact Array.getElem?_eq_getElem (by omega)⟩
theorem RowV.put (h : RowV G n k L cur w) (hk : k < n) {m c : Int} (hf : nthP L k = (m, c)) : ∃ cur', RowV G n (k + 1) L cur' (w.setCell ⟨G, k, none⟩ (mV m c)) := by
  have hl := h.len
  refine ⟨_, heap_setCell_same _ _ _ _ _ _ h.blk, by simp [hl], fun j hj => ?_⟩
  by_cases e : j = k
  · subst e
    rw [hf]
    simp [Array.getElem?_setIfInBounds, hl]; omega
  · simp only [Array.getElem?_setIfInBounds]
    rw [if_neg (by omega)]
    exact h.fr j (by omega)
end
/-- impl.sievesOf, where there are filters. -/
theorem sievesOf (a : Option Addr) (L : List (Int × Int)) (c : Nat) (w : World) (hd : Fls a L w) (h0 : 0 < L.length) (h : L.length ≤ 1048576) (hok : L.all flOk = true) :
    Calls Tryz.prog 281 #[.slice a L.length c] w fun e w' => ∃ g, e = .returned (.slice (some ⟨g, 0, none⟩) L.length L.length) ∧ (∀ j, j < L.length → w'.cell? ⟨g, j, none⟩ = some (mV (nthP L j).1 (nthP L j).2)) ∧ Below w.heap.size w w' := by
  have hmk := make_sieves L.length h
  have hne : ((L.length : Int) == 0) = false := beq_eq_false_iff_ne.2 (by omega)
  replace hok := Lib.hid hok
  go_enter Tryz.func281, Tryz.ntmps281
  go_wp2_with fail
  clear hmk
  go_loopw [17] (fun i wr => ∃ (k : Nat) (cur : Array Value), k ≤ L.length ∧ i = .int .i64 k ∧ RowV w.heap.size L.length k L cur wr ∧ Below w.heap.size w wr) (fun i _ => L.length - (intOf i).toNat)
  case atStart => exact ⟨0, _, Nat.zero_le _, rfl, ⟨heap_alloc_new _ _, by simp [madeCells], fun j hj => absurd hj (by omega)⟩, (Below.refl _ _).alloc (Nat.le_refl _) _⟩
  case round =>
    obtain ⟨k, cur, hk, rfl, R, b⟩ := hrel
    by_cases hlt : k < L.length
    · obtain ⟨g, o, rfl, c0, c1⟩ := (hd.below b).2 k hlt
      have hf1 := allP_at hok.out hlt
      have hf0 : nthP L k = ((nthP L k).1, (nthP L k).2) := rfl
      generalize (nthP L k).1 = m at *
      generalize (nthP L k).2 = cc at *
      rw [hf0] at hf1
      have hf := Lib.hid hf0
      clear hf0
      replace R := R.below ((Below.refl wr.heap.size wr).alloc (Nat.le_refl _) (.cells #[.int .i64 m, .int .i64 cc] 175))
      replace b := below_more b (.cells #[.int .i64 m, .int .i64 cc] 175)
      go_wp2_with fail
      refine (sieveYes _ _ _ hf1).mono ?_
      rintro e w2 ⟨rfl, b2⟩
      replace R := R.below b2
      replace b := Below.then2 b b2
      clear b2 c0 c1 hf1
      obtain ⟨x0, y0⟩ := R.some hlt
      have z0 := R.free k
      go_wp2_with fail
      go_roundw
      case rel =>
        obtain ⟨cur', R'⟩ := R.put hlt hf.out
        exact ⟨k + 1, cur', by omega, by go_num, R', b.setCell (Nat.le_refl _) _⟩
      case measure => simp [intOf]; omega
    · obtain rfl : k = L.length := by omega
      have hc := Lib.hid (show ∀ j, j < L.length → wr.cell? ⟨w.heap.size, j, none⟩ = some (mV (nthP L j).1 (nthP L j).2) from fun j hj => by rw [R.cell]; exact R.fr j hj)
      go_wp2_with fail
      go_ret
      exact ⟨_, rfl, hc.out, b⟩
/-- impl.sievesOf, where there is none. -/
theorem sievesNone (a : Option Addr) (c : Nat) (w : World) :
    Calls Tryz.prog 281 #[.slice a 0 c] w fun e w' => ∃ g, e = .returned (.slice (some ⟨g, 0, none⟩) 1 1) ∧ w'.cell? ⟨g, 0, none⟩ = some (.iface 274 (.agg #[])) ∧ Below w.heap.size w w' := by
  go_enter Tryz.func281, Tryz.ntmps281
  go_wp2
  go_ret
  exact ⟨_, rfl, World.cell?_alloc_at _ _ _ _ rfl, (Below.refl _ _).alloc (Nat.le_refl _) _⟩
theorem mMasked (m c : Int) (w : World) : (Go.method 403 201 (pV m c) "loop.example/g00753/impl.lets").run Tryz.prog w = .ok (302, pV m c) w := by kernel_rfl
theorem mOpen (w : World) : (Go.method 403 274 (.agg #[]) "loop.example/g00753/impl.lets").run Tryz.prog w = .ok (319, .agg #[]) w := by kernel_rfl
/-- (masked).lets. -/
theorem maskedLets (m c id : Int) (w : World) (hf : flOk (m, c) = true) (hi : idIn id = true) :
    Calls Tryz.prog 302 #[pV m c, .int .i64 id] w fun e w' => e = .returned (.bool (letsB (m, c) id)) ∧ Below w.heap.size w w' := by
  have HV := Lib.hid (lets_imp (flOk_iff.1 hf).1 (flOk_iff.1 hf).2 (idIn_iff.1 hi))
  clear hf hi
  go_enter Tryz.func302, Tryz.ntmps302
  go_wp2
  go_ret
  exact ⟨ret_bool (by rw [← HV.out]; try rfl), (Below.refl _ _).alloc (Nat.le_refl _) _⟩
theorem openLets (id : Int) (w : World) : Calls Tryz.prog 319 #[.agg #[], .int .i64 id] w fun e w' => e = .returned (.bool true) ∧ Below w.heap.size w w' := by
  go_enter Tryz.func319, Tryz.ntmps319
  go_wp2
  go_ret
  exact ⟨rfl, (Below.refl _ _).alloc (Nat.le_refl _) _⟩

set_option maxHeartbeats 2000000 in
/-- impl.Passes. -/
theorem implPasses (a : Option Addr) (L : List (Int × Int)) (c : Nat) (id : Int) (w : World) (hd : Fls a L w) (h : L.length ≤ 1048576) :
    Calls Tryz.prog 265 #[.slice a L.length c, .int .i64 id] w fun e w' => e = .returned (.bool (passV L id)) ∧ Below w.heap.size w w' := by
  go_enter Tryz.func265, Tryz.ntmps265
  go_wp2_with fail
  refine (implIdOk _ _).mono ?_
  rintro e w1 ⟨rfl, rfl⟩
  cases hi : idIn id with
  | false =>
    have HV := Lib.hid (pass_id (L := L) hi)
    clear hi
    go_wp2_with fail
    go_ret
    exact ⟨by rw [HV.out] <;> rfl, Below.refl _ _⟩
  | true =>
    go_wp2_with fail
    refine (filtersOk a L c w hd).mono ?_
    rintro e w1 ⟨he, b⟩
    cases hok : L.all flOk with
    | false =>
      rw [hok] at he
      subst he
      have HV := Lib.hid (pass_no (L := L) (id := id) hok)
      clear hi hok
      go_wp2_with fail
      go_ret
      exact ⟨by rw [HV.out] <;> rfl, b⟩
    | true =>
      rw [hok] at he
      subst he
      by_cases h0 : 0 < L.length
      · have HS := sievesOf a L c w1 (hd.below b) h0 h hok
        have HP := Lib.hid (show ∀ j, j < L.length → letsB (nthP L j) id = true → passV L id = true from fun j hj hl => pass_hit hi hok hj hl)
        have HN := Lib.hid (show (∀ j, j < L.length → letsB (nthP L j) id = false) → passV L id = decide (L.length = 0) from fun hl => pass_none hi hok hl)
        have HF := Lib.hid (show ∀ j, j < L.length → flOk (nthP L j) = true from fun j hj => allP_at hok hj)
        replace hi := Lib.hid hi
        clear hok
        go_wp2_with fail
        refine HS.mono ?_
        rintro e w2 ⟨g, rfl, hc, b2⟩
        replace b := Below.then2 b b2
        replace hc := Lib.hid hc
        clear b2 HS hd
        go_wp2_with fail
        go_loopw [18] (fun i wr => ∃ k : Nat, k ≤ L.length ∧ i = .int .i64 k ∧ (∀ j, j < k → letsB (nthP L j) id = false) ∧ Below w2.heap.size w2 wr) (fun i _ => L.length - (intOf i).toNat)
        case atStart => exact ⟨0, Nat.zero_le _, rfl, fun j hj => absurd hj (by omega), Below.refl _ _⟩
        case round =>
          obtain ⟨k, hk, rfl, hr, b2⟩ := hrel
          replace hr := Lib.hid hr
          by_cases hlt : k < L.length
          · have hc0 := hc.out k hlt
            have hg : g < w2.heap.size := World.block_lt_of_cell? w2 _ hc0
            have c0 := (b2.cell hg).trans hc0
            have hf1 := HF.out k hlt
            have hf0 : nthP L k = ((nthP L k).1, (nthP L k).2) := rfl
            generalize (nthP L k).1 = m at *
            generalize (nthP L k).2 = cc at *
            rw [hf0] at hf1
            have hf := Lib.hid hf0
            clear hf0 hc0
            have hmm := mMasked m cc
            go_wp2_with fail
            refine (maskedLets m cc id _ hf1 hi.out).mono ?_
            rintro e w3 ⟨he, b3⟩
            replace b2 := Below.then2 b2 b3
            clear b3 c0 hf1 hmm
            cases hl : letsB (m, cc) id with
            | true =>
              rw [hl] at he
              subst he
              have HV := Lib.hid (HP.out k hlt (by rw [hf.out]; exact hl))
              have bb := Below.then2 b b2
              clear hl
              go_wp2_with fail
              go_ret
              exact ⟨by rw [HV.out] <;> rfl, bb⟩
            | false =>
              rw [hl] at he
              subst he
              replace hl := Lib.hid hl
              go_wp2_with fail
              go_roundw
              case rel => exact ⟨k + 1, by omega, by go_num, fun j hj => by
                by_cases e : j = k
                · rw [e, hf.out]; exact hl.out
                · exact hr.out j (by omega), b2⟩
              case measure => simp [intOf]; omega
          · have HV := Lib.hid ((HN.out fun j hj => hr.out j (by omega)).trans (decide_eq_false (by omega)))
            have bb := Below.then2 b b2
            go_wp2_with fail
            go_ret
            exact ⟨by rw [HV.out] <;> rfl, bb⟩
      · have hL : L = [] := List.eq_nil_of_length_eq_zero (by omega)
        subst hL
        have HV := Lib.hid (show passV [] id = true by rw [pass_ok hi rfl]; rfl)
        have hmo := mOpen
        clear hok hi
        go_wp2_with fail
        refine (sievesNone a c w1).mono ?_
        rintro e w2 ⟨g, rfl, hc, b2⟩
        replace b := Below.then2 b b2
        clear b2 hd
        go_wp2_with fail
        go_loopw [18] (fun i wr => i = .int .i64 0 ∧ wr = w2) (fun i _ => 0)
        case atStart => exact ⟨rfl, rfl⟩
        case round =>
          obtain ⟨rfl, rfl⟩ := hrel
          go_wp2_with fail
          refine (openLets id _).mono ?_
          rintro e w3 ⟨rfl, b3⟩
          have bb := Below.then2 b b3
          go_wp2_with fail
          go_ret
          exact ⟨by rw [HV.out] <;> rfl, bb⟩
/-- spec.l10Filters. -/
theorem specFilters (a : Option Addr) (L : List (Int × Int)) (c : Nat) (w : World) (hd : Fls a L w) :
    Calls Tryz.prog 98 #[.slice a L.length c] w fun e w' => e = .returned (.bool (L.all flOk)) ∧ w = w' := by
  have hm := hd.1
  unfold maxLen at hm
  go_enter Tryz.func98, Tryz.ntmps98
  go_wp2_with fail
  go_loop [3] (fun i => ∃ k : Nat, k ≤ L.length ∧ i = .int .i64 k ∧ ∀ j, j < k → flOk (nthP L j) = true) (fun i => L.length - (intOf i).toNat)
  case atStart => exact ⟨0, Nat.zero_le _, rfl, fun j hj => absurd hj (by omega)⟩
  case round =>
    obtain ⟨k, hk, rfl, hr⟩ := hrel
    by_cases hlt : k < L.length
    · obtain ⟨g, o, rfl, c0, c1⟩ := hd.2 k hlt
      have hf0 : nthP L k = ((nthP L k).1, (nthP L k).2) := rfl
      have hn := Lib.hid (allP_no (L := L) hlt)
      generalize (nthP L k).1 = m at *
      generalize (nthP L k).2 = cc at *
      have hf := Lib.hid hf0
      clear hf0
      replace hr := Lib.hid hr
      go_wp2_with (first
        | (go_at_call 81; refine (l1In _ _ _ _).mono ?_; rintro e w' ⟨rfl, rfl⟩))
      all_goals (rename_i hq; try simp only [Bool.not_eq_true', Bool.not_eq_false', decide_eq_false_iff_not, decide_eq_true_eq] at hq)
      all_goals first
        | (have HV := Lib.hid (hn.out (by rw [hf.out, Bool.eq_false_iff, ne_eq, flOk_iff]; omega))
           go_ret; exact ⟨by rw [HV.out] <;> rfl, rfl⟩)
        | (go_round
           case rel => exact ⟨k + 1, by omega, by go_num, fun j hj => by
             by_cases e : j = k
             · rw [e, hf.out, flOk_iff]; omega
             · exact hr.out j (by omega)⟩
           case measure => simp [intOf]; omega)
    · have hall := Lib.hid (allP_yes (L := L) fun j hj => hr j (by omega))
      go_wp2_with fail
      go_ret
      exact ⟨by rw [hall.out] <;> rfl, rfl⟩

set_option maxHeartbeats 2000000 in
/-- spec.Passes. -/
theorem specPasses (a : Option Addr) (L : List (Int × Int)) (c : Nat) (id : Int) (w : World) (hd : Fls a L w) :
    Calls Tryz.prog 250 #[.slice a L.length c, .int .i64 id] w fun e w' => e = .returned (.bool (passV L id)) ∧ Below w.heap.size w w' := by
  have hm := hd.1
  unfold maxLen at hm
  go_enter Tryz.func250, Tryz.ntmps250
  go_wp2_with fail
  refine (specFilters a L c w hd).mono ?_
  rintro e w1 ⟨he, rfl⟩
  cases hok : L.all flOk with
  | false =>
    rw [hok] at he
    subst he
    have HV := Lib.hid (pass_no (L := L) (id := id) hok)
    clear hok
    go_wp2_with fail
    go_ret
    exact ⟨by rw [HV.out] <;> rfl, Below.refl _ _⟩
  | true =>
    rw [hok] at he
    subst he
    go_wp2_with fail
    refine (l1In _ _ _ _).mono ?_
    rintro e w2 ⟨he, rfl⟩
    cases hi : idIn id with
    | false =>
      have HV := Lib.hid (pass_id (L := L) hi)
      have hq : (decide ((0 : Int) ≤ id) && decide (id ≤ 2047)) = false := hi
      rw [hq] at he
      subst he
      clear hi hok hq
      go_wp2_with fail
      go_ret
      exact ⟨by rw [HV.out] <;> rfl, Below.refl _ _⟩
    | true =>
      have HP := Lib.hid (show ∀ j, j < L.length → letsB (nthP L j) id = true → passV L id = true from fun j hj hl => pass_hit hi hok hj hl)
      have HN := Lib.hid (show (∀ j, j < L.length → letsB (nthP L j) id = false) → passV L id = decide (L.length = 0) from fun hl => pass_none hi hok hl)
      have hq : (decide ((0 : Int) ≤ id) && decide (id ≤ 2047)) = true := hi
      rw [hq] at he
      subst he
      clear hi hok hq
      go_wp2_with fail
      go_loopw [5] (fun i wr => ∃ k : Nat, k ≤ L.length ∧ i = .int .i64 k ∧ (∀ j, j < k → letsB (nthP L j) id = false) ∧ Below w.heap.size w wr) (fun i _ => L.length - (intOf i).toNat)
      case atStart => exact ⟨0, Nat.zero_le _, rfl, fun j hj => absurd hj (by omega), Below.refl _ _⟩
      case round =>
        obtain ⟨k, hk, rfl, hr, b⟩ := hrel
        replace hr := Lib.hid hr
        by_cases hlt : k < L.length
        · obtain ⟨g, o, rfl, c0, c1⟩ := (hd.below b).2 k hlt
          have hf0 : nthP L k = ((nthP L k).1, (nthP L k).2) := rfl
          generalize (nthP L k).1 = m at *
          generalize (nthP L k).2 = cc at *
          have hf := Lib.hid hf0
          clear hf0
          go_wp2_with fail
          go_quiet (fail)
          have bb : Below w.heap.size w (wr.drewN nq) := ⟨b.os, b.tape, b.output, b.size, b.block⟩
          cases hl : (bits .and .i64 id m == bits .and .i64 cc m) with
          | true =>
            have HV := Lib.hid (HP.out k hlt (by rw [hf.out]; exact hl))
            go_wp2_with fail
            go_ret
            exact ⟨by rw [HV.out] <;> rfl, bb⟩
          | false =>
            have hl' := Lib.hid (show letsB (m, cc) id = false from hl)
            go_wp2_with fail
            go_roundw
            case rel => exact ⟨k + 1, by omega, by go_num, fun j hj => by
              by_cases e : j = k
              · rw [e, hf.out]; exact hl'.out
              · exact hr.out j (by omega), bb⟩
            case measure => simp [intOf]; omega
        · have HV := HN.out fun j hj => hr.out j (by omega)
          by_cases h0 : L.length = 0
          · rw [decide_eq_true h0] at HV
            replace HV := Lib.hid HV
            have hb : ((L.length : Int) == 0) = true := beq_iff_eq.2 (by omega)
            clear h0
            go_wp2_with fail
            go_ret
            exact ⟨by rw [HV.out] <;> rfl, b⟩
          · rw [decide_eq_false h0] at HV
            replace HV := Lib.hid HV
            have hb : ((L.length : Int) == 0) = false := beq_eq_false_iff_ne.2 (by omega)
            clear h0
            go_wp2_with fail
            go_ret
            exact ⟨by rw [HV.out] <;> rfl, b⟩
end Go.Proofs.YtngcekegngmedaaGreatDoor
