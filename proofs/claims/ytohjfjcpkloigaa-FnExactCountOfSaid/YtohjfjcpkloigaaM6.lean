/- Contracts of FrameOk, of the program and of the model: at every frame whose data can be read both answer frOk of it. -/
import Derived.Test.YtohjfjcpkloigaaM5
import Derived.Below
import Derived.WalkKit
import Derived.Deep.RegionWith
import Derived.Deep.QuietTactic
import Derived.BigQuiet
import Derived.Deep.RegionHeld3
import Derived.Deep.CutRange
import Derived.Deep.DeepCutAuto

set_option maxRecDepth 20000
namespace Go.Proofs.Ytohjfjcpkloigaa
open Go.RowKit

/-- Number j of a list (a name of its own: simp leaves it alone). -/
def nth (D : List Int) (j : Nat) : Int := D.getD j 0
/-- In w the slice at a holds the numbers D. -/
def Nums (a : Option Addr) (D : List Int) (w : World) : Prop :=
  D.length ≤ maxLen ∧ (∀ v ∈ D, (Lit.int .i64 v).wf = true) ∧ ∀ j, j < D.length → ∃ g o, a = some ⟨g, o, none⟩ ∧ w.cell? ⟨g, o + j, none⟩ = some (.int .i64 (nth D j))
theorem Nums.below {a : Option Addr} {D : List Int} {w w' : World} (h : Nums a D w) (b : Below w.heap.size w w') : Nums a D w' := by
  refine ⟨h.1, h.2.1, fun j hj => ?_⟩
  obtain ⟨g, o, ha, hc⟩ := h.2.2 j hj
  exact ⟨g, o, ha, (b.cell (p := ⟨g, o + j, none⟩) (World.block_lt_of_cell? w _ hc)).trans hc⟩

theorem Nums.alloc {a : Option Addr} {D : List Int} {w : World} (h : Nums a D w) (o : Obj) : Nums a D (w.alloc o) := h.below ((Below.refl _ _).alloc (Nat.le_refl _) _)

theorem Nums.drew {a : Option Addr} {D : List Int} {w : World} (h : Nums a D w) : Nums a D w.drew := ⟨h.1, h.2.1, h.2.2⟩

/-- Is the number a byte? -/
def byOk (b : Int) : Bool := decide (0 ≤ b) && decide (b ≤ 255)
def frOk (id : Int) (rm : Bool) (ln : Int) (D : List Int) : Bool := inR id ln && decide ((D.length : Int) = if rm then 0 else ln) && D.all byOk

theorem byOk_no {v : Int} (h : v < 0 ∨ 255 < v) : byOk v = false := by
  simp only [byOk, Bool.and_eq_false_iff, decide_eq_false_iff_not]; omega
theorem byOk_yes {v : Int} (h0 : 0 ≤ v) (h1 : v ≤ 255) : byOk v = true := by simp [byOk, h0, h1]
theorem all_yes {D : List Int} (h : ∀ j, j < D.length → byOk (nth D j) = true) : D.all byOk = true := by
  rw [List.all_eq_true]
  intro x hx
  obtain ⟨j, hj, rfl⟩ := List.mem_iff_getElem.1 hx
  have := h j hj
  rwa [nth, List.getD_eq_getElem?_getD, List.getElem?_eq_getElem hj] at this
theorem all_no {D : List Int} {k : Nat} (hk : k < D.length) (h : byOk (nth D k) = false) : D.all byOk = false := by
  rw [nth, List.getD_eq_getElem?_getD, List.getElem?_eq_getElem hk] at h
  rw [Bool.eq_false_iff]
  intro e
  rw [List.all_eq_true] at e
  have := e _ (List.getElem_mem hk)
  simp_all
theorem frOk_no {id : Int} {rm : Bool} {ln : Int} {D : List Int} (h : id < 0 ∨ 2047 < id ∨ ln < 0 ∨ 8 < ln ∨ (D.length : Int) ≠ if rm = true then 0 else ln) : frOk id rm ln D = false := by
  simp only [frOk, inR, Bool.and_eq_false_iff, decide_eq_false_iff_not]; omega
theorem frOk_yes {id : Int} {rm : Bool} {ln : Int} {D : List Int} (h : 0 ≤ id ∧ id ≤ 2047 ∧ 0 ≤ ln ∧ ln ≤ 8) (h2 : (D.length : Int) = if rm = true then 0 else ln) : frOk id rm ln D = D.all byOk := by
  simp only [frOk, inR]
  rw [decide_eq_true h2, decide_eq_true h.1, decide_eq_true h.2.1, decide_eq_true h.2.2.1, decide_eq_true h.2.2.2]; rfl
end Go.Proofs.Ytohjfjcpkloigaa

/- The exact laws' own small functions over lists of int64: szInt64S, toInt64S, eqInt64S. -/

set_option maxRecDepth 20000
namespace Go.Proofs.Ytohjfjcpkloigaa
open Go.RowKit

/-- A row of c int64s, number i being f i. -/
def irow (c : Nat) (f : Nat → Int) : Array Value := ((List.range c).map fun i => Value.int .i64 (f i)).toArray
theorem irow_size (c : Nat) (f : Nat → Int) : (irow c f).size = c := by simp [irow]
theorem irow_get {c : Nat} (f : Nat → Int) {i : Nat} (h : i < c) : (irow c f)[i]? = some (.int .i64 (f i)) := by
  simp [irow, h]
theorem irow_set {c : Nat} (f g : Nat → Int) (i : Nat) (v : Int) (hv : ∀ j, j < c → g j = if j = i then v else f j) :
    (irow c f).setIfInBounds i (.int .i64 v) = irow c g := by
  apply Array.ext
  · simp [irow]
  · intro j h1 h2
    have hj : j < c := by simpa [irow_size] using h2
    have := hv j hj
    simp only [irow, List.getElem_toArray, List.getElem_map, List.getElem_range] at *
    rw [Array.getElem_setIfInBounds (by simpa using hj)]
    by_cases e : i = j
    · subst e; simp [this]
    · rw [if_neg e, this, if_neg (Ne.symm e)]; simp
theorem irow_made (c : Nat) : madeCells #[.int .i64 0] (c * 1) = irow c fun _ => 0 := by
  apply Array.ext
  · simp [madeCells, irow]
  · intro j h1 h2
    simp [madeCells, irow, Nat.mod_one]
theorem make_ints (c : Nat) (hc : c ≤ 1048576) (W : World) : (Instr.makeSlice 36 (.int .i64 c) (.int .i64 c)).run Try.prog W =
    .ok (.slice (some ⟨W.heap.size, 0, none⟩) c c) (W.alloc (.cells (irow c fun _ => 0) 2)) := by
  obtain ⟨i0, hi, hz0, hz1, hz2⟩ := info_parts (show (Try.prog.info? 2).map (fun i => (i.zero, i.size, i.bytes)) = some (some (.int .i64 0), 1, 8) by kernel_rfl)
  have := run_make (P := Try.prog) W 36 2 i0 (.int .i64 0) Try.underlying36 hi hz0 .i64 .i64 c c (by omega) (Int.le_refl _) (by rw [hz2]; omega) (by omega)
  rw [this, hz1]
  simp only [Int.toNat_natCast]
  rw [show (Value.int .i64 0).cells = #[.int .i64 0] from rfl, irow_made]


/-- laws.toInt64S. -/
theorem toInts (a : Option Addr) (D : List Int) (c : Nat) (w : World) (hd : Nums a D w) (h : D.length ≤ 1048576) :
    Calls Try.prog 36 #[.slice a D.length c] w fun e w' =>
      e = .returned (.slice (some ⟨w.heap.size, 0, none⟩) D.length D.length) ∧ w' = w.alloc (.cells (irow D.length fun j => nth D j) 2) := by
  have hmk := make_ints D.length h
  go_enter Try.func36, Try.ntmps36
  go_wp2
  clear hmk
  go_loopw [4] (fun i wr => ∃ k : Nat, k ≤ D.length ∧ i = .int .i64 k ∧ wr = w.alloc (.cells (irow D.length fun j => if j < k then nth D j else 0) 2)) (fun i _ => D.length - (intOf i).toNat)
  case atStart => exact ⟨0, Nat.zero_le _, rfl, by simp⟩
  case round =>
    obtain ⟨k, hk, rfl, rfl⟩ := hrel
    by_cases hlt : k < D.length
    · obtain ⟨bl, o, rfl, hc⟩ := hd.2.2 k hlt
      have hlt' : bl < w.heap.size := World.block_lt_of_cell? w _ hc
      have hcell := irow_get (fun j => if j < k then nth D j else 0) hlt
      rw [if_neg (Nat.lt_irrefl k)] at hcell
      generalize hv' : nth D k = v at hc
      have hv := Lib.hid hv'
      clear hv'
      go_wp2
      go_roundw
      case rel =>
        refine ⟨k + 1, by omega, by go_num, ?_⟩
        rw [irow_set _ (fun j => if j < k + 1 then nth D j else 0) k v]
        intro j _
        by_cases e : j = k
        · subst e; simp [hv.out]
        · rw [if_neg e]
          by_cases e2 : j < k
          · rw [if_pos e2, if_pos (by omega)]
          · rw [if_neg e2, if_neg (by omega)]
      case measure => simp [intOf]; omega
    · obtain rfl : k = D.length := by omega
      go_wp2
      go_ret
      refine ⟨rfl, ?_⟩
      congr 2
      apply Array.ext
      · simp [irow]
      · intro j h1 h2
        have hj : j < D.length := by simpa [irow_size] using h2
        simp [irow, hj]
theorem Nums.made {a : Option Addr} {D : List Int} {w : World} (hd : Nums a D w) (w1 : World) (T : TypeId) :
    Nums (some ⟨w1.heap.size, 0, none⟩) D (w1.alloc (.cells (irow D.length fun j => nth D j) T)) := by
  refine ⟨hd.1, hd.2.1, fun j hj => ⟨w1.heap.size, 0, rfl, ?_⟩⟩
  rw [World.cell?_alloc_at _ _ _ _ rfl, Nat.zero_add, irow_get _ hj]

/-- laws.eqInt64S, of two lists that hold the same. -/
theorem eqInts (a b : Option Addr) (D : List Int) (c c' : Nat) (w : World) (ha : Nums a D w) (hb : Nums b D w) :
    Calls Try.prog 37 #[.slice a D.length c, .slice b D.length c'] w fun e w' => e = .returned (.bool true) ∧ ∃ n, w' = w.drewN n := by
  have hm := ha.1
  unfold maxLen at hm
  go_enter Try.func37, Try.ntmps37
  go_wp2
  go_loopw [5] (fun i wr => ∃ k n : Nat, k ≤ D.length ∧ i = .int .i64 k ∧ wr = w.drewN n) (fun i _ => D.length - (intOf i).toNat)
  case atStart => exact ⟨0, 0, Nat.zero_le _, rfl, rfl⟩
  case round =>
    obtain ⟨k, n, hk, rfl, rfl⟩ := hrel
    by_cases hlt : k < D.length
    · obtain ⟨bl, o, rfl, hc⟩ := ha.2.2 k hlt
      obtain ⟨bl', o', rfl, hc'⟩ := hb.2.2 k hlt
      have hki : (k : Int) < D.length := by omega
      generalize nth D k = v at hc hc'
      go_wp2
      go_quiet (fail)
      go_wp2
      go_roundw
      case rel => exact ⟨k + 1, _, by omega, by go_num, rfl⟩
      case measure => simp [intOf]; omega
    · go_wp2
      go_ret
      exact ⟨rfl, n, rfl⟩

end Go.Proofs.Ytohjfjcpkloigaa

/- The exact laws' own small functions over frames: szFrame, toFrame, eqFrame. -/

set_option maxRecDepth 20000
namespace Go.Proofs.Ytohjfjcpkloigaa
open Go.RowKit

theorem below_drewn4 {B : Nat} {a w : World} (h : Below B a w) (n : Nat) : Below B a (w.drewN n) := ⟨h.os, h.tape, h.output, h.size, h.block⟩

theorem Nums.made_at {a : Option Addr} {D : List Int} {w : World} (hd : Nums a D w) {g : Nat} (w1 : World) (T : TypeId) (hg : g = w1.heap.size) :
    Nums (some ⟨g, 0, none⟩) D (w1.alloc (.cells (irow D.length fun j => nth D j) T)) := by
  subst hg; exact hd.made w1 T


end Go.Proofs.Ytohjfjcpkloigaa

/- Contracts of RankOf, of the program and of the model: twice the Id, and 1 more of a remote one; -1 of a frame that is not right. -/

set_option maxRecDepth 20000
namespace Go.Proofs.Ytohjfjcpkloigaa
open Go.RowKit

def rankV (id : Int) (rm : Bool) (ln : Int) (D : List Int) : Int := if frOk id rm ln D = true then (if rm = true then id * 2 + 1 else id * 2) else -1
theorem rankV_no {id : Int} {rm : Bool} {ln : Int} {D : List Int} (h : frOk id rm ln D = false) : rankV id rm ln D = -1 := by simp [rankV, h]
theorem rankV_yes {id : Int} {rm : Bool} {ln : Int} {D : List Int} (h : frOk id rm ln D = true) : rankV id rm ln D = if rm = true then id * 2 + 1 else id * 2 := by simp [rankV, h]
theorem frOk_id {id : Int} {rm : Bool} {ln : Int} {D : List Int} (h : frOk id rm ln D = true) : 0 ≤ id ∧ id ≤ 2047 := by
  simp only [frOk, inR, Bool.and_eq_true, decide_eq_true_eq] at h; omega
theorem rankV_le (id : Int) (rm : Bool) (ln : Int) (D : List Int) : -1 ≤ rankV id rm ln D ∧ rankV id rm ln D ≤ 4095 := by
  cases h : frOk id rm ln D with
  | false => rw [rankV_no h]; omega
  | true =>
    have := frOk_id h
    rw [rankV_yes h]
    cases rm <;> simp <;> omega
theorem rankV_neg {id : Int} {rm : Bool} {ln : Int} {D : List Int} : rankV id rm ln D < 0 ↔ frOk id rm ln D = false := by
  cases h : frOk id rm ln D with
  | false => rw [rankV_no h]; simp
  | true =>
    have := frOk_id h
    rw [rankV_yes h]
    cases rm <;> simp <;> omega

end Go.Proofs.Ytohjfjcpkloigaa

/- A slice of frames in memory, and the exact laws' own functions over it: szFrameS, toFrameS, eqFrameS. -/

set_option maxRecDepth 20000
namespace Go.Proofs.Ytohjfjcpkloigaa
open Go.RowKit

/-- What a frame says. -/
structure Frm where
  id : Int
  rm : Bool
  ln : Int
  D : List Int
def nthF (L : List Frm) (j : Nat) : Frm := L.getD j ⟨0, false, 0, []⟩
/-- From place o of block g on the frame f stands, its data at ad. -/
def FrC (g o : Nat) (ad : Option Addr) (c : Nat) (f : Frm) (w : World) : Prop :=
  (w.cell? ⟨g, o, none⟩ = some (.int .i64 f.id) ∧ w.cell? ⟨g, o + 1, none⟩ = some (.bool f.rm) ∧ w.cell? ⟨g, o + 2, none⟩ = some (.int .i64 f.ln) ∧ w.cell? ⟨g, o + 3, none⟩ = some (.slice ad f.D.length c)) ∧ Nums ad f.D w
theorem FrC.below {g o : Nat} {ad : Option Addr} {c : Nat} {f : Frm} {w w' : World} (h : FrC g o ad c f w) (b : Below w.heap.size w w') : FrC g o ad c f w' := by
  obtain ⟨⟨h0, h1, h2, h3⟩, hn⟩ := h
  have hg : g < w.heap.size := World.block_lt_of_cell? w _ h0
  exact ⟨⟨(b.cell hg).trans h0, (b.cell hg).trans h1, (b.cell hg).trans h2, (b.cell hg).trans h3⟩, hn.below b⟩
theorem FrC.drew {g o : Nat} {ad : Option Addr} {c : Nat} {f : Frm} {w : World} (h : FrC g o ad c f w) : FrC g o ad c f w.drew := h
/-- Element j of the slice at a is the frame f. -/
def FrAt (a : Option Addr) (j : Nat) (f : Frm) (w : World) : Prop := ∃ g o ad c, a = some ⟨g, o, none⟩ ∧ FrC g (o + j * 4) ad c f w
theorem FrAt.below {a : Option Addr} {j : Nat} {f : Frm} {w w' : World} (h : FrAt a j f w) (b : Below w.heap.size w w') : FrAt a j f w' := by
  obtain ⟨g, o, ad, c, ha, hc⟩ := h
  exact ⟨g, o, ad, c, ha, hc.below b⟩
/-- The slice at a holds the frames L. -/
def Frs (a : Option Addr) (L : List Frm) (w : World) : Prop := L.length ≤ maxLen ∧ ∀ j, j < L.length → FrAt a j (nthF L j) w
theorem Frs.below {a : Option Addr} {L : List Frm} {w w' : World} (h : Frs a L w) (b : Below w.heap.size w w') : Frs a L w' := ⟨h.1, fun j hj => (h.2 j hj).below b⟩
theorem Frs.alloc {a : Option Addr} {L : List Frm} {w : World} (h : Frs a L w) (o : Obj) : Frs a L (w.alloc o) := h.below ((Below.refl _ _).alloc (Nat.le_refl _) _)
theorem Frs.drew {a : Option Addr} {L : List Frm} {w : World} (h : Frs a L w) : Frs a L w.drew := h

/-- How many places the frames' data take up, of the first k. -/
def room (L : List Frm) (k : Nat) : Nat := ((L.take k).map fun f => f.D.length).sum
theorem room_zero (L : List Frm) : room L 0 = 0 := by simp [room]
theorem room_succ (L : List Frm) (k : Nat) (h : k < L.length) : room L (k + 1) = room L k + (nthF L k).D.length := by
  have e : L.take (k + 1) = L.take k ++ [nthF L k] := by
    rw [List.take_add_one, List.getElem?_eq_getElem h, nthF, List.getD_eq_getElem?_getD, List.getElem?_eq_getElem h]; rfl
  unfold room
  rw [e, List.map_append, List.sum_append]
  simp
theorem room_le (L : List Frm) {j k : Nat} (h : j ≤ k) : room L j ≤ room L k := by
  induction k with
  | zero => rw [Nat.le_zero.1 h]; exact Nat.le_refl _
  | succ k ih =>
    by_cases e : j = k + 1
    · rw [e]; exact Nat.le_refl _
    · refine Nat.le_trans (ih (by omega)) ?_
      by_cases hk : k < L.length
      · rw [room_succ L k hk]; omega
      · simp [room, List.take_of_length_le (Nat.le_of_not_lt hk), List.take_of_length_le (Nat.le_succ_of_le (Nat.le_of_not_lt hk))]


end Go.Proofs.Ytohjfjcpkloigaa
