/- A node as the machine's value, the block that holds one, and what a right one is (plain). -/
import Derived.Test.YtngcekegngmedaaGreatDoorM3
import Derived.Test.YtngcekegngmedaaGreatDoorM27
import Derived.Test.YtngcekegngmedaaGreatDoorM31
import Derived.Test.YtngcekegngmedaaGreatDoorM11
import Derived.Test.YtngcekegngmedaaGreatDoorM0
import Derived.BigFrame
import Derived.Test.YtngcekegngmedaaGreatDoorM1

set_option linter.unusedVariables false
set_option linter.unusedSimpArgs false
set_option maxRecDepth 20000
namespace Go.Proofs.YtngcekegngmedaaGreatDoor
open Go.RowKit

/-- A node, as the document has it. -/
structure Nd where
  ph : Int
  tx : Bool
  mild : Bool
  bad : Bool
  fr : Frm
  got : ByteArray
  run : Int
  last : Int
  pos : Int
  left : Int
  cs : Int
  cg : Int
  box : List Frm
  fifo : List Frm
  flt : List (Int × Int)
/-- Where its slices lie, and their room. -/
structure NdP where
  ad : Option Addr
  cd : Nat
  ab : Option Addr
  cb : Nat
  af : Option Addr
  cf : Nat
  al : Option Addr
  cl : Nat
abbrev ndC (n : Nd) (p : NdP) : Array Value := #[.int .i64 n.ph, .bool n.tx, .bool n.mild, .bool n.bad, .int .i64 n.fr.id, .bool n.fr.rm, .int .i64 n.fr.ln, .slice p.ad n.fr.D.length p.cd, .string n.got, .int .i64 n.run, .int .i64 n.last, .int .i64 n.pos, .int .i64 n.left, .int .i64 n.cs, .int .i64 n.cg, .slice p.ab n.box.length p.cb, .slice p.af n.fifo.length p.cf, .slice p.al n.flt.length p.cl]
abbrev ndV (n : Nd) (p : NdP) : Value := .agg #[.int .i64 n.ph, .bool n.tx, .bool n.mild, .bool n.bad, .int .i64 n.fr.id, .bool n.fr.rm, .int .i64 n.fr.ln, .slice p.ad n.fr.D.length p.cd, .string n.got, .int .i64 n.run, .int .i64 n.last, .int .i64 n.pos, .int .i64 n.left, .int .i64 n.cs, .int .i64 n.cg, .slice p.ab n.box.length p.cb, .slice p.af n.fifo.length p.cf, .slice p.al n.flt.length p.cl]

/-- What its slices hold in a world. -/
structure NdM (n : Nd) (p : NdP) (w : World) : Prop where
  nums : Nums p.ad n.fr.D w
  box : Frs p.ab n.box w
  fifo : Frs p.af n.fifo w
  flt : Fls p.al n.flt w
  size : n.got.size ≤ maxLen
section
variable {n : Nd} {p : NdP} {w w' w0 : World} {g : Nat}
theorem NdM.below (h : NdM n p w) (b : Below w.heap.size w w') : NdM n p w' := ⟨h.nums.below b, h.box.below b, h.fifo.below b, h.flt.below b, h.size⟩
theorem NdM.alloc (h : NdM n p w) (o : Obj) : NdM n p (w.alloc o) := h.below ((Below.refl _ _).alloc (Nat.le_refl _) _)
theorem NdM.drew (h : NdM n p w) : NdM n p w.drew := ⟨h.nums.drew, h.box.drew, h.fifo.drew, h.flt.drew, h.size⟩

/-- A block that holds a node; what was there when the call began still is. -/
structure Nx (g : Nat) (n : Nd) (p : NdP) (w0 w : World) : Prop where
  blk : w.heap[g]? = some (.cells (ndC n p) 32 (0, 0))
  bel : Below w0.heap.size w0 w
theorem Nx.lt (h : Nx g n p w0 w) : g < w.heap.size := (Array.getElem?_eq_some_iff.1 h.blk).1
theorem Nx.below (h : Nx g n p w0 w) (b : Below w.heap.size w w') : Nx g n p w0 w' := ⟨(b.block g h.lt).trans h.blk, Below.then2 h.bel b⟩
theorem Nx.alloc (h : Nx g n p w0 w) (o : Obj) : Nx g n p w0 (w.alloc o) := h.below ((Below.refl _ _).alloc (Nat.le_refl _) _)
theorem Nx.drew (h : Nx g n p w0 w) : Nx g n p w0 w.drew := ⟨h.blk, h.bel.drew⟩
theorem Nx.made (n : Nd) (p : NdP) (b : Below w0.heap.size w0 w) : Nx w.heap.size n p w0 (w.alloc (.cells (ndC n p) 32)) := ⟨heap_alloc_new w _, b.alloc b.size _⟩
theorem Nx.cells (h : Nx g n p w0 w) : w.cell? ⟨g, 0, none⟩ = some (.int .i64 n.ph) ∧ w.cell? ⟨g, 1, none⟩ = some (.bool n.tx) ∧ w.cell? ⟨g, 2, none⟩ = some (.bool n.mild) ∧ w.cell? ⟨g, 3, none⟩ = some (.bool n.bad)
    ∧ w.cell? ⟨g, 4, none⟩ = some (.int .i64 n.fr.id) ∧ w.cell? ⟨g, 5, none⟩ = some (.bool n.fr.rm) ∧ w.cell? ⟨g, 6, none⟩ = some (.int .i64 n.fr.ln) ∧ w.cell? ⟨g, 7, none⟩ = some (.slice p.ad n.fr.D.length p.cd)
    ∧ w.cell? ⟨g, 8, none⟩ = some (.string n.got) ∧ w.cell? ⟨g, 9, none⟩ = some (.int .i64 n.run) ∧ w.cell? ⟨g, 10, none⟩ = some (.int .i64 n.last) ∧ w.cell? ⟨g, 11, none⟩ = some (.int .i64 n.pos) ∧ w.cell? ⟨g, 12, none⟩ = some (.int .i64 n.left)
    ∧ w.cell? ⟨g, 13, none⟩ = some (.int .i64 n.cs) ∧ w.cell? ⟨g, 14, none⟩ = some (.int .i64 n.cg) ∧ w.cell? ⟨g, 15, none⟩ = some (.slice p.ab n.box.length p.cb) ∧ w.cell? ⟨g, 16, none⟩ = some (.slice p.af n.fifo.length p.cf) ∧ w.cell? ⟨g, 17, none⟩ = some (.slice p.al n.flt.length p.cl) := by
  refine ⟨?_, ?_, ?_, ?_, ?_, ?_, ?_, ?_, ?_, ?_, ?_, ?_, ?_, ?_, ?_, ?_, ?_, ?_⟩ <;> exact cell_of_row w g _ _ _ _ h.blk
/-- The whole node read out of its block, in one step (cell by cell it takes two minutes): offered to the walk as 'go_wp2_with (refine X.nx.take rfl rfl rfl ?_)'. -/
theorem Nx.take (h : Nx g n p w0 w) {ops : Array Oper} {rest : List Oper} {o : Oper} {a : Act} {Q : Exit → Act → World → Prop} {x : Operand} (ho : o.op = .load 32 x) (hx : a.eval x = .pointer (some ⟨g, 0, none⟩))
    (hw : Region.wanted o (yielded ops a.tmps) = true) (k : wpList Tryz.prog ops Q rest (a.put o.dst (ndV n p)) w) : wpList Tryz.prog ops Q (o :: rest) a w :=
  BigFrame.wpList_want hw fun _ hK => wp_load_row 32 x ho g hx 32 (ndC n p) (0, 0) _ h.blk Tryz.underlying32 rfl (by kernel_rfl) (hK _ _ k)
/-- The same where the region draws. -/
theorem Nx.took (h : Nx g n p w0 w) {o : Oper} {a : Act} {x : Operand} (ho : o.op = .load 32 x) (hx : a.eval x = .pointer (some ⟨g, 0, none⟩)) : (execOp a.eval o).run Tryz.prog w = .ok (.value (ndV n p)) w := by
  unfold execOp
  simp only [ho, hx, Instr.loadAt, Instr.sureAddr, Sem.run_bind, Sem.run_pure, Result.andThen_ok, run_loadVar_row w g 32 32 (ndC n p) (0, 0) _ h.blk Tryz.underlying32 rfl (by kernel_rfl)]
/-- What a region of a node's function reads: the node's block, and what its slices hold. -/
structure NC (g : Nat) (n : Nd) (p : NdP) (w0 u : World) : Prop where
  nx : Nx g n p w0 u
  m : NdM n p u
theorem NC.below {u u' : World} (h : NC g n p w0 u) (b : Below u.heap.size u u') : NC g n p w0 u' := ⟨h.nx.below b, h.m.below b⟩
theorem NC.drew {u : World} (h : NC g n p w0 u) : NC g n p w0 u.drew := ⟨h.nx.drew, h.m.drew⟩
theorem NC.made (hm : NdM n p w) : NC w.heap.size n p w (w.alloc (.cells (ndC n p) 32)) := ⟨Nx.made n p (Below.refl _ _), hm.alloc _⟩
/-- The same, and one element of its box. -/
structure NE (g : Nat) (n : Nd) (p : NdP) (w0 : World) (ge o : Nat) (ae : Option Addr) (ce : Nat) (x : Frm) (u : World) : Prop where
  nc : NC g n p w0 u
  el : FrC ge o ae ce x u
theorem NE.below {ge o : Nat} {ae : Option Addr} {ce : Nat} {x : Frm} {u u' : World} (h : NE g n p w0 ge o ae ce x u) (b : Below u.heap.size u u') : NE g n p w0 ge o ae ce x u' := ⟨h.nc.below b, h.el.below b⟩
theorem NE.drew {ge o : Nat} {ae : Option Addr} {ce : Nat} {x : Frm} {u : World} (h : NE g n p w0 ge o ae ce x u) : NE g n p w0 ge o ae ce x u.drew := ⟨h.nc.drew, h.el.drew⟩
end

/-! ### What a right node is. -/
def rng (x lo hi : Int) : Bool := decide (lo ≤ x) && decide (x ≤ hi)
theorem rng_iff {x lo hi : Int} : rng x lo hi = true ↔ lo ≤ x ∧ x ≤ hi := by simp [rng]
def frB (f : Frm) : Bool := frOk f.id f.rm f.ln f.D
def numB (n : Nd) : Bool := rng n.ph 0 7 && (rng n.run 0 11 && (rng n.last 0 1 && (rng n.pos 0 9 && (rng n.left 0 128 && cOk n.cs n.cg))))
def fifoB (L : List Frm) : Bool := decide (L.length ≤ 32) && L.all frB
def listB (n : Nd) : Bool := decide (n.got.size ≤ 98) && (okB n.got && (boxB n.box && (fifoB n.fifo && (decide (n.flt.length ≤ 8) && n.flt.all flOk))))
def wholeB (s : ByteArray) : Bool := decide (0 ≤ needV s) && decide (needV s ≤ s.size)
def prefB (s t : ByteArray) : Bool := decide (t.size ≤ s.size) && decide (s.extract 0 t.size = t)
def fullF (f : Frm) : ByteArray := fullV f.id f.rm f.ln f.D
def sameF (f g : Frm) : Bool := sameFr f.id f.rm f.ln f.D g.id g.rm g.ln g.D
def hasB (L : List Frm) (f : Frm) : Bool := metB L (rkF f) (posN L (rkF f) L.length) && sameF (nthF L (posN L (rkF f) L.length)) f
/-- What is wanted while a frame is on the wire. -/
def bodyB (n : Nd) : Bool := !(decide (n.got.size = 0) || (!(rng n.run 1 5) || (decide (n.run ≠ 5) && wholeB n.got))) && (!n.tx || (prefB (fullF n.fr) n.got && hasB n.box n.fr))
def nodeB (n : Nd) : Bool := numB n && (frB n.fr && (listB n && (decide (n.ph ≠ 1) || bodyB n)))

/-- The next bit of a right node that is in PhBody; what it drives. -/
def nextV (n : Nd) : Int := if n.run = 5 then 1 - n.last else if (fullF n.fr).size ≤ n.got.size then 1 else ((byteAt (fullF n.fr) n.got.size).toNat : Int) - 48
def downB (n : Nd) : Bool :=
  if n.ph = 0 then decide (0 < n.box.length) else if n.ph = 1 then n.tx && decide (nextV n = 0) else if n.ph = 2 then decide (n.pos = 1) && (!n.tx && !n.bad) else if n.ph = 3 then !n.mild else false
theorem nodeB_parts {n : Nd} (h : nodeB n = true) : (0 ≤ n.ph ∧ n.ph ≤ 7) ∧ (0 ≤ n.run ∧ n.run ≤ 11) ∧ (0 ≤ n.last ∧ n.last ≤ 1) ∧ frB n.fr = true ∧ n.got.size ≤ 98 := by
  simp only [nodeB, numB, listB, Bool.and_eq_true, rng_iff, decide_eq_true_eq] at h
  exact ⟨h.1.1, h.1.2.1, h.1.2.2.1, h.2.1, h.2.2.1.1⟩
theorem full_bit {f : Frm} (h : frB f = true) {k : Nat} (hk : k < (fullF f).size) : byteAt (fullF f) k = 48 ∨ byteAt (fullF f) k = 49 := by
  have hb := okB_bit (full_ok (show frOk f.id f.rm f.ln f.D = true from h)) k hk
  have e : (fullF f)[k]'hk = byteAt (fullF f) k := byteAt_eq hk
  have hb' : bit (byteAt (fullF f) k) = true := by rw [← e]; exact hb
  rcases bit_cases hb' with h1 | h1
  · exact .inl (UInt8.toNat_inj.1 h1)
  · exact .inr (UInt8.toNat_inj.1 h1)
theorem nextV_bd {n : Nd} (h : nodeB n = true) : nextV n = 0 ∨ nextV n = 1 := by
  obtain ⟨-, -, hl, hf, -⟩ := nodeB_parts h
  unfold nextV
  split
  · omega
  split
  · exact .inr rfl
  · rcases full_bit hf (k := n.got.size) (by omega) with e | e <;> rw [e] <;> simp

theorem allF_yes {L : List Frm} (h : ∀ j, j < L.length → frB (nthF L j) = true) : L.all frB = true := by
  rw [List.all_eq_true]
  intro x hx
  obtain ⟨j, hj, rfl⟩ := List.getElem_of_mem hx
  have := h j hj
  rwa [nthF_eq hj] at this
theorem allF_no {L : List Frm} {k : Nat} (hk : k < L.length) (h : frB (nthF L k) = false) : L.all frB = false := by
  rw [nthF_eq hk] at h
  rw [Bool.eq_false_iff]
  intro e
  rw [List.all_eq_true] at e
  rw [e _ (List.getElem_mem hk)] at h
  cases h
theorem hasB_at {L : List Frm} {f : Frm} {p : Nat} (hr : Rise L L.length) (hp : Pos L (rkF f) p) : hasB L f = (metB L (rkF f) p && sameF (nthF L p) f) := by
  rw [hasB, (pos_at hr).eq hp]
theorem hasB_hit {L : List Frm} {f : Frm} {k : Nat} (hr : Rise L L.length) (hk : k < L.length) (h : rkF (nthF L k) = rkF f) : hasB L f = sameF (nthF L k) f := by
  have hp : Pos L (rkF f) k := ⟨by omega, fun j hj => by have := hr.lt hj hk; omega, fun j hj hl => by
    by_cases e : k = j
    · subst e; omega
    · have := hr.lt (show k < j by omega) hl; omega⟩
  rw [hasB_at hr hp, metB_yes.2 ⟨hk, h⟩, Bool.true_and]
theorem hasB_miss {L : List Frm} {f : Frm} (hr : Rise L L.length) (h : ∀ j, j < L.length → rkF (nthF L j) ≠ rkF f) : hasB L f = false := by
  rw [hasB]
  cases hm : metB L (rkF f) (posN L (rkF f) L.length) with
  | false => rfl
  | true => rw [metB_yes] at hm; exact absurd hm.2 (h _ hm.1)
theorem prefB_bytes (s t : ByteArray) : prefB s t = (decide (t.size ≤ s.size) && ((s.extract 0 t.size).toList == t.toList)) := by rw [prefB, teq]
end Go.Proofs.YtngcekegngmedaaGreatDoor

/- Contracts of the model's NodeOk, NextBit and Drives: they tell the same as the program's. -/

set_option linter.unusedVariables false
set_option linter.unusedSimpArgs false
set_option maxRecDepth 20000
namespace Go.Proofs.YtngcekegngmedaaGreatDoor
open Go.RowKit

set_option maxHeartbeats 4000000 in
/-- spec.l11Frames. -/
theorem specFifoOk (a : Option Addr) (L : List Frm) (c : Nat) (w : World) (hd : Frs a L w) :
    Calls Tryz.prog 97 #[.slice a L.length c] w fun e w' => e = .returned (.bool (fifoB L)) ∧ Below w.heap.size w w' := by
  have hm := hd.1
  unfold maxLen at hm
  have HU : Hid (fifoB L = (decide (L.length ≤ 32) && L.all frB)) := Lib.hid rfl
  go_enter Tryz.func97, Tryz.ntmps97
  go_wp2_with fail
  go_loopw [3] (fun i wr => ∃ k : Nat, k ≤ L.length ∧ i = .int .i64 k ∧ Hid (∀ j, j < k → frB (nthF L j) = true) ∧ Below w.heap.size w wr) (fun i _ => L.length - (intOf i).toNat)
  case atStart => exact ⟨0, Nat.zero_le _, rfl, Lib.hid (fun j hj => absurd hj (by omega)), Below.refl _ _⟩
  case round =>
    obtain ⟨k, hk, rfl, hr, bw⟩ := hrel
    by_cases hlt : k < L.length
    · obtain ⟨g, o, ad, ca, rfl, ⟨c0, c1, c2, c3⟩, hn⟩ := (hd.below bw).2 k hlt
      have hN := Lib.hid (fun h => allF_no (L := L) hlt h)
      have hY := Lib.hid (fun h : frB (nthF L k) = true => fun j (hj : j < k + 1) => show frB (nthF L j) = true by
        by_cases e : j = k
        · rw [e]; exact h
        · exact hr.out j (by omega))
      have hfk : frB (nthF L k) = frOk (nthF L k).id (nthF L k).rm (nthF L k).ln (nthF L k).D := rfl
      generalize hq : frB (nthF L k) = r at *
      clear hq
      generalize nthF L k = f at *
      obtain ⟨id, rm, ln, D⟩ := f
      simp only at c0 c1 c2 c3 hn hfk
      replace hfk := Lib.hid hfk
      go_wp2_with fail
      refine (specFrameOk _ _ _ _ _ _ _ hn).mono ?_
      rintro e w2 ⟨he, b2⟩
      rw [← hfk.out] at he
      subst he
      replace bw := Below.then2 bw b2
      clear b2 c0 c1 c2 c3 hn hfk
      cases r
      · have HV := Lib.hid (hN.out rfl)
        go_wp2_with fail
        go_ret
        exact ⟨by rw [HU.out, HV.out, Bool.and_false]; rfl, bw⟩
      · go_wp2_with fail
        go_roundw
        case rel => exact ⟨k + 1, by omega, by go_num, Lib.hid (hY.out trivial), bw⟩
        case measure => simp [intOf]; omega
    · obtain rfl : k = L.length := by omega
      have HV := Lib.hid (allF_yes hr.out)
      clear hr
      replace HU := Lib.hid (HU.out.trans (by rw [HV.out, Bool.and_true]; exact decide_eq_decide.2 (by omega) : _ = decide ((L.length : Int) ≤ 32)))
      go_wp2_with fail
      go_ret
      exact ⟨by rw [HU.out]; rfl, bw⟩
set_option maxHeartbeats 4000000 in
/-- spec.l11Body. -/
theorem specBodyIs (n : Nd) (p : NdP) (w : World) (hm : NdM n p w) (hr : Rise n.box n.box.length) :
    Calls Tryz.prog 99 #[ndV n p] w fun e w' => e = .returned (.bool (bodyB n)) ∧ Below w.heap.size w w' := by
  obtain ⟨ph, tx, mild, bad, fr, got, run, last, pos, left, cs, cg, box, fifo, flt⟩ := n
  obtain ⟨ad, cd, ab, cb, af, cf, al, cl⟩ := p
  have X := NC.made hm
  dsimp only [ndC] at X hr
  have HV : Hid (bodyB ⟨ph, tx, mild, bad, fr, got, run, last, pos, left, cs, cg, box, fifo, flt⟩ = (!(decide (got.size = 0) || (!(rng run 1 5) || (decide (run ≠ 5) && wholeB got))) && (!tx || (prefB (fullF fr) got && hasB box fr)))) := Lib.hid rfl
  have HW : Hid (wholeB got = (decide (0 ≤ needV got) && decide (needV got ≤ got.size))) := Lib.hid rfl
  have hnb := needV_bd got
  have hgs := hm.size
  have hgs' := hgs
  unfold maxLen at hgs'
  dsimp only at hgs hgs'
  have hfs : (fullV fr.id fr.rm fr.ln fr.D).size ≤ maxLen := Nat.le_trans (full_len _ _ _ _) (by unfold maxLen; decide)
  go_enter Tryz.func99, Tryz.ntmps99
  go_upto_region 1 with fail
  generalize w.alloc _ = W at X ⊢
  generalize w.heap.size = g at X
  have hb := X.nx.bel
  obtain ⟨c0, c1, c2, c3, c4, c5, c6, c7, c8, c9, c10, c11, c12, c13, c14, c15, c16, c17⟩ := X.nx.cells
  dsimp only at c0 c1 c2 c3 c4 c5 c6 c7 c8 c9 c10 c11 c12 c13 c14 c15 c16 c17
  go_wp2_with fail
  refine (specNeed _ _ hgs).mono ?_
  rintro e w' ⟨rfl, rfl⟩
  generalize needV got = nv at *
  by_cases hz : got.size = 0
  · replace HV := Lib.hid (HV.out.trans (by rw [decide_eq_true hz]; rfl : _ = false))
    go_wp2_with fail
    go_ret
    exact ⟨by rw [HV.out]; rfl, hb⟩
  replace HV := Lib.hid (HV.out.trans (by rw [decide_eq_false hz, Bool.false_or] : _ = (!(!(rng run 1 5) || (decide (run ≠ 5) && wholeB got)) && (!tx || (prefB (fullF fr) got && hasB box fr)))))
  have hz' : 1 ≤ got.size := by omega
  clear hz
  go_wp2_with fail
  refine (l1In _ _ _ _).mono ?_
  rintro e w' ⟨he, rfl⟩
  rw [show (decide ((1 : Int) ≤ run) && decide (run ≤ 5)) = rng run 1 5 from rfl] at he
  subst he
  generalize rng run 1 5 = b1 at *
  cases b1
  · go_wp2_with fail
    go_ret
    exact ⟨by rw [HV.out]; rfl, hb⟩
  replace HV := Lib.hid (HV.out.trans (by rw [Bool.not_true, Bool.false_or]; rfl : _ = (!(decide (run ≠ 5) && wholeB got) && (!tx || (prefB (fullV fr.id fr.rm fr.ln fr.D) got && hasB box fr)))))
  by_cases hw : 0 ≤ nv ∧ nv ≤ got.size
  · replace HV := Lib.hid (HV.out.trans (by rw [HW.out, decide_eq_true hw.1, decide_eq_true hw.2]; simp only [Bool.and_true] : _ = (!(decide (run ≠ 5)) && (!tx || (prefB (fullV fr.id fr.rm fr.ln fr.D) got && hasB box fr)))))
    obtain ⟨hw0, hw1⟩ := hw
    by_cases h5 : run = 5
    · have h5' : (run != 5) = false := by simp [h5]
      replace HV := Lib.hid (HV.out.trans (by rw [decide_eq_false (by simp [h5])]; rfl : _ = (!tx || (prefB (fullV fr.id fr.rm fr.ln fr.D) got && hasB box fr))))
      clear h5
      cases tx
      · go_wp2_with fail
        go_ret
        exact ⟨by rw [HV.out]; rfl, hb⟩
      replace HV := Lib.hid (HV.out.trans (Bool.false_or _))
      go_wp2_with fail
      refine (specFull _ _ _ _ _ _ _ X.m.nums).mono ?_
      rintro e w1 ⟨rfl, b⟩
      replace X := X.below b
      replace hb := X.nx.bel
      clear b c0 c1 c2 c3 c4 c5 c6 c7 c8 c9 c10 c11 c12 c13 c14 c15 c16 c17
      have hfs' := hfs
      unfold maxLen at hfs'
      have HP := Lib.hid (prefB_bytes (fullV fr.id fr.rm fr.ln fr.D) got)
      generalize fullV fr.id fr.rm fr.ln fr.D = u at *
      go_upto_region 7 with fail
      by_cases hle : got.size ≤ u.size
      case neg =>
        have hdl : decide (u.size < got.size) = true := decide_eq_true (by omega)
        refine region_class (NC g ⟨ph, true, mild, bad, fr, got, run, last, pos, left, cs, cg, box, fifo, flt⟩ ⟨ad, cd, ab, cb, af, cf, al, cl⟩ w) (by kernel_rfl) (by kernel_rfl) X.drew ?_
        repeat first
          | go_big_quiet_skip
          | (go_big_quiet_want
             apply Exists.intro
             refine ⟨fun u hu => ?_, ?_⟩
             · apply quietAt_val
               obtain ⟨c0, c1, c2, c3, c4, c5, c6, c7, c8, c9, c10, c11, c12, c13, c14, c15, c16, c17⟩ := hu.nx.cells
               go_simp
               rfl
             simp only [Act.put, List.setIfInBounds_toArray, List.set_cons_zero, List.set_cons_succ]
             go_big_quiet_on)
        refine wpQuiet_nil ?_
        intro W2 h2
        have hb := h2.nx.bel
        replace HV := Lib.hid (HV.out.trans (by rw [HP.out, decide_eq_false hle]; rfl : _ = false))
        go_wp2_with fail
        go_ret
        exact ⟨by rw [HV.out]; rfl, hb⟩
      replace HP := Lib.hid (HP.out.trans (by rw [decide_eq_true hle, Bool.true_and]))
      have hdl : decide (u.size < got.size) = false := decide_eq_false (by omega)
      generalize hq : ((u.extract 0 got.size).toList == got.toList) = q at *
      refine region_class (NC g ⟨ph, true, mild, bad, fr, got, run, last, pos, left, cs, cg, box, fifo, flt⟩ ⟨ad, cd, ab, cb, af, cf, al, cl⟩ w) (by kernel_rfl) (by kernel_rfl) X.drew ?_
      repeat first
        | go_big_quiet_skip
        | (go_big_quiet_want
           apply Exists.intro
           refine ⟨fun u hu => ?_, ?_⟩
           · apply quietAt_val
             obtain ⟨c0, c1, c2, c3, c4, c5, c6, c7, c8, c9, c10, c11, c12, c13, c14, c15, c16, c17⟩ := hu.nx.cells
             go_simp
             rfl
           simp only [Act.put, List.setIfInBounds_toArray, List.set_cons_zero, List.set_cons_succ]
           go_big_quiet_on)
      refine wpQuiet_nil ?_
      intro W2 h2
      have hb2 := h2.nx.bel
      clear X hb
      cases q
      · replace HV := Lib.hid (HV.out.trans (by rw [HP.out]; rfl : _ = false))
        go_wp2_with fail
        go_ret
        exact ⟨by rw [HV.out]; rfl, hb2⟩
      replace HV := Lib.hid (HV.out.trans (by rw [HP.out, Bool.true_and] : _ = hasB box fr))
      clear HP hq hdl
      have hbl := hm.box.1
      unfold maxLen at hbl
      dsimp only at hbl
      have X := h2
      clear h2
      obtain ⟨c0, c1, c2, c3, c4, c5, c6, c7, c8, c9, c10, c11, c12, c13, c14, c15, c16, c17⟩ := X.nx.cells
      dsimp only at c0 c1 c2 c3 c4 c5 c6 c7 c8 c9 c10 c11 c12 c13 c14 c15 c16 c17
      go_wp2_with fail
      clear c0 c1 c2 c3 c4 c5 c6 c7 c8 c9 c10 c11 c12 c13 c14 c15 c16 c17 hb2
      go_loopw [5] (fun i wr => ∃ k : Nat, k ≤ box.length ∧ i = .int .i64 k ∧ Hid (∀ j, j < k → rkF (nthF box j) ≠ rkF fr) ∧ NC g ⟨ph, true, mild, bad, fr, got, run, last, pos, left, cs, cg, box, fifo, flt⟩ ⟨ad, cd, ab, cb, af, cf, al, cl⟩ w wr) (fun i _ => box.length - (intOf i).toNat)
      case atStart => exact ⟨0, Nat.zero_le _, rfl, Lib.hid (fun j hj => absurd hj (by omega)), X⟩
      case round =>
        obtain ⟨k, hk, rfl, hn, X1⟩ := hrel
        obtain ⟨c0, c1, c2, c3, c4, c5, c6, c7, c8, c9, c10, c11, c12, c13, c14, c15, c16, c17⟩ := X1.nx.cells
        dsimp only at c0 c1 c2 c3 c4 c5 c6 c7 c8 c9 c10 c11 c12 c13 c14 c15 c16 c17
        by_cases hlt : k < box.length
        · obtain ⟨ge, o, ae, ce, hab, hx⟩ := X1.m.box.2 k hlt
          dsimp only at hab hx
          subst hab
          have hH := Lib.hid (fun h => hasB_hit (L := box) (f := fr) hr hlt h)
          have hN := Lib.hid (fun (h : rkF (nthF box k) ≠ rkF fr) => fun j (hj : j < k + 1) => show rkF (nthF box j) ≠ rkF fr by
            by_cases e : j = k
            · rw [e]; exact h
            · exact hn.out j (by omega))
          generalize nthF box k = x at *
          go_upto_region 12 with fail
          refine region_class (NE g ⟨ph, true, mild, bad, fr, got, run, last, pos, left, cs, cg, box, fifo, flt⟩ ⟨ad, cd, some ⟨ge, o, none⟩, cb, af, cf, al, cl⟩ w ge (o + k * 4) ae ce x) (by kernel_rfl) (by kernel_rfl) (NE.drew ⟨X1, hx⟩) ?_
          repeat first
            | go_big_quiet_skip
            | (go_big_quiet_want
               apply Exists.intro
               refine ⟨fun u hu => ?_, ?_⟩
               · apply quietAt_val
                 obtain ⟨c0, c1, c2, c3, c4, c5, c6, c7, c8, c9, c10, c11, c12, c13, c14, c15, c16, c17⟩ := hu.nc.nx.cells
                 obtain ⟨⟨y0, y1, y2, y3⟩, _⟩ := hu.el
                 go_simp
                 rfl
               simp only [Act.put, List.setIfInBounds_toArray, List.set_cons_zero, List.set_cons_succ]
               go_big_quiet_on)
            | (go_big_quiet_want
               apply Exists.intro
               refine ⟨fun u hu => ?_, ?_⟩
               · apply quietAt_enter 107 #[frV x.id x.rm x.ln ae x.D.length ce]
                 · go_simp
                 · refine (specRankOf _ _ _ ae _ ce u hu.el.2).mono ?_
                   rintro e w2 ⟨rfl, b2⟩
                   exact ⟨rfl, hu.below b2⟩
               simp only [Act.put, List.setIfInBounds_toArray, List.set_cons_zero, List.set_cons_succ]
               go_big_quiet_on)
            | (go_big_quiet_want
               apply Exists.intro
               refine ⟨fun u hu => ?_, ?_⟩
               · apply quietAt_enter 107 #[frV fr.id fr.rm fr.ln ad fr.D.length cd]
                 · go_simp
                 · refine (specRankOf _ _ _ ad _ cd u hu.nc.m.nums).mono ?_
                   rintro e w2 ⟨rfl, b2⟩
                   exact ⟨rfl, hu.below b2⟩
               simp only [Act.put, List.setIfInBounds_toArray, List.set_cons_zero, List.set_cons_succ]
               go_big_quiet_on)
          refine wpQuiet_nil ?_
          intro W2 h2
          clear X1 hx hm X c0 c1 c2 c3 c4 c5 c6 c7 c8 c9 c10 c11 c12 c13 c14 c15 c16 c17
          by_cases he : rkF x = rkF fr
          · have he' : (rankV x.id x.rm x.ln x.D == rankV fr.id fr.rm fr.ln fr.D) = true := beq_iff_eq.2 he
            replace HV := Lib.hid (HV.out.trans (hH.out he))
            clear he hN hH
            go_upto_region 13 with fail
            refine region_class (NE g ⟨ph, true, mild, bad, fr, got, run, last, pos, left, cs, cg, box, fifo, flt⟩ ⟨ad, cd, some ⟨ge, o, none⟩, cb, af, cf, al, cl⟩ w ge (o + k * 4) ae ce x) (by kernel_rfl) (by kernel_rfl) h2.drew ?_
            repeat first
              | go_big_quiet_skip
              | (go_big_quiet_want
                 apply Exists.intro
                 refine ⟨fun u hu => ?_, ?_⟩
                 · apply quietAt_val
                   obtain ⟨c0, c1, c2, c3, c4, c5, c6, c7, c8, c9, c10, c11, c12, c13, c14, c15, c16, c17⟩ := hu.nc.nx.cells
                   obtain ⟨⟨y0, y1, y2, y3⟩, _⟩ := hu.el
                   go_simp
                   rfl
                 simp only [Act.put, List.setIfInBounds_toArray, List.set_cons_zero, List.set_cons_succ]
                 go_big_quiet_on)
              | (go_big_quiet_want
                 apply Exists.intro
                 refine ⟨fun u hu => ?_, ?_⟩
                 · apply quietAt_enter 84 #[frV x.id x.rm x.ln ae x.D.length ce, frV fr.id fr.rm fr.ln ad fr.D.length cd]
                   · go_simp
                   · refine (specSame _ _ _ ae _ ce _ _ _ ad _ cd u hu.el.2 hu.nc.m.nums).mono ?_
                     rintro e w2 ⟨rfl, b2⟩
                     exact ⟨rfl, hu.below b2⟩
                 simp only [Act.put, List.setIfInBounds_toArray, List.set_cons_zero, List.set_cons_succ]
                 go_big_quiet_on)
            refine wpQuiet_nil ?_
            intro W3 h3
            have hb := h3.nc.nx.bel
            go_wp2_with fail
            go_ret
            exact ⟨by rw [HV.out]; rfl, hb⟩
          · have he' : (rankV x.id x.rm x.ln x.D == rankV fr.id fr.rm fr.ln fr.D) = false := beq_eq_false_iff_ne.2 he
            go_wp2_with fail
            go_roundw
            case rel => exact ⟨k + 1, by omega, by go_num, Lib.hid (hN.out he), h2.nc⟩
            case measure => simp [intOf]; omega
        · obtain rfl : k = box.length := by omega
          have hF := hasB_miss hr hn.out
          replace HV := Lib.hid (HV.out.trans hF)
          have hb := X1.nx.bel
          clear hF
          go_wp2_with fail
          go_ret
          exact ⟨by rw [HV.out]; rfl, hb⟩
    · have h5' : (run != 5) = true := by simp [h5]
      replace HV := Lib.hid (HV.out.trans (by rw [decide_eq_true h5]; rfl : _ = false))
      clear h5
      go_wp2_with fail
      go_ret
      exact ⟨by rw [HV.out]; rfl, hb⟩
  · replace HV := Lib.hid (HV.out.trans (by rw [HW.out, show (decide (0 ≤ nv) && decide (nv ≤ got.size)) = false from by rw [Bool.eq_false_iff, ne_eq, Bool.and_eq_true, decide_eq_true_eq, decide_eq_true_eq]; exact hw, Bool.and_false]; rfl : _ = (!tx || (prefB (fullV fr.id fr.rm fr.ln fr.D) got && hasB box fr))))
    by_cases h0 : 0 ≤ nv
    · have h1 : (got.size : Int) < nv := by omega
      clear hw
      cases tx
      · go_wp2_with fail
        go_ret
        exact ⟨by rw [HV.out]; rfl, hb⟩
      replace HV := Lib.hid (HV.out.trans (Bool.false_or _))
      go_wp2_with fail
      refine (specFull _ _ _ _ _ _ _ X.m.nums).mono ?_
      rintro e w1 ⟨rfl, b⟩
      replace X := X.below b
      replace hb := X.nx.bel
      clear b c0 c1 c2 c3 c4 c5 c6 c7 c8 c9 c10 c11 c12 c13 c14 c15 c16 c17
      have hfs' := hfs
      unfold maxLen at hfs'
      have HP := Lib.hid (prefB_bytes (fullV fr.id fr.rm fr.ln fr.D) got)
      generalize fullV fr.id fr.rm fr.ln fr.D = u at *
      go_upto_region 7 with fail
      by_cases hle : got.size ≤ u.size
      case neg =>
        have hdl : decide (u.size < got.size) = true := decide_eq_true (by omega)
        refine region_class (NC g ⟨ph, true, mild, bad, fr, got, run, last, pos, left, cs, cg, box, fifo, flt⟩ ⟨ad, cd, ab, cb, af, cf, al, cl⟩ w) (by kernel_rfl) (by kernel_rfl) X.drew ?_
        repeat first
          | go_big_quiet_skip
          | (go_big_quiet_want
             apply Exists.intro
             refine ⟨fun u hu => ?_, ?_⟩
             · apply quietAt_val
               obtain ⟨c0, c1, c2, c3, c4, c5, c6, c7, c8, c9, c10, c11, c12, c13, c14, c15, c16, c17⟩ := hu.nx.cells
               go_simp
               rfl
             simp only [Act.put, List.setIfInBounds_toArray, List.set_cons_zero, List.set_cons_succ]
             go_big_quiet_on)
        refine wpQuiet_nil ?_
        intro W2 h2
        have hb := h2.nx.bel
        replace HV := Lib.hid (HV.out.trans (by rw [HP.out, decide_eq_false hle]; rfl : _ = false))
        go_wp2_with fail
        go_ret
        exact ⟨by rw [HV.out]; rfl, hb⟩
      replace HP := Lib.hid (HP.out.trans (by rw [decide_eq_true hle, Bool.true_and]))
      have hdl : decide (u.size < got.size) = false := decide_eq_false (by omega)
      generalize hq : ((u.extract 0 got.size).toList == got.toList) = q at *
      refine region_class (NC g ⟨ph, true, mild, bad, fr, got, run, last, pos, left, cs, cg, box, fifo, flt⟩ ⟨ad, cd, ab, cb, af, cf, al, cl⟩ w) (by kernel_rfl) (by kernel_rfl) X.drew ?_
      repeat first
        | go_big_quiet_skip
        | (go_big_quiet_want
           apply Exists.intro
           refine ⟨fun u hu => ?_, ?_⟩
           · apply quietAt_val
             obtain ⟨c0, c1, c2, c3, c4, c5, c6, c7, c8, c9, c10, c11, c12, c13, c14, c15, c16, c17⟩ := hu.nx.cells
             go_simp
             rfl
           simp only [Act.put, List.setIfInBounds_toArray, List.set_cons_zero, List.set_cons_succ]
           go_big_quiet_on)
      refine wpQuiet_nil ?_
      intro W2 h2
      have hb2 := h2.nx.bel
      clear X hb
      cases q
      · replace HV := Lib.hid (HV.out.trans (by rw [HP.out]; rfl : _ = false))
        go_wp2_with fail
        go_ret
        exact ⟨by rw [HV.out]; rfl, hb2⟩
      replace HV := Lib.hid (HV.out.trans (by rw [HP.out, Bool.true_and] : _ = hasB box fr))
      clear HP hq hdl
      have hbl := hm.box.1
      unfold maxLen at hbl
      dsimp only at hbl
      have X := h2
      clear h2
      obtain ⟨c0, c1, c2, c3, c4, c5, c6, c7, c8, c9, c10, c11, c12, c13, c14, c15, c16, c17⟩ := X.nx.cells
      dsimp only at c0 c1 c2 c3 c4 c5 c6 c7 c8 c9 c10 c11 c12 c13 c14 c15 c16 c17
      go_wp2_with fail
      clear c0 c1 c2 c3 c4 c5 c6 c7 c8 c9 c10 c11 c12 c13 c14 c15 c16 c17 hb2
      go_loopw [5] (fun i wr => ∃ k : Nat, k ≤ box.length ∧ i = .int .i64 k ∧ Hid (∀ j, j < k → rkF (nthF box j) ≠ rkF fr) ∧ NC g ⟨ph, true, mild, bad, fr, got, run, last, pos, left, cs, cg, box, fifo, flt⟩ ⟨ad, cd, ab, cb, af, cf, al, cl⟩ w wr) (fun i _ => box.length - (intOf i).toNat)
      case atStart => exact ⟨0, Nat.zero_le _, rfl, Lib.hid (fun j hj => absurd hj (by omega)), X⟩
      case round =>
        obtain ⟨k, hk, rfl, hn, X1⟩ := hrel
        obtain ⟨c0, c1, c2, c3, c4, c5, c6, c7, c8, c9, c10, c11, c12, c13, c14, c15, c16, c17⟩ := X1.nx.cells
        dsimp only at c0 c1 c2 c3 c4 c5 c6 c7 c8 c9 c10 c11 c12 c13 c14 c15 c16 c17
        by_cases hlt : k < box.length
        · obtain ⟨ge, o, ae, ce, hab, hx⟩ := X1.m.box.2 k hlt
          dsimp only at hab hx
          subst hab
          have hH := Lib.hid (fun h => hasB_hit (L := box) (f := fr) hr hlt h)
          have hN := Lib.hid (fun (h : rkF (nthF box k) ≠ rkF fr) => fun j (hj : j < k + 1) => show rkF (nthF box j) ≠ rkF fr by
            by_cases e : j = k
            · rw [e]; exact h
            · exact hn.out j (by omega))
          generalize nthF box k = x at *
          go_upto_region 12 with fail
          refine region_class (NE g ⟨ph, true, mild, bad, fr, got, run, last, pos, left, cs, cg, box, fifo, flt⟩ ⟨ad, cd, some ⟨ge, o, none⟩, cb, af, cf, al, cl⟩ w ge (o + k * 4) ae ce x) (by kernel_rfl) (by kernel_rfl) (NE.drew ⟨X1, hx⟩) ?_
          repeat first
            | go_big_quiet_skip
            | (go_big_quiet_want
               apply Exists.intro
               refine ⟨fun u hu => ?_, ?_⟩
               · apply quietAt_val
                 obtain ⟨c0, c1, c2, c3, c4, c5, c6, c7, c8, c9, c10, c11, c12, c13, c14, c15, c16, c17⟩ := hu.nc.nx.cells
                 obtain ⟨⟨y0, y1, y2, y3⟩, _⟩ := hu.el
                 go_simp
                 rfl
               simp only [Act.put, List.setIfInBounds_toArray, List.set_cons_zero, List.set_cons_succ]
               go_big_quiet_on)
            | (go_big_quiet_want
               apply Exists.intro
               refine ⟨fun u hu => ?_, ?_⟩
               · apply quietAt_enter 107 #[frV x.id x.rm x.ln ae x.D.length ce]
                 · go_simp
                 · refine (specRankOf _ _ _ ae _ ce u hu.el.2).mono ?_
                   rintro e w2 ⟨rfl, b2⟩
                   exact ⟨rfl, hu.below b2⟩
               simp only [Act.put, List.setIfInBounds_toArray, List.set_cons_zero, List.set_cons_succ]
               go_big_quiet_on)
            | (go_big_quiet_want
               apply Exists.intro
               refine ⟨fun u hu => ?_, ?_⟩
               · apply quietAt_enter 107 #[frV fr.id fr.rm fr.ln ad fr.D.length cd]
                 · go_simp
                 · refine (specRankOf _ _ _ ad _ cd u hu.nc.m.nums).mono ?_
                   rintro e w2 ⟨rfl, b2⟩
                   exact ⟨rfl, hu.below b2⟩
               simp only [Act.put, List.setIfInBounds_toArray, List.set_cons_zero, List.set_cons_succ]
               go_big_quiet_on)
          refine wpQuiet_nil ?_
          intro W2 h2
          clear X1 hx hm X c0 c1 c2 c3 c4 c5 c6 c7 c8 c9 c10 c11 c12 c13 c14 c15 c16 c17
          by_cases he : rkF x = rkF fr
          · have he' : (rankV x.id x.rm x.ln x.D == rankV fr.id fr.rm fr.ln fr.D) = true := beq_iff_eq.2 he
            replace HV := Lib.hid (HV.out.trans (hH.out he))
            clear he hN hH
            go_upto_region 13 with fail
            refine region_class (NE g ⟨ph, true, mild, bad, fr, got, run, last, pos, left, cs, cg, box, fifo, flt⟩ ⟨ad, cd, some ⟨ge, o, none⟩, cb, af, cf, al, cl⟩ w ge (o + k * 4) ae ce x) (by kernel_rfl) (by kernel_rfl) h2.drew ?_
            repeat first
              | go_big_quiet_skip
              | (go_big_quiet_want
                 apply Exists.intro
                 refine ⟨fun u hu => ?_, ?_⟩
                 · apply quietAt_val
                   obtain ⟨c0, c1, c2, c3, c4, c5, c6, c7, c8, c9, c10, c11, c12, c13, c14, c15, c16, c17⟩ := hu.nc.nx.cells
                   obtain ⟨⟨y0, y1, y2, y3⟩, _⟩ := hu.el
                   go_simp
                   rfl
                 simp only [Act.put, List.setIfInBounds_toArray, List.set_cons_zero, List.set_cons_succ]
                 go_big_quiet_on)
              | (go_big_quiet_want
                 apply Exists.intro
                 refine ⟨fun u hu => ?_, ?_⟩
                 · apply quietAt_enter 84 #[frV x.id x.rm x.ln ae x.D.length ce, frV fr.id fr.rm fr.ln ad fr.D.length cd]
                   · go_simp
                   · refine (specSame _ _ _ ae _ ce _ _ _ ad _ cd u hu.el.2 hu.nc.m.nums).mono ?_
                     rintro e w2 ⟨rfl, b2⟩
                     exact ⟨rfl, hu.below b2⟩
                 simp only [Act.put, List.setIfInBounds_toArray, List.set_cons_zero, List.set_cons_succ]
                 go_big_quiet_on)
            refine wpQuiet_nil ?_
            intro W3 h3
            have hb := h3.nc.nx.bel
            go_wp2_with fail
            go_ret
            exact ⟨by rw [HV.out]; rfl, hb⟩
          · have he' : (rankV x.id x.rm x.ln x.D == rankV fr.id fr.rm fr.ln fr.D) = false := beq_eq_false_iff_ne.2 he
            go_wp2_with fail
            go_roundw
            case rel => exact ⟨k + 1, by omega, by go_num, Lib.hid (hN.out he), h2.nc⟩
            case measure => simp [intOf]; omega
        · obtain rfl : k = box.length := by omega
          have hF := hasB_miss hr hn.out
          replace HV := Lib.hid (HV.out.trans hF)
          have hb := X1.nx.bel
          clear hF
          go_wp2_with fail
          go_ret
          exact ⟨by rw [HV.out]; rfl, hb⟩
    · clear hw
      cases tx
      · go_wp2_with fail
        go_ret
        exact ⟨by rw [HV.out]; rfl, hb⟩
      replace HV := Lib.hid (HV.out.trans (Bool.false_or _))
      go_wp2_with fail
      refine (specFull _ _ _ _ _ _ _ X.m.nums).mono ?_
      rintro e w1 ⟨rfl, b⟩
      replace X := X.below b
      replace hb := X.nx.bel
      clear b c0 c1 c2 c3 c4 c5 c6 c7 c8 c9 c10 c11 c12 c13 c14 c15 c16 c17
      have hfs' := hfs
      unfold maxLen at hfs'
      have HP := Lib.hid (prefB_bytes (fullV fr.id fr.rm fr.ln fr.D) got)
      generalize fullV fr.id fr.rm fr.ln fr.D = u at *
      go_upto_region 7 with fail
      by_cases hle : got.size ≤ u.size
      case neg =>
        have hdl : decide (u.size < got.size) = true := decide_eq_true (by omega)
        refine region_class (NC g ⟨ph, true, mild, bad, fr, got, run, last, pos, left, cs, cg, box, fifo, flt⟩ ⟨ad, cd, ab, cb, af, cf, al, cl⟩ w) (by kernel_rfl) (by kernel_rfl) X.drew ?_
        repeat first
          | go_big_quiet_skip
          | (go_big_quiet_want
             apply Exists.intro
             refine ⟨fun u hu => ?_, ?_⟩
             · apply quietAt_val
               obtain ⟨c0, c1, c2, c3, c4, c5, c6, c7, c8, c9, c10, c11, c12, c13, c14, c15, c16, c17⟩ := hu.nx.cells
               go_simp
               rfl
             simp only [Act.put, List.setIfInBounds_toArray, List.set_cons_zero, List.set_cons_succ]
             go_big_quiet_on)
        refine wpQuiet_nil ?_
        intro W2 h2
        have hb := h2.nx.bel
        replace HV := Lib.hid (HV.out.trans (by rw [HP.out, decide_eq_false hle]; rfl : _ = false))
        go_wp2_with fail
        go_ret
        exact ⟨by rw [HV.out]; rfl, hb⟩
      replace HP := Lib.hid (HP.out.trans (by rw [decide_eq_true hle, Bool.true_and]))
      have hdl : decide (u.size < got.size) = false := decide_eq_false (by omega)
      generalize hq : ((u.extract 0 got.size).toList == got.toList) = q at *
      refine region_class (NC g ⟨ph, true, mild, bad, fr, got, run, last, pos, left, cs, cg, box, fifo, flt⟩ ⟨ad, cd, ab, cb, af, cf, al, cl⟩ w) (by kernel_rfl) (by kernel_rfl) X.drew ?_
      repeat first
        | go_big_quiet_skip
        | (go_big_quiet_want
           apply Exists.intro
           refine ⟨fun u hu => ?_, ?_⟩
           · apply quietAt_val
             obtain ⟨c0, c1, c2, c3, c4, c5, c6, c7, c8, c9, c10, c11, c12, c13, c14, c15, c16, c17⟩ := hu.nx.cells
             go_simp
             rfl
           simp only [Act.put, List.setIfInBounds_toArray, List.set_cons_zero, List.set_cons_succ]
           go_big_quiet_on)
      refine wpQuiet_nil ?_
      intro W2 h2
      have hb2 := h2.nx.bel
      clear X hb
      cases q
      · replace HV := Lib.hid (HV.out.trans (by rw [HP.out]; rfl : _ = false))
        go_wp2_with fail
        go_ret
        exact ⟨by rw [HV.out]; rfl, hb2⟩
      replace HV := Lib.hid (HV.out.trans (by rw [HP.out, Bool.true_and] : _ = hasB box fr))
      clear HP hq hdl
      have hbl := hm.box.1
      unfold maxLen at hbl
      dsimp only at hbl
      have X := h2
      clear h2
      obtain ⟨c0, c1, c2, c3, c4, c5, c6, c7, c8, c9, c10, c11, c12, c13, c14, c15, c16, c17⟩ := X.nx.cells
      dsimp only at c0 c1 c2 c3 c4 c5 c6 c7 c8 c9 c10 c11 c12 c13 c14 c15 c16 c17
      go_wp2_with fail
      clear c0 c1 c2 c3 c4 c5 c6 c7 c8 c9 c10 c11 c12 c13 c14 c15 c16 c17 hb2
      go_loopw [5] (fun i wr => ∃ k : Nat, k ≤ box.length ∧ i = .int .i64 k ∧ Hid (∀ j, j < k → rkF (nthF box j) ≠ rkF fr) ∧ NC g ⟨ph, true, mild, bad, fr, got, run, last, pos, left, cs, cg, box, fifo, flt⟩ ⟨ad, cd, ab, cb, af, cf, al, cl⟩ w wr) (fun i _ => box.length - (intOf i).toNat)
      case atStart => exact ⟨0, Nat.zero_le _, rfl, Lib.hid (fun j hj => absurd hj (by omega)), X⟩
      case round =>
        obtain ⟨k, hk, rfl, hn, X1⟩ := hrel
        obtain ⟨c0, c1, c2, c3, c4, c5, c6, c7, c8, c9, c10, c11, c12, c13, c14, c15, c16, c17⟩ := X1.nx.cells
        dsimp only at c0 c1 c2 c3 c4 c5 c6 c7 c8 c9 c10 c11 c12 c13 c14 c15 c16 c17
        by_cases hlt : k < box.length
        · obtain ⟨ge, o, ae, ce, hab, hx⟩ := X1.m.box.2 k hlt
          dsimp only at hab hx
          subst hab
          have hH := Lib.hid (fun h => hasB_hit (L := box) (f := fr) hr hlt h)
          have hN := Lib.hid (fun (h : rkF (nthF box k) ≠ rkF fr) => fun j (hj : j < k + 1) => show rkF (nthF box j) ≠ rkF fr by
            by_cases e : j = k
            · rw [e]; exact h
            · exact hn.out j (by omega))
          generalize nthF box k = x at *
          go_upto_region 12 with fail
          refine region_class (NE g ⟨ph, true, mild, bad, fr, got, run, last, pos, left, cs, cg, box, fifo, flt⟩ ⟨ad, cd, some ⟨ge, o, none⟩, cb, af, cf, al, cl⟩ w ge (o + k * 4) ae ce x) (by kernel_rfl) (by kernel_rfl) (NE.drew ⟨X1, hx⟩) ?_
          repeat first
            | go_big_quiet_skip
            | (go_big_quiet_want
               apply Exists.intro
               refine ⟨fun u hu => ?_, ?_⟩
               · apply quietAt_val
                 obtain ⟨c0, c1, c2, c3, c4, c5, c6, c7, c8, c9, c10, c11, c12, c13, c14, c15, c16, c17⟩ := hu.nc.nx.cells
                 obtain ⟨⟨y0, y1, y2, y3⟩, _⟩ := hu.el
                 go_simp
                 rfl
               simp only [Act.put, List.setIfInBounds_toArray, List.set_cons_zero, List.set_cons_succ]
               go_big_quiet_on)
            | (go_big_quiet_want
               apply Exists.intro
               refine ⟨fun u hu => ?_, ?_⟩
               · apply quietAt_enter 107 #[frV x.id x.rm x.ln ae x.D.length ce]
                 · go_simp
                 · refine (specRankOf _ _ _ ae _ ce u hu.el.2).mono ?_
                   rintro e w2 ⟨rfl, b2⟩
                   exact ⟨rfl, hu.below b2⟩
               simp only [Act.put, List.setIfInBounds_toArray, List.set_cons_zero, List.set_cons_succ]
               go_big_quiet_on)
            | (go_big_quiet_want
               apply Exists.intro
               refine ⟨fun u hu => ?_, ?_⟩
               · apply quietAt_enter 107 #[frV fr.id fr.rm fr.ln ad fr.D.length cd]
                 · go_simp
                 · refine (specRankOf _ _ _ ad _ cd u hu.nc.m.nums).mono ?_
                   rintro e w2 ⟨rfl, b2⟩
                   exact ⟨rfl, hu.below b2⟩
               simp only [Act.put, List.setIfInBounds_toArray, List.set_cons_zero, List.set_cons_succ]
               go_big_quiet_on)
          refine wpQuiet_nil ?_
          intro W2 h2
          clear X1 hx hm X c0 c1 c2 c3 c4 c5 c6 c7 c8 c9 c10 c11 c12 c13 c14 c15 c16 c17
          by_cases he : rkF x = rkF fr
          · have he' : (rankV x.id x.rm x.ln x.D == rankV fr.id fr.rm fr.ln fr.D) = true := beq_iff_eq.2 he
            replace HV := Lib.hid (HV.out.trans (hH.out he))
            clear he hN hH
            go_upto_region 13 with fail
            refine region_class (NE g ⟨ph, true, mild, bad, fr, got, run, last, pos, left, cs, cg, box, fifo, flt⟩ ⟨ad, cd, some ⟨ge, o, none⟩, cb, af, cf, al, cl⟩ w ge (o + k * 4) ae ce x) (by kernel_rfl) (by kernel_rfl) h2.drew ?_
            repeat first
              | go_big_quiet_skip
              | (go_big_quiet_want
                 apply Exists.intro
                 refine ⟨fun u hu => ?_, ?_⟩
                 · apply quietAt_val
                   obtain ⟨c0, c1, c2, c3, c4, c5, c6, c7, c8, c9, c10, c11, c12, c13, c14, c15, c16, c17⟩ := hu.nc.nx.cells
                   obtain ⟨⟨y0, y1, y2, y3⟩, _⟩ := hu.el
                   go_simp
                   rfl
                 simp only [Act.put, List.setIfInBounds_toArray, List.set_cons_zero, List.set_cons_succ]
                 go_big_quiet_on)
              | (go_big_quiet_want
                 apply Exists.intro
                 refine ⟨fun u hu => ?_, ?_⟩
                 · apply quietAt_enter 84 #[frV x.id x.rm x.ln ae x.D.length ce, frV fr.id fr.rm fr.ln ad fr.D.length cd]
                   · go_simp
                   · refine (specSame _ _ _ ae _ ce _ _ _ ad _ cd u hu.el.2 hu.nc.m.nums).mono ?_
                     rintro e w2 ⟨rfl, b2⟩
                     exact ⟨rfl, hu.below b2⟩
                 simp only [Act.put, List.setIfInBounds_toArray, List.set_cons_zero, List.set_cons_succ]
                 go_big_quiet_on)
            refine wpQuiet_nil ?_
            intro W3 h3
            have hb := h3.nc.nx.bel
            go_wp2_with fail
            go_ret
            exact ⟨by rw [HV.out]; rfl, hb⟩
          · have he' : (rankV x.id x.rm x.ln x.D == rankV fr.id fr.rm fr.ln fr.D) = false := beq_eq_false_iff_ne.2 he
            go_wp2_with fail
            go_roundw
            case rel => exact ⟨k + 1, by omega, by go_num, Lib.hid (hN.out he), h2.nc⟩
            case measure => simp [intOf]; omega
        · obtain rfl : k = box.length := by omega
          have hF := hasB_miss hr hn.out
          replace HV := Lib.hid (HV.out.trans hF)
          have hb := X1.nx.bel
          clear hF
          go_wp2_with fail
          go_ret
          exact ⟨by rw [HV.out]; rfl, hb⟩
end Go.Proofs.YtngcekegngmedaaGreatDoor

/- Contracts of the model's NodeOk, NextBit and Drives: they tell the same as the program's. -/

set_option linter.unusedVariables false
set_option linter.unusedSimpArgs false
set_option maxRecDepth 20000
namespace Go.Proofs.YtngcekegngmedaaGreatDoor
open Go.RowKit

theorem listB_box2 {n : Nd} (h : boxB n.box = true) : Rise n.box n.box.length := (boxB_iff.1 h).2
set_option maxHeartbeats 8000000 in
/-- spec.NodeOk. -/
theorem specNodeOk (n : Nd) (p : NdP) (w : World) (hm : NdM n p w) :
    Calls Tryz.prog 19 #[ndV n p] w fun e w' => e = .returned (.bool (nodeB n)) ∧ Below w.heap.size w w' := by
  have X := NC.made hm
  have HN : Hid (nodeB n = (numB n && (frOk n.fr.id n.fr.rm n.fr.ln n.fr.D && (listB n && (decide (n.ph ≠ 1) || bodyB n))))) := Lib.hid rfl
  have HM : Hid (numB n = (rng n.ph 0 7 && (rng n.run 0 11 && (rng n.last 0 1 && (rng n.pos 0 9 && (rng n.left 0 128 && cOk n.cs n.cg)))))) := Lib.hid rfl
  have HL : Hid (listB n = (decide (n.got.size ≤ 98) && (okB n.got && (boxB n.box && (fifoB n.fifo && (decide (n.flt.length ≤ 8) && n.flt.all flOk)))))) := Lib.hid rfl
  have hgs := hm.size
  have hgs' := hgs
  have hfl := hm.flt.1
  unfold maxLen at hgs' hfl
  go_enter Tryz.func19, Tryz.ntmps19
  go_upto_region 1 with fail
  generalize w.alloc _ = W at X ⊢
  generalize w.heap.size = g at X
  have hb := X.nx.bel
  obtain ⟨c0, c1, c2, c3, c4, c5, c6, c7, c8, c9, c10, c11, c12, c13, c14, c15, c16, c17⟩ := X.nx.cells
  go_wp2_with fail
  refine (l1In _ _ _ _).mono ?_
  rintro e w' ⟨he, rfl⟩
  rw [show (decide ((0 : Int) ≤ n.ph) && decide (n.ph ≤ 7)) = rng n.ph 0 7 from rfl] at he
  subst he
  generalize rng n.ph 0 7 = b0 at *
  cases b0
  · replace HN := Lib.hid (HN.out.trans (by rw [HM.out]; rfl : _ = false))
    go_wp2_with fail
    go_ret
    exact ⟨by rw [HN.out]; rfl, hb⟩
  go_wp2_with fail
  refine (specOk _ _ hgs).mono ?_
  rintro e w' ⟨rfl, rfl⟩
  generalize okB n.got = l0 at *
  cases l0
  · replace HN := Lib.hid (HN.out.trans (by rw [HL.out]; simp : _ = false))
    go_wp2_with fail
    go_ret
    exact ⟨by rw [HN.out]; rfl, hb⟩
  by_cases h98 : n.got.size ≤ 98
  case neg =>
    replace HN := Lib.hid (HN.out.trans (by rw [HL.out, decide_eq_false h98]; simp : _ = false))
    go_wp2_with fail
    go_ret
    exact ⟨by rw [HN.out]; rfl, hb⟩
  replace HL := Lib.hid (HL.out.trans (by rw [decide_eq_true h98, Bool.true_and, Bool.true_and] : _ = (boxB n.box && (fifoB n.fifo && (decide (n.flt.length ≤ 8) && n.flt.all flOk)))))
  go_wp2_with fail
  refine (l1In _ _ _ _).mono ?_
  rintro e w' ⟨he, rfl⟩
  rw [show (decide ((0 : Int) ≤ n.run) && decide (n.run ≤ 11)) = rng n.run 0 11 from rfl] at he
  subst he
  generalize rng n.run 0 11 = b1 at *
  cases b1
  · replace HN := Lib.hid (HN.out.trans (by rw [HM.out]; simp : _ = false))
    go_wp2_with fail
    go_ret
    exact ⟨by rw [HN.out]; rfl, hb⟩
  go_wp2_with fail
  refine (l1In _ _ _ _).mono ?_
  rintro e w' ⟨he, rfl⟩
  rw [show (decide ((0 : Int) ≤ n.last) && decide (n.last ≤ 1)) = rng n.last 0 1 from rfl] at he
  subst he
  generalize rng n.last 0 1 = b2 at *
  cases b2
  · replace HN := Lib.hid (HN.out.trans (by rw [HM.out]; simp : _ = false))
    go_wp2_with fail
    go_ret
    exact ⟨by rw [HN.out]; rfl, hb⟩
  go_wp2_with fail
  refine (l1In _ _ _ _).mono ?_
  rintro e w' ⟨he, rfl⟩
  rw [show (decide ((0 : Int) ≤ n.pos) && decide (n.pos ≤ 9)) = rng n.pos 0 9 from rfl] at he
  subst he
  generalize rng n.pos 0 9 = b3 at *
  cases b3
  · replace HN := Lib.hid (HN.out.trans (by rw [HM.out]; simp : _ = false))
    go_wp2_with fail
    go_ret
    exact ⟨by rw [HN.out]; rfl, hb⟩
  go_wp2_with fail
  refine (l1In _ _ _ _).mono ?_
  rintro e w' ⟨he, rfl⟩
  rw [show (decide ((0 : Int) ≤ n.left) && decide (n.left ≤ 128)) = rng n.left 0 128 from rfl] at he
  subst he
  generalize rng n.left 0 128 = b4 at *
  cases b4
  · replace HN := Lib.hid (HN.out.trans (by rw [HM.out]; simp : _ = false))
    go_wp2_with fail
    go_ret
    exact ⟨by rw [HN.out]; rfl, hb⟩
  replace HM := Lib.hid (HM.out.trans (by simp only [Bool.true_and] : _ = cOk n.cs n.cg))
  go_wp2_with fail
  refine (specFrameOk _ _ _ _ _ _ _ X.m.nums).mono ?_
  rintro e w' ⟨rfl, b⟩
  replace X := X.below b
  replace hb := X.nx.bel
  clear b c0 c1 c2 c3 c4 c5 c6 c7 c8 c9 c10 c11 c12 c13 c14 c15 c16 c17
  obtain ⟨c0, c1, c2, c3, c4, c5, c6, c7, c8, c9, c10, c11, c12, c13, c14, c15, c16, c17⟩ := X.nx.cells
  generalize frOk n.fr.id n.fr.rm n.fr.ln n.fr.D = f0 at *
  cases f0
  · replace HN := Lib.hid (HN.out.trans (by simp : _ = false))
    go_wp2_with fail
    go_ret
    exact ⟨by rw [HN.out]; rfl, hb⟩
  go_wp2_with fail
  refine (specCountOkB _ _ _).mono ?_
  rintro e w' ⟨rfl, b⟩
  replace X := X.below b
  replace hb := X.nx.bel
  clear b c0 c1 c2 c3 c4 c5 c6 c7 c8 c9 c10 c11 c12 c13 c14 c15 c16 c17
  obtain ⟨c0, c1, c2, c3, c4, c5, c6, c7, c8, c9, c10, c11, c12, c13, c14, c15, c16, c17⟩ := X.nx.cells
  generalize cOk n.cs n.cg = k0 at *
  cases k0
  · replace HN := Lib.hid (HN.out.trans (by rw [HM.out]; rfl : _ = false))
    go_wp2_with fail
    go_ret
    exact ⟨by rw [HN.out]; rfl, hb⟩
  replace HN := Lib.hid (HN.out.trans (by rw [HM.out]; simp only [Bool.true_and] : _ = (listB n && (decide (n.ph ≠ 1) || bodyB n))))
  have hbx := fun h => listB_box2 (n := n) h
  replace hbx := Lib.hid hbx
  go_wp2_with fail
  refine (specBoxOk _ _ _ _ X.m.box).mono ?_
  rintro e w' ⟨rfl, b⟩
  replace X := X.below b
  replace hb := X.nx.bel
  clear b c0 c1 c2 c3 c4 c5 c6 c7 c8 c9 c10 c11 c12 c13 c14 c15 c16 c17
  obtain ⟨c0, c1, c2, c3, c4, c5, c6, c7, c8, c9, c10, c11, c12, c13, c14, c15, c16, c17⟩ := X.nx.cells
  generalize boxB n.box = x0 at *
  cases x0
  · replace HN := Lib.hid (HN.out.trans (by rw [HL.out]; rfl : _ = false))
    go_wp2_with fail
    go_ret
    exact ⟨by rw [HN.out]; rfl, hb⟩
  go_wp2_with fail
  refine (specFifoOk _ _ _ _ X.m.fifo).mono ?_
  rintro e w' ⟨rfl, b⟩
  replace X := X.below b
  replace hb := X.nx.bel
  clear b c0 c1 c2 c3 c4 c5 c6 c7 c8 c9 c10 c11 c12 c13 c14 c15 c16 c17
  obtain ⟨c0, c1, c2, c3, c4, c5, c6, c7, c8, c9, c10, c11, c12, c13, c14, c15, c16, c17⟩ := X.nx.cells
  generalize fifoB n.fifo = x1 at *
  cases x1
  · replace HN := Lib.hid (HN.out.trans (by rw [HL.out]; rfl : _ = false))
    go_wp2_with fail
    go_ret
    exact ⟨by rw [HN.out]; rfl, hb⟩
  go_wp2_with fail
  refine (specFilters _ _ _ _ X.m.flt).mono ?_
  rintro e w' ⟨rfl, rfl⟩
  generalize n.flt.all flOk = x2 at *
  cases x2
  · replace HN := Lib.hid (HN.out.trans (by rw [HL.out]; simp : _ = false))
    go_wp2_with fail
    go_ret
    exact ⟨by rw [HN.out]; rfl, hb⟩
  by_cases h8 : n.flt.length ≤ 8
  case neg =>
    replace HN := Lib.hid (HN.out.trans (by rw [HL.out, decide_eq_false h8]; rfl : _ = false))
    go_wp2_with fail
    go_ret
    exact ⟨by rw [HN.out]; rfl, hb⟩
  replace HN := Lib.hid (HN.out.trans (by rw [HL.out, decide_eq_true h8]; rfl : _ = (decide (n.ph ≠ 1) || bodyB n)))
  cases h1 : decide (n.ph ≠ 1)
  · have h1' : (n.ph != 1) = false := by simpa using h1
    rw [h1] at HN
    clear h1
    go_wp2_with (refine X.nx.take rfl rfl rfl ?_)
    refine (specBodyIs n p _ X.m (hbx.out trivial)).mono ?_
    rintro e w4 ⟨rfl, b⟩
    replace hb := Below.then2 hb b
    generalize bodyB n = b9 at *
    go_wp2_with fail
    go_ret
    exact ⟨by rw [HN.out]; rfl, hb⟩
  · have h1' : (n.ph != 1) = true := by simpa using h1
    rw [h1] at HN
    clear h1
    go_wp2_with fail
    go_ret
    exact ⟨by rw [HN.out]; rfl, hb⟩
def nextP (n : Nd) : Int := if n.ph = 1 then nextV n else 1
set_option maxHeartbeats 4000000 in
/-- spec.l11Next. -/
theorem specNext (n : Nd) (p : NdP) (w : World) (hm : NdM n p w) (hok : nodeB n = true) :
    Calls Tryz.prog 102 #[ndV n p] w fun e w' => e = .returned (.int .i64 (nextP n)) ∧ Below w.heap.size w w' := by
  have X := NC.made hm
  obtain ⟨-, -, ⟨hl0, hl1⟩, hfr, h98⟩ := nodeB_parts hok
  have hfl : (fullF n.fr).size ≤ 98 := full_len _ _ _ _
  have HB := Lib.hid (fun (k : Nat) (h : k < (fullF n.fr).size) => full_bit hfr h)
  have HK := Lib.hid (full_ok (show frOk n.fr.id n.fr.rm n.fr.ln n.fr.D = true from hfr))
  have hff : Hid (fullF n.fr = fullV n.fr.id n.fr.rm n.fr.ln n.fr.D) := Lib.hid rfl
  have HP : Hid (nextP n = if n.ph = 1 then nextV n else 1) := Lib.hid rfl
  have HV : Hid (nextV n = if n.run = 5 then 1 - n.last else if (fullF n.fr).size ≤ n.got.size then 1 else ((byteAt (fullF n.fr) n.got.size).toNat : Int) - 48) := Lib.hid rfl
  clear hok hfr
  go_enter Tryz.func102, Tryz.ntmps102
  go_upto_region 1 with fail
  generalize w.alloc _ = W at X ⊢
  generalize w.heap.size = g at X
  have hb := X.nx.bel
  obtain ⟨c0, c1, c2, c3, c4, c5, c6, c7, c8, c9, c10, c11, c12, c13, c14, c15, c16, c17⟩ := X.nx.cells
  by_cases h1 : n.ph = 1
  case neg =>
    have h1' : (n.ph != 1) = true := bne_iff_ne.2 h1
    replace HP := Lib.hid (HP.out.trans (if_neg h1))
    go_wp2_with fail
    go_ret
    exact ⟨by rw [HP.out]; rfl, hb⟩
  have h1' : (n.ph != 1) = false := by simp [h1]
  replace HP := Lib.hid (HP.out.trans (if_pos h1))
  clear h1
  by_cases h5 : n.run = 5
  · replace HV := Lib.hid (HV.out.trans (if_pos h5))
    have h5' : (n.run == 5) = true := beq_iff_eq.2 h5
    go_wp2_with fail
    go_ret
    exact ⟨by rw [HP.out, HV.out]; rfl, hb⟩
  replace HV := Lib.hid (HV.out.trans (if_neg h5))
  have h5' : (n.run == 5) = false := beq_eq_false_iff_ne.2 h5
  clear h5
  go_wp2_with fail
  refine (specFull _ _ _ _ _ _ _ X.m.nums).mono ?_
  rintro e w1 ⟨he, b⟩
  rw [← hff.out] at he
  rw [← hff.out] at HK
  subst he
  replace X := X.below b
  replace hb := X.nx.bel
  clear b hff c0 c1 c2 c3 c4 c5 c6 c7 c8 c9 c10 c11 c12 c13 c14 c15 c16 c17
  obtain ⟨c0, c1, c2, c3, c4, c5, c6, c7, c8, c9, c10, c11, c12, c13, c14, c15, c16, c17⟩ := X.nx.cells
  generalize fullF n.fr = u at *
  by_cases hlt : n.got.size < u.size
  · replace HV := Lib.hid (HV.out.trans (if_neg (by omega)))
    go_wp2_with fail
    refine (specBit u n.got.size _ hlt (by unfold maxLen; omega) (okB_bit HK.out _ hlt)).mono ?_
    rintro e w2 ⟨he, rfl⟩
    rw [byteAt_eq hlt] at he
    rw [← HV.out] at he
    subst he
    generalize nextV n = v at *
    go_wp2_with fail
    go_ret
    exact ⟨by rw [HP.out]; rfl, hb⟩
  · replace HV := Lib.hid (HV.out.trans (if_pos (by omega)))
    clear HB HK
    go_wp2_with fail
    go_ret
    exact ⟨by rw [HP.out, HV.out]; rfl, hb⟩
end Go.Proofs.YtngcekegngmedaaGreatDoor

/- Contracts of the model's Drives. -/

set_option linter.unusedVariables false
set_option linter.unusedSimpArgs false
set_option maxRecDepth 20000
namespace Go.Proofs.YtngcekegngmedaaGreatDoor
open Go.RowKit

def drvP (n : Nd) : Int := if downB n = true then 0 else 1
theorem drvP_0 {n : Nd} (h : n.ph = 0) : drvP n = if 0 < n.box.length then 0 else 1 := by simp [drvP, downB, h]
theorem drvP_1 {n : Nd} (h : n.ph = 1) (hok : nodeB n = true) : drvP n = if n.tx = true then nextP n else 1 := by
  have hb := nextV_bd hok
  simp only [drvP, downB, nextP, h]
  cases n.tx
  · simp
  · rcases hb with e | e <;> rw [e] <;> simp
theorem drvP_2 {n : Nd} (h : n.ph = 2) : drvP n = if n.pos = 1 ∧ n.tx = false ∧ n.bad = false then 0 else 1 := by simp [drvP, downB, h]
theorem drvP_3 {n : Nd} (h : n.ph = 3) : drvP n = if n.mild = false then 0 else 1 := by simp [drvP, downB, h]
theorem drvP_4 {n : Nd} (h : 4 ≤ n.ph) : drvP n = 1 := by
  have hd : downB n = false := by
    unfold downB
    rw [if_neg (show ¬ n.ph = 0 by omega), if_neg (show ¬ n.ph = 1 by omega), if_neg (show ¬ n.ph = 2 by omega), if_neg (show ¬ n.ph = 3 by omega)]
  unfold drvP
  rw [hd]
  rfl
set_option maxHeartbeats 8000000 in
/-- spec.l11Drives. -/
theorem specDrv (n : Nd) (p : NdP) (w : World) (hm : NdM n p w) (hok : nodeB n = true) :
    Calls Tryz.prog 75 #[ndV n p] w fun e w' => e = .returned (.int .i64 (drvP n)) ∧ Below w.heap.size w w' := by
  have X := NC.made hm
  have hph := (nodeB_parts hok).1
  have hbx := hm.box.1
  unfold maxLen at hbx
  have h8 : n.ph = 0 ∨ n.ph = 1 ∨ n.ph = 2 ∨ n.ph = 3 ∨ n.ph = 4 ∨ n.ph = 5 ∨ n.ph = 6 ∨ n.ph = 7 := by omega
  clear hph
  go_enter Tryz.func75, Tryz.ntmps75
  go_upto_region 1 with fail
  generalize w.alloc _ = W at X ⊢
  generalize w.heap.size = g at X
  have hb := X.nx.bel
  obtain ⟨c0, c1, c2, c3, c4, c5, c6, c7, c8, c9, c10, c11, c12, c13, c14, c15, c16, c17⟩ := X.nx.cells
  replace hok := Lib.hid hok
  rcases h8 with hp | hp | hp | hp | hp | hp | hp | hp
  · have HV := Lib.hid (drvP_0 hp)
    rw [hp] at c0
    clear hp
    by_cases h : 0 < n.box.length
    · replace HV := Lib.hid (HV.out.trans (if_pos h))
      go_wp2_with fail
      go_ret
      exact ⟨by rw [HV.out]; rfl, hb⟩
    · replace HV := Lib.hid (HV.out.trans (if_neg h))
      go_wp2_with fail
      go_ret
      exact ⟨by rw [HV.out]; rfl, hb⟩
  · have HV := Lib.hid (drvP_1 hp hok.out)
    rw [hp] at c0
    clear hp
    cases ht : n.tx
    · rw [ht] at c1 HV
      clear ht
      go_wp2_with fail
      go_ret
      exact ⟨by rw [HV.out]; rfl, hb⟩
    · rw [ht] at c1 HV
      clear ht
      replace HV := Lib.hid (HV.out.trans (if_pos rfl))
      go_wp2_with (refine X.nx.take rfl rfl rfl ?_)
      refine (specNext n p _ X.m hok.out).mono ?_
      rintro e w2 ⟨rfl, b⟩
      replace hb := Below.then2 hb b
      generalize nextP n = v at *
      go_wp2_with fail
      go_ret
      exact ⟨by rw [HV.out]; rfl, hb⟩
  · have HV := Lib.hid (drvP_2 hp)
    rw [hp] at c0
    clear hp
    by_cases h : n.pos = 1
    · have h' : (n.pos == 1) = true := beq_iff_eq.2 h
      cases ht : n.tx
      · rw [ht] at c1 HV
        clear ht
        cases hd : n.bad
        · rw [hd] at c3 HV
          clear hd
          replace HV := Lib.hid (HV.out.trans (if_pos ⟨h, rfl, rfl⟩))
          clear h
          go_wp2_with fail
          go_ret
          exact ⟨by rw [HV.out]; rfl, hb⟩
        · rw [hd] at c3 HV
          clear hd
          replace HV := Lib.hid (HV.out.trans (if_neg (fun k => by cases k.2.2)))
          clear h
          go_wp2_with fail
          go_ret
          exact ⟨by rw [HV.out]; rfl, hb⟩
      · rw [ht] at c1 HV
        clear ht
        replace HV := Lib.hid (HV.out.trans (if_neg (fun k => by cases k.2.1)))
        clear h
        go_wp2_with fail
        go_ret
        exact ⟨by rw [HV.out]; rfl, hb⟩
    · have h' : (n.pos == 1) = false := beq_eq_false_iff_ne.2 h
      replace HV := Lib.hid (HV.out.trans (if_neg (fun k => h k.1)))
      clear h
      go_wp2_with fail
      go_ret
      exact ⟨by rw [HV.out]; rfl, hb⟩
  · have HV := Lib.hid (drvP_3 hp)
    rw [hp] at c0
    clear hp
    cases ht : n.mild
    · rw [ht] at c2 HV
      clear ht
      replace HV := Lib.hid (HV.out.trans (if_pos rfl))
      go_wp2_with fail
      go_ret
      exact ⟨by rw [HV.out]; rfl, hb⟩
    · rw [ht] at c2 HV
      clear ht
      replace HV := Lib.hid (HV.out.trans (if_neg (fun k => by cases k)))
      go_wp2_with fail
      go_ret
      exact ⟨by rw [HV.out]; rfl, hb⟩
  · have HV := Lib.hid (drvP_4 (n := n) (by omega))
    rw [hp] at c0
    clear hp
    go_wp2_with fail
    go_ret
    exact ⟨by rw [HV.out]; rfl, hb⟩
  · have HV := Lib.hid (drvP_4 (n := n) (by omega))
    rw [hp] at c0
    clear hp
    go_wp2_with fail
    go_ret
    exact ⟨by rw [HV.out]; rfl, hb⟩
  · have HV := Lib.hid (drvP_4 (n := n) (by omega))
    rw [hp] at c0
    clear hp
    go_wp2_with fail
    go_ret
    exact ⟨by rw [HV.out]; rfl, hb⟩
  · have HV := Lib.hid (drvP_4 (n := n) (by omega))
    rw [hp] at c0
    clear hp
    go_wp2_with fail
    go_ret
    exact ⟨by rw [HV.out]; rfl, hb⟩
end Go.Proofs.YtngcekegngmedaaGreatDoor
