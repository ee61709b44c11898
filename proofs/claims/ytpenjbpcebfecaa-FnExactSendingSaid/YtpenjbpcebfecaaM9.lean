/- A node as the machine's value, the block that holds one, and what a right one is (plain). -/
import Derived.Test.YtpenjbpcebfecaaM3
import Derived.Test.YtpenjbpcebfecaaM4
import Derived.Test.YtpenjbpcebfecaaM6
import Derived.Test.YtpenjbpcebfecaaM8
import Derived.Test.YtpenjbpcebfecaaM0
import Derived.BigFrame

set_option linter.unusedVariables false
set_option linter.unusedSimpArgs false
set_option maxRecDepth 20000
namespace Go.Proofs.Ytpenjbpcebfecaa
open Go.RowKit

/-- A node, as the document has it. -/
structure Nd where
  ph : Int
  tx : Bool
  mild : Bool
  bad : Bool
  fr : Frm
  got : ByteArray
  run : Int
  last : Int
  pos : Int
  left : Int
  cs : Int
  cg : Int
  box : List Frm
  fifo : List Frm
  flt : List (Int × Int)
/-- Where its slices lie, and their room. -/
structure NdP where
  ad : Option Addr
  cd : Nat
  ab : Option Addr
  cb : Nat
  af : Option Addr
  cf : Nat
  al : Option Addr
  cl : Nat
abbrev ndC (n : Nd) (p : NdP) : Array Value := #[.int .i64 n.ph, .bool n.tx, .bool n.mild, .bool n.bad, .int .i64 n.fr.id, .bool n.fr.rm, .int .i64 n.fr.ln, .slice p.ad n.fr.D.length p.cd, .string n.got, .int .i64 n.run, .int .i64 n.last, .int .i64 n.pos, .int .i64 n.left, .int .i64 n.cs, .int .i64 n.cg, .slice p.ab n.box.length p.cb, .slice p.af n.fifo.length p.cf, .slice p.al n.flt.length p.cl]
abbrev ndV (n : Nd) (p : NdP) : Value := .agg #[.int .i64 n.ph, .bool n.tx, .bool n.mild, .bool n.bad, .int .i64 n.fr.id, .bool n.fr.rm, .int .i64 n.fr.ln, .slice p.ad n.fr.D.length p.cd, .string n.got, .int .i64 n.run, .int .i64 n.last, .int .i64 n.pos, .int .i64 n.left, .int .i64 n.cs, .int .i64 n.cg, .slice p.ab n.box.length p.cb, .slice p.af n.fifo.length p.cf, .slice p.al n.flt.length p.cl]

/-- What its slices hold in a world. -/
structure NdM (n : Nd) (p : NdP) (w : World) : Prop where
  nums : Nums p.ad n.fr.D w
  box : Frs p.ab n.box w
  fifo : Frs p.af n.fifo w
  flt : Fls p.al n.flt w
  size : n.got.size ≤ maxLen
section
variable {n : Nd} {p : NdP} {w w' w0 : World} {g : Nat}
theorem NdM.below (h : NdM n p w) (b : Below w.heap.size w w') : NdM n p w' := ⟨h.nums.below b, h.box.below b, h.fifo.below b, h.flt.below b, h.size⟩
theorem NdM.alloc (h : NdM n p w) (o : Obj) : NdM n p (w.alloc o) := h.below ((Below.refl _ _).alloc (Nat.le_refl _) _)
theorem NdM.drew (h : NdM n p w) : NdM n p w.drew := ⟨h.nums.drew, h.box.drew, h.fifo.drew, h.flt.drew, h.size⟩

/-- A block that holds a node; what was there when the call began still is. -/
structure Nx (g : Nat) (n : Nd) (p : NdP) (w0 w : World) : Prop where
  blk : w.heap[g]? = some (.cells (ndC n p) 38 (0, 0))
  bel : Below w0.heap.size w0 w
theorem Nx.lt (h : Nx g n p w0 w) : g < w.heap.size := (Array.getElem?_eq_some_iff.1 h.blk).1
theorem Nx.below (h : Nx g n p w0 w) (b : Below w.heap.size w w') : Nx g n p w0 w' := ⟨(b.block g h.lt).trans h.blk, Below.then2 h.bel b⟩
theorem Nx.alloc (h : Nx g n p w0 w) (o : Obj) : Nx g n p w0 (w.alloc o) := h.below ((Below.refl _ _).alloc (Nat.le_refl _) _)
theorem Nx.drew (h : Nx g n p w0 w) : Nx g n p w0 w.drew := ⟨h.blk, h.bel.drew⟩
theorem Nx.made (n : Nd) (p : NdP) (b : Below w0.heap.size w0 w) : Nx w.heap.size n p w0 (w.alloc (.cells (ndC n p) 38)) := ⟨heap_alloc_new w _, b.alloc b.size _⟩
theorem Nx.cells (h : Nx g n p w0 w) : w.cell? ⟨g, 0, none⟩ = some (.int .i64 n.ph) ∧ w.cell? ⟨g, 1, none⟩ = some (.bool n.tx) ∧ w.cell? ⟨g, 2, none⟩ = some (.bool n.mild) ∧ w.cell? ⟨g, 3, none⟩ = some (.bool n.bad)
    ∧ w.cell? ⟨g, 4, none⟩ = some (.int .i64 n.fr.id) ∧ w.cell? ⟨g, 5, none⟩ = some (.bool n.fr.rm) ∧ w.cell? ⟨g, 6, none⟩ = some (.int .i64 n.fr.ln) ∧ w.cell? ⟨g, 7, none⟩ = some (.slice p.ad n.fr.D.length p.cd)
    ∧ w.cell? ⟨g, 8, none⟩ = some (.string n.got) ∧ w.cell? ⟨g, 9, none⟩ = some (.int .i64 n.run) ∧ w.cell? ⟨g, 10, none⟩ = some (.int .i64 n.last) ∧ w.cell? ⟨g, 11, none⟩ = some (.int .i64 n.pos) ∧ w.cell? ⟨g, 12, none⟩ = some (.int .i64 n.left)
    ∧ w.cell? ⟨g, 13, none⟩ = some (.int .i64 n.cs) ∧ w.cell? ⟨g, 14, none⟩ = some (.int .i64 n.cg) ∧ w.cell? ⟨g, 15, none⟩ = some (.slice p.ab n.box.length p.cb) ∧ w.cell? ⟨g, 16, none⟩ = some (.slice p.af n.fifo.length p.cf) ∧ w.cell? ⟨g, 17, none⟩ = some (.slice p.al n.flt.length p.cl) := by
  refine ⟨?_, ?_, ?_, ?_, ?_, ?_, ?_, ?_, ?_, ?_, ?_, ?_, ?_, ?_, ?_, ?_, ?_, ?_⟩ <;> exact cell_of_row w g _ _ _ _ h.blk
/-- The whole node read out of its block, in one step (cell by cell it takes two minutes): offered to the walk as 'go_wp2_with (refine X.nx.take rfl rfl rfl ?_)'. -/
theorem Nx.take (h : Nx g n p w0 w) {ops : Array Oper} {rest : List Oper} {o : Oper} {a : Act} {Q : Exit → Act → World → Prop} {x : Operand} (ho : o.op = .load 38 x) (hx : a.eval x = .pointer (some ⟨g, 0, none⟩))
    (hw : Region.wanted o (yielded ops a.tmps) = true) (k : wpList Try.prog ops Q rest (a.put o.dst (ndV n p)) w) : wpList Try.prog ops Q (o :: rest) a w :=
  BigFrame.wpList_want hw fun _ hK => wp_load_row 38 x ho g hx 38 (ndC n p) (0, 0) _ h.blk Try.underlying38 rfl (by kernel_rfl) (hK _ _ k)
/-- The same where the region draws. -/
theorem Nx.took (h : Nx g n p w0 w) {o : Oper} {a : Act} {x : Operand} (ho : o.op = .load 38 x) (hx : a.eval x = .pointer (some ⟨g, 0, none⟩)) : (execOp a.eval o).run Try.prog w = .ok (.value (ndV n p)) w := by
  unfold execOp
  simp only [ho, hx, Instr.loadAt, Instr.sureAddr, Sem.run_bind, Sem.run_pure, Result.andThen_ok, run_loadVar_row w g 38 38 (ndC n p) (0, 0) _ h.blk Try.underlying38 rfl (by kernel_rfl)]
/-- What a region of a node's function reads: the node's block, and what its slices hold. -/
structure NC (g : Nat) (n : Nd) (p : NdP) (w0 u : World) : Prop where
  nx : Nx g n p w0 u
  m : NdM n p u
theorem NC.below {u u' : World} (h : NC g n p w0 u) (b : Below u.heap.size u u') : NC g n p w0 u' := ⟨h.nx.below b, h.m.below b⟩
theorem NC.drew {u : World} (h : NC g n p w0 u) : NC g n p w0 u.drew := ⟨h.nx.drew, h.m.drew⟩
theorem NC.made (hm : NdM n p w) : NC w.heap.size n p w (w.alloc (.cells (ndC n p) 38)) := ⟨Nx.made n p (Below.refl _ _), hm.alloc _⟩
/-- The same, and one element of its box. -/
structure NE (g : Nat) (n : Nd) (p : NdP) (w0 : World) (ge o : Nat) (ae : Option Addr) (ce : Nat) (x : Frm) (u : World) : Prop where
  nc : NC g n p w0 u
  el : FrC ge o ae ce x u
theorem NE.below {ge o : Nat} {ae : Option Addr} {ce : Nat} {x : Frm} {u u' : World} (h : NE g n p w0 ge o ae ce x u) (b : Below u.heap.size u u') : NE g n p w0 ge o ae ce x u' := ⟨h.nc.below b, h.el.below b⟩
theorem NE.drew {ge o : Nat} {ae : Option Addr} {ce : Nat} {x : Frm} {u : World} (h : NE g n p w0 ge o ae ce x u) : NE g n p w0 ge o ae ce x u.drew := ⟨h.nc.drew, h.el.drew⟩
end

/-! ### What a right node is. -/
def rng (x lo hi : Int) : Bool := decide (lo ≤ x) && decide (x ≤ hi)
theorem rng_iff {x lo hi : Int} : rng x lo hi = true ↔ lo ≤ x ∧ x ≤ hi := by simp [rng]
theorem rng_not {x lo hi : Int} : rng x lo hi = false ↔ ¬ (lo ≤ x ∧ x ≤ hi) := by rw [← rng_iff, Bool.not_eq_true]
def frB (f : Frm) : Bool := frOk f.id f.rm f.ln f.D
def numB (n : Nd) : Bool := rng n.ph 0 7 && (rng n.run 0 11 && (rng n.last 0 1 && (rng n.pos 0 9 && (rng n.left 0 128 && cOk n.cs n.cg))))
def fifoB (L : List Frm) : Bool := decide (L.length ≤ 32) && L.all frB
def listB (n : Nd) : Bool := decide (n.got.size ≤ 98) && (okB n.got && (boxB n.box && (fifoB n.fifo && (decide (n.flt.length ≤ 8) && n.flt.all flOk))))
def wholeB (s : ByteArray) : Bool := decide (0 ≤ needV s) && decide (needV s ≤ s.size)
def prefB (s t : ByteArray) : Bool := decide (t.size ≤ s.size) && decide (s.extract 0 t.size = t)
def fullF (f : Frm) : ByteArray := fullV f.id f.rm f.ln f.D
def sameF (f g : Frm) : Bool := sameFr f.id f.rm f.ln f.D g.id g.rm g.ln g.D
def hasB (L : List Frm) (f : Frm) : Bool := metB L (rkF f) (posN L (rkF f) L.length) && sameF (nthF L (posN L (rkF f) L.length)) f
/-- What is wanted while a frame is on the wire. -/
def bodyB (n : Nd) : Bool := !(decide (n.got.size = 0) || (!(rng n.run 1 5) || (decide (n.run ≠ 5) && wholeB n.got))) && (!n.tx || (prefB (fullF n.fr) n.got && hasB n.box n.fr))
def nodeB (n : Nd) : Bool := numB n && (frB n.fr && (listB n && (decide (n.ph ≠ 1) || bodyB n)))

/-- The next bit of a right node that is in PhBody; what it drives. -/
def nextV (n : Nd) : Int := if n.run = 5 then 1 - n.last else if (fullF n.fr).size ≤ n.got.size then 1 else ((byteAt (fullF n.fr) n.got.size).toNat : Int) - 48
def nextN (n : Nd) : Int := if n.ph = 1 ∧ nodeB n = true then nextV n else 1
def downB (n : Nd) : Bool :=
  if n.ph = 0 then decide (0 < n.box.length) else if n.ph = 1 then n.tx && decide (nextV n = 0) else if n.ph = 2 then decide (n.pos = 1) && (!n.tx && !n.bad) else if n.ph = 3 then !n.mild else false
def driveN (n : Nd) : Int := if (nodeB n && downB n) = true then 0 else 1
theorem nodeB_parts {n : Nd} (h : nodeB n = true) : (0 ≤ n.ph ∧ n.ph ≤ 7) ∧ (0 ≤ n.run ∧ n.run ≤ 11) ∧ (0 ≤ n.last ∧ n.last ≤ 1) ∧ frB n.fr = true ∧ n.got.size ≤ 98 := by
  simp only [nodeB, numB, listB, Bool.and_eq_true, rng_iff, decide_eq_true_eq] at h
  exact ⟨h.1.1, h.1.2.1, h.1.2.2.1, h.2.1, h.2.2.1.1⟩
theorem bit01 {c : UInt8} (h : bit c = true) : c.toNat = 48 ∨ c.toNat = 49 := bit_cases h
theorem full_bit {f : Frm} (h : frB f = true) {k : Nat} (hk : k < (fullF f).size) : byteAt (fullF f) k = 48 ∨ byteAt (fullF f) k = 49 := by
  have hb := okB_bit (full_ok (show frOk f.id f.rm f.ln f.D = true from h)) k hk
  have e : (fullF f)[k]'hk = byteAt (fullF f) k := byteAt_eq hk
  have hb' : bit (byteAt (fullF f) k) = true := by rw [← e]; exact hb
  rcases bit_cases hb' with h1 | h1
  · exact .inl (UInt8.toNat_inj.1 h1)
  · exact .inr (UInt8.toNat_inj.1 h1)
theorem nextV_bd {n : Nd} (h : nodeB n = true) : nextV n = 0 ∨ nextV n = 1 := by
  obtain ⟨-, -, hl, hf, -⟩ := nodeB_parts h
  unfold nextV
  split
  · omega
  split
  · exact .inr rfl
  · rcases full_bit hf (k := n.got.size) (by omega) with e | e <;> rw [e] <;> simp

theorem allF_yes {L : List Frm} (h : ∀ j, j < L.length → frB (nthF L j) = true) : L.all frB = true := by
  rw [List.all_eq_true]
  intro x hx
  obtain ⟨j, hj, rfl⟩ := List.getElem_of_mem hx
  have := h j hj
  rwa [nthF_eq hj] at this
theorem allF_no {L : List Frm} {k : Nat} (hk : k < L.length) (h : frB (nthF L k) = false) : L.all frB = false := by
  rw [nthF_eq hk] at h
  rw [Bool.eq_false_iff]
  intro e
  rw [List.all_eq_true] at e
  rw [e _ (List.getElem_mem hk)] at h
  cases h
theorem hasB_at {L : List Frm} {f : Frm} {p : Nat} (hr : Rise L L.length) (hp : Pos L (rkF f) p) : hasB L f = (metB L (rkF f) p && sameF (nthF L p) f) := by
  rw [hasB, (pos_at hr).eq hp]
theorem hasB_hit {L : List Frm} {f : Frm} {k : Nat} (hr : Rise L L.length) (hk : k < L.length) (h : rkF (nthF L k) = rkF f) : hasB L f = sameF (nthF L k) f := by
  have hp : Pos L (rkF f) k := ⟨by omega, fun j hj => by have := hr.lt hj hk; omega, fun j hj hl => by
    by_cases e : k = j
    · subst e; omega
    · have := hr.lt (show k < j by omega) hl; omega⟩
  rw [hasB_at hr hp, metB_yes.2 ⟨hk, h⟩, Bool.true_and]
theorem hasB_miss {L : List Frm} {f : Frm} (hr : Rise L L.length) (h : ∀ j, j < L.length → rkF (nthF L j) ≠ rkF f) : hasB L f = false := by
  rw [hasB]
  cases hm : metB L (rkF f) (posN L (rkF f) L.length) with
  | false => rfl
  | true => rw [metB_yes] at hm; exact absurd hm.2 (h _ hm.1)
theorem prefB_bytes (s t : ByteArray) : prefB s t = (decide (t.size ≤ s.size) && ((s.extract 0 t.size).toList == t.toList)) := by rw [prefB, teq]
end Go.Proofs.Ytpenjbpcebfecaa
