/- The program's copiedNode. -/
import Derived.Test.YtngcekegngmedaaGreatDoorM36
import Derived.Test.YtngcekegngmedaaGreatDoorM30
import Derived.Test.YtngcekegngmedaaGreatDoorM29
import Derived.Test.YtngcekegngmedaaGreatDoorM38
import Derived.Recover
import Derived.Test.YtngcekegngmedaaGreatDoorM33
import Derived.Test.YtngcekegngmedaaGreatDoorM9

set_option linter.unusedVariables false
set_option linter.unusedSimpArgs false
set_option maxRecDepth 20000
namespace Go.Proofs.YtngcekegngmedaaGreatDoor
open Go.RowKit


/-- A copied node, and that its bounds are below what is there. -/
def GotB (n : Nd) (w : World) (e : Ending) (w' : World) : Prop :=
  ∃ (p : NdP) (b1 b2 b3 : Nat) (MB MF : List (Frm × Value)), e = .returned (ndV n p) ∧ NdO w.heap.size b1 b2 b3 n p MB MF w' ∧ Below w.heap.size w w' ∧ b3 ≤ w'.heap.size

set_option maxHeartbeats 16000000 in
/-- impl.copiedNode. -/
theorem implCopied (n : Nd) (p : NdP) (w : World) (hm : NdM n p w) (hD : n.fr.D.length ≤ 1048576) (hB : n.box.length ≤ 1000000) (hB8 : ∀ j, j < n.box.length → (nthF n.box j).D.length ≤ 1048576) (hF : n.fifo.length ≤ 1000000) (hF8 : ∀ j, j < n.fifo.length → (nthF n.fifo j).D.length ≤ 1048576) (hL : n.flt.length ≤ 1048576) :
    Calls Tryz.prog 80 #[ndV n p] w (GotB n w) := by
  have X := N2.made2 (ndC n p) w
  go_enter Tryz.func80, Tryz.ntmps80
  go_upto_region 1 with fail
  generalize World.alloc _ _ = W at X ⊢
  generalize w.heap.size + 1 = gr at X ⊢
  generalize w.heap.size = g at X ⊢
  have c4 : W.cell? ⟨g, 4, none⟩ = some (.int .i64 n.fr.id) := X.cell 4
  have c5 : W.cell? ⟨g, 5, none⟩ = some (.bool n.fr.rm) := X.cell 5
  have c6 : W.cell? ⟨g, 6, none⟩ = some (.int .i64 n.fr.ln) := X.cell 6
  have c7 : W.cell? ⟨g, 7, none⟩ = some (.slice p.ad n.fr.D.length p.cd) := X.cell 7
  have f4 := X.free 4
  have f5 := X.free 5
  have f6 := X.free 6
  have f7 := X.free 7
  have l1 := X.lt
  have z1 := X.bel.size
  go_wp2_with fail
  refine (copiedFr n.fr.id n.fr.rm n.fr.ln p.ad n.fr.D p.cd _ (hm.below X.bel).nums hD).mono ?_
  rintro e w2 ⟨ad, rfl, OD, b⟩
  replace X := X.below b
  clear b c4 c5 c6 c7 f4 f5 f6 f7
  have c4 : w2.cell? ⟨g, 4, none⟩ = some (.int .i64 n.fr.id) := X.cell 4
  have c5 : w2.cell? ⟨g, 5, none⟩ = some (.bool n.fr.rm) := X.cell 5
  have c6 : w2.cell? ⟨g, 6, none⟩ = some (.int .i64 n.fr.ln) := X.cell 6
  have c7 : w2.cell? ⟨g, 7, none⟩ = some (.slice p.ad n.fr.D.length p.cd) := X.cell 7
  have f4 := X.free 4
  have f5 := X.free 5
  have f6 := X.free 6
  have f7 := X.free 7
  go_upto_region 2 with fail
  clear c4 c5 c6 c7 f4 f5 f6 f7
  replace OD := OD.kept2 (grown_at_cell _ g 4 (.int .i64 n.fr.id)) l1.1
  replace OD := OD.kept2 (grown_at_cell _ g 5 (.bool n.fr.rm)) l1.1
  replace OD := OD.kept2 (grown_at_cell _ g 6 (.int .i64 n.fr.ln)) l1.1
  replace OD := OD.kept2 (grown_at_cell _ g 7 (.slice ad n.fr.D.length n.fr.D.length)) l1.1
  replace X : N2 g gr (ndC (n) { p with ad := ad, cd := n.fr.D.length }) w _ := ((((X.set 4 (.int .i64 n.fr.id)).set 5 (.bool n.fr.rm)).set 6 (.int .i64 n.fr.ln)).set 7 (.slice ad n.fr.D.length n.fr.D.length))
  generalize World.setCell _ _ _ = W3 at X OD ⊢
  have hmd := (hm.below X.bel).drew
  have X0 := X
  have l3 := X.lt
  have z3 := X.bel.size
  replace X := X.drew
  have UD := fun q hq => (OD.1.lt q hq).2
  have c15 : W3.drew.cell? ⟨g, 15, none⟩ = some (.slice p.ab n.box.length p.cb) := X.cell 15
  have c16 : W3.drew.cell? ⟨g, 16, none⟩ = some (.slice p.af n.fifo.length p.cf) := X.cell 16
  have f15 := X.free 15
  have f16 := X.free 16
  go_region_law (first
    | (go_simp
       go_at_call_of 156 (Value.slice p.ab n.box.length p.cb)
       refine (copiedFrames p.ab n.box p.cb _ hmd.box hB hB8).mono ?_
       intro e w4 h4
       obtain ⟨MB, ab, cb, rfl, hMB, OB, FB, b4⟩ := h4
       have X4 := X.below b4
       have m4 := hmd.below b4
       have D4 := (OD.below' (Below.refl _ _).drew).below' b4
       have z4 := b4.size
       have U4 := OB.under
       have e16 : w4.cell? ⟨g, 16, none⟩ = some (.slice p.af n.fifo.length p.cf) := X4.cell 16
       clear b4)
    | (go_simp
       go_at_call_of 156 (Value.slice p.af n.fifo.length p.cf)
       refine (copiedFrames p.af n.fifo p.cf _ m4.fifo hF hF8).mono ?_
       intro e w5 h5
       obtain ⟨MF, af, cf, rfl, hMF, OF, FF, b5⟩ := h5
       have X5 := X4.below b5
       have D5 := D4.below' b5
       have B5 := OB.below b5
       have z5 := b5.size
       have l5 := X4.lt
       have g15 : w5.cell? ⟨g, 15, none⟩ = some (.slice p.ab n.box.length p.cb) := X5.cell 15
       have g16 : w5.cell? ⟨g, 16, none⟩ = some (.slice p.af n.fifo.length p.cf) := X5.cell 16
       have k15 : w5.frozen? ⟨g, 15, none⟩ = false := X5.free 15
       have k16 : w5.frozen? ⟨g, 16, none⟩ = false := X5.free 16
       clear b5))
  all_goals
    replace D5 := D5.kept2 (grown_at_cell _ g 15 (.slice ab n.box.length cb)) l1.1
    replace B5 := B5.kept2 (grown_at_cell _ g 15 (.slice ab n.box.length cb)) l3.1
    replace OF := OF.kept2 (grown_at_cell _ g 15 (.slice ab n.box.length cb)) l5.1
    replace D5 := D5.kept2 (grown_at_cell _ g 16 (.slice af n.fifo.length cf)) l1.1
    replace B5 := B5.kept2 (grown_at_cell _ g 16 (.slice af n.fifo.length cf)) l3.1
    replace OF := OF.kept2 (grown_at_cell _ g 16 (.slice af n.fifo.length cf)) l5.1
    have X6 : N2 g gr (ndC n ({ p with ad := ad, cd := n.fr.D.length, ab := ab, cb := cb, af := af, cf := cf })) w _ := (X5.set 15 (.slice ab n.box.length cb)).set 16 (.slice af n.fifo.length cf)
    clear X X0 X4 X5 OD D4 OB m4 hmd g15 g16 k15 k16 e16 c15 c16 f15 f16
    have z6 : (World.setCell (World.setCell w5 ⟨g, 15, none⟩ (.slice ab n.box.length cb)) ⟨g, 16, none⟩ (.slice af n.fifo.length cf)).heap.size = w5.heap.size := by simp
    generalize World.setCell (World.setCell w5 _ _) _ _ = W6 at X6 D5 B5 OF z6 ⊢
    have UF := OF.under
    have l6 := X6.lt
    have c17 : W6.cell? ⟨g, 17, none⟩ = some (.slice p.al n.flt.length p.cl) := X6.cell 17
    go_wp2_with fail
    refine (copiedFlts p.al n.flt p.cl _ (hm.below X6.bel).flt hL).mono ?_
    rintro e w7 ⟨gl, rfl, OL, b⟩
    have z7 := b.size
    replace X6 := X6.below b
    replace D5 := D5.below' b
    replace B5 := B5.below b
    replace OF := OF.below b
    clear b c17
    have c17 : w7.cell? ⟨g, 17, none⟩ = some (.slice p.al n.flt.length p.cl) := X6.cell 17
    have f17 := X6.free 17
    go_upto_region 4 with fail
    clear c17 f17
    replace D5 := D5.kept2 (grown_at_cell _ g 17 (.slice (some ⟨gl, 0, none⟩) n.flt.length n.flt.length)) l1.1
    replace B5 := B5.kept2 (grown_at_cell _ g 17 (.slice (some ⟨gl, 0, none⟩) n.flt.length n.flt.length)) l3.1
    replace OF := OF.kept2 (grown_at_cell _ g 17 (.slice (some ⟨gl, 0, none⟩) n.flt.length n.flt.length)) l5.1
    replace OL := OL.kept2 (grown_at_cell _ g 17 (.slice (some ⟨gl, 0, none⟩) n.flt.length n.flt.length)) l6.1
    replace X6 : N2 g gr (ndC n (⟨ad, n.fr.D.length, ab, cb, af, cf, some ⟨gl, 0, none⟩, n.flt.length⟩)) w _ := X6.set 17 (.slice (some ⟨gl, 0, none⟩) n.flt.length n.flt.length)
    have z8 : (World.setCell w7 ⟨g, 17, none⟩ (.slice (some ⟨gl, 0, none⟩) n.flt.length n.flt.length)).heap.size = w7.heap.size := by simp
    generalize World.setCell w7 _ _ = W8 at X6 D5 B5 OF OL z8 ⊢
    have zd : W3.drew.heap.size = W3.heap.size := rfl
    obtain ⟨Z1, Z2, Z3⟩ := X6.fin (ndC n (⟨ad, n.fr.D.length, ab, cb, af, cf, some ⟨gl, 0, none⟩, n.flt.length⟩))
    replace D5 := D5.kept2 Z2 l1.2
    replace B5 := B5.kept2 Z2 l3.2
    replace OF := OF.kept2 Z2 l5.2
    replace OL := OL.kept2 Z2 l6.2
    have HO : Hid (NdO w.heap.size W3.heap.size w4.heap.size w5.heap.size n (⟨ad, n.fr.D.length, ab, cb, af, cf, some ⟨gl, 0, none⟩, n.flt.length⟩) MB MF (W8.setRow gr (ndC n (⟨ad, n.fr.D.length, ab, cb, af, cf, some ⟨gl, 0, none⟩, n.flt.length⟩)))) := Lib.hid ⟨D5.mono z1, B5, OF, OL.mono (by omega), hMB, hMF, FB, FF, UD, U4, (by rw [z6] at UF; exact UF), ⟨by omega, by omega, by omega⟩, hm.size⟩
    clear D5 B5 OF OL Z2 UF U4 UD FB FF hMB hMF
    go_wp2_with (first | (refine Nx.take ⟨X6.blk, X6.bel⟩ rfl rfl rfl ?_) | (refine wpList_put X6.res rfl rfl rfl rfl rfl ?_))
    refine bodyPost_ret (v := ndV n (⟨ad, n.fr.D.length, ab, cb, af, cf, some ⟨gl, 0, none⟩, n.flt.length⟩)) ?_ rfl ⟨⟨ad, n.fr.D.length, ab, cb, af, cf, some ⟨gl, 0, none⟩, n.flt.length⟩, W3.heap.size, w4.heap.size, w5.heap.size, MB, MF, rfl, HO.out, Z3, by rw [show (W8.setRow gr (ndC n (⟨ad, n.fr.D.length, ab, cb, af, cf, some ⟨gl, 0, none⟩, n.flt.length⟩))).heap.size = W8.heap.size by simp]; omega⟩
    exact results_one Tryz.results80 _ _ gr _ rfl Z1 rfl
end Go.Proofs.YtngcekegngmedaaGreatDoor

/- What the program's sampled defers: a breach is caught. -/

set_option linter.unusedVariables false
set_option linter.unusedSimpArgs false
set_option maxRecDepth 20000
namespace Go.Proofs.YtngcekegngmedaaGreatDoor
open Go.RowKit

/-- The results' rows. -/
structure K3 (gr gh : Nat) (C E : Array Value) (w0 w : World) : Prop where
  res : w.heap[gr]? = some (.cells C 32 (0, 0))
  hap : w.heap[gh]? = some (.cells E 36 (0, 0))
  bel : Below w0.heap.size w0 w
  hr : w0.heap.size ≤ gr
  hh : w0.heap.size ≤ gh
  rh : gh ≠ gr
section
variable {gr gh : Nat} {C E : Array Value} {w0 w w' : World}
theorem K3.lt (h : K3 gr gh C E w0 w) : gr < w.heap.size ∧ gh < w.heap.size := ⟨(Array.getElem?_eq_some_iff.1 h.res).1, (Array.getElem?_eq_some_iff.1 h.hap).1⟩
theorem K3.below (h : K3 gr gh C E w0 w) (b : Below w.heap.size w w') : K3 gr gh C E w0 w' := ⟨(b.block gr h.lt.1).trans h.res, (b.block gh h.lt.2).trans h.hap, Below.then2 h.bel b, h.hr, h.hh, h.rh⟩
theorem K3.drew' (h : K3 gr gh C E w0 w) : K3 gr gh C E w0 { w with drawn := w.drawn + 1 } := h.below (Below.refl _ _).drew
theorem K3.setR (h : K3 gr gh C E w0 w) (D : Array Value) : K3 gr gh D E w0 (w.setRow gr D) := ⟨setRow_heap _ _ _ _ _ _ h.res, (setRow_other w gr gh D h.rh).trans h.hap, below_setRow h.bel h.hr D, h.hr, h.hh, h.rh⟩
theorem K3.setH (h : K3 gr gh C E w0 w) (D : Array Value) : K3 gr gh C D w0 (w.setRow gh D) := ⟨(setRow_other w gh gr D (Ne.symm h.rh)).trans h.res, setRow_heap _ _ _ _ _ _ h.hap, below_setRow h.bel h.hh D, h.hr, h.hh, h.rh⟩
theorem K3.cell (h : K3 gr gh C E w0 w) (k : Nat) : w.cell? ⟨gh, k, none⟩ = E[k]? := cell_of_row w gh k _ _ _ h.hap
theorem K3.free (h : K3 gr gh C E w0 w) (k : Nat) : w.frozen? ⟨gh, k, none⟩ = false := frozen_of_row w gh k _ _ h.hap
theorem K3.took {n : Nd} {p : NdP} (h : K3 gr gh (ndC n p) E w0 w) {o : Oper} {a : Act} {x : Operand} (ho : o.op = .load 32 x) (hx : a.eval x = .pointer (some ⟨gr, 0, none⟩)) : (execOp a.eval o).run Tryz.prog w = .ok (.value (ndV n p)) w := Nx.took (g := gr) (w0 := w0) ⟨h.res, h.bel⟩ ho hx
theorem K3.grown4 (w : World) (gh : Nat) (x0 x1 x2 x3 : Value) : w.grownBy ((((w.setCell ⟨gh, 1, none⟩ x0).setCell ⟨gh, 2, none⟩ x1).setCell ⟨gh, 3, none⟩ x2).setCell ⟨gh, 4, none⟩ x3) (some gh) :=
  grown_trans (grown_trans (grown_trans (grown_set w gh 1 x0) (grown_set _ gh 2 x1)) (grown_set _ gh 3 x2)) (grown_set _ gh 4 x3)
end
section
variable {P : Program} {K : Act → World → Prop} {Q : Exit → Act → World → Prop} {o : Oper} {a : Act} {w : World}
end
/-- What is small enough to be copied. -/
structure Small (n : Nd) : Prop where
  dat : n.fr.D.length ≤ 1048576
  box : n.box.length ≤ 1000000
  box8 : ∀ j, j < n.box.length → (nthF n.box j).D.length ≤ 1048576
  fifo : n.fifo.length ≤ 1000000
  fifo8 : ∀ j, j < n.fifo.length → (nthF n.fifo j).D.length ≤ 1048576
  flt : n.flt.length ≤ 1048576

theorem NdO.keptG {B b1 b2 b3 g : Nat} {n : Nd} {p : NdP} {MB MF : List (Frm × Value)} {w w' : World} (h : NdO B b1 b2 b3 n p MB MF w) (k : w.grownBy w' (some g)) (hg : g < B) : NdO B b1 b2 b3 n p MB MF w' :=
  ⟨h.dat.kept2 k hg, h.box.kept2 k (by have := h.le; omega), h.fifo.kept2 k (by have := h.le; omega), h.flt.kept2 k (by have := h.le; omega), h.mb, h.mf, h.fb, h.ff, h.ub, h.ux, h.uf, h.le, h.got⟩


theorem brkN_lists (n : Nd) : (brkN n).1.fr = n.fr ∧ (brkN n).1.box = n.box ∧ (brkN n).1.fifo = n.fifo ∧ (brkN n).1.flt = n.flt ∧ (brkN n).1.got.size ≤ maxLen := by
  unfold brkN; split <;> exact ⟨rfl, rfl, rfl, rfl, Nat.zero_le _⟩

set_option maxHeartbeats 4000000 in
/-- impl.sampled$1, where nothing has been broken off. -/
theorem closBack (g gr gh : Nat) (w : World) :
    CallsD Tryz.prog 153 #[.pointer (some ⟨g, 0, none⟩), .pointer (some ⟨gr, 0, none⟩), .pointer (some ⟨gh, 0, none⟩)] .returning w fun e u' w' => e = .returned (.tuple #[]) ∧ u' = .returning ∧ Below w.heap.size w w' := by
  have hta : ∀ W : World, (Instr.typeAssert (Value.nilIface) 20 164 true).run Tryz.prog W = .ok (.tuple #[.agg #[], .bool false]) W := fun W => by kernel_rfl
  have hz : ∀ x y z : Value, (#[x, y, z] : Array Value) ++ Array.replicate (Tryz.f153.ntmps - (#[x, y, z] : Array Value).size) undef = #[x, y, z, undef, undef, undef, undef, undef, undef, undef, undef, undef, undef, undef, undef, undef] := fun x y z => by rw [Tryz.ntmps153]; rfl
  refine callsD_of_wpS Tryz.func153 rfl fun c₀ cs hu => ?_
  rw [hz]
  clear hz
  apply wpS_seq
  apply wpS_region
  generalize hQ : Exit.thenS _ _ = Q1
  simp [wpOpsS, go_sem, recoverD, hu, hta]
  subst hQ
  simp only [Exit.thenS]
  have bb := below_more (Below.refl w.heap.size w) (.cells #[] 164)
  apply wpS_seq
  apply wpS_region
  generalize hQ : Exit.thenS _ _ = Q1
  simp [wpOpsS, go_sem]
  subst hQ
  simp only [Exit.thenS]
  refine wpS_cond (t := false) (by simp [Act.eval]) ?_
  simp only [Bool.false_eq_true, if_false]
  refine wpS_of_wp ?_
  go_wp2_with fail
  exact ⟨rfl, .returning, by rw [← hu], .tuple #[], results_none rfl _ _ _, rfl, rfl, bb⟩
set_option maxHeartbeats 4000000 in
/-- impl.sampled$1, where the node breaks off. -/
theorem closCaught (g gr gh : Nat) (n : Nd) (p : NdP) (w0 w : World) (K : K3 gr gh ndZ hpZ w0 w) (G0 : w.heap[g]? = some (.cells (ndC n p) 32 (0, 0))) :
    CallsD Tryz.prog 153 #[.pointer (some ⟨g, 0, none⟩), .pointer (some ⟨gr, 0, none⟩), .pointer (some ⟨gh, 0, none⟩)] (.panicking [{ v := .iface 164 (.agg #[]), recovered := false }]) w fun e u' w' => e = .returned (.tuple #[]) ∧ u' = .panicking [{ v := .iface 164 (.agg #[]), recovered := true }] ∧ K3 gr gh (ndC (brkN n).1 p) (hpC (brkN n).2.1 zF none 0) w0 w' := by
  have hta : ∀ W : World, (Instr.typeAssert (.iface 164 (.agg #[])) 20 164 true).run Tryz.prog W = .ok (.tuple #[.agg #[], .bool true]) W := fun W => by kernel_rfl
  have hz : ∀ x y z : Value, (#[x, y, z] : Array Value) ++ Array.replicate (Tryz.f153.ntmps - (#[x, y, z] : Array Value).size) undef = #[x, y, z, undef, undef, undef, undef, undef, undef, undef, undef, undef, undef, undef, undef, undef] := fun x y z => by rw [Tryz.ntmps153]; rfl
  refine callsD_of_wpS Tryz.func153 rfl fun c₀ cs hu => ?_
  rw [hz]
  clear hz
  apply wpS_seq
  apply wpS_region
  generalize hQ : Exit.thenS _ _ = Q1
  simp [wpOpsS, go_sem, recoverD, hu, hta]
  subst hQ
  simp only [Exit.thenS]
  have bb := below_more (Below.refl w.heap.size w) (.cells #[] 164)
  replace K := K.below bb
  apply wpS_seq
  apply wpS_region
  generalize hQ : Exit.thenS _ _ = Q1
  simp [wpOpsS, go_sem]
  subst hQ
  simp only [Exit.thenS]
  refine wpS_cond (t := true) (by simp [Act.eval]) ?_
  simp only [if_true]
  generalize w.alloc _ = W at K bb ⊢
  have hbw := bb
  have G : Nx g n p w W := ⟨(bb.block g (Array.getElem?_eq_some_iff.1 G0).1).trans G0, bb⟩
  refine wpS_of_wp ?_
  go_wp2_with (refine Nx.take G rfl rfl rfl ?_)
  refine (implBroken n p _).mono ?_
  rintro e W6 ⟨rfl, b⟩
  replace K := K.below b
  clear b
  go_wp2_with (first | (refine wpList_put (n := (brkN n).1) (p := p) K.res rfl rfl rfl rfl rfl ?_) | (refine wpList_tell (k := (brkN n).2.1) (f := zF) (ad := none) (cd := 0) (K.setR (ndC (brkN n).1 p)).hap rfl rfl rfl rfl rfl ?_))
  replace K := (K.setR (ndC (brkN n).1 p)).setH (hpC (brkN n).2.1 zF none 0)
  generalize World.setRow _ _ _ = W7 at K ⊢
  exact ⟨rfl, .panicking [{ v := .iface 164 (.agg #[]), recovered := true }], rfl, .tuple #[], results_none rfl _ _ _, rfl, rfl, K⟩
end Go.Proofs.YtngcekegngmedaaGreatDoor

/- The program's inBody. -/

set_option linter.unusedVariables false
set_option linter.unusedSimpArgs false
set_option maxRecDepth 20000
namespace Go.Proofs.YtngcekegngmedaaGreatDoor
open Go.RowKit


set_option maxHeartbeats 16000000 in
/-- impl.inBody, behind five alike. -/
theorem implBodyFive (n : Nd) (p : NdP) (l : Int) (w : World) (Y : Nat → Prop) (a0 : World) (h0 : NdY Y n p a0) (ha0 : Kp Y a0 w) (hE : ErrHeld w) (hl : l = 0 ∨ l = 1) (h5r : n.run = 5) (hne : l ≠ n.last) :
    Calls Tryz.prog 203 #[ndV n p, .int .i64 l] w (SampX Y a0 (NdA n p) (wholeN { n with run := 1, last := l }, 0, zF) w) := by
  have hm := h0 w ha0
  replace h5r := Lib.hid h5r
  have hn' : (l == n.last) = false := beq_eq_false_iff_ne.2 hne
  clear hne
  have X := N3.made (ndC n p) w
  go_enter Tryz.func203, Tryz.ntmps203
  go_upto_region 1 with fail
  generalize World.alloc _ _ = W at X ⊢
  generalize w.heap.size + 1 + 1 = gh at X ⊢
  generalize w.heap.size + 1 = gr at X ⊢
  generalize w.heap.size = g at X ⊢
  have c9 : W.cell? ⟨g, 9, none⟩ = some (.int .i64 5) := (X.cell 9).trans (by rw [← h5r.out]; rfl)
  have c10 : W.cell? ⟨g, 10, none⟩ = some (.int .i64 n.last) := X.cell 10
  go_wp2_with fail
  refine (implNoBreak _).mono ?_
  rintro e w3 ⟨rfl, b⟩
  replace X := X.below b
  clear b c9 c10
  have c9 : w3.cell? ⟨g, 9, none⟩ = some (.int .i64 n.run) := X.cell 9
  have c10 : w3.cell? ⟨g, 10, none⟩ = some (.int .i64 n.last) := X.cell 10
  have f9 := X.free 9
  have f10 := X.free 10
  go_upto_region 5 with fail
  clear c9 c10 f9 f10
  replace X : N3 g gr gh (ndC ({ n with run := 1, last := l }) p) w _ := ((X.set 9 (.int .i64 1)).set 10 (.int .i64 l))
  generalize World.setCell _ _ _ = W5 at X ⊢
  obtain ⟨m, hm1⟩ : ∃ m : Nd, m = ({ n with run := 1, last := l }) := ⟨_, rfl⟩
  rw [← hm1] at X
  have hL : m.fr = n.fr ∧ m.box = n.box ∧ m.fifo = n.fifo ∧ m.flt = n.flt ∧ m.got.size ≤ maxLen := by rw [hm1]; exact ⟨rfl, rfl, rfl, rfl, hm.size⟩
  replace hm1 := Lib.hid hm1
  replace hL := Lib.hid hL
  by_cases h5 : m.run = 5
  · have e := Lib.hid (show wholeN ({ n with run := 1, last := l }) = m from by rw [← hm1.out]; unfold wholeN; rw [if_neg (fun k => k.2 h5)])
    have c9 : W5.cell? ⟨g, 9, none⟩ = some (.int .i64 5) := (X.cell 9).trans (by rw [← h5]; rfl)
    clear h5
    go_upto_region 6 with fail
    clear c9
    go_wp2_with (first | (refine Nx.take ⟨X.blk, X.bel⟩ rfl rfl rfl ?_) | (refine wpList_put X.res rfl rfl rfl rfl rfl ?_) | (refine wpList_tell (k := 0) (f := zF) (ad := none) (cd := 0) (X.fin (ndC (m) p) #[]).1 rfl rfl rfl rfl rfl ?_))
    obtain ⟨-, Z1, Z2, Z3⟩ := X.fin (ndC (m) p) (hpC (0) (zF) (none) (0))
    refine bodyPost_ret (v := .tuple #[ndV (m) p, hpV (0) (zF) (none) (0)]) ?_ rfl ⟨p, none, 0, by rw [e.out], by rw [e.out]; exact fun u k k2 => ⟨(h0 u k).lists hL.out.1 hL.out.2.1 hL.out.2.2.1 hL.out.2.2.2.1 hL.out.2.2.2.2, Nums.nil _, fun h => ⟨(by rw [show _ = n.box from hL.out.2.1]; exact h.box), (by rw [show _ = n.fifo from hL.out.2.2.1]; exact h.fifo)⟩⟩, Z3⟩
    exact results_both Tryz.results203 _ _ gr gh _ _ rfl rfl Z1 Z2 rfl rfl
  · have h5' : (m.run == 5) = false := beq_eq_false_iff_ne.2 h5
    replace h5 := Lib.hid h5
    have c9 : W5.cell? ⟨g, 9, none⟩ = some (.int .i64 m.run) := X.cell 9
    have c8 : W5.cell? ⟨g, 8, none⟩ = some (.string m.got) := X.cell 8
    go_wp2_with fail
    refine (implWhole m.got _ hL.out.2.2.2.2).mono ?_
    rintro e w6 ⟨rfl, b⟩
    replace X := X.below b
    clear b c8 c9
    cases hw : wholeB m.got
    · have e := Lib.hid (show wholeN ({ n with run := 1, last := l }) = m from by rw [← hm1.out]; unfold wholeN; rw [if_neg (fun k => by rw [hw] at k; exact absurd k.1 (by decide))])
      clear hw
      go_upto_region 6 with fail
      go_wp2_with (first | (refine Nx.take ⟨X.blk, X.bel⟩ rfl rfl rfl ?_) | (refine wpList_put X.res rfl rfl rfl rfl rfl ?_) | (refine wpList_tell (k := 0) (f := zF) (ad := none) (cd := 0) (X.fin (ndC (m) p) #[]).1 rfl rfl rfl rfl rfl ?_))
      obtain ⟨-, Z1, Z2, Z3⟩ := X.fin (ndC (m) p) (hpC (0) (zF) (none) (0))
      refine bodyPost_ret (v := .tuple #[ndV (m) p, hpV (0) (zF) (none) (0)]) ?_ rfl ⟨p, none, 0, by rw [e.out], by rw [e.out]; exact fun u k k2 => ⟨(h0 u k).lists hL.out.1 hL.out.2.1 hL.out.2.2.1 hL.out.2.2.2.1 hL.out.2.2.2.2, Nums.nil _, fun h => ⟨(by rw [show _ = n.box from hL.out.2.1]; exact h.box), (by rw [show _ = n.fifo from hL.out.2.2.1]; exact h.fifo)⟩⟩, Z3⟩
      exact results_both Tryz.results203 _ _ gr gh _ _ rfl rfl Z1 Z2 rfl rfl
    · have e0 := Lib.hid (show wholeN ({ n with run := 1, last := l }) = { m with ph := 2, pos := 0, left := 0, bad := !m.tx && decide (rdCode m.got ≠ 0) } from by rw [← hm1.out]; unfold wholeN; rw [if_pos ⟨hw, h5.out⟩])
      clear hw
      have c8 : w6.cell? ⟨g, 8, none⟩ = some (.string m.got) := X.cell 8
      go_wp2_with fail
      refine (implRead m.got _ hL.out.2.2.2.2 (hE.below X.bel)).mono ?_
      rintro e w7 ⟨v, rfl, O, b⟩
      obtain ⟨av, cv, rfl, -⟩ := O.nums
      replace X := X.below b
      clear b c8 O
      have bb := below_more (Below.refl w7.heap.size w7) (.cells #[.int .i64 (rdId m.got), .bool (rdRm m.got), .int .i64 (rdLn m.got), .slice av (rdD m.got).length cv] 26)
      replace X := X.below bb
      clear bb
      go_upto_region 8 with fail
      generalize w7.alloc _ = W8 at X ⊢
      have c0 : W8.cell? ⟨g, 0, none⟩ = some (.int .i64 m.ph) := X.cell 0
      have c3 : W8.cell? ⟨g, 3, none⟩ = some (.bool m.bad) := X.cell 3
      have c11 : W8.cell? ⟨g, 11, none⟩ = some (.int .i64 m.pos) := X.cell 11
      have c12 : W8.cell? ⟨g, 12, none⟩ = some (.int .i64 m.left) := X.cell 12
      have f0 := X.free 0
      have f3 := X.free 3
      have f11 := X.free 11
      have f12 := X.free 12
      have c1 : W8.cell? ⟨g, 1, none⟩ = some (.bool m.tx) := X.cell 1
      rcases (Bool.eq_false_or_eq_true m.tx).symm with ht | ht
      · by_cases hc : rdCode m.got = 0
        · have hc' : (rdCode m.got != 0) = false := by rw [hc]; rfl
          have e := Lib.hid (e0.out.trans (show _ = { m with ph := 2, pos := 0, left := 0, bad := false } from by rw [ht, decide_eq_false (fun k => k hc)]; rfl))
          rw [ht] at c1
          clear ht hc e0
          go_upto_region 9 with fail
          clear c0 c1 c3 c11 c12 f0 f3 f11 f12
          replace X : N3 g gr gh (ndC ({ m with ph := 2, pos := 0, left := 0, bad := false }) p) w _ := ((((X.set 0 (.int .i64 2)).set 11 (.int .i64 0)).set 12 (.int .i64 0)).set 3 (.bool false))
          generalize World.setCell _ _ _ = W9 at X ⊢
          go_wp2_with (first | (refine Nx.take ⟨X.blk, X.bel⟩ rfl rfl rfl ?_) | (refine wpList_put X.res rfl rfl rfl rfl rfl ?_) | (refine wpList_tell (k := 0) (f := zF) (ad := none) (cd := 0) (X.fin (ndC ({ m with ph := 2, pos := 0, left := 0, bad := false }) p) #[]).1 rfl rfl rfl rfl rfl ?_))
          obtain ⟨-, Z1, Z2, Z3⟩ := X.fin (ndC ({ m with ph := 2, pos := 0, left := 0, bad := false }) p) (hpC (0) (zF) (none) (0))
          refine bodyPost_ret (v := .tuple #[ndV ({ m with ph := 2, pos := 0, left := 0, bad := false }) p, hpV (0) (zF) (none) (0)]) ?_ rfl ⟨p, none, 0, by rw [e.out], by rw [e.out]; exact fun u k k2 => ⟨(h0 u k).lists hL.out.1 hL.out.2.1 hL.out.2.2.1 hL.out.2.2.2.1 hL.out.2.2.2.2, Nums.nil _, fun h => ⟨(by rw [show _ = n.box from hL.out.2.1]; exact h.box), (by rw [show _ = n.fifo from hL.out.2.2.1]; exact h.fifo)⟩⟩, Z3⟩
          exact results_both Tryz.results203 _ _ gr gh _ _ rfl rfl Z1 Z2 rfl rfl
        · have hc' : (rdCode m.got != 0) = true := bne_iff_ne.2 hc
          have e := Lib.hid (e0.out.trans (show _ = { m with ph := 2, pos := 0, left := 0, bad := true } from by rw [ht, decide_eq_true hc]; rfl))
          rw [ht] at c1
          clear ht hc e0
          go_upto_region 9 with fail
          clear c0 c1 c3 c11 c12 f0 f3 f11 f12
          replace X : N3 g gr gh (ndC ({ m with ph := 2, pos := 0, left := 0, bad := true }) p) w _ := ((((X.set 0 (.int .i64 2)).set 11 (.int .i64 0)).set 12 (.int .i64 0)).set 3 (.bool true))
          generalize World.setCell _ _ _ = W9 at X ⊢
          go_wp2_with (first | (refine Nx.take ⟨X.blk, X.bel⟩ rfl rfl rfl ?_) | (refine wpList_put X.res rfl rfl rfl rfl rfl ?_) | (refine wpList_tell (k := 0) (f := zF) (ad := none) (cd := 0) (X.fin (ndC ({ m with ph := 2, pos := 0, left := 0, bad := true }) p) #[]).1 rfl rfl rfl rfl rfl ?_))
          obtain ⟨-, Z1, Z2, Z3⟩ := X.fin (ndC ({ m with ph := 2, pos := 0, left := 0, bad := true }) p) (hpC (0) (zF) (none) (0))
          refine bodyPost_ret (v := .tuple #[ndV ({ m with ph := 2, pos := 0, left := 0, bad := true }) p, hpV (0) (zF) (none) (0)]) ?_ rfl ⟨p, none, 0, by rw [e.out], by rw [e.out]; exact fun u k k2 => ⟨(h0 u k).lists hL.out.1 hL.out.2.1 hL.out.2.2.1 hL.out.2.2.2.1 hL.out.2.2.2.2, Nums.nil _, fun h => ⟨(by rw [show _ = n.box from hL.out.2.1]; exact h.box), (by rw [show _ = n.fifo from hL.out.2.2.1]; exact h.fifo)⟩⟩, Z3⟩
          exact results_both Tryz.results203 _ _ gr gh _ _ rfl rfl Z1 Z2 rfl rfl
      · have e := Lib.hid (e0.out.trans (show _ = { m with ph := 2, pos := 0, left := 0, bad := false } from by rw [ht]; rfl))
        rw [ht] at c1
        clear ht e0
        go_upto_region 9 with fail
        clear c0 c1 c3 c11 c12 f0 f3 f11 f12
        replace X : N3 g gr gh (ndC ({ m with ph := 2, pos := 0, left := 0, bad := false }) p) w _ := ((((X.set 0 (.int .i64 2)).set 11 (.int .i64 0)).set 12 (.int .i64 0)).set 3 (.bool false))
        generalize World.setCell _ _ _ = W9 at X ⊢
        go_wp2_with (first | (refine Nx.take ⟨X.blk, X.bel⟩ rfl rfl rfl ?_) | (refine wpList_put X.res rfl rfl rfl rfl rfl ?_) | (refine wpList_tell (k := 0) (f := zF) (ad := none) (cd := 0) (X.fin (ndC ({ m with ph := 2, pos := 0, left := 0, bad := false }) p) #[]).1 rfl rfl rfl rfl rfl ?_))
        obtain ⟨-, Z1, Z2, Z3⟩ := X.fin (ndC ({ m with ph := 2, pos := 0, left := 0, bad := false }) p) (hpC (0) (zF) (none) (0))
        refine bodyPost_ret (v := .tuple #[ndV ({ m with ph := 2, pos := 0, left := 0, bad := false }) p, hpV (0) (zF) (none) (0)]) ?_ rfl ⟨p, none, 0, by rw [e.out], by rw [e.out]; exact fun u k k2 => ⟨(h0 u k).lists hL.out.1 hL.out.2.1 hL.out.2.2.1 hL.out.2.2.2.1 hL.out.2.2.2.2, Nums.nil _, fun h => ⟨(by rw [show _ = n.box from hL.out.2.1]; exact h.box), (by rw [show _ = n.fifo from hL.out.2.2.1]; exact h.fifo)⟩⟩, Z3⟩
        exact results_both Tryz.results203 _ _ gr gh _ _ rfl rfl Z1 Z2 rfl rfl

set_option maxHeartbeats 4000000 in
/-- impl.inBody, six alike. -/
theorem implBodySix (n : Nd) (p : NdP) (l : Int) (w : World) (h5r : n.run = 5) (hne : l = n.last) :
    Calls Tryz.prog 203 #[ndV n p, .int .i64 l] w (Broke w) := by
  replace h5r := Lib.hid h5r
  have hn' : (l == n.last) = true := beq_iff_eq.2 hne
  clear hne
  have X := N3.made (ndC n p) w
  go_enter Tryz.func203, Tryz.ntmps203
  go_upto_region 1 with fail
  generalize World.alloc _ _ = W at X ⊢
  generalize w.heap.size + 1 + 1 = gh at X ⊢
  generalize w.heap.size + 1 = gr at X ⊢
  generalize w.heap.size = g at X ⊢
  have c9 : W.cell? ⟨g, 9, none⟩ = some (.int .i64 5) := (X.cell 9).trans (by rw [← h5r.out]; rfl)
  have c10 : W.cell? ⟨g, 10, none⟩ = some (.int .i64 n.last) := X.cell 10
  go_wp2_with fail
  refine (implBreak _).mono ?_
  rintro e w3 ⟨rfl, b⟩
  exact ⟨rfl, rfl, Below.then2 X.bel b⟩

set_option maxHeartbeats 4000000 in
/-- impl.inBody, where it parts. -/
theorem implBodyPart (n : Nd) (p : NdP) (l : Int) (w : World) (hm : NdM n p w) (hok : nodeB n = true) (h5r : n.run ≠ 5) (htx : n.tx = true) (hk : l ≠ nextV n) (hl2 : l = 1 ∨ 12 < n.got.size) (hs : n.got.size ≤ 98) :
    Calls Tryz.prog 203 #[ndV n p, .int .i64 l] w (Broke w) := by
  replace htx := Lib.hid htx
  replace hk := Lib.hid hk
  replace hl2 := Lib.hid hl2
  have h5' : (n.run == 5) = false := beq_eq_false_iff_ne.2 h5r
  clear h5r
  have X := N3.made (ndC n p) w
  go_enter Tryz.func203, Tryz.ntmps203
  go_upto_region 1 with fail
  generalize World.alloc _ _ = W at X ⊢
  generalize w.heap.size + 1 + 1 = gh at X ⊢
  generalize w.heap.size + 1 = gr at X ⊢
  generalize w.heap.size = g at X ⊢
  have c9 : W.cell? ⟨g, 9, none⟩ = some (.int .i64 n.run) := X.cell 9
  go_wp2_with (refine Nx.take ⟨X.blk, X.bel⟩ rfl rfl rfl ?_)
  refine (implPart n p l _ (hm.below X.bel) hok htx.out hk.out hl2.out hs).mono ?_
  rintro e w3 ⟨rfl, b⟩
  exact ⟨rfl, rfl, Below.then2 X.bel b⟩

theorem hear_size (n : Nd) (l : Int) : (hearN n l).got.size = n.got.size + 1 := by show (n.got ++ bitS l).size = _; rw [ByteArray.size_append, bitS_size]

set_option maxHeartbeats 16000000 in
/-- impl.inBody of one that goes on. -/
theorem implBodyKeep (n : Nd) (p : NdP) (l : Int) (w : World) (Y : Nat → Prop) (a0 : World) (h0 : NdY Y n p a0) (ha0 : Kp Y a0 w) (hE : ErrHeld w) (hok : nodeB n = true) (hl : l = 0 ∨ l = 1) (h5r : n.run ≠ 5) (hr : 0 ≤ n.run ∧ n.run ≤ 11) (hs : n.got.size ≤ 98) (hk : n.tx = false ∨ l = nextV n) :
    Calls Tryz.prog 203 #[ndV n p, .int .i64 l] w (SampX Y a0 (NdA n p) (wholeN (hearN (n) l), 0, zF) w) := by
  have hm := h0 w ha0
  replace hk := Lib.hid hk
  have h5' : (n.run == 5) = false := beq_eq_false_iff_ne.2 h5r
  clear h5r
  have X := N3.made (ndC n p) w
  go_enter Tryz.func203, Tryz.ntmps203
  go_upto_region 1 with fail
  generalize World.alloc _ _ = W at X ⊢
  generalize w.heap.size + 1 + 1 = gh at X ⊢
  generalize w.heap.size + 1 = gr at X ⊢
  generalize w.heap.size = g at X ⊢
  have c9 : W.cell? ⟨g, 9, none⟩ = some (.int .i64 n.run) := X.cell 9
  go_wp2_with (refine Nx.take ⟨X.blk, X.bel⟩ rfl rfl rfl ?_)
  clear c9
  refine (implKeep n p l _ (hm.below X.bel) hok hk.out).mono ?_
  rintro e w2 ⟨rfl, b⟩
  replace X := X.below b
  clear b
  go_wp2_with fail
  refine (implHear (n) p l _ hl hr hs).mono ?_
  rintro e w3 ⟨rfl, b⟩
  replace X := X.below b
  clear b
  go_upto_region 5 with (refine wpList_put X.blk rfl rfl rfl rfl rfl ?_)
  replace X : N3 g gr gh (ndC (hearN (n) l) p) w _ := X.put _
  generalize World.setRow _ _ _ = W5 at X ⊢
  have hsz1 : (hearN (n) l).got.size ≤ maxLen := by have := hear_size (n) l; have h2 : n.got.size ≤ 98 := hs; have h3 : (hearN (n) l).got.size = n.got.size + 1 := this; unfold maxLen; omega
  obtain ⟨m, hm1⟩ : ∃ m : Nd, m = (hearN (n) l) := ⟨_, rfl⟩
  rw [← hm1] at X
  have hL : m.fr = n.fr ∧ m.box = n.box ∧ m.fifo = n.fifo ∧ m.flt = n.flt ∧ m.got.size ≤ maxLen := by rw [hm1]; exact ⟨rfl, rfl, rfl, rfl, hsz1⟩
  replace hm1 := Lib.hid hm1
  replace hL := Lib.hid hL
  by_cases h5 : m.run = 5
  · have e := Lib.hid (show wholeN (hearN (n) l) = m from by rw [← hm1.out]; unfold wholeN; rw [if_neg (fun k => k.2 h5)])
    have c9 : W5.cell? ⟨g, 9, none⟩ = some (.int .i64 5) := (X.cell 9).trans (by rw [← h5]; rfl)
    clear h5
    go_upto_region 6 with fail
    clear c9
    go_wp2_with (first | (refine Nx.take ⟨X.blk, X.bel⟩ rfl rfl rfl ?_) | (refine wpList_put X.res rfl rfl rfl rfl rfl ?_) | (refine wpList_tell (k := 0) (f := zF) (ad := none) (cd := 0) (X.fin (ndC (m) p) #[]).1 rfl rfl rfl rfl rfl ?_))
    obtain ⟨-, Z1, Z2, Z3⟩ := X.fin (ndC (m) p) (hpC (0) (zF) (none) (0))
    refine bodyPost_ret (v := .tuple #[ndV (m) p, hpV (0) (zF) (none) (0)]) ?_ rfl ⟨p, none, 0, by rw [e.out], by rw [e.out]; exact fun u k k2 => ⟨(h0 u k).lists hL.out.1 hL.out.2.1 hL.out.2.2.1 hL.out.2.2.2.1 hL.out.2.2.2.2, Nums.nil _, fun h => ⟨(by rw [show _ = n.box from hL.out.2.1]; exact h.box), (by rw [show _ = n.fifo from hL.out.2.2.1]; exact h.fifo)⟩⟩, Z3⟩
    exact results_both Tryz.results203 _ _ gr gh _ _ rfl rfl Z1 Z2 rfl rfl
  · have h5' : (m.run == 5) = false := beq_eq_false_iff_ne.2 h5
    replace h5 := Lib.hid h5
    have c9 : W5.cell? ⟨g, 9, none⟩ = some (.int .i64 m.run) := X.cell 9
    have c8 : W5.cell? ⟨g, 8, none⟩ = some (.string m.got) := X.cell 8
    go_wp2_with fail
    refine (implWhole m.got _ hL.out.2.2.2.2).mono ?_
    rintro e w6 ⟨rfl, b⟩
    replace X := X.below b
    clear b c8 c9
    cases hw : wholeB m.got
    · have e := Lib.hid (show wholeN (hearN (n) l) = m from by rw [← hm1.out]; unfold wholeN; rw [if_neg (fun k => by rw [hw] at k; exact absurd k.1 (by decide))])
      clear hw
      go_upto_region 6 with fail
      go_wp2_with (first | (refine Nx.take ⟨X.blk, X.bel⟩ rfl rfl rfl ?_) | (refine wpList_put X.res rfl rfl rfl rfl rfl ?_) | (refine wpList_tell (k := 0) (f := zF) (ad := none) (cd := 0) (X.fin (ndC (m) p) #[]).1 rfl rfl rfl rfl rfl ?_))
      obtain ⟨-, Z1, Z2, Z3⟩ := X.fin (ndC (m) p) (hpC (0) (zF) (none) (0))
      refine bodyPost_ret (v := .tuple #[ndV (m) p, hpV (0) (zF) (none) (0)]) ?_ rfl ⟨p, none, 0, by rw [e.out], by rw [e.out]; exact fun u k k2 => ⟨(h0 u k).lists hL.out.1 hL.out.2.1 hL.out.2.2.1 hL.out.2.2.2.1 hL.out.2.2.2.2, Nums.nil _, fun h => ⟨(by rw [show _ = n.box from hL.out.2.1]; exact h.box), (by rw [show _ = n.fifo from hL.out.2.2.1]; exact h.fifo)⟩⟩, Z3⟩
      exact results_both Tryz.results203 _ _ gr gh _ _ rfl rfl Z1 Z2 rfl rfl
    · have e0 := Lib.hid (show wholeN (hearN (n) l) = { m with ph := 2, pos := 0, left := 0, bad := !m.tx && decide (rdCode m.got ≠ 0) } from by rw [← hm1.out]; unfold wholeN; rw [if_pos ⟨hw, h5.out⟩])
      clear hw
      have c8 : w6.cell? ⟨g, 8, none⟩ = some (.string m.got) := X.cell 8
      go_wp2_with fail
      refine (implRead m.got _ hL.out.2.2.2.2 (hE.below X.bel)).mono ?_
      rintro e w7 ⟨v, rfl, O, b⟩
      obtain ⟨av, cv, rfl, -⟩ := O.nums
      replace X := X.below b
      clear b c8 O
      have bb := below_more (Below.refl w7.heap.size w7) (.cells #[.int .i64 (rdId m.got), .bool (rdRm m.got), .int .i64 (rdLn m.got), .slice av (rdD m.got).length cv] 26)
      replace X := X.below bb
      clear bb
      go_upto_region 8 with fail
      generalize w7.alloc _ = W8 at X ⊢
      have c0 : W8.cell? ⟨g, 0, none⟩ = some (.int .i64 m.ph) := X.cell 0
      have c3 : W8.cell? ⟨g, 3, none⟩ = some (.bool m.bad) := X.cell 3
      have c11 : W8.cell? ⟨g, 11, none⟩ = some (.int .i64 m.pos) := X.cell 11
      have c12 : W8.cell? ⟨g, 12, none⟩ = some (.int .i64 m.left) := X.cell 12
      have f0 := X.free 0
      have f3 := X.free 3
      have f11 := X.free 11
      have f12 := X.free 12
      have c1 : W8.cell? ⟨g, 1, none⟩ = some (.bool m.tx) := X.cell 1
      rcases (Bool.eq_false_or_eq_true m.tx).symm with ht | ht
      · by_cases hc : rdCode m.got = 0
        · have hc' : (rdCode m.got != 0) = false := by rw [hc]; rfl
          have e := Lib.hid (e0.out.trans (show _ = { m with ph := 2, pos := 0, left := 0, bad := false } from by rw [ht, decide_eq_false (fun k => k hc)]; rfl))
          rw [ht] at c1
          clear ht hc e0
          go_upto_region 9 with fail
          clear c0 c1 c3 c11 c12 f0 f3 f11 f12
          replace X : N3 g gr gh (ndC ({ m with ph := 2, pos := 0, left := 0, bad := false }) p) w _ := ((((X.set 0 (.int .i64 2)).set 11 (.int .i64 0)).set 12 (.int .i64 0)).set 3 (.bool false))
          generalize World.setCell _ _ _ = W9 at X ⊢
          go_wp2_with (first | (refine Nx.take ⟨X.blk, X.bel⟩ rfl rfl rfl ?_) | (refine wpList_put X.res rfl rfl rfl rfl rfl ?_) | (refine wpList_tell (k := 0) (f := zF) (ad := none) (cd := 0) (X.fin (ndC ({ m with ph := 2, pos := 0, left := 0, bad := false }) p) #[]).1 rfl rfl rfl rfl rfl ?_))
          obtain ⟨-, Z1, Z2, Z3⟩ := X.fin (ndC ({ m with ph := 2, pos := 0, left := 0, bad := false }) p) (hpC (0) (zF) (none) (0))
          refine bodyPost_ret (v := .tuple #[ndV ({ m with ph := 2, pos := 0, left := 0, bad := false }) p, hpV (0) (zF) (none) (0)]) ?_ rfl ⟨p, none, 0, by rw [e.out], by rw [e.out]; exact fun u k k2 => ⟨(h0 u k).lists hL.out.1 hL.out.2.1 hL.out.2.2.1 hL.out.2.2.2.1 hL.out.2.2.2.2, Nums.nil _, fun h => ⟨(by rw [show _ = n.box from hL.out.2.1]; exact h.box), (by rw [show _ = n.fifo from hL.out.2.2.1]; exact h.fifo)⟩⟩, Z3⟩
          exact results_both Tryz.results203 _ _ gr gh _ _ rfl rfl Z1 Z2 rfl rfl
        · have hc' : (rdCode m.got != 0) = true := bne_iff_ne.2 hc
          have e := Lib.hid (e0.out.trans (show _ = { m with ph := 2, pos := 0, left := 0, bad := true } from by rw [ht, decide_eq_true hc]; rfl))
          rw [ht] at c1
          clear ht hc e0
          go_upto_region 9 with fail
          clear c0 c1 c3 c11 c12 f0 f3 f11 f12
          replace X : N3 g gr gh (ndC ({ m with ph := 2, pos := 0, left := 0, bad := true }) p) w _ := ((((X.set 0 (.int .i64 2)).set 11 (.int .i64 0)).set 12 (.int .i64 0)).set 3 (.bool true))
          generalize World.setCell _ _ _ = W9 at X ⊢
          go_wp2_with (first | (refine Nx.take ⟨X.blk, X.bel⟩ rfl rfl rfl ?_) | (refine wpList_put X.res rfl rfl rfl rfl rfl ?_) | (refine wpList_tell (k := 0) (f := zF) (ad := none) (cd := 0) (X.fin (ndC ({ m with ph := 2, pos := 0, left := 0, bad := true }) p) #[]).1 rfl rfl rfl rfl rfl ?_))
          obtain ⟨-, Z1, Z2, Z3⟩ := X.fin (ndC ({ m with ph := 2, pos := 0, left := 0, bad := true }) p) (hpC (0) (zF) (none) (0))
          refine bodyPost_ret (v := .tuple #[ndV ({ m with ph := 2, pos := 0, left := 0, bad := true }) p, hpV (0) (zF) (none) (0)]) ?_ rfl ⟨p, none, 0, by rw [e.out], by rw [e.out]; exact fun u k k2 => ⟨(h0 u k).lists hL.out.1 hL.out.2.1 hL.out.2.2.1 hL.out.2.2.2.1 hL.out.2.2.2.2, Nums.nil _, fun h => ⟨(by rw [show _ = n.box from hL.out.2.1]; exact h.box), (by rw [show _ = n.fifo from hL.out.2.2.1]; exact h.fifo)⟩⟩, Z3⟩
          exact results_both Tryz.results203 _ _ gr gh _ _ rfl rfl Z1 Z2 rfl rfl
      · have e := Lib.hid (e0.out.trans (show _ = { m with ph := 2, pos := 0, left := 0, bad := false } from by rw [ht]; rfl))
        rw [ht] at c1
        clear ht e0
        go_upto_region 9 with fail
        clear c0 c1 c3 c11 c12 f0 f3 f11 f12
        replace X : N3 g gr gh (ndC ({ m with ph := 2, pos := 0, left := 0, bad := false }) p) w _ := ((((X.set 0 (.int .i64 2)).set 11 (.int .i64 0)).set 12 (.int .i64 0)).set 3 (.bool false))
        generalize World.setCell _ _ _ = W9 at X ⊢
        go_wp2_with (first | (refine Nx.take ⟨X.blk, X.bel⟩ rfl rfl rfl ?_) | (refine wpList_put X.res rfl rfl rfl rfl rfl ?_) | (refine wpList_tell (k := 0) (f := zF) (ad := none) (cd := 0) (X.fin (ndC ({ m with ph := 2, pos := 0, left := 0, bad := false }) p) #[]).1 rfl rfl rfl rfl rfl ?_))
        obtain ⟨-, Z1, Z2, Z3⟩ := X.fin (ndC ({ m with ph := 2, pos := 0, left := 0, bad := false }) p) (hpC (0) (zF) (none) (0))
        refine bodyPost_ret (v := .tuple #[ndV ({ m with ph := 2, pos := 0, left := 0, bad := false }) p, hpV (0) (zF) (none) (0)]) ?_ rfl ⟨p, none, 0, by rw [e.out], by rw [e.out]; exact fun u k k2 => ⟨(h0 u k).lists hL.out.1 hL.out.2.1 hL.out.2.2.1 hL.out.2.2.2.1 hL.out.2.2.2.2, Nums.nil _, fun h => ⟨(by rw [show _ = n.box from hL.out.2.1]; exact h.box), (by rw [show _ = n.fifo from hL.out.2.2.1]; exact h.fifo)⟩⟩, Z3⟩
        exact results_both Tryz.results203 _ _ gr gh _ _ rfl rfl Z1 Z2 rfl rfl

set_option maxHeartbeats 16000000 in
/-- impl.inBody of one that falls silent. -/
theorem implBodyLose (n : Nd) (p : NdP) (l : Int) (w : World) (Y : Nat → Prop) (a0 : World) (h0 : NdY Y n p a0) (ha0 : Kp Y a0 w) (hE : ErrHeld w) (hok : nodeB n = true) (hl : l = 0 ∨ l = 1) (h5r : n.run ≠ 5) (hr : 0 ≤ n.run ∧ n.run ≤ 11) (hs : n.got.size ≤ 98) (htx : n.tx = true) (hk : l ≠ nextV n) (hl2 : l = 0 ∧ n.got.size ≤ 12) :
    Calls Tryz.prog 203 #[ndV n p, .int .i64 l] w (SampX Y a0 (NdA n p) (wholeN (hearN ({ n with tx := false }) l), 0, zF) w) := by
  have hm := h0 w ha0
  replace htx := Lib.hid htx
  replace hk := Lib.hid hk
  replace hl2 := Lib.hid hl2
  have h5' : (n.run == 5) = false := beq_eq_false_iff_ne.2 h5r
  clear h5r
  have X := N3.made (ndC n p) w
  go_enter Tryz.func203, Tryz.ntmps203
  go_upto_region 1 with fail
  generalize World.alloc _ _ = W at X ⊢
  generalize w.heap.size + 1 + 1 = gh at X ⊢
  generalize w.heap.size + 1 = gr at X ⊢
  generalize w.heap.size = g at X ⊢
  have c9 : W.cell? ⟨g, 9, none⟩ = some (.int .i64 n.run) := X.cell 9
  go_wp2_with (refine Nx.take ⟨X.blk, X.bel⟩ rfl rfl rfl ?_)
  clear c9
  refine (implLose n p l _ (hm.below X.bel) hok htx.out hk.out hl2.out.1 hl2.out.2).mono ?_
  rintro e w2 ⟨rfl, b⟩
  replace X := X.below b
  clear b
  go_wp2_with fail
  refine (implHear ({ n with tx := false }) p l _ hl hr hs).mono ?_
  rintro e w3 ⟨rfl, b⟩
  replace X := X.below b
  clear b
  go_upto_region 5 with (refine wpList_put X.blk rfl rfl rfl rfl rfl ?_)
  replace X : N3 g gr gh (ndC (hearN ({ n with tx := false }) l) p) w _ := X.put _
  generalize World.setRow _ _ _ = W5 at X ⊢
  have hsz1 : (hearN ({ n with tx := false }) l).got.size ≤ maxLen := by have := hear_size ({ n with tx := false }) l; have h2 : n.got.size ≤ 98 := hs; have h3 : (hearN ({ n with tx := false }) l).got.size = n.got.size + 1 := this; unfold maxLen; omega
  obtain ⟨m, hm1⟩ : ∃ m : Nd, m = (hearN ({ n with tx := false }) l) := ⟨_, rfl⟩
  rw [← hm1] at X
  have hL : m.fr = n.fr ∧ m.box = n.box ∧ m.fifo = n.fifo ∧ m.flt = n.flt ∧ m.got.size ≤ maxLen := by rw [hm1]; exact ⟨rfl, rfl, rfl, rfl, hsz1⟩
  replace hm1 := Lib.hid hm1
  replace hL := Lib.hid hL
  by_cases h5 : m.run = 5
  · have e := Lib.hid (show wholeN (hearN ({ n with tx := false }) l) = m from by rw [← hm1.out]; unfold wholeN; rw [if_neg (fun k => k.2 h5)])
    have c9 : W5.cell? ⟨g, 9, none⟩ = some (.int .i64 5) := (X.cell 9).trans (by rw [← h5]; rfl)
    clear h5
    go_upto_region 6 with fail
    clear c9
    go_wp2_with (first | (refine Nx.take ⟨X.blk, X.bel⟩ rfl rfl rfl ?_) | (refine wpList_put X.res rfl rfl rfl rfl rfl ?_) | (refine wpList_tell (k := 0) (f := zF) (ad := none) (cd := 0) (X.fin (ndC (m) p) #[]).1 rfl rfl rfl rfl rfl ?_))
    obtain ⟨-, Z1, Z2, Z3⟩ := X.fin (ndC (m) p) (hpC (0) (zF) (none) (0))
    refine bodyPost_ret (v := .tuple #[ndV (m) p, hpV (0) (zF) (none) (0)]) ?_ rfl ⟨p, none, 0, by rw [e.out], by rw [e.out]; exact fun u k k2 => ⟨(h0 u k).lists hL.out.1 hL.out.2.1 hL.out.2.2.1 hL.out.2.2.2.1 hL.out.2.2.2.2, Nums.nil _, fun h => ⟨(by rw [show _ = n.box from hL.out.2.1]; exact h.box), (by rw [show _ = n.fifo from hL.out.2.2.1]; exact h.fifo)⟩⟩, Z3⟩
    exact results_both Tryz.results203 _ _ gr gh _ _ rfl rfl Z1 Z2 rfl rfl
  · have h5' : (m.run == 5) = false := beq_eq_false_iff_ne.2 h5
    replace h5 := Lib.hid h5
    have c9 : W5.cell? ⟨g, 9, none⟩ = some (.int .i64 m.run) := X.cell 9
    have c8 : W5.cell? ⟨g, 8, none⟩ = some (.string m.got) := X.cell 8
    go_wp2_with fail
    refine (implWhole m.got _ hL.out.2.2.2.2).mono ?_
    rintro e w6 ⟨rfl, b⟩
    replace X := X.below b
    clear b c8 c9
    cases hw : wholeB m.got
    · have e := Lib.hid (show wholeN (hearN ({ n with tx := false }) l) = m from by rw [← hm1.out]; unfold wholeN; rw [if_neg (fun k => by rw [hw] at k; exact absurd k.1 (by decide))])
      clear hw
      go_upto_region 6 with fail
      go_wp2_with (first | (refine Nx.take ⟨X.blk, X.bel⟩ rfl rfl rfl ?_) | (refine wpList_put X.res rfl rfl rfl rfl rfl ?_) | (refine wpList_tell (k := 0) (f := zF) (ad := none) (cd := 0) (X.fin (ndC (m) p) #[]).1 rfl rfl rfl rfl rfl ?_))
      obtain ⟨-, Z1, Z2, Z3⟩ := X.fin (ndC (m) p) (hpC (0) (zF) (none) (0))
      refine bodyPost_ret (v := .tuple #[ndV (m) p, hpV (0) (zF) (none) (0)]) ?_ rfl ⟨p, none, 0, by rw [e.out], by rw [e.out]; exact fun u k k2 => ⟨(h0 u k).lists hL.out.1 hL.out.2.1 hL.out.2.2.1 hL.out.2.2.2.1 hL.out.2.2.2.2, Nums.nil _, fun h => ⟨(by rw [show _ = n.box from hL.out.2.1]; exact h.box), (by rw [show _ = n.fifo from hL.out.2.2.1]; exact h.fifo)⟩⟩, Z3⟩
      exact results_both Tryz.results203 _ _ gr gh _ _ rfl rfl Z1 Z2 rfl rfl
    · have e0 := Lib.hid (show wholeN (hearN ({ n with tx := false }) l) = { m with ph := 2, pos := 0, left := 0, bad := !m.tx && decide (rdCode m.got ≠ 0) } from by rw [← hm1.out]; unfold wholeN; rw [if_pos ⟨hw, h5.out⟩])
      clear hw
      have c8 : w6.cell? ⟨g, 8, none⟩ = some (.string m.got) := X.cell 8
      go_wp2_with fail
      refine (implRead m.got _ hL.out.2.2.2.2 (hE.below X.bel)).mono ?_
      rintro e w7 ⟨v, rfl, O, b⟩
      obtain ⟨av, cv, rfl, -⟩ := O.nums
      replace X := X.below b
      clear b c8 O
      have bb := below_more (Below.refl w7.heap.size w7) (.cells #[.int .i64 (rdId m.got), .bool (rdRm m.got), .int .i64 (rdLn m.got), .slice av (rdD m.got).length cv] 26)
      replace X := X.below bb
      clear bb
      go_upto_region 8 with fail
      generalize w7.alloc _ = W8 at X ⊢
      have c0 : W8.cell? ⟨g, 0, none⟩ = some (.int .i64 m.ph) := X.cell 0
      have c3 : W8.cell? ⟨g, 3, none⟩ = some (.bool m.bad) := X.cell 3
      have c11 : W8.cell? ⟨g, 11, none⟩ = some (.int .i64 m.pos) := X.cell 11
      have c12 : W8.cell? ⟨g, 12, none⟩ = some (.int .i64 m.left) := X.cell 12
      have f0 := X.free 0
      have f3 := X.free 3
      have f11 := X.free 11
      have f12 := X.free 12
      have c1 : W8.cell? ⟨g, 1, none⟩ = some (.bool m.tx) := X.cell 1
      rcases (Bool.eq_false_or_eq_true m.tx).symm with ht | ht
      · by_cases hc : rdCode m.got = 0
        · have hc' : (rdCode m.got != 0) = false := by rw [hc]; rfl
          have e := Lib.hid (e0.out.trans (show _ = { m with ph := 2, pos := 0, left := 0, bad := false } from by rw [ht, decide_eq_false (fun k => k hc)]; rfl))
          rw [ht] at c1
          clear ht hc e0
          go_upto_region 9 with fail
          clear c0 c1 c3 c11 c12 f0 f3 f11 f12
          replace X : N3 g gr gh (ndC ({ m with ph := 2, pos := 0, left := 0, bad := false }) p) w _ := ((((X.set 0 (.int .i64 2)).set 11 (.int .i64 0)).set 12 (.int .i64 0)).set 3 (.bool false))
          generalize World.setCell _ _ _ = W9 at X ⊢
          go_wp2_with (first | (refine Nx.take ⟨X.blk, X.bel⟩ rfl rfl rfl ?_) | (refine wpList_put X.res rfl rfl rfl rfl rfl ?_) | (refine wpList_tell (k := 0) (f := zF) (ad := none) (cd := 0) (X.fin (ndC ({ m with ph := 2, pos := 0, left := 0, bad := false }) p) #[]).1 rfl rfl rfl rfl rfl ?_))
          obtain ⟨-, Z1, Z2, Z3⟩ := X.fin (ndC ({ m with ph := 2, pos := 0, left := 0, bad := false }) p) (hpC (0) (zF) (none) (0))
          refine bodyPost_ret (v := .tuple #[ndV ({ m with ph := 2, pos := 0, left := 0, bad := false }) p, hpV (0) (zF) (none) (0)]) ?_ rfl ⟨p, none, 0, by rw [e.out], by rw [e.out]; exact fun u k k2 => ⟨(h0 u k).lists hL.out.1 hL.out.2.1 hL.out.2.2.1 hL.out.2.2.2.1 hL.out.2.2.2.2, Nums.nil _, fun h => ⟨(by rw [show _ = n.box from hL.out.2.1]; exact h.box), (by rw [show _ = n.fifo from hL.out.2.2.1]; exact h.fifo)⟩⟩, Z3⟩
          exact results_both Tryz.results203 _ _ gr gh _ _ rfl rfl Z1 Z2 rfl rfl
        · have hc' : (rdCode m.got != 0) = true := bne_iff_ne.2 hc
          have e := Lib.hid (e0.out.trans (show _ = { m with ph := 2, pos := 0, left := 0, bad := true } from by rw [ht, decide_eq_true hc]; rfl))
          rw [ht] at c1
          clear ht hc e0
          go_upto_region 9 with fail
          clear c0 c1 c3 c11 c12 f0 f3 f11 f12
          replace X : N3 g gr gh (ndC ({ m with ph := 2, pos := 0, left := 0, bad := true }) p) w _ := ((((X.set 0 (.int .i64 2)).set 11 (.int .i64 0)).set 12 (.int .i64 0)).set 3 (.bool true))
          generalize World.setCell _ _ _ = W9 at X ⊢
          go_wp2_with (first | (refine Nx.take ⟨X.blk, X.bel⟩ rfl rfl rfl ?_) | (refine wpList_put X.res rfl rfl rfl rfl rfl ?_) | (refine wpList_tell (k := 0) (f := zF) (ad := none) (cd := 0) (X.fin (ndC ({ m with ph := 2, pos := 0, left := 0, bad := true }) p) #[]).1 rfl rfl rfl rfl rfl ?_))
          obtain ⟨-, Z1, Z2, Z3⟩ := X.fin (ndC ({ m with ph := 2, pos := 0, left := 0, bad := true }) p) (hpC (0) (zF) (none) (0))
          refine bodyPost_ret (v := .tuple #[ndV ({ m with ph := 2, pos := 0, left := 0, bad := true }) p, hpV (0) (zF) (none) (0)]) ?_ rfl ⟨p, none, 0, by rw [e.out], by rw [e.out]; exact fun u k k2 => ⟨(h0 u k).lists hL.out.1 hL.out.2.1 hL.out.2.2.1 hL.out.2.2.2.1 hL.out.2.2.2.2, Nums.nil _, fun h => ⟨(by rw [show _ = n.box from hL.out.2.1]; exact h.box), (by rw [show _ = n.fifo from hL.out.2.2.1]; exact h.fifo)⟩⟩, Z3⟩
          exact results_both Tryz.results203 _ _ gr gh _ _ rfl rfl Z1 Z2 rfl rfl
      · have e := Lib.hid (e0.out.trans (show _ = { m with ph := 2, pos := 0, left := 0, bad := false } from by rw [ht]; rfl))
        rw [ht] at c1
        clear ht e0
        go_upto_region 9 with fail
        clear c0 c1 c3 c11 c12 f0 f3 f11 f12
        replace X : N3 g gr gh (ndC ({ m with ph := 2, pos := 0, left := 0, bad := false }) p) w _ := ((((X.set 0 (.int .i64 2)).set 11 (.int .i64 0)).set 12 (.int .i64 0)).set 3 (.bool false))
        generalize World.setCell _ _ _ = W9 at X ⊢
        go_wp2_with (first | (refine Nx.take ⟨X.blk, X.bel⟩ rfl rfl rfl ?_) | (refine wpList_put X.res rfl rfl rfl rfl rfl ?_) | (refine wpList_tell (k := 0) (f := zF) (ad := none) (cd := 0) (X.fin (ndC ({ m with ph := 2, pos := 0, left := 0, bad := false }) p) #[]).1 rfl rfl rfl rfl rfl ?_))
        obtain ⟨-, Z1, Z2, Z3⟩ := X.fin (ndC ({ m with ph := 2, pos := 0, left := 0, bad := false }) p) (hpC (0) (zF) (none) (0))
        refine bodyPost_ret (v := .tuple #[ndV ({ m with ph := 2, pos := 0, left := 0, bad := false }) p, hpV (0) (zF) (none) (0)]) ?_ rfl ⟨p, none, 0, by rw [e.out], by rw [e.out]; exact fun u k k2 => ⟨(h0 u k).lists hL.out.1 hL.out.2.1 hL.out.2.2.1 hL.out.2.2.2.1 hL.out.2.2.2.2, Nums.nil _, fun h => ⟨(by rw [show _ = n.box from hL.out.2.1]; exact h.box), (by rw [show _ = n.fifo from hL.out.2.2.1]; exact h.fifo)⟩⟩, Z3⟩
        exact results_both Tryz.results203 _ _ gr gh _ _ rfl rfl Z1 Z2 rfl rfl
end Go.Proofs.YtngcekegngmedaaGreatDoor

/- Each phase's step of the program answers what sampN tells, or breaks off. -/

set_option linter.unusedVariables false
set_option linter.unusedSimpArgs false
set_option maxRecDepth 20000
namespace Go.Proofs.YtngcekegngmedaaGreatDoor
open Go.RowKit

section
variable {Y : Nat → Prop} {n r : Nd} {p : NdP} {k : Int} {a0 w w' : World} {e : Ending}
theorem Told.x (h : Told r k p w e w') (h0 : NdY Y n p a0) (ha0 : Kp Y a0 w) (e1 : r.fr = n.fr) (e2 : r.box = n.box) (e3 : r.fifo = n.fifo) (e4 : r.flt = n.flt) (hs : r.got.size ≤ maxLen) : SampX Y a0 (NdA n p) (r, k, zF) w e w' :=
  ⟨p, none, 0, h.1, fun u km k2 => ⟨(h0 u km).lists e1 e2 e3 e4 hs, Nums.nil _, fun h => ⟨by rw [e2]; exact h.box, by rw [e3]; exact h.fifo⟩⟩, h.2⟩
theorem TellF.x (h : TellF r k n p w e w') (h0 : NdY Y n p a0) (ha0 : Kp Y a0 w) (e2 : r.box = n.box) (e3 : r.fifo = n.fifo) (e4 : r.flt = n.flt) (hs : r.got.size ≤ maxLen) : SampX Y a0 (NdA n p) (r, k, zF) w e w' := by
  obtain ⟨q, ht, h | h⟩ := h
  · obtain ⟨e1, rfl⟩ := h
    exact ht.x h0 ha0 e1 e2 e3 e4 hs
  · obtain ⟨e1, rfl⟩ := h
    refine ⟨_, none, 0, ht.1, fun u km k2 => ⟨?_, Nums.nil _, fun h => ⟨by rw [e2]; exact h.box, by rw [e3]; exact h.fifo⟩⟩, ht.2⟩
    have M := h0 u km
    exact ⟨by rw [e1]; exact Nums.nil _, by rw [e2]; exact M.box, by rw [e3]; exact M.fifo, by rw [e4]; exact M.flt, hs⟩
end
theorem cdN_lists (n : Nd) (a b : Int) : (cdN n a b).fr = n.fr ∧ (cdN n a b).box = n.box ∧ (cdN n a b).fifo = n.fifo ∧ (cdN n a b).flt = n.flt ∧ (cdN n a b).got = n.got := by unfold cdN; split <;> exact ⟨rfl, rfl, rfl, rfl, rfl⟩
theorem offN_lists (n : Nd) (l : Int) : (offN n l).1.box = n.box ∧ (offN n l).1.fifo = n.fifo ∧ (offN n l).1.flt = n.flt ∧ (offN n l).1.got = n.got ∧ (offN n l).2.2 = zF := by
  unfold offN
  by_cases h1 : l = 0
  · simp only [if_pos h1, and_self]
  · by_cases h2 : n.run + 1 < 11
    · simp only [if_neg h1, if_pos h2, and_self]
    · by_cases h3 : 0 < n.left - 1
      · simp only [if_neg h1, if_neg h2, if_pos h3, and_self]
      · simp only [if_neg h1, if_neg h2, if_neg h3, and_self]
/-- Which function a phase's step is; what it answers. -/
def StepsTo (Y : Nat → Prop) (n : Nd) (p : NdP) (l : Int) (a0 : World) (f : FuncId) : Prop :=
  (∀ W : World, (Instr.index 167 stepsV (.int .i64 n.ph)).run Tryz.prog W = .ok (.func (.func f) #[] #[]) W) ∧ (∀ (args : Array Value) (W : World), (callFunc f args).run Tryz.prog W = .ok (.enter f args) W) ∧
  ((∀ w, Kp Y a0 w → ErrHeld w → Calls Tryz.prog f #[ndV n p, .int .i64 l] w (SampX Y a0 (NdA n p) (sampN n l) w)) ∨ (sampN n l = brkN n ∧ ∀ w, Kp Y a0 w → ErrHeld w → Calls Tryz.prog f #[ndV n p, .int .i64 l] w (Broke w)))

theorem steps0 (Y : Nat → Prop) (n : Nd) (p : NdP) (l : Int) (a0 : World) (h0 : NdY Y n p a0) (hok : nodeB n = true) (hl : l = 0 ∨ l = 1) (hp : n.ph = 0) : StepsTo Y n p l a0 202 := by
  obtain ⟨R, W1⟩ := right_iff.1 hok
  have e : sampN n l = (if l = 1 then (n, 0, zF) else ({ begN n (decide (0 < n.box.length)) with fr := if 0 < n.box.length then nthF n.box 0 else zF }, 0, zF)) := by unfold sampN; rw [if_pos hp]
  exact ⟨fun W => by rw [hp]; kernel_rfl, fun _ _ => by kernel_rfl, .inl fun w ha hE => by rw [e]; exact implInIdle n p l w Y a0 h0 ha hl⟩

theorem steps3 (Y : Nat → Prop) (n : Nd) (p : NdP) (l : Int) (a0 : World) (h0 : NdY Y n p a0) (hok : nodeB n = true) (hl : l = 0 ∨ l = 1) (hp : n.ph = 3) : StepsTo Y n p l a0 205 := by
  obtain ⟨R, W1⟩ := right_iff.1 hok
  have e : sampN n l = (cdN n 4 8, 0, zF) := by unfold sampN; rw [if_neg (by rw [hp]; decide)]; rw [if_neg (by rw [hp]; decide)]; rw [if_neg (by rw [hp]; decide)]; rw [if_neg (by rw [hp]; decide)]; unfold pauseN; rw [if_pos hp]; rfl
  obtain ⟨e1, e2, e3, e4, e5⟩ := cdN_lists n 4 8
  exact ⟨fun W => by rw [hp]; kernel_rfl, fun _ _ => by kernel_rfl, .inl fun w ha hE => by rw [e]; exact (implInFlag n p l w R.left).mono fun _ _ h => h.x h0 ha e1 e2 e3 e4 (by rw [e5]; exact h0.size)⟩

theorem steps4 (Y : Nat → Prop) (n : Nd) (p : NdP) (l : Int) (a0 : World) (h0 : NdY Y n p a0) (hok : nodeB n = true) (hl : l = 0 ∨ l = 1) (hp : n.ph = 4) : StepsTo Y n p l a0 206 := by
  obtain ⟨R, W1⟩ := right_iff.1 hok
  have e : sampN n l = (if l = 0 then { n with left := 8 } else cdN n 5 3, 0, zF) := by unfold sampN; rw [if_neg (by rw [hp]; decide)]; rw [if_neg (by rw [hp]; decide)]; rw [if_neg (by rw [hp]; decide)]; rw [if_neg (by rw [hp]; decide)]; unfold pauseN; rw [if_neg (by rw [hp]; decide)]; rw [if_pos hp]; rfl
  obtain ⟨e1, e2, e3, e4, e5⟩ := cdN_lists n 5 3
  refine ⟨fun W => by rw [hp]; kernel_rfl, fun _ _ => by kernel_rfl, .inl fun w ha hE => ?_⟩
  rw [e]
  refine (implInDelim n p l w hl R.left).mono fun _ _ h => h.x h0 ha ?_ ?_ ?_ ?_ ?_
  · split; rfl; exact e1
  · split; rfl; exact e2
  · split; rfl; exact e3
  · split; rfl; exact e4
  · split; exact h0.size; rw [e5]; exact h0.size

theorem steps5 (Y : Nat → Prop) (n : Nd) (p : NdP) (l : Int) (a0 : World) (h0 : NdY Y n p a0) (hok : nodeB n = true) (hl : l = 0 ∨ l = 1) (hp : n.ph = 5) : StepsTo Y n p l a0 207 := by
  obtain ⟨R, W1⟩ := right_iff.1 hok
  have e : sampN n l = ((if n.tx = true ∧ stV n.cs n.cg = 1 then (if lessV n.left = 0 then { n with ph := 6, left := 8, tx := false, fr := zF } else { n with left := lessV n.left }) else (if lessV n.left = 0 then { n with ph := 0, left := 0, tx := false, fr := zF } else { n with left := lessV n.left })), 0, zF) := by unfold sampN; rw [if_neg (by rw [hp]; decide)]; rw [if_neg (by rw [hp]; decide)]; rw [if_neg (by rw [hp]; decide)]; rw [if_neg (by rw [hp]; decide)]; unfold pauseN; rw [if_neg (by rw [hp]; decide)]; rw [if_neg (by rw [hp]; decide)]; rw [if_pos hp]; (repeat' split) <;> rfl
  refine ⟨fun W => by rw [hp]; kernel_rfl, fun _ _ => by kernel_rfl, .inl fun w ha hE => ?_⟩
  rw [e]
  refine (implInInter n p l w R.left hp).mono fun _ _ h => h.x h0 ha ?_ ?_ ?_ ?_
  · (repeat' split) <;> rfl
  · (repeat' split) <;> rfl
  · (repeat' split) <;> rfl
  · (repeat' split) <;> exact h0.size

theorem steps6 (Y : Nat → Prop) (n : Nd) (p : NdP) (l : Int) (a0 : World) (h0 : NdY Y n p a0) (hok : nodeB n = true) (hl : l = 0 ∨ l = 1) (hp : n.ph = 6) : StepsTo Y n p l a0 208 := by
  obtain ⟨R, W1⟩ := right_iff.1 hok
  have e : sampN n l = (if l = 0 then begN n false else cdN n 0 0, 0, zF) := by unfold sampN; rw [if_neg (by rw [hp]; decide)]; rw [if_neg (by rw [hp]; decide)]; rw [if_neg (by rw [hp]; decide)]; rw [if_neg (by rw [hp]; decide)]; unfold pauseN; rw [if_neg (by rw [hp]; decide)]; rw [if_neg (by rw [hp]; decide)]; rw [if_neg (by rw [hp]; decide)]; rw [if_pos hp]; rfl
  obtain ⟨e1, e2, e3, e4, e5⟩ := cdN_lists n 0 0
  refine ⟨fun W => by rw [hp]; kernel_rfl, fun _ _ => by kernel_rfl, .inl fun w ha hE => ?_⟩
  rw [e]
  refine (implInWait n p l w hl R.left).mono fun _ _ h => h.x h0 ha ?_ ?_ ?_ ?_ ?_
  · split; rfl; exact e1
  · split; rfl; exact e2
  · split; rfl; exact e3
  · split; rfl; exact e4
  · split; exact one_le_max; rw [e5]; exact h0.size

theorem steps7 (Y : Nat → Prop) (n : Nd) (p : NdP) (l : Int) (a0 : World) (h0 : NdY Y n p a0) (hok : nodeB n = true) (hl : l = 0 ∨ l = 1) (hp : n.ph = 7) : StepsTo Y n p l a0 209 := by
  obtain ⟨R, W1⟩ := right_iff.1 hok
  have e : sampN n l = offN n l := by unfold sampN; rw [if_neg (by rw [hp]; decide)]; rw [if_neg (by rw [hp]; decide)]; rw [if_neg (by rw [hp]; decide)]; rw [if_pos hp]
  obtain ⟨e2, e3, e4, e5, e6⟩ := offN_lists n l
  have e7 : offN n l = ((offN n l).1, (offN n l).2.1, zF) := by rw [← e6]
  exact ⟨fun W => by rw [hp]; kernel_rfl, fun _ _ => by kernel_rfl, .inl fun w ha hE => by rw [e, e7]; exact (implInOff n p l w hl R.left R.run hp).mono fun _ _ h => h.x h0 ha e2 e3 e4 (by rw [e5]; exact h0.size)⟩

theorem steps1 (Y : Nat → Prop) (n : Nd) (p : NdP) (l : Int) (a0 : World) (h0 : NdY Y n p a0) (hok : nodeB n = true) (hl : l = 0 ∨ l = 1) (hp : n.ph = 1) : StepsTo Y n p l a0 203 := by
  obtain ⟨R, W1⟩ := right_iff.1 hok
  have e : sampN n l = bodyN n l := by unfold sampN; rw [if_neg (by rw [hp]; decide)]; rw [if_pos hp]
  have W := W1 hp
  have nb := nextV_bd hok
  refine ⟨fun W => by rw [hp]; kernel_rfl, fun _ _ => by kernel_rfl, ?_⟩
  by_cases h5 : n.run = 5
  · by_cases hne : l = n.last
    · exact .inr ⟨by rw [e]; unfold bodyN; rw [if_pos h5, if_pos hne], fun w ha hE => implBodySix n p l w h5 hne⟩
    · exact .inl fun w ha hE => by rw [e]; unfold bodyN; rw [if_pos h5, if_neg hne]; exact implBodyFive n p l w Y a0 h0 ha hE hl h5 hne
  · by_cases hk : n.tx = true ∧ l ≠ nextV n
    · by_cases h2 : nextV n = 0 ∨ 12 < n.got.size
      · exact .inr ⟨by rw [e]; unfold bodyN; rw [if_neg h5, if_pos hk, if_pos h2], fun w ha hE => implBodyPart n p l w (h0 w ha) hok h5 hk.1 hk.2 (by rcases h2 with h2 | h2; left; omega; right; exact h2) R.size⟩
      · exact .inl fun w ha hE => by rw [e]; unfold bodyN; rw [if_neg h5, if_pos hk, if_neg h2]; exact implBodyLose n p l w Y a0 h0 ha hE hok hl h5 R.run R.size hk.1 hk.2 ⟨by omega, by omega⟩
    · exact .inl fun w ha hE => by rw [e]; unfold bodyN; rw [if_neg h5, if_neg hk]; exact implBodyKeep n p l w Y a0 h0 ha hE hok hl h5 R.run R.size (by cases ht : n.tx; exact .inl rfl; exact .inr (Classical.byContradiction fun k => hk ⟨ht, k⟩))

theorem steps2 (Y : Nat → Prop) (n : Nd) (p : NdP) (l : Int) (a0 : World) (h0 : NdY Y n p a0) (hok : nodeB n = true) (hl : l = 0 ∨ l = 1) (hA : NdA n p) (hp : n.ph = 2) : StepsTo Y n p l a0 204 := by
  obtain ⟨R, W1⟩ := right_iff.1 hok
  have e : sampN n l = tailN n l := by unfold sampN; rw [if_neg (by rw [hp]; decide)]; rw [if_neg (by rw [hp]; decide)]; rw [if_pos hp]
  have hpos := R.pos
  refine ⟨fun W => by rw [hp]; kernel_rfl, fun _ _ => by kernel_rfl, ?_⟩
  cases ht : tailB n l
  · refine .inl fun w ha hE => ?_
    rw [e]
    unfold tailN
    rw [if_neg (by rw [ht]; decide)]
    by_cases h9 : n.pos < 9
    · rw [if_pos h9]
      by_cases h8 : n.pos = 8
      · rcases (Bool.eq_false_or_eq_true n.tx).symm with htx | htx
        · rw [if_pos ⟨h8, htx⟩]
          exact implTailHeard n p l w Y a0 h0 ha hE hl ht h8 htx hA R.flt.1 (fifo_32 R.fifo) (fifo_short R.fifo)
        · rw [if_neg (fun k => by rw [htx] at k; cases k.2), h8]
          exact implTailEight n p l w Y a0 h0 ha hl ht h8 htx
      · rw [if_neg (fun k => h8 k.1)]
        exact implTailOn n p l w Y a0 h0 ha hl ht ⟨hpos.1, by omega⟩
    · rw [if_neg h9]
      have h9' : n.pos = 9 := by omega
      rcases (Bool.eq_false_or_eq_true n.tx).symm with htx | htx
      · rw [if_neg (by rw [htx]; decide)]
        exact implTailLast n p l w Y a0 h0 ha hl ht h9' htx
      · rw [if_pos htx]
        exact implTailSent n p l w Y a0 h0 ha hl ht h9' htx hA R.box
  · exact .inr ⟨by rw [e]; unfold tailN; rw [if_pos ht], fun w ha hE => implTailBreak n p l w hl ht⟩

theorem stepsTo (Y : Nat → Prop) (n : Nd) (p : NdP) (l : Int) (a0 : World) (h0 : NdY Y n p a0) (hok : nodeB n = true) (hl : l = 0 ∨ l = 1) (hA : NdA n p) : ∃ f, StepsTo Y n p l a0 f := by
  have hp := (nodeB_parts hok).1
  rcases (show n.ph = 0 ∨ n.ph = 1 ∨ n.ph = 2 ∨ n.ph = 3 ∨ n.ph = 4 ∨ n.ph = 5 ∨ n.ph = 6 ∨ n.ph = 7 by omega) with h | h | h | h | h | h | h | h
  · exact ⟨_, steps0 Y n p l a0 h0 hok hl h⟩
  · exact ⟨_, steps1 Y n p l a0 h0 hok hl h⟩
  · exact ⟨_, steps2 Y n p l a0 h0 hok hl hA h⟩
  · exact ⟨_, steps3 Y n p l a0 h0 hok hl h⟩
  · exact ⟨_, steps4 Y n p l a0 h0 hok hl h⟩
  · exact ⟨_, steps5 Y n p l a0 h0 hok hl h⟩
  · exact ⟨_, steps6 Y n p l a0 h0 hok hl h⟩
  · exact ⟨_, steps7 Y n p l a0 h0 hok hl h⟩
end Go.Proofs.YtngcekegngmedaaGreatDoor

/- The program's sampled, and Sampled: what sampN tells; Sampled's lists and its frame in rows of their own. -/

set_option linter.unusedVariables false
set_option linter.unusedSimpArgs false
set_option maxRecDepth 20000
namespace Go.Proofs.YtngcekegngmedaaGreatDoor
open Go.RowKit

/-- What Sampled answers. -/
def sampA (n : Nd) (l : Int) : Nd × Int × Frm := if (nodeB n && rng l 0 1) = true then sampN n l else (znd [], 0, zF)
/-- The answer's frame has a row of its own, behind it the node's lists have theirs. -/
def SampO (r : Nd × Int × Frm) (w : World) (e : Ending) (w' : World) : Prop :=
  ∃ (p : NdP) (ad : Option Addr) (cd : Nat) (j : NdJ) (b : Nat) (MB MF : List (Frm × Value)), e = .returned (.tuple #[ndV r.1 p, hpV r.2.1 r.2.2 ad cd]) ∧ OwnI w.heap.size r.2.2.D (.slice ad r.2.2.D.length cd) w'
    ∧ (∀ q, (Value.slice ad r.2.2.D.length cd).ownBlock = some q → q < b) ∧ w.heap.size ≤ b ∧ NdI j b w'.heap.size r.1 p MB MF w' ∧ Below w.heap.size w w'
theorem ownI_nil (B : Nat) (w : World) : OwnI B [] (.slice none 0 0) w := ⟨⟨rfl, .inl ⟨rfl, rfl⟩⟩, by simp⟩
theorem ownF_nil (B : Nat) (w : World) : OwnF B [] (.slice none 0 0) w := ⟨⟨rfl, .inl ⟨rfl, rfl⟩⟩, fun m hm => by cases hm⟩
theorem ndO_zero (B : Nat) (w : World) : NdO B B B B (znd []) (zp none 0) [] [] w :=
  ⟨ownI_nil _ _, ownF_nil _ _, ownF_nil _ _, ownP_nil _ _, rfl, rfl, fun i j hi => absurd hi (by simp), fun i j hi => absurd hi (by simp), (fun q hq => by cases hq), ⟨(fun q hq => by cases hq), (fun m hm => by cases hm)⟩, ⟨(fun q hq => by cases hq), (fun m hm => by cases hm)⟩, ⟨Nat.le_refl _, Nat.le_refl _, Nat.le_refl _⟩, Nat.zero_le _⟩
theorem small_right {n : Nd} (h : nodeB n = true) : Small n := by
  obtain ⟨R, -⟩ := right_iff.1 h
  have hb := boxB_iff.1 R.box
  refine ⟨frB_short R.fr, by omega, fun j hj => frB_short ?_, by have := fifo_32 R.fifo; omega, fifo_short R.fifo, by have := R.flt.1; omega⟩
  cases h2 : frB (nthF n.box j) with
  | true => rfl
  | false => have h3 := rk_neg h2; have h4 := (hb.2 j hj).1; omega
theorem ownLtI {B : Nat} {D : List Int} {v : Value} {w : World} (h : OwnI B D v w) : ∀ q, v.ownBlock = some q → q < w.heap.size := fun q hq => (h.1.lt q hq).2
theorem SampO.zero {w w' : World} (b : Below w.heap.size w w') : SampO (znd [], 0, zF) w (.returned (.tuple #[ndV (znd []) (zp none 0), hpV 0 zF none 0])) w' := by
  obtain ⟨j, h⟩ := (ndO_zero w.heap.size w').ndI3 b.size
  exact ⟨zp none 0, none, 0, j, w.heap.size, [], [], rfl, ownI_nil _ _, fun q hq => (by cases hq), Nat.le_refl _, h, b⟩
section
variable {g gh g2 : Nat} {n : Nd} {p : NdP} {k : Int} {f : Frm} {ad : Option Addr} {cd : Nat} {w0 w w' : World}
theorem Ans.row (h : Ans g gh n p k f ad cd w0 w) (D : Array Value) (h1 : g ≠ g2) (h2 : gh ≠ g2) (hB : w0.heap.size ≤ g2) : Ans g gh n p k f ad cd w0 (w.setRow g2 D) :=
  ⟨(setRow_other w g2 g D h1).trans h.nd, (setRow_other w g2 gh D h2).trans h.hp, below_setRow h.bel hB D⟩
theorem Ans.tookN (h : Ans g gh n p k f ad cd w0 w) {o : Oper} {a : Act} {x : Operand} (ho : o.op = .load 32 x) (hx : a.eval x = .pointer (some ⟨g, 0, none⟩)) : (execOp a.eval o).run Tryz.prog w = .ok (.value (ndV n p)) w := Nx.took (g := g) (w0 := w0) ⟨h.nd, h.bel⟩ ho hx
theorem Ans.tookH (h : Ans g gh n p k f ad cd w0 w) {o : Oper} {a : Act} {x : Operand} (ho : o.op = .load 36 x) (hx : a.eval x = .pointer (some ⟨gh, 0, none⟩)) : (execOp a.eval o).run Tryz.prog w = .ok (.value (hpV k f ad cd)) w := by
  unfold execOp
  simp only [ho, hx, Instr.loadAt, Instr.sureAddr, Sem.run_bind, Sem.run_pure, Result.andThen_ok, run_loadVar_row w gh 36 36 (hpC k f ad cd) (0, 0) _ h.hp Tryz.underlying36 rfl (by kernel_rfl)]
end
theorem K3.grown {gr gh a : Nat} {C E : Array Value} {w0 w w' : World} (h : K3 gr gh C E w0 w) (k : w.grownBy w' (some a)) (h1 : gr ≠ a) (h2 : gh ≠ a) (hB : w0.heap.size ≤ a) : K3 gr gh C E w0 w' :=
  ⟨(k.block gr h.lt.1 (fun e => h1 (Option.some.inj e))).trans h.res, (k.block gh h.lt.2 (fun e => h2 (Option.some.inj e))).trans h.hap, h.bel.grown k h.bel.size (fun q e => by cases e; exact hB), h.hr, h.hh, h.rh⟩
theorem results_put {a : Act} {d : Tmp} {v : Value} (h4 : d ≠ 4) (h5 : d ≠ 5) : results Tryz.f78 (a.put (some d) v).tmps = results Tryz.f78 a.tmps := by
  simp [results, Tryz.results78, Act.put, Array.getElem?_setIfInBounds, h4, h5]
theorem leaves_same {P : Program} {fn : Func} {tmps tmps' : Array Value} {R : Ending → World → Prop} (h : results fn tmps = results fn tmps') : ∀ (ds : List Deferred) (u : FrameMode) (w : World), Leaves P fn tmps R ds u w → Leaves P fn tmps' R ds u w := by
  intro ds
  induction ds with
  | nil =>
    intro u w hl
    cases u with
    | run => exact hl
    | returning => obtain ⟨v, hv, hR⟩ := hl; exact ⟨v, by rw [← h]; exact hv, hR⟩
    | panicking c => exact hl
  | cons d ds ih =>
    intro u w hl
    obtain ⟨h1, fv, cap, f, args, h2, h3, h4⟩ := hl
    refine ⟨h1, fv, cap, f, args, h2, h3, h4.mono ?_⟩
    intro e u' w' k
    cases e with
    | returned v => exact ih _ _ k
    | panicked c => exact ih _ _ k
    | outgrown => exact k
theorem brkN_fr (n : Nd) : (brkN n).2.2 = zF := by unfold brkN; split <;> rfl
theorem samp_fr {n : Nd} (l : Int) (h : frB n.fr = true) : frB (sampN n l).2.2 = true := by
  have hz := zF_ok
  have hb : frB (brkN n).2.2 = true := by rw [brkN_fr]; exact hz
  unfold sampN
  split
  · split <;> exact hz
  split
  · unfold bodyN
    split
    · split
      · exact hb
      · exact hz
    · split
      · split
        · exact hb
        · exact hz
      · exact hz
  split
  · unfold tailN
    split
    · exact hb
    · split
      · split
        · unfold heardN
          split
          · exact rdF_ok _
          · exact hz
        · exact hz
      · split
        · exact h
        · exact hz
  split
  · rw [(offN_lists n l).2.2.2.2]; exact hz
  · exact hz
theorem Small.lists {n m : Nd} (h : Small n) (e1 : m.fr = n.fr) (e2 : m.box = n.box) (e3 : m.fifo = n.fifo) (e4 : m.flt = n.flt) : Small m :=
  ⟨by rw [e1]; exact h.dat, by rw [e2]; exact h.box, by rw [e2]; exact h.box8, by rw [e3]; exact h.fifo, by rw [e3]; exact h.fifo8, by rw [e4]; exact h.flt⟩
theorem op_panic {P : Program} {K : Act → World → Prop} {Q : Exit → Act → World → Prop} {o : Oper} {a : Act} {w : World} (f : FuncId) (args : Array Value) (hx : (execOp a.eval o).run P w = .ok (.enter f args) w)
    (h : Calls P f args w fun e w' => ∃ ch, e = .panicked ch ∧ Q (.panic ch) a w') : o.wp P a w K Q := by
  unfold Oper.wp
  rw [hx, Oper.upon_enter]
  exact h.mono fun e w' h' => by
    obtain ⟨ch, he, k⟩ := h'
    subst he
    exact k

set_option maxHeartbeats 16000000 in
/-- impl.sampled. -/
theorem implSamp (n : Nd) (p : NdP) (l : Int) (Y : Nat → Prop) (a0 w : World) (h0 : NdY Y n p a0) (ha : Kp Y a0 w) (hok : nodeB n = true) (hl : l = 0 ∨ l = 1) (hE : ErrHeld w) (hNA : NdA n p) :
    Calls Tryz.prog 78 #[ndV n p, .int .i64 l] w (SampX Y a0 (NdA n p) (sampN n l) w) := by
  have hmf : ∀ (fn : Fn) (first cap : Array Value) (w : World), (Instr.makeFunc fn first cap).run Tryz.prog w = .ok (.func fn first cap) w := fun _ _ _ _ => rfl
  have X := N3.made (ndC n p) w
  go_enter_defers Tryz.func78, Tryz.ntmps78
  go_upto_region 2 with fail
  generalize World.alloc _ _ = W at X ⊢
  generalize w.heap.size + 1 + 1 = gh at X ⊢
  generalize w.heap.size + 1 = gr at X ⊢
  generalize w.heap.size = g at X ⊢
  obtain ⟨f, hf1, hf3, hf2⟩ := stepsTo Y n p l a0 h0 hok hl hNA
  replace hok := Lib.hid hok
  replace hf1 := Lib.hid hf1
  replace hf3 := Lib.hid hf3
  replace hf2 := Lib.hid hf2
  refine wp_region_held (S := fun u => Nx g n p w u) (by kernel_rfl) ?_
  replace X := X.drew'
  generalize ({ W with drawn := W.drawn + 1 } : World) = V at X ⊢
  refine take_at 1 _ (.pointer (some ⟨g, 0, none⟩)) rfl rfl (by kernel_rfl) (by kernel_rfl) (by kernel_rfl) (fun c a w h => leaves_same (results_put (by decide) (by decide)) _ _ _ h) (.inl ⟨rfl, fun u hu => by go_simp⟩) X.nx ?_
  simp only [Act.put, List.setIfInBounds_toArray, List.set_cons_zero, List.set_cons_succ]
  refine take_at 2 _ (.int .i64 n.ph) rfl rfl (by kernel_rfl) (by kernel_rfl) (by kernel_rfl) (fun c a w h => leaves_same (results_put (by decide) (by decide)) _ _ _ h) (.inl ⟨rfl, fun u hu => by have d := hu.cells.1; go_simp⟩) X.nx ?_
  simp only [Act.put, List.setIfInBounds_toArray, List.set_cons_zero, List.set_cons_succ]
  refine take_at 4 _ (ndV n p) rfl rfl (by kernel_rfl) (by kernel_rfl) (by kernel_rfl) (fun c a w h => leaves_same (results_put (by decide) (by decide)) _ _ _ h) (.inl ⟨rfl, fun u hu => hu.took rfl rfl⟩) X.nx ?_
  simp only [Act.put, List.setIfInBounds_toArray, List.set_cons_zero, List.set_cons_succ]
  refine take_at 5 _ (.int .i64 l) rfl rfl (by kernel_rfl) (by kernel_rfl) (by kernel_rfl) (fun c a w h => leaves_same (results_put (by decide) (by decide)) _ _ _ h) (.inl ⟨rfl, fun u hu => by go_simp⟩) X.nx ?_
  simp only [Act.put, List.setIfInBounds_toArray, List.set_cons_zero, List.set_cons_succ]
  refine call_at 0 _ 155 #[] rfl rfl (by kernel_rfl) rfl (by go_simp) ?_
  refine (implSteps _).mono ?_
  rintro e w5 ⟨rfl, b⟩
  replace X := X.below b
  clear b
  refine ⟨_, rfl, X.nx, ?_⟩
  simp only [Act.put, List.setIfInBounds_toArray, List.set_cons_zero, List.set_cons_succ]
  refine value_at 3 _ (.func (.func f) #[] #[]) rfl rfl (by kernel_rfl) rfl (stepAt (hf1.out _) rfl rfl rfl) X.nx ?_
  simp only [Act.put, List.setIfInBounds_toArray, List.set_cons_zero, List.set_cons_succ]
  rcases hf2.out with hok2 | ⟨hbk, hok2⟩
  · refine call_at 6 _ f #[ndV n p, .int .i64 l] rfl rfl (by kernel_rfl) rfl (by have h3 := hf3.out; go_simp) ?_
    have hlt := X.lt
    have hw5 := X.bel.size
    refine (hok2 _ (from0 ha X.bel) (hE.below X.bel)).mono ?_
    rintro e w6 ⟨p5, ad5, cd5, rfl, hk5, b⟩
    replace X := X.below b
    clear b
    refine ⟨_, rfl, X.nx, ?_⟩
    simp only [Act.put, List.setIfInBounds_toArray, List.set_cons_zero, List.set_cons_succ]
    generalize hr6 : sampN n l = r at hk5 ⊢
    replace hr6 := Lib.hid hr6
    obtain ⟨n6, k6, f6⟩ := r
    dsimp only at hk5 ⊢
    refine take_at 7 _ (ndV n6 p5) rfl rfl (by kernel_rfl) (by kernel_rfl) (by kernel_rfl) (fun c a w h => leaves_same (results_put (by decide) (by decide)) _ _ _ h) (.inl ⟨rfl, fun u hu => by go_simp⟩) X.nx ?_
    simp only [Act.put, List.setIfInBounds_toArray, List.set_cons_zero, List.set_cons_succ]
    refine take_at 8 _ (hpV k6 f6 ad5 cd5) rfl rfl (by kernel_rfl) (by kernel_rfl) (by kernel_rfl) (fun c a w h => leaves_same (results_put (by decide) (by decide)) _ _ _ h) (.inl ⟨rfl, fun u hu => by go_simp⟩) X.nx ?_
    simp only [Act.put, List.setIfInBounds_toArray, List.set_cons_zero, List.set_cons_succ]
    refine held_row 9 gr (ndC n6 p5) rfl (by kernel_rfl) rfl rfl rfl rfl rfl X.res (by kernel_rfl) rfl (ndC_one _ _) (X.nxR _) ?_
    refine held_row 10 gh (hpC k6 f6 ad5 cd5) rfl (by kernel_rfl) rfl rfl rfl rfl rfl (X.fin _ #[]).1 (by kernel_rfl) rfl (hpC_one _ _ _ _) (X.nxH _ _) ?_
    refine wpAnyH_done (by kernel_rfl) ?_ _
    have hmid := X.upFin (ndC n6 p5) (hpC k6 f6 ad5 cd5) hlt.2.1 hlt.2.2
    have K : K3 gr gh (ndC n6 p5) (hpC k6 f6 ad5 cd5) w ((w6.setRow gr (ndC n6 p5)).setRow gh (hpC k6 f6 ad5 cd5)) := ((K3.mk X.res X.hap X.bel X.hr X.hh X.rh).setR _).setH _
    clear X
    generalize World.setRow _ _ _ = w7 at K hmid ⊢
    go_wp2_with fail
    refine leaves_cons (f := 153) (args := #[.pointer (some ⟨g, 0, none⟩), .pointer (some ⟨gr, 0, none⟩), .pointer (some ⟨gh, 0, none⟩)]) (by simp) (by simp [go_sem]) ?_
    refine (closBack g gr gh w7).mono ?_
    rintro e u' w8 ⟨rfl, rfl, b8⟩
    replace K := K.below b8
    refine (show Leaves _ _ _ _ [] .returning _ from ⟨.tuple #[ndV n6 p5, hpV k6 f6 ad5 cd5], results_both Tryz.results78 _ _ gr gh _ _ rfl rfl K.res K.hap rfl rfl, ?_⟩)
    rw [hr6.out]
    exact ⟨p5, ad5, cd5, rfl, fun u k k2 => hk5 u k ((hmid.trans (Up.ofBelow b8)).trans (k2.higher hw5)), K.bel⟩
  · refine held_op 6 rfl (by kernel_rfl) rfl (op_panic f #[ndV n p, .int .i64 l] (by have h3 := hf3.out; go_simp) ?_)
    refine (hok2 _ (from0 ha X.bel) (hE.below X.bel)).mono ?_
    rintro e w6 ⟨rfl, b⟩
    replace X := X.below b
    clear b
    refine ⟨_, rfl, ?_⟩
    rw [hbk]
    refine leaves_cons (f := 153) (args := #[.pointer (some ⟨g, 0, none⟩), .pointer (some ⟨gr, 0, none⟩), .pointer (some ⟨gh, 0, none⟩)]) (by simp) (by simp [go_sem]) ?_
    refine (closCaught g gr gh n p w w6 ⟨X.res, X.hap, X.bel, X.hr, X.hh, X.rh⟩ X.blk).mono ?_
    rintro e u' w8 ⟨rfl, rfl, K9⟩
    obtain ⟨l1, l2, l3, l4, l5⟩ := brkN_lists n
    have hfz := brkN_fr n
    generalize brkN n = r at *
    obtain ⟨n6, k6, f6⟩ := r
    dsimp only at *
    subst hfz
    refine (show Leaves _ _ _ _ [] .returning _ from ⟨.tuple #[ndV n6 p, hpV k6 zF none 0], results_both Tryz.results78 _ _ gr gh _ _ rfl rfl K9.res K9.hap rfl rfl, ?_⟩)
    exact ⟨p, none, 0, rfl, fun u k k2 => ⟨(h0 u k).lists l1 l2 l3 l4 l5, Nums.nil _, fun h => ⟨by rw [l2]; exact h.box, by rw [l3]; exact h.fifo⟩⟩, K9.bel⟩
set_option maxHeartbeats 16000000 in
/-- impl.Sampled. -/
theorem implSampled (n : Nd) (p : NdP) (l : Int) (w : World) (hm : NdM n p w) (hE : ErrHeld w) (hNA : NdA n p) :
    Calls Tryz.prog 14 #[ndV n p, .int .i64 l] w (SampO (sampA n l) w) := by
  have X := N3.made (ndC n p) w
  go_enter Tryz.func14, Tryz.ntmps14
  go_upto_region 1 with fail
  generalize World.alloc _ _ = W at X ⊢
  generalize w.heap.size + 1 + 1 = gh at X ⊢
  generalize w.heap.size + 1 = gr at X ⊢
  generalize w.heap.size = g at X ⊢
  go_wp2_with (refine Nx.take ⟨X.blk, X.bel⟩ rfl rfl rfl ?_)
  refine (implNodeOk n p _ (hm.below X.bel)).mono ?_
  rintro e w2 ⟨rfl, b⟩
  replace X := X.below b
  clear b
  cases hok : nodeB n
  · have hA := Lib.hid (show sampA n l = (znd [], 0, zF) from if_neg (by rw [hok, Bool.false_and]; exact Bool.false_ne_true))
    clear hok
    go_wp2_with (first | (refine wpList_put (n := znd []) (p := zp none 0) X.res rfl rfl rfl rfl rfl ?_) | (refine wpList_tell (k := 0) (f := zF) (ad := none) (cd := 0) (X.fin (ndC (znd []) (zp none 0)) #[]).1 rfl rfl rfl rfl rfl ?_))
    obtain ⟨-, Z1, Z2, Z3⟩ := X.fin (ndC (znd []) (zp none 0)) (hpC 0 zF none 0)
    refine bodyPost_ret (v := .tuple #[ndV (znd []) (zp none 0), hpV 0 zF none 0]) (results_both Tryz.results14 _ _ gr gh _ _ rfl rfl Z1 Z2 rfl rfl) rfl ?_
    rw [hA.out]
    exact SampO.zero Z3
  · replace hok := Lib.hid hok
    go_wp2_with fail
    refine (implWithin l 0 1 _).mono ?_
    rintro e w3 ⟨rfl, rfl⟩
    cases hr : rng l 0 1
    · have hA := Lib.hid (show sampA n l = (znd [], 0, zF) from if_neg (by rw [hr, Bool.and_false]; exact Bool.false_ne_true))
      clear hr
      go_wp2_with (first | (refine wpList_put (n := znd []) (p := zp none 0) X.res rfl rfl rfl rfl rfl ?_) | (refine wpList_tell (k := 0) (f := zF) (ad := none) (cd := 0) (X.fin (ndC (znd []) (zp none 0)) #[]).1 rfl rfl rfl rfl rfl ?_))
      obtain ⟨-, Z1, Z2, Z3⟩ := X.fin (ndC (znd []) (zp none 0)) (hpC 0 zF none 0)
      refine bodyPost_ret (v := .tuple #[ndV (znd []) (zp none 0), hpV 0 zF none 0]) (results_both Tryz.results14 _ _ gr gh _ _ rfl rfl Z1 Z2 rfl rfl) rfl ?_
      rw [hA.out]
      exact SampO.zero Z3
    · have hA := Lib.hid (show sampA n l = sampN n l from if_pos (by rw [hr, hok.out]; rfl))
      have hl : l = 0 ∨ l = 1 := by have := rng_iff.1 hr; omega
      clear hr
      go_wp2_with (refine Nx.take ⟨X.blk, X.bel⟩ rfl rfl rfl ?_)
      have hlt := X.lt
      have hY : NdY (fun k => k < w.heap.size) n p w := fun u k => hm.below ⟨k.os, k.tape, k.output, k.size, fun q hq => k.block q hq hq⟩
      refine (implSamp n p l (fun k => k < w.heap.size) w _ hY (Kp.ofBelow X.bel) hok.out hl (hE.below X.bel) hNA).mono ?_
      rintro e w5 ⟨p5, ad5, cd5, rfl, hk5, b⟩
      obtain ⟨M5, N5, -⟩ := hk5 w5 ((Kp.ofBelow X.bel).trans (.ofBelow b)) (Up.refl _ _)
      have K : K3 gr gh ndZ hpZ w w5 := by
        have X5 := X.below b
        exact ⟨X5.res, X5.hap, X5.bel, X5.hr, X5.hh, X5.rh⟩
      have hlt5 := K.lt
      clear b hk5 X
      have hs6 := small_right (samp_right hok.out hl)
      have hf6 := frB_short (samp_fr l (right_iff.1 hok.out).1.fr)
      generalize hr6 : sampN n l = r at M5 N5 hs6 hf6 ⊢
      replace hr6 := Lib.hid hr6
      obtain ⟨n6, k6, f6⟩ := r
      dsimp only at M5 N5 hs6 hf6 ⊢
      have A := Ans.made n6 p5 k6 f6 ad5 cd5 w5 K.bel
      have b := ans_below n6 p5 k6 f6 ad5 cd5 w5 (Below.refl w5.heap.size w5) (Nat.le_refl _)
      have a1 := ans_node w5
      have a2 := ans_hap n6 p5 w5
      go_upto_region 4 with (first | (refine wpList_put (n := n6) (p := p5) a1 rfl rfl rfl rfl rfl ?_) | (refine wpList_tell (k := k6) (f := f6) (ad := ad5) (cd := cd5) a2 rfl rfl rfl rfl rfl ?_))
      clear a1 a2
      replace K := K.below b
      unfold ansW at K b A
      generalize World.setRow _ _ _ = W5 at K b A ⊢
      obtain ⟨ah, hah⟩ : ∃ q, w5.heap.size + 1 = q := ⟨_, rfl⟩
      obtain ⟨an, han⟩ : ∃ q, w5.heap.size = q := ⟨_, rfl⟩
      rw [hah] at A ⊢
      rw [han] at A hah ⊢
      have d1 : W5.cell? ⟨ah, 1, none⟩ = some (.int .i64 f6.id) := cell_of_row W5 ah 1 _ _ _ A.hp
      have d2 : W5.cell? ⟨ah, 2, none⟩ = some (.bool f6.rm) := cell_of_row W5 ah 2 _ _ _ A.hp
      have d3 : W5.cell? ⟨ah, 3, none⟩ = some (.int .i64 f6.ln) := cell_of_row W5 ah 3 _ _ _ A.hp
      have d4 : W5.cell? ⟨ah, 4, none⟩ = some (.slice ad5 f6.D.length cd5) := cell_of_row W5 ah 4 _ _ _ A.hp
      simp only [Act.put]
      go_wp2_with fail
      refine (copiedFr f6.id f6.rm f6.ln ad5 f6.D cd5 _ (N5.below b) hf6).mono ?_
      rintro e w6 ⟨a6, rfl, O6, b6⟩
      have hb5 := b.size
      have hnl := A.lt
      have U6 := ownLtI O6
      replace K := K.below b6
      replace A := A.below b6
      have B6 := Below.then2 b b6
      have hz6 := b6.size
      clear d1 d2 d3 d4 b6 b N5
      have d1 : w6.cell? ⟨ah, 1, none⟩ = some (.int .i64 f6.id) := cell_of_row w6 ah 1 _ _ _ A.hp
      have d2 : w6.cell? ⟨ah, 2, none⟩ = some (.bool f6.rm) := cell_of_row w6 ah 2 _ _ _ A.hp
      have d3 : w6.cell? ⟨ah, 3, none⟩ = some (.int .i64 f6.ln) := cell_of_row w6 ah 3 _ _ _ A.hp
      have d4 : w6.cell? ⟨ah, 4, none⟩ = some (.slice ad5 f6.D.length cd5) := cell_of_row w6 ah 4 _ _ _ A.hp
      obtain ⟨q1, q2, q3, q4⟩ : _ ∧ _ ∧ _ ∧ _ := ⟨frozen_of_row w6 ah 1 _ _ A.hp, frozen_of_row w6 ah 2 _ _ A.hp, frozen_of_row w6 ah 3 _ _ A.hp, frozen_of_row w6 ah 4 _ _ A.hp⟩
      go_upto_region 5 with fail
      have gg := K3.grown4 w6 ah (.int .i64 f6.id) (.bool f6.rm) (.int .i64 f6.ln) (.slice a6 f6.D.length f6.D.length)
      have hp7 : _ = some (Obj.cells (hpC k6 f6 a6 f6.D.length) 36 (0, 0)) := heap_setCell_same _ ah 4 _ _ (.slice a6 f6.D.length f6.D.length) (heap_setCell_same _ ah 3 _ _ (.int .i64 f6.ln) (heap_setCell_same _ ah 2 _ _ (.bool f6.rm) (heap_setCell_same w6 ah 1 _ _ (.int .i64 f6.id) A.hp)))
      have hrr := K.hr
      have hhh := K.hh
      replace K := K.grown gg (by omega) (by omega) (by omega)
      have B7 := B6.grown gg B6.size (fun q e => by cases e; omega)
      have nd7 := (gg.block an A.lt.1 (fun e => by have := Option.some.inj e; omega)).trans A.nd
      replace O6 := O6.kept2 gg hnl.2
      have hz7 := gg.size
      clear d1 d2 d3 d4 q1 q2 q3 q4 A B6 gg
      generalize World.setCell _ _ _ = w7 at hp7 K B7 nd7 O6 hz7 ⊢
      have A7 : Ans an ah n6 p5 k6 f6 a6 f6.D.length w w7 := ⟨nd7, hp7, K.bel⟩
      have M7 := M5.below B7
      clear nd7 hp7 M5
      try simp only [Act.put]
      refine wp_region_held (S := fun u => Ans an ah n6 p5 k6 f6 a6 f6.D.length w u) (by kernel_rfl) ?_
      have bd : Below w7.heap.size w7 { w7 with drawn := w7.drawn + 1 } := (Below.refl _ _).drew
      replace K := K.below bd
      replace A7 := A7.below bd
      replace M7 := M7.below bd
      replace O6 := O6.below' bd
      have hz8 := bd.size
      clear bd B7
      generalize ({ w7 with drawn := w7.drawn + 1 } : World) = V at K A7 M7 O6 hz8 ⊢
      refine h_take 0 28 (ndV n6 p5) rfl rfl (by kernel_rfl) (by kernel_rfl) (by kernel_rfl) (fun _ _ _ h => h) rfl (fun u hu => hu.tookN rfl rfl) A7 ?_
      refine h_take 2 30 (hpV k6 f6 a6 f6.D.length) rfl rfl (by kernel_rfl) (by kernel_rfl) (by kernel_rfl) (fun _ _ _ h => h) rfl (fun u hu => hu.tookH rfl rfl) A7 ?_
      simp only [Act.put, List.setIfInBounds_toArray, List.set_cons_zero, List.set_cons_succ]
      refine h_call 1 29 80 #[ndV n6 p5] rfl rfl (by kernel_rfl) rfl (by go_simp) ?_
      refine (implCopied n6 p5 _ M7 hs6.dat hs6.box hs6.box8 hs6.fifo hs6.fifo8 hs6.flt).mono ?_
      rintro e W2 ⟨p2, b1, b2, b3, MB, MF, rfl, O, b', -⟩
      have hzV := b'.size
      replace K := K.below b'
      replace A7 := A7.below b'
      replace O6 := O6.below' b'
      clear b' M7
      refine ⟨_, rfl, A7, ?_⟩
      simp only [Act.put, List.setIfInBounds_toArray, List.set_cons_zero, List.set_cons_succ]
      have A8 := A7.row (g2 := gr) (ndC n6 p2) (by omega) (by omega) hrr
      refine held_row 3 gr (ndC n6 p2) rfl (by kernel_rfl) rfl rfl rfl rfl rfl K.res (by kernel_rfl) rfl (ndC_one _ _) A8 ?_
      replace O := O.keptG (grown_row _ gr (ndC n6 p2)) (by omega)
      replace O6 := O6.kept2 (grown_row _ gr (ndC n6 p2)) (by omega)
      replace K := K.setR (ndC n6 p2)
      have hs4 : (W2.setRow gr (ndC n6 p2)).heap.size = W2.heap.size := by simp
      clear A7
      generalize W2.setRow gr (ndC n6 p2) = W4 at K A8 O O6 hs4 ⊢
      have A9 := A8.row (g2 := gh) (hpC k6 f6 a6 f6.D.length) (by omega) (by omega) hhh
      refine held_row 4 gh (hpC k6 f6 a6 f6.D.length) rfl (by kernel_rfl) rfl rfl rfl rfl rfl K.hap (by kernel_rfl) rfl (hpC_one _ _ _ _) A9 ?_
      replace O := O.keptG (grown_row _ gh (hpC k6 f6 a6 f6.D.length)) (by omega)
      replace O6 := O6.kept2 (grown_row _ gh (hpC k6 f6 a6 f6.D.length)) (by omega)
      replace K := K.setH (hpC k6 f6 a6 f6.D.length)
      have hs5 : (W4.setRow gh (hpC k6 f6 a6 f6.D.length)).heap.size = W4.heap.size := by simp
      clear A8 A9
      generalize W4.setRow gh (hpC k6 f6 a6 f6.D.length) = W8 at K O O6 hs5 ⊢
      refine wpAnyH_done (by kernel_rfl) ?_ _
      go_wp2_with fail
      refine bodyPost_ret (v := .tuple #[ndV n6 p2, hpV k6 f6 a6 f6.D.length]) (results_both Tryz.results14 _ _ gr gh _ _ rfl rfl K.res K.hap rfl rfl) rfl ?_
      rw [hA.out, hr6.out]
      obtain ⟨j, I⟩ := O.ndI3 (by omega)
      have hwk := K.bel.size
      exact ⟨p2, a6, f6.D.length, j, V.heap.size, MB, MF, rfl, O6.mono (by omega), fun q hq => (by have := U6 q hq; omega), by omega, I, K.bel⟩
end Go.Proofs.YtngcekegngmedaaGreatDoor

/- What Sampled answers, by the names of its parts; its room. -/

set_option linter.unusedVariables false
set_option linter.unusedSimpArgs false
set_option maxRecDepth 20000
namespace Go.Proofs.YtngcekegngmedaaGreatDoor
open Go.RowKit

/-- What Sampled answers, by the names of its parts. -/
def SampRx (N : Nd) (k : Int) (f : Frm) (w : World) (e : Ending) (w' : World) : Prop :=
  ∃ (p : NdP) (ad : Option Addr) (cd : Nat), e = .returned (.tuple #[ndV N p, hpV k f ad cd]) ∧ NdM N p w' ∧ Nums ad f.D w' ∧ Below w.heap.size w w'
def SampOx (N : Nd) (k : Int) (f : Frm) (w : World) (e : Ending) (w' : World) : Prop :=
  ∃ (p : NdP) (ad : Option Addr) (cd : Nat) (j : NdJ) (b : Nat) (MB MF : List (Frm × Value)), e = .returned (.tuple #[ndV N p, hpV k f ad cd]) ∧ OwnI w.heap.size f.D (.slice ad f.D.length cd) w'
    ∧ (∀ q, (Value.slice ad f.D.length cd).ownBlock = some q → q < b) ∧ w.heap.size ≤ b ∧ NdI j b w'.heap.size N p MB MF w' ∧ Below w.heap.size w w'
theorem sampA_room (n : Nd) (l : Int) : roomN (sampA n l).1 ≤ 600 ∧ (sampA n l).2.2.D.length ≤ 8 := by
  unfold sampA
  split
  · rename_i h
    rw [Bool.and_eq_true] at h
    have hl : l = 0 ∨ l = 1 := by have := rng_iff.1 h.2; omega
    exact ⟨roomN_right (samp_right h.1 hl), frB_8 (samp_fr l (right_iff.1 h.1).1.fr)⟩
  · exact ⟨by rw [roomN_zero]; omega, by decide⟩
end Go.Proofs.YtngcekegngmedaaGreatDoor

/- The model's copy of a node. -/

set_option linter.unusedVariables false
set_option linter.unusedSimpArgs false
set_option maxRecDepth 20000
namespace Go.Proofs.YtngcekegngmedaaGreatDoor
open Go.RowKit

theorem OwnI.keptHi {B G : Nat} {D : List Int} {v : Value} {w w' : World} (h : OwnI B D v w) (k : w.grownBy w' (some G)) (hu : ∀ q, v.ownBlock = some q → q < G) : OwnI B D v w' := by
  refine h.kept k ?_
  cases e : v.ownBlock with
  | none => exact .inl rfl
  | some q => exact .inr fun h2 => by cases h2; have := hu _ e; omega
theorem OwnF.keptHi {B G : Nat} {M : List (Frm × Value)} {v : Value} {w w' : World} (h : OwnF B M v w) (k : w.grownBy w' (some G)) (hu : Under G M v) : OwnF B M v w' := by
  refine h.kept k ?_ fun m hm => ?_
  · cases e : v.ownBlock with
    | none => exact .inl rfl
    | some q => exact .inr fun h2 => by cases h2; have := hu.1 _ e; omega
  · cases e : m.2.ownBlock with
    | none => exact .inl rfl
    | some q => exact .inr fun h2 => by cases h2; have := hu.2 m hm _ e; omega
theorem bare_of {B n c : Nat} {M : List (Int × Int)} {a : Option Addr} {w : World} (h : OwnP B M (.slice a n c) w) : a = none → c = 0 := by
  intro e
  rcases h.2 with ⟨k, _⟩ | ⟨g, cap, cur, k, _⟩
  · cases k; rfl
  · subst e; cases k
theorem OwnP.up {B lo : Nat} {M : List (Int × Int)} {v : Value} {w u : World} (h : OwnP B M v w) (k : Up lo w u) (hB : lo ≤ B) : OwnP B M v u := by
  rcases h.2 with e | ⟨g, cap, cur, e, hb, hg, r⟩
  · exact ⟨h.1, .inl e⟩
  · exact ⟨h.1, .inr ⟨g, cap, cur, e, hb, (k.block g (by omega) (Array.getElem?_eq_some_iff.1 hg).1).trans hg, r⟩⟩

set_option maxHeartbeats 16000000 in
/-- spec.l11Copy. -/
theorem specCopy (n : Nd) (p : NdP) (w : World) (hm : NdM n p w) (hal : p.al = none → p.cl = 0) (hD : n.fr.D.length ≤ 1000) (hB : n.box.length ≤ 1000) (hB8 : ∀ j, j < n.box.length → (nthF n.box j).D.length ≤ 1000) (hF : n.fifo.length ≤ 1000) (hF8 : ∀ j, j < n.fifo.length → (nthF n.fifo j).D.length ≤ 1000) (hL : n.flt.length ≤ 1000) :
    Calls Tryz.prog 83 #[ndV n p] w fun e w' => ∃ p' : NdP, e = .returned (ndV n p') ∧ ((∀ u, Up w.heap.size w' u → NdM n p' u) ∧ (p'.al = none → p'.cl = 0)) ∧ Below w.heap.size w w' := by
  have X := N2.made2 (ndC n p) w
  go_enter Tryz.func83, Tryz.ntmps83
  go_upto_region 1 with fail
  generalize World.alloc _ _ = W at X ⊢
  generalize w.heap.size + 1 = gr at X ⊢
  generalize w.heap.size = g at X ⊢
  have c4 : W.cell? ⟨g, 4, none⟩ = some (.int .i64 n.fr.id) := X.cell 4
  have c5 : W.cell? ⟨g, 5, none⟩ = some (.bool n.fr.rm) := X.cell 5
  have c6 : W.cell? ⟨g, 6, none⟩ = some (.int .i64 n.fr.ln) := X.cell 6
  have c7 : W.cell? ⟨g, 7, none⟩ = some (.slice p.ad n.fr.D.length p.cd) := X.cell 7
  have l1 := X.lt
  have z1 := X.bel.size
  go_wp2_with fail
  refine (copyFr n.fr.id n.fr.rm n.fr.ln p.ad n.fr.D p.cd _ (hm.below X.bel).nums hD).mono ?_
  rintro e w2 ⟨ad, cd, rfl, OD, gg⟩
  have b := below_new gg
  replace X := X.below b
  clear b gg c4 c5 c6 c7
  have c4 : w2.cell? ⟨g, 4, none⟩ = some (.int .i64 n.fr.id) := X.cell 4
  have c5 : w2.cell? ⟨g, 5, none⟩ = some (.bool n.fr.rm) := X.cell 5
  have c6 : w2.cell? ⟨g, 6, none⟩ = some (.int .i64 n.fr.ln) := X.cell 6
  have c7 : w2.cell? ⟨g, 7, none⟩ = some (.slice p.ad n.fr.D.length p.cd) := X.cell 7
  have f4 := X.free 4
  have f5 := X.free 5
  have f6 := X.free 6
  have f7 := X.free 7
  go_upto_region 2 with fail
  clear c4 c5 c6 c7 f4 f5 f6 f7
  replace OD := OD.kept2 (grown_at_cell _ g 4 (.int .i64 n.fr.id)) l1.1
  replace OD := OD.kept2 (grown_at_cell _ g 5 (.bool n.fr.rm)) l1.1
  replace OD := OD.kept2 (grown_at_cell _ g 6 (.int .i64 n.fr.ln)) l1.1
  replace OD := OD.kept2 (grown_at_cell _ g 7 (.slice ad n.fr.D.length cd)) l1.1
  replace X : N2 g gr (ndC (n) { p with ad := ad, cd := cd }) w _ := ((((X.set 4 (.int .i64 n.fr.id)).set 5 (.bool n.fr.rm)).set 6 (.int .i64 n.fr.ln)).set 7 (.slice ad n.fr.D.length cd))
  generalize World.setCell _ _ _ = W3 at X OD ⊢
  have c15 : W3.cell? ⟨g, 15, none⟩ = some (.slice p.ab n.box.length p.cb) := X.cell 15
  have l3 := X.lt
  have z3 := X.bel.size
  go_wp2_with fail
  refine (copyAll p.ab n.box p.cb _ (hm.below X.bel).box hB hB8).mono ?_
  rintro e w4 ⟨MB, gb, cb, rfl, hMB, OB, b⟩
  replace X := X.below b
  replace OD := OD.below' b
  clear b c15
  have c15 : w4.cell? ⟨g, 15, none⟩ = some (.slice p.ab n.box.length p.cb) := X.cell 15
  have f15 := X.free 15
  go_upto_region 3 with fail
  clear c15 f15
  replace OD := OD.kept2 (grown_at_cell _ g 15 (.slice (some ⟨gb, 0, none⟩) n.box.length cb)) l1.1
  replace OB := OB.kept2 (grown_at_cell _ g 15 (.slice (some ⟨gb, 0, none⟩) n.box.length cb)) l3.1
  replace X : N2 g gr (ndC (n) { p with ad := ad, cd := cd, ab := some ⟨gb, 0, none⟩, cb := cb }) w _ := (X.set 15 (.slice (some ⟨gb, 0, none⟩) n.box.length cb))
  generalize World.setCell _ _ _ = W5 at X OD OB ⊢
  have c16 : W5.cell? ⟨g, 16, none⟩ = some (.slice p.af n.fifo.length p.cf) := X.cell 16
  have l5 := X.lt
  have z5 := X.bel.size
  go_wp2_with fail
  refine (copyAll p.af n.fifo p.cf _ (hm.below X.bel).fifo hF hF8).mono ?_
  rintro e w6 ⟨MF, gf, cf, rfl, hMF, OF, b⟩
  replace X := X.below b
  replace OD := OD.below' b
  replace OB := OB.below b
  clear b c16
  have c16 : w6.cell? ⟨g, 16, none⟩ = some (.slice p.af n.fifo.length p.cf) := X.cell 16
  have f16 := X.free 16
  go_upto_region 4 with fail
  clear c16 f16
  replace OD := OD.kept2 (grown_at_cell _ g 16 (.slice (some ⟨gf, 0, none⟩) n.fifo.length cf)) l1.1
  replace OB := OB.kept2 (grown_at_cell _ g 16 (.slice (some ⟨gf, 0, none⟩) n.fifo.length cf)) l3.1
  replace OF := OF.kept2 (grown_at_cell _ g 16 (.slice (some ⟨gf, 0, none⟩) n.fifo.length cf)) l5.1
  replace X : N2 g gr (ndC (n) { p with ad := ad, cd := cd, ab := some ⟨gb, 0, none⟩, cb := cb, af := some ⟨gf, 0, none⟩, cf := cf }) w _ := (X.set 16 (.slice (some ⟨gf, 0, none⟩) n.fifo.length cf))
  generalize World.setCell _ _ _ = W7 at X OD OB OF ⊢
  have l7 := X.lt
  have z7 := X.bel.size
  have uD := fun q hq => (OD.1.lt q hq).2
  have uB := OB.under
  have uF := OF.under
  have HG := heap_alloc_new W7 (.cells #[] 175)
  have bb := below_more (Below.refl W7.heap.size W7) (.cells #[] 175)
  have hG8 : W7.heap.size < (W7.alloc (.cells #[] 175)).heap.size := by simp
  replace X := X.below bb
  replace OD := OD.below' bb
  replace OB := OB.below bb
  replace OF := OF.below bb
  clear bb
  have HFl := (hm.below X.bel).flt
  have c17 : (W7.alloc (.cells #[] 175)).cell? ⟨g, 17, none⟩ = some (.slice p.al n.flt.length p.cl) := X.cell 17
  go_wp2_with (at_builtin; skip; refine wpList_newP _ _ (by rfl) (by rfl) W7.heap.size (by rfl) p.al n.flt p.cl (by rfl) HG HFl hal (by omega) ?_)
  intro al cl w8 OL gk
  clear c17 HG HFl
  have hz7 : W7.heap.size < (W7.alloc (.cells #[] 175)).heap.size := hG8
  replace X : N2 g gr (ndC n ({ p with ad := ad, cd := cd, ab := some ⟨gb, 0, none⟩, cb := cb, af := some ⟨gf, 0, none⟩, cf := cf })) w w8 := ⟨(gk.block g X.lt.1 (fun e => by cases e; omega)).trans X.blk, (gk.block gr X.lt.2 (fun e => by cases e; omega)).trans X.res, X.bel.grown gk X.bel.size (fun q e => by cases e; omega), X.hg, X.hr, X.nr⟩
  replace OD := OD.keptHi gk uD
  replace OB := OB.keptHi gk uB
  replace OF := OF.keptHi gk uF
  clear gk hG8 hz7 uD uB uF
  generalize W7.heap.size = g7 at *
  have c17 : w8.cell? ⟨g, 17, none⟩ = some (.slice p.al n.flt.length p.cl) := X.cell 17
  have f17 := X.free 17
  go_upto_region 5 with fail
  clear c17 f17
  replace OD := OD.kept2 (grown_at_cell _ g 17 (.slice al n.flt.length cl)) l1.1
  replace OB := OB.kept2 (grown_at_cell _ g 17 (.slice al n.flt.length cl)) l3.1
  replace OF := OF.kept2 (grown_at_cell _ g 17 (.slice al n.flt.length cl)) l5.1
  replace OL := OL.kept2 (grown_at_cell _ g 17 (.slice al n.flt.length cl)) l7.1
  replace X : N2 g gr (ndC (n) ⟨ad, cd, some ⟨gb, 0, none⟩, cb, some ⟨gf, 0, none⟩, cf, al, cl⟩) w _ := (X.set 17 (.slice al n.flt.length cl))
  generalize World.setCell _ _ _ = W9 at X OD OB OF OL ⊢
  obtain ⟨Z1, Z2, Z3⟩ := X.fin (ndC n (⟨ad, cd, some ⟨gb, 0, none⟩, cb, some ⟨gf, 0, none⟩, cf, al, cl⟩))
  replace OD := OD.kept2 Z2 l1.2
  replace OB := OB.kept2 Z2 l3.2
  replace OF := OF.kept2 Z2 l5.2
  replace OL := OL.kept2 Z2 l7.2
  clear Z2
  go_wp2_with (first | (refine Nx.take ⟨X.blk, X.bel⟩ rfl rfl rfl ?_) | (refine wpList_put X.res rfl rfl rfl rfl rfl ?_))
  refine bodyPost_ret (v := ndV n (⟨ad, cd, some ⟨gb, 0, none⟩, cb, some ⟨gf, 0, none⟩, cf, al, cl⟩)) ?_ rfl ⟨⟨ad, cd, some ⟨gb, 0, none⟩, cb, some ⟨gf, 0, none⟩, cf, al, cl⟩, rfl, ⟨fun u ku => ⟨(OD.up ku z1).nums2, (OB.up ku z3).frsOf hMB (by omega), (OF.up ku z5).frsOf hMF (by omega), ((OL.up ku z7).flsAt (by omega)).2, hm.size⟩, bare_of OL⟩, Z3⟩
  exact results_one Tryz.results83 _ _ gr _ rfl Z1 rfl
end Go.Proofs.YtngcekegngmedaaGreatDoor
