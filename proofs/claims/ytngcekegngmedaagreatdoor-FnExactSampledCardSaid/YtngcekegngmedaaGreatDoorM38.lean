/- The program's steps in PhOff, PhIdle, PhTail and PhBody. -/
import Derived.Test.YtngcekegngmedaaGreatDoorM36
import Derived.Test.YtngcekegngmedaaGreatDoorM16
import Derived.Test.YtngcekegngmedaaGreatDoorM30
import Derived.Test.YtngcekegngmedaaGreatDoorM27
import Derived.Test.YtngcekegngmedaaGreatDoorM28
import Derived.Test.YtngcekegngmedaaGreatDoorM29

set_option linter.unusedVariables false
set_option linter.unusedSimpArgs false
set_option maxRecDepth 20000
namespace Go.Proofs.YtngcekegngmedaaGreatDoor
open Go.RowKit


set_option maxHeartbeats 8000000 in
/-- impl.inOff. -/
theorem implInOff (n : Nd) (p : NdP) (l : Int) (w : World) (hl : l = 0 ∨ l = 1) (hl0 : 0 ≤ n.left ∧ n.left ≤ 128) (hr : 0 ≤ n.run ∧ n.run ≤ 11) (h7 : n.ph = 7) :
    Calls Tryz.prog 209 #[ndV n p, .int .i64 l] w (TellF (offN n l).1 (offN n l).2.1 n p w) := by
  replace h7 := Lib.hid h7
  rcases hl with rfl | rfl
  · have e : offN n 0 = ({ n with run := 0 }, 0, zF) := by unfold offN; rw [if_pos rfl]
    rw [e]
    clear e
    have X := N3.made (ndC n p) w
    go_enter Tryz.func209, Tryz.ntmps209
    go_upto_region 1 with fail
    generalize World.alloc _ _ = W at X ⊢
    generalize w.heap.size + 1 + 1 = gh at X ⊢
    generalize w.heap.size + 1 = gr at X ⊢
    generalize w.heap.size = g at X ⊢
    have c9 : W.cell? ⟨g, 9, none⟩ = some (.int .i64 n.run) := X.cell 9
    have f9 := X.free 9
    go_upto_region 3 with fail
    clear c9 f9
    replace X : N3 g gr gh (ndC ({ n with run := 0 }) p) w _ := (X.set 9 (.int .i64 0))
    generalize World.setCell _ _ _ = W1 at X ⊢
    go_wp2_with (first | (refine Nx.take ⟨X.blk, X.bel⟩ rfl rfl rfl ?_) | (refine wpList_put X.res rfl rfl rfl rfl rfl ?_) | (refine wpList_tell (k := 0) (f := zF) (ad := none) (cd := 0) (X.fin (ndC ({ n with run := 0 }) p) #[]).1 rfl rfl rfl rfl rfl ?_))
    obtain ⟨-, Z1, Z2, Z3⟩ := X.fin (ndC ({ n with run := 0 }) p) (hpC (0) (zF) (none) (0))
    refine bodyPost_ret (v := .tuple #[ndV ({ n with run := 0 }) p, hpV (0) (zF) (none) (0)]) ?_ rfl ⟨_, ⟨rfl, Z3⟩, .inl ⟨rfl, rfl⟩⟩
    exact results_both Tryz.results209 _ _ gr gh _ _ rfl rfl Z1 Z2 rfl rfl
  have hrw : IntKind.i64.wrap (n.run + 1) = n.run + 1 := IntWalk.i64_in _ (by omega)
  by_cases h11 : n.run + 1 < 11
  · have e : offN n 1 = ({ n with run := n.run + 1 }, 0, zF) := by unfold offN; rw [if_neg (by decide), if_pos h11]
    rw [e]
    clear e
    have hd : decide (n.run + 1 < 11) = true := decide_eq_true h11
    have X := N3.made (ndC n p) w
    go_enter Tryz.func209, Tryz.ntmps209
    go_upto_region 1 with fail
    generalize World.alloc _ _ = W at X ⊢
    generalize w.heap.size + 1 + 1 = gh at X ⊢
    generalize w.heap.size + 1 = gr at X ⊢
    generalize w.heap.size = g at X ⊢
    have c9 : W.cell? ⟨g, 9, none⟩ = some (.int .i64 n.run) := X.cell 9
    have f9 := X.free 9
    go_upto_region 6 with fail
    clear c9 f9
    replace X : N3 g gr gh (ndC ({ n with run := n.run + 1 }) p) w _ := (X.set 9 (.int .i64 (n.run + 1)))
    generalize World.setCell _ _ _ = W1 at X ⊢
    go_wp2_with (first | (refine Nx.take ⟨X.blk, X.bel⟩ rfl rfl rfl ?_) | (refine wpList_put X.res rfl rfl rfl rfl rfl ?_) | (refine wpList_tell (k := 0) (f := zF) (ad := none) (cd := 0) (X.fin (ndC ({ n with run := n.run + 1 }) p) #[]).1 rfl rfl rfl rfl rfl ?_))
    obtain ⟨-, Z1, Z2, Z3⟩ := X.fin (ndC ({ n with run := n.run + 1 }) p) (hpC (0) (zF) (none) (0))
    refine bodyPost_ret (v := .tuple #[ndV ({ n with run := n.run + 1 }) p, hpV (0) (zF) (none) (0)]) ?_ rfl ⟨_, ⟨rfl, Z3⟩, .inl ⟨rfl, rfl⟩⟩
    exact results_both Tryz.results209 _ _ gr gh _ _ rfl rfl Z1 Z2 rfl rfl
  have hd : decide (n.run + 1 < 11) = false := decide_eq_false h11
  by_cases hp : 0 < n.left - 1
  · have e : offN n 1 = ({ n with run := 0, left := n.left - 1 }, 0, zF) := by unfold offN; rw [if_neg (by decide), if_neg h11, if_pos hp]
    rw [e]
    clear e
    have e1 : cdN { n with run := 0 } 0 0 = { n with run := 0, left := n.left - 1 } := by unfold cdN lessV; rw [if_pos hp, if_neg (by show ¬ n.left - 1 = 0; omega)]
    have X := N3.made (ndC n p) w
    go_enter Tryz.func209, Tryz.ntmps209
    go_upto_region 1 with fail
    generalize World.alloc _ _ = W at X ⊢
    generalize w.heap.size + 1 + 1 = gh at X ⊢
    generalize w.heap.size + 1 = gr at X ⊢
    generalize w.heap.size = g at X ⊢
    have c9 : W.cell? ⟨g, 9, none⟩ = some (.int .i64 n.run) := X.cell 9
    have f9 := X.free 9
    go_upto_region 8 with fail
    clear c9 f9
    replace X : N3 g gr gh (ndC ({ n with run := 0 }) p) w _ := ((X.set 9 (.int .i64 (n.run + 1))).set 9 (.int .i64 0))
    generalize World.setCell _ _ _ = W1 at X ⊢
    go_wp2_with (refine Nx.take ⟨X.blk, X.bel⟩ rfl rfl rfl ?_)
    refine (implDown { n with run := 0 } p 0 0 _ hl0).mono ?_
    rintro e w2 ⟨rfl, b⟩
    replace X := X.below b
    clear b
    rw [e1]
    go_upto_region 9 with (refine wpList_put X.blk rfl rfl rfl rfl rfl ?_)
    replace X : N3 g gr gh (ndC ({ n with run := 0, left := n.left - 1 }) p) w _ := X.put _
    generalize World.setRow _ _ _ = W4 at X ⊢
    have c0 : W4.cell? ⟨g, 0, none⟩ = some (.int .i64 7) := (X.cell 0).trans (by rw [← h7.out]; rfl)
    go_upto_region 10 with fail
    clear c0
    go_wp2_with (first | (refine Nx.take ⟨X.blk, X.bel⟩ rfl rfl rfl ?_) | (refine wpList_put X.res rfl rfl rfl rfl rfl ?_) | (refine wpList_tell (k := 0) (f := zF) (ad := none) (cd := 0) (X.fin (ndC ({ n with run := 0, left := n.left - 1 }) p) #[]).1 rfl rfl rfl rfl rfl ?_))
    obtain ⟨-, Z1, Z2, Z3⟩ := X.fin (ndC ({ n with run := 0, left := n.left - 1 }) p) (hpC (0) (zF) (none) (0))
    refine bodyPost_ret (v := .tuple #[ndV ({ n with run := 0, left := n.left - 1 }) p, hpV (0) (zF) (none) (0)]) ?_ rfl ⟨_, ⟨rfl, Z3⟩, .inl ⟨rfl, rfl⟩⟩
    exact results_both Tryz.results209 _ _ gr gh _ _ rfl rfl Z1 Z2 rfl rfl
  · have e : offN n 1 = ({ n with run := 0, left := 0, cs := 0, cg := 0, ph := 0, tx := false, mild := false, fr := zF }, 6, zF) := by unfold offN; rw [if_neg (by decide), if_neg h11, if_neg hp]
    rw [e]
    clear e
    have e1 : cdN { n with run := 0 } 0 0 = { n with run := 0, left := 0, ph := 0 } := by unfold cdN lessV; rw [if_neg hp, if_pos rfl]
    have X := N3.made (ndC n p) w
    go_enter Tryz.func209, Tryz.ntmps209
    go_upto_region 1 with fail
    generalize World.alloc _ _ = W at X ⊢
    generalize w.heap.size + 1 + 1 = gh at X ⊢
    generalize w.heap.size + 1 = gr at X ⊢
    generalize w.heap.size = g at X ⊢
    have c9 : W.cell? ⟨g, 9, none⟩ = some (.int .i64 n.run) := X.cell 9
    have f9 := X.free 9
    go_upto_region 8 with fail
    clear c9 f9
    replace X : N3 g gr gh (ndC ({ n with run := 0 }) p) w _ := ((X.set 9 (.int .i64 (n.run + 1))).set 9 (.int .i64 0))
    generalize World.setCell _ _ _ = W1 at X ⊢
    go_wp2_with (refine Nx.take ⟨X.blk, X.bel⟩ rfl rfl rfl ?_)
    refine (implDown { n with run := 0 } p 0 0 _ hl0).mono ?_
    rintro e w2 ⟨rfl, b⟩
    replace X := X.below b
    clear b
    rw [e1]
    go_upto_region 9 with (refine wpList_put X.blk rfl rfl rfl rfl rfl ?_)
    replace X : N3 g gr gh (ndC ({ n with run := 0, left := 0, ph := 0 }) p) w _ := X.put _
    generalize World.setRow _ _ _ = W4 at X ⊢
    have c0 : W4.cell? ⟨g, 0, none⟩ = some (.int .i64 0) := X.cell 0
    have c1 : W4.cell? ⟨g, 1, none⟩ = some (.bool n.tx) := X.cell 1
    have c2 : W4.cell? ⟨g, 2, none⟩ = some (.bool n.mild) := X.cell 2
    have c4 : W4.cell? ⟨g, 4, none⟩ = some (.int .i64 n.fr.id) := X.cell 4
    have c5 : W4.cell? ⟨g, 5, none⟩ = some (.bool n.fr.rm) := X.cell 5
    have c6 : W4.cell? ⟨g, 6, none⟩ = some (.int .i64 n.fr.ln) := X.cell 6
    have c7 : W4.cell? ⟨g, 7, none⟩ = some (.slice p.ad n.fr.D.length p.cd) := X.cell 7
    have c13 : W4.cell? ⟨g, 13, none⟩ = some (.int .i64 n.cs) := X.cell 13
    have c14 : W4.cell? ⟨g, 14, none⟩ = some (.int .i64 n.cg) := X.cell 14
    have f13 := X.free 13
    have f14 := X.free 14
    have f1 := X.free 1
    have f2 := X.free 2
    have f4 := X.free 4
    have f5 := X.free 5
    have f6 := X.free 6
    have f7 := X.free 7
    go_upto_region 12 with fail
    clear c0
    clear c1 c2 c4 c5 c6 c7 c13 c14 f13 f14 f1 f2 f4 f5 f6 f7
    replace X : N3 g gr gh (ndC ({ n with run := 0, left := 0, cs := 0, cg := 0, ph := 0, tx := false, mild := false }) p) w _ := ((((X.set 13 (.int .i64 0)).set 14 (.int .i64 0)).set 1 (.bool false)).set 2 (.bool false))
    replace X : N3 g gr gh (ndC ({ n with run := 0, left := 0, cs := 0, cg := 0, ph := 0, tx := false, mild := false, fr := zF }) { p with ad := none, cd := 0 }) w _ := ((((X.set 4 (.int .i64 0)).set 5 (.bool false)).set 6 (.int .i64 0)).set 7 (.slice none 0 0))
    generalize World.setCell _ _ _ = W5 at X ⊢
    go_wp2_with (first | (refine Nx.take ⟨X.blk, X.bel⟩ rfl rfl rfl ?_) | (refine wpList_put X.res rfl rfl rfl rfl rfl ?_) | (refine wpList_tell (k := 6) (f := zF) (ad := none) (cd := 0) (X.fin (ndC ({ n with run := 0, left := 0, cs := 0, cg := 0, ph := 0, tx := false, mild := false, fr := zF }) { p with ad := none, cd := 0 }) #[]).1 rfl rfl rfl rfl rfl ?_))
    obtain ⟨-, Z1, Z2, Z3⟩ := X.fin (ndC ({ n with run := 0, left := 0, cs := 0, cg := 0, ph := 0, tx := false, mild := false, fr := zF }) { p with ad := none, cd := 0 }) (hpC (6) (zF) (none) (0))
    refine bodyPost_ret (v := .tuple #[ndV ({ n with run := 0, left := 0, cs := 0, cg := 0, ph := 0, tx := false, mild := false, fr := zF }) { p with ad := none, cd := 0 }, hpV (6) (zF) (none) (0)]) ?_ rfl ⟨_, ⟨rfl, Z3⟩, .inr ⟨rfl, rfl⟩⟩
    exact results_both Tryz.results209 _ _ gr gh _ _ rfl rfl Z1 Z2 rfl rfl

theorem NdM.beg {n : Nd} {p : NdP} {w : World} (h : NdM n p w) : NdM (begunN n) p w := ⟨h.nums, h.box, h.fifo, h.flt, by show (1 : Nat) ≤ maxLen; unfold maxLen; omega⟩
/-- u has what a has, in the blocks of Y. -/
structure Kp (Y : Nat → Prop) (a u : World) : Prop where
  size : a.heap.size ≤ u.heap.size
  block : ∀ k, Y k → k < a.heap.size → u.heap[k]? = a.heap[k]?
  os : u.os = a.os
  tape : u.tape = a.tape
  output : u.output = a.output
theorem Kp.refl (Y : Nat → Prop) (a : World) : Kp Y a a := ⟨Nat.le_refl _, fun _ _ _ => rfl, rfl, rfl, rfl⟩
theorem Kp.trans {Y : Nat → Prop} {a b c : World} (h : Kp Y a b) (k : Kp Y b c) : Kp Y a c := ⟨Nat.le_trans h.size k.size, fun q hq hl => (k.block q hq (Nat.lt_of_lt_of_le hl h.size)).trans (h.block q hq hl), k.os.trans h.os, k.tape.trans h.tape, k.output.trans h.output⟩
theorem Kp.ofBelow {Y : Nat → Prop} {w u : World} (b : Below w.heap.size w u) : Kp Y w u := ⟨b.size, fun q _ hl => b.block q hl, b.os, b.tape, b.output⟩
theorem from0 {Y : Nat → Prop} {a0 w u : World} (h : Kp Y a0 w) (b : Below w.heap.size w u) : Kp Y a0 u := h.trans (.ofBelow b)
/-- The node's lists stand wherever the blocks of Y stand. -/
def NdY (Y : Nat → Prop) (n : Nd) (p : NdP) (a : World) : Prop := ∀ u, Kp Y a u → NdM n p u
theorem NdY.now {Y : Nat → Prop} {n : Nd} {p : NdP} {a : World} (h : NdY Y n p a) : NdM n p a := h a (Kp.refl Y a)
theorem NdY.size {Y : Nat → Prop} {n : Nd} {p : NdP} {a : World} (h : NdY Y n p a) : n.got.size ≤ maxLen := h.now.size
/-- The first frame of the box lies where it lay, wherever the blocks of Y stand. -/
theorem NdY.first {Y : Nat → Prop} {n : Nd} {p : NdP} {a0 : World} (h : NdY Y n p a0) (hb : 0 < n.box.length) : ∃ gb o ad cc, p.ab = some ⟨gb, o, none⟩ ∧ ∀ u, Kp Y a0 u → FrC gb o ad cc (nthF n.box 0) u := by
  obtain ⟨gb, o, ad, cc, ha, HF⟩ := h.now.box.2 0 hb
  rw [Nat.zero_mul, Nat.add_zero] at HF
  have hlt : gb < a0.heap.size := World.block_lt_of_cell? a0 _ HF.1.1
  have hY : Y gb := Classical.byContradiction fun hn => by
    obtain ⟨g', o', ad', c', e', HF'⟩ := (h { a0 with heap := a0.heap.setIfInBounds gb (.cells #[] 0 (0, 0)) } ⟨by simp, fun k hk _ => Array.getElem?_setIfInBounds_ne (fun e => hn (by rw [e]; exact hk)), rfl, rfl, rfl⟩).box.2 0 hb
    rw [ha] at e'
    cases e'
    have hc := HF'.1.1
    simp [World.cell?, Array.getElem?_setIfInBounds, hlt] at hc
  refine ⟨gb, o, ad, cc, ha, fun u k => ?_⟩
  have hblk := k.block gb hY hlt
  have hc : ∀ i, u.cell? ⟨gb, i, none⟩ = a0.cell? ⟨gb, i, none⟩ := fun i => by unfold World.cell?; rw [hblk]
  obtain ⟨g', o', ad', c', e', HF'⟩ := (h u k).box.2 0 hb
  rw [ha] at e'
  cases e'
  rw [Nat.zero_mul, Nat.add_zero] at HF'
  have e3 := HF'.1.2.2.2
  rw [hc, HF.1.2.2.2] at e3
  obtain ⟨rfl, -, rfl⟩ := Value.slice.inj (Option.some.inj e3)
  exact HF'
/-- What a step answers: its lists stand wherever the blocks of Y stand, which the node's lists rest upon, and the new blocks. -/
def SampX (Y : Nat → Prop) (a0 : World) (A : Prop) (r : Nd × Int × Frm) (w : World) (e : Ending) (w' : World) : Prop :=
  ∃ (p : NdP) (ad : Option Addr) (cd : Nat), e = .returned (.tuple #[ndV r.1 p, hpV r.2.1 r.2.2 ad cd]) ∧ (∀ u, Kp Y a0 u → Up w.heap.size w' u → NdM r.1 p u ∧ Nums ad r.2.2.D u ∧ (A → NdA r.1 p)) ∧ Below w.heap.size w w'
/-- Another node of the same lists. -/
theorem NdM.lists {n m : Nd} {p : NdP} {w : World} (h : NdM n p w) (e1 : m.fr = n.fr) (e2 : m.box = n.box) (e3 : m.fifo = n.fifo) (e4 : m.flt = n.flt) (hs : m.got.size ≤ maxLen) : NdM m p w := ⟨by rw [e1]; exact h.nums, by rw [e2]; exact h.box, by rw [e3]; exact h.fifo, by rw [e4]; exact h.flt, hs⟩
theorem one_le_max : (1 : Nat) ≤ maxLen := by unfold maxLen; omega

set_option maxHeartbeats 8000000 in
/-- impl.inIdle. -/
theorem implInIdle (n : Nd) (p : NdP) (l : Int) (w : World) (Y : Nat → Prop) (a0 : World) (h0 : NdY Y n p a0) (ha0 : Kp Y a0 w) (hl : l = 0 ∨ l = 1) :
    Calls Tryz.prog 202 #[ndV n p, .int .i64 l] w (SampX Y a0 (NdA n p) (if l = 1 then (n, 0, zF) else ({ begN n (decide (0 < n.box.length)) with fr := if 0 < n.box.length then nthF n.box 0 else zF }, 0, zF)) w) := by
  have hm := h0 w ha0
  rcases hl with rfl | rfl
  · rw [if_neg (by decide)]
    by_cases hb : 0 < n.box.length
    · have hd : decide (0 < n.box.length) = true := decide_eq_true hb
      rw [hd, if_pos hb]
      obtain ⟨gb, o, ad, cc, ha, HF⟩ := h0.first hb
      have hlen : (0 : Int) < (n.box.length : Int) := by omega
      generalize nthF n.box 0 = f at *
      replace hd := Lib.hid hd
      replace hb := Lib.hid hb
      replace ha := Lib.hid ha
      have X := N3.made (ndC n p) w
      go_enter Tryz.func202, Tryz.ntmps202
      go_upto_region 1 with fail
      generalize World.alloc _ _ = W at X ⊢
      generalize w.heap.size + 1 + 1 = gh at X ⊢
      generalize w.heap.size + 1 = gr at X ⊢
      generalize w.heap.size = g at X ⊢
      go_wp2_with (refine Nx.take ⟨X.blk, X.bel⟩ rfl rfl rfl ?_)
      refine (implBegun n p _).mono ?_
      rintro e w2 ⟨rfl, b⟩
      replace X := X.below b
      clear b
      go_upto_region 4 with (refine wpList_put X.blk rfl rfl rfl rfl rfl ?_)
      replace X : N3 g gr gh (ndC (begunN n) p) w _ := X.put _
      generalize World.setRow _ _ _ = W4 at X ⊢
      go_wp2_with (refine Nx.take ⟨X.blk, X.bel⟩ rfl rfl rfl ?_)
      refine (implBegins (begunN n) p _ (hm.below X.bel).beg).mono ?_
      rintro e w5 ⟨rfl, b⟩
      replace X := X.below b
      clear b
      rw [show decide (0 < (begunN n).box.length) = true from hd.out]
      have c1 : w5.cell? ⟨g, 1, none⟩ = some (.bool n.tx) := X.cell 1
      have c4 : w5.cell? ⟨g, 4, none⟩ = some (.int .i64 n.fr.id) := X.cell 4
      have c5 : w5.cell? ⟨g, 5, none⟩ = some (.bool n.fr.rm) := X.cell 5
      have c6 : w5.cell? ⟨g, 6, none⟩ = some (.int .i64 n.fr.ln) := X.cell 6
      have c7 : w5.cell? ⟨g, 7, none⟩ = some (.slice p.ad n.fr.D.length p.cd) := X.cell 7
      have f1 := X.free 1
      have f4 := X.free 4
      have f5 := X.free 5
      have f6 := X.free 6
      have f7 := X.free 7
      go_upto_region 5 with fail
      clear c1 c4 c5 c6 c7 f1 f4 f5 f6 f7
      replace X : N3 g gr gh (ndC ({ begunN n with tx := true, fr := zF }) { p with ad := none, cd := 0 }) w _ := (((((X.set 1 (.bool true)).set 4 (.int .i64 0)).set 5 (.bool false)).set 6 (.int .i64 0)).set 7 (.slice none 0 0))
      generalize World.setCell _ _ _ = W6 at X ⊢
      obtain ⟨⟨d0, d1, d2, d3⟩, -⟩ := HF _ (from0 ha0 X.bel)
      have c1 : W6.cell? ⟨g, 1, none⟩ = some (.bool true) := X.cell 1
      have c15 : W6.cell? ⟨g, 15, none⟩ = some (.slice (some ⟨gb, o, none⟩) n.box.length p.cb) := (X.cell 15).trans (by rw [← ha.out]; rfl)
      have c4 : W6.cell? ⟨g, 4, none⟩ = some (.int .i64 0) := X.cell 4
      have c5 : W6.cell? ⟨g, 5, none⟩ = some (.bool false) := X.cell 5
      have c6 : W6.cell? ⟨g, 6, none⟩ = some (.int .i64 0) := X.cell 6
      have c7 : W6.cell? ⟨g, 7, none⟩ = some (.slice none 0 0) := X.cell 7
      have f4 := X.free 4
      have f5 := X.free 5
      have f6 := X.free 6
      have f7 := X.free 7
      go_upto_region 7 with fail
      clear c1 c15 c4 c5 c6 c7 f4 f5 f6 f7 d0 d1 d2 d3
      replace X : N3 g gr gh (ndC ({ begunN n with tx := true, fr := f }) { p with ad := ad, cd := cc }) w _ := ((((X.set 4 (.int .i64 f.id)).set 5 (.bool f.rm)).set 6 (.int .i64 f.ln)).set 7 (.slice ad f.D.length cc))
      generalize World.setCell _ _ _ = W7 at X ⊢
      go_wp2_with (first | (refine Nx.take ⟨X.blk, X.bel⟩ rfl rfl rfl ?_) | (refine wpList_put X.res rfl rfl rfl rfl rfl ?_) | (refine wpList_tell (k := 0) (f := zF) (ad := none) (cd := 0) (X.fin (ndC ({ begunN n with tx := true, fr := f }) { p with ad := ad, cd := cc }) #[]).1 rfl rfl rfl rfl rfl ?_))
      obtain ⟨-, Z1, Z2, Z3⟩ := X.fin (ndC ({ begunN n with tx := true, fr := f }) { p with ad := ad, cd := cc }) (hpC (0) (zF) (none) (0))
      refine bodyPost_ret (v := .tuple #[ndV ({ begunN n with tx := true, fr := f }) { p with ad := ad, cd := cc }, hpV (0) (zF) (none) (0)]) ?_ rfl ⟨{ p with ad := ad, cd := cc }, none, 0, rfl, fun u k k2 => ⟨⟨(HF u k).2, (h0 u k).box, (h0 u k).fifo, (h0 u k).flt, one_le_max⟩, Nums.nil _, fun h => ⟨h.box, h.fifo⟩⟩, Z3⟩
      exact results_both Tryz.results202 _ _ gr gh _ _ rfl rfl Z1 Z2 rfl rfl
    · have hd : decide (0 < n.box.length) = false := decide_eq_false hb
      rw [hd, if_neg hb]
      replace hd := Lib.hid hd
      replace hb := Lib.hid hb
      have X := N3.made (ndC n p) w
      go_enter Tryz.func202, Tryz.ntmps202
      go_upto_region 1 with fail
      generalize World.alloc _ _ = W at X ⊢
      generalize w.heap.size + 1 + 1 = gh at X ⊢
      generalize w.heap.size + 1 = gr at X ⊢
      generalize w.heap.size = g at X ⊢
      go_wp2_with (refine Nx.take ⟨X.blk, X.bel⟩ rfl rfl rfl ?_)
      refine (implBegun n p _).mono ?_
      rintro e w2 ⟨rfl, b⟩
      replace X := X.below b
      clear b
      go_upto_region 4 with (refine wpList_put X.blk rfl rfl rfl rfl rfl ?_)
      replace X : N3 g gr gh (ndC (begunN n) p) w _ := X.put _
      generalize World.setRow _ _ _ = W4 at X ⊢
      go_wp2_with (refine Nx.take ⟨X.blk, X.bel⟩ rfl rfl rfl ?_)
      refine (implBegins (begunN n) p _ (hm.below X.bel).beg).mono ?_
      rintro e w5 ⟨rfl, b⟩
      replace X := X.below b
      clear b
      rw [show decide (0 < (begunN n).box.length) = false from hd.out]
      have c1 : w5.cell? ⟨g, 1, none⟩ = some (.bool n.tx) := X.cell 1
      have c4 : w5.cell? ⟨g, 4, none⟩ = some (.int .i64 n.fr.id) := X.cell 4
      have c5 : w5.cell? ⟨g, 5, none⟩ = some (.bool n.fr.rm) := X.cell 5
      have c6 : w5.cell? ⟨g, 6, none⟩ = some (.int .i64 n.fr.ln) := X.cell 6
      have c7 : w5.cell? ⟨g, 7, none⟩ = some (.slice p.ad n.fr.D.length p.cd) := X.cell 7
      have f1 := X.free 1
      have f4 := X.free 4
      have f5 := X.free 5
      have f6 := X.free 6
      have f7 := X.free 7
      go_upto_region 5 with fail
      clear c1 c4 c5 c6 c7 f1 f4 f5 f6 f7
      replace X : N3 g gr gh (ndC ({ begunN n with tx := false, fr := zF }) { p with ad := none, cd := 0 }) w _ := (((((X.set 1 (.bool false)).set 4 (.int .i64 0)).set 5 (.bool false)).set 6 (.int .i64 0)).set 7 (.slice none 0 0))
      generalize World.setCell _ _ _ = W6 at X ⊢
      have c1 : W6.cell? ⟨g, 1, none⟩ = some (.bool false) := X.cell 1
      go_upto_region 7 with fail
      clear c1
      go_wp2_with (first | (refine Nx.take ⟨X.blk, X.bel⟩ rfl rfl rfl ?_) | (refine wpList_put X.res rfl rfl rfl rfl rfl ?_) | (refine wpList_tell (k := 0) (f := zF) (ad := none) (cd := 0) (X.fin (ndC ({ begunN n with tx := false, fr := zF }) { p with ad := none, cd := 0 }) #[]).1 rfl rfl rfl rfl rfl ?_))
      obtain ⟨-, Z1, Z2, Z3⟩ := X.fin (ndC ({ begunN n with tx := false, fr := zF }) { p with ad := none, cd := 0 }) (hpC (0) (zF) (none) (0))
      refine bodyPost_ret (v := .tuple #[ndV ({ begunN n with tx := false, fr := zF }) { p with ad := none, cd := 0 }, hpV (0) (zF) (none) (0)]) ?_ rfl ⟨{ p with ad := none, cd := 0 }, none, 0, rfl, fun u k k2 => ⟨⟨Nums.nil _, (h0 u k).box, (h0 u k).fifo, (h0 u k).flt, one_le_max⟩, Nums.nil _, fun h => ⟨h.box, h.fifo⟩⟩, Z3⟩
      exact results_both Tryz.results202 _ _ gr gh _ _ rfl rfl Z1 Z2 rfl rfl
  · rw [if_pos rfl]
    have X := N3.made (ndC n p) w
    go_enter Tryz.func202, Tryz.ntmps202
    go_upto_region 1 with fail
    generalize World.alloc _ _ = W at X ⊢
    generalize w.heap.size + 1 + 1 = gh at X ⊢
    generalize w.heap.size + 1 = gr at X ⊢
    generalize w.heap.size = g at X ⊢
    go_upto_region 2 with fail
    go_wp2_with (first | (refine Nx.take ⟨X.blk, X.bel⟩ rfl rfl rfl ?_) | (refine wpList_put X.res rfl rfl rfl rfl rfl ?_) | (refine wpList_tell (k := 0) (f := zF) (ad := none) (cd := 0) (X.fin (ndC (n) p) #[]).1 rfl rfl rfl rfl rfl ?_))
    obtain ⟨-, Z1, Z2, Z3⟩ := X.fin (ndC (n) p) (hpC (0) (zF) (none) (0))
    refine bodyPost_ret (v := .tuple #[ndV (n) p, hpV (0) (zF) (none) (0)]) ?_ rfl ⟨p, none, 0, rfl, fun u k k2 => ⟨h0 u k, Nums.nil _, fun h => h⟩, Z3⟩
    exact results_both Tryz.results202 _ _ gr gh _ _ rfl rfl Z1 Z2 rfl rfl
end Go.Proofs.YtngcekegngmedaaGreatDoor

/- The program's heardWell and ended. -/

set_option linter.unusedVariables false
set_option linter.unusedSimpArgs false
set_option maxRecDepth 20000
namespace Go.Proofs.YtngcekegngmedaaGreatDoor
open Go.RowKit

theorem N3.drew' {g gr gh : Nat} {C : Array Value} {w0 w : World} (h : N3 g gr gh C w0 w) : N3 g gr gh C w0 { w with drawn := w.drawn + 1 } := h.drew
theorem Bx.took {g : Nat} {x0 x1 x2 x3 : Value} {w : World} (h : Bx g x0 x1 x2 x3 w) {o : Oper} {a : Act} {x : Operand} (ho : o.op = .load 26 x) (hx : a.eval x = .pointer (some ⟨g, 0, none⟩)) : (execOp a.eval o).run Tryz.prog w = .ok (.value (.agg #[x0, x1, x2, x3])) w := by
  unfold execOp
  simp only [ho, hx, Instr.loadAt, Instr.sureAddr, Sem.run_bind, Sem.run_pure, Result.andThen_ok, run_loadVar_row w g 26 26 #[x0, x1, x2, x3] (0, 0) _ h Tryz.underlying26 rfl (by kernel_rfl)]
theorem Bx.below {g : Nat} {x0 x1 x2 x3 : Value} {w w' : World} (h : Bx g x0 x1 x2 x3 w) (b : Below w.heap.size w w') : Bx g x0 x1 x2 x3 w' := (b.block g h.lt).trans h
theorem Bx.row {g k : Nat} {x0 x1 x2 x3 : Value} {w : World} (h : Bx g x0 x1 x2 x3 w) (D : Array Value) (hk : g ≠ k) : Bx g x0 x1 x2 x3 (w.setRow k D) := (setRow_other w k g D hk).trans h
theorem Bx.cellSet {g k j : Nat} {x0 x1 x2 x3 : Value} {w : World} (h : Bx g x0 x1 x2 x3 w) (v : Value) (hk : g ≠ k) : Bx g x0 x1 x2 x3 (w.setCell ⟨k, j, none⟩ v) := (heap_setCell_other w ⟨k, j, none⟩ g v hk).trans h
theorem pushV_more (L : List Frm) (f : Frm) : (pushV L f).1.length ≤ L.length + 1 := by unfold pushV; split <;> simp
/-- The moves with the slot that is filled spelt out. -/
theorem take_at {P : Program} {md : Region.Mode} {ops : Array Oper} {Q : Exit → Act → World → Prop} {S : World → Prop} (i : Nat) {oi : Oper} (d : Tmp) (v : Value) {fuel : Nat} {listed : Array Bool} {a : Act} {w : World} (hi : ops[i]? = some oi) (hd : oi.dst = some d)
    (hs : Region.noSelect ops = true) (hf : Region.free md ops listed i = true) (hr : (Region.ready md ops listed).contains i = true)
    (hQ : ∀ c a w, Q (.panic c) (a.put oi.dst v) w → Q (.panic c) a w) (hy : YieldsIf P ops S oi v a) (hS : S w)
    (h : wpAnyH P md ops Q S fuel (listed.setIfInBounds i true) (a.put (some d) v) w) : wpAnyH P md ops Q S (fuel + 1) listed a w :=
  wpAnyH_take hi hs hf hr hQ hy hS (by rw [hd]; exact h)
theorem value_at {P : Program} {md : Region.Mode} {ops : Array Oper} {Q : Exit → Act → World → Prop} {S : World → Prop} (i : Nat) {oi : Oper} (d : Tmp) (v : Value) {fuel : Nat} {listed : Array Bool} {a : Act} {w : World}
    (hi : ops[i]? = some oi) (hd : oi.dst = some d) (hr : Region.ready md ops listed = [i]) (hw : Region.wanted oi (yielded ops a.tmps) = true) (hx : (execOp a.eval oi).run P w = .ok (.value v) w)
    (hS : S w) (h : wpAnyH P md ops Q S fuel (listed.setIfInBounds i true) (a.put (some d) v) w) : wpAnyH P md ops Q S (fuel + 1) listed a w :=
  held_value i v hi hr hw hx hS (by rw [hd]; exact h)
theorem call_at {P : Program} {md : Region.Mode} {ops : Array Oper} {Q : Exit → Act → World → Prop} {S : World → Prop} (i : Nat) {oi : Oper} (d : Tmp) (f : FuncId) (args : Array Value) {fuel : Nat} {listed : Array Bool} {a : Act} {w : World}
    (hi : ops[i]? = some oi) (hd : oi.dst = some d) (hr : Region.ready md ops listed = [i]) (hw : Region.wanted oi (yielded ops a.tmps) = true) (hx : (execOp a.eval oi).run P w = .ok (.enter f args) w)
    (h : Calls P f args w fun e w' => ∃ v, e = .returned v ∧ S w' ∧ wpAnyH P md ops Q S fuel (listed.setIfInBounds i true) (a.put (some d) v) w') : wpAnyH P md ops Q S (fuel + 1) listed a w :=
  held_call i f args hi hr hw hx (by rw [hd]; exact h)
/-- A whole row is stored, alone. -/
theorem held_row {P : Program} {md : Region.Mode} {ops : Array Oper} {Q : Exit → Act → World → Prop} {S : World → Prop} (i : Nat) {oi : Oper} {fuel : Nat} {listed : Array Bool} {a : Act} {w : World} {ty t : TypeId} {x y : Operand} (g : Nat) (cells : Array Value) {old : Array Value}
    (hi : ops[i]? = some oi) (hr : Region.ready md ops listed = [i]) (hw : Region.wanted oi (yielded ops a.tmps) = true) (hd : oi.dst = none) (ho : oi.op = .store ty x y) (hx : a.eval x = .pointer (some ⟨g, 0, none⟩)) (hy : a.eval y = .agg cells)
    (hg : w.heap[g]? = some (.cells old t (0, 0))) (hz : (P.info? ty).map (·.size) = some cells.size) (hold : old.size = cells.size) (h1 : cells.all (·.oneCell') = true) (hS : S (w.setRow g cells))
    (k : wpAnyH P md ops Q S fuel (listed.setIfInBounds i true) a (w.setRow g cells)) : wpAnyH P md ops Q S (fuel + 1) listed a w := by
  refine held_op i hi hr hw (wp_store_row ty x y ho g cells hx hy t old hg hz hold h1 ⟨hS, ?_⟩)
  have e : a.put oi.dst undef = a := by rw [hd]; rfl
  rw [e]; exact k
section
variable {g gr gh : Nat} {w0 w : World} {n : Nd} {p : NdP}
theorem N3.nxR (h : N3 g gr gh (ndC n p) w0 w) (D : Array Value) : Nx g n p w0 (w.setRow gr D) := ⟨(setRow_other w gr g D (Ne.symm h.nr)).trans h.blk, below_setRow h.bel h.hr D⟩
theorem N3.nxH (h : N3 g gr gh (ndC n p) w0 w) (D E : Array Value) : Nx g n p w0 ((w.setRow gr D).setRow gh E) := ⟨(setRow_other _ gh g E (Ne.symm h.nh)).trans (h.nxR D).blk, below_setRow (below_setRow h.bel h.hr D) h.hh E⟩
end

theorem grown_row (w : World) (g : Nat) (D : Array Value) : w.grownBy (w.setRow g D) (some g) := ⟨rfl, rfl, rfl, by simp, fun k hk hne => setRow_other w g k D (fun e => hne (by rw [e]))⟩

set_option maxHeartbeats 8000000 in
/-- impl.heardWell. -/
theorem implHeard (n : Nd) (p : NdP) (w : World) (Y : Nat → Prop) (a0 : World) (h0 : NdY Y n p a0) (ha0 : Kp Y a0 w) (hE : ErrHeld w) (ht : n.tx = false) (h9 : n.pos = 9) (hA : NdA n p) (h8 : n.flt.length ≤ 8) (h32 : n.fifo.length ≤ 32) (hs8 : ∀ j, j < n.fifo.length → (nthF n.fifo j).D.length ≤ 1048576) :
    Calls Tryz.prog 242 #[ndV n p] w (SampX Y a0 (NdA n p) (heardN n) w) := by
  have hm := h0 w ha0
  replace ht := Lib.hid ht
  replace h9 := Lib.hid h9
  generalize hca : gwA n.cs n.cg = ca at *
  generalize hcb : gwB n.cs n.cg = cb at *
  replace hca := Lib.hid hca
  replace hcb := Lib.hid hcb
  have X := N3.made (ndC n p) w
  go_enter Tryz.func242, Tryz.ntmps242
  go_upto_region 1 with fail
  generalize World.alloc _ _ = W at X ⊢
  generalize w.heap.size + 1 + 1 = gh at X ⊢
  generalize w.heap.size + 1 = gr at X ⊢
  generalize w.heap.size = g at X ⊢
  have c1 : W.cell? ⟨g, 1, none⟩ = some (.bool n.tx) := X.cell 1
  have c13 : W.cell? ⟨g, 13, none⟩ = some (.int .i64 n.cs) := X.cell 13
  have c14 : W.cell? ⟨g, 14, none⟩ = some (.int .i64 n.cg) := X.cell 14
  rw [ht.out] at c1
  go_wp2_with fail
  refine (implGotWell _ _ _).mono ?_
  rintro e w2 ⟨rfl, b⟩
  rw [hca.out, hcb.out]
  replace X := X.below b
  clear b c1 c13 c14
  have c13 : w2.cell? ⟨g, 13, none⟩ = some (.int .i64 n.cs) := X.cell 13
  have c14 : w2.cell? ⟨g, 14, none⟩ = some (.int .i64 n.cg) := X.cell 14
  have f13 := X.free 13
  have f14 := X.free 14
  go_upto_region 4 with fail
  clear c13 c14 f13 f14
  replace X : N3 g gr gh (ndC ({ n with cs := ca, cg := cb }) p) w _ := ((X.set 13 (.int .i64 ca)).set 14 (.int .i64 cb))
  generalize World.setCell _ _ _ = W3 at X ⊢
  have c8 : W3.cell? ⟨g, 8, none⟩ = some (.string n.got) := X.cell 8
  have hB := X.lt
  have hs3 := X.bel.size
  go_wp2_with fail
  refine (implRead n.got _ hm.size (hE.below X.bel)).mono ?_
  rintro e w4 ⟨v, rfl, O, b⟩
  obtain ⟨av, cv, rfl, -⟩ := O.nums
  replace X := X.below b
  clear b c8
  have hgf : w4.heap.size ≠ g ∧ w4.heap.size ≠ gr ∧ w4.heap.size ≠ gh := by have := X.lt; omega
  have BF := Bx.made w4 (.int .i64 (rdId n.got)) (.bool (rdRm n.got)) (.int .i64 (rdLn n.got)) (.slice av (rdD n.got).length cv)
  have bb := below_more (Below.refl w4.heap.size w4) (.cells #[.int .i64 (rdId n.got), .bool (rdRm n.got), .int .i64 (rdLn n.got), .slice av (rdD n.got).length cv] 26)
  replace X := X.below bb
  replace O := O.below' bb
  clear bb
  go_upto_region 5 with fail
  generalize w4.alloc _ = W6 at X BF O ⊢
  generalize w4.heap.size = gf at hgf BF ⊢
  have d0 := BF.c0
  have c17 : W6.cell? ⟨g, 17, none⟩ = some (.slice p.al n.flt.length p.cl) := X.cell 17
  have hr : IntKind.i64.wrap 0 = 0 := rfl
  go_wp2_with fail
  refine (implPasses p.al n.flt p.cl (rdId n.got) _ (hm.below X.bel).flt (by omega)).mono ?_
  rintro e w7 ⟨rfl, b⟩
  replace X := X.below b
  replace BF := BF.below b
  replace O := O.below' b
  clear b c17 d0
  cases hp : passV n.flt (rdId n.got)
  · have e : heardN n = ({ n with cs := ca, cg := cb }, 0, zF) := by unfold heardN; rw [if_neg (by rw [show (rdF n.got).id = rdId n.got from rfl, hp]; decide), hca.out, hcb.out, ← h9.out]
    replace e := Lib.hid e
    clear hp
    go_upto_region 6 with fail
    go_wp2_with (first | (refine Nx.take ⟨X.blk, X.bel⟩ rfl rfl rfl ?_) | (refine wpList_put X.res rfl rfl rfl rfl rfl ?_) | (refine wpList_tell (k := 0) (f := zF) (ad := none) (cd := 0) (X.fin (ndC ({ n with cs := ca, cg := cb }) p) #[]).1 rfl rfl rfl rfl rfl ?_))
    obtain ⟨-, Z1, Z2, Z3⟩ := X.fin (ndC ({ n with cs := ca, cg := cb }) p) (hpC (0) (zF) (none) (0))
    refine bodyPost_ret (v := .tuple #[ndV ({ n with cs := ca, cg := cb }) p, hpV (0) (zF) (none) (0)]) ?_ rfl ⟨p, none, 0, by rw [e.out], by rw [e.out]; exact fun u k k2 => ⟨(h0 u k).lists rfl rfl rfl rfl hm.size, Nums.nil _, fun h => ⟨h.box, h.fifo⟩⟩, Z3⟩
    exact results_both Tryz.results242 _ _ gr gh _ _ rfl rfl Z1 Z2 rfl rfl
  · have c16 : w7.cell? ⟨g, 16, none⟩ = some (.slice p.af n.fifo.length p.cf) := X.cell 16
    obtain ⟨d0, d1, d2, d3⟩ : _ ∧ _ ∧ _ ∧ _ := ⟨BF.c0, BF.c1, BF.c2, BF.c3⟩
    replace hp := Lib.hid hp
    have hB7 := X.lt
    have hs7 := X.bel.size
    go_wp2_with fail
    refine (implPushedIn p.af n.fifo p.cf (rdId n.got) (rdRm n.got) (rdLn n.got) av (rdD n.got) cv _ (hm.below X.bel).fifo hA.fifo.1 hA.fifo.2 O.nums2 (by omega) hs8).mono ?_
    intro e w8 h8
    obtain ⟨M, a6, c6, he, hM, O6, -, b⟩ := h8
    replace X := X.below b
    replace BF := BF.below b
    replace O := O.below' b
    clear b c16 d0 d1 d2 d3
    obtain ⟨pf, pk, hq⟩ : ∃ pf pk, pushV n.fifo ⟨rdId n.got, rdRm n.got, rdLn n.got, rdD n.got⟩ = (pf, pk) := ⟨_, _, rfl⟩
    rw [hq] at he hM O6
    dsimp only at he hM O6
    subst he
    have hpl : pf.length ≤ 2000000 := by have := pushV_more n.fifo ⟨rdId n.got, rdRm n.got, rdLn n.got, rdD n.got⟩; rw [hq] at this; dsimp only at this; omega
    have c16 : w8.cell? ⟨g, 16, none⟩ = some (.slice p.af n.fifo.length p.cf) := X.cell 16
    have f16 := X.free 16
    go_upto_region 9 with fail
    clear c16 f16
    replace BF := BF.cellSet (j := 16) (.slice a6 pf.length c6) hgf.1
    replace O := O.kept2 (grown_at_cell w8 g 16 (.slice a6 pf.length c6)) hB.1
    replace O6 := O6.kept2 (grown_at_cell w8 g 16 (.slice a6 pf.length c6)) hB7.1
    replace X : N3 g gr gh (ndC { n with cs := ca, cg := cb, fifo := pf } { p with af := a6, cf := c6 }) w _ := X.set 16 (.slice a6 pf.length c6)
    generalize World.setCell _ _ _ = W9 at X BF O O6 ⊢
    have hdr : Below W9.heap.size W9 ({ W9 with drawn := W9.drawn + 1 } : World) := (Below.refl _ _).drew
    replace O := O.below' hdr
    replace O6 := O6.below hdr
    clear hdr
    cases pk
    · have e : heardN n = ({ n with cs := ca, cg := cb, fifo := pf }, 3, rdF n.got) := by unfold heardN; rw [if_pos (by rw [show (rdF n.got).id = rdId n.got from rfl, hp.out]), hca.out, hcb.out, show pushV n.fifo (rdF n.got) = (pf, false) from hq, ← h9.out]; rfl
      replace e := Lib.hid e
      go_upto_region 10 with fail
      refine wp_region_held (S := fun u => Nx g ({ n with cs := ca, cg := cb, fifo := pf }) ({ p with af := a6, cf := c6 }) w u ∧ Bx gf (.int .i64 (rdF n.got).id) (.bool (rdF n.got).rm) (.int .i64 (rdF n.got).ln) (.slice av (rdF n.got).D.length cv) u) (by kernel_rfl) ?_
      replace X := X.drew'
      replace BF : Bx gf (.int .i64 (rdF n.got).id) (.bool (rdF n.got).rm) (.int .i64 (rdF n.got).ln) (.slice av (rdF n.got).D.length cv) { W9 with drawn := W9.drawn + 1 } := BF
      generalize ({ W9 with drawn := W9.drawn + 1 } : World) = W at *
      refine take_at 0 _ (ndV ({ n with cs := ca, cg := cb, fifo := pf }) ({ p with af := a6, cf := c6 })) rfl rfl (by kernel_rfl) (by kernel_rfl) (by kernel_rfl) (fun _ _ _ h => h) (.inl ⟨rfl, fun u hu => hu.1.took rfl rfl⟩) ⟨X.nx, BF⟩ ?_
      refine take_at 1 _ (.agg #[.int .i64 (rdF n.got).id, .bool (rdF n.got).rm, .int .i64 (rdF n.got).ln, .slice av (rdF n.got).D.length cv]) rfl rfl (by kernel_rfl) (by kernel_rfl) (by kernel_rfl) (fun _ _ _ h => h) (.inl ⟨rfl, fun u hu => hu.2.took rfl rfl⟩) ⟨X.nx, BF⟩ ?_
      simp only [Act.put, List.setIfInBounds_toArray, List.set_cons_zero, List.set_cons_succ]
      refine take_at 2 _ (hpV 3 (rdF n.got) av cv) rfl rfl (by kernel_rfl) (by kernel_rfl) (by kernel_rfl) (fun _ _ _ h => h) (.inl ⟨rfl, fun u hu => by go_simp⟩) ⟨X.nx, BF⟩ ?_
      simp only [Act.put, List.setIfInBounds_toArray, List.set_cons_zero, List.set_cons_succ]
      refine held_row 3 gr (ndC ({ n with cs := ca, cg := cb, fifo := pf }) ({ p with af := a6, cf := c6 })) rfl (by kernel_rfl) rfl rfl rfl rfl rfl X.res (by kernel_rfl) rfl (ndC_one _ _) ⟨X.nxR _, BF.row _ hgf.2.1⟩ ?_
      refine held_row 4 gh (hpC 3 (rdF n.got) av cv) rfl (by kernel_rfl) rfl rfl rfl rfl rfl (X.fin _ #[]).1 (by kernel_rfl) rfl (hpC_one _ _ _ _) ⟨X.nxH _ _, (BF.row _ hgf.2.1).row _ hgf.2.2⟩ ?_
      refine wpAnyH_done (by kernel_rfl) ?_ _
      obtain ⟨-, Z1, Z2, Z3⟩ := X.fin (ndC ({ n with cs := ca, cg := cb, fifo := pf }) ({ p with af := a6, cf := c6 })) (hpC 3 (rdF n.got) av cv)
      go_wp2_with fail
      refine bodyPost_ret (v := .tuple #[ndV ({ n with cs := ca, cg := cb, fifo := pf }) ({ p with af := a6, cf := c6 }), hpV 3 (rdF n.got) av cv]) ?_ rfl ⟨{ p with af := a6, cf := c6 }, av, cv, by rw [e.out], by rw [e.out]; exact fun u k k2 => ⟨⟨(h0 u k).nums, (h0 u k).box, (((O6.kept2 (grown_row _ gr _) hB7.2.1).kept2 (grown_row _ gh _) hB7.2.2).up k2 hs7).frsOf hM hpl, (h0 u k).flt, hm.size⟩, (((O.kept2 (grown_row _ gr _) hB.2.1).kept2 (grown_row _ gh _) hB.2.2).up k2 hs3).nums2, fun h => ⟨h.box, O6.len.2, O6.addressed⟩⟩, Z3⟩
      exact results_both Tryz.results242 _ _ gr gh _ _ rfl rfl Z1 Z2 rfl rfl
    · have e : heardN n = ({ n with cs := ca, cg := cb, fifo := pf }, 2, rdF n.got) := by unfold heardN; rw [if_pos (by rw [show (rdF n.got).id = rdId n.got from rfl, hp.out]), hca.out, hcb.out, show pushV n.fifo (rdF n.got) = (pf, true) from hq, ← h9.out]; rfl
      replace e := Lib.hid e
      go_upto_region 11 with fail
      refine wp_region_held (S := fun u => Nx g ({ n with cs := ca, cg := cb, fifo := pf }) ({ p with af := a6, cf := c6 }) w u ∧ Bx gf (.int .i64 (rdF n.got).id) (.bool (rdF n.got).rm) (.int .i64 (rdF n.got).ln) (.slice av (rdF n.got).D.length cv) u) (by kernel_rfl) ?_
      replace X := X.drew'
      replace BF : Bx gf (.int .i64 (rdF n.got).id) (.bool (rdF n.got).rm) (.int .i64 (rdF n.got).ln) (.slice av (rdF n.got).D.length cv) { W9 with drawn := W9.drawn + 1 } := BF
      generalize ({ W9 with drawn := W9.drawn + 1 } : World) = W at *
      refine take_at 0 _ (ndV ({ n with cs := ca, cg := cb, fifo := pf }) ({ p with af := a6, cf := c6 })) rfl rfl (by kernel_rfl) (by kernel_rfl) (by kernel_rfl) (fun _ _ _ h => h) (.inl ⟨rfl, fun u hu => hu.1.took rfl rfl⟩) ⟨X.nx, BF⟩ ?_
      refine take_at 1 _ (.agg #[.int .i64 (rdF n.got).id, .bool (rdF n.got).rm, .int .i64 (rdF n.got).ln, .slice av (rdF n.got).D.length cv]) rfl rfl (by kernel_rfl) (by kernel_rfl) (by kernel_rfl) (fun _ _ _ h => h) (.inl ⟨rfl, fun u hu => hu.2.took rfl rfl⟩) ⟨X.nx, BF⟩ ?_
      simp only [Act.put, List.setIfInBounds_toArray, List.set_cons_zero, List.set_cons_succ]
      refine take_at 2 _ (hpV 2 (rdF n.got) av cv) rfl rfl (by kernel_rfl) (by kernel_rfl) (by kernel_rfl) (fun _ _ _ h => h) (.inl ⟨rfl, fun u hu => by go_simp⟩) ⟨X.nx, BF⟩ ?_
      simp only [Act.put, List.setIfInBounds_toArray, List.set_cons_zero, List.set_cons_succ]
      refine held_row 3 gr (ndC ({ n with cs := ca, cg := cb, fifo := pf }) ({ p with af := a6, cf := c6 })) rfl (by kernel_rfl) rfl rfl rfl rfl rfl X.res (by kernel_rfl) rfl (ndC_one _ _) ⟨X.nxR _, BF.row _ hgf.2.1⟩ ?_
      refine held_row 4 gh (hpC 2 (rdF n.got) av cv) rfl (by kernel_rfl) rfl rfl rfl rfl rfl (X.fin _ #[]).1 (by kernel_rfl) rfl (hpC_one _ _ _ _) ⟨X.nxH _ _, (BF.row _ hgf.2.1).row _ hgf.2.2⟩ ?_
      refine wpAnyH_done (by kernel_rfl) ?_ _
      obtain ⟨-, Z1, Z2, Z3⟩ := X.fin (ndC ({ n with cs := ca, cg := cb, fifo := pf }) ({ p with af := a6, cf := c6 })) (hpC 2 (rdF n.got) av cv)
      go_wp2_with fail
      refine bodyPost_ret (v := .tuple #[ndV ({ n with cs := ca, cg := cb, fifo := pf }) ({ p with af := a6, cf := c6 }), hpV 2 (rdF n.got) av cv]) ?_ rfl ⟨{ p with af := a6, cf := c6 }, av, cv, by rw [e.out], by rw [e.out]; exact fun u k k2 => ⟨⟨(h0 u k).nums, (h0 u k).box, (((O6.kept2 (grown_row _ gr _) hB7.2.1).kept2 (grown_row _ gh _) hB7.2.2).up k2 hs7).frsOf hM hpl, (h0 u k).flt, hm.size⟩, (((O.kept2 (grown_row _ gr _) hB.2.1).kept2 (grown_row _ gh _) hB.2.2).up k2 hs3).nums2, fun h => ⟨h.box, O6.len.2, O6.addressed⟩⟩, Z3⟩
      exact results_both Tryz.results242 _ _ gr gh _ _ rfl rfl Z1 Z2 rfl rfl

set_option maxHeartbeats 4000000 in
/-- impl.heardWell of one that sends. -/
theorem implHeardTx (n : Nd) (p : NdP) (w : World) (ht : n.tx = true) :
    Calls Tryz.prog 242 #[ndV n p] w (Told n 0 p w) := by
  replace ht := Lib.hid ht
  have X := N3.made (ndC n p) w
  go_enter Tryz.func242, Tryz.ntmps242
  go_upto_region 1 with fail
  generalize World.alloc _ _ = W at X ⊢
  generalize w.heap.size + 1 + 1 = gh at X ⊢
  generalize w.heap.size + 1 = gr at X ⊢
  generalize w.heap.size = g at X ⊢
  have c1 : W.cell? ⟨g, 1, none⟩ = some (.bool n.tx) := X.cell 1
  rw [ht.out] at c1
  go_upto_region 2 with fail
  clear c1
  go_wp2_with (first | (refine Nx.take ⟨X.blk, X.bel⟩ rfl rfl rfl ?_) | (refine wpList_put X.res rfl rfl rfl rfl rfl ?_) | (refine wpList_tell (k := 0) (f := zF) (ad := none) (cd := 0) (X.fin (ndC (n) p) #[]).1 rfl rfl rfl rfl rfl ?_))
  obtain ⟨-, Z1, Z2, Z3⟩ := X.fin (ndC (n) p) (hpC (0) (zF) (none) (0))
  refine bodyPost_ret (v := .tuple #[ndV (n) p, hpV (0) (zF) (none) (0)]) ?_ rfl ⟨rfl, Z3⟩
  exact results_both Tryz.results242 _ _ gr gh _ _ rfl rfl Z1 Z2 rfl rfl

set_option maxHeartbeats 4000000 in
/-- impl.ended of one that did not send. -/
theorem implEnded (n : Nd) (p : NdP) (w : World) (Y : Nat → Prop) (a0 : World) (h0 : NdY Y n p a0) (ha0 : Kp Y a0 w) (ht : n.tx = false) :
    Calls Tryz.prog 243 #[ndV n p] w (SampX Y a0 (NdA n p) ({ n with ph := 5, left := 3, got := ⟨#[]⟩, run := 0, last := 0, pos := 0 }, 0, zF) w) := by
  have hm := h0 w ha0
  replace ht := Lib.hid ht
  have X := N3.made (ndC n p) w
  go_enter Tryz.func243, Tryz.ntmps243
  go_upto_region 1 with fail
  generalize World.alloc _ _ = W at X ⊢
  generalize w.heap.size + 1 + 1 = gh at X ⊢
  generalize w.heap.size + 1 = gr at X ⊢
  generalize w.heap.size = g at X ⊢
  go_wp2_with (refine Nx.take ⟨X.blk, X.bel⟩ rfl rfl rfl ?_)
  refine (implUnseen n p _).mono ?_
  rintro e w2 ⟨rfl, b⟩
  replace X := X.below b
  clear b
  go_upto_region 2 with (refine wpList_put X.blk rfl rfl rfl rfl rfl ?_)
  replace X : N3 g gr gh (ndC (unN n) p) w _ := X.put _
  generalize World.setRow _ _ _ = W2 at X ⊢
  have c0 : W2.cell? ⟨g, 0, none⟩ = some (.int .i64 n.ph) := X.cell 0
  have c12 : W2.cell? ⟨g, 12, none⟩ = some (.int .i64 n.left) := X.cell 12
  have f0 := X.free 0
  have f12 := X.free 12
  go_upto_region 3 with fail
  clear c0 c12 f0 f12
  replace X : N3 g gr gh (ndC ({ n with ph := 5, left := 3, got := ⟨#[]⟩, run := 0, last := 0, pos := 0 }) p) w _ := ((X.set 0 (.int .i64 5)).set 12 (.int .i64 3))
  generalize World.setCell _ _ _ = W3 at X ⊢
  have c1 : W3.cell? ⟨g, 1, none⟩ = some (.bool n.tx) := X.cell 1
  have c13 : W3.cell? ⟨g, 13, none⟩ = some (.int .i64 n.cs) := X.cell 13
  have c14 : W3.cell? ⟨g, 14, none⟩ = some (.int .i64 n.cg) := X.cell 14
  rw [ht.out] at c1
  go_upto_region 4 with fail
  clear c1 c13 c14
  go_wp2_with (first | (refine Nx.take ⟨X.blk, X.bel⟩ rfl rfl rfl ?_) | (refine wpList_put X.res rfl rfl rfl rfl rfl ?_) | (refine wpList_tell (k := 0) (f := zF) (ad := none) (cd := 0) (X.fin (ndC ({ n with ph := 5, left := 3, got := ⟨#[]⟩, run := 0, last := 0, pos := 0 }) p) #[]).1 rfl rfl rfl rfl rfl ?_))
  obtain ⟨-, Z1, Z2, Z3⟩ := X.fin (ndC ({ n with ph := 5, left := 3, got := ⟨#[]⟩, run := 0, last := 0, pos := 0 }) p) (hpC (0) (zF) (none) (0))
  refine bodyPost_ret (v := .tuple #[ndV ({ n with ph := 5, left := 3, got := ⟨#[]⟩, run := 0, last := 0, pos := 0 }) p, hpV (0) (zF) (none) (0)]) ?_ rfl ⟨p, none, 0, rfl, fun u k k2 => ⟨(h0 u k).lists rfl rfl rfl rfl (Nat.zero_le _), Nums.nil _, fun h => ⟨h.box, h.fifo⟩⟩, Z3⟩
  exact results_both Tryz.results243 _ _ gr gh _ _ rfl rfl Z1 Z2 rfl rfl

set_option maxHeartbeats 8000000 in
/-- impl.ended of one that sent. -/
theorem implEndedTx (n : Nd) (p : NdP) (w : World) (Y : Nat → Prop) (a0 : World) (h0 : NdY Y n p a0) (ha0 : Kp Y a0 w) (ht : n.tx = true) (hA : NdA n p) (hbB : boxB n.box = true) :
    Calls Tryz.prog 243 #[ndV n p] w (SampX Y a0 (NdA n p) ({ n with ph := 5, left := 3, got := ⟨#[]⟩, run := 0, last := 0, pos := 0, cs := swA n.cs n.cg, cg := swB n.cs n.cg, box := outV n.box (rkF n.fr) }, 1, n.fr) w) := by
  have hm := h0 w ha0
  replace ht := Lib.hid ht
  generalize hca : swA n.cs n.cg = ca at *
  generalize hcb : swB n.cs n.cg = cb at *
  replace hca := Lib.hid hca
  replace hcb := Lib.hid hcb
  have hbl : (outV n.box (rkF n.fr)).length ≤ 2000000 := by have := (boxB_iff.1 (out_ok (r := rkF n.fr) hbB)).1; omega
  generalize hbx : outV n.box (rkF n.fr) = bx at *
  replace hbx := Lib.hid hbx
  have X := N3.made (ndC n p) w
  go_enter Tryz.func243, Tryz.ntmps243
  go_upto_region 1 with fail
  generalize World.alloc _ _ = W at X ⊢
  generalize w.heap.size + 1 + 1 = gh at X ⊢
  generalize w.heap.size + 1 = gr at X ⊢
  generalize w.heap.size = g at X ⊢
  go_wp2_with (refine Nx.take ⟨X.blk, X.bel⟩ rfl rfl rfl ?_)
  refine (implUnseen n p _).mono ?_
  rintro e w2 ⟨rfl, b⟩
  replace X := X.below b
  clear b
  go_upto_region 2 with (refine wpList_put X.blk rfl rfl rfl rfl rfl ?_)
  replace X : N3 g gr gh (ndC (unN n) p) w _ := X.put _
  generalize World.setRow _ _ _ = W2 at X ⊢
  have c0 : W2.cell? ⟨g, 0, none⟩ = some (.int .i64 n.ph) := X.cell 0
  have c12 : W2.cell? ⟨g, 12, none⟩ = some (.int .i64 n.left) := X.cell 12
  have f0 := X.free 0
  have f12 := X.free 12
  go_upto_region 3 with fail
  clear c0 c12 f0 f12
  replace X : N3 g gr gh (ndC ({ n with ph := 5, left := 3, got := ⟨#[]⟩, run := 0, last := 0, pos := 0 }) p) w _ := ((X.set 0 (.int .i64 5)).set 12 (.int .i64 3))
  generalize World.setCell _ _ _ = W3 at X ⊢
  have c1 : W3.cell? ⟨g, 1, none⟩ = some (.bool n.tx) := X.cell 1
  have c13 : W3.cell? ⟨g, 13, none⟩ = some (.int .i64 n.cs) := X.cell 13
  have c14 : W3.cell? ⟨g, 14, none⟩ = some (.int .i64 n.cg) := X.cell 14
  rw [ht.out] at c1
  go_wp2_with fail
  refine (implSentWell _ _ _).mono ?_
  rintro e w4 ⟨rfl, b⟩
  rw [hca.out, hcb.out]
  replace X := X.below b
  clear b c1 c13 c14
  have c13 : w4.cell? ⟨g, 13, none⟩ = some (.int .i64 n.cs) := X.cell 13
  have c14 : w4.cell? ⟨g, 14, none⟩ = some (.int .i64 n.cg) := X.cell 14
  have f13 := X.free 13
  have f14 := X.free 14
  go_upto_region 6 with fail
  clear c13 c14 f13 f14
  replace X : N3 g gr gh (ndC ({ n with ph := 5, left := 3, got := ⟨#[]⟩, run := 0, last := 0, pos := 0, cs := ca, cg := cb }) p) w _ := ((X.set 13 (.int .i64 ca)).set 14 (.int .i64 cb))
  generalize World.setCell _ _ _ = W5 at X ⊢
  have hmd := (hm.below X.bel).drew
  have X0 := X
  replace X := X.drew
  have c4 : W5.drew.cell? ⟨g, 4, none⟩ = some (.int .i64 n.fr.id) := X.cell 4
  have c5 : W5.drew.cell? ⟨g, 5, none⟩ = some (.bool n.fr.rm) := X.cell 5
  have c6 : W5.drew.cell? ⟨g, 6, none⟩ = some (.int .i64 n.fr.ln) := X.cell 6
  have c7 : W5.drew.cell? ⟨g, 7, none⟩ = some (.slice p.ad n.fr.D.length p.cd) := X.cell 7
  have c15 : W5.drew.cell? ⟨g, 15, none⟩ = some (.slice p.ab n.box.length p.cb) := X.cell 15
  have f15 := X.free 15
  go_region_law (first
    | (go_simp
       go_at_call 105
       refine (implRankOf n.fr.id n.fr.rm n.fr.ln p.ad n.fr.D p.cd _ hmd.nums).mono ?_
       rintro e w6 ⟨rfl, b6⟩
       have X6 := X.below b6
       have m6 := hmd.below b6
       have hB6 := X6.lt
       have hs6 := X6.bel.size
       have e15 : w6.cell? ⟨g, 15, none⟩ = some (.slice p.ab n.box.length p.cb) := X6.cell 15
       clear b6)
    | (go_simp
       go_at_call 268
       refine (implTakenOut p.ab n.box p.cb (rkF n.fr) _ m6.box hA.box.1 hA.box.2).mono ?_
       intro e w7 h7
       obtain ⟨M, a7, c7, he, hM, O7, -, b7⟩ := h7
       rw [hbx.out] at he hM O7
       subst he
       have X7 := X6.below b7
       have g15 : w7.cell? ⟨g, 15, none⟩ = some (.slice p.ab n.box.length p.cb) := X7.cell 15
       have k15 : w7.frozen? ⟨g, 15, none⟩ = false := X7.free 15
       clear b7))
  all_goals
    replace O7 := O7.kept2 (grown_at_cell w7 g 15 (.slice a7 bx.length c7)) hB6.1
    have X8 : N3 g gr gh (ndC ({ n with ph := 5, left := 3, got := ⟨#[]⟩, run := 0, last := 0, pos := 0, cs := ca, cg := cb, box := bx }) ({ p with ab := a7, cb := c7 })) w _ := X7.set 15 (.slice a7 bx.length c7)
    clear X X0 X6 X7 g15 k15 e15 m6 hmd c4 c5 c6 c15 f15
    have X := X8
    clear X8
    generalize World.setCell _ _ _ = W9 at X O7 ⊢
    have hdr : Below W9.heap.size W9 ({ W9 with drawn := W9.drawn + 1 } : World) := (Below.refl _ _).drew
    replace O7 := O7.below hdr
    clear hdr
    go_upto_region 7 with fail
    refine wp_region_held (S := fun u => Nx g ({ n with ph := 5, left := 3, got := ⟨#[]⟩, run := 0, last := 0, pos := 0, cs := ca, cg := cb, box := bx }) ({ p with ab := a7, cb := c7 }) w u) (by kernel_rfl) ?_
    replace X := X.drew'
    generalize ({ W9 with drawn := W9.drawn + 1 } : World) = W at *
    refine take_at 0 _ (ndV ({ n with ph := 5, left := 3, got := ⟨#[]⟩, run := 0, last := 0, pos := 0, cs := ca, cg := cb, box := bx }) ({ p with ab := a7, cb := c7 })) rfl rfl (by kernel_rfl) (by kernel_rfl) (by kernel_rfl) (fun _ _ _ h => h) (.inl ⟨rfl, fun u hu => hu.took rfl rfl⟩) X.nx ?_
    refine take_at 1 _ (.pointer (some ⟨g, 4, none⟩)) rfl rfl (by kernel_rfl) (by kernel_rfl) (by kernel_rfl) (fun _ _ _ h => h) (.inl ⟨rfl, fun u hu => by go_simp⟩) X.nx ?_
    simp only [Act.put, List.setIfInBounds_toArray, List.set_cons_zero, List.set_cons_succ]
    refine take_at 2 _ (.agg #[.int .i64 (n.fr).id, .bool (n.fr).rm, .int .i64 (n.fr).ln, .slice p.ad (n.fr).D.length p.cd]) rfl rfl (by kernel_rfl) (by kernel_rfl) (by kernel_rfl) (fun _ _ _ h => h) (.inl ⟨rfl, fun u hu => by obtain ⟨d4, d5, d6, d7⟩ := hu.cellsTook; go_simp⟩) X.nx ?_
    simp only [Act.put, List.setIfInBounds_toArray, List.set_cons_zero, List.set_cons_succ]
    refine take_at 3 _ (hpV 1 (n.fr) p.ad p.cd) rfl rfl (by kernel_rfl) (by kernel_rfl) (by kernel_rfl) (fun _ _ _ h => h) (.inl ⟨rfl, fun u hu => by go_simp⟩) X.nx ?_
    simp only [Act.put, List.setIfInBounds_toArray, List.set_cons_zero, List.set_cons_succ]
    refine held_row 4 gr (ndC ({ n with ph := 5, left := 3, got := ⟨#[]⟩, run := 0, last := 0, pos := 0, cs := ca, cg := cb, box := bx }) ({ p with ab := a7, cb := c7 })) rfl (by kernel_rfl) rfl rfl rfl rfl rfl X.res (by kernel_rfl) rfl (ndC_one _ _) (X.nxR _) ?_
    refine held_row 5 gh (hpC 1 (n.fr) p.ad p.cd) rfl (by kernel_rfl) rfl rfl rfl rfl rfl (X.fin _ #[]).1 (by kernel_rfl) rfl (hpC_one _ _ _ _) (X.nxH _ _) ?_
    refine wpAnyH_done (by kernel_rfl) ?_ _
    obtain ⟨-, Z1, Z2, Z3⟩ := X.fin (ndC ({ n with ph := 5, left := 3, got := ⟨#[]⟩, run := 0, last := 0, pos := 0, cs := ca, cg := cb, box := bx }) ({ p with ab := a7, cb := c7 })) (hpC 1 (n.fr) p.ad p.cd)
    go_wp2_with fail
    refine bodyPost_ret (v := .tuple #[ndV ({ n with ph := 5, left := 3, got := ⟨#[]⟩, run := 0, last := 0, pos := 0, cs := ca, cg := cb, box := bx }) ({ p with ab := a7, cb := c7 }), hpV 1 (n.fr) p.ad p.cd]) ?_ rfl ⟨{ p with ab := a7, cb := c7 }, p.ad, p.cd, rfl, fun u k k2 => ⟨⟨(h0 u k).nums, (((O7.kept2 (grown_row _ gr _) hB6.2.1).kept2 (grown_row _ gh _) hB6.2.2).up k2 hs6).frsOf hM hbl, (h0 u k).fifo, (h0 u k).flt, Nat.zero_le _⟩, (h0 u k).nums, fun h => ⟨⟨O7.len.2, O7.addressed⟩, h.fifo⟩⟩, Z3⟩
    exact results_both Tryz.results243 _ _ gr gh _ _ rfl rfl Z1 Z2 rfl rfl
end Go.Proofs.YtngcekegngmedaaGreatDoor

/- The program's inTail and inBody. -/

set_option linter.unusedVariables false
set_option linter.unusedSimpArgs false
set_option maxRecDepth 20000
namespace Go.Proofs.YtngcekegngmedaaGreatDoor
open Go.RowKit

theorem frB_short {f : Frm} (h : frB f = true) : f.D.length ≤ 1048576 := by have := frOk_max (show frOk f.id f.rm f.ln f.D = true from h); omega
theorem fifo_short {L : List Frm} (h : fifoB L = true) : ∀ j, j < L.length → (nthF L j).D.length ≤ 1048576 := by
  intro j hj
  simp only [fifoB, Bool.and_eq_true, List.all_eq_true] at h
  exact frB_short (h.2 _ (by rw [nthF_eq hj]; exact List.getElem_mem hj))
theorem fifo_32 {L : List Frm} (h : fifoB L = true) : L.length ≤ 32 := by simp only [fifoB, Bool.and_eq_true, decide_eq_true_eq] at h; exact h.1
section
variable {g gr gh : Nat} {C : Array Value} {w0 w : World}
end

set_option maxHeartbeats 4000000 in
/-- impl.inTail of one that breaks off. -/
theorem implTailBreak (n : Nd) (p : NdP) (l : Int) (w : World) (hl : l = 0 ∨ l = 1) (ht : tailB n l = true) :
    Calls Tryz.prog 204 #[ndV n p, .int .i64 l] w (Broke w) := by
  replace ht := Lib.hid ht
  have X := N3.made (ndC n p) w
  go_enter Tryz.func204, Tryz.ntmps204
  go_upto_region 1 with fail
  generalize World.alloc _ _ = W at X ⊢
  generalize w.heap.size + 1 + 1 = gh at X ⊢
  generalize w.heap.size + 1 = gr at X ⊢
  generalize w.heap.size = g at X ⊢
  go_wp2_with (refine Nx.take ⟨X.blk, X.bel⟩ rfl rfl rfl ?_)
  refine (implWrong n p l _ hl).mono ?_
  rintro e w2 ⟨rfl, b⟩
  rw [ht.out]
  replace X := X.below b
  clear b
  go_wp2_with fail
  refine (implBreak _).mono ?_
  rintro e w3 ⟨rfl, b⟩
  exact ⟨rfl, rfl, Below.then2 X.bel b⟩

set_option maxHeartbeats 8000000 in
/-- impl.inTail, where a frame is heard. -/
theorem implTailHeard (n : Nd) (p : NdP) (l : Int) (w : World) (Y : Nat → Prop) (a0 : World) (h0 : NdY Y n p a0) (ha0 : Kp Y a0 w) (hE : ErrHeld w) (hl : l = 0 ∨ l = 1) (ht : tailB n l = false) (h8p : n.pos = 8) (htx : n.tx = false) (hA : NdA n p) (h8 : n.flt.length ≤ 8) (h32 : n.fifo.length ≤ 32) (hs8 : ∀ j, j < n.fifo.length → (nthF n.fifo j).D.length ≤ 1048576) :
    Calls Tryz.prog 204 #[ndV n p, .int .i64 l] w (SampX Y a0 (NdA n p) (heardN n) w) := by
  replace htx := Lib.hid htx
  replace h8p := Lib.hid h8p
  replace ht := Lib.hid ht
  have hm := h0 w ha0
  have X := N3.made (ndC n p) w
  go_enter Tryz.func204, Tryz.ntmps204
  go_upto_region 1 with fail
  generalize World.alloc _ _ = W at X ⊢
  generalize w.heap.size + 1 + 1 = gh at X ⊢
  generalize w.heap.size + 1 = gr at X ⊢
  generalize w.heap.size = g at X ⊢
  go_wp2_with (refine Nx.take ⟨X.blk, X.bel⟩ rfl rfl rfl ?_)
  refine (implWrong n p l _ hl).mono ?_
  rintro e w2 ⟨rfl, b⟩
  rw [ht.out]
  replace X := X.below b
  clear b
  go_wp2_with fail
  refine (implNoBreak _).mono ?_
  rintro e w3 ⟨rfl, b⟩
  replace X := X.below b
  clear b
  have c11 : w3.cell? ⟨g, 11, none⟩ = some (.int .i64 8) := (X.cell 11).trans (by rw [← h8p.out]; rfl)
  have f11 := X.free 11
  go_upto_region 5 with fail
  clear c11 f11
  replace X : N3 g gr gh (ndC ({ n with pos := 9 }) p) w _ := (X.set 11 (.int .i64 9))
  generalize World.setCell _ _ _ = w4 at X ⊢
  go_wp2_with (refine Nx.take ⟨X.blk, X.bel⟩ rfl rfl rfl ?_)
  have hlt := X.lt
  have hsz := X.bel.size
  refine (implHeard { n with pos := 9 } p w4 Y a0 (fun u k => ⟨(h0 u k).nums, (h0 u k).box, (h0 u k).fifo, (h0 u k).flt, h0.size⟩) (from0 ha0 X.bel) (hE.below X.bel) htx.out rfl ⟨hA.box, hA.fifo⟩ h8 h32 hs8).mono ?_
  rintro e w5 ⟨p5, ad5, cd5, rfl, hk5, b⟩
  replace X := X.below b
  clear b
  go_wp2_with (first | (refine wpList_put (n := (heardN n).1) (p := p5) X.res rfl rfl rfl rfl rfl ?_) | (refine wpList_tell (k := (heardN n).2.1) (f := (heardN n).2.2) (ad := ad5) (cd := cd5) (X.fin (ndC (heardN n).1 p5) #[]).1 rfl rfl rfl rfl rfl ?_))
  have hmf := X.upFin (ndC (heardN n).1 p5) (hpC (heardN n).2.1 (heardN n).2.2 ad5 cd5) hlt.2.1 hlt.2.2
  obtain ⟨-, Z1, Z2, Z3⟩ := X.fin (ndC (heardN n).1 p5) (hpC (heardN n).2.1 (heardN n).2.2 ad5 cd5)
  refine bodyPost_ret (v := .tuple #[ndV (heardN n).1 p5, hpV (heardN n).2.1 (heardN n).2.2 ad5 cd5]) ?_ rfl ⟨p5, ad5, cd5, rfl, fun u k k2 => (hk5 u k (hmf.trans (k2.higher hsz))).imp id (And.imp id fun hA h => hA ⟨h.box, h.fifo⟩), Z3⟩
  exact results_both Tryz.results204 _ _ gr gh _ _ rfl rfl Z1 Z2 rfl rfl

set_option maxHeartbeats 8000000 in
/-- impl.inTail, one bit ahead of the last one, of one that sends. -/
theorem implTailEight (n : Nd) (p : NdP) (l : Int) (w : World) (Y : Nat → Prop) (a0 : World) (h0 : NdY Y n p a0) (ha0 : Kp Y a0 w) (hl : l = 0 ∨ l = 1) (ht : tailB n l = false) (h8p : n.pos = 8) (htx : n.tx = true) :
    Calls Tryz.prog 204 #[ndV n p, .int .i64 l] w (SampX Y a0 (NdA n p) ({ n with pos := 9 }, 0, zF) w) := by
  replace htx := Lib.hid htx
  replace h8p := Lib.hid h8p
  replace ht := Lib.hid ht
  have hm := h0 w ha0
  have X := N3.made (ndC n p) w
  go_enter Tryz.func204, Tryz.ntmps204
  go_upto_region 1 with fail
  generalize World.alloc _ _ = W at X ⊢
  generalize w.heap.size + 1 + 1 = gh at X ⊢
  generalize w.heap.size + 1 = gr at X ⊢
  generalize w.heap.size = g at X ⊢
  go_wp2_with (refine Nx.take ⟨X.blk, X.bel⟩ rfl rfl rfl ?_)
  refine (implWrong n p l _ hl).mono ?_
  rintro e w2 ⟨rfl, b⟩
  rw [ht.out]
  replace X := X.below b
  clear b
  go_wp2_with fail
  refine (implNoBreak _).mono ?_
  rintro e w3 ⟨rfl, b⟩
  replace X := X.below b
  clear b
  have c11 : w3.cell? ⟨g, 11, none⟩ = some (.int .i64 8) := (X.cell 11).trans (by rw [← h8p.out]; rfl)
  have f11 := X.free 11
  go_upto_region 5 with fail
  clear c11 f11
  replace X : N3 g gr gh (ndC ({ n with pos := 9 }) p) w _ := (X.set 11 (.int .i64 9))
  generalize World.setCell _ _ _ = w4 at X ⊢
  go_wp2_with (refine Nx.take ⟨X.blk, X.bel⟩ rfl rfl rfl ?_)
  refine (implHeardTx { n with pos := 9 } p _ htx.out).mono ?_
  rintro e w5 ⟨rfl, b⟩
  replace X := X.below b
  clear b
  go_wp2_with (first | (refine Nx.take ⟨X.blk, X.bel⟩ rfl rfl rfl ?_) | (refine wpList_put X.res rfl rfl rfl rfl rfl ?_) | (refine wpList_tell (k := 0) (f := zF) (ad := none) (cd := 0) (X.fin (ndC ({ n with pos := 9 }) p) #[]).1 rfl rfl rfl rfl rfl ?_))
  obtain ⟨-, Z1, Z2, Z3⟩ := X.fin (ndC ({ n with pos := 9 }) p) (hpC (0) (zF) (none) (0))
  refine bodyPost_ret (v := .tuple #[ndV ({ n with pos := 9 }) p, hpV (0) (zF) (none) (0)]) ?_ rfl ⟨p, none, 0, rfl, fun u k k2 => ⟨(h0 u k).lists rfl rfl rfl rfl hm.size, Nums.nil _, fun h => ⟨h.box, h.fifo⟩⟩, Z3⟩
  exact results_both Tryz.results204 _ _ gr gh _ _ rfl rfl Z1 Z2 rfl rfl

set_option maxHeartbeats 8000000 in
/-- impl.inTail, at the last bit. -/
theorem implTailLast (n : Nd) (p : NdP) (l : Int) (w : World) (Y : Nat → Prop) (a0 : World) (h0 : NdY Y n p a0) (ha0 : Kp Y a0 w) (hl : l = 0 ∨ l = 1) (ht : tailB n l = false) (h9p : n.pos = 9) (htx : n.tx = false) :
    Calls Tryz.prog 204 #[ndV n p, .int .i64 l] w (SampX Y a0 (NdA n p) ({ n with ph := 5, left := 3, got := ⟨#[]⟩, run := 0, last := 0, pos := 0 }, 0, zF) w) := by
  replace htx := Lib.hid htx
  replace h9p := Lib.hid h9p
  replace ht := Lib.hid ht
  have hm := h0 w ha0
  have X := N3.made (ndC n p) w
  go_enter Tryz.func204, Tryz.ntmps204
  go_upto_region 1 with fail
  generalize World.alloc _ _ = W at X ⊢
  generalize w.heap.size + 1 + 1 = gh at X ⊢
  generalize w.heap.size + 1 = gr at X ⊢
  generalize w.heap.size = g at X ⊢
  go_wp2_with (refine Nx.take ⟨X.blk, X.bel⟩ rfl rfl rfl ?_)
  refine (implWrong n p l _ hl).mono ?_
  rintro e w2 ⟨rfl, b⟩
  rw [ht.out]
  replace X := X.below b
  clear b
  go_wp2_with fail
  refine (implNoBreak _).mono ?_
  rintro e w3 ⟨rfl, b⟩
  replace X := X.below b
  clear b
  have c11 : w3.cell? ⟨g, 11, none⟩ = some (.int .i64 9) := (X.cell 11).trans (by rw [← h9p.out]; rfl)
  go_wp2_with (refine Nx.take ⟨X.blk, X.bel⟩ rfl rfl rfl ?_)
  have hlt := X.lt
  have hsz := X.bel.size
  refine (implEnded n p w3 Y a0 h0 (from0 ha0 X.bel) htx.out).mono ?_
  rintro e w5 ⟨p5, ad5, cd5, rfl, hk5, b⟩
  replace X := X.below b
  clear b
  clear c11
  go_wp2_with (first | (refine wpList_put (n := ((({ n with ph := 5, left := 3, got := ⟨#[]⟩, run := 0, last := 0, pos := 0 }, 0, zF) : Nd × Int × Frm)).1) (p := p5) X.res rfl rfl rfl rfl rfl ?_) | (refine wpList_tell (k := ((({ n with ph := 5, left := 3, got := ⟨#[]⟩, run := 0, last := 0, pos := 0 }, 0, zF) : Nd × Int × Frm)).2.1) (f := ((({ n with ph := 5, left := 3, got := ⟨#[]⟩, run := 0, last := 0, pos := 0 }, 0, zF) : Nd × Int × Frm)).2.2) (ad := ad5) (cd := cd5) (X.fin (ndC ((({ n with ph := 5, left := 3, got := ⟨#[]⟩, run := 0, last := 0, pos := 0 }, 0, zF) : Nd × Int × Frm)).1 p5) #[]).1 rfl rfl rfl rfl rfl ?_))
  have hmf := X.upFin (ndC ((({ n with ph := 5, left := 3, got := ⟨#[]⟩, run := 0, last := 0, pos := 0 }, 0, zF) : Nd × Int × Frm)).1 p5) (hpC ((({ n with ph := 5, left := 3, got := ⟨#[]⟩, run := 0, last := 0, pos := 0 }, 0, zF) : Nd × Int × Frm)).2.1 ((({ n with ph := 5, left := 3, got := ⟨#[]⟩, run := 0, last := 0, pos := 0 }, 0, zF) : Nd × Int × Frm)).2.2 ad5 cd5) hlt.2.1 hlt.2.2
  obtain ⟨-, Z1, Z2, Z3⟩ := X.fin (ndC ((({ n with ph := 5, left := 3, got := ⟨#[]⟩, run := 0, last := 0, pos := 0 }, 0, zF) : Nd × Int × Frm)).1 p5) (hpC ((({ n with ph := 5, left := 3, got := ⟨#[]⟩, run := 0, last := 0, pos := 0 }, 0, zF) : Nd × Int × Frm)).2.1 ((({ n with ph := 5, left := 3, got := ⟨#[]⟩, run := 0, last := 0, pos := 0 }, 0, zF) : Nd × Int × Frm)).2.2 ad5 cd5)
  refine bodyPost_ret (v := .tuple #[ndV ((({ n with ph := 5, left := 3, got := ⟨#[]⟩, run := 0, last := 0, pos := 0 }, 0, zF) : Nd × Int × Frm)).1 p5, hpV ((({ n with ph := 5, left := 3, got := ⟨#[]⟩, run := 0, last := 0, pos := 0 }, 0, zF) : Nd × Int × Frm)).2.1 ((({ n with ph := 5, left := 3, got := ⟨#[]⟩, run := 0, last := 0, pos := 0 }, 0, zF) : Nd × Int × Frm)).2.2 ad5 cd5]) ?_ rfl ⟨p5, ad5, cd5, rfl, fun u k k2 => (hk5 u k (hmf.trans (k2.higher hsz))).imp id (And.imp id fun hA h => hA ⟨h.box, h.fifo⟩), Z3⟩
  exact results_both Tryz.results204 _ _ gr gh _ _ rfl rfl Z1 Z2 rfl rfl

set_option maxHeartbeats 8000000 in
/-- impl.inTail, at the last bit, of one that sends. -/
theorem implTailSent (n : Nd) (p : NdP) (l : Int) (w : World) (Y : Nat → Prop) (a0 : World) (h0 : NdY Y n p a0) (ha0 : Kp Y a0 w) (hl : l = 0 ∨ l = 1) (ht : tailB n l = false) (h9p : n.pos = 9) (htx : n.tx = true) (hA : NdA n p) (hbB : boxB n.box = true) :
    Calls Tryz.prog 204 #[ndV n p, .int .i64 l] w (SampX Y a0 (NdA n p) ({ n with ph := 5, left := 3, got := ⟨#[]⟩, run := 0, last := 0, pos := 0, cs := swA n.cs n.cg, cg := swB n.cs n.cg, box := outV n.box (rkF n.fr) }, 1, n.fr) w) := by
  replace htx := Lib.hid htx
  replace h9p := Lib.hid h9p
  replace ht := Lib.hid ht
  have hm := h0 w ha0
  have X := N3.made (ndC n p) w
  go_enter Tryz.func204, Tryz.ntmps204
  go_upto_region 1 with fail
  generalize World.alloc _ _ = W at X ⊢
  generalize w.heap.size + 1 + 1 = gh at X ⊢
  generalize w.heap.size + 1 = gr at X ⊢
  generalize w.heap.size = g at X ⊢
  go_wp2_with (refine Nx.take ⟨X.blk, X.bel⟩ rfl rfl rfl ?_)
  refine (implWrong n p l _ hl).mono ?_
  rintro e w2 ⟨rfl, b⟩
  rw [ht.out]
  replace X := X.below b
  clear b
  go_wp2_with fail
  refine (implNoBreak _).mono ?_
  rintro e w3 ⟨rfl, b⟩
  replace X := X.below b
  clear b
  have c11 : w3.cell? ⟨g, 11, none⟩ = some (.int .i64 9) := (X.cell 11).trans (by rw [← h9p.out]; rfl)
  go_wp2_with (refine Nx.take ⟨X.blk, X.bel⟩ rfl rfl rfl ?_)
  have hlt := X.lt
  have hsz := X.bel.size
  refine (implEndedTx n p w3 Y a0 h0 (from0 ha0 X.bel) htx.out hA hbB).mono ?_
  rintro e w5 ⟨p5, ad5, cd5, rfl, hk5, b⟩
  replace X := X.below b
  clear b
  clear c11
  go_wp2_with (first | (refine wpList_put (n := ((({ n with ph := 5, left := 3, got := ⟨#[]⟩, run := 0, last := 0, pos := 0, cs := swA n.cs n.cg, cg := swB n.cs n.cg, box := outV n.box (rkF n.fr) }, 1, n.fr) : Nd × Int × Frm)).1) (p := p5) X.res rfl rfl rfl rfl rfl ?_) | (refine wpList_tell (k := ((({ n with ph := 5, left := 3, got := ⟨#[]⟩, run := 0, last := 0, pos := 0, cs := swA n.cs n.cg, cg := swB n.cs n.cg, box := outV n.box (rkF n.fr) }, 1, n.fr) : Nd × Int × Frm)).2.1) (f := ((({ n with ph := 5, left := 3, got := ⟨#[]⟩, run := 0, last := 0, pos := 0, cs := swA n.cs n.cg, cg := swB n.cs n.cg, box := outV n.box (rkF n.fr) }, 1, n.fr) : Nd × Int × Frm)).2.2) (ad := ad5) (cd := cd5) (X.fin (ndC ((({ n with ph := 5, left := 3, got := ⟨#[]⟩, run := 0, last := 0, pos := 0, cs := swA n.cs n.cg, cg := swB n.cs n.cg, box := outV n.box (rkF n.fr) }, 1, n.fr) : Nd × Int × Frm)).1 p5) #[]).1 rfl rfl rfl rfl rfl ?_))
  have hmf := X.upFin (ndC ((({ n with ph := 5, left := 3, got := ⟨#[]⟩, run := 0, last := 0, pos := 0, cs := swA n.cs n.cg, cg := swB n.cs n.cg, box := outV n.box (rkF n.fr) }, 1, n.fr) : Nd × Int × Frm)).1 p5) (hpC ((({ n with ph := 5, left := 3, got := ⟨#[]⟩, run := 0, last := 0, pos := 0, cs := swA n.cs n.cg, cg := swB n.cs n.cg, box := outV n.box (rkF n.fr) }, 1, n.fr) : Nd × Int × Frm)).2.1 ((({ n with ph := 5, left := 3, got := ⟨#[]⟩, run := 0, last := 0, pos := 0, cs := swA n.cs n.cg, cg := swB n.cs n.cg, box := outV n.box (rkF n.fr) }, 1, n.fr) : Nd × Int × Frm)).2.2 ad5 cd5) hlt.2.1 hlt.2.2
  obtain ⟨-, Z1, Z2, Z3⟩ := X.fin (ndC ((({ n with ph := 5, left := 3, got := ⟨#[]⟩, run := 0, last := 0, pos := 0, cs := swA n.cs n.cg, cg := swB n.cs n.cg, box := outV n.box (rkF n.fr) }, 1, n.fr) : Nd × Int × Frm)).1 p5) (hpC ((({ n with ph := 5, left := 3, got := ⟨#[]⟩, run := 0, last := 0, pos := 0, cs := swA n.cs n.cg, cg := swB n.cs n.cg, box := outV n.box (rkF n.fr) }, 1, n.fr) : Nd × Int × Frm)).2.1 ((({ n with ph := 5, left := 3, got := ⟨#[]⟩, run := 0, last := 0, pos := 0, cs := swA n.cs n.cg, cg := swB n.cs n.cg, box := outV n.box (rkF n.fr) }, 1, n.fr) : Nd × Int × Frm)).2.2 ad5 cd5)
  refine bodyPost_ret (v := .tuple #[ndV ((({ n with ph := 5, left := 3, got := ⟨#[]⟩, run := 0, last := 0, pos := 0, cs := swA n.cs n.cg, cg := swB n.cs n.cg, box := outV n.box (rkF n.fr) }, 1, n.fr) : Nd × Int × Frm)).1 p5, hpV ((({ n with ph := 5, left := 3, got := ⟨#[]⟩, run := 0, last := 0, pos := 0, cs := swA n.cs n.cg, cg := swB n.cs n.cg, box := outV n.box (rkF n.fr) }, 1, n.fr) : Nd × Int × Frm)).2.1 ((({ n with ph := 5, left := 3, got := ⟨#[]⟩, run := 0, last := 0, pos := 0, cs := swA n.cs n.cg, cg := swB n.cs n.cg, box := outV n.box (rkF n.fr) }, 1, n.fr) : Nd × Int × Frm)).2.2 ad5 cd5]) ?_ rfl ⟨p5, ad5, cd5, rfl, fun u k k2 => (hk5 u k (hmf.trans (k2.higher hsz))).imp id (And.imp id fun hA h => hA ⟨h.box, h.fifo⟩), Z3⟩
  exact results_both Tryz.results204 _ _ gr gh _ _ rfl rfl Z1 Z2 rfl rfl

set_option maxHeartbeats 8000000 in
/-- impl.inTail, one bit on. -/
theorem implTailOn (n : Nd) (p : NdP) (l : Int) (w : World) (Y : Nat → Prop) (a0 : World) (h0 : NdY Y n p a0) (ha0 : Kp Y a0 w) (hl : l = 0 ∨ l = 1) (ht : tailB n l = false) (hp0 : 0 ≤ n.pos ∧ n.pos < 8) :
    Calls Tryz.prog 204 #[ndV n p, .int .i64 l] w (SampX Y a0 (NdA n p) ({ n with pos := n.pos + 1 }, 0, zF) w) := by
  have hpw : IntKind.i64.wrap (n.pos + 1) = n.pos + 1 := IntWalk.i64_in _ (by omega)
  have e8 : (n.pos == 8) = false := beq_eq_false_iff_ne.2 (by omega)
  have e9 : (n.pos == 9) = false := beq_eq_false_iff_ne.2 (by omega)
  replace ht := Lib.hid ht
  have hm := h0 w ha0
  have X := N3.made (ndC n p) w
  go_enter Tryz.func204, Tryz.ntmps204
  go_upto_region 1 with fail
  generalize World.alloc _ _ = W at X ⊢
  generalize w.heap.size + 1 + 1 = gh at X ⊢
  generalize w.heap.size + 1 = gr at X ⊢
  generalize w.heap.size = g at X ⊢
  go_wp2_with (refine Nx.take ⟨X.blk, X.bel⟩ rfl rfl rfl ?_)
  refine (implWrong n p l _ hl).mono ?_
  rintro e w2 ⟨rfl, b⟩
  rw [ht.out]
  replace X := X.below b
  clear b
  go_wp2_with fail
  refine (implNoBreak _).mono ?_
  rintro e w3 ⟨rfl, b⟩
  replace X := X.below b
  clear b
  have c11 : w3.cell? ⟨g, 11, none⟩ = some (.int .i64 n.pos) := X.cell 11
  have f11 := X.free 11
  go_upto_region 9 with fail
  clear c11 f11
  replace X : N3 g gr gh (ndC ({ n with pos := n.pos + 1 }) p) w _ := (X.set 11 (.int .i64 (n.pos + 1)))
  generalize World.setCell _ _ _ = w4 at X ⊢
  go_wp2_with (first | (refine Nx.take ⟨X.blk, X.bel⟩ rfl rfl rfl ?_) | (refine wpList_put X.res rfl rfl rfl rfl rfl ?_) | (refine wpList_tell (k := 0) (f := zF) (ad := none) (cd := 0) (X.fin (ndC ({ n with pos := n.pos + 1 }) p) #[]).1 rfl rfl rfl rfl rfl ?_))
  obtain ⟨-, Z1, Z2, Z3⟩ := X.fin (ndC ({ n with pos := n.pos + 1 }) p) (hpC (0) (zF) (none) (0))
  refine bodyPost_ret (v := .tuple #[ndV ({ n with pos := n.pos + 1 }) p, hpV (0) (zF) (none) (0)]) ?_ rfl ⟨p, none, 0, rfl, fun u k k2 => ⟨(h0 u k).lists rfl rfl rfl rfl hm.size, Nums.nil _, fun h => ⟨h.box, h.fifo⟩⟩, Z3⟩
  exact results_both Tryz.results204 _ _ gr gh _ _ rfl rfl Z1 Z2 rfl rfl
end Go.Proofs.YtngcekegngmedaaGreatDoor

/- The program's brokenOff, its table of steps, and copiedNode. -/

set_option linter.unusedVariables false
set_option linter.unusedSimpArgs false
set_option maxRecDepth 20000
namespace Go.Proofs.YtngcekegngmedaaGreatDoor
open Go.RowKit


set_option maxHeartbeats 16000000 in
/-- impl.brokenOff. -/
theorem implBroken (n : Nd) (p : NdP) (w : World) :
    Calls Tryz.prog 154 #[ndV n p] w (Told (brkN n).1 (brkN n).2.1 p w) := by
  rcases Bool.eq_false_or_eq_true n.tx with ht | ht
  · have h1 : badA n = sbA n.cs n.cg := by unfold badA; rw [ht]; first | exact if_pos rfl | exact if_neg (by decide)
    have h2 : badB n = swB n.cs n.cg := by unfold badB; rw [ht]; first | exact if_pos rfl | exact if_neg (by decide)
    unfold brkN
    rw [h1, h2]
    clear h1 h2
    generalize ha : sbA n.cs n.cg = ca at *
    generalize hb : swB n.cs n.cg = cb at *
    replace ha := Lib.hid ha
    replace hb := Lib.hid hb
    replace ht := Lib.hid ht
    by_cases hs2 : stV ca cb = 2
    · rw [if_pos hs2]
      generalize hst : stV ca cb = st at *
      replace hst := Lib.hid hst
      have e2 : (st == 2) = true := beq_iff_eq.2 hs2
      clear hs2
      have X := N3.made (ndC n p) w
      go_enter Tryz.func154, Tryz.ntmps154
      go_upto_region 1 with fail
      generalize World.alloc _ _ = W at X ⊢
      generalize w.heap.size + 1 + 1 = gh at X ⊢
      generalize w.heap.size + 1 = gr at X ⊢
      generalize w.heap.size = g at X ⊢
      have c1 : W.cell? ⟨g, 1, none⟩ = some (.bool n.tx) := X.cell 1
      have c13 : W.cell? ⟨g, 13, none⟩ = some (.int .i64 n.cs) := X.cell 13
      have c14 : W.cell? ⟨g, 14, none⟩ = some (.int .i64 n.cg) := X.cell 14
      rw [ht.out] at c1
      go_wp2_with fail
      refine (implSentBad _ _ _).mono ?_
      rintro e w2 ⟨rfl, b⟩
      rw [ha.out, hb.out]
      replace X := X.below b
      clear b c1 c13 c14
      have c13 : w2.cell? ⟨g, 13, none⟩ = some (.int .i64 n.cs) := X.cell 13
      have c14 : w2.cell? ⟨g, 14, none⟩ = some (.int .i64 n.cg) := X.cell 14
      have f13 := X.free 13
      have f14 := X.free 14
      go_upto_region 4 with fail
      clear c13 c14 f13 f14
      replace X : N3 g gr gh (ndC ({ n with cs := ca, cg := cb }) p) w _ := ((X.set 13 (.int .i64 ca)).set 14 (.int .i64 cb))
      generalize World.setCell _ _ _ = W3 at X ⊢
      go_wp2_with (refine Nx.take ⟨X.blk, X.bel⟩ rfl rfl rfl ?_)
      refine (implUnseen { n with cs := ca, cg := cb } p _).mono ?_
      rintro e w4 ⟨rfl, b⟩
      replace X := X.below b
      clear b
      go_upto_region 5 with (refine wpList_put X.blk rfl rfl rfl rfl rfl ?_)
      replace X : N3 g gr gh (ndC (unN { n with cs := ca, cg := cb }) p) w _ := X.put _
      generalize World.setRow _ _ _ = W5 at X ⊢
      have c3 : W5.cell? ⟨g, 3, none⟩ = some (.bool n.bad) := X.cell 3
      have f3 := X.free 3
      go_upto_region 6 with fail
      clear c3 f3
      replace X : N3 g gr gh (ndC ({ n with cs := ca, cg := cb, got := ⟨#[]⟩, run := 0, last := 0, pos := 0, bad := false }) p) w _ := (X.set 3 (.bool false))
      generalize World.setCell _ _ _ = W6 at X ⊢
      have c13 : W6.cell? ⟨g, 13, none⟩ = some (.int .i64 ca) := X.cell 13
      have c14 : W6.cell? ⟨g, 14, none⟩ = some (.int .i64 cb) := X.cell 14
      go_wp2_with fail
      refine (implStateOf _ _ _).mono ?_
      rintro e w7 ⟨rfl, b⟩
      rw [hst.out]
      replace X := X.below b
      clear b c13 c14
      have c0 : w7.cell? ⟨g, 0, none⟩ = some (.int .i64 n.ph) := X.cell 0
      have c12 : w7.cell? ⟨g, 12, none⟩ = some (.int .i64 n.left) := X.cell 12
      have f0 := X.free 0
      have f12 := X.free 12
      go_upto_region 9 with fail
      clear c0 c12 f0 f12
      replace X : N3 g gr gh (ndC ({ n with cs := ca, cg := cb, got := ⟨#[]⟩, run := 0, last := 0, pos := 0, bad := false, ph := 7, left := 128 }) p) w _ := ((X.set 0 (.int .i64 7)).set 12 (.int .i64 128))
      generalize World.setCell _ _ _ = W8 at X ⊢
      go_wp2_with (first | (refine Nx.take ⟨X.blk, X.bel⟩ rfl rfl rfl ?_) | (refine wpList_put X.res rfl rfl rfl rfl rfl ?_) | (refine wpList_tell (k := 5) (f := zF) (ad := none) (cd := 0) (X.fin (ndC ({ n with cs := ca, cg := cb, got := ⟨#[]⟩, run := 0, last := 0, pos := 0, bad := false, ph := 7, left := 128 }) p) #[]).1 rfl rfl rfl rfl rfl ?_))
      obtain ⟨-, Z1, Z2, Z3⟩ := X.fin (ndC ({ n with cs := ca, cg := cb, got := ⟨#[]⟩, run := 0, last := 0, pos := 0, bad := false, ph := 7, left := 128 }) p) (hpC (5) (zF) (none) (0))
      refine bodyPost_ret (v := .tuple #[ndV ({ n with cs := ca, cg := cb, got := ⟨#[]⟩, run := 0, last := 0, pos := 0, bad := false, ph := 7, left := 128 }) p, hpV (5) (zF) (none) (0)]) ?_ rfl ⟨rfl, Z3⟩
      exact results_both Tryz.results154 _ _ gr gh _ _ rfl rfl Z1 Z2 rfl rfl
    · rw [if_neg hs2]
      by_cases hs1 : stV ca cb = 1
      · rw [decide_eq_true hs1]
        generalize hst : stV ca cb = st at *
        replace hst := Lib.hid hst
        have e2 : (st == 2) = false := beq_eq_false_iff_ne.2 hs2
        have e1 : (st == 1) = true := beq_iff_eq.2 hs1
        clear hs1 hs2
        have X := N3.made (ndC n p) w
        go_enter Tryz.func154, Tryz.ntmps154
        go_upto_region 1 with fail
        generalize World.alloc _ _ = W at X ⊢
        generalize w.heap.size + 1 + 1 = gh at X ⊢
        generalize w.heap.size + 1 = gr at X ⊢
        generalize w.heap.size = g at X ⊢
        have c1 : W.cell? ⟨g, 1, none⟩ = some (.bool n.tx) := X.cell 1
        have c13 : W.cell? ⟨g, 13, none⟩ = some (.int .i64 n.cs) := X.cell 13
        have c14 : W.cell? ⟨g, 14, none⟩ = some (.int .i64 n.cg) := X.cell 14
        rw [ht.out] at c1
        go_wp2_with fail
        refine (implSentBad _ _ _).mono ?_
        rintro e w2 ⟨rfl, b⟩
        rw [ha.out, hb.out]
        replace X := X.below b
        clear b c1 c13 c14
        have c13 : w2.cell? ⟨g, 13, none⟩ = some (.int .i64 n.cs) := X.cell 13
        have c14 : w2.cell? ⟨g, 14, none⟩ = some (.int .i64 n.cg) := X.cell 14
        have f13 := X.free 13
        have f14 := X.free 14
        go_upto_region 4 with fail
        clear c13 c14 f13 f14
        replace X : N3 g gr gh (ndC ({ n with cs := ca, cg := cb }) p) w _ := ((X.set 13 (.int .i64 ca)).set 14 (.int .i64 cb))
        generalize World.setCell _ _ _ = W3 at X ⊢
        go_wp2_with (refine Nx.take ⟨X.blk, X.bel⟩ rfl rfl rfl ?_)
        refine (implUnseen { n with cs := ca, cg := cb } p _).mono ?_
        rintro e w4 ⟨rfl, b⟩
        replace X := X.below b
        clear b
        go_upto_region 5 with (refine wpList_put X.blk rfl rfl rfl rfl rfl ?_)
        replace X : N3 g gr gh (ndC (unN { n with cs := ca, cg := cb }) p) w _ := X.put _
        generalize World.setRow _ _ _ = W5 at X ⊢
        have c3 : W5.cell? ⟨g, 3, none⟩ = some (.bool n.bad) := X.cell 3
        have f3 := X.free 3
        go_upto_region 6 with fail
        clear c3 f3
        replace X : N3 g gr gh (ndC ({ n with cs := ca, cg := cb, got := ⟨#[]⟩, run := 0, last := 0, pos := 0, bad := false }) p) w _ := (X.set 3 (.bool false))
        generalize World.setCell _ _ _ = W6 at X ⊢
        have c13 : W6.cell? ⟨g, 13, none⟩ = some (.int .i64 ca) := X.cell 13
        have c14 : W6.cell? ⟨g, 14, none⟩ = some (.int .i64 cb) := X.cell 14
        go_wp2_with fail
        refine (implStateOf _ _ _).mono ?_
        rintro e w7 ⟨rfl, b⟩
        rw [hst.out]
        replace X := X.below b
        clear b c13 c14
        have c0 : w7.cell? ⟨g, 0, none⟩ = some (.int .i64 n.ph) := X.cell 0
        have c2 : w7.cell? ⟨g, 2, none⟩ = some (.bool n.mild) := X.cell 2
        have c12 : w7.cell? ⟨g, 12, none⟩ = some (.int .i64 n.left) := X.cell 12
        have f0 := X.free 0
        have f2 := X.free 2
        have f12 := X.free 12
        go_upto_region 11 with fail
        clear c0 c2 c12 f0 f2 f12
        replace X : N3 g gr gh (ndC ({ n with cs := ca, cg := cb, got := ⟨#[]⟩, run := 0, last := 0, pos := 0, bad := false, ph := 3, mild := true, left := 6 }) p) w _ := (((X.set 0 (.int .i64 3)).set 12 (.int .i64 6)).set 2 (.bool true))
        generalize World.setCell _ _ _ = W8 at X ⊢
        go_wp2_with (first | (refine Nx.take ⟨X.blk, X.bel⟩ rfl rfl rfl ?_) | (refine wpList_put X.res rfl rfl rfl rfl rfl ?_) | (refine wpList_tell (k := 4) (f := zF) (ad := none) (cd := 0) (X.fin (ndC ({ n with cs := ca, cg := cb, got := ⟨#[]⟩, run := 0, last := 0, pos := 0, bad := false, ph := 3, mild := true, left := 6 }) p) #[]).1 rfl rfl rfl rfl rfl ?_))
        obtain ⟨-, Z1, Z2, Z3⟩ := X.fin (ndC ({ n with cs := ca, cg := cb, got := ⟨#[]⟩, run := 0, last := 0, pos := 0, bad := false, ph := 3, mild := true, left := 6 }) p) (hpC (4) (zF) (none) (0))
        refine bodyPost_ret (v := .tuple #[ndV ({ n with cs := ca, cg := cb, got := ⟨#[]⟩, run := 0, last := 0, pos := 0, bad := false, ph := 3, mild := true, left := 6 }) p, hpV (4) (zF) (none) (0)]) ?_ rfl ⟨rfl, Z3⟩
        exact results_both Tryz.results154 _ _ gr gh _ _ rfl rfl Z1 Z2 rfl rfl
      · rw [decide_eq_false hs1]
        generalize hst : stV ca cb = st at *
        replace hst := Lib.hid hst
        have e2 : (st == 2) = false := beq_eq_false_iff_ne.2 hs2
        have e1 : (st == 1) = false := beq_eq_false_iff_ne.2 hs1
        clear hs1 hs2
        have X := N3.made (ndC n p) w
        go_enter Tryz.func154, Tryz.ntmps154
        go_upto_region 1 with fail
        generalize World.alloc _ _ = W at X ⊢
        generalize w.heap.size + 1 + 1 = gh at X ⊢
        generalize w.heap.size + 1 = gr at X ⊢
        generalize w.heap.size = g at X ⊢
        have c1 : W.cell? ⟨g, 1, none⟩ = some (.bool n.tx) := X.cell 1
        have c13 : W.cell? ⟨g, 13, none⟩ = some (.int .i64 n.cs) := X.cell 13
        have c14 : W.cell? ⟨g, 14, none⟩ = some (.int .i64 n.cg) := X.cell 14
        rw [ht.out] at c1
        go_wp2_with fail
        refine (implSentBad _ _ _).mono ?_
        rintro e w2 ⟨rfl, b⟩
        rw [ha.out, hb.out]
        replace X := X.below b
        clear b c1 c13 c14
        have c13 : w2.cell? ⟨g, 13, none⟩ = some (.int .i64 n.cs) := X.cell 13
        have c14 : w2.cell? ⟨g, 14, none⟩ = some (.int .i64 n.cg) := X.cell 14
        have f13 := X.free 13
        have f14 := X.free 14
        go_upto_region 4 with fail
        clear c13 c14 f13 f14
        replace X : N3 g gr gh (ndC ({ n with cs := ca, cg := cb }) p) w _ := ((X.set 13 (.int .i64 ca)).set 14 (.int .i64 cb))
        generalize World.setCell _ _ _ = W3 at X ⊢
        go_wp2_with (refine Nx.take ⟨X.blk, X.bel⟩ rfl rfl rfl ?_)
        refine (implUnseen { n with cs := ca, cg := cb } p _).mono ?_
        rintro e w4 ⟨rfl, b⟩
        replace X := X.below b
        clear b
        go_upto_region 5 with (refine wpList_put X.blk rfl rfl rfl rfl rfl ?_)
        replace X : N3 g gr gh (ndC (unN { n with cs := ca, cg := cb }) p) w _ := X.put _
        generalize World.setRow _ _ _ = W5 at X ⊢
        have c3 : W5.cell? ⟨g, 3, none⟩ = some (.bool n.bad) := X.cell 3
        have f3 := X.free 3
        go_upto_region 6 with fail
        clear c3 f3
        replace X : N3 g gr gh (ndC ({ n with cs := ca, cg := cb, got := ⟨#[]⟩, run := 0, last := 0, pos := 0, bad := false }) p) w _ := (X.set 3 (.bool false))
        generalize World.setCell _ _ _ = W6 at X ⊢
        have c13 : W6.cell? ⟨g, 13, none⟩ = some (.int .i64 ca) := X.cell 13
        have c14 : W6.cell? ⟨g, 14, none⟩ = some (.int .i64 cb) := X.cell 14
        go_wp2_with fail
        refine (implStateOf _ _ _).mono ?_
        rintro e w7 ⟨rfl, b⟩
        rw [hst.out]
        replace X := X.below b
        clear b c13 c14
        have c0 : w7.cell? ⟨g, 0, none⟩ = some (.int .i64 n.ph) := X.cell 0
        have c2 : w7.cell? ⟨g, 2, none⟩ = some (.bool n.mild) := X.cell 2
        have c12 : w7.cell? ⟨g, 12, none⟩ = some (.int .i64 n.left) := X.cell 12
        have f0 := X.free 0
        have f2 := X.free 2
        have f12 := X.free 12
        go_upto_region 11 with fail
        clear c0 c2 c12 f0 f2 f12
        replace X : N3 g gr gh (ndC ({ n with cs := ca, cg := cb, got := ⟨#[]⟩, run := 0, last := 0, pos := 0, bad := false, ph := 3, mild := false, left := 6 }) p) w _ := (((X.set 0 (.int .i64 3)).set 12 (.int .i64 6)).set 2 (.bool false))
        generalize World.setCell _ _ _ = W8 at X ⊢
        go_wp2_with (first | (refine Nx.take ⟨X.blk, X.bel⟩ rfl rfl rfl ?_) | (refine wpList_put X.res rfl rfl rfl rfl rfl ?_) | (refine wpList_tell (k := 4) (f := zF) (ad := none) (cd := 0) (X.fin (ndC ({ n with cs := ca, cg := cb, got := ⟨#[]⟩, run := 0, last := 0, pos := 0, bad := false, ph := 3, mild := false, left := 6 }) p) #[]).1 rfl rfl rfl rfl rfl ?_))
        obtain ⟨-, Z1, Z2, Z3⟩ := X.fin (ndC ({ n with cs := ca, cg := cb, got := ⟨#[]⟩, run := 0, last := 0, pos := 0, bad := false, ph := 3, mild := false, left := 6 }) p) (hpC (4) (zF) (none) (0))
        refine bodyPost_ret (v := .tuple #[ndV ({ n with cs := ca, cg := cb, got := ⟨#[]⟩, run := 0, last := 0, pos := 0, bad := false, ph := 3, mild := false, left := 6 }) p, hpV (4) (zF) (none) (0)]) ?_ rfl ⟨rfl, Z3⟩
        exact results_both Tryz.results154 _ _ gr gh _ _ rfl rfl Z1 Z2 rfl rfl
  · have h1 : badA n = gwA n.cs n.cg := by unfold badA; rw [ht]; first | exact if_pos rfl | exact if_neg (by decide)
    have h2 : badB n = gbB n.cs n.cg := by unfold badB; rw [ht]; first | exact if_pos rfl | exact if_neg (by decide)
    unfold brkN
    rw [h1, h2]
    clear h1 h2
    generalize ha : gwA n.cs n.cg = ca at *
    generalize hb : gbB n.cs n.cg = cb at *
    replace ha := Lib.hid ha
    replace hb := Lib.hid hb
    replace ht := Lib.hid ht
    by_cases hs2 : stV ca cb = 2
    · rw [if_pos hs2]
      generalize hst : stV ca cb = st at *
      replace hst := Lib.hid hst
      have e2 : (st == 2) = true := beq_iff_eq.2 hs2
      clear hs2
      have X := N3.made (ndC n p) w
      go_enter Tryz.func154, Tryz.ntmps154
      go_upto_region 1 with fail
      generalize World.alloc _ _ = W at X ⊢
      generalize w.heap.size + 1 + 1 = gh at X ⊢
      generalize w.heap.size + 1 = gr at X ⊢
      generalize w.heap.size = g at X ⊢
      have c1 : W.cell? ⟨g, 1, none⟩ = some (.bool n.tx) := X.cell 1
      have c13 : W.cell? ⟨g, 13, none⟩ = some (.int .i64 n.cs) := X.cell 13
      have c14 : W.cell? ⟨g, 14, none⟩ = some (.int .i64 n.cg) := X.cell 14
      rw [ht.out] at c1
      go_wp2_with fail
      refine (implGotBad _ _ _).mono ?_
      rintro e w2 ⟨rfl, b⟩
      rw [ha.out, hb.out]
      replace X := X.below b
      clear b c1 c13 c14
      have c13 : w2.cell? ⟨g, 13, none⟩ = some (.int .i64 n.cs) := X.cell 13
      have c14 : w2.cell? ⟨g, 14, none⟩ = some (.int .i64 n.cg) := X.cell 14
      have f13 := X.free 13
      have f14 := X.free 14
      go_upto_region 4 with fail
      clear c13 c14 f13 f14
      replace X : N3 g gr gh (ndC ({ n with cs := ca, cg := cb }) p) w _ := ((X.set 13 (.int .i64 ca)).set 14 (.int .i64 cb))
      generalize World.setCell _ _ _ = W3 at X ⊢
      go_wp2_with (refine Nx.take ⟨X.blk, X.bel⟩ rfl rfl rfl ?_)
      refine (implUnseen { n with cs := ca, cg := cb } p _).mono ?_
      rintro e w4 ⟨rfl, b⟩
      replace X := X.below b
      clear b
      go_upto_region 5 with (refine wpList_put X.blk rfl rfl rfl rfl rfl ?_)
      replace X : N3 g gr gh (ndC (unN { n with cs := ca, cg := cb }) p) w _ := X.put _
      generalize World.setRow _ _ _ = W5 at X ⊢
      have c3 : W5.cell? ⟨g, 3, none⟩ = some (.bool n.bad) := X.cell 3
      have f3 := X.free 3
      go_upto_region 6 with fail
      clear c3 f3
      replace X : N3 g gr gh (ndC ({ n with cs := ca, cg := cb, got := ⟨#[]⟩, run := 0, last := 0, pos := 0, bad := false }) p) w _ := (X.set 3 (.bool false))
      generalize World.setCell _ _ _ = W6 at X ⊢
      have c13 : W6.cell? ⟨g, 13, none⟩ = some (.int .i64 ca) := X.cell 13
      have c14 : W6.cell? ⟨g, 14, none⟩ = some (.int .i64 cb) := X.cell 14
      go_wp2_with fail
      refine (implStateOf _ _ _).mono ?_
      rintro e w7 ⟨rfl, b⟩
      rw [hst.out]
      replace X := X.below b
      clear b c13 c14
      have c0 : w7.cell? ⟨g, 0, none⟩ = some (.int .i64 n.ph) := X.cell 0
      have c12 : w7.cell? ⟨g, 12, none⟩ = some (.int .i64 n.left) := X.cell 12
      have f0 := X.free 0
      have f12 := X.free 12
      go_upto_region 9 with fail
      clear c0 c12 f0 f12
      replace X : N3 g gr gh (ndC ({ n with cs := ca, cg := cb, got := ⟨#[]⟩, run := 0, last := 0, pos := 0, bad := false, ph := 7, left := 128 }) p) w _ := ((X.set 0 (.int .i64 7)).set 12 (.int .i64 128))
      generalize World.setCell _ _ _ = W8 at X ⊢
      go_wp2_with (first | (refine Nx.take ⟨X.blk, X.bel⟩ rfl rfl rfl ?_) | (refine wpList_put X.res rfl rfl rfl rfl rfl ?_) | (refine wpList_tell (k := 5) (f := zF) (ad := none) (cd := 0) (X.fin (ndC ({ n with cs := ca, cg := cb, got := ⟨#[]⟩, run := 0, last := 0, pos := 0, bad := false, ph := 7, left := 128 }) p) #[]).1 rfl rfl rfl rfl rfl ?_))
      obtain ⟨-, Z1, Z2, Z3⟩ := X.fin (ndC ({ n with cs := ca, cg := cb, got := ⟨#[]⟩, run := 0, last := 0, pos := 0, bad := false, ph := 7, left := 128 }) p) (hpC (5) (zF) (none) (0))
      refine bodyPost_ret (v := .tuple #[ndV ({ n with cs := ca, cg := cb, got := ⟨#[]⟩, run := 0, last := 0, pos := 0, bad := false, ph := 7, left := 128 }) p, hpV (5) (zF) (none) (0)]) ?_ rfl ⟨rfl, Z3⟩
      exact results_both Tryz.results154 _ _ gr gh _ _ rfl rfl Z1 Z2 rfl rfl
    · rw [if_neg hs2]
      by_cases hs1 : stV ca cb = 1
      · rw [decide_eq_true hs1]
        generalize hst : stV ca cb = st at *
        replace hst := Lib.hid hst
        have e2 : (st == 2) = false := beq_eq_false_iff_ne.2 hs2
        have e1 : (st == 1) = true := beq_iff_eq.2 hs1
        clear hs1 hs2
        have X := N3.made (ndC n p) w
        go_enter Tryz.func154, Tryz.ntmps154
        go_upto_region 1 with fail
        generalize World.alloc _ _ = W at X ⊢
        generalize w.heap.size + 1 + 1 = gh at X ⊢
        generalize w.heap.size + 1 = gr at X ⊢
        generalize w.heap.size = g at X ⊢
        have c1 : W.cell? ⟨g, 1, none⟩ = some (.bool n.tx) := X.cell 1
        have c13 : W.cell? ⟨g, 13, none⟩ = some (.int .i64 n.cs) := X.cell 13
        have c14 : W.cell? ⟨g, 14, none⟩ = some (.int .i64 n.cg) := X.cell 14
        rw [ht.out] at c1
        go_wp2_with fail
        refine (implGotBad _ _ _).mono ?_
        rintro e w2 ⟨rfl, b⟩
        rw [ha.out, hb.out]
        replace X := X.below b
        clear b c1 c13 c14
        have c13 : w2.cell? ⟨g, 13, none⟩ = some (.int .i64 n.cs) := X.cell 13
        have c14 : w2.cell? ⟨g, 14, none⟩ = some (.int .i64 n.cg) := X.cell 14
        have f13 := X.free 13
        have f14 := X.free 14
        go_upto_region 4 with fail
        clear c13 c14 f13 f14
        replace X : N3 g gr gh (ndC ({ n with cs := ca, cg := cb }) p) w _ := ((X.set 13 (.int .i64 ca)).set 14 (.int .i64 cb))
        generalize World.setCell _ _ _ = W3 at X ⊢
        go_wp2_with (refine Nx.take ⟨X.blk, X.bel⟩ rfl rfl rfl ?_)
        refine (implUnseen { n with cs := ca, cg := cb } p _).mono ?_
        rintro e w4 ⟨rfl, b⟩
        replace X := X.below b
        clear b
        go_upto_region 5 with (refine wpList_put X.blk rfl rfl rfl rfl rfl ?_)
        replace X : N3 g gr gh (ndC (unN { n with cs := ca, cg := cb }) p) w _ := X.put _
        generalize World.setRow _ _ _ = W5 at X ⊢
        have c3 : W5.cell? ⟨g, 3, none⟩ = some (.bool n.bad) := X.cell 3
        have f3 := X.free 3
        go_upto_region 6 with fail
        clear c3 f3
        replace X : N3 g gr gh (ndC ({ n with cs := ca, cg := cb, got := ⟨#[]⟩, run := 0, last := 0, pos := 0, bad := false }) p) w _ := (X.set 3 (.bool false))
        generalize World.setCell _ _ _ = W6 at X ⊢
        have c13 : W6.cell? ⟨g, 13, none⟩ = some (.int .i64 ca) := X.cell 13
        have c14 : W6.cell? ⟨g, 14, none⟩ = some (.int .i64 cb) := X.cell 14
        go_wp2_with fail
        refine (implStateOf _ _ _).mono ?_
        rintro e w7 ⟨rfl, b⟩
        rw [hst.out]
        replace X := X.below b
        clear b c13 c14
        have c0 : w7.cell? ⟨g, 0, none⟩ = some (.int .i64 n.ph) := X.cell 0
        have c2 : w7.cell? ⟨g, 2, none⟩ = some (.bool n.mild) := X.cell 2
        have c12 : w7.cell? ⟨g, 12, none⟩ = some (.int .i64 n.left) := X.cell 12
        have f0 := X.free 0
        have f2 := X.free 2
        have f12 := X.free 12
        go_upto_region 11 with fail
        clear c0 c2 c12 f0 f2 f12
        replace X : N3 g gr gh (ndC ({ n with cs := ca, cg := cb, got := ⟨#[]⟩, run := 0, last := 0, pos := 0, bad := false, ph := 3, mild := true, left := 6 }) p) w _ := (((X.set 0 (.int .i64 3)).set 12 (.int .i64 6)).set 2 (.bool true))
        generalize World.setCell _ _ _ = W8 at X ⊢
        go_wp2_with (first | (refine Nx.take ⟨X.blk, X.bel⟩ rfl rfl rfl ?_) | (refine wpList_put X.res rfl rfl rfl rfl rfl ?_) | (refine wpList_tell (k := 4) (f := zF) (ad := none) (cd := 0) (X.fin (ndC ({ n with cs := ca, cg := cb, got := ⟨#[]⟩, run := 0, last := 0, pos := 0, bad := false, ph := 3, mild := true, left := 6 }) p) #[]).1 rfl rfl rfl rfl rfl ?_))
        obtain ⟨-, Z1, Z2, Z3⟩ := X.fin (ndC ({ n with cs := ca, cg := cb, got := ⟨#[]⟩, run := 0, last := 0, pos := 0, bad := false, ph := 3, mild := true, left := 6 }) p) (hpC (4) (zF) (none) (0))
        refine bodyPost_ret (v := .tuple #[ndV ({ n with cs := ca, cg := cb, got := ⟨#[]⟩, run := 0, last := 0, pos := 0, bad := false, ph := 3, mild := true, left := 6 }) p, hpV (4) (zF) (none) (0)]) ?_ rfl ⟨rfl, Z3⟩
        exact results_both Tryz.results154 _ _ gr gh _ _ rfl rfl Z1 Z2 rfl rfl
      · rw [decide_eq_false hs1]
        generalize hst : stV ca cb = st at *
        replace hst := Lib.hid hst
        have e2 : (st == 2) = false := beq_eq_false_iff_ne.2 hs2
        have e1 : (st == 1) = false := beq_eq_false_iff_ne.2 hs1
        clear hs1 hs2
        have X := N3.made (ndC n p) w
        go_enter Tryz.func154, Tryz.ntmps154
        go_upto_region 1 with fail
        generalize World.alloc _ _ = W at X ⊢
        generalize w.heap.size + 1 + 1 = gh at X ⊢
        generalize w.heap.size + 1 = gr at X ⊢
        generalize w.heap.size = g at X ⊢
        have c1 : W.cell? ⟨g, 1, none⟩ = some (.bool n.tx) := X.cell 1
        have c13 : W.cell? ⟨g, 13, none⟩ = some (.int .i64 n.cs) := X.cell 13
        have c14 : W.cell? ⟨g, 14, none⟩ = some (.int .i64 n.cg) := X.cell 14
        rw [ht.out] at c1
        go_wp2_with fail
        refine (implGotBad _ _ _).mono ?_
        rintro e w2 ⟨rfl, b⟩
        rw [ha.out, hb.out]
        replace X := X.below b
        clear b c1 c13 c14
        have c13 : w2.cell? ⟨g, 13, none⟩ = some (.int .i64 n.cs) := X.cell 13
        have c14 : w2.cell? ⟨g, 14, none⟩ = some (.int .i64 n.cg) := X.cell 14
        have f13 := X.free 13
        have f14 := X.free 14
        go_upto_region 4 with fail
        clear c13 c14 f13 f14
        replace X : N3 g gr gh (ndC ({ n with cs := ca, cg := cb }) p) w _ := ((X.set 13 (.int .i64 ca)).set 14 (.int .i64 cb))
        generalize World.setCell _ _ _ = W3 at X ⊢
        go_wp2_with (refine Nx.take ⟨X.blk, X.bel⟩ rfl rfl rfl ?_)
        refine (implUnseen { n with cs := ca, cg := cb } p _).mono ?_
        rintro e w4 ⟨rfl, b⟩
        replace X := X.below b
        clear b
        go_upto_region 5 with (refine wpList_put X.blk rfl rfl rfl rfl rfl ?_)
        replace X : N3 g gr gh (ndC (unN { n with cs := ca, cg := cb }) p) w _ := X.put _
        generalize World.setRow _ _ _ = W5 at X ⊢
        have c3 : W5.cell? ⟨g, 3, none⟩ = some (.bool n.bad) := X.cell 3
        have f3 := X.free 3
        go_upto_region 6 with fail
        clear c3 f3
        replace X : N3 g gr gh (ndC ({ n with cs := ca, cg := cb, got := ⟨#[]⟩, run := 0, last := 0, pos := 0, bad := false }) p) w _ := (X.set 3 (.bool false))
        generalize World.setCell _ _ _ = W6 at X ⊢
        have c13 : W6.cell? ⟨g, 13, none⟩ = some (.int .i64 ca) := X.cell 13
        have c14 : W6.cell? ⟨g, 14, none⟩ = some (.int .i64 cb) := X.cell 14
        go_wp2_with fail
        refine (implStateOf _ _ _).mono ?_
        rintro e w7 ⟨rfl, b⟩
        rw [hst.out]
        replace X := X.below b
        clear b c13 c14
        have c0 : w7.cell? ⟨g, 0, none⟩ = some (.int .i64 n.ph) := X.cell 0
        have c2 : w7.cell? ⟨g, 2, none⟩ = some (.bool n.mild) := X.cell 2
        have c12 : w7.cell? ⟨g, 12, none⟩ = some (.int .i64 n.left) := X.cell 12
        have f0 := X.free 0
        have f2 := X.free 2
        have f12 := X.free 12
        go_upto_region 11 with fail
        clear c0 c2 c12 f0 f2 f12
        replace X : N3 g gr gh (ndC ({ n with cs := ca, cg := cb, got := ⟨#[]⟩, run := 0, last := 0, pos := 0, bad := false, ph := 3, mild := false, left := 6 }) p) w _ := (((X.set 0 (.int .i64 3)).set 12 (.int .i64 6)).set 2 (.bool false))
        generalize World.setCell _ _ _ = W8 at X ⊢
        go_wp2_with (first | (refine Nx.take ⟨X.blk, X.bel⟩ rfl rfl rfl ?_) | (refine wpList_put X.res rfl rfl rfl rfl rfl ?_) | (refine wpList_tell (k := 4) (f := zF) (ad := none) (cd := 0) (X.fin (ndC ({ n with cs := ca, cg := cb, got := ⟨#[]⟩, run := 0, last := 0, pos := 0, bad := false, ph := 3, mild := false, left := 6 }) p) #[]).1 rfl rfl rfl rfl rfl ?_))
        obtain ⟨-, Z1, Z2, Z3⟩ := X.fin (ndC ({ n with cs := ca, cg := cb, got := ⟨#[]⟩, run := 0, last := 0, pos := 0, bad := false, ph := 3, mild := false, left := 6 }) p) (hpC (4) (zF) (none) (0))
        refine bodyPost_ret (v := .tuple #[ndV ({ n with cs := ca, cg := cb, got := ⟨#[]⟩, run := 0, last := 0, pos := 0, bad := false, ph := 3, mild := false, left := 6 }) p, hpV (4) (zF) (none) (0)]) ?_ rfl ⟨rfl, Z3⟩
        exact results_both Tryz.results154 _ _ gr gh _ _ rfl rfl Z1 Z2 rfl rfl

abbrev stepsA : Array Value := #[.func (.func 202) #[] #[], .func (.func 203) #[] #[], .func (.func 204) #[] #[], .func (.func 205) #[] #[], .func (.func 206) #[] #[], .func (.func 207) #[] #[], .func (.func 208) #[] #[], .func (.func 209) #[] #[]]
abbrev stepsV : Value := .agg #[.func (.func 202) #[] #[], .func (.func 203) #[] #[], .func (.func 204) #[] #[], .func (.func 205) #[] #[], .func (.func 206) #[] #[], .func (.func 207) #[] #[], .func (.func 208) #[] #[], .func (.func 209) #[] #[]]
theorem implSteps (w : World) :
    Calls Tryz.prog 155 #[] w fun e w' => e = .returned stepsV ∧ Below w.heap.size w w' := by
  have HB : (w.alloc (.cells #[.nilFunc, .nilFunc, .nilFunc, .nilFunc, .nilFunc, .nilFunc, .nilFunc, .nilFunc] 167)).heap[w.heap.size]? = some (.cells #[.nilFunc, .nilFunc, .nilFunc, .nilFunc, .nilFunc, .nilFunc, .nilFunc, .nilFunc] 167 (0, 0)) := heap_alloc_new w _
  have hb : Below w.heap.size w (w.alloc (.cells #[.nilFunc, .nilFunc, .nilFunc, .nilFunc, .nilFunc, .nilFunc, .nilFunc, .nilFunc] 167)) := below_more (Below.refl _ _) _
  go_enter Tryz.func155, Tryz.ntmps155
  go_upto_region 1 with fail
  generalize hg : w.heap.size = g at *
  generalize w.alloc _ = W at HB hb ⊢
  go_wp2_with (refine wpList_store_row rfl 167 _ _ rfl g stepsA rfl rfl 167 _ HB (by kernel_rfl) (by rfl) (by kernel_rfl) ?_)
  refine bodyPost_ret (v := stepsV) ?_ rfl ⟨rfl, by rw [hg]; exact below_setRow hb (Nat.le_refl _) _⟩
  exact results_cell_row Tryz.results155 _ _ g 167 _ (0, 0) _ rfl (setRow_heap _ _ _ _ _ _ HB) Tryz.underlying167 rfl (by kernel_rfl)
theorem stepAt {f : Value} {k : Int} {w : World} (h : (Instr.index 167 stepsV (.int .i64 k)).run Tryz.prog w = .ok f w) {o : Oper} {a : Act} {x y : Operand} (ho : o.op = .index 167 x y) (hx : a.eval x = stepsV) (hy : a.eval y = .int .i64 k) :
    (execOp a.eval o).run Tryz.prog w = .ok (.value f) w := by
  unfold execOp
  simp only [ho, hx, hy, Sem.run_bind, h, Result.andThen_ok]
  rfl
end Go.Proofs.YtngcekegngmedaaGreatDoor
