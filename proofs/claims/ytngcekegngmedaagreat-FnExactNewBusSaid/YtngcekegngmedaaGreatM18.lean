/- The harness's szNode, toNode and eqNode: a node's size, its copy and what the copy owns, two alike. -/
import Derived.Test.YtngcekegngmedaaGreatM9
import Derived.Test.YtngcekegngmedaaGreatM17
import Derived.Test.YtngcekegngmedaaGreatM15
import Derived.Laws.CopyOwn
import Derived.Deep.MidRow
import Derived.Deep.RegionWith
import Derived.Deep.QuietTactic
import Derived.BigQuiet
import Derived.Deep.CutRange
import Derived.Deep.DeepCutAuto
import Derived.Test.YtngcekegngmedaaGreatM8
import Derived.Test.YtngcekegngmedaaGreatM3

set_option linter.unusedVariables false
set_option linter.unusedSimpArgs false
set_option maxRecDepth 20000
namespace Go.Proofs.YtngcekegngmedaaGreat
open Go.RowKit

/-! ### An argument's own node (laws.Node). -/
section
variable {n : Nd} {p : NdP} {w w' w0 : World} {g : Nat}
end
/-- The zero node's cells. -/
abbrev ndZ : Array Value := #[.int .i64 0, .bool false, .bool false, .bool false, .int .i64 0, .bool false, .int .i64 0, .slice none 0 0, .string ⟨#[]⟩, .int .i64 0, .int .i64 0, .int .i64 0, .int .i64 0, .int .i64 0, .int .i64 0, .slice none 0 0, .slice none 0 0, .slice none 0 0]
section
variable {ga g gr : Nat} {n : Nd} {p : NdP} {C : Array Value} {w w' w0 : World}
end
theorem above_ne {v : Value} {B g : Nat} (h : ∀ k, v.ownBlock = some k → B ≤ k) (hg : g < B) : v.ownBlock = none ∨ v.ownBlock ≠ some g := by
  cases e : v.ownBlock with
  | none => exact .inl rfl
  | some k => exact .inr fun he => by cases he; have := h _ e; omega
theorem OwnF.low' {B : Nat} {M : List (Frm × Value)} {v : Value} {w : World} (h : OwnF B M v w) : (∀ k, v.ownBlock = some k → B ≤ k) ∧ ∀ m ∈ M, ∀ k, m.2.ownBlock = some k → B ≤ k := ⟨fun k hk => (h.1.lt k hk).1, fun m hm k hk => ((h.2 m hm).1.lt k hk).1⟩
theorem OwnF.kept2 {B g : Nat} {M : List (Frm × Value)} {v : Value} {w w' : World} (h : OwnF B M v w) (k : w.grownBy w' (some g)) (hg : g < B) : OwnF B M v w' :=
  ⟨h.1.kept k (above_ne h.low'.1 hg), fun m hm => (h.2 m hm).kept k (above_ne (h.low'.2 m hm) hg)⟩
theorem OwnI.kept2 {B g : Nat} {D : List Int} {v : Value} {w w' : World} (h : OwnI B D v w) (k : w.grownBy w' (some g)) (hg : g < B) : OwnI B D v w' := h.kept k (above_ne (fun _ hk => h.low hk) hg)
theorem OwnP.kept2 {B g : Nat} {M : List (Int × Int)} {v : Value} {w w' : World} (h : OwnP B M v w) (k : w.grownBy w' (some g)) (hg : g < B) : OwnP B M v w' := h.kept k (above_ne (fun _ hk => h.low hk) hg)

/-- The room that a node takes, and whether it is small enough. -/
def roomN (n : Nd) : Nat := n.fr.D.length + n.got.size + (n.box.length + room n.box n.box.length) + (n.fifo.length + room n.fifo n.fifo.length) + n.flt.length
/-- What a size's answer is. -/
def SzR (left : Int) (k : Nat) (e : Ending) : Prop := (((k : Int) ≤ left ∧ e = .returned (.int .i64 (left - k))) ∨ (left < k ∧ e = .returned (.int .i64 (-1))))
/-- What a copied node owns: its data, box, fifo and filters, one above the other. -/
structure NdO (B b1 b2 b3 : Nat) (n : Nd) (p : NdP) (MB MF : List (Frm × Value)) (w : World) : Prop where
  dat : OwnI B n.fr.D (.slice p.ad n.fr.D.length p.cd) w
  box : OwnF b1 MB (.slice p.ab n.box.length p.cb) w
  fifo : OwnF b2 MF (.slice p.af n.fifo.length p.cf) w
  flt : OwnP b3 n.flt (.slice p.al n.flt.length p.cl) w
  mb : (MB.map fun m => m.1) = n.box
  mf : (MF.map fun m => m.1) = n.fifo
  fb : Far MB
  ff : Far MF
  ub : ∀ q, (Value.slice p.ad n.fr.D.length p.cd).ownBlock = some q → q < b1
  ux : Under b2 MB (.slice p.ab n.box.length p.cb)
  uf : Under b3 MF (.slice p.af n.fifo.length p.cf)
  le : B ≤ b1 ∧ b1 ≤ b2 ∧ b2 ≤ b3
  got : n.got.size ≤ maxLen
theorem szFltAny (a : Option Addr) (n c : Nat) (left : Int) (w : World) (hm : n ≤ maxLen) (hl0 : 0 ≤ left) (hl1 : left ≤ 1048576) :
    Calls Tryz.prog 13 #[.slice a n c, .int .i64 left] w fun e w' => SzR left n e ∧ w = w' := by
  unfold maxLen at hm
  go_enter Tryz.func13, Tryz.ntmps13
  by_cases h : (n : Int) ≤ left
  · have HR : Hid (SzR left n (.returned (.int .i64 (left - n)))) := Lib.hid (.inl ⟨h, rfl⟩)
    go_wp2_with fail
    go_ret
    exact ⟨HR.out, rfl⟩
  · have HR : Hid (SzR left n (.returned (.int .i64 (-1)))) := Lib.hid (.inr ⟨by omega, rfl⟩)
    go_wp2_with fail
    go_ret
    exact ⟨HR.out, rfl⟩
end Go.Proofs.YtngcekegngmedaaGreat

/- The harness's toNode and eqNode: a node's copy and what the copy owns, two alike. -/

set_option linter.unusedVariables false
set_option linter.unusedSimpArgs false
set_option maxRecDepth 20000
namespace Go.Proofs.YtngcekegngmedaaGreat
open Go.RowKit

theorem grown_at_cell (w : World) (g k : Nat) (v : Value) : w.grownBy (w.setCell ⟨g, k, none⟩ v) (some g) := grown_set _ _ _ _
/-- Two nodes that hold the same, in two blocks. -/
structure NN (ga gb : Nat) (n : Nd) (p q : NdP) (w0 w : World) : Prop where
  a : Nx ga n p w0 w
  b : Nx gb n q w0 w
  ma : NdM n p w
  mb : NdM n q w
theorem NN.below {ga gb : Nat} {n : Nd} {p q : NdP} {w0 w w' : World} (h : NN ga gb n p q w0 w) (b : Below w.heap.size w w') : NN ga gb n p q w0 w' := ⟨h.a.below b, h.b.below b, h.ma.below b, h.mb.below b⟩
set_option maxHeartbeats 8000000 in
/-- laws.eqNode, of two that hold the same. -/
theorem eqN (n : Nd) (p q : NdP) (w : World) (ha : NdM n p w) (hb : NdM n q w) :
    Calls Tryz.prog 31 #[ndV n p, ndV n q] w fun e w' => e = .returned (.bool true) ∧ Below w.heap.size w w' := by
  have X : NN w.heap.size (w.alloc (.cells (ndC n p) 46)).heap.size n p q w ((w.alloc (.cells (ndC n p) 46)).alloc (.cells (ndC n q) 46)) := by
    have h1 := Nx.made n p (Below.refl w.heap.size w)
    exact ⟨h1.alloc _, Nx.made n q h1.bel, (ha.alloc _).alloc _, (hb.alloc _).alloc _⟩
  rw [show (w.alloc (.cells (ndC n p) 46)).heap.size = w.heap.size + 1 by simp] at X
  go_enter Tryz.func31, Tryz.ntmps31
  go_upto_region 1 with fail
  generalize World.alloc _ _ = W at X ⊢
  generalize w.heap.size + 1 = gb at X ⊢
  generalize w.heap.size = ga at X ⊢
  obtain ⟨c0, c1, c2, c3, c4, c5, c6, c7, c8, c9, c10, c11, c12, c13, c14, c15, c16, c17⟩ := X.a.cells
  obtain ⟨d0, d1, d2, d3, d4, d5, d6, d7, d8, d9, d10, d11, d12, d13, d14, d15, d16, d17⟩ := X.b.cells
  go_wp2_with fail
  refine (eqFr _ _ _ _ _ _ _ _ _ X.ma.nums X.mb.nums).mono ?_
  rintro e w' ⟨rfl, b⟩
  replace X := X.below b
  clear b c0 c1 c2 c3 c4 c5 c6 c7 c8 c9 c10 c11 c12 c13 c14 c15 c16 c17 d0 d1 d2 d3 d4 d5 d6 d7 d8 d9 d10 d11 d12 d13 d14 d15 d16 d17
  obtain ⟨c0, c1, c2, c3, c4, c5, c6, c7, c8, c9, c10, c11, c12, c13, c14, c15, c16, c17⟩ := X.a.cells
  obtain ⟨d0, d1, d2, d3, d4, d5, d6, d7, d8, d9, d10, d11, d12, d13, d14, d15, d16, d17⟩ := X.b.cells
  go_wp2_with fail
  refine (eqCnt _ _ _).mono ?_
  rintro e w' ⟨rfl, b⟩
  replace X := X.below b
  clear b c0 c1 c2 c3 c4 c5 c6 c7 c8 c9 c10 c11 c12 c13 c14 c15 c16 c17 d0 d1 d2 d3 d4 d5 d6 d7 d8 d9 d10 d11 d12 d13 d14 d15 d16 d17
  obtain ⟨c0, c1, c2, c3, c4, c5, c6, c7, c8, c9, c10, c11, c12, c13, c14, c15, c16, c17⟩ := X.a.cells
  obtain ⟨d0, d1, d2, d3, d4, d5, d6, d7, d8, d9, d10, d11, d12, d13, d14, d15, d16, d17⟩ := X.b.cells
  go_wp2_with fail
  refine (eqFrames _ _ _ _ _ _ X.ma.box X.mb.box).mono ?_
  rintro e w' ⟨rfl, b⟩
  replace X := X.below b
  clear b c0 c1 c2 c3 c4 c5 c6 c7 c8 c9 c10 c11 c12 c13 c14 c15 c16 c17 d0 d1 d2 d3 d4 d5 d6 d7 d8 d9 d10 d11 d12 d13 d14 d15 d16 d17
  obtain ⟨c0, c1, c2, c3, c4, c5, c6, c7, c8, c9, c10, c11, c12, c13, c14, c15, c16, c17⟩ := X.a.cells
  obtain ⟨d0, d1, d2, d3, d4, d5, d6, d7, d8, d9, d10, d11, d12, d13, d14, d15, d16, d17⟩ := X.b.cells
  go_wp2_with fail
  refine (eqFrames _ _ _ _ _ _ X.ma.fifo X.mb.fifo).mono ?_
  rintro e w' ⟨rfl, b⟩
  replace X := X.below b
  clear b c0 c1 c2 c3 c4 c5 c6 c7 c8 c9 c10 c11 c12 c13 c14 c15 c16 c17 d0 d1 d2 d3 d4 d5 d6 d7 d8 d9 d10 d11 d12 d13 d14 d15 d16 d17
  obtain ⟨c0, c1, c2, c3, c4, c5, c6, c7, c8, c9, c10, c11, c12, c13, c14, c15, c16, c17⟩ := X.a.cells
  obtain ⟨d0, d1, d2, d3, d4, d5, d6, d7, d8, d9, d10, d11, d12, d13, d14, d15, d16, d17⟩ := X.b.cells
  go_wp2_with fail
  refine (eqFlts _ _ _ _ _ _ X.ma.flt X.mb.flt).mono ?_
  rintro e w' ⟨rfl, b⟩
  replace X := X.below b
  clear b c0 c1 c2 c3 c4 c5 c6 c7 c8 c9 c10 c11 c12 c13 c14 c15 c16 c17 d0 d1 d2 d3 d4 d5 d6 d7 d8 d9 d10 d11 d12 d13 d14 d15 d16 d17
  have hbl := X.a.bel
  go_wp2_with fail
  go_ret
  exact ⟨rfl, hbl⟩
end Go.Proofs.YtngcekegngmedaaGreat

/- A slice of nodes in memory, and the exact laws' own functions over it: szNodeS, szBus, eqNodeS, eqBus. -/

set_option linter.unusedVariables false
set_option linter.unusedSimpArgs false
set_option maxRecDepth 20000
namespace Go.Proofs.YtngcekegngmedaaGreat
open Go.RowKit

abbrev ndN : Nd := ⟨0, false, false, false, ⟨0, false, 0, []⟩, ⟨#[]⟩, 0, 0, 0, 0, 0, 0, [], [], []⟩
def nthN (N : List Nd) (j : Nat) : Nd := N.getD j ndN
theorem nthN_eq {N : List Nd} {j : Nat} (h : j < N.length) : nthN N j = N[j] := by simp [nthN, h]

/-- A range of cells abides what happens above. -/
theorem rangeAt_below {w w' : World} {g o : Nat} {cs : List Value} (h : w.rangeAt g o cs) (b : Below w.heap.size w w') : w'.rangeAt g o cs := fun j v hv => by
  have := h j v hv
  exact (b.cell (World.block_lt_of_cell? w _ this)).trans this
/-- Element j of the slice at a is the node n; its own slices are so that R tells. -/
def NdAt (R : NdP → Prop) (a : Option Addr) (j : Nat) (n : Nd) (w : World) : Prop := ∃ g o p, a = some ⟨g, o, none⟩ ∧ w.rangeAt g (o + j * 18) (ndC n p).toList ∧ NdM n p w ∧ R p
theorem NdAt.below {R : NdP → Prop} {a : Option Addr} {j : Nat} {n : Nd} {w w' : World} (h : NdAt R a j n w) (b : Below w.heap.size w w') : NdAt R a j n w' := by
  obtain ⟨g, o, p, ha, hc, hm, hr⟩ := h
  exact ⟨g, o, p, ha, rangeAt_below hc b, hm.below b, hr⟩
/-- The slice at a holds the nodes N. -/
def Nds (R : NdP → Prop) (a : Option Addr) (N : List Nd) (w : World) : Prop := N.length ≤ maxLen ∧ ∀ j, j < N.length → NdAt R a j (nthN N j) w
section
variable {R : NdP → Prop} {a : Option Addr} {N : List Nd} {w w' : World}
theorem Nds.below (h : Nds R a N w) (b : Below w.heap.size w w') : Nds R a N w' := ⟨h.1, fun j hj => (h.2 j hj).below b⟩
theorem Nds.alloc (h : Nds R a N w) (o : Obj) : Nds R a N (w.alloc o) := h.below ((Below.refl _ _).alloc (Nat.le_refl _) _)
theorem Nds.drew (h : Nds R a N w) : Nds R a N w.drew := h.below (Below.refl _ _).drew
theorem Nds.any (h : Nds R a N w) : Nds (fun _ => True) a N w := ⟨h.1, fun j hj => by obtain ⟨g, o, p, ha, hc, hm, hr⟩ := h.2 j hj; exact ⟨g, o, p, ha, hc, hm, trivial⟩⟩
end
abbrev Bare (p : NdP) : Prop := p.al = none → p.cl = 0

/-- How much all nodes hold together, of the first k. -/
def sumN (N : List Nd) (k : Nat) : Nat := ((N.take k).map roomN).sum
theorem sumN_zero (N : List Nd) : sumN N 0 = 0 := by simp [sumN]
theorem sumN_succ (N : List Nd) (k : Nat) (h : k < N.length) : sumN N (k + 1) = sumN N k + roomN (nthN N k) := by
  have e : N.take (k + 1) = N.take k ++ [nthN N k] := by
    rw [List.take_add_one, List.getElem?_eq_getElem h, nthN, List.getD_eq_getElem?_getD, List.getElem?_eq_getElem h]; rfl
  unfold sumN
  rw [e, List.map_append, List.sum_append]
  simp
theorem sumN_le (N : List Nd) {j k : Nat} (h : j ≤ k) : sumN N j ≤ sumN N k := by
  induction k with
  | zero => rw [Nat.le_zero.1 h]; exact Nat.le_refl _
  | succ k ih =>
    by_cases e : j = k + 1
    · rw [e]; exact Nat.le_refl _
    · refine Nat.le_trans (ih (by omega)) ?_
      by_cases hk : k < N.length
      · rw [sumN_succ N k hk]; omega
      · simp [sumN, List.take_of_length_le (Nat.le_of_not_lt hk), List.take_of_length_le (Nat.le_succ_of_le (Nat.le_of_not_lt hk))]
theorem sumN_at (N : List Nd) {j : Nat} (h : j < N.length) : roomN (nthN N j) ≤ sumN N N.length := by
  have h1 := sumN_succ N j h
  have h2 := sumN_le N (show j + 1 ≤ N.length by omega)
  omega
def roomB (N : List Nd) : Nat := N.length + sumN N N.length

/-! ### A whole node read out of a slice. -/
section
variable {g o : Nat} {n : Nd} {p : NdP} {w : World}
theorem rng_take (h : w.rangeAt g o (ndC n p).toList) {ops : Array Oper} {rest : List Oper} {x : Oper} {a : Act} {Q : Exit → Act → World → Prop} {y : Operand} (ho : x.op = .load 46 y) (hx : a.eval y = .pointer (some ⟨g, o, none⟩))
    (hw : Region.wanted x (yielded ops a.tmps) = true) (k : wpList Tryz.prog ops Q rest (a.put x.dst (ndV n p)) w) : wpList Tryz.prog ops Q (x :: rest) a w :=
  BigFrame.wpList_want hw fun _ hK => wp_load_mid 46 y ho g o hx (ndC n p).toList _ h Tryz.underlying46 rfl (by kernel_rfl) (hK _ _ k)
theorem rng_took (h : w.rangeAt g o (ndC n p).toList) {x : Oper} {a : Act} {y : Operand} (ho : x.op = .load 46 y) (hx : a.eval y = .pointer (some ⟨g, o, none⟩)) : (execOp a.eval x).run Tryz.prog w = .ok (.value (ndV n p)) w := by
  unfold execOp
  simp only [ho, hx, Instr.loadAt, Instr.sureAddr, Sem.run_bind, Sem.run_pure, Result.andThen_ok, run_loadVar_mid w g o 46 (ndC n p).toList _ h Tryz.underlying46 rfl (by kernel_rfl)]
end

/-- A bus, as the machine's value. -/
abbrev buC (a : Option Addr) (len c : Nat) (now : Int) : Array Value := #[.slice a len c, .int .i64 now]
abbrev buV (a : Option Addr) (len c : Nat) (now : Int) : Value := .agg #[.slice a len c, .int .i64 now]
set_option maxHeartbeats 4000000 in
/-- laws.eqNodeS of alike nodes. -/
theorem eqNodes (R R' : NdP → Prop) (a b : Option Addr) (N : List Nd) (c c' : Nat) (w : World) (ha : Nds R a N w) (hb : Nds R' b N w) :
    Calls Tryz.prog 19 #[.slice a N.length c, .slice b N.length c'] w fun e w' => e = .returned (.bool true) ∧ Below w.heap.size w w' := by
  have hm := ha.1
  unfold maxLen at hm
  go_enter Tryz.func19, Tryz.ntmps19
  go_wp2_with fail
  go_loopw [5] (fun i wr => ∃ k : Nat, k ≤ N.length ∧ i = .int .i64 k ∧ Below w.heap.size w wr) (fun i _ => N.length - (intOf i).toNat)
  case atStart => exact ⟨0, Nat.zero_le _, rfl, Below.refl _ _⟩
  case round =>
    obtain ⟨k, hk, rfl, bw⟩ := hrel
    by_cases hlt : k < N.length
    · obtain ⟨g, o, p, rfl, hc, hn, -⟩ := (ha.below bw).2 k hlt
      obtain ⟨g', o', p', rfl, hc', hn', -⟩ := (hb.below bw).2 k hlt
      generalize nthN N k = n at *
      go_upto_region 6 with fail
      refine region_class (fun u => (u.rangeAt g (o + k * 18) (ndC n p).toList ∧ NdM n p u) ∧ (u.rangeAt g' (o' + k * 18) (ndC n p').toList ∧ NdM n p' u) ∧ Below w.heap.size w u) (by kernel_rfl) (by kernel_rfl) ⟨⟨rangeAt_below hc (Below.refl _ _).drew, hn.drew⟩, ⟨rangeAt_below hc' (Below.refl _ _).drew, hn'.drew⟩, bw.drew⟩ ?_
      clear hc hn hc' hn' bw
      repeat first
        | go_big_quiet_skip
        | (go_big_quiet_want
           apply Exists.intro
           refine ⟨fun u hu => ?_, ?_⟩
           · exact quietAt_val (rng_took hu.1.1 rfl rfl)
           simp only [Act.put, List.setIfInBounds_toArray, List.set_cons_zero, List.set_cons_succ]
           go_big_quiet_on)
        | (go_big_quiet_want
           apply Exists.intro
           refine ⟨fun u hu => ?_, ?_⟩
           · exact quietAt_val (rng_took hu.2.1.1 rfl rfl)
           simp only [Act.put, List.setIfInBounds_toArray, List.set_cons_zero, List.set_cons_succ]
           go_big_quiet_on)
        | (go_big_quiet_want
           apply Exists.intro
           refine ⟨fun u hu => ?_, ?_⟩
           · apply quietAt_val
             skip
             go_simp
             rfl
           simp only [Act.put, List.setIfInBounds_toArray, List.set_cons_zero, List.set_cons_succ]
           go_big_quiet_on)
        | (go_big_quiet_want
           apply Exists.intro
           refine ⟨fun u hu => ?_, ?_⟩
           · apply quietAt_enter 31 #[ndV n p, ndV n p']
             · go_simp
             · refine (eqN n p p' u hu.1.2 hu.2.1.2).mono ?_
               rintro e w2 ⟨rfl, b2⟩
               exact ⟨rfl, ⟨rangeAt_below hu.1.1 b2, hu.1.2.below b2⟩, ⟨rangeAt_below hu.2.1.1 b2, hu.2.1.2.below b2⟩, Below.then2 hu.2.2 b2⟩
           simp only [Act.put, List.setIfInBounds_toArray, List.set_cons_zero, List.set_cons_succ]
           go_big_quiet_on)
      refine wpQuiet_nil ?_
      intro W2 L2
      have bw := L2.2.2
      clear L2
      go_wp2_with fail
      go_roundw
      case rel => exact ⟨k + 1, by omega, by go_num, bw⟩
      case measure => simp [intOf]; omega
    · go_wp2_with fail
      go_ret
      exact ⟨rfl, bw⟩
/-- Two blocks laid. -/
theorem two_made (w : World) (C D : Array Value) (T T' : TypeId) : ((w.alloc (.cells C T)).alloc (.cells D T')).heap[w.heap.size]? = some (.cells C T (0, 0)) ∧ ((w.alloc (.cells C T)).alloc (.cells D T')).heap[w.heap.size + 1]? = some (.cells D T' (0, 0))
    ∧ Below w.heap.size w ((w.alloc (.cells C T)).alloc (.cells D T')) := by
  have h1 := heap_alloc_new w (.cells C T)
  have h2 := heap_alloc_new (w.alloc (.cells C T)) (.cells D T')
  have hs : (w.alloc (.cells C T)).heap.size = w.heap.size + 1 := by simp
  rw [hs] at h2
  exact ⟨((below_more (Below.refl _ (w.alloc (.cells C T))) (.cells D T')).block w.heap.size (by omega)).trans h1, h2, below_more (below_more (Below.refl _ w) (.cells C T)) (.cells D T')⟩
/-- laws.eqBus of alike buses. -/
theorem eqBus (R R' : NdP → Prop) (a b : Option Addr) (N : List Nd) (c c' : Nat) (now : Int) (w : World) (ha : Nds R a N w) (hb : Nds R' b N w) :
    Calls Tryz.prog 8 #[buV a N.length c now, buV b N.length c' now] w fun e w' => e = .returned (.bool true) ∧ Below w.heap.size w w' := by
  obtain ⟨HC, HD, B⟩ := two_made w (buC a N.length c now) (buC b N.length c' now) 26 26
  go_enter Tryz.func8, Tryz.ntmps8
  go_upto_region 1 with fail
  generalize World.alloc _ _ = W at HC HD B ⊢
  generalize w.heap.size + 1 = g2 at HD ⊢
  generalize w.heap.size = g1 at HC ⊢
  have c0 := cell_of_row W g1 0 _ _ _ HC
  have c1 := cell_of_row W g2 0 _ _ _ HD
  go_wp2_with fail
  refine (eqNodes R R' a b N c c' _ (ha.below B) (hb.below B)).mono ?_
  rintro e w2 ⟨rfl, b2⟩
  replace HC := (b2.block g1 (Array.getElem?_eq_some_iff.1 HC).1).trans HC
  replace HD := (b2.block g2 (Array.getElem?_eq_some_iff.1 HD).1).trans HD
  replace B := Below.then2 B b2
  have d0 := cell_of_row w2 g1 1 _ _ _ HC
  have d1 := cell_of_row w2 g2 1 _ _ _ HD
  clear b2 c0 c1 HC HD
  go_wp2_with fail
  go_ret
  exact ⟨rfl, B⟩
end Go.Proofs.YtngcekegngmedaaGreat

/- What a node does with one bit, plain; a right node stays right. -/

set_option linter.unusedVariables false
set_option linter.unusedSimpArgs false
set_option maxRecDepth 20000
namespace Go.Proofs.YtngcekegngmedaaGreat
open Go.RowKit

/-- A frame of nothing; what happened (its kind, its frame). -/
def zF : Frm := ⟨0, false, 0, []⟩
def bitS (l : Int) : ByteArray := if l = 0 then ⟨#[48]⟩ else ⟨#[49]⟩
def badA (n : Nd) : Int := if n.tx = true then sbA n.cs n.cg else gwA n.cs n.cg
def badB (n : Nd) : Int := if n.tx = true then swB n.cs n.cg else gbB n.cs n.cg
/-- It breaks off. -/
def brkN (n : Nd) : Nd × Int × Frm :=
  if stV (badA n) (badB n) = 2 then ({ n with cs := badA n, cg := badB n, got := ⟨#[]⟩, run := 0, last := 0, pos := 0, bad := false, ph := 7, left := 128 }, 5, zF)
  else ({ n with cs := badA n, cg := badB n, got := ⟨#[]⟩, run := 0, last := 0, pos := 0, bad := false, ph := 3, mild := decide (stV (badA n) (badB n) = 1), left := 6 }, 4, zF)
def hearN (n : Nd) (l : Int) : Nd := { n with got := n.got ++ bitS l, run := if l = n.last then n.run + 1 else 1, last := l }
def wholeN (n : Nd) : Nd := if wholeB n.got = true ∧ n.run ≠ 5 then { n with ph := 2, pos := 0, left := 0, bad := !n.tx && decide (rdCode n.got ≠ 0) } else n
def begN (n : Nd) (tx : Bool) : Nd := { n with ph := 1, got := ⟨#[48]⟩, run := 1, last := 0, left := 0, tx := tx, bad := false }
def bodyN (n : Nd) (l : Int) : Nd × Int × Frm :=
  if n.run = 5 then (if l = n.last then brkN n else (wholeN { n with run := 1, last := l }, 0, zF))
  else if n.tx = true ∧ l ≠ nextV n then (if nextV n = 0 ∨ 12 < n.got.size then brkN n else (wholeN (hearN { n with tx := false } l), 0, zF))
  else (wholeN (hearN n l), 0, zF)
/-- What was read. -/
def rdF (s : ByteArray) : Frm := ⟨rdId s, rdRm s, rdLn s, rdD s⟩
def heardN (n : Nd) : Nd × Int × Frm :=
  if passV n.flt (rdF n.got).id = true then ({ n with pos := 9, cs := gwA n.cs n.cg, cg := gwB n.cs n.cg, fifo := (pushV n.fifo (rdF n.got)).1 }, if (pushV n.fifo (rdF n.got)).2 = true then 2 else 3, rdF n.got)
  else ({ n with pos := 9, cs := gwA n.cs n.cg, cg := gwB n.cs n.cg }, 0, zF)
def tailB (n : Nd) (l : Int) : Bool := if n.pos = 1 then n.tx && decide (l = 1) else if n.pos = 2 then decide (l = 0) || n.bad else if n.pos = 9 then n.tx && decide (l = 0) else decide (l = 0)
def tailN (n : Nd) (l : Int) : Nd × Int × Frm :=
  if tailB n l = true then brkN n
  else if n.pos < 9 then (if n.pos = 8 ∧ n.tx = false then heardN n else ({ n with pos := n.pos + 1 }, 0, zF))
  else if n.tx = true then ({ n with ph := 5, left := 3, got := ⟨#[]⟩, run := 0, last := 0, pos := 0, cs := swA n.cs n.cg, cg := swB n.cs n.cg, box := outV n.box (rkF n.fr) }, 1, n.fr)
  else ({ n with ph := 5, left := 3, got := ⟨#[]⟩, run := 0, last := 0, pos := 0 }, 0, zF)
def offN (n : Nd) (l : Int) : Nd × Int × Frm :=
  if l = 0 then ({ n with run := 0 }, 0, zF)
  else if n.run + 1 < 11 then ({ n with run := n.run + 1 }, 0, zF)
  else if 0 < n.left - 1 then ({ n with run := 0, left := n.left - 1 }, 0, zF)
  else ({ n with run := 0, left := 0, cs := 0, cg := 0, ph := 0, tx := false, mild := false, fr := zF }, 6, zF)
def lessV (x : Int) : Int := if 0 < x - 1 then x - 1 else 0
def pauseN (n : Nd) (l : Int) : Nd :=
  if n.ph = 3 then (if lessV n.left = 0 then { n with ph := 4, left := 8 } else { n with left := lessV n.left })
  else if n.ph = 4 then (if l = 0 then { n with left := 8 } else if lessV n.left = 0 then { n with ph := 5, left := 3 } else { n with left := lessV n.left })
  else if n.ph = 5 then (if lessV n.left = 0 then (if n.tx = true ∧ stV n.cs n.cg = 1 then { n with left := 8, ph := 6, tx := false, fr := zF } else { n with left := 0, ph := 0, tx := false, fr := zF }) else { n with left := lessV n.left })
  else if n.ph = 6 then (if l = 0 then begN n false else if lessV n.left = 0 then { n with left := 0, ph := 0 } else { n with left := lessV n.left })
  else n
def sampN (n : Nd) (l : Int) : Nd × Int × Frm :=
  if n.ph = 0 then (if l = 1 then (n, 0, zF) else ({ begN n (decide (0 < n.box.length)) with fr := if 0 < n.box.length then nthF n.box 0 else zF }, 0, zF))
  else if n.ph = 1 then bodyN n l
  else if n.ph = 2 then tailN n l
  else if n.ph = 7 then offN n l
  else (pauseN n l, 0, zF)

/-! ### A right node, as facts. -/
structure Right (n : Nd) : Prop where
  ph : 0 ≤ n.ph ∧ n.ph ≤ 7
  run : 0 ≤ n.run ∧ n.run ≤ 11
  last : 0 ≤ n.last ∧ n.last ≤ 1
  pos : 0 ≤ n.pos ∧ n.pos ≤ 9
  left : 0 ≤ n.left ∧ n.left ≤ 128
  cnt : cOk n.cs n.cg = true
  fr : frB n.fr = true
  size : n.got.size ≤ 98
  got : okB n.got = true
  box : boxB n.box = true
  fifo : fifoB n.fifo = true
  flt : n.flt.length ≤ 8 ∧ n.flt.all flOk = true
/-- What is wanted on the wire. -/
structure Wire1 (n : Nd) : Prop where
  some : n.got.size ≠ 0
  run : 1 ≤ n.run ∧ n.run ≤ 5
  half : n.run ≠ 5 → wholeB n.got = false
  tx : n.tx = true → prefB (fullF n.fr) n.got = true ∧ hasB n.box n.fr = true
theorem bodyB_iff {n : Nd} : bodyB n = true ↔ Wire1 n := by
  constructor
  · intro h
    simp only [bodyB, Bool.and_eq_true, Bool.not_eq_true', Bool.or_eq_false_iff, decide_eq_false_iff_not, Bool.not_eq_false', rng_iff, Bool.and_eq_false_iff, Bool.or_eq_true, Bool.not_eq_true'] at h
    obtain ⟨⟨h1, h2, h3⟩, h4⟩ := h
    refine ⟨h1, h2, fun e => ?_, fun e => ?_⟩
    · rcases h3 with h3 | h3
      · exact absurd e h3
      · exact h3
    · rcases h4 with h4 | h4
      · rw [e] at h4; cases h4
      · exact h4
  · rintro ⟨h1, h2, h3, h4⟩
    simp only [bodyB, Bool.and_eq_true, Bool.not_eq_true', Bool.or_eq_false_iff, decide_eq_false_iff_not, Bool.not_eq_false', rng_iff, Bool.and_eq_false_iff, Bool.or_eq_true, Bool.not_eq_true']
    refine ⟨⟨h1, h2, ?_⟩, ?_⟩
    · by_cases e : n.run = 5
      · exact .inl (fun k => k e)
      · exact .inr (h3 e)
    · cases ht : n.tx with
      | false => exact .inl rfl
      | true => exact .inr (h4 ht)
theorem right_iff {n : Nd} : nodeB n = true ↔ Right n ∧ (n.ph = 1 → Wire1 n) := by
  constructor
  · intro h
    simp only [nodeB, numB, listB, Bool.and_eq_true, rng_iff, decide_eq_true_eq, Bool.or_eq_true, decide_eq_true_eq] at h
    obtain ⟨⟨h1, h2, h3, h4, h5, h6⟩, h7, ⟨h8, h9, h10, h11, h12, h13⟩, h14⟩ := h
    refine ⟨⟨h1, h2, h3, h4, h5, h6, h7, h8, h9, h10, h11, h12, h13⟩, fun e => ?_⟩
    rcases h14 with h | h
    · exact absurd e h
    · exact bodyB_iff.1 h
  · rintro ⟨⟨h1, h2, h3, h4, h5, h6, h7, h8, h9, h10, h11, h12, h13⟩, h14⟩
    simp only [nodeB, numB, listB, Bool.and_eq_true, rng_iff, decide_eq_true_eq, Bool.or_eq_true, decide_eq_true_eq]
    refine ⟨⟨h1, h2, h3, h4, h5, h6⟩, h7, ⟨h8, h9, h10, h11, h12, h13⟩, ?_⟩
    by_cases e : n.ph = 1
    · exact .inr (bodyB_iff.2 (h14 e))
    · exact .inl e

/-! ### The pieces. -/
theorem zF_ok : frB zF = true := by decide
theorem okB_none : okB ⟨#[]⟩ = true := by rw [okB_iff]; exact ⟨by decide, fun c hc => by cases hc⟩
theorem okB_bit0 (l : Int) : okB (bitS l) = true := by
  rw [okB_iff]; unfold bitS
  split
  · exact ⟨by decide, fun c hc => by simp at hc; subst hc; decide⟩
  · exact ⟨by decide, fun c hc => by simp at hc; subst hc; decide⟩
theorem bitS_size (l : Int) : (bitS l).size = 1 := by unfold bitS; split <;> rfl
theorem sb_ok {s g : Int} (h : cOk s g = true) : cOk (sbA s g) (swB s g) = true := by
  have k := cOk_iff.1 h
  rw [cOk_iff, sbA, swB, if_pos h, if_pos h]; split <;> omega
theorem gb_ok {s g : Int} (h : cOk s g = true) : cOk (gwA s g) (gbB s g) = true := by
  have k := cOk_iff.1 h
  rw [cOk_iff, gwA, gbB, if_pos h, if_pos h]; split <;> omega
theorem sw_ok {s g : Int} (h : cOk s g = true) : cOk (swA s g) (swB s g) = true := by
  have k := cOk_iff.1 h
  rw [cOk_iff, swA, swB, if_pos h, if_pos h]; split <;> omega
theorem gw_ok {s g : Int} (h : cOk s g = true) : cOk (gwA s g) (gwB s g) = true := by
  have k := cOk_iff.1 h
  rw [cOk_iff, gwA, gwB, if_pos h, if_pos h]; split <;> (try split) <;> omega
theorem bad_ok {n : Nd} (h : cOk n.cs n.cg = true) : cOk (badA n) (badB n) = true := by
  unfold badA badB
  cases n.tx
  · exact gb_ok h
  · exact sb_ok h
theorem rdF_ok (s : ByteArray) : frB (rdF s) = true := by
  by_cases h : rdCode s = 0
  · exact (read_back h).1
  · obtain ⟨e1, e2, e3, e4⟩ := rd_not h
    unfold rdF; rw [e1, e2, e3, e4]; exact zF_ok
theorem push_ok {L : List Frm} {f : Frm} (h : fifoB L = true) : fifoB (pushV L f).1 = true := by
  unfold pushV
  split
  · exact h
  · rename_i hc
    simp only [fifoB, Bool.and_eq_true, decide_eq_true_eq] at h ⊢
    have h1 : ¬ 32 ≤ L.length := fun e => hc (.inl e)
    have h2 : frB f = true := by
      cases e : frB f with
      | true => rfl
      | false => exact absurd (.inr e) hc
    refine ⟨by simp; omega, ?_⟩
    rw [List.all_append, h.2]; simp [h2]
theorem out_ok {L : List Frm} {r : Int} (h : boxB L = true) : boxB (outV L r) = true := by
  obtain ⟨hl, hr⟩ := boxB_iff.1 h
  have hp := pos_at (r := r) hr
  cases m : metB L r (posN L r L.length) with
  | false => rw [outV_not h hp m]; exact h
  | true =>
    rw [outV_met h hp m]
    obtain ⟨hm, -⟩ := metB_yes.1 m
    generalize posN L r L.length = p at *
    have hlen : (splL L p (p + 1) []).length = L.length - 1 := by rw [splL_len hp.1]; simp; omega
    have at_ : ∀ j, j < L.length - 1 → nthF (splL L p (p + 1) []) j = nthF L (if j < p then j else j + 1) := by
      intro j hj
      split
      · rename_i hjp; exact splL_low hp.1 hjp
      · rename_i hjp
        unfold splL
        rw [List.nil_append, nthF_right (by simp; omega), nthF_drop]
        congr 1; simp; omega
    refine boxB_yes (by omega) fun j hj => ?_
    rw [hlen] at hj
    rw [at_ j hj]
    refine ⟨(hr _ (by split <;> omega)).1, fun h0 => ?_⟩
    rw [at_ (j - 1) (by omega)]
    exact hr.lt (by split <;> split <;> omega) (by split <;> omega)
theorem not_whole {s : ByteArray} (h : okB s = true) (hw : wholeB s = false) : s.size + 1 ≤ 98 ∧ (s.size < 19 ∨ (s.size : Int) < needV s) := by
  have hb := needV_bd s
  simp only [wholeB, Bool.and_eq_false_iff, decide_eq_false_iff_not] at hw
  by_cases h19 : s.size < 19
  · exact ⟨by omega, .inl h19⟩
  · have h0 : 0 ≤ needV s := by
      rw [needV_eq h (by omega)]
      have := numV_bd (lenS s)
      split
      · split <;> omega
      · omega
    have : (s.size : Int) < needV s := by omega
    exact ⟨by omega, .inr this⟩
theorem half_short {s : ByteArray} (h : s.size < 19) : wholeB s = false := by simp [wholeB, needV_short h]
theorem full_needs {f : Frm} (h : frB f = true) : wholeB (fullF f) = true := by
  have e := (read_said (show frOk f.id f.rm f.ln f.D = true from h)).2.2.2.2.2
  have e' : needV (fullF f) = (fullF f).size := e
  simp only [wholeB, Bool.and_eq_true, decide_eq_true_eq]
  omega
theorem pref_short {f : Frm} {s : ByteArray} (h : frB f = true) (hp : prefB (fullF f) s = true) (hw : wholeB s = false) : s.size < (fullF f).size := by
  simp only [prefB, Bool.and_eq_true, decide_eq_true_eq] at hp
  obtain ⟨h1, h2⟩ := hp
  by_cases e : s.size = (fullF f).size
  · exfalso
    rw [e] at h2
    have h3 : (fullF f).extract 0 (fullF f).size = fullF f := by
      apply ba_inj; rw [front_list]; exact List.take_of_length_le (Nat.le_refl _)
    rw [h3] at h2
    rw [← h2, full_needs h] at hw
    cases hw
  · omega
theorem pref_next {f : Frm} {s : ByteArray} {l : Int} (h : frB f = true) (hp : prefB (fullF f) s = true) (hw : wholeB s = false) (hl : l = ((byteAt (fullF f) s.size).toNat : Int) - 48) : prefB (fullF f) (s ++ bitS l) = true := by
  have hs := pref_short h hp hw
  have hb := full_bit h hs
  simp only [prefB, Bool.and_eq_true, decide_eq_true_eq] at hp ⊢
  obtain ⟨h1, h2⟩ := hp
  have hz : (s ++ bitS l).size = s.size + 1 := by rw [ByteArray.size_append, bitS_size]
  refine ⟨by omega, ?_⟩
  rw [hz]
  have hbit : (bitS l).data.toList = [byteAt (fullF f) s.size] := by
    rcases hb with e | e <;> rw [e] at hl ⊢ <;> subst hl <;> rfl
  apply ba_inj
  have hlen : s.size < (fullF f).data.toList.length := hs
  have e2 := congrArg (fun b : ByteArray => b.data.toList) h2
  simp only [front_list] at e2
  rw [front_list, append_toList, hbit, List.take_succ_eq_append_getElem hlen, e2]
  congr 2
  exact byteAt_eq hs
theorem whole_right {n : Nd} (R : Right n) (h0 : n.got.size ≠ 0) (h1 : 1 ≤ n.run ∧ n.run ≤ 5) (ht : n.tx = true → prefB (fullF n.fr) n.got = true ∧ hasB n.box n.fr = true) : nodeB (wholeN n) = true := by
  unfold wholeN
  split
  · exact right_iff.2 ⟨⟨by simp, R.run, R.last, by simp, by simp, R.cnt, R.fr, R.size, R.got, R.box, R.fifo, R.flt⟩, fun e => by simp at e⟩
  · rename_i hc
    refine right_iff.2 ⟨R, fun _ => ⟨h0, h1, fun e => ?_, ht⟩⟩
    cases hw : wholeB n.got with
    | false => rfl
    | true => exact absurd ⟨hw, e⟩ hc
theorem brk_right {n : Nd} (R : Right n) : nodeB (brkN n).1 = true := by
  have hc := bad_ok R.cnt
  unfold brkN
  split
  · exact right_iff.2 ⟨⟨by simp, by simp, by simp, by simp, by simp, hc, R.fr, (show (0:Nat) ≤ 98 by omega), okB_none, R.box, R.fifo, R.flt⟩, fun e => by simp at e⟩
  · exact right_iff.2 ⟨⟨by simp, by simp, by simp, by simp, by simp, hc, R.fr, (show (0:Nat) ≤ 98 by omega), okB_none, R.box, R.fifo, R.flt⟩, fun e => by simp at e⟩
theorem hear_right {n : Nd} {l : Int} (R : Right n) (hl : l = 0 ∨ l = 1) (W : Wire1 n) (h5 : n.run ≠ 5) (ht : n.tx = true → l = nextV n) : nodeB (wholeN (hearN n l)) = true := by
  have hw := W.half h5
  have hs := not_whole R.got hw
  have hz : (n.got ++ bitS l).size = n.got.size + 1 := by rw [ByteArray.size_append, bitS_size]
  have hrun : 1 ≤ (hearN n l).run ∧ (hearN n l).run ≤ 5 := by
    have := W.run
    simp only [hearN]; split <;> omega
  refine whole_right ⟨R.ph, by omega, by simp only [hearN]; omega, R.pos, R.left, R.cnt, R.fr, by simp only [hearN]; omega, ?_, R.box, R.fifo, R.flt⟩ (by simp only [hearN]; omega) hrun fun e => ?_
  · simp only [hearN]
    rw [okB_append R.got (okB_bit0 l), bitS_size]
    simp only [decide_eq_true_eq]; omega
  · obtain ⟨hp, hb⟩ := W.tx e
    refine ⟨pref_next R.fr hp hw ?_, hb⟩
    have := pref_short R.fr hp hw
    rw [ht e, nextV, if_neg h5, if_neg (by omega)]
    rfl
theorem body_right {n : Nd} {l : Int} (R : Right n) (hl : l = 0 ∨ l = 1) (W : Wire1 n) : nodeB (bodyN n l).1 = true := by
  unfold bodyN
  split
  · rename_i h5
    split
    · exact brk_right R
    · exact whole_right ⟨R.ph, by simp, by simp only []; omega, R.pos, R.left, R.cnt, R.fr, R.size, R.got, R.box, R.fifo, R.flt⟩ W.some (by simp) W.tx
  · rename_i h5
    split
    · split
      · exact brk_right R
      · exact hear_right (n := { n with tx := false }) ⟨R.ph, R.run, R.last, R.pos, R.left, R.cnt, R.fr, R.size, R.got, R.box, R.fifo, R.flt⟩ hl ⟨W.some, W.run, W.half, fun e => by cases e⟩ h5 (fun e => by cases e)
    · rename_i hc
      refine hear_right R hl W h5 fun e => ?_
      by_cases k : l = nextV n
      · exact k
      · exact absurd ⟨e, k⟩ hc
theorem heard_right {n : Nd} (R : Right n) (h2 : n.ph = 2) : nodeB (heardN n).1 = true := by
  unfold heardN
  split
  · exact right_iff.2 ⟨⟨R.ph, R.run, R.last, by simp, R.left, gw_ok R.cnt, R.fr, R.size, R.got, R.box, push_ok R.fifo, R.flt⟩, fun e => by simp only [] at e; omega⟩
  · exact right_iff.2 ⟨⟨R.ph, R.run, R.last, by simp, R.left, gw_ok R.cnt, R.fr, R.size, R.got, R.box, R.fifo, R.flt⟩, fun e => by simp only [] at e; omega⟩
theorem tail_right {n : Nd} {l : Int} (R : Right n) (h2 : n.ph = 2) : nodeB (tailN n l).1 = true := by
  have hp := R.pos
  unfold tailN
  split
  · exact brk_right R
  split
  · split
    · exact heard_right R h2
    · exact right_iff.2 ⟨⟨R.ph, R.run, R.last, by simp only []; omega, R.left, R.cnt, R.fr, R.size, R.got, R.box, R.fifo, R.flt⟩, fun e => by simp only [] at e; omega⟩
  split
  · exact right_iff.2 ⟨⟨by simp, by simp, by simp, by simp, by simp, sw_ok R.cnt, R.fr, (show (0:Nat) ≤ 98 by omega), okB_none, out_ok R.box, R.fifo, R.flt⟩, fun e => by simp at e⟩
  · exact right_iff.2 ⟨⟨by simp, by simp, by simp, by simp, by simp, R.cnt, R.fr, (show (0:Nat) ≤ 98 by omega), okB_none, R.box, R.fifo, R.flt⟩, fun e => by simp at e⟩
theorem off_right {n : Nd} {l : Int} (R : Right n) (h7 : n.ph = 7) : nodeB (offN n l).1 = true := by
  have hr := R.run
  have hf := R.left
  unfold offN
  split
  · exact right_iff.2 ⟨⟨R.ph, by simp, R.last, R.pos, R.left, R.cnt, R.fr, R.size, R.got, R.box, R.fifo, R.flt⟩, fun e => by simp only [] at e; omega⟩
  split
  · exact right_iff.2 ⟨⟨R.ph, by simp only []; omega, R.last, R.pos, R.left, R.cnt, R.fr, R.size, R.got, R.box, R.fifo, R.flt⟩, fun e => by simp only [] at e; omega⟩
  split
  · exact right_iff.2 ⟨⟨R.ph, by simp, R.last, R.pos, by simp only []; omega, R.cnt, R.fr, R.size, R.got, R.box, R.fifo, R.flt⟩, fun e => by simp only [] at e; omega⟩
  · exact right_iff.2 ⟨⟨by simp, by simp, R.last, R.pos, by simp, (show cOk 0 0 = true by decide), zF_ok, R.size, R.got, R.box, R.fifo, R.flt⟩, fun e => by simp at e⟩
theorem half_one : wholeB ⟨#[48]⟩ = false := half_short (by decide)
theorem okB_one : okB ⟨#[48]⟩ = true := okB_bit0 0
theorem beg_right {n : Nd} {tx : Bool} (R : Right n) (ht : tx = true → prefB (fullF n.fr) ⟨#[48]⟩ = true ∧ hasB n.box n.fr = true) : nodeB (begN n tx) = true :=
  right_iff.2 ⟨⟨by simp [begN], by simp [begN], by simp [begN], R.pos, by simp [begN], R.cnt, R.fr, (show (1:Nat) ≤ 98 by omega), okB_one, R.box, R.fifo, R.flt⟩, fun _ => ⟨(show (1:Nat) ≠ 0 by omega), by simp [begN], fun _ => half_one, ht⟩⟩
theorem less_bd {x : Int} (h : 0 ≤ x ∧ x ≤ 128) : 0 ≤ lessV x ∧ lessV x ≤ 128 := by unfold lessV; split <;> omega
theorem pause_right {n : Nd} {l : Int} (R : Right n) (h0 : n.ph ≠ 1) : nodeB (pauseN n l) = true := by
  have hf := less_bd R.left
  have same : ∀ x, 0 ≤ x ∧ x ≤ 128 → nodeB { n with left := x } = true := fun x hx => right_iff.2 ⟨⟨R.ph, R.run, R.last, R.pos, hx, R.cnt, R.fr, R.size, R.got, R.box, R.fifo, R.flt⟩, fun e => absurd e h0⟩
  have goes : ∀ p x, (0 ≤ p ∧ p ≤ 7) → p ≠ 1 → 0 ≤ x ∧ x ≤ 128 → nodeB { n with ph := p, left := x } = true := fun p x hp h1 hx => right_iff.2 ⟨⟨hp, R.run, R.last, R.pos, hx, R.cnt, R.fr, R.size, R.got, R.box, R.fifo, R.flt⟩, fun e => absurd e h1⟩
  have end_ : ∀ p x, (0 ≤ p ∧ p ≤ 7) → p ≠ 1 → 0 ≤ x ∧ x ≤ 128 → nodeB { n with left := x, ph := p, tx := false, fr := zF } = true := fun p x hp h1 hx => right_iff.2 ⟨⟨hp, R.run, R.last, R.pos, hx, R.cnt, zF_ok, R.size, R.got, R.box, R.fifo, R.flt⟩, fun e => absurd e h1⟩
  unfold pauseN
  split
  · split
    · exact goes 4 8 (by omega) (by omega) (by omega)
    · exact same _ hf
  split
  · split
    · exact same 8 (by omega)
    split
    · exact goes 5 3 (by omega) (by omega) (by omega)
    · exact same _ hf
  split
  · split
    · split
      · exact end_ 6 8 (by omega) (by omega) (by omega)
      · exact end_ 0 0 (by omega) (by omega) (by omega)
    · exact same _ hf
  split
  · split
    · exact beg_right R (fun e => by cases e)
    split
    · exact goes 0 0 (by omega) (by omega) (by omega)
    · exact same _ hf
  · exact right_iff.2 ⟨R, fun e => absurd e h0⟩
theorem first_bit {f : Frm} (h : frB f = true) : prefB (fullF f) ⟨#[48]⟩ = true := by
  have hs := full_size (show frOk f.id f.rm f.ln f.D = true from h)
  have hL := full_list (show frOk f.id f.rm f.ln f.D = true from h)
  have hz : (⟨#[48]⟩ : ByteArray).size = 1 := rfl
  have hs' : (fullF f).size = 34 + 8 * f.D.length := hs
  simp only [prefB, Bool.and_eq_true, decide_eq_true_eq]
  refine ⟨by omega, ?_⟩
  apply ba_inj
  rw [front_list, hz]
  show ((fullV f.id f.rm f.ln f.D).data.toList.take 1) = [48]
  rw [hL]; rfl
theorem same_self (f : Frm) : sameF f f = true := by simp [sameF, sameFr]
theorem has_first {L : List Frm} (h : boxB L = true) (h0 : 0 < L.length) : frB (nthF L 0) = true ∧ hasB L (nthF L 0) = true := by
  obtain ⟨hl, hr⟩ := boxB_iff.1 h
  exact ⟨rkF_ok (hr 0 h0).1, by rw [hasB_hit hr h0 rfl]; exact same_self _⟩
/-- A right node stays right. -/
theorem samp_right {n : Nd} {l : Int} (h : nodeB n = true) (hl : l = 0 ∨ l = 1) : nodeB (sampN n l).1 = true := by
  obtain ⟨R, W⟩ := right_iff.1 h
  unfold sampN
  split
  · split
    · exact h
    · by_cases h0 : 0 < n.box.length
      · obtain ⟨hf, hh⟩ := has_first R.box h0
        have e : (if 0 < n.box.length then nthF n.box 0 else zF) = nthF n.box 0 := if_pos h0
        simp only [e]
        exact beg_right (n := { n with fr := nthF n.box 0 }) ⟨R.ph, R.run, R.last, R.pos, R.left, R.cnt, hf, R.size, R.got, R.box, R.fifo, R.flt⟩ (fun _ => ⟨first_bit hf, hh⟩)
      · have e : (if 0 < n.box.length then nthF n.box 0 else zF) = zF := if_neg h0
        have e2 : decide (0 < n.box.length) = false := by simpa using h0
        simp only [e, e2]
        exact beg_right (n := { n with fr := zF }) ⟨R.ph, R.run, R.last, R.pos, R.left, R.cnt, zF_ok, R.size, R.got, R.box, R.fifo, R.flt⟩ (fun e => by cases e)
  split
  · rename_i h1; exact body_right R hl (W h1)
  split
  · rename_i h2; exact tail_right R h2
  split
  · rename_i h7; exact off_right R h7
  · rename_i h1 _ _; exact pause_right R h1
end Go.Proofs.YtngcekegngmedaaGreat

/- What a node does with a frame that is put in its box, plain; a right node stays right. -/

set_option linter.unusedVariables false
set_option linter.unusedSimpArgs false
set_option maxRecDepth 20000
namespace Go.Proofs.YtngcekegngmedaaGreat
open Go.RowKit

theorem mem_nthF {L : List Frm} {x : Frm} : x ∈ L ↔ ∃ j, j < L.length ∧ nthF L j = x := by
  constructor
  · intro h
    obtain ⟨j, hj, rfl⟩ := List.mem_iff_getElem.1 h
    exact ⟨j, hj, nthF_eq hj⟩
  · rintro ⟨j, hj, rfl⟩
    rw [nthF_eq hj]; exact List.getElem_mem hj
theorem splL_mem {L : List Frm} {p q : Nat} {f x : Frm} : x ∈ splL L p q [f] ↔ x ∈ L.take p ∨ x = f ∨ x ∈ L.drop q := by simp [splL]
theorem take_drop_mem {L : List Frm} {p : Nat} {x : Frm} : x ∈ L ↔ x ∈ L.take p ∨ x ∈ L.drop p := by
  conv => lhs; rw [← List.take_append_drop p L]
  exact List.mem_append
/-- What putting in leaves: f perhaps, and all that have other ranks. -/
theorem put_facts {L : List Frm} (f : Frm) (hb : boxB L = true) :
    boxB (putV L f).1 = true ∧ (∀ x ∈ L, rkF x ≠ rkF f → x ∈ (putV L f).1) ∧ (∀ x ∈ (putV L f).1, x ∈ L ∨ x = f)
      ∧ (0 ≤ rkF f → L.length < 16 → (∀ x ∈ L, rkF x ≠ rkF f) → (putV L f).2 = 0 ∧ f ∈ (putV L f).1 ∧ (putV L f).1.length = L.length + 1) := by
  have hB := boxB_iff.1 hb
  by_cases hn : rkF f < 0
  · rw [putV_no hb hn]
    exact ⟨hb, fun x hx _ => hx, fun x hx => .inl hx, fun h => by omega⟩
  have hp := pos_at (r := rkF f) hB.2
  generalize posN L (rkF f) L.length = p at hp
  cases hm : metB L (rkF f) p with
  | true =>
    rw [putV_over hb hn hp hm]
    have hm' := metB_yes.1 hm
    have hbx : boxB (splL L p (p + 1) [f]) = true := boxB_yes (by rw [splL_len hp.1]; simp; omega) (splL_rise hB.2 hp.1 (by omega) hp.2.1 (Pos.behind hm hB.2))
    refine ⟨hbx, fun x hx hr => ?_, fun x hx => ?_, fun _ _ ha => ?_⟩
    · rw [splL_mem]
      obtain ⟨j, hj, rfl⟩ := mem_nthF.1 hx
      rcases Nat.lt_trichotomy j p with h | h | h
      · left; rw [nthF_eq hj]; exact List.mem_take_iff_getElem.2 ⟨j, by omega, rfl⟩
      · subst h; exact absurd hm'.2 hr
      · right; right; rw [nthF_eq hj]; exact List.mem_drop_iff_getElem.2 ⟨j - (p + 1), by omega, by congr 1; omega⟩
    · rcases splL_mem.1 hx with h | h | h
      · exact .inl (List.mem_of_mem_take h)
      · exact .inr h
      · exact .inl (List.mem_of_mem_drop h)
    · exact absurd hm'.2 (ha _ (mem_nthF.2 ⟨p, hm'.1, rfl⟩))
  | false =>
    by_cases h16 : 16 ≤ L.length
    · rw [putV_full hb hn hp hm h16]
      exact ⟨hb, fun x hx _ => hx, fun x hx => .inl hx, fun _ h => by omega⟩
    · rw [putV_new hb hn hp hm h16]
      have hbx : boxB (splL L p p [f]) = true := boxB_yes (by have := hp.1; rw [splL_len hp.1]; simp; omega) (splL_rise hB.2 hp.1 (by omega) hp.2.1 (hp.above hm hB.2))
      refine ⟨hbx, fun x hx hr => ?_, fun x hx => ?_, fun _ _ _ => ⟨rfl, ?_, ?_⟩⟩
      · rw [splL_mem]
        rcases (take_drop_mem (p := p)).1 hx with h | h
        · exact .inl h
        · exact .inr (.inr h)
      · rcases splL_mem.1 hx with h | h | h
        · exact .inl (List.mem_of_mem_take h)
        · exact .inr h
        · exact .inl (List.mem_of_mem_drop h)
      · rw [splL_mem]; exact .inr (.inl rfl)
      · have := hp.1; rw [splL_len hp.1]; simp; omega
theorem has_iff {L : List Frm} {f : Frm} (hb : boxB L = true) : hasB L f = true ↔ ∃ x ∈ L, rkF x = rkF f ∧ sameF x f = true := by
  have hB := boxB_iff.1 hb
  constructor
  · intro h
    unfold hasB at h
    rw [Bool.and_eq_true, metB_yes] at h
    exact ⟨_, mem_nthF.2 ⟨_, h.1.1, rfl⟩, h.1.2, h.2⟩
  · rintro ⟨x, hx, hr, hs⟩
    obtain ⟨j, hj, rfl⟩ := mem_nthF.1 hx
    rw [hasB_hit hB.2 hj hr]; exact hs
theorem out_mem {L : List Frm} {r : Int} {x : Frm} (h : boxB L = true) : x ∈ outV L r ↔ x ∈ L ∧ rkF x ≠ r := by
  rw [outV_ok r h, List.mem_filter]; simp [notR]
theorem out_len {L : List Frm} {f : Frm} (h : boxB L = true) (hf : f ∈ L) : (outV L (rkF f)).length + 1 = L.length := by
  obtain ⟨hl, hr⟩ := boxB_iff.1 h
  have hp := pos_at (r := rkF f) hr
  cases m : metB L (rkF f) (posN L (rkF f) L.length) with
  | true =>
    rw [outV_met h hp m, splL_len hp.1]
    have := (metB_yes.1 m).1
    simp; omega
  | false =>
    exfalso
    have e := outV_not h hp m
    have : f ∈ outV L (rkF f) := by rw [e]; exact hf
    exact ((out_mem h).1 this).2 rfl
/-- The rank that a node sends; what it does with a frame. -/
def sendV (n : Nd) : Int := if n.tx = false ∨ n.ph = 0 ∨ n.ph = 5 then -1 else rkF n.fr
def queN (n : Nd) (f : Frm) : Nd × Int := if frB f = true ∧ sendV n = rkF f then (n, 2) else ({ n with box := (putV n.box f).1 }, (putV n.box f).2)
theorem rk_neg {f : Frm} (h : frB f = false) : rkF f = -1 := by
  unfold rkF rankV
  rw [if_neg (by rw [show frOk f.id f.rm f.ln f.D = false from h]; decide)]
theorem rk_pos {f : Frm} (h : frB f = true) : 0 ≤ rkF f := by
  have hk : ¬ rankV f.id f.rm f.ln f.D < 0 := fun hk => by have := rankV_neg.1 hk; rw [show frOk f.id f.rm f.ln f.D = true from h] at this; cases this
  unfold rkF; omega
theorem que_right {n : Nd} {f : Frm} (h : nodeB n = true) : nodeB (queN n f).1 = true := by
  obtain ⟨R, W⟩ := right_iff.1 h
  obtain ⟨h1, h2, h3, -⟩ := put_facts f R.box
  unfold queN
  split
  · exact h
  · rename_i hc
    refine right_iff.2 ⟨⟨R.ph, R.run, R.last, R.pos, R.left, R.cnt, R.fr, R.size, R.got, h1, R.fifo, R.flt⟩, fun e => ?_⟩
    have e1 : n.ph = 1 := e
    have w := W e1
    refine ⟨w.some, w.run, w.half, fun ht => ?_⟩
    have ht' : n.tx = true := ht
    obtain ⟨p1, p2⟩ := w.tx ht'
    refine ⟨p1, ?_⟩
    obtain ⟨x, hx, hr, hs⟩ := (has_iff R.box).1 p2
    refine (has_iff h1).2 ⟨x, h2 x hx ?_, hr, hs⟩
    intro e2
    have hsv : sendV n = rkF n.fr := by unfold sendV; rw [if_neg]; rintro (k | k | k); rw [ht'] at k; cases k; omega; omega
    cases hf : frB f with
    | true => exact hc ⟨hf, by rw [hsv, ← hr, e2]⟩
    | false =>
      have a := rk_neg hf
      have b := rk_pos R.fr
      omega
end Go.Proofs.YtngcekegngmedaaGreat

/- The model's BusOk, l13Level and LevelOf. -/

set_option linter.unusedVariables false
set_option linter.unusedSimpArgs false
set_option maxRecDepth 20000
namespace Go.Proofs.YtngcekegngmedaaGreat
open Go.RowKit

/-- Is a bus right? -/
def busB (N : List Nd) (now : Int) : Bool := decide (2 ≤ N.length) && (decide (N.length ≤ 6) && (rng now 0 100000 && N.all nodeB))
theorem busB_iff {N : List Nd} {now : Int} : busB N now = true ↔ 2 ≤ N.length ∧ N.length ≤ 6 ∧ (0 ≤ now ∧ now ≤ 100000) ∧ ∀ n ∈ N, nodeB n = true := by
  simp [busB, rng_iff, List.all_eq_true]
theorem all_take_at {N : List Nd} {k : Nat} (h : k < N.length) (f : Nd → Bool) (ht : (N.take k).all f = true) : (N.take (k + 1)).all f = f (nthN N k) := by
  have e : N.take (k + 1) = N.take k ++ [nthN N k] := by
    rw [List.take_add_one, List.getElem?_eq_getElem h, nthN, List.getD_eq_getElem?_getD, List.getElem?_eq_getElem h]; rfl
  rw [e, List.all_append, ht]
  simp
theorem all_of_take {N : List Nd} {k : Nat} (f : Nd → Bool) (ht : (N.take k).all f = false) : N.all f = false := by
  rw [← List.take_append_drop k N, List.all_append, ht]; rfl
theorem any_take_at {N : List Nd} {k : Nat} (h : k < N.length) (f : Nd → Bool) (ht : (N.take k).any f = false) : (N.take (k + 1)).any f = f (nthN N k) := by
  have e : N.take (k + 1) = N.take k ++ [nthN N k] := by
    rw [List.take_add_one, List.getElem?_eq_getElem h, nthN, List.getD_eq_getElem?_getD, List.getElem?_eq_getElem h]; rfl
  rw [e, List.any_append, ht]
  simp
theorem any_of_take {N : List Nd} {k : Nat} (f : Nd → Bool) (ht : (N.take k).any f = true) : N.any f = true := by
  rw [← List.take_append_drop k N, List.any_append, ht]; rfl
theorem nthN_mem {N : List Nd} {k : Nat} (h : k < N.length) : nthN N k ∈ N := by rw [nthN_eq h]; exact List.getElem_mem h

/-- The level of right nodes. -/
def lvlN (N : List Nd) : Int := if N.any downB = true then 0 else 1
def levelN (N : List Nd) (now : Int) : Int := if busB N now = true then lvlN N else 1

/-- A bus laid in a block. -/
theorem one_made (w : World) (C : Array Value) (T : TypeId) : (w.alloc (.cells C T)).heap[w.heap.size]? = some (.cells C T (0, 0)) ∧ Below w.heap.size w (w.alloc (.cells C T)) :=
  ⟨heap_alloc_new w _, below_more (Below.refl _ w) _⟩

set_option maxHeartbeats 4000000 in
/-- spec.BusOk. -/
theorem specBusOk (R : NdP → Prop) (a : Option Addr) (N : List Nd) (c : Nat) (now : Int) (w : World) (hd : Nds R a N w) :
    Calls Tryz.prog 15 #[buV a N.length c now] w fun e w' => e = .returned (.bool (busB N now)) ∧ Below w.heap.size w w' := by
  have hm := hd.1
  unfold maxLen at hm
  have HV : Hid (busB N now = (decide (2 ≤ N.length) && (decide (N.length ≤ 6) && (rng now 0 100000 && N.all nodeB)))) := Lib.hid rfl
  obtain ⟨HC, B⟩ := one_made w (buC a N.length c now) 26
  have hb0 : ∀ b : Bool, decide (2 ≤ N.length ∧ N.length ≤ 6) = b → (decide ((2 : Int) ≤ (N.length : Int)) && decide ((N.length : Int) ≤ 6)) = b := by
    intro b h
    rw [← h]
    by_cases h2 : 2 ≤ N.length <;> by_cases h6 : N.length ≤ 6 <;> simp [h2, h6] <;> omega
  go_enter Tryz.func15, Tryz.ntmps15
  go_upto_region 1 with fail
  generalize World.alloc _ _ = W at HC B ⊢
  generalize w.heap.size = g1 at HC ⊢
  have c0 := cell_of_row W g1 0 _ _ _ HC
  have c1 := cell_of_row W g1 1 _ _ _ HC
  by_cases hL : 2 ≤ N.length ∧ N.length ≤ 6
  case neg =>
    have hb := hb0 false (decide_eq_false hL)
    have hv : busB N now = false := by
      rw [HV.out]
      by_cases h2 : 2 ≤ N.length
      · rw [decide_eq_false (show ¬ N.length ≤ 6 from fun h => hL ⟨h2, h⟩)]; simp
      · rw [decide_eq_false h2]; rfl
    clear hb0 hL
    go_wp2_with fail
    refine (l1In _ _ _ _).mono ?_
    rintro e w1 ⟨rfl, rfl⟩
    go_wp2_with fail
    go_ret
    exact ⟨by rw [hv]; rfl, B⟩
  have hb := hb0 true (decide_eq_true hL)
  have hv : busB N now = ((decide (0 ≤ now) && decide (now ≤ 100000)) && N.all nodeB) := by
    rw [HV.out, decide_eq_true hL.1, decide_eq_true hL.2]; rfl
  obtain ⟨hL2, hL6⟩ := hL
  clear hb0 HV
  cases hn : (decide (0 ≤ now) && decide (now ≤ 100000))
  · rw [hn, Bool.false_and] at hv
    go_wp2_with fail
    refine (l1In _ _ _ _).mono ?_
    rintro e w1 ⟨rfl, rfl⟩
    go_wp2_with fail
    refine (l1In _ _ _ _).mono ?_
    rintro e w1 ⟨rfl, rfl⟩
    go_wp2_with fail
    go_ret
    exact ⟨by rw [hv]; rfl, B⟩
  rw [hn, Bool.true_and] at hv
  go_wp2_with fail
  refine (l1In _ _ _ _).mono ?_
  rintro e w1 ⟨rfl, rfl⟩
  go_wp2_with fail
  refine (l1In _ _ _ _).mono ?_
  rintro e w1 ⟨rfl, rfl⟩
  go_wp2_with fail
  clear hn hb
  go_loopw [3] (fun i wr => ∃ k : Nat, k ≤ N.length ∧ i = .int .i64 k ∧ (N.take k).all nodeB = true ∧ wr.heap[g1]? = some (.cells (buC a N.length c now) 26 (0, 0)) ∧ Below w.heap.size w wr) (fun i _ => N.length - (intOf i).toNat)
  case atStart => exact ⟨0, Nat.zero_le _, rfl, rfl, HC, B⟩
  case round =>
    clear c0 c1 HC B
    obtain ⟨k, hk, rfl, ht, HC, B⟩ := hrel
    have c0 := cell_of_row _ g1 0 _ _ _ HC
    by_cases hlt : k < N.length
    · obtain ⟨g, o, p, rfl, hc, hnm, -⟩ := (hd.below B).2 k hlt
      have hs := all_take_at hlt nodeB ht
      generalize nthN N k = n at *
      go_wp2_with (refine rng_take hc rfl rfl rfl ?_)
      refine (specNodeOk n p _ hnm).mono ?_
      rintro e w2 ⟨rfl, b2⟩
      replace HC := (b2.block g1 (Array.getElem?_eq_some_iff.1 HC).1).trans HC
      replace B := Below.then2 B b2
      clear b2 hnm hc c0
      cases hok : nodeB n
      · rw [hok] at hs
        rw [all_of_take nodeB hs] at hv
        clear hs ht HC
        go_wp2_with fail
        go_ret
        exact ⟨by rw [hv]; rfl, B⟩
      · rw [hok] at hs
        clear hok ht
        go_wp2_with fail
        go_roundw
        case rel => exact ⟨k + 1, by omega, by go_num, hs, HC, B⟩
        case measure => simp [intOf]; omega
    · obtain rfl : k = N.length := by omega
      rw [List.take_length] at ht
      rw [ht] at hv
      clear ht
      go_wp2_with fail
      go_ret
      exact ⟨by rw [hv]; rfl, B⟩
end Go.Proofs.YtngcekegngmedaaGreat

/- Contracts of Sending, the program's and the model's. -/

set_option linter.unusedVariables false
set_option linter.unusedSimpArgs false
set_option maxRecDepth 20000
namespace Go.Proofs.YtngcekegngmedaaGreat
open Go.RowKit

theorem send_no {n : Nd} (h : n.tx = false ∨ n.ph = 0 ∨ n.ph = 5) : sendV n = -1 := if_pos h
theorem send_yes {n : Nd} (h1 : n.tx = true) (h2 : n.ph ≠ 0) (h3 : n.ph ≠ 5) : sendV n = rankV n.fr.id n.fr.rm n.fr.ln n.fr.D := if_neg fun h => by
  rcases h with h | h | h
  · rw [h1] at h; cases h
  · exact h2 h
  · exact h3 h
end Go.Proofs.YtngcekegngmedaaGreat
