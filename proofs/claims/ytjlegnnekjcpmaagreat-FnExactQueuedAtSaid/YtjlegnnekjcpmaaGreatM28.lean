/- The model's copy of a node. -/
import Derived.Test.YtjlegnnekjcpmaaGreatM26
import Derived.Test.YtjlegnnekjcpmaaGreatM10
import Derived.Test.YtjlegnnekjcpmaaGreatM14
import Derived.Test.YtjlegnnekjcpmaaGreatM13
import Derived.Test.YtjlegnnekjcpmaaGreatM18
import Derived.Test.YtjlegnnekjcpmaaGreatM20

set_option linter.unusedVariables false
set_option linter.unusedSimpArgs false
set_option maxRecDepth 20000
namespace Go.Proofs.YtjlegnnekjcpmaaGreat
open Go.RowKit

theorem OwnI.keptHi {B G : Nat} {D : List Int} {v : Value} {w w' : World} (h : OwnI B D v w) (k : w.grownBy w' (some G)) (hu : ∀ q, v.ownBlock = some q → q < G) : OwnI B D v w' := by
  refine h.kept k ?_
  cases e : v.ownBlock with
  | none => exact .inl rfl
  | some q => exact .inr fun h2 => by cases h2; have := hu _ e; omega
theorem OwnF.keptHi {B G : Nat} {M : List (Frm × Value)} {v : Value} {w w' : World} (h : OwnF B M v w) (k : w.grownBy w' (some G)) (hu : Under G M v) : OwnF B M v w' := by
  refine h.kept k ?_ fun m hm => ?_
  · cases e : v.ownBlock with
    | none => exact .inl rfl
    | some q => exact .inr fun h2 => by cases h2; have := hu.1 _ e; omega
  · cases e : m.2.ownBlock with
    | none => exact .inl rfl
    | some q => exact .inr fun h2 => by cases h2; have := hu.2 m hm _ e; omega
theorem bare_of {B n c : Nat} {M : List (Int × Int)} {a : Option Addr} {w : World} (h : OwnP B M (.slice a n c) w) : a = none → c = 0 := by
  intro e
  rcases h.2 with ⟨k, _⟩ | ⟨g, cap, cur, k, _⟩
  · cases k; rfl
  · subst e; cases k
theorem OwnP.up {B lo : Nat} {M : List (Int × Int)} {v : Value} {w u : World} (h : OwnP B M v w) (k : Up lo w u) (hB : lo ≤ B) : OwnP B M v u := by
  rcases h.2 with e | ⟨g, cap, cur, e, hb, hg, r⟩
  · exact ⟨h.1, .inl e⟩
  · exact ⟨h.1, .inr ⟨g, cap, cur, e, hb, (k.block g (by omega) (Array.getElem?_eq_some_iff.1 hg).1).trans hg, r⟩⟩

set_option maxHeartbeats 16000000 in
/-- spec.l11Copy. -/
theorem specCopy (n : Nd) (p : NdP) (w : World) (hm : NdM n p w) (hal : p.al = none → p.cl = 0) (hD : n.fr.D.length ≤ 1000) (hB : n.box.length ≤ 1000) (hB8 : ∀ j, j < n.box.length → (nthF n.box j).D.length ≤ 1000) (hF : n.fifo.length ≤ 1000) (hF8 : ∀ j, j < n.fifo.length → (nthF n.fifo j).D.length ≤ 1000) (hL : n.flt.length ≤ 1000) :
    Calls Tryz.prog 72 #[ndV n p] w fun e w' => ∃ p' : NdP, e = .returned (ndV n p') ∧ ((∀ u, Up w.heap.size w' u → NdM n p' u) ∧ (p'.al = none → p'.cl = 0)) ∧ Below w.heap.size w w' := by
  have X := N2.made2 (ndC n p) w
  go_enter Tryz.func72, Tryz.ntmps72
  go_upto_region 1 with fail
  generalize World.alloc _ _ = W at X ⊢
  generalize w.heap.size + 1 = gr at X ⊢
  generalize w.heap.size = g at X ⊢
  have c4 : W.cell? ⟨g, 4, none⟩ = some (.int .i64 n.fr.id) := X.cell 4
  have c5 : W.cell? ⟨g, 5, none⟩ = some (.bool n.fr.rm) := X.cell 5
  have c6 : W.cell? ⟨g, 6, none⟩ = some (.int .i64 n.fr.ln) := X.cell 6
  have c7 : W.cell? ⟨g, 7, none⟩ = some (.slice p.ad n.fr.D.length p.cd) := X.cell 7
  have l1 := X.lt
  have z1 := X.bel.size
  go_wp2_with fail
  refine (copyFr n.fr.id n.fr.rm n.fr.ln p.ad n.fr.D p.cd _ (hm.below X.bel).nums hD).mono ?_
  rintro e w2 ⟨ad, cd, rfl, OD, gg⟩
  have b := below_new gg
  replace X := X.below b
  clear b gg c4 c5 c6 c7
  have c4 : w2.cell? ⟨g, 4, none⟩ = some (.int .i64 n.fr.id) := X.cell 4
  have c5 : w2.cell? ⟨g, 5, none⟩ = some (.bool n.fr.rm) := X.cell 5
  have c6 : w2.cell? ⟨g, 6, none⟩ = some (.int .i64 n.fr.ln) := X.cell 6
  have c7 : w2.cell? ⟨g, 7, none⟩ = some (.slice p.ad n.fr.D.length p.cd) := X.cell 7
  have f4 := X.free 4
  have f5 := X.free 5
  have f6 := X.free 6
  have f7 := X.free 7
  go_upto_region 2 with fail
  clear c4 c5 c6 c7 f4 f5 f6 f7
  replace OD := OD.kept2 (grown_at_cell _ g 4 (.int .i64 n.fr.id)) l1.1
  replace OD := OD.kept2 (grown_at_cell _ g 5 (.bool n.fr.rm)) l1.1
  replace OD := OD.kept2 (grown_at_cell _ g 6 (.int .i64 n.fr.ln)) l1.1
  replace OD := OD.kept2 (grown_at_cell _ g 7 (.slice ad n.fr.D.length cd)) l1.1
  replace X : N2 g gr (ndC (n) { p with ad := ad, cd := cd }) w _ := ((((X.set 4 (.int .i64 n.fr.id)).set 5 (.bool n.fr.rm)).set 6 (.int .i64 n.fr.ln)).set 7 (.slice ad n.fr.D.length cd))
  generalize World.setCell _ _ _ = W3 at X OD ⊢
  have c15 : W3.cell? ⟨g, 15, none⟩ = some (.slice p.ab n.box.length p.cb) := X.cell 15
  have l3 := X.lt
  have z3 := X.bel.size
  go_wp2_with fail
  refine (copyAll p.ab n.box p.cb _ (hm.below X.bel).box hB hB8).mono ?_
  rintro e w4 ⟨MB, gb, cb, rfl, hMB, OB, b⟩
  replace X := X.below b
  replace OD := OD.below' b
  clear b c15
  have c15 : w4.cell? ⟨g, 15, none⟩ = some (.slice p.ab n.box.length p.cb) := X.cell 15
  have f15 := X.free 15
  go_upto_region 3 with fail
  clear c15 f15
  replace OD := OD.kept2 (grown_at_cell _ g 15 (.slice (some ⟨gb, 0, none⟩) n.box.length cb)) l1.1
  replace OB := OB.kept2 (grown_at_cell _ g 15 (.slice (some ⟨gb, 0, none⟩) n.box.length cb)) l3.1
  replace X : N2 g gr (ndC (n) { p with ad := ad, cd := cd, ab := some ⟨gb, 0, none⟩, cb := cb }) w _ := (X.set 15 (.slice (some ⟨gb, 0, none⟩) n.box.length cb))
  generalize World.setCell _ _ _ = W5 at X OD OB ⊢
  have c16 : W5.cell? ⟨g, 16, none⟩ = some (.slice p.af n.fifo.length p.cf) := X.cell 16
  have l5 := X.lt
  have z5 := X.bel.size
  go_wp2_with fail
  refine (copyAll p.af n.fifo p.cf _ (hm.below X.bel).fifo hF hF8).mono ?_
  rintro e w6 ⟨MF, gf, cf, rfl, hMF, OF, b⟩
  replace X := X.below b
  replace OD := OD.below' b
  replace OB := OB.below b
  clear b c16
  have c16 : w6.cell? ⟨g, 16, none⟩ = some (.slice p.af n.fifo.length p.cf) := X.cell 16
  have f16 := X.free 16
  go_upto_region 4 with fail
  clear c16 f16
  replace OD := OD.kept2 (grown_at_cell _ g 16 (.slice (some ⟨gf, 0, none⟩) n.fifo.length cf)) l1.1
  replace OB := OB.kept2 (grown_at_cell _ g 16 (.slice (some ⟨gf, 0, none⟩) n.fifo.length cf)) l3.1
  replace OF := OF.kept2 (grown_at_cell _ g 16 (.slice (some ⟨gf, 0, none⟩) n.fifo.length cf)) l5.1
  replace X : N2 g gr (ndC (n) { p with ad := ad, cd := cd, ab := some ⟨gb, 0, none⟩, cb := cb, af := some ⟨gf, 0, none⟩, cf := cf }) w _ := (X.set 16 (.slice (some ⟨gf, 0, none⟩) n.fifo.length cf))
  generalize World.setCell _ _ _ = W7 at X OD OB OF ⊢
  have l7 := X.lt
  have z7 := X.bel.size
  have uD := fun q hq => (OD.1.lt q hq).2
  have uB := OB.under
  have uF := OF.under
  have HG := heap_alloc_new W7 (.cells #[] 119)
  have bb := below_more (Below.refl W7.heap.size W7) (.cells #[] 119)
  have hG8 : W7.heap.size < (W7.alloc (.cells #[] 119)).heap.size := by simp
  replace X := X.below bb
  replace OD := OD.below' bb
  replace OB := OB.below bb
  replace OF := OF.below bb
  clear bb
  have HFl := (hm.below X.bel).flt
  have c17 : (W7.alloc (.cells #[] 119)).cell? ⟨g, 17, none⟩ = some (.slice p.al n.flt.length p.cl) := X.cell 17
  go_wp2_with (at_builtin; skip; refine wpList_newP _ _ (by rfl) (by rfl) W7.heap.size (by rfl) p.al n.flt p.cl (by rfl) HG HFl hal (by omega) ?_)
  intro al cl w8 OL gk
  clear c17 HG HFl
  have hz7 : W7.heap.size < (W7.alloc (.cells #[] 119)).heap.size := hG8
  replace X : N2 g gr (ndC n ({ p with ad := ad, cd := cd, ab := some ⟨gb, 0, none⟩, cb := cb, af := some ⟨gf, 0, none⟩, cf := cf })) w w8 := ⟨(gk.block g X.lt.1 (fun e => by cases e; omega)).trans X.blk, (gk.block gr X.lt.2 (fun e => by cases e; omega)).trans X.res, X.bel.grown gk X.bel.size (fun q e => by cases e; omega), X.hg, X.hr, X.nr⟩
  replace OD := OD.keptHi gk uD
  replace OB := OB.keptHi gk uB
  replace OF := OF.keptHi gk uF
  clear gk hG8 hz7 uD uB uF
  generalize W7.heap.size = g7 at *
  have c17 : w8.cell? ⟨g, 17, none⟩ = some (.slice p.al n.flt.length p.cl) := X.cell 17
  have f17 := X.free 17
  go_upto_region 5 with fail
  clear c17 f17
  replace OD := OD.kept2 (grown_at_cell _ g 17 (.slice al n.flt.length cl)) l1.1
  replace OB := OB.kept2 (grown_at_cell _ g 17 (.slice al n.flt.length cl)) l3.1
  replace OF := OF.kept2 (grown_at_cell _ g 17 (.slice al n.flt.length cl)) l5.1
  replace OL := OL.kept2 (grown_at_cell _ g 17 (.slice al n.flt.length cl)) l7.1
  replace X : N2 g gr (ndC (n) ⟨ad, cd, some ⟨gb, 0, none⟩, cb, some ⟨gf, 0, none⟩, cf, al, cl⟩) w _ := (X.set 17 (.slice al n.flt.length cl))
  generalize World.setCell _ _ _ = W9 at X OD OB OF OL ⊢
  obtain ⟨Z1, Z2, Z3⟩ := X.fin (ndC n (⟨ad, cd, some ⟨gb, 0, none⟩, cb, some ⟨gf, 0, none⟩, cf, al, cl⟩))
  replace OD := OD.kept2 Z2 l1.2
  replace OB := OB.kept2 Z2 l3.2
  replace OF := OF.kept2 Z2 l5.2
  replace OL := OL.kept2 Z2 l7.2
  clear Z2
  go_wp2_with (first | (refine Nx.take ⟨X.blk, X.bel⟩ rfl rfl rfl ?_) | (refine wpList_put X.res rfl rfl rfl rfl rfl ?_))
  refine bodyPost_ret (v := ndV n (⟨ad, cd, some ⟨gb, 0, none⟩, cb, some ⟨gf, 0, none⟩, cf, al, cl⟩)) ?_ rfl ⟨⟨ad, cd, some ⟨gb, 0, none⟩, cb, some ⟨gf, 0, none⟩, cf, al, cl⟩, rfl, ⟨fun u ku => ⟨(OD.up ku z1).nums2, (OB.up ku z3).frsOf hMB (by omega), (OF.up ku z5).frsOf hMF (by omega), ((OL.up ku z7).flsAt (by omega)).2, hm.size⟩, bare_of OL⟩, Z3⟩
  exact results_one Tryz.results72 _ _ gr _ rfl Z1 rfl
end Go.Proofs.YtjlegnnekjcpmaaGreat

/- The model's Queued. -/

set_option linter.unusedVariables false
set_option linter.unusedSimpArgs false
set_option maxRecDepth 20000
namespace Go.Proofs.YtjlegnnekjcpmaaGreat
open Go.RowKit

/-- What it answers stands wherever all blocks that it made do. -/
def QueY (N : Nd) (k : Int) (w : World) (e : Ending) (w' : World) : Prop :=
  ∃ p : NdP, e = .returned (.tuple #[ndV N p, .int .i64 k]) ∧ (∀ u, Up w.heap.size w' u → NdM N p u) ∧ Below w.heap.size w w' ∧ (p.al = none → p.cl = 0)
/-- The argument, and the copy. -/
structure QD (g gf gr go : Nat) (n : Nd) (p p2 : NdP) (f : Frm) (af : Option Addr) (cf : Nat) (lo : Nat) (V w0 u : World) : Prop where
  q : NQ g gf gr (ndC n p) (frC f af cf) w0 u
  m : NdM n p u
  s : Nums af f.D u
  o : u.heap[go]? = some (.cells (ndC n p2) 66 (0, 0))
  up : Up lo V u
section
variable {g gf gr go lo : Nat} {n : Nd} {p p2 : NdP} {f : Frm} {af : Option Addr} {cf : Nat} {V w0 u u' : World}
theorem QD.below (h : QD g gf gr go n p p2 f af cf lo V w0 u) (b : Below u.heap.size u u') : QD g gf gr go n p p2 f af cf lo V w0 u' :=
  ⟨h.q.below b, h.m.below b, h.s.below b, (b.block go (Array.getElem?_eq_some_iff.1 h.o).1).trans h.o, h.up.trans (Up.ofBelow b)⟩
theorem QD.drew (h : QD g gf gr go n p p2 f af cf lo V w0 u) : QD g gf gr go n p p2 f af cf lo V w0 u.drew := h.below (Below.refl _ _).drew
theorem QD.took (h : QD g gf gr go n p p2 f af cf lo V w0 u) {o : Oper} {a : Act} {x : Operand} (ho : o.op = .load 66 x) (hx : a.eval x = .pointer (some ⟨g, 0, none⟩)) : (execOp a.eval o).run Tryz.prog u = .ok (.value (ndV n p)) u := Nx.took (w0 := w0) ⟨h.q.blk, h.q.bel⟩ ho hx
theorem QD.cells (h : QD g gf gr go n p p2 f af cf lo V w0 u) : u.cell? ⟨gf, 0, none⟩ = some (.int .i64 f.id) ∧ u.cell? ⟨gf, 1, none⟩ = some (.bool f.rm) ∧ u.cell? ⟨gf, 2, none⟩ = some (.int .i64 f.ln) ∧ u.cell? ⟨gf, 3, none⟩ = some (.slice af f.D.length cf) := ⟨h.q.fcell 0, h.q.fcell 1, h.q.fcell 2, h.q.fcell 3⟩
end

theorem NQ.setOther {g gf gr go : Nat} {C F : Array Value} {w0 w : World} (h : NQ g gf gr C F w0 w) (k : Nat) (v : Value) (h0 : w0.heap.size ≤ go) (h1 : g ≠ go) (h2 : gf ≠ go) (h3 : gr ≠ go) : NQ g gf gr C F w0 (w.setCell ⟨go, k, none⟩ v) :=
  ⟨(heap_setCell_other w ⟨go, k, none⟩ g v h1).trans h.blk, (heap_setCell_other w ⟨go, k, none⟩ gf v h2).trans h.frm, (heap_setCell_other w ⟨go, k, none⟩ gr v h3).trans h.res, h.bel.setCell h0 _, h.hg, h.hf, h.hr, h.nf, h.nr, h.rf⟩
theorem Up.setAbove {B go : Nat} {w u : World} (h : Up B w u) (k : Nat) (v : Value) (hg : w.heap.size ≤ go) : Up B w (u.setCell ⟨go, k, none⟩ v) :=
  by
  have k2 := grown_at_cell u go k v
  exact ⟨Nat.le_trans h.size k2.size, fun q hq hl => (k2.block q (Nat.lt_of_lt_of_le hl h.size) (fun e => by cases e; omega)).trans (h.block q hq hl), k2.os.trans h.os, k2.tape.trans h.tape, k2.output.trans h.output⟩
set_option maxHeartbeats 16000000 in
/-- spec.Queued. -/
theorem specQueued (n : Nd) (p : NdP) (f : Frm) (af : Option Addr) (cf : Nat) (w : World) (hm : NdM n p w) (hal : p.al = none → p.cl = 0) (hn : Nums af f.D w) :
    Calls Tryz.prog 33 #[ndV n p, frV f.id f.rm f.ln af f.D.length cf] w (QueY (queA n f).1 (queA n f).2 w) := by
  have X := NQ.made (ndC n p) (frC f af cf) w
  go_enter Tryz.func33, Tryz.ntmps33
  go_upto_region 1 with fail
  generalize World.alloc _ _ = W at X ⊢
  generalize w.heap.size + 1 + 1 = gr at X ⊢
  generalize w.heap.size + 1 = gf at X ⊢
  generalize w.heap.size = g at X ⊢
  go_wp2_with (refine Nx.take ⟨X.blk, X.bel⟩ rfl rfl rfl ?_)
  refine (specNodeOk n p _ (hm.below X.bel)).mono ?_
  rintro e w2 ⟨rfl, b⟩
  replace X := X.below b
  clear b
  cases hok : nodeB n
  · have hA := Lib.hid (show queA n f = (znd [], 3) from if_neg (by rw [hok]; exact Bool.false_ne_true))
    clear hok
    go_wp2_with (refine wpList_put (n := znd []) (p := zp none 0) X.res rfl rfl rfl rfl rfl ?_)
    obtain ⟨Z1, Z3⟩ := X.fin (ndC (znd []) (zp none 0))
    refine bodyPost_ret (v := .tuple #[ndV (znd []) (zp none 0), .int .i64 3]) ?_ rfl ?_
    · exact results_num Tryz.results33 _ _ gr _ _ rfl rfl Z1 rfl
    · rw [hA.out]
      exact ⟨zp none 0, rfl, fun u _ => NdM.new (Fls.nil none _) 0, Z3, fun _ => rfl⟩
  have hA := Lib.hid (show queA n f = queN n f from if_pos hok)
  obtain ⟨s1, s2, s3, s4, s5, s6⟩ := small_1000 hok
  have h02 := X.bel.size
  replace hok := Lib.hid hok
  go_wp2_with (refine Nx.take ⟨X.blk, X.bel⟩ rfl rfl rfl ?_)
  refine (specCopy n p _ (hm.below X.bel) hal s1 s2 s3 s4 s5 s6).mono ?_
  rintro e w3 ⟨p3, rfl, hc, b⟩
  have l2 := X.lt
  replace X := X.below b
  have z3 := b.size
  clear b s1 s2 s3 s4 s5 s6
  have b := below_more (Below.refl w3.heap.size w3) (.cells (ndC n p3) 66)
  go_upto_region 4 with (skip; refine wpList_lay (w := w3) (n := n) (p := p3) (C := ndZ) (by rfl) (by rfl) (by rfl) (by rfl) (by rfl) (by rfl) ?_)
  have C : QD g gf gr w3.heap.size n p p3 f af cf w2.heap.size w3 w (w3.alloc (.cells (ndC n p3) 66)) := ⟨X.below b, hm.below (X.below b).bel, hn.below (X.below b).bel, heap_alloc_new w3 _, Up.ofBelow b⟩
  have hgo : w3.heap.size < (w3.alloc (.cells (ndC n p3) 66)).heap.size := by simp
  clear b X
  generalize w3.alloc _ = W3 at C hgo ⊢
  generalize hgo3 : w3.heap.size = go at *
  simp only [Act.put]
  cases hfb : frB f
  · have hQ : Hid (queN n f = ({ n with box := (putV n.box f).1 }, (putV n.box f).2)) := Lib.hid (if_neg (by rintro ⟨h, -⟩; rw [hfb] at h; cases h))
    have hfo : frOk f.id f.rm f.ln f.D = false := hfb
    clear hfb
    refine region_class (QD g gf gr go n p p3 f af cf w2.heap.size w3 w) (by kernel_rfl) (by kernel_rfl) C.drew ?_
    repeat first
      | go_big_quiet_skip
      | (go_big_quiet_want
         apply Exists.intro
         refine ⟨fun u hu => ?_, ?_⟩
         · exact quietAt_val (hu.took rfl rfl)
         simp only [Act.put, List.setIfInBounds_toArray, List.set_cons_zero, List.set_cons_succ]
         go_big_quiet_on)
      | (go_big_quiet_want
         apply Exists.intro
         refine ⟨fun u hu => ?_, ?_⟩
         · exact quietAt_val (frTookI (f := f) (af := af) (cf := cf) hu.q.frm rfl rfl)
         simp only [Act.put, List.setIfInBounds_toArray, List.set_cons_zero, List.set_cons_succ]
         go_big_quiet_on)
      | (go_big_quiet_want
         apply Exists.intro
         refine ⟨fun u hu => ?_, ?_⟩
         · apply quietAt_val
           obtain ⟨x0, x1, x2, x3⟩ := hu.cells
           go_simp
           rfl
         simp only [Act.put, List.setIfInBounds_toArray, List.set_cons_zero, List.set_cons_succ]
         go_big_quiet_on)
      | (go_big_quiet_want
         apply Exists.intro
         refine ⟨fun u hu => ?_, ?_⟩
         · apply quietAt_enter 73 #[frV f.id f.rm f.ln af f.D.length cf]
           · go_simp
           · refine (specFrameOk _ _ _ _ _ _ u hu.s).mono ?_
             rintro e w2 ⟨he, b2⟩
             rw [hfo] at he
             exact ⟨he, hu.below b2⟩
         simp only [Act.put, List.setIfInBounds_toArray, List.set_cons_zero, List.set_cons_succ]
         go_big_quiet_on)
    refine wpQuiet_nil ?_
    intro W4 C4
    clear C
    have c15 : W4.cell? ⟨g, 15, none⟩ = some (.slice p.ab n.box.length p.cb) := C4.q.cell 15
    obtain ⟨x0, x1, x2, x3⟩ := C4.cells
    go_wp2_with fail
    refine (show Calls _ _ _ _ (PutO (putV n.box f) _) from specPutIn p.ab n.box p.cb f.id f.rm f.ln af f.D cf _ C4.m.box C4.s).mono ?_
    rintro e w5 ⟨M, gb, cb, rfl, hM, OB, b⟩
    have C5 := C4.below b
    have l4 := C4.q.lt
    have q4 := (Array.getElem?_eq_some_iff.1 C4.o).1
    have hw4 := C4.q.bel.size
    clear b x0 x1 x2 x3 c15
    have o15 : w5.frozen? ⟨go, 15, none⟩ = false := frozen_of_row w5 go 15 _ _ C5.o
    have d15 : w5.cell? ⟨go, 15, none⟩ = some (.slice p3.ab n.box.length p3.cb) := cell_of_row w5 go 15 _ _ _ C5.o
    go_upto_region 8 with fail
    clear o15 d15
    have X := C5.q.setOther 15 (.slice (some ⟨gb, 0, none⟩) (putV n.box f).1.length cb) (show w.heap.size ≤ go by omega) (by omega) (by omega) (by omega)
    have O6 : (w5.setCell ⟨go, 15, none⟩ (.slice (some ⟨gb, 0, none⟩) (putV n.box f).1.length cb)).heap[go]? = some (.cells (ndC { n with box := (putV n.box f).1 } { p3 with ab := some ⟨gb, 0, none⟩, cb := cb }) 66 (0, 0)) := heap_setCell_same w5 go 15 _ _ (.slice (some ⟨gb, 0, none⟩) (putV n.box f).1.length cb) C5.o
    have U6 := C5.up.setAbove 15 (.slice (some ⟨gb, 0, none⟩) (putV n.box f).1.length cb) (Nat.le_of_eq hgo3)
    have B := OB.kept2 (grown_at_cell w5 go 15 (.slice (some ⟨gb, 0, none⟩) (putV n.box f).1.length cb)) q4
    generalize World.setCell w5 _ _ = W6 at X O6 U6 B ⊢
    clear C4 C5 OB
    go_wp2_with (first | (refine Nx.take ⟨O6, X.bel⟩ rfl rfl rfl ?_) | (refine wpList_put (n := { n with box := (putV n.box f).1 }) (p := { p3 with ab := some ⟨gb, 0, none⟩, cb := cb }) X.res rfl rfl rfl rfl rfl ?_))
    obtain ⟨Z1, Z3⟩ := X.fin (ndC { n with box := (putV n.box f).1 } { p3 with ab := some ⟨gb, 0, none⟩, cb := cb })
    refine bodyPost_ret (v := .tuple #[ndV { n with box := (putV n.box f).1 } { p3 with ab := some ⟨gb, 0, none⟩, cb := cb }, .int .i64 (putV n.box f).2]) ?_ rfl ?_
    · exact results_num Tryz.results33 _ _ gr _ _ rfl rfl Z1 rfl
    · rw [hA.out, hQ.out]
      have M7 := U6.grown (grown_setRow W6 gr (ndC { n with box := (putV n.box f).1 } { p3 with ab := some ⟨gb, 0, none⟩, cb := cb })) l2.2.2
      have B7 := B.kept2 (grown_setRow W6 gr (ndC { n with box := (putV n.box f).1 } { p3 with ab := some ⟨gb, 0, none⟩, cb := cb })) l4.2.2
      refine ⟨{ p3 with ab := some ⟨gb, 0, none⟩, cb := cb }, rfl, fun u ku => ?_, Z3, hc.2⟩
      have N := hc.1 u (M7.trans (ku.higher h02))
      have hp16 := (boxB_iff.1 (put_facts f (right_iff.1 hok.out).1.box).1).1
      exact ⟨N.nums, (B7.up ku hw4).frsOf hM (show (putV n.box f).1.length ≤ 2000000 by omega), N.fifo, N.flt, N.size⟩
  · by_cases hq : sendV n = rkF f
    · have hQ : Hid (queN n f = (n, 2)) := Lib.hid (if_pos ⟨hfb, hq⟩)
      have hfo : frOk f.id f.rm f.ln f.D = true := hfb
      have hq' : (sendV n == rankV f.id f.rm f.ln f.D) = true := beq_iff_eq.2 hq
      clear hfb hq
      refine region_class (QD g gf gr go n p p3 f af cf w2.heap.size w3 w) (by kernel_rfl) (by kernel_rfl) C.drew ?_
      repeat first
        | go_big_quiet_skip
        | (go_big_quiet_want
           apply Exists.intro
           refine ⟨fun u hu => ?_, ?_⟩
           · exact quietAt_val (hu.took rfl rfl)
           simp only [Act.put, List.setIfInBounds_toArray, List.set_cons_zero, List.set_cons_succ]
           go_big_quiet_on)
        | (go_big_quiet_want
           apply Exists.intro
           refine ⟨fun u hu => ?_, ?_⟩
           · exact quietAt_val (frTookI (f := f) (af := af) (cf := cf) hu.q.frm rfl rfl)
           simp only [Act.put, List.setIfInBounds_toArray, List.set_cons_zero, List.set_cons_succ]
           go_big_quiet_on)
        | (go_big_quiet_want
           apply Exists.intro
           refine ⟨fun u hu => ?_, ?_⟩
           · apply quietAt_val
             obtain ⟨x0, x1, x2, x3⟩ := hu.cells
             go_simp
             rfl
           simp only [Act.put, List.setIfInBounds_toArray, List.set_cons_zero, List.set_cons_succ]
           go_big_quiet_on)
        | (go_big_quiet_want
           apply Exists.intro
           refine ⟨fun u hu => ?_, ?_⟩
           · apply quietAt_enter 73 #[frV f.id f.rm f.ln af f.D.length cf]
             · go_simp
             · refine (specFrameOk _ _ _ _ _ _ u hu.s).mono ?_
               rintro e w2 ⟨he, b2⟩
               rw [hfo] at he
               exact ⟨he, hu.below b2⟩
           simp only [Act.put, List.setIfInBounds_toArray, List.set_cons_zero, List.set_cons_succ]
           go_big_quiet_on)
        | (go_big_quiet_want
           apply Exists.intro
           refine ⟨fun u hu => ?_, ?_⟩
           · apply quietAt_enter 75 #[frV f.id f.rm f.ln af f.D.length cf]
             · go_simp
             · refine (specRankOf _ _ _ _ _ _ u hu.s).mono ?_
               rintro e w2 ⟨rfl, b2⟩
               exact ⟨rfl, hu.below b2⟩
           simp only [Act.put, List.setIfInBounds_toArray, List.set_cons_zero, List.set_cons_succ]
           go_big_quiet_on)
        | (go_big_quiet_want
           apply Exists.intro
           refine ⟨fun u hu => ?_, ?_⟩
           · apply quietAt_enter 74 #[ndV n p]
             · go_simp
             · refine (specSending _ _ u hu.m).mono ?_
               rintro e w2 ⟨rfl, b2⟩
               exact ⟨rfl, hu.below b2⟩
           simp only [Act.put, List.setIfInBounds_toArray, List.set_cons_zero, List.set_cons_succ]
           go_big_quiet_on)
      refine wpQuiet_nil ?_
      intro W4 C4
      clear C
      have X := C4.q
      go_wp2_with (first | (refine Nx.take ⟨C4.o, X.bel⟩ rfl rfl rfl ?_) | (refine wpList_put (n := n) (p := p3) X.res rfl rfl rfl rfl rfl ?_))
      obtain ⟨Z1, Z3⟩ := X.fin (ndC n p3)
      refine bodyPost_ret (v := .tuple #[ndV n p3, .int .i64 2]) ?_ rfl ?_
      · exact results_num Tryz.results33 _ _ gr _ _ rfl rfl Z1 rfl
      · rw [hA.out, hQ.out]
        refine ⟨p3, rfl, fun u ku => hc.1 u ?_, Z3, hc.2⟩
        exact (C4.up.grown (grown_setRow W4 gr (ndC n p3)) l2.2.2).trans (ku.higher h02)
    · have hQ : Hid (queN n f = ({ n with box := (putV n.box f).1 }, (putV n.box f).2)) := Lib.hid (if_neg (by rintro ⟨-, h⟩; exact hq h))
      have hfo : frOk f.id f.rm f.ln f.D = true := hfb
      have hq' : (sendV n == rankV f.id f.rm f.ln f.D) = false := beq_eq_false_iff_ne.2 hq
      clear hfb hq
      refine region_class (QD g gf gr go n p p3 f af cf w2.heap.size w3 w) (by kernel_rfl) (by kernel_rfl) C.drew ?_
      repeat first
        | go_big_quiet_skip
        | (go_big_quiet_want
           apply Exists.intro
           refine ⟨fun u hu => ?_, ?_⟩
           · exact quietAt_val (hu.took rfl rfl)
           simp only [Act.put, List.setIfInBounds_toArray, List.set_cons_zero, List.set_cons_succ]
           go_big_quiet_on)
        | (go_big_quiet_want
           apply Exists.intro
           refine ⟨fun u hu => ?_, ?_⟩
           · exact quietAt_val (frTookI (f := f) (af := af) (cf := cf) hu.q.frm rfl rfl)
           simp only [Act.put, List.setIfInBounds_toArray, List.set_cons_zero, List.set_cons_succ]
           go_big_quiet_on)
        | (go_big_quiet_want
           apply Exists.intro
           refine ⟨fun u hu => ?_, ?_⟩
           · apply quietAt_val
             obtain ⟨x0, x1, x2, x3⟩ := hu.cells
             go_simp
             rfl
           simp only [Act.put, List.setIfInBounds_toArray, List.set_cons_zero, List.set_cons_succ]
           go_big_quiet_on)
        | (go_big_quiet_want
           apply Exists.intro
           refine ⟨fun u hu => ?_, ?_⟩
           · apply quietAt_enter 73 #[frV f.id f.rm f.ln af f.D.length cf]
             · go_simp
             · refine (specFrameOk _ _ _ _ _ _ u hu.s).mono ?_
               rintro e w2 ⟨he, b2⟩
               rw [hfo] at he
               exact ⟨he, hu.below b2⟩
           simp only [Act.put, List.setIfInBounds_toArray, List.set_cons_zero, List.set_cons_succ]
           go_big_quiet_on)
        | (go_big_quiet_want
           apply Exists.intro
           refine ⟨fun u hu => ?_, ?_⟩
           · apply quietAt_enter 75 #[frV f.id f.rm f.ln af f.D.length cf]
             · go_simp
             · refine (specRankOf _ _ _ _ _ _ u hu.s).mono ?_
               rintro e w2 ⟨rfl, b2⟩
               exact ⟨rfl, hu.below b2⟩
           simp only [Act.put, List.setIfInBounds_toArray, List.set_cons_zero, List.set_cons_succ]
           go_big_quiet_on)
        | (go_big_quiet_want
           apply Exists.intro
           refine ⟨fun u hu => ?_, ?_⟩
           · apply quietAt_enter 74 #[ndV n p]
             · go_simp
             · refine (specSending _ _ u hu.m).mono ?_
               rintro e w2 ⟨rfl, b2⟩
               exact ⟨rfl, hu.below b2⟩
           simp only [Act.put, List.setIfInBounds_toArray, List.set_cons_zero, List.set_cons_succ]
           go_big_quiet_on)
      refine wpQuiet_nil ?_
      intro W4 C4
      clear C
      have c15 : W4.cell? ⟨g, 15, none⟩ = some (.slice p.ab n.box.length p.cb) := C4.q.cell 15
      obtain ⟨x0, x1, x2, x3⟩ := C4.cells
      go_wp2_with fail
      refine (show Calls _ _ _ _ (PutO (putV n.box f) _) from specPutIn p.ab n.box p.cb f.id f.rm f.ln af f.D cf _ C4.m.box C4.s).mono ?_
      rintro e w5 ⟨M, gb, cb, rfl, hM, OB, b⟩
      have C5 := C4.below b
      have l4 := C4.q.lt
      have q4 := (Array.getElem?_eq_some_iff.1 C4.o).1
      have hw4 := C4.q.bel.size
      clear b x0 x1 x2 x3 c15
      have o15 : w5.frozen? ⟨go, 15, none⟩ = false := frozen_of_row w5 go 15 _ _ C5.o
      have d15 : w5.cell? ⟨go, 15, none⟩ = some (.slice p3.ab n.box.length p3.cb) := cell_of_row w5 go 15 _ _ _ C5.o
      go_upto_region 8 with fail
      clear o15 d15
      have X := C5.q.setOther 15 (.slice (some ⟨gb, 0, none⟩) (putV n.box f).1.length cb) (show w.heap.size ≤ go by omega) (by omega) (by omega) (by omega)
      have O6 : (w5.setCell ⟨go, 15, none⟩ (.slice (some ⟨gb, 0, none⟩) (putV n.box f).1.length cb)).heap[go]? = some (.cells (ndC { n with box := (putV n.box f).1 } { p3 with ab := some ⟨gb, 0, none⟩, cb := cb }) 66 (0, 0)) := heap_setCell_same w5 go 15 _ _ (.slice (some ⟨gb, 0, none⟩) (putV n.box f).1.length cb) C5.o
      have U6 := C5.up.setAbove 15 (.slice (some ⟨gb, 0, none⟩) (putV n.box f).1.length cb) (Nat.le_of_eq hgo3)
      have B := OB.kept2 (grown_at_cell w5 go 15 (.slice (some ⟨gb, 0, none⟩) (putV n.box f).1.length cb)) q4
      generalize World.setCell w5 _ _ = W6 at X O6 U6 B ⊢
      clear C4 C5 OB
      go_wp2_with (first | (refine Nx.take ⟨O6, X.bel⟩ rfl rfl rfl ?_) | (refine wpList_put (n := { n with box := (putV n.box f).1 }) (p := { p3 with ab := some ⟨gb, 0, none⟩, cb := cb }) X.res rfl rfl rfl rfl rfl ?_))
      obtain ⟨Z1, Z3⟩ := X.fin (ndC { n with box := (putV n.box f).1 } { p3 with ab := some ⟨gb, 0, none⟩, cb := cb })
      refine bodyPost_ret (v := .tuple #[ndV { n with box := (putV n.box f).1 } { p3 with ab := some ⟨gb, 0, none⟩, cb := cb }, .int .i64 (putV n.box f).2]) ?_ rfl ?_
      · exact results_num Tryz.results33 _ _ gr _ _ rfl rfl Z1 rfl
      · rw [hA.out, hQ.out]
        have M7 := U6.grown (grown_setRow W6 gr (ndC { n with box := (putV n.box f).1 } { p3 with ab := some ⟨gb, 0, none⟩, cb := cb })) l2.2.2
        have B7 := B.kept2 (grown_setRow W6 gr (ndC { n with box := (putV n.box f).1 } { p3 with ab := some ⟨gb, 0, none⟩, cb := cb })) l4.2.2
        refine ⟨{ p3 with ab := some ⟨gb, 0, none⟩, cb := cb }, rfl, fun u ku => ?_, Z3, hc.2⟩
        have N := hc.1 u (M7.trans (ku.higher h02))
        have hp16 := (boxB_iff.1 (put_facts f (right_iff.1 hok.out).1.box).1).1
        exact ⟨N.nums, (B7.up ku hw4).frsOf hM (show (putV n.box f).1.length ≤ 2000000 by omega), N.fifo, N.flt, N.size⟩
end Go.Proofs.YtjlegnnekjcpmaaGreat

/- A region that draws its order, one operation after another: each operation is told as it is written (out of the list of operations: out of the array it stays unread, and all that follows grows slow). -/

set_option linter.unusedVariables false
set_option linter.unusedSimpArgs false
set_option maxRecDepth 20000
namespace Go.Proofs.YtjlegnnekjcpmaaGreat
open Go.RowKit
section
variable {P : Program} {md : Region.Mode} {ops : Array Oper} {Q : Exit → Act → World → Prop} {S : World → Prop} {fuel : Nat} {listed : Array Bool} {a : Act} {w : World} {oi : Oper}
theorem op_at {i : Nat} (hi : ops.toList[i]? = some oi) : ops[i]? = some oi := by rw [← Array.getElem?_toList]; exact hi
theorem h_take (i d : Nat) (v : Value) (hi : ops.toList[i]? = some oi) (hd : oi.dst = some d) (hs : Region.noSelect ops = true) (hf : Region.free md ops listed i = true) (hr : (Region.ready md ops listed).contains i = true)
    (hQ : ∀ c a w, Q (.panic c) (a.put (some d) v) w → Q (.panic c) a w) (hw : Region.wanted oi (yielded ops a.tmps) = true) (hx : ∀ u, S u → (execOp a.eval oi).run P u = .ok (.value v) u) (hS : S w)
    (h : wpAnyH P md ops Q S fuel (listed.setIfInBounds i true) (a.put (some d) v) w) : wpAnyH P md ops Q S (fuel + 1) listed a w :=
  wpAnyH_take (op_at hi) hs hf hr (by rw [hd]; exact hQ) (.inl ⟨hw, hx⟩) hS (by rw [hd]; exact h)
theorem h_call (i d : Nat) (f : FuncId) (args : Array Value) (hi : ops.toList[i]? = some oi) (hd : oi.dst = some d) (hr : Region.ready md ops listed = [i]) (hw : Region.wanted oi (yielded ops a.tmps) = true) (hx : (execOp a.eval oi).run P w = .ok (.enter f args) w)
    (h : Calls P f args w fun e w' => ∃ v, e = .returned v ∧ S w' ∧ wpAnyH P md ops Q S fuel (listed.setIfInBounds i true) (a.put (some d) v) w') : wpAnyH P md ops Q S (fuel + 1) listed a w :=
  held_call i f args (op_at hi) hr hw hx (by rw [hd]; exact h)
theorem h_new (i d : Nat) (v : Value) (w2 : World) (hi : ops.toList[i]? = some oi) (hd : oi.dst = some d) (hr : Region.ready md ops listed = [i]) (hw : Region.wanted oi (yielded ops a.tmps) = true) (hx : (execOp a.eval oi).run P w = .ok (.value v) w2)
    (k : S w2 ∧ wpAnyH P md ops Q S fuel (listed.setIfInBounds i true) (a.put (some d) v) w2) : wpAnyH P md ops Q S (fuel + 1) listed a w := by
  refine held_op i (op_at hi) hr hw ?_
  unfold Oper.wp
  rw [hx]
  rw [← hd] at k
  exact k
theorem h_value (i d : Nat) (v : Value) (hi : ops.toList[i]? = some oi) (hd : oi.dst = some d) (hr : Region.ready md ops listed = [i]) (hw : Region.wanted oi (yielded ops a.tmps) = true) (hx : (execOp a.eval oi).run P w = .ok (.value v) w) (hS : S w)
    (k : wpAnyH P md ops Q S fuel (listed.setIfInBounds i true) (a.put (some d) v) w) : wpAnyH P md ops Q S (fuel + 1) listed a w := h_new i d v w hi hd hr hw hx ⟨hS, k⟩
theorem h_store (i : Nat) (w2 : World) (hi : ops.toList[i]? = some oi) (hd : oi.dst = none) (hr : Region.ready md ops listed = [i]) (hw : Region.wanted oi (yielded ops a.tmps) = true) (hx : (execOp a.eval oi).run P w = .ok .skip w2)
    (k : S w2 ∧ wpAnyH P md ops Q S fuel (listed.setIfInBounds i true) a w2) : wpAnyH P md ops Q S (fuel + 1) listed a w := by
  refine held_op i (op_at hi) hr hw ?_
  unfold Oper.wp
  rw [hx]
  show S w2 ∧ wpAnyH P md ops Q S fuel (listed.setIfInBounds i true) (a.put oi.dst undef) w2
  rw [hd]
  exact k
end
end Go.Proofs.YtjlegnnekjcpmaaGreat

/- The walk of laws.FnExactQueued. -/

set_option linter.unusedVariables false
set_option linter.unusedSimpArgs false
namespace Go.Proofs.YtjlegnnekjcpmaaGreat
open Go.RowKit

theorem held_put {md : Region.Mode} {ops : Array Oper} {Q : Exit → Act → World → Prop} {S : World → Prop} (i g : Nat) {oi : Oper} {fuel : Nat} {listed : Array Bool} {a : Act} {w : World} {n : Nd} {p : NdP} {x y : Operand} {C : Array Value}
    (hi : ops[i]? = some oi) (hr : Region.ready md ops listed = [i]) (hw : Region.wanted oi (yielded ops a.tmps) = true) (hd : oi.dst = none) (ho : oi.op = .store 66 x y) (hx : a.eval x = .pointer (some ⟨g, 0, none⟩)) (hy : a.eval y = ndV n p)
    (hg : w.heap[g]? = some (.cells C 66 (0, 0))) (hC : C.size = 18) (hS : S (w.setRow g (ndC n p)))
    (k : wpAnyH Tryz.prog md ops Q S fuel (listed.setIfInBounds i true) a (w.setRow g (ndC n p))) : wpAnyH Tryz.prog md ops Q S (fuel + 1) listed a w := by
  refine held_op i hi hr hw (wp_store_row 66 x y ho g (ndC n p) hx hy 66 C hg (by kernel_rfl) (hC.trans rfl) (ndC_one n p) ⟨hS, ?_⟩)
  rw [hd]
  exact k
theorem Up.rowAbove {B g : Nat} {w u : World} (h : Up B w u) (D : Array Value) (hg : w.heap.size ≤ g) : Up B w (u.setRow g D) := by
  have k2 := grown_setRow u g D
  exact ⟨Nat.le_trans h.size k2.size, fun q hq hl => (k2.block q (Nat.lt_of_lt_of_le hl h.size) (fun e => by cases e; omega)).trans (h.block q hq hl), k2.os.trans h.os, k2.tape.trans h.tape, k2.output.trans h.output⟩
theorem queA_room (n : Nd) (f : Frm) : roomN (queA n f).1 ≤ 600 := by
  unfold queA
  split
  · rename_i h; exact roomN_right (que_right h)
  · rw [roomN_zero]; omega
theorem ownLtI {B : Nat} {D : List Int} {v : Value} {w : World} (h : OwnI B D v w) : ∀ q, v.ownBlock = some q → q < w.heap.size := fun q hq => (h.1.lt q hq).2

set_option maxHeartbeats 32000000 in
set_option maxRecDepth 20000 in
theorem walkFnExactQueued (n : Nd) (p : NdP) (f : Frm) (af : Option Addr) (cf : Nat) (w : World) (hm : NdM n p w) (hn : Nums af f.D w) :
    Calls Tryz.prog 7 #[ndV n p, frV f.id f.rm f.ln af f.D.length cf] w fun e w' => e = .returned (.bool true) ∧ Below w.heap.size w w' := by
  have Y := Yf.made n p f af cf w
  go_enter Tryz.func7, Tryz.ntmps7
  go_upto_region 1 with fail
  generalize World.alloc _ _ = W at Y ⊢
  generalize w.heap.size + 1 = gb at Y ⊢
  generalize w.heap.size = ga at Y ⊢
  go_wp2_with (refine Y.ny.take rfl rfl rfl ?_)
  refine (szNodeAny n p 1048576 _ (hm.below Y.bel) (by omega) (by omega)).mono ?_
  rintro e w1 ⟨hz | hz, b⟩
  case inr =>
    obtain ⟨hz, rfl⟩ := hz
    have hb := Below.then2 Y.bel b
    go_wp2_with fail
    go_ret
    exact ⟨rfl, hb⟩
  obtain ⟨hz, rfl⟩ := hz
  replace Y := Y.below b
  clear b
  have hs : roomN n ≤ 1048576 := by omega
  have hl0 : 0 ≤ (1048576 : Int) - roomN n := by omega
  have hl1 : (1048576 : Int) - roomN n ≤ 1048576 := by omega
  have hl2 : ¬ (1048576 : Int) - roomN n < 0 := by omega
  clear hz
  generalize (1048576 : Int) - roomN n = left at hl0 hl1 hl2 ⊢
  go_wp2_with (refine frTake (f := f) (af := af) (cf := cf) Y.fr rfl rfl rfl ?_)
  refine (szFrAny f af cf left _ (hn.below Y.bel) hl0 hl1).mono ?_
  rintro e w2 ⟨hz | hz, b⟩
  case inr =>
    obtain ⟨hz, rfl⟩ := hz
    have hb := Below.then2 Y.bel b
    go_wp2_with fail
    go_ret
    exact ⟨rfl, hb⟩
  obtain ⟨hz, rfl⟩ := hz
  replace Y := Y.below b
  clear b
  have hD : f.D.length ≤ 1048576 := by omega
  have hl3 : ¬ left - f.D.length < 0 := by omega
  clear hz hl0 hl1 hl2
  generalize left - f.D.length = left2 at hl3 ⊢
  have hN := queA_room n f
  obtain ⟨N, k, hr⟩ : ∃ N k, queA n f = (N, k) := ⟨_, _, rfl⟩
  rw [hr] at hN
  dsimp only at hN
  have HS := Lib.hid (fun p a c w (h1 : NdM n p w) (h2 : p.al = none → p.cl = 0) (h3 : Nums a f.D w) => show Calls _ _ _ _ (QueY N k w) from (specQueued n p f a c w h1 h2 h3).mono (fun e w' h => by rw [hr] at h; exact h))
  have HI := Lib.hid (fun p a c w (h1 : NdM n p w) (h3 : Nums a f.D w) => show Calls _ _ _ _ (QueO N k w) from (implQueued n p f a c w h1 h3).mono (fun e w' h => by rw [hr] at h; exact h))
  clear hr
  replace hN : roomN N ≤ 1048576 := by omega
  obtain ⟨K0, K1⟩ := k4N_bd (k := 1) (n := N) (by omega) (by omega) hN
  have hk1 : ¬ k4N 1 N < 0 := by omega
  have hk1' : decide (k4N 1 N < 0) = false := decide_eq_false hk1
  obtain ⟨J0, J1⟩ := k4N_bd (k := 1) (n := n) (by omega) (by omega) hs
  have hj1 : ¬ k4N 1 n + (f.D.length : Int) < 0 := by omega
  have hj1' : decide (k4N 1 n + (f.D.length : Int) < 0) = false := decide_eq_false hj1
  go_upto_region 8 with fail
  go_cut [6, 7] (fun s6 s7 wx => ∃ (g : Nat) (p2 : NdP), s6 = .pointer (some ⟨g, 0, none⟩) ∧ s7 = .int .i64 k ∧ wx.heap[g]? = some (.cells (ndC N p2) 66 (0, 0)) ∧ NdM N p2 wx ∧ Below w2.heap.size w2 wx)
  case first =>
    refine wp_region_held (S := fun u => Yf ga gb n p f af cf w u) (by kernel_rfl) ?_
    have B0 : Below w2.heap.size w2 { w2 with drawn := w2.drawn + 1 } := (Below.refl _ _).drew
    generalize ({ w2 with drawn := w2.drawn + 1 } : World) = v0 at B0 ⊢
    refine wpAnyH_take (i := 0) (v := ndV n p) (op_at rfl) (by kernel_rfl) (by kernel_rfl) (by kernel_rfl) (fun _ _ _ h => h) (.inl ⟨rfl, fun u hu => hu.ny.took rfl rfl⟩) (Y.below B0) ?_
    refine wpAnyH_take (i := 2) (v := frV f.id f.rm f.ln af f.D.length cf) (op_at rfl) (by kernel_rfl) (by kernel_rfl) (by kernel_rfl) (fun _ _ _ h => h) (.inl ⟨rfl, fun u hu => frTook (f := f) (af := af) (cf := cf) hu.fr rfl rfl⟩) (Y.below B0) ?_
    try simp only [Act.put, List.setIfInBounds_toArray, List.set_cons_zero, List.set_cons_succ]
    refine held_fork 1 8 (by kernel_rfl) (op_at rfl) (op_at rfl) rfl rfl ?_ ?_
    · refine call_wp 34 #[ndV n p] (by go_simp) ?_
      refine (toNodeOwn n p _ (hm.below (Y.below B0).bel) hs).mono ?_
      rintro e u1 ⟨p1, _, _, _, _, _, rfl, O1, b⟩
      replace B0 := Below.then2 B0 b
      have P1 := O1.ndm hs
      have L1 := O1.flt.bare
      clear b O1
      refine ⟨_, rfl, (Y.below B0), ?_⟩
      try simp only [Act.put, List.setIfInBounds_toArray, List.set_cons_zero, List.set_cons_succ]
      refine held_fork 3 8 (by kernel_rfl) (op_at rfl) (op_at rfl) rfl rfl ?_ ?_
      · refine call_wp 28 #[frV f.id f.rm f.ln af f.D.length cf] (by go_simp) ?_
        refine (toFrOwn f.id f.rm f.ln af f.D cf _ (hn.below (Y.below B0).bel) hD).mono ?_
        rintro e u2 ⟨a1, rfl, O3, b⟩
        replace B0 := Below.then2 B0 b
        replace P1 := P1.below b
        have N1 := O3.nums2
        clear b O3
        refine ⟨_, rfl, (Y.below B0), ?_⟩
        try simp only [Act.put, List.setIfInBounds_toArray, List.set_cons_zero, List.set_cons_succ]
        refine held_fork 4 8 (by kernel_rfl) (op_at rfl) (op_at rfl) rfl rfl ?_ ?_
        · refine call_wp 33 #[ndV n p1, frV f.id f.rm f.ln a1 f.D.length f.D.length] (by go_simp) ?_
          refine (HS.out p1 a1 f.D.length _ P1 L1 N1).mono ?_
          rintro e u3 ⟨p2, rfl, hc, b, -⟩
          replace B0 := Below.then2 B0 b
          clear b
          refine ⟨_, rfl, (Y.below B0), ?_⟩
          try simp only [Act.put, List.setIfInBounds_toArray, List.set_cons_zero, List.set_cons_succ]
          refine wpAnyH_take (i := 5) (v := .tuple #[ndV N p2, .int .i64 k]) (op_at rfl) (by kernel_rfl) (by kernel_rfl) (by kernel_rfl) (fun _ _ _ h => h) (.inl ⟨rfl, fun u hu => by go_simp⟩) (Y.below B0) ?_
          try simp only [Act.put, List.setIfInBounds_toArray, List.set_cons_zero, List.set_cons_succ]
          refine wpAnyH_take (i := 6) (v := ndV N p2) (op_at rfl) (by kernel_rfl) (by kernel_rfl) (by kernel_rfl) (fun _ _ _ h => h) (.inl ⟨rfl, fun u hu => by go_simp⟩) (Y.below B0) ?_
          try simp only [Act.put, List.setIfInBounds_toArray, List.set_cons_zero, List.set_cons_succ]
          refine wpAnyH_take (i := 7) (v := .int .i64 k) (op_at rfl) (by kernel_rfl) (by kernel_rfl) (by kernel_rfl) (fun _ _ _ h => h) (.inl ⟨rfl, fun u hu => by go_simp⟩) (Y.below B0) ?_
          try simp only [Act.put, List.setIfInBounds_toArray, List.set_cons_zero, List.set_cons_succ]
          refine held_op 8 (op_at rfl) (by kernel_rfl) rfl ?_
          refine value_wp (.pointer (some ⟨u3.heap.size, 0, none⟩)) (u3.alloc (.cells ndZ 66)) (by go_simp) ?_
          have AL := heap_alloc_new u3 (.cells ndZ 66)
          have b := below_more (Below.refl u3.heap.size u3) (.cells ndZ 66)
          have hg0 : w2.heap.size ≤ u3.heap.size := B0.size
          replace B0 := Below.then2 B0 b
          have hup := fun B => Up.ofBelow (B := B) b
          clear b
          have ltal := (Array.getElem?_eq_some_iff.1 AL).1
          generalize u3.alloc _ = u4 at B0 AL ltal hup ⊢
          generalize hgal : u3.heap.size = gal at AL ltal hg0 ⊢
          have hal := Nat.le_of_eq hgal
          refine ⟨Y.below B0, ?_⟩
          try simp only [Act.put, List.setIfInBounds_toArray, List.set_cons_zero, List.set_cons_succ]
          have B1 : Below w2.heap.size w2 (u4.setRow gal (ndC N p2)) := below_setRow B0 hg0 (ndC N p2)
          refine held_put 9 gal (op_at rfl) (by kernel_rfl) rfl rfl rfl rfl rfl AL rfl (Y.below B1) ?_
          try simp only [Act.put, List.setIfInBounds_toArray, List.set_cons_zero, List.set_cons_succ]
          have M2 : NdM N p2 (u4.setRow gal (ndC N p2)) := hc _ ((hup _).rowAbove (ndC N p2) hal)
          have AR : (u4.setRow gal (ndC N p2)).heap[gal]? = some (.cells (ndC N p2) 66 (0, 0)) := setRow_heap _ _ _ _ _ _ AL
          refine held_value 10 (.int .i64 k) (op_at rfl) (by kernel_rfl) rfl (by go_simp) (Y.below B1) ?_
          refine wpAnyH_done (by kernel_rfl) ?_ _
          try simp only [Act.put, List.setIfInBounds_toArray, List.set_cons_zero, List.set_cons_succ]
          clear hc AL ltal hal
          go_wp2_with fail
          go_meet
          exact ⟨gal, p2, rfl, rfl, AR, M2, B1⟩
        · refine value_wp (.pointer (some ⟨u2.heap.size, 0, none⟩)) (u2.alloc (.cells ndZ 66)) (by go_simp) ?_
          have AL := heap_alloc_new u2 (.cells ndZ 66)
          have b := below_more (Below.refl u2.heap.size u2) (.cells ndZ 66)
          have hg0 : w2.heap.size ≤ u2.heap.size := B0.size
          replace B0 := Below.then2 B0 b
          replace P1 := P1.below b
          replace N1 := N1.below b
          clear b
          have ltal := (Array.getElem?_eq_some_iff.1 AL).1
          generalize u2.alloc _ = u5 at B0 AL ltal P1 N1 ⊢
          generalize hgal : u2.heap.size = gal at AL ltal hg0 ⊢
          refine ⟨Y.below B0, ?_⟩
          try simp only [Act.put, List.setIfInBounds_toArray, List.set_cons_zero, List.set_cons_succ]
          refine held_op 4 (op_at rfl) (by kernel_rfl) rfl ?_
          have hal := ltal
          refine call_wp 33 #[ndV n p1, frV f.id f.rm f.ln a1 f.D.length f.D.length] (by go_simp) ?_
          refine (HS.out p1 a1 f.D.length _ P1 L1 N1).mono ?_
          rintro e u6 ⟨p2, rfl, hc, b, -⟩
          replace B0 := Below.then2 B0 b
          replace AL := (b.block _ ltal).trans AL
          replace ltal := Nat.lt_of_lt_of_le ltal b.size
          clear b
          refine ⟨_, rfl, (Y.below B0), ?_⟩
          try simp only [Act.put, List.setIfInBounds_toArray, List.set_cons_zero, List.set_cons_succ]
          refine wpAnyH_take (i := 5) (v := .tuple #[ndV N p2, .int .i64 k]) (op_at rfl) (by kernel_rfl) (by kernel_rfl) (by kernel_rfl) (fun _ _ _ h => h) (.inl ⟨rfl, fun u hu => by go_simp⟩) (Y.below B0) ?_
          try simp only [Act.put, List.setIfInBounds_toArray, List.set_cons_zero, List.set_cons_succ]
          refine wpAnyH_take (i := 6) (v := ndV N p2) (op_at rfl) (by kernel_rfl) (by kernel_rfl) (by kernel_rfl) (fun _ _ _ h => h) (.inl ⟨rfl, fun u hu => by go_simp⟩) (Y.below B0) ?_
          try simp only [Act.put, List.setIfInBounds_toArray, List.set_cons_zero, List.set_cons_succ]
          refine wpAnyH_take (i := 7) (v := .int .i64 k) (op_at rfl) (by kernel_rfl) (by kernel_rfl) (by kernel_rfl) (fun _ _ _ h => h) (.inl ⟨rfl, fun u hu => by go_simp⟩) (Y.below B0) ?_
          try simp only [Act.put, List.setIfInBounds_toArray, List.set_cons_zero, List.set_cons_succ]
          have B1 : Below w2.heap.size w2 (u6.setRow gal (ndC N p2)) := below_setRow B0 hg0 (ndC N p2)
          refine held_put 9 gal (op_at rfl) (by kernel_rfl) rfl rfl rfl rfl rfl AL rfl (Y.below B1) ?_
          try simp only [Act.put, List.setIfInBounds_toArray, List.set_cons_zero, List.set_cons_succ]
          have M2 : NdM N p2 (u6.setRow gal (ndC N p2)) := hc _ ((Up.refl _ _).grown (grown_setRow _ gal (ndC N p2)) hal)
          have AR : (u6.setRow gal (ndC N p2)).heap[gal]? = some (.cells (ndC N p2) 66 (0, 0)) := setRow_heap _ _ _ _ _ _ AL
          refine held_value 10 (.int .i64 k) (op_at rfl) (by kernel_rfl) rfl (by go_simp) (Y.below B1) ?_
          refine wpAnyH_done (by kernel_rfl) ?_ _
          try simp only [Act.put, List.setIfInBounds_toArray, List.set_cons_zero, List.set_cons_succ]
          clear hc AL ltal hal
          go_wp2_with fail
          go_meet
          exact ⟨gal, p2, rfl, rfl, AR, M2, B1⟩
      · refine value_wp (.pointer (some ⟨u1.heap.size, 0, none⟩)) (u1.alloc (.cells ndZ 66)) (by go_simp) ?_
        have AL := heap_alloc_new u1 (.cells ndZ 66)
        have b := below_more (Below.refl u1.heap.size u1) (.cells ndZ 66)
        have hg0 : w2.heap.size ≤ u1.heap.size := B0.size
        replace B0 := Below.then2 B0 b
        replace P1 := P1.below b
        clear b
        have ltal := (Array.getElem?_eq_some_iff.1 AL).1
        generalize u1.alloc _ = u7 at B0 AL ltal P1 ⊢
        generalize hgal : u1.heap.size = gal at AL ltal hg0 ⊢
        refine ⟨Y.below B0, ?_⟩
        try simp only [Act.put, List.setIfInBounds_toArray, List.set_cons_zero, List.set_cons_succ]
        refine held_op 3 (op_at rfl) (by kernel_rfl) rfl ?_
        refine call_wp 28 #[frV f.id f.rm f.ln af f.D.length cf] (by go_simp) ?_
        refine (toFrOwn f.id f.rm f.ln af f.D cf _ (hn.below (Y.below B0).bel) hD).mono ?_
        rintro e u8 ⟨a1, rfl, O3, b⟩
        replace B0 := Below.then2 B0 b
        replace AL := (b.block _ ltal).trans AL
        replace ltal := Nat.lt_of_lt_of_le ltal b.size
        replace P1 := P1.below b
        have N1 := O3.nums2
        clear b O3
        refine ⟨_, rfl, (Y.below B0), ?_⟩
        try simp only [Act.put, List.setIfInBounds_toArray, List.set_cons_zero, List.set_cons_succ]
        refine held_op 4 (op_at rfl) (by kernel_rfl) rfl ?_
        have hal := ltal
        refine call_wp 33 #[ndV n p1, frV f.id f.rm f.ln a1 f.D.length f.D.length] (by go_simp) ?_
        refine (HS.out p1 a1 f.D.length _ P1 L1 N1).mono ?_
        rintro e u9 ⟨p2, rfl, hc, b, -⟩
        replace B0 := Below.then2 B0 b
        replace AL := (b.block _ ltal).trans AL
        replace ltal := Nat.lt_of_lt_of_le ltal b.size
        clear b
        refine ⟨_, rfl, (Y.below B0), ?_⟩
        try simp only [Act.put, List.setIfInBounds_toArray, List.set_cons_zero, List.set_cons_succ]
        refine wpAnyH_take (i := 5) (v := .tuple #[ndV N p2, .int .i64 k]) (op_at rfl) (by kernel_rfl) (by kernel_rfl) (by kernel_rfl) (fun _ _ _ h => h) (.inl ⟨rfl, fun u hu => by go_simp⟩) (Y.below B0) ?_
        try simp only [Act.put, List.setIfInBounds_toArray, List.set_cons_zero, List.set_cons_succ]
        refine wpAnyH_take (i := 6) (v := ndV N p2) (op_at rfl) (by kernel_rfl) (by kernel_rfl) (by kernel_rfl) (fun _ _ _ h => h) (.inl ⟨rfl, fun u hu => by go_simp⟩) (Y.below B0) ?_
        try simp only [Act.put, List.setIfInBounds_toArray, List.set_cons_zero, List.set_cons_succ]
        refine wpAnyH_take (i := 7) (v := .int .i64 k) (op_at rfl) (by kernel_rfl) (by kernel_rfl) (by kernel_rfl) (fun _ _ _ h => h) (.inl ⟨rfl, fun u hu => by go_simp⟩) (Y.below B0) ?_
        try simp only [Act.put, List.setIfInBounds_toArray, List.set_cons_zero, List.set_cons_succ]
        have B1 : Below w2.heap.size w2 (u9.setRow gal (ndC N p2)) := below_setRow B0 hg0 (ndC N p2)
        refine held_put 9 gal (op_at rfl) (by kernel_rfl) rfl rfl rfl rfl rfl AL rfl (Y.below B1) ?_
        try simp only [Act.put, List.setIfInBounds_toArray, List.set_cons_zero, List.set_cons_succ]
        have M2 : NdM N p2 (u9.setRow gal (ndC N p2)) := hc _ ((Up.refl _ _).grown (grown_setRow _ gal (ndC N p2)) hal)
        have AR : (u9.setRow gal (ndC N p2)).heap[gal]? = some (.cells (ndC N p2) 66 (0, 0)) := setRow_heap _ _ _ _ _ _ AL
        refine held_value 10 (.int .i64 k) (op_at rfl) (by kernel_rfl) rfl (by go_simp) (Y.below B1) ?_
        refine wpAnyH_done (by kernel_rfl) ?_ _
        try simp only [Act.put, List.setIfInBounds_toArray, List.set_cons_zero, List.set_cons_succ]
        clear hc AL ltal hal
        go_wp2_with fail
        go_meet
        exact ⟨gal, p2, rfl, rfl, AR, M2, B1⟩
    · refine value_wp (.pointer (some ⟨v0.heap.size, 0, none⟩)) (v0.alloc (.cells ndZ 66)) (by go_simp) ?_
      have AL := heap_alloc_new v0 (.cells ndZ 66)
      have b := below_more (Below.refl v0.heap.size v0) (.cells ndZ 66)
      have hg0 : w2.heap.size ≤ v0.heap.size := B0.size
      replace B0 := Below.then2 B0 b
      clear b
      have ltal := (Array.getElem?_eq_some_iff.1 AL).1
      generalize v0.alloc _ = u10 at B0 AL ltal ⊢
      generalize hgal : v0.heap.size = gal at AL ltal hg0 ⊢
      refine ⟨Y.below B0, ?_⟩
      try simp only [Act.put, List.setIfInBounds_toArray, List.set_cons_zero, List.set_cons_succ]
      refine held_op 1 (op_at rfl) (by kernel_rfl) rfl ?_
      refine call_wp 34 #[ndV n p] (by go_simp) ?_
      refine (toNodeOwn n p _ (hm.below (Y.below B0).bel) hs).mono ?_
      rintro e u11 ⟨p1, _, _, _, _, _, rfl, O1, b⟩
      replace B0 := Below.then2 B0 b
      replace AL := (b.block _ ltal).trans AL
      replace ltal := Nat.lt_of_lt_of_le ltal b.size
      have P1 := O1.ndm hs
      have L1 := O1.flt.bare
      clear b O1
      refine ⟨_, rfl, (Y.below B0), ?_⟩
      try simp only [Act.put, List.setIfInBounds_toArray, List.set_cons_zero, List.set_cons_succ]
      refine held_op 3 (op_at rfl) (by kernel_rfl) rfl ?_
      refine call_wp 28 #[frV f.id f.rm f.ln af f.D.length cf] (by go_simp) ?_
      refine (toFrOwn f.id f.rm f.ln af f.D cf _ (hn.below (Y.below B0).bel) hD).mono ?_
      rintro e u12 ⟨a1, rfl, O3, b⟩
      replace B0 := Below.then2 B0 b
      replace AL := (b.block _ ltal).trans AL
      replace ltal := Nat.lt_of_lt_of_le ltal b.size
      replace P1 := P1.below b
      have N1 := O3.nums2
      clear b O3
      refine ⟨_, rfl, (Y.below B0), ?_⟩
      try simp only [Act.put, List.setIfInBounds_toArray, List.set_cons_zero, List.set_cons_succ]
      refine held_op 4 (op_at rfl) (by kernel_rfl) rfl ?_
      have hal := ltal
      refine call_wp 33 #[ndV n p1, frV f.id f.rm f.ln a1 f.D.length f.D.length] (by go_simp) ?_
      refine (HS.out p1 a1 f.D.length _ P1 L1 N1).mono ?_
      rintro e u13 ⟨p2, rfl, hc, b, -⟩
      replace B0 := Below.then2 B0 b
      replace AL := (b.block _ ltal).trans AL
      replace ltal := Nat.lt_of_lt_of_le ltal b.size
      clear b
      refine ⟨_, rfl, (Y.below B0), ?_⟩
      try simp only [Act.put, List.setIfInBounds_toArray, List.set_cons_zero, List.set_cons_succ]
      refine wpAnyH_take (i := 5) (v := .tuple #[ndV N p2, .int .i64 k]) (op_at rfl) (by kernel_rfl) (by kernel_rfl) (by kernel_rfl) (fun _ _ _ h => h) (.inl ⟨rfl, fun u hu => by go_simp⟩) (Y.below B0) ?_
      try simp only [Act.put, List.setIfInBounds_toArray, List.set_cons_zero, List.set_cons_succ]
      refine wpAnyH_take (i := 6) (v := ndV N p2) (op_at rfl) (by kernel_rfl) (by kernel_rfl) (by kernel_rfl) (fun _ _ _ h => h) (.inl ⟨rfl, fun u hu => by go_simp⟩) (Y.below B0) ?_
      try simp only [Act.put, List.setIfInBounds_toArray, List.set_cons_zero, List.set_cons_succ]
      refine wpAnyH_take (i := 7) (v := .int .i64 k) (op_at rfl) (by kernel_rfl) (by kernel_rfl) (by kernel_rfl) (fun _ _ _ h => h) (.inl ⟨rfl, fun u hu => by go_simp⟩) (Y.below B0) ?_
      try simp only [Act.put, List.setIfInBounds_toArray, List.set_cons_zero, List.set_cons_succ]
      have B1 : Below w2.heap.size w2 (u13.setRow gal (ndC N p2)) := below_setRow B0 hg0 (ndC N p2)
      refine held_put 9 gal (op_at rfl) (by kernel_rfl) rfl rfl rfl rfl rfl AL rfl (Y.below B1) ?_
      try simp only [Act.put, List.setIfInBounds_toArray, List.set_cons_zero, List.set_cons_succ]
      have M2 : NdM N p2 (u13.setRow gal (ndC N p2)) := hc _ ((Up.refl _ _).grown (grown_setRow _ gal (ndC N p2)) hal)
      have AR : (u13.setRow gal (ndC N p2)).heap[gal]? = some (.cells (ndC N p2) 66 (0, 0)) := setRow_heap _ _ _ _ _ _ AL
      refine held_value 10 (.int .i64 k) (op_at rfl) (by kernel_rfl) rfl (by go_simp) (Y.below B1) ?_
      refine wpAnyH_done (by kernel_rfl) ?_ _
      try simp only [Act.put, List.setIfInBounds_toArray, List.set_cons_zero, List.set_cons_succ]
      clear hc AL ltal hal
      go_wp2_with fail
      go_meet
      exact ⟨gal, p2, rfl, rfl, AR, M2, B1⟩
  case rest =>
  obtain ⟨gw, p3, rfl, rfl, A, M3, b⟩ := hcut
  generalize wc = W3 at *
  replace Y := Y.below b
  clear b HS
  have hgw := (Array.getElem?_eq_some_iff.1 A).1
  have hw3 := Y.bel.size
  have Q := Below.refl W3.heap.size W3
  go_wp2_with (refine Y.ny.take rfl rfl rfl ?_)
  refine (toNodeOwn n p _ (hm.below Y.bel) hs).mono ?_
  rintro e w4 ⟨p4, _, _, _, XB, XF, rfl, O4, b⟩
  replace Q := b
  obtain ⟨j4, I4⟩ := O4.ndI3 b.size
  have A4 := O4.nda
  have q4 := b.size
  clear b O4
  have b := below_more (Below.refl w4.heap.size w4) (.cells (ndC n p4) 66)
  have X := Nx.made n p4 (Y.below Q).bel
  go_upto_region 10 with (skip; refine wpList_lay (w := w4) (n := n) (p := p4) (C := ndZ) (by rfl) (by rfl) (by rfl) (by rfl) (by rfl) (by rfl) ?_)
  replace Q := Below.then2 Q b
  replace I4 := I4.below b
  clear b
  have z4 : w4.heap.size < (w4.alloc (.cells (ndC n p4) 66)).heap.size := by simp
  generalize w4.alloc _ = W4 at Q I4 X z4 ⊢
  generalize w4.heap.size = gx at I4 X z4 q4 ⊢
  have YQ := Y.below Q
  go_wp2_with (refine frTake (f := f) (af := af) (cf := cf) YQ.fr rfl rfl rfl ?_)
  refine (toFrOwn f.id f.rm f.ln af f.D cf _ (hn.below YQ.bel) hD).mono ?_
  rintro e w5 ⟨a5, rfl, O5, b⟩
  have z5 := b.size
  have U5 := ownLtI O5
  replace Q := Below.then2 Q b
  replace X := X.below b
  replace I4 := I4.below b
  clear b YQ
  have b := below_more (Below.refl w5.heap.size w5) (.cells (frC f a5 f.D.length) 50)
  have G := heap_alloc_new w5 (.cells (frC f a5 f.D.length) 50)
  go_upto_region 11 with fail
  replace Q := Below.then2 Q b
  replace X := X.below b
  replace I4 := I4.below b
  replace O5 := O5.below' b
  clear b
  have z6 : w5.heap.size < (w5.alloc (.cells (frC f a5 f.D.length) 50)).heap.size := by simp
  generalize w5.alloc _ = W5 at Q X I4 O5 G z6 ⊢
  generalize w5.heap.size = gf at G z6 z5 U5 ⊢
  have N5 := O5.nums2
  go_wp2_with (first | (refine X.take rfl rfl rfl ?_) | (refine frTakeI (f := f) (af := a5) (cf := f.D.length) G rfl rfl rfl ?_))
  refine (HI.out p4 a5 f.D.length _ (I4.ndm hs) N5).mono ?_
  rintro e w6 ⟨p6, j6, CB, CF, rfl, I5, b⟩
  have z7 := b.size
  clear N5
  replace Q := Below.then2 Q b
  replace X := X.below b
  replace I4 := I4.below b
  replace O5 := O5.below' b
  replace G := (b.block _ (Array.getElem?_eq_some_iff.1 G).1).trans G
  clear b
  have b := below_more (Below.refl w6.heap.size w6) (.cells (ndC N p6) 66)
  have C := heap_alloc_new w6 (.cells (ndC N p6) 66)
  go_upto_region 12 with (skip; refine wpList_lay (w := w6) (n := N) (p := p6) (C := ndZ) (by rfl) (by rfl) (by rfl) (by rfl) (by rfl) (by rfl) ?_)
  replace Q := Below.then2 Q b
  replace X := X.below b
  replace I4 := I4.below b
  replace O5 := O5.below' b
  replace G := (b.block _ (Array.getElem?_eq_some_iff.1 G).1).trans G
  replace I5 := I5.below b
  clear b
  have z8 : w6.heap.size < (w6.alloc (.cells (ndC N p6) 66)).heap.size := by simp
  generalize w6.alloc _ = W6 at Q X I4 O5 G I5 C z8 ⊢
  generalize w6.heap.size = gi at *
  go_wp2_with (first | (refine Nx.take (w0 := w) ⟨C, (Y.below Q).bel⟩ rfl rfl rfl ?_) | (refine Nx.take (w0 := w) ⟨(Q.block _ hgw).trans A, (Y.below Q).bel⟩ rfl rfl rfl ?_))
  refine (eqN N p6 p3 _ (I5.ndm hN) (M3.below Q)).mono ?_
  rintro e w7 ⟨rfl, b⟩
  replace Q := Below.then2 Q b
  replace X := X.below b
  replace I4 := I4.below b
  replace O5 := O5.below' b
  replace G := (b.block _ (Array.getElem?_eq_some_iff.1 G).1).trans G
  replace I5 := I5.below b
  replace C := (b.block _ (Array.getElem?_eq_some_iff.1 C).1).trans C
  clear b
  go_upto_region 14 with fail
  refine wp_region_held (S := fun u => Nx gx n p4 w u ∧ Yf ga gb n p f af cf w u) (by kernel_rfl) ?_
  have b : Below w7.heap.size w7 { w7 with drawn := w7.drawn + 1 } := (Below.refl w7.heap.size w7).drew
  replace Q := Below.then2 Q b
  replace X := X.below b
  replace I4 := I4.below b
  replace O5 := O5.below' b
  replace G := (b.block _ (Array.getElem?_eq_some_iff.1 G).1).trans G
  replace I5 := I5.below b
  replace C := (b.block _ (Array.getElem?_eq_some_iff.1 C).1).trans C
  clear b
  generalize ({ w7 with drawn := w7.drawn + 1 } : World) = w8 at *
  have YQ := Y.below Q
  refine wpAnyH_take (i := 0) (v := ndV n p4) (op_at rfl) (by kernel_rfl) (by kernel_rfl) (by kernel_rfl) (fun _ _ _ h => h) (.inl ⟨rfl, fun u hu => hu.1.took rfl rfl⟩) ⟨X, YQ⟩ ?_
  refine wpAnyH_take (i := 1) (v := ndV n p) (op_at rfl) (by kernel_rfl) (by kernel_rfl) (by kernel_rfl) (fun _ _ _ h => h) (.inl ⟨rfl, fun u hu => hu.2.ny.took rfl rfl⟩) ⟨X, YQ⟩ ?_
  try simp only [Act.put, List.setIfInBounds_toArray, List.set_cons_zero, List.set_cons_succ]
  refine held_call 2 34 #[ndV n p] (op_at rfl) (by kernel_rfl) rfl (by go_simp) ?_
  refine (toNodeOwn n p _ (hm.below YQ.bel) hs).mono ?_
  rintro e w9 ⟨p9, _, _, _, _, _, rfl, O9, b⟩
  replace Q := Below.then2 Q b
  replace X := X.below b
  replace I4 := I4.below b
  replace O5 := O5.below' b
  replace G := (b.block _ (Array.getElem?_eq_some_iff.1 G).1).trans G
  replace I5 := I5.below b
  replace C := (b.block _ (Array.getElem?_eq_some_iff.1 C).1).trans C
  replace YQ := YQ.below b
  have M9 := O9.ndm hs
  clear b O9
  refine ⟨_, rfl, ⟨X, YQ⟩, ?_⟩
  try simp only [Act.put, List.setIfInBounds_toArray, List.set_cons_zero, List.set_cons_succ]
  refine held_call 3 36 #[ndV n p4, ndV n p9] (op_at rfl) (by kernel_rfl) rfl (by go_simp) ?_
  refine (eqN n p4 p9 _ (I4.ndm hs) M9).mono ?_
  rintro e w10 ⟨rfl, b⟩
  replace Q := Below.then2 Q b
  replace X := X.below b
  replace I4 := I4.below b
  replace O5 := O5.below' b
  replace G := (b.block _ (Array.getElem?_eq_some_iff.1 G).1).trans G
  replace I5 := I5.below b
  replace C := (b.block _ (Array.getElem?_eq_some_iff.1 C).1).trans C
  replace YQ := YQ.below b
  clear b M9
  refine ⟨_, rfl, ⟨X, YQ⟩, ?_⟩
  try simp only [Act.put, List.setIfInBounds_toArray, List.set_cons_zero, List.set_cons_succ]
  refine held_value 4 (.bool false) (op_at rfl) (by kernel_rfl) rfl (by go_simp) ⟨X, YQ⟩ ?_
  refine wpAnyH_done (by kernel_rfl) ?_ _
  clear YQ
  try simp only [Act.put, List.setIfInBounds_toArray, List.set_cons_zero, List.set_cons_succ]
  go_upto_region 16 with fail
  refine wp_region_held (S := fun u => u.heap[gf]? = some (.cells (frC f a5 f.D.length) 50 (0, 0)) ∧ Yf ga gb n p f af cf w u) (by kernel_rfl) ?_
  have b : Below w10.heap.size w10 { w10 with drawn := w10.drawn + 1 } := (Below.refl w10.heap.size w10).drew
  replace Q := Below.then2 Q b
  replace X := X.below b
  replace I4 := I4.below b
  replace O5 := O5.below' b
  replace G := (b.block _ (Array.getElem?_eq_some_iff.1 G).1).trans G
  replace I5 := I5.below b
  replace C := (b.block _ (Array.getElem?_eq_some_iff.1 C).1).trans C
  clear b
  generalize ({ w10 with drawn := w10.drawn + 1 } : World) = w11 at *
  have YQ := Y.below Q
  refine wpAnyH_take (i := 0) (v := frV f.id f.rm f.ln a5 f.D.length f.D.length) (op_at rfl) (by kernel_rfl) (by kernel_rfl) (by kernel_rfl) (fun _ _ _ h => h) (.inl ⟨rfl, fun u hu => frTookI (f := f) (af := a5) (cf := f.D.length) hu.1 rfl rfl⟩) ⟨G, YQ⟩ ?_
  refine wpAnyH_take (i := 1) (v := frV f.id f.rm f.ln af f.D.length cf) (op_at rfl) (by kernel_rfl) (by kernel_rfl) (by kernel_rfl) (fun _ _ _ h => h) (.inl ⟨rfl, fun u hu => frTook (f := f) (af := af) (cf := cf) hu.2.fr rfl rfl⟩) ⟨G, YQ⟩ ?_
  try simp only [Act.put, List.setIfInBounds_toArray, List.set_cons_zero, List.set_cons_succ]
  refine held_call 2 28 #[frV f.id f.rm f.ln af f.D.length cf] (op_at rfl) (by kernel_rfl) rfl (by go_simp) ?_
  refine (toFrOwn f.id f.rm f.ln af f.D cf _ (hn.below YQ.bel) hD).mono ?_
  rintro e w12 ⟨a12, rfl, O12, b⟩
  replace Q := Below.then2 Q b
  replace X := X.below b
  replace I4 := I4.below b
  replace O5 := O5.below' b
  replace G := (b.block _ (Array.getElem?_eq_some_iff.1 G).1).trans G
  replace I5 := I5.below b
  replace C := (b.block _ (Array.getElem?_eq_some_iff.1 C).1).trans C
  replace YQ := YQ.below b
  have N12 := O12.nums2
  clear b O12
  refine ⟨_, rfl, ⟨G, YQ⟩, ?_⟩
  try simp only [Act.put, List.setIfInBounds_toArray, List.set_cons_zero, List.set_cons_succ]
  refine held_call 3 30 #[frV f.id f.rm f.ln a5 f.D.length f.D.length, frV f.id f.rm f.ln a12 f.D.length f.D.length] (op_at rfl) (by kernel_rfl) rfl (by go_simp) ?_
  refine (eqFr f.id f.rm f.ln a5 a12 f.D f.D.length f.D.length _ O5.nums2 N12).mono ?_
  rintro e w13 ⟨rfl, b⟩
  replace Q := Below.then2 Q b
  replace X := X.below b
  replace I4 := I4.below b
  replace O5 := O5.below' b
  replace G := (b.block _ (Array.getElem?_eq_some_iff.1 G).1).trans G
  replace I5 := I5.below b
  replace C := (b.block _ (Array.getElem?_eq_some_iff.1 C).1).trans C
  replace YQ := YQ.below b
  clear b N12
  refine ⟨_, rfl, ⟨G, YQ⟩, ?_⟩
  try simp only [Act.put, List.setIfInBounds_toArray, List.set_cons_zero, List.set_cons_succ]
  refine held_value 4 (.bool false) (op_at rfl) (by kernel_rfl) rfl (by go_simp) ⟨G, YQ⟩ ?_
  refine wpAnyH_done (by kernel_rfl) ?_ _
  clear YQ
  try simp only [Act.put, List.setIfInBounds_toArray, List.set_cons_zero, List.set_cons_succ]
  have x4 := X.lt
  go_wp2_with (refine X.take rfl rfl rfl ?_)
  refine (markNodeI j4 W3.heap.size gx n p4 XB XF 1 _ I4 (by omega) hs (by omega) (by omega)).mono ?_
  rintro e w14 ⟨_, _, rfl, -, m⟩
  replace Q := Q.trans (m.below (Nat.le_refl _) Q.size)
  replace C := m.row C (by omega)
  replace G := m.row G (by omega)
  replace I5 := I5.sep m (.inr (by omega))
  replace O5 := O5.mid m (by omega)
  clear m X I4
  go_wp2_with (refine frTakeI (f := f) (af := a5) (cf := f.D.length) G rfl rfl rfl ?_)
  refine (markFr W4.heap.size f.id f.rm f.ln f.D a5 f.D.length (k4N 1 n) _ O5 (by omega) J0 (by omega)).mono ?_
  rintro e w15 ⟨rfl, -, gg⟩
  have m : Mid W4.heap.size gf w14 w15 := (Mid.refl W4.heap.size gf w14).grown gg (fun q hq => ⟨O5.low hq, U5 q hq⟩)
  replace Q := Q.trans (m.below (by omega) Q.size)
  replace C := m.row C (by omega)
  replace I5 := I5.sep m (.inr (by omega))
  clear m gg O5 G
  go_wp2_with (first | (refine Nx.take (w0 := w) ⟨C, (Y.below Q).bel⟩ rfl rfl rfl ?_) | (refine Nx.take (w0 := w) ⟨(Q.block _ hgw).trans A, (Y.below Q).bel⟩ rfl rfl rfl ?_))
  refine (eqN N p6 p3 _ (I5.ndm hN) (M3.below Q)).mono ?_
  rintro e w16 ⟨rfl, b⟩
  replace Q := Below.then2 Q b
  replace I5 := I5.below b
  replace C := (b.block _ (Array.getElem?_eq_some_iff.1 C).1).trans C
  clear b
  have c16 := (Array.getElem?_eq_some_iff.1 C).1
  go_wp2_with (refine Nx.take (w0 := w) ⟨C, (Y.below Q).bel⟩ rfl rfl rfl ?_)
  refine (markNodeI j6 W5.heap.size gi N p6 CB CF 1 _ I5 (by omega) hN (by omega) (by omega)).mono ?_
  rintro e w17 ⟨_, _, rfl, I9, m⟩
  replace Q := Q.trans (m.below (by omega) Q.size)
  replace C := m.row C (Nat.le_refl _)
  clear m I5
  have hm14 : roomN (markedN 1 N) ≤ 1048576 := by rw [room_marked]; exact hN
  go_wp2_with (refine Nx.take (w0 := w) ⟨C, (Y.below Q).bel⟩ rfl rfl rfl ?_)
  refine (heldNodeO N p6 1 _ (I9.ndm hm14) hN (by omega) (by omega)).mono ?_
  rintro e w18 ⟨rfl, b⟩
  replace Q := Below.then2 Q b
  replace I9 := I9.below b
  replace C := (b.block _ (Array.getElem?_eq_some_iff.1 C).1).trans C
  clear b
  have YQ := Y.below Q
  go_upto_region 31 with fail
  go_cut [15, 16] (fun s6 s7 wx => ∃ (g : Nat) (p2 : NdP), s6 = .pointer (some ⟨g, 0, none⟩) ∧ s7 = .int .i64 k ∧ wx.heap[g]? = some (.cells (ndC N p2) 66 (0, 0)) ∧ NdM N p2 wx ∧ Below w18.heap.size w18 wx)
  case first =>
    refine wp_region_held (S := fun u => Yf ga gb n p f af cf w u) (by kernel_rfl) ?_
    have B0 : Below w18.heap.size w18 { w18 with drawn := w18.drawn + 1 } := (Below.refl _ _).drew
    generalize ({ w18 with drawn := w18.drawn + 1 } : World) = v0 at B0 ⊢
    refine wpAnyH_take (i := 0) (v := ndV n p) (op_at rfl) (by kernel_rfl) (by kernel_rfl) (by kernel_rfl) (fun _ _ _ h => h) (.inl ⟨rfl, fun u hu => hu.ny.took rfl rfl⟩) (YQ.below B0) ?_
    refine wpAnyH_take (i := 2) (v := frV f.id f.rm f.ln af f.D.length cf) (op_at rfl) (by kernel_rfl) (by kernel_rfl) (by kernel_rfl) (fun _ _ _ h => h) (.inl ⟨rfl, fun u hu => frTook (f := f) (af := af) (cf := cf) hu.fr rfl rfl⟩) (YQ.below B0) ?_
    try simp only [Act.put, List.setIfInBounds_toArray, List.set_cons_zero, List.set_cons_succ]
    refine held_fork 1 8 (by kernel_rfl) (op_at rfl) (op_at rfl) rfl rfl ?_ ?_
    · refine call_wp 34 #[ndV n p] (by go_simp) ?_
      refine (toNodeOwn n p _ (hm.below (YQ.below B0).bel) hs).mono ?_
      rintro e u14 ⟨p1, _, _, _, _, _, rfl, O1, b⟩
      replace B0 := Below.then2 B0 b
      have P1 := O1.ndm hs
      clear b O1
      refine ⟨_, rfl, (YQ.below B0), ?_⟩
      try simp only [Act.put, List.setIfInBounds_toArray, List.set_cons_zero, List.set_cons_succ]
      refine held_fork 3 8 (by kernel_rfl) (op_at rfl) (op_at rfl) rfl rfl ?_ ?_
      · refine call_wp 28 #[frV f.id f.rm f.ln af f.D.length cf] (by go_simp) ?_
        refine (toFrOwn f.id f.rm f.ln af f.D cf _ (hn.below (YQ.below B0).bel) hD).mono ?_
        rintro e u15 ⟨a1, rfl, O3, b⟩
        replace B0 := Below.then2 B0 b
        replace P1 := P1.below b
        have N1 := O3.nums2
        clear b O3
        refine ⟨_, rfl, (YQ.below B0), ?_⟩
        try simp only [Act.put, List.setIfInBounds_toArray, List.set_cons_zero, List.set_cons_succ]
        refine held_fork 4 8 (by kernel_rfl) (op_at rfl) (op_at rfl) rfl rfl ?_ ?_
        · refine call_wp 35 #[ndV n p1, frV f.id f.rm f.ln a1 f.D.length f.D.length] (by go_simp) ?_
          refine (HI.out p1 a1 f.D.length _ P1 N1).mono ?_
          rintro e u16 ⟨p2, j2, _, _, rfl, I2, b⟩
          replace B0 := Below.then2 B0 b
          clear b
          refine ⟨_, rfl, (YQ.below B0), ?_⟩
          try simp only [Act.put, List.setIfInBounds_toArray, List.set_cons_zero, List.set_cons_succ]
          refine wpAnyH_take (i := 5) (v := .tuple #[ndV N p2, .int .i64 k]) (op_at rfl) (by kernel_rfl) (by kernel_rfl) (by kernel_rfl) (fun _ _ _ h => h) (.inl ⟨rfl, fun u hu => by go_simp⟩) (YQ.below B0) ?_
          try simp only [Act.put, List.setIfInBounds_toArray, List.set_cons_zero, List.set_cons_succ]
          refine wpAnyH_take (i := 6) (v := ndV N p2) (op_at rfl) (by kernel_rfl) (by kernel_rfl) (by kernel_rfl) (fun _ _ _ h => h) (.inl ⟨rfl, fun u hu => by go_simp⟩) (YQ.below B0) ?_
          try simp only [Act.put, List.setIfInBounds_toArray, List.set_cons_zero, List.set_cons_succ]
          refine wpAnyH_take (i := 7) (v := .int .i64 k) (op_at rfl) (by kernel_rfl) (by kernel_rfl) (by kernel_rfl) (fun _ _ _ h => h) (.inl ⟨rfl, fun u hu => by go_simp⟩) (YQ.below B0) ?_
          try simp only [Act.put, List.setIfInBounds_toArray, List.set_cons_zero, List.set_cons_succ]
          refine held_op 8 (op_at rfl) (by kernel_rfl) rfl ?_
          refine value_wp (.pointer (some ⟨u16.heap.size, 0, none⟩)) (u16.alloc (.cells ndZ 66)) (by go_simp) ?_
          have AL := heap_alloc_new u16 (.cells ndZ 66)
          have b := below_more (Below.refl u16.heap.size u16) (.cells ndZ 66)
          have hg0 : w18.heap.size ≤ u16.heap.size := B0.size
          replace B0 := Below.then2 B0 b
          replace I2 := I2.below b
          clear b
          have ltal := (Array.getElem?_eq_some_iff.1 AL).1
          generalize u16.alloc _ = u17 at B0 AL ltal I2 ⊢
          generalize hgal : u16.heap.size = gal at AL ltal hg0 ⊢
          have hal := Nat.le_of_eq hgal
          refine ⟨YQ.below B0, ?_⟩
          try simp only [Act.put, List.setIfInBounds_toArray, List.set_cons_zero, List.set_cons_succ]
          have B1 : Below w18.heap.size w18 (u17.setRow gal (ndC N p2)) := below_setRow B0 hg0 (ndC N p2)
          refine held_put 9 gal (op_at rfl) (by kernel_rfl) rfl rfl rfl rfl rfl AL rfl (YQ.below B1) ?_
          try simp only [Act.put, List.setIfInBounds_toArray, List.set_cons_zero, List.set_cons_succ]
          have M2 : NdM N p2 (u17.setRow gal (ndC N p2)) := (I2.sep (mid_setRow _ gal (ndC N p2)) (.inl hal)).ndm hN
          have AR : (u17.setRow gal (ndC N p2)).heap[gal]? = some (.cells (ndC N p2) 66 (0, 0)) := setRow_heap _ _ _ _ _ _ AL
          refine held_value 10 (.int .i64 k) (op_at rfl) (by kernel_rfl) rfl (by go_simp) (YQ.below B1) ?_
          refine wpAnyH_done (by kernel_rfl) ?_ _
          try simp only [Act.put, List.setIfInBounds_toArray, List.set_cons_zero, List.set_cons_succ]
          clear I2 AL ltal hal
          go_wp2_with fail
          go_meet
          exact ⟨gal, p2, rfl, rfl, AR, M2, B1⟩
        · refine value_wp (.pointer (some ⟨u15.heap.size, 0, none⟩)) (u15.alloc (.cells ndZ 66)) (by go_simp) ?_
          have AL := heap_alloc_new u15 (.cells ndZ 66)
          have b := below_more (Below.refl u15.heap.size u15) (.cells ndZ 66)
          have hg0 : w18.heap.size ≤ u15.heap.size := B0.size
          replace B0 := Below.then2 B0 b
          replace P1 := P1.below b
          replace N1 := N1.below b
          clear b
          have ltal := (Array.getElem?_eq_some_iff.1 AL).1
          generalize u15.alloc _ = u18 at B0 AL ltal P1 N1 ⊢
          generalize hgal : u15.heap.size = gal at AL ltal hg0 ⊢
          refine ⟨YQ.below B0, ?_⟩
          try simp only [Act.put, List.setIfInBounds_toArray, List.set_cons_zero, List.set_cons_succ]
          refine held_op 4 (op_at rfl) (by kernel_rfl) rfl ?_
          have hal := ltal
          refine call_wp 35 #[ndV n p1, frV f.id f.rm f.ln a1 f.D.length f.D.length] (by go_simp) ?_
          refine (HI.out p1 a1 f.D.length _ P1 N1).mono ?_
          rintro e u19 ⟨p2, j2, _, _, rfl, I2, b⟩
          replace B0 := Below.then2 B0 b
          replace AL := (b.block _ ltal).trans AL
          replace ltal := Nat.lt_of_lt_of_le ltal b.size
          clear b
          refine ⟨_, rfl, (YQ.below B0), ?_⟩
          try simp only [Act.put, List.setIfInBounds_toArray, List.set_cons_zero, List.set_cons_succ]
          refine wpAnyH_take (i := 5) (v := .tuple #[ndV N p2, .int .i64 k]) (op_at rfl) (by kernel_rfl) (by kernel_rfl) (by kernel_rfl) (fun _ _ _ h => h) (.inl ⟨rfl, fun u hu => by go_simp⟩) (YQ.below B0) ?_
          try simp only [Act.put, List.setIfInBounds_toArray, List.set_cons_zero, List.set_cons_succ]
          refine wpAnyH_take (i := 6) (v := ndV N p2) (op_at rfl) (by kernel_rfl) (by kernel_rfl) (by kernel_rfl) (fun _ _ _ h => h) (.inl ⟨rfl, fun u hu => by go_simp⟩) (YQ.below B0) ?_
          try simp only [Act.put, List.setIfInBounds_toArray, List.set_cons_zero, List.set_cons_succ]
          refine wpAnyH_take (i := 7) (v := .int .i64 k) (op_at rfl) (by kernel_rfl) (by kernel_rfl) (by kernel_rfl) (fun _ _ _ h => h) (.inl ⟨rfl, fun u hu => by go_simp⟩) (YQ.below B0) ?_
          try simp only [Act.put, List.setIfInBounds_toArray, List.set_cons_zero, List.set_cons_succ]
          have B1 : Below w18.heap.size w18 (u19.setRow gal (ndC N p2)) := below_setRow B0 hg0 (ndC N p2)
          refine held_put 9 gal (op_at rfl) (by kernel_rfl) rfl rfl rfl rfl rfl AL rfl (YQ.below B1) ?_
          try simp only [Act.put, List.setIfInBounds_toArray, List.set_cons_zero, List.set_cons_succ]
          have M2 : NdM N p2 (u19.setRow gal (ndC N p2)) := (I2.sep (mid_setRow _ gal (ndC N p2)) (.inr hal)).ndm hN
          have AR : (u19.setRow gal (ndC N p2)).heap[gal]? = some (.cells (ndC N p2) 66 (0, 0)) := setRow_heap _ _ _ _ _ _ AL
          refine held_value 10 (.int .i64 k) (op_at rfl) (by kernel_rfl) rfl (by go_simp) (YQ.below B1) ?_
          refine wpAnyH_done (by kernel_rfl) ?_ _
          try simp only [Act.put, List.setIfInBounds_toArray, List.set_cons_zero, List.set_cons_succ]
          clear I2 AL ltal hal
          go_wp2_with fail
          go_meet
          exact ⟨gal, p2, rfl, rfl, AR, M2, B1⟩
      · refine value_wp (.pointer (some ⟨u14.heap.size, 0, none⟩)) (u14.alloc (.cells ndZ 66)) (by go_simp) ?_
        have AL := heap_alloc_new u14 (.cells ndZ 66)
        have b := below_more (Below.refl u14.heap.size u14) (.cells ndZ 66)
        have hg0 : w18.heap.size ≤ u14.heap.size := B0.size
        replace B0 := Below.then2 B0 b
        replace P1 := P1.below b
        clear b
        have ltal := (Array.getElem?_eq_some_iff.1 AL).1
        generalize u14.alloc _ = u20 at B0 AL ltal P1 ⊢
        generalize hgal : u14.heap.size = gal at AL ltal hg0 ⊢
        refine ⟨YQ.below B0, ?_⟩
        try simp only [Act.put, List.setIfInBounds_toArray, List.set_cons_zero, List.set_cons_succ]
        refine held_op 3 (op_at rfl) (by kernel_rfl) rfl ?_
        refine call_wp 28 #[frV f.id f.rm f.ln af f.D.length cf] (by go_simp) ?_
        refine (toFrOwn f.id f.rm f.ln af f.D cf _ (hn.below (YQ.below B0).bel) hD).mono ?_
        rintro e u21 ⟨a1, rfl, O3, b⟩
        replace B0 := Below.then2 B0 b
        replace AL := (b.block _ ltal).trans AL
        replace ltal := Nat.lt_of_lt_of_le ltal b.size
        replace P1 := P1.below b
        have N1 := O3.nums2
        clear b O3
        refine ⟨_, rfl, (YQ.below B0), ?_⟩
        try simp only [Act.put, List.setIfInBounds_toArray, List.set_cons_zero, List.set_cons_succ]
        refine held_op 4 (op_at rfl) (by kernel_rfl) rfl ?_
        have hal := ltal
        refine call_wp 35 #[ndV n p1, frV f.id f.rm f.ln a1 f.D.length f.D.length] (by go_simp) ?_
        refine (HI.out p1 a1 f.D.length _ P1 N1).mono ?_
        rintro e u22 ⟨p2, j2, _, _, rfl, I2, b⟩
        replace B0 := Below.then2 B0 b
        replace AL := (b.block _ ltal).trans AL
        replace ltal := Nat.lt_of_lt_of_le ltal b.size
        clear b
        refine ⟨_, rfl, (YQ.below B0), ?_⟩
        try simp only [Act.put, List.setIfInBounds_toArray, List.set_cons_zero, List.set_cons_succ]
        refine wpAnyH_take (i := 5) (v := .tuple #[ndV N p2, .int .i64 k]) (op_at rfl) (by kernel_rfl) (by kernel_rfl) (by kernel_rfl) (fun _ _ _ h => h) (.inl ⟨rfl, fun u hu => by go_simp⟩) (YQ.below B0) ?_
        try simp only [Act.put, List.setIfInBounds_toArray, List.set_cons_zero, List.set_cons_succ]
        refine wpAnyH_take (i := 6) (v := ndV N p2) (op_at rfl) (by kernel_rfl) (by kernel_rfl) (by kernel_rfl) (fun _ _ _ h => h) (.inl ⟨rfl, fun u hu => by go_simp⟩) (YQ.below B0) ?_
        try simp only [Act.put, List.setIfInBounds_toArray, List.set_cons_zero, List.set_cons_succ]
        refine wpAnyH_take (i := 7) (v := .int .i64 k) (op_at rfl) (by kernel_rfl) (by kernel_rfl) (by kernel_rfl) (fun _ _ _ h => h) (.inl ⟨rfl, fun u hu => by go_simp⟩) (YQ.below B0) ?_
        try simp only [Act.put, List.setIfInBounds_toArray, List.set_cons_zero, List.set_cons_succ]
        have B1 : Below w18.heap.size w18 (u22.setRow gal (ndC N p2)) := below_setRow B0 hg0 (ndC N p2)
        refine held_put 9 gal (op_at rfl) (by kernel_rfl) rfl rfl rfl rfl rfl AL rfl (YQ.below B1) ?_
        try simp only [Act.put, List.setIfInBounds_toArray, List.set_cons_zero, List.set_cons_succ]
        have M2 : NdM N p2 (u22.setRow gal (ndC N p2)) := (I2.sep (mid_setRow _ gal (ndC N p2)) (.inr hal)).ndm hN
        have AR : (u22.setRow gal (ndC N p2)).heap[gal]? = some (.cells (ndC N p2) 66 (0, 0)) := setRow_heap _ _ _ _ _ _ AL
        refine held_value 10 (.int .i64 k) (op_at rfl) (by kernel_rfl) rfl (by go_simp) (YQ.below B1) ?_
        refine wpAnyH_done (by kernel_rfl) ?_ _
        try simp only [Act.put, List.setIfInBounds_toArray, List.set_cons_zero, List.set_cons_succ]
        clear I2 AL ltal hal
        go_wp2_with fail
        go_meet
        exact ⟨gal, p2, rfl, rfl, AR, M2, B1⟩
    · refine value_wp (.pointer (some ⟨v0.heap.size, 0, none⟩)) (v0.alloc (.cells ndZ 66)) (by go_simp) ?_
      have AL := heap_alloc_new v0 (.cells ndZ 66)
      have b := below_more (Below.refl v0.heap.size v0) (.cells ndZ 66)
      have hg0 : w18.heap.size ≤ v0.heap.size := B0.size
      replace B0 := Below.then2 B0 b
      clear b
      have ltal := (Array.getElem?_eq_some_iff.1 AL).1
      generalize v0.alloc _ = u23 at B0 AL ltal ⊢
      generalize hgal : v0.heap.size = gal at AL ltal hg0 ⊢
      refine ⟨YQ.below B0, ?_⟩
      try simp only [Act.put, List.setIfInBounds_toArray, List.set_cons_zero, List.set_cons_succ]
      refine held_op 1 (op_at rfl) (by kernel_rfl) rfl ?_
      refine call_wp 34 #[ndV n p] (by go_simp) ?_
      refine (toNodeOwn n p _ (hm.below (YQ.below B0).bel) hs).mono ?_
      rintro e u24 ⟨p1, _, _, _, _, _, rfl, O1, b⟩
      replace B0 := Below.then2 B0 b
      replace AL := (b.block _ ltal).trans AL
      replace ltal := Nat.lt_of_lt_of_le ltal b.size
      have P1 := O1.ndm hs
      clear b O1
      refine ⟨_, rfl, (YQ.below B0), ?_⟩
      try simp only [Act.put, List.setIfInBounds_toArray, List.set_cons_zero, List.set_cons_succ]
      refine held_op 3 (op_at rfl) (by kernel_rfl) rfl ?_
      refine call_wp 28 #[frV f.id f.rm f.ln af f.D.length cf] (by go_simp) ?_
      refine (toFrOwn f.id f.rm f.ln af f.D cf _ (hn.below (YQ.below B0).bel) hD).mono ?_
      rintro e u25 ⟨a1, rfl, O3, b⟩
      replace B0 := Below.then2 B0 b
      replace AL := (b.block _ ltal).trans AL
      replace ltal := Nat.lt_of_lt_of_le ltal b.size
      replace P1 := P1.below b
      have N1 := O3.nums2
      clear b O3
      refine ⟨_, rfl, (YQ.below B0), ?_⟩
      try simp only [Act.put, List.setIfInBounds_toArray, List.set_cons_zero, List.set_cons_succ]
      refine held_op 4 (op_at rfl) (by kernel_rfl) rfl ?_
      have hal := ltal
      refine call_wp 35 #[ndV n p1, frV f.id f.rm f.ln a1 f.D.length f.D.length] (by go_simp) ?_
      refine (HI.out p1 a1 f.D.length _ P1 N1).mono ?_
      rintro e u26 ⟨p2, j2, _, _, rfl, I2, b⟩
      replace B0 := Below.then2 B0 b
      replace AL := (b.block _ ltal).trans AL
      replace ltal := Nat.lt_of_lt_of_le ltal b.size
      clear b
      refine ⟨_, rfl, (YQ.below B0), ?_⟩
      try simp only [Act.put, List.setIfInBounds_toArray, List.set_cons_zero, List.set_cons_succ]
      refine wpAnyH_take (i := 5) (v := .tuple #[ndV N p2, .int .i64 k]) (op_at rfl) (by kernel_rfl) (by kernel_rfl) (by kernel_rfl) (fun _ _ _ h => h) (.inl ⟨rfl, fun u hu => by go_simp⟩) (YQ.below B0) ?_
      try simp only [Act.put, List.setIfInBounds_toArray, List.set_cons_zero, List.set_cons_succ]
      refine wpAnyH_take (i := 6) (v := ndV N p2) (op_at rfl) (by kernel_rfl) (by kernel_rfl) (by kernel_rfl) (fun _ _ _ h => h) (.inl ⟨rfl, fun u hu => by go_simp⟩) (YQ.below B0) ?_
      try simp only [Act.put, List.setIfInBounds_toArray, List.set_cons_zero, List.set_cons_succ]
      refine wpAnyH_take (i := 7) (v := .int .i64 k) (op_at rfl) (by kernel_rfl) (by kernel_rfl) (by kernel_rfl) (fun _ _ _ h => h) (.inl ⟨rfl, fun u hu => by go_simp⟩) (YQ.below B0) ?_
      try simp only [Act.put, List.setIfInBounds_toArray, List.set_cons_zero, List.set_cons_succ]
      have B1 : Below w18.heap.size w18 (u26.setRow gal (ndC N p2)) := below_setRow B0 hg0 (ndC N p2)
      refine held_put 9 gal (op_at rfl) (by kernel_rfl) rfl rfl rfl rfl rfl AL rfl (YQ.below B1) ?_
      try simp only [Act.put, List.setIfInBounds_toArray, List.set_cons_zero, List.set_cons_succ]
      have M2 : NdM N p2 (u26.setRow gal (ndC N p2)) := (I2.sep (mid_setRow _ gal (ndC N p2)) (.inr hal)).ndm hN
      have AR : (u26.setRow gal (ndC N p2)).heap[gal]? = some (.cells (ndC N p2) 66 (0, 0)) := setRow_heap _ _ _ _ _ _ AL
      refine held_value 10 (.int .i64 k) (op_at rfl) (by kernel_rfl) rfl (by go_simp) (YQ.below B1) ?_
      refine wpAnyH_done (by kernel_rfl) ?_ _
      try simp only [Act.put, List.setIfInBounds_toArray, List.set_cons_zero, List.set_cons_succ]
      clear I2 AL ltal hal
      go_wp2_with fail
      go_meet
      exact ⟨gal, p2, rfl, rfl, AR, M2, B1⟩
  case rest =>
  obtain ⟨gj, p19, rfl, rfl, D, M19, b⟩ := hcut
  generalize wc = w19 at *
  replace Q := Below.then2 Q b
  replace C := (b.block _ (Array.getElem?_eq_some_iff.1 C).1).trans C
  replace I9 := I9.below b
  clear b YQ
  go_wp2_with (first | (refine Nx.take (w0 := w) ⟨D, (Y.below Q).bel⟩ rfl rfl rfl ?_) | (refine Nx.take (w0 := w) ⟨(Q.block _ hgw).trans A, (Y.below Q).bel⟩ rfl rfl rfl ?_))
  refine (eqN N p19 p3 _ M19 (M3.below Q)).mono ?_
  rintro e w20 ⟨rfl, b⟩
  replace Q := Below.then2 Q b
  replace I9 := I9.below b
  replace C := (b.block _ (Array.getElem?_eq_some_iff.1 C).1).trans C
  clear b M19 D
  go_wp2_with (refine Nx.take (w0 := w) ⟨C, (Y.below Q).bel⟩ rfl rfl rfl ?_)
  refine (heldNodeO N p6 1 _ (I9.ndm hm14) hN (by omega) (by omega)).mono ?_
  rintro e w21 ⟨rfl, b⟩
  replace Q := Below.then2 Q b
  have hb := (Y.below Q).bel
  clear b C I9
  go_wp2_with fail
  go_ret
  exact ⟨rfl, hb⟩
end Go.Proofs.YtjlegnnekjcpmaaGreat
