/- The program's sampled, and Sampled: what sampN tells; Sampled's lists and its frame in rows of their own. -/
import Derived.Test.YtngcekegngmedaaGreatDoorM41
import Derived.Test.YtngcekegngmedaaGreatDoorM34
import Derived.Test.YtngcekegngmedaaGreatDoorM38
import Derived.Test.YtngcekegngmedaaGreatDoorM40
import Derived.Test.YtngcekegngmedaaGreatDoorM12
import Derived.Test.YtngcekegngmedaaGreatDoorM15
import Derived.Test.YtngcekegngmedaaGreatDoorM33
import Derived.Test.YtngcekegngmedaaGreatDoorM30
import Derived.Test.YtngcekegngmedaaGreatDoorM9
import Derived.Test.YtngcekegngmedaaGreatDoorM51
import Derived.Test.YtngcekegngmedaaGreatDoorM39

set_option linter.unusedVariables false
set_option linter.unusedSimpArgs false
set_option maxRecDepth 20000
namespace Go.Proofs.YtngcekegngmedaaGreatDoor
open Go.RowKit

/-- What Sampled answers. -/
def sampA (n : Nd) (l : Int) : Nd × Int × Frm := if (nodeB n && rng l 0 1) = true then sampN n l else (znd [], 0, zF)
/-- The answer's frame has a row of its own, behind it the node's lists have theirs. -/
def SampO (r : Nd × Int × Frm) (w : World) (e : Ending) (w' : World) : Prop :=
  ∃ (p : NdP) (ad : Option Addr) (cd : Nat) (j : NdJ) (b : Nat) (MB MF : List (Frm × Value)), e = .returned (.tuple #[ndV r.1 p, hpV r.2.1 r.2.2 ad cd]) ∧ OwnI w.heap.size r.2.2.D (.slice ad r.2.2.D.length cd) w'
    ∧ (∀ q, (Value.slice ad r.2.2.D.length cd).ownBlock = some q → q < b) ∧ w.heap.size ≤ b ∧ NdI j b w'.heap.size r.1 p MB MF w' ∧ Below w.heap.size w w'
theorem ownI_nil (B : Nat) (w : World) : OwnI B [] (.slice none 0 0) w := ⟨⟨rfl, .inl ⟨rfl, rfl⟩⟩, by simp⟩
theorem ownF_nil (B : Nat) (w : World) : OwnF B [] (.slice none 0 0) w := ⟨⟨rfl, .inl ⟨rfl, rfl⟩⟩, fun m hm => by cases hm⟩
theorem ndO_zero (B : Nat) (w : World) : NdO B B B B (znd []) (zp none 0) [] [] w :=
  ⟨ownI_nil _ _, ownF_nil _ _, ownF_nil _ _, ownP_nil _ _, rfl, rfl, fun i j hi => absurd hi (by simp), fun i j hi => absurd hi (by simp), (fun q hq => by cases hq), ⟨(fun q hq => by cases hq), (fun m hm => by cases hm)⟩, ⟨(fun q hq => by cases hq), (fun m hm => by cases hm)⟩, ⟨Nat.le_refl _, Nat.le_refl _, Nat.le_refl _⟩, Nat.zero_le _⟩
theorem small_right {n : Nd} (h : nodeB n = true) : Small n := by
  obtain ⟨R, -⟩ := right_iff.1 h
  have hb := boxB_iff.1 R.box
  refine ⟨frB_short R.fr, by omega, fun j hj => frB_short ?_, by have := fifo_32 R.fifo; omega, fifo_short R.fifo, by have := R.flt.1; omega⟩
  cases h2 : frB (nthF n.box j) with
  | true => rfl
  | false => have h3 := rk_neg h2; have h4 := (hb.2 j hj).1; omega
theorem ownLtI {B : Nat} {D : List Int} {v : Value} {w : World} (h : OwnI B D v w) : ∀ q, v.ownBlock = some q → q < w.heap.size := fun q hq => (h.1.lt q hq).2
theorem SampO.zero {w w' : World} (b : Below w.heap.size w w') : SampO (znd [], 0, zF) w (.returned (.tuple #[ndV (znd []) (zp none 0), hpV 0 zF none 0])) w' := by
  obtain ⟨j, h⟩ := (ndO_zero w.heap.size w').ndI3 b.size
  exact ⟨zp none 0, none, 0, j, w.heap.size, [], [], rfl, ownI_nil _ _, fun q hq => (by cases hq), Nat.le_refl _, h, b⟩
section
variable {g gh g2 : Nat} {n : Nd} {p : NdP} {k : Int} {f : Frm} {ad : Option Addr} {cd : Nat} {w0 w w' : World}
theorem Ans.row (h : Ans g gh n p k f ad cd w0 w) (D : Array Value) (h1 : g ≠ g2) (h2 : gh ≠ g2) (hB : w0.heap.size ≤ g2) : Ans g gh n p k f ad cd w0 (w.setRow g2 D) :=
  ⟨(setRow_other w g2 g D h1).trans h.nd, (setRow_other w g2 gh D h2).trans h.hp, below_setRow h.bel hB D⟩
theorem Ans.tookN (h : Ans g gh n p k f ad cd w0 w) {o : Oper} {a : Act} {x : Operand} (ho : o.op = .load 32 x) (hx : a.eval x = .pointer (some ⟨g, 0, none⟩)) : (execOp a.eval o).run Tryz.prog w = .ok (.value (ndV n p)) w := Nx.took (g := g) (w0 := w0) ⟨h.nd, h.bel⟩ ho hx
theorem Ans.tookH (h : Ans g gh n p k f ad cd w0 w) {o : Oper} {a : Act} {x : Operand} (ho : o.op = .load 36 x) (hx : a.eval x = .pointer (some ⟨gh, 0, none⟩)) : (execOp a.eval o).run Tryz.prog w = .ok (.value (hpV k f ad cd)) w := by
  unfold execOp
  simp only [ho, hx, Instr.loadAt, Instr.sureAddr, Sem.run_bind, Sem.run_pure, Result.andThen_ok, run_loadVar_row w gh 36 36 (hpC k f ad cd) (0, 0) _ h.hp Tryz.underlying36 rfl (by kernel_rfl)]
end
theorem K3.grown {gr gh a : Nat} {C E : Array Value} {w0 w w' : World} (h : K3 gr gh C E w0 w) (k : w.grownBy w' (some a)) (h1 : gr ≠ a) (h2 : gh ≠ a) (hB : w0.heap.size ≤ a) : K3 gr gh C E w0 w' :=
  ⟨(k.block gr h.lt.1 (fun e => h1 (Option.some.inj e))).trans h.res, (k.block gh h.lt.2 (fun e => h2 (Option.some.inj e))).trans h.hap, h.bel.grown k h.bel.size (fun q e => by cases e; exact hB), h.hr, h.hh, h.rh⟩
theorem results_put {a : Act} {d : Tmp} {v : Value} (h4 : d ≠ 4) (h5 : d ≠ 5) : results Tryz.f78 (a.put (some d) v).tmps = results Tryz.f78 a.tmps := by
  simp [results, Tryz.results78, Act.put, Array.getElem?_setIfInBounds, h4, h5]
theorem leaves_same {P : Program} {fn : Func} {tmps tmps' : Array Value} {R : Ending → World → Prop} (h : results fn tmps = results fn tmps') : ∀ (ds : List Deferred) (u : FrameMode) (w : World), Leaves P fn tmps R ds u w → Leaves P fn tmps' R ds u w := by
  intro ds
  induction ds with
  | nil =>
    intro u w hl
    cases u with
    | run => exact hl
    | returning => obtain ⟨v, hv, hR⟩ := hl; exact ⟨v, by rw [← h]; exact hv, hR⟩
    | panicking c => exact hl
  | cons d ds ih =>
    intro u w hl
    obtain ⟨h1, fv, cap, f, args, h2, h3, h4⟩ := hl
    refine ⟨h1, fv, cap, f, args, h2, h3, h4.mono ?_⟩
    intro e u' w' k
    cases e with
    | returned v => exact ih _ _ k
    | panicked c => exact ih _ _ k
    | outgrown => exact k
theorem brkN_fr (n : Nd) : (brkN n).2.2 = zF := by unfold brkN; split <;> rfl
theorem samp_fr {n : Nd} (l : Int) (h : frB n.fr = true) : frB (sampN n l).2.2 = true := by
  have hz := zF_ok
  have hb : frB (brkN n).2.2 = true := by rw [brkN_fr]; exact hz
  unfold sampN
  split
  · split <;> exact hz
  split
  · unfold bodyN
    split
    · split
      · exact hb
      · exact hz
    · split
      · split
        · exact hb
        · exact hz
      · exact hz
  split
  · unfold tailN
    split
    · exact hb
    · split
      · split
        · unfold heardN
          split
          · exact rdF_ok _
          · exact hz
        · exact hz
      · split
        · exact h
        · exact hz
  split
  · rw [(offN_lists n l).2.2.2.2]; exact hz
  · exact hz
theorem Small.lists {n m : Nd} (h : Small n) (e1 : m.fr = n.fr) (e2 : m.box = n.box) (e3 : m.fifo = n.fifo) (e4 : m.flt = n.flt) : Small m :=
  ⟨by rw [e1]; exact h.dat, by rw [e2]; exact h.box, by rw [e2]; exact h.box8, by rw [e3]; exact h.fifo, by rw [e3]; exact h.fifo8, by rw [e4]; exact h.flt⟩
theorem op_panic {P : Program} {K : Act → World → Prop} {Q : Exit → Act → World → Prop} {o : Oper} {a : Act} {w : World} (f : FuncId) (args : Array Value) (hx : (execOp a.eval o).run P w = .ok (.enter f args) w)
    (h : Calls P f args w fun e w' => ∃ ch, e = .panicked ch ∧ Q (.panic ch) a w') : o.wp P a w K Q := by
  unfold Oper.wp
  rw [hx, Oper.upon_enter]
  exact h.mono fun e w' h' => by
    obtain ⟨ch, he, k⟩ := h'
    subst he
    exact k

set_option maxHeartbeats 16000000 in
/-- impl.sampled. -/
theorem implSamp (n : Nd) (p : NdP) (l : Int) (a0 w : World) (h0 : NdM n p a0) (ha : Below a0.heap.size a0 w) (hok : nodeB n = true) (hl : l = 0 ∨ l = 1) (hE : ErrHeld a0) (hNA : NdA n p) :
    Calls Tryz.prog 78 #[ndV n p, .int .i64 l] w (SampX a0 (NdA n p) (sampN n l) w) := by
  have hmf : ∀ (fn : Fn) (first cap : Array Value) (w : World), (Instr.makeFunc fn first cap).run Tryz.prog w = .ok (.func fn first cap) w := fun _ _ _ _ => rfl
  have X := N3.made (ndC n p) w
  go_enter_defers Tryz.func78, Tryz.ntmps78
  go_upto_region 2 with fail
  generalize World.alloc _ _ = W at X ⊢
  generalize w.heap.size + 1 + 1 = gh at X ⊢
  generalize w.heap.size + 1 = gr at X ⊢
  generalize w.heap.size = g at X ⊢
  obtain ⟨f, hf1, hf3, hf2⟩ := stepsTo n p l a0 h0 hok hl hE hNA
  replace hok := Lib.hid hok
  replace hf1 := Lib.hid hf1
  replace hf3 := Lib.hid hf3
  replace hf2 := Lib.hid hf2
  refine wp_region_held (S := fun u => Nx g n p w u) (by kernel_rfl) ?_
  replace X := X.drew'
  generalize ({ W with drawn := W.drawn + 1 } : World) = V at X ⊢
  refine take_at 1 _ (.pointer (some ⟨g, 0, none⟩)) rfl rfl (by kernel_rfl) (by kernel_rfl) (by kernel_rfl) (fun c a w h => leaves_same (results_put (by decide) (by decide)) _ _ _ h) (.inl ⟨rfl, fun u hu => by go_simp⟩) X.nx ?_
  simp only [Act.put, List.setIfInBounds_toArray, List.set_cons_zero, List.set_cons_succ]
  refine take_at 2 _ (.int .i64 n.ph) rfl rfl (by kernel_rfl) (by kernel_rfl) (by kernel_rfl) (fun c a w h => leaves_same (results_put (by decide) (by decide)) _ _ _ h) (.inl ⟨rfl, fun u hu => by have d := hu.cells.1; go_simp⟩) X.nx ?_
  simp only [Act.put, List.setIfInBounds_toArray, List.set_cons_zero, List.set_cons_succ]
  refine take_at 4 _ (ndV n p) rfl rfl (by kernel_rfl) (by kernel_rfl) (by kernel_rfl) (fun c a w h => leaves_same (results_put (by decide) (by decide)) _ _ _ h) (.inl ⟨rfl, fun u hu => hu.took rfl rfl⟩) X.nx ?_
  simp only [Act.put, List.setIfInBounds_toArray, List.set_cons_zero, List.set_cons_succ]
  refine take_at 5 _ (.int .i64 l) rfl rfl (by kernel_rfl) (by kernel_rfl) (by kernel_rfl) (fun c a w h => leaves_same (results_put (by decide) (by decide)) _ _ _ h) (.inl ⟨rfl, fun u hu => by go_simp⟩) X.nx ?_
  simp only [Act.put, List.setIfInBounds_toArray, List.set_cons_zero, List.set_cons_succ]
  refine call_at 0 _ 155 #[] rfl rfl (by kernel_rfl) rfl (by go_simp) ?_
  refine (implSteps _).mono ?_
  rintro e w5 ⟨rfl, b⟩
  replace X := X.below b
  clear b
  refine ⟨_, rfl, X.nx, ?_⟩
  simp only [Act.put, List.setIfInBounds_toArray, List.set_cons_zero, List.set_cons_succ]
  refine value_at 3 _ (.func (.func f) #[] #[]) rfl rfl (by kernel_rfl) rfl (stepAt (hf1.out _) rfl rfl rfl) X.nx ?_
  simp only [Act.put, List.setIfInBounds_toArray, List.set_cons_zero, List.set_cons_succ]
  rcases hf2.out with hok2 | ⟨hbk, hok2⟩
  · refine call_at 6 _ f #[ndV n p, .int .i64 l] rfl rfl (by kernel_rfl) rfl (by have h3 := hf3.out; go_simp) ?_
    have hlt := X.lt
    have hw5 := X.bel.size
    refine (hok2 _ (from0 ha X.bel)).mono ?_
    rintro e w6 ⟨p5, ad5, cd5, rfl, hk5, b⟩
    replace X := X.below b
    clear b
    refine ⟨_, rfl, X.nx, ?_⟩
    simp only [Act.put, List.setIfInBounds_toArray, List.set_cons_zero, List.set_cons_succ]
    generalize hr6 : sampN n l = r at hk5 ⊢
    replace hr6 := Lib.hid hr6
    obtain ⟨n6, k6, f6⟩ := r
    dsimp only at hk5 ⊢
    refine take_at 7 _ (ndV n6 p5) rfl rfl (by kernel_rfl) (by kernel_rfl) (by kernel_rfl) (fun c a w h => leaves_same (results_put (by decide) (by decide)) _ _ _ h) (.inl ⟨rfl, fun u hu => by go_simp⟩) X.nx ?_
    simp only [Act.put, List.setIfInBounds_toArray, List.set_cons_zero, List.set_cons_succ]
    refine take_at 8 _ (hpV k6 f6 ad5 cd5) rfl rfl (by kernel_rfl) (by kernel_rfl) (by kernel_rfl) (fun c a w h => leaves_same (results_put (by decide) (by decide)) _ _ _ h) (.inl ⟨rfl, fun u hu => by go_simp⟩) X.nx ?_
    simp only [Act.put, List.setIfInBounds_toArray, List.set_cons_zero, List.set_cons_succ]
    refine held_row 9 gr (ndC n6 p5) rfl (by kernel_rfl) rfl rfl rfl rfl rfl X.res (by kernel_rfl) rfl (ndC_one _ _) (X.nxR _) ?_
    refine held_row 10 gh (hpC k6 f6 ad5 cd5) rfl (by kernel_rfl) rfl rfl rfl rfl rfl (X.fin _ #[]).1 (by kernel_rfl) rfl (hpC_one _ _ _ _) (X.nxH _ _) ?_
    refine wpAnyH_done (by kernel_rfl) ?_ _
    have hmid := X.midFin (a0 := a0) (ndC n6 p5) (hpC k6 f6 ad5 cd5) ha.size hlt.2.1 hlt.2.2
    have K : K3 gr gh (ndC n6 p5) (hpC k6 f6 ad5 cd5) w ((w6.setRow gr (ndC n6 p5)).setRow gh (hpC k6 f6 ad5 cd5)) := ((K3.mk X.res X.hap X.bel X.hr X.hh X.rh).setR _).setH _
    clear X
    generalize World.setRow _ _ _ = w7 at K hmid ⊢
    go_wp2_with fail
    refine leaves_cons (f := 153) (args := #[.pointer (some ⟨g, 0, none⟩), .pointer (some ⟨gr, 0, none⟩), .pointer (some ⟨gh, 0, none⟩)]) (by simp) (by simp [go_sem]) ?_
    refine (closBack g gr gh w7).mono ?_
    rintro e u' w8 ⟨rfl, rfl, b8⟩
    replace K := K.below b8
    refine (show Leaves _ _ _ _ [] .returning _ from ⟨.tuple #[ndV n6 p5, hpV k6 f6 ad5 cd5], results_both Tryz.results78 _ _ gr gh _ _ rfl rfl K.res K.hap rfl rfl, ?_⟩)
    rw [hr6.out]
    exact ⟨p5, ad5, cd5, rfl, fun u k => hk5 u ((hmid.trans (Mid.ofBelow b8)).trans (k.widen hw5)), K.bel⟩
  · refine held_op 6 rfl (by kernel_rfl) rfl (op_panic f #[ndV n p, .int .i64 l] (by have h3 := hf3.out; go_simp) ?_)
    refine (hok2 _ (from0 ha X.bel)).mono ?_
    rintro e w6 ⟨rfl, b⟩
    replace X := X.below b
    clear b
    refine ⟨_, rfl, ?_⟩
    rw [hbk]
    refine leaves_cons (f := 153) (args := #[.pointer (some ⟨g, 0, none⟩), .pointer (some ⟨gr, 0, none⟩), .pointer (some ⟨gh, 0, none⟩)]) (by simp) (by simp [go_sem]) ?_
    refine (closCaught g gr gh n p w w6 ⟨X.res, X.hap, X.bel, X.hr, X.hh, X.rh⟩ X.blk).mono ?_
    rintro e u' w8 ⟨rfl, rfl, K9⟩
    obtain ⟨l1, l2, l3, l4, l5⟩ := brkN_lists n
    have hfz := brkN_fr n
    generalize brkN n = r at *
    obtain ⟨n6, k6, f6⟩ := r
    dsimp only at *
    subst hfz
    refine (show Leaves _ _ _ _ [] .returning _ from ⟨.tuple #[ndV n6 p, hpV k6 zF none 0], results_both Tryz.results78 _ _ gr gh _ _ rfl rfl K9.res K9.hap rfl rfl, ?_⟩)
    exact ⟨p, none, 0, rfl, fun u k => ⟨(h0.below (fromM ha K9.bel k)).lists l1 l2 l3 l4 l5, Nums.nil _, fun h => ⟨by rw [l2]; exact h.box, by rw [l3]; exact h.fifo⟩⟩, K9.bel⟩
set_option maxHeartbeats 16000000 in
/-- impl.Sampled. -/
theorem implSampled (n : Nd) (p : NdP) (l : Int) (w : World) (hm : NdM n p w) (hE : ErrHeld w) (hNA : NdA n p) :
    Calls Tryz.prog 14 #[ndV n p, .int .i64 l] w (SampO (sampA n l) w) := by
  have X := N3.made (ndC n p) w
  go_enter Tryz.func14, Tryz.ntmps14
  go_upto_region 1 with fail
  generalize World.alloc _ _ = W at X ⊢
  generalize w.heap.size + 1 + 1 = gh at X ⊢
  generalize w.heap.size + 1 = gr at X ⊢
  generalize w.heap.size = g at X ⊢
  go_wp2_with (refine Nx.take ⟨X.blk, X.bel⟩ rfl rfl rfl ?_)
  refine (implNodeOk n p _ (hm.below X.bel)).mono ?_
  rintro e w2 ⟨rfl, b⟩
  replace X := X.below b
  clear b
  cases hok : nodeB n
  · have hA := Lib.hid (show sampA n l = (znd [], 0, zF) from if_neg (by rw [hok, Bool.false_and]; exact Bool.false_ne_true))
    clear hok
    go_wp2_with (first | (refine wpList_put (n := znd []) (p := zp none 0) X.res rfl rfl rfl rfl rfl ?_) | (refine wpList_tell (k := 0) (f := zF) (ad := none) (cd := 0) (X.fin (ndC (znd []) (zp none 0)) #[]).1 rfl rfl rfl rfl rfl ?_))
    obtain ⟨-, Z1, Z2, Z3⟩ := X.fin (ndC (znd []) (zp none 0)) (hpC 0 zF none 0)
    refine bodyPost_ret (v := .tuple #[ndV (znd []) (zp none 0), hpV 0 zF none 0]) (results_both Tryz.results14 _ _ gr gh _ _ rfl rfl Z1 Z2 rfl rfl) rfl ?_
    rw [hA.out]
    exact SampO.zero Z3
  · replace hok := Lib.hid hok
    go_wp2_with fail
    refine (implWithin l 0 1 _).mono ?_
    rintro e w3 ⟨rfl, rfl⟩
    cases hr : rng l 0 1
    · have hA := Lib.hid (show sampA n l = (znd [], 0, zF) from if_neg (by rw [hr, Bool.and_false]; exact Bool.false_ne_true))
      clear hr
      go_wp2_with (first | (refine wpList_put (n := znd []) (p := zp none 0) X.res rfl rfl rfl rfl rfl ?_) | (refine wpList_tell (k := 0) (f := zF) (ad := none) (cd := 0) (X.fin (ndC (znd []) (zp none 0)) #[]).1 rfl rfl rfl rfl rfl ?_))
      obtain ⟨-, Z1, Z2, Z3⟩ := X.fin (ndC (znd []) (zp none 0)) (hpC 0 zF none 0)
      refine bodyPost_ret (v := .tuple #[ndV (znd []) (zp none 0), hpV 0 zF none 0]) (results_both Tryz.results14 _ _ gr gh _ _ rfl rfl Z1 Z2 rfl rfl) rfl ?_
      rw [hA.out]
      exact SampO.zero Z3
    · have hA := Lib.hid (show sampA n l = sampN n l from if_pos (by rw [hr, hok.out]; rfl))
      have hl : l = 0 ∨ l = 1 := by have := rng_iff.1 hr; omega
      clear hr
      go_wp2_with (refine Nx.take ⟨X.blk, X.bel⟩ rfl rfl rfl ?_)
      have hlt := X.lt
      refine (implSamp n p l w _ hm X.bel hok.out hl hE hNA).mono ?_
      rintro e w5 ⟨p5, ad5, cd5, rfl, hk5, b⟩
      obtain ⟨M5, N5, -⟩ := hk5 w5 (Mid.refl _ _ _)
      have K : K3 gr gh ndZ hpZ w w5 := by
        have X5 := X.below b
        exact ⟨X5.res, X5.hap, X5.bel, X5.hr, X5.hh, X5.rh⟩
      have hlt5 := K.lt
      clear b hk5 X
      have hs6 := small_right (samp_right hok.out hl)
      have hf6 := frB_short (samp_fr l (right_iff.1 hok.out).1.fr)
      generalize hr6 : sampN n l = r at M5 N5 hs6 hf6 ⊢
      replace hr6 := Lib.hid hr6
      obtain ⟨n6, k6, f6⟩ := r
      dsimp only at M5 N5 hs6 hf6 ⊢
      have A := Ans.made n6 p5 k6 f6 ad5 cd5 w5 K.bel
      have b := ans_below n6 p5 k6 f6 ad5 cd5 w5 (Below.refl w5.heap.size w5) (Nat.le_refl _)
      have a1 := ans_node w5
      have a2 := ans_hap n6 p5 w5
      go_upto_region 4 with (first | (refine wpList_put (n := n6) (p := p5) a1 rfl rfl rfl rfl rfl ?_) | (refine wpList_tell (k := k6) (f := f6) (ad := ad5) (cd := cd5) a2 rfl rfl rfl rfl rfl ?_))
      clear a1 a2
      replace K := K.below b
      unfold ansW at K b A
      generalize World.setRow _ _ _ = W5 at K b A ⊢
      obtain ⟨ah, hah⟩ : ∃ q, w5.heap.size + 1 = q := ⟨_, rfl⟩
      obtain ⟨an, han⟩ : ∃ q, w5.heap.size = q := ⟨_, rfl⟩
      rw [hah] at A ⊢
      rw [han] at A hah ⊢
      have d1 : W5.cell? ⟨ah, 1, none⟩ = some (.int .i64 f6.id) := cell_of_row W5 ah 1 _ _ _ A.hp
      have d2 : W5.cell? ⟨ah, 2, none⟩ = some (.bool f6.rm) := cell_of_row W5 ah 2 _ _ _ A.hp
      have d3 : W5.cell? ⟨ah, 3, none⟩ = some (.int .i64 f6.ln) := cell_of_row W5 ah 3 _ _ _ A.hp
      have d4 : W5.cell? ⟨ah, 4, none⟩ = some (.slice ad5 f6.D.length cd5) := cell_of_row W5 ah 4 _ _ _ A.hp
      simp only [Act.put]
      go_wp2_with fail
      refine (copiedFr f6.id f6.rm f6.ln ad5 f6.D cd5 _ (N5.below b) hf6).mono ?_
      rintro e w6 ⟨a6, rfl, O6, b6⟩
      have hb5 := b.size
      have hnl := A.lt
      have U6 := ownLtI O6
      replace K := K.below b6
      replace A := A.below b6
      have B6 := Below.then2 b b6
      have hz6 := b6.size
      clear d1 d2 d3 d4 b6 b N5
      have d1 : w6.cell? ⟨ah, 1, none⟩ = some (.int .i64 f6.id) := cell_of_row w6 ah 1 _ _ _ A.hp
      have d2 : w6.cell? ⟨ah, 2, none⟩ = some (.bool f6.rm) := cell_of_row w6 ah 2 _ _ _ A.hp
      have d3 : w6.cell? ⟨ah, 3, none⟩ = some (.int .i64 f6.ln) := cell_of_row w6 ah 3 _ _ _ A.hp
      have d4 : w6.cell? ⟨ah, 4, none⟩ = some (.slice ad5 f6.D.length cd5) := cell_of_row w6 ah 4 _ _ _ A.hp
      obtain ⟨q1, q2, q3, q4⟩ : _ ∧ _ ∧ _ ∧ _ := ⟨frozen_of_row w6 ah 1 _ _ A.hp, frozen_of_row w6 ah 2 _ _ A.hp, frozen_of_row w6 ah 3 _ _ A.hp, frozen_of_row w6 ah 4 _ _ A.hp⟩
      go_upto_region 5 with fail
      have gg := K3.grown4 w6 ah (.int .i64 f6.id) (.bool f6.rm) (.int .i64 f6.ln) (.slice a6 f6.D.length f6.D.length)
      have hp7 : _ = some (Obj.cells (hpC k6 f6 a6 f6.D.length) 36 (0, 0)) := heap_setCell_same _ ah 4 _ _ (.slice a6 f6.D.length f6.D.length) (heap_setCell_same _ ah 3 _ _ (.int .i64 f6.ln) (heap_setCell_same _ ah 2 _ _ (.bool f6.rm) (heap_setCell_same w6 ah 1 _ _ (.int .i64 f6.id) A.hp)))
      have hrr := K.hr
      have hhh := K.hh
      replace K := K.grown gg (by omega) (by omega) (by omega)
      have B7 := B6.grown gg B6.size (fun q e => by cases e; omega)
      have nd7 := (gg.block an A.lt.1 (fun e => by have := Option.some.inj e; omega)).trans A.nd
      replace O6 := O6.kept2 gg hnl.2
      have hz7 := gg.size
      clear d1 d2 d3 d4 q1 q2 q3 q4 A B6 gg
      generalize World.setCell _ _ _ = w7 at hp7 K B7 nd7 O6 hz7 ⊢
      have A7 : Ans an ah n6 p5 k6 f6 a6 f6.D.length w w7 := ⟨nd7, hp7, K.bel⟩
      have M7 := M5.below B7
      clear nd7 hp7 M5
      try simp only [Act.put]
      refine wp_region_held (S := fun u => Ans an ah n6 p5 k6 f6 a6 f6.D.length w u) (by kernel_rfl) ?_
      have bd : Below w7.heap.size w7 { w7 with drawn := w7.drawn + 1 } := (Below.refl _ _).drew
      replace K := K.below bd
      replace A7 := A7.below bd
      replace M7 := M7.below bd
      replace O6 := O6.below' bd
      have hz8 := bd.size
      clear bd B7
      generalize ({ w7 with drawn := w7.drawn + 1 } : World) = V at K A7 M7 O6 hz8 ⊢
      refine h_take 0 28 (ndV n6 p5) rfl rfl (by kernel_rfl) (by kernel_rfl) (by kernel_rfl) (fun _ _ _ h => h) rfl (fun u hu => hu.tookN rfl rfl) A7 ?_
      refine h_take 2 30 (hpV k6 f6 a6 f6.D.length) rfl rfl (by kernel_rfl) (by kernel_rfl) (by kernel_rfl) (fun _ _ _ h => h) rfl (fun u hu => hu.tookH rfl rfl) A7 ?_
      simp only [Act.put, List.setIfInBounds_toArray, List.set_cons_zero, List.set_cons_succ]
      refine h_call 1 29 80 #[ndV n6 p5] rfl rfl (by kernel_rfl) rfl (by go_simp) ?_
      refine (implCopied n6 p5 _ M7 hs6.dat hs6.box hs6.box8 hs6.fifo hs6.fifo8 hs6.flt).mono ?_
      rintro e W2 ⟨p2, b1, b2, b3, MB, MF, rfl, O, b', -⟩
      have hzV := b'.size
      replace K := K.below b'
      replace A7 := A7.below b'
      replace O6 := O6.below' b'
      clear b' M7
      refine ⟨_, rfl, A7, ?_⟩
      simp only [Act.put, List.setIfInBounds_toArray, List.set_cons_zero, List.set_cons_succ]
      have A8 := A7.row (g2 := gr) (ndC n6 p2) (by omega) (by omega) hrr
      refine held_row 3 gr (ndC n6 p2) rfl (by kernel_rfl) rfl rfl rfl rfl rfl K.res (by kernel_rfl) rfl (ndC_one _ _) A8 ?_
      replace O := O.keptG (grown_row _ gr (ndC n6 p2)) (by omega)
      replace O6 := O6.kept2 (grown_row _ gr (ndC n6 p2)) (by omega)
      replace K := K.setR (ndC n6 p2)
      have hs4 : (W2.setRow gr (ndC n6 p2)).heap.size = W2.heap.size := by simp
      clear A7
      generalize W2.setRow gr (ndC n6 p2) = W4 at K A8 O O6 hs4 ⊢
      have A9 := A8.row (g2 := gh) (hpC k6 f6 a6 f6.D.length) (by omega) (by omega) hhh
      refine held_row 4 gh (hpC k6 f6 a6 f6.D.length) rfl (by kernel_rfl) rfl rfl rfl rfl rfl K.hap (by kernel_rfl) rfl (hpC_one _ _ _ _) A9 ?_
      replace O := O.keptG (grown_row _ gh (hpC k6 f6 a6 f6.D.length)) (by omega)
      replace O6 := O6.kept2 (grown_row _ gh (hpC k6 f6 a6 f6.D.length)) (by omega)
      replace K := K.setH (hpC k6 f6 a6 f6.D.length)
      have hs5 : (W4.setRow gh (hpC k6 f6 a6 f6.D.length)).heap.size = W4.heap.size := by simp
      clear A8 A9
      generalize W4.setRow gh (hpC k6 f6 a6 f6.D.length) = W8 at K O O6 hs5 ⊢
      refine wpAnyH_done (by kernel_rfl) ?_ _
      go_wp2_with fail
      refine bodyPost_ret (v := .tuple #[ndV n6 p2, hpV k6 f6 a6 f6.D.length]) (results_both Tryz.results14 _ _ gr gh _ _ rfl rfl K.res K.hap rfl rfl) rfl ?_
      rw [hA.out, hr6.out]
      obtain ⟨j, I⟩ := O.ndI3 (by omega)
      have hwk := K.bel.size
      exact ⟨p2, a6, f6.D.length, j, V.heap.size, MB, MF, rfl, O6.mono (by omega), fun q hq => (by have := U6 q hq; omega), by omega, I, K.bel⟩
end Go.Proofs.YtngcekegngmedaaGreatDoor

/- What Sampled answers, by the names of its parts; its room. -/

set_option linter.unusedVariables false
set_option linter.unusedSimpArgs false
set_option maxRecDepth 20000
namespace Go.Proofs.YtngcekegngmedaaGreatDoor
open Go.RowKit

/-- What Sampled answers, by the names of its parts. -/
def SampRx (N : Nd) (k : Int) (f : Frm) (w : World) (e : Ending) (w' : World) : Prop :=
  ∃ (p : NdP) (ad : Option Addr) (cd : Nat), e = .returned (.tuple #[ndV N p, hpV k f ad cd]) ∧ NdM N p w' ∧ Nums ad f.D w' ∧ Below w.heap.size w w'
def SampOx (N : Nd) (k : Int) (f : Frm) (w : World) (e : Ending) (w' : World) : Prop :=
  ∃ (p : NdP) (ad : Option Addr) (cd : Nat) (j : NdJ) (b : Nat) (MB MF : List (Frm × Value)), e = .returned (.tuple #[ndV N p, hpV k f ad cd]) ∧ OwnI w.heap.size f.D (.slice ad f.D.length cd) w'
    ∧ (∀ q, (Value.slice ad f.D.length cd).ownBlock = some q → q < b) ∧ w.heap.size ≤ b ∧ NdI j b w'.heap.size N p MB MF w' ∧ Below w.heap.size w w'
theorem sampA_room (n : Nd) (l : Int) : roomN (sampA n l).1 ≤ 600 ∧ (sampA n l).2.2.D.length ≤ 8 := by
  unfold sampA
  split
  · rename_i h
    rw [Bool.and_eq_true] at h
    have hl : l = 0 ∨ l = 1 := by have := rng_iff.1 h.2; omega
    exact ⟨roomN_right (samp_right h.1 hl), frB_8 (samp_fr l (right_iff.1 h.1).1.fr)⟩
  · exact ⟨by rw [roomN_zero]; omega, by decide⟩
end Go.Proofs.YtngcekegngmedaaGreatDoor

/- The model's steps of a node: the small ones. -/

set_option linter.unusedVariables false
set_option linter.unusedSimpArgs false
set_option maxRecDepth 20000
namespace Go.Proofs.YtngcekegngmedaaGreatDoor
open Go.RowKit


theorem specHappen (k : Int) (w : World) : Calls Tryz.prog 158 #[.int .i64 k] w fun e w' => e = .returned (hpV k zF none 0) ∧ Below w.heap.size w w' := by
  have HB := heap_alloc_new w (.cells hpZ 36)
  have hb : Below w.heap.size w (w.alloc (.cells hpZ 36)) := below_more (Below.refl _ _) _
  go_enter Tryz.func158, Tryz.ntmps158
  go_upto_region 1 with fail
  generalize hg : w.heap.size = g at *
  generalize w.alloc _ = W at HB hb ⊢
  go_wp2_with (refine wpList_tell (k := k) (f := zF) (ad := none) (cd := 0) HB rfl rfl rfl rfl rfl ?_)
  refine bodyPost_ret (v := hpV k zF none 0) ?_ rfl ⟨rfl, by rw [hg]; exact below_setRow hb (Nat.le_refl _) _⟩
  exact results_cell_row Tryz.results158 _ _ g 36 _ (0, 0) _ rfl (setRow_heap _ _ _ _ _ _ HB) Tryz.underlying36 rfl (by kernel_rfl)
theorem specText (l : Int) (w : World) (hl : l = 0 ∨ l = 1) : Calls Tryz.prog 248 #[.int .i64 l] w fun e w' => e = .returned (.string (bitS l)) ∧ w = w' := by
  go_enter Tryz.func248, Tryz.ntmps248
  rcases hl with rfl | rfl
  · go_wp2_with fail
    go_ret
    exact ⟨rfl, rfl⟩
  · go_wp2_with fail
    go_ret
    exact ⟨rfl, rfl⟩

set_option maxHeartbeats 4000000 in
/-- spec.l12Begin. -/
theorem specBegin (n : Nd) (p : NdP) (tx : Bool) (w : World) :
    Calls Tryz.prog 159 #[ndV n p, .bool tx] w fun e w' => e = .returned (ndV (begN n tx) p) ∧ Below w.heap.size w w' := by
  have X := N2.made2 (ndC n p) w
  go_enter Tryz.func159, Tryz.ntmps159
  go_upto_region 1 with fail
  generalize World.alloc _ _ = W at X ⊢
  generalize w.heap.size + 1 = gr at X ⊢
  generalize w.heap.size = g at X ⊢
  have c0 : W.cell? ⟨g, 0, none⟩ = some (.int .i64 n.ph) := X.cell 0
  have c1 : W.cell? ⟨g, 1, none⟩ = some (.bool n.tx) := X.cell 1
  have c3 : W.cell? ⟨g, 3, none⟩ = some (.bool n.bad) := X.cell 3
  have c8 : W.cell? ⟨g, 8, none⟩ = some (.string n.got) := X.cell 8
  have c9 : W.cell? ⟨g, 9, none⟩ = some (.int .i64 n.run) := X.cell 9
  have c10 : W.cell? ⟨g, 10, none⟩ = some (.int .i64 n.last) := X.cell 10
  have c12 : W.cell? ⟨g, 12, none⟩ = some (.int .i64 n.left) := X.cell 12
  have f0 := X.free 0
  have f8 := X.free 8
  have f9 := X.free 9
  have f10 := X.free 10
  have f12 := X.free 12
  have f1 := X.free 1
  have f3 := X.free 3
  go_upto_region 8 with fail
  clear c0 c1 c3 c8 c9 c10 c12 f0 f8 f9 f10 f12 f1 f3
  replace X : N2 g gr (ndC ({ n with ph := 1, got := ⟨#[48]⟩, run := 1, last := 0 }) p) w _ := ((((X.set 0 (.int .i64 1)).set 8 (.string ⟨#[48]⟩)).set 9 (.int .i64 1)).set 10 (.int .i64 0))
  replace X : N2 g gr (ndC (begN n tx) p) w _ := (((X.set 12 (.int .i64 0)).set 1 (.bool tx)).set 3 (.bool false))
  generalize World.setCell _ _ _ = W1 at X ⊢
  go_wp2_with (first | (refine Nx.take ⟨X.blk, X.bel⟩ rfl rfl rfl ?_) | (refine wpList_put X.res rfl rfl rfl rfl rfl ?_))
  refine bodyPost_ret (v := ndV (begN n tx) p) ?_ rfl ⟨rfl, (X.fin _).2.2⟩
  exact results_one Tryz.results159 _ _ gr _ rfl (X.fin (ndC (begN n tx) p)).1 rfl

set_option maxHeartbeats 8000000 in
/-- spec.l12Hear. -/
theorem specHear (n : Nd) (p : NdP) (l : Int) (w : World) (hl : l = 0 ∨ l = 1) (hr : 0 ≤ n.run ∧ n.run ≤ 11) (hs : n.got.size ≤ 98) :
    Calls Tryz.prog 212 #[ndV n p, .int .i64 l] w fun e w' => e = .returned (ndV (hearN n l) p) ∧ Below w.heap.size w w' := by
  have hz : (n.got ++ bitS l).size = n.got.size + 1 := by rw [ByteArray.size_append, bitS_size]
  have hsz : ¬ 9223372036854775807 < n.got.size + (bitS l).size := by rw [bitS_size]; omega
  have hrw : IntKind.i64.wrap (n.run + 1) = n.run + 1 := IntWalk.i64_in _ (by omega)
  have HT := Lib.hid (fun w => specText l w hl)
  replace hl := Lib.hid hl
  by_cases h : l = n.last
  · have h' : (l == n.last) = true := beq_iff_eq.2 h
    rw [show hearN n l = { n with got := n.got ++ bitS l, run := n.run + 1, last := l } from by unfold hearN; rw [if_pos h]]
    clear h
    generalize bitS l = t at *
    generalize hgt : n.got ++ t = gt at *
    have X := N2.made2 (ndC n p) w
    go_enter Tryz.func212, Tryz.ntmps212
    go_upto_region 1 with fail
    generalize World.alloc _ _ = W at X ⊢
    generalize w.heap.size + 1 = gr at X ⊢
    generalize w.heap.size = g at X ⊢
    have c8 : W.cell? ⟨g, 8, none⟩ = some (.string n.got) := X.cell 8
    have f8 := X.free 8
    go_region_law (first
      | (go_simp
         go_at_call 248
         refine (HT.out _).mono ?_
         rintro e w2 ⟨rfl, rfl⟩))
    all_goals
      clear c8 f8
      replace X : N2 g gr (ndC { n with got := gt } p) w _ := (X.set 8 (.string gt)).drew
      generalize World.drew _ = W2 at X ⊢
      have c9 : W2.cell? ⟨g, 9, none⟩ = some (.int .i64 n.run) := X.cell 9
      have c10 : W2.cell? ⟨g, 10, none⟩ = some (.int .i64 n.last) := X.cell 10
      have f9 := X.free 9
      have f10 := X.free 10
      go_upto_region 6 with fail
      clear c9 c10 f9 f10
      replace X : N2 g gr (ndC ({ n with got := gt, run := n.run + 1, last := l }) p) w _ := ((X.set 9 (.int .i64 (n.run + 1))).set 10 (.int .i64 l))
      generalize World.setCell _ _ _ = W3 at X ⊢
      go_wp2_with (first | (refine Nx.take ⟨X.blk, X.bel⟩ rfl rfl rfl ?_) | (refine wpList_put X.res rfl rfl rfl rfl rfl ?_))
      refine bodyPost_ret (v := ndV ({ n with got := gt, run := n.run + 1, last := l }) p) ?_ rfl ⟨rfl, (X.fin _).2.2⟩
      exact results_one Tryz.results212 _ _ gr _ rfl (X.fin (ndC ({ n with got := gt, run := n.run + 1, last := l }) p)).1 rfl
  · have h' : (l == n.last) = false := beq_eq_false_iff_ne.2 h
    rw [show hearN n l = { n with got := n.got ++ bitS l, run := 1, last := l } from by unfold hearN; rw [if_neg h]]
    clear h
    generalize bitS l = t at *
    generalize hgt : n.got ++ t = gt at *
    have X := N2.made2 (ndC n p) w
    go_enter Tryz.func212, Tryz.ntmps212
    go_upto_region 1 with fail
    generalize World.alloc _ _ = W at X ⊢
    generalize w.heap.size + 1 = gr at X ⊢
    generalize w.heap.size = g at X ⊢
    have c8 : W.cell? ⟨g, 8, none⟩ = some (.string n.got) := X.cell 8
    have f8 := X.free 8
    go_region_law (first
      | (go_simp
         go_at_call 248
         refine (HT.out _).mono ?_
         rintro e w2 ⟨rfl, rfl⟩))
    all_goals
      clear c8 f8
      replace X : N2 g gr (ndC { n with got := gt } p) w _ := (X.set 8 (.string gt)).drew
      generalize World.drew _ = W2 at X ⊢
      have c9 : W2.cell? ⟨g, 9, none⟩ = some (.int .i64 n.run) := X.cell 9
      have c10 : W2.cell? ⟨g, 10, none⟩ = some (.int .i64 n.last) := X.cell 10
      have f9 := X.free 9
      have f10 := X.free 10
      go_upto_region 6 with fail
      clear c9 c10 f9 f10
      replace X : N2 g gr (ndC ({ n with got := gt, run := 1, last := l }) p) w _ := ((X.set 9 (.int .i64 1)).set 10 (.int .i64 l))
      generalize World.setCell _ _ _ = W3 at X ⊢
      go_wp2_with (first | (refine Nx.take ⟨X.blk, X.bel⟩ rfl rfl rfl ?_) | (refine wpList_put X.res rfl rfl rfl rfl rfl ?_))
      refine bodyPost_ret (v := ndV ({ n with got := gt, run := 1, last := l }) p) ?_ rfl ⟨rfl, (X.fin _).2.2⟩
      exact results_one Tryz.results212 _ _ gr _ rfl (X.fin (ndC ({ n with got := gt, run := 1, last := l }) p)).1 rfl

set_option maxHeartbeats 16000000 in
/-- spec.l12Whole. -/
theorem specWhole (n : Nd) (p : NdP) (w : World) (hs : n.got.size ≤ maxLen) :
    Calls Tryz.prog 211 #[ndV n p] w fun e w' => e = .returned (ndV (wholeN n) p) ∧ Below w.heap.size w w' := by
  have hdef : wholeB n.got = (decide (0 ≤ needV n.got) && decide (needV n.got ≤ n.got.size)) := rfl
  by_cases h1 : needV n.got < 0
  · have hw : wholeB n.got = false := by rw [hdef, decide_eq_false (by omega)]; rfl
    have d1 : decide (needV n.got < 0) = true := decide_eq_true h1
    rw [show wholeN n = n from by unfold wholeN; rw [if_neg (fun k => by rw [hw] at k; exact absurd k.1 (by decide))]]
    clear hdef hw h1
    have hm' := Lib.hid hs
    have HN := Lib.hid (fun w => specNeed n.got w hs)
    have X := N2.made2 (ndC n p) w
    go_enter Tryz.func211, Tryz.ntmps211
    go_upto_region 1 with fail
    generalize World.alloc _ _ = W at X ⊢
    generalize w.heap.size + 1 = gr at X ⊢
    generalize w.heap.size = g at X ⊢
    have c8 : W.cell? ⟨g, 8, none⟩ = some (.string n.got) := X.cell 8
    have c9 : W.cell? ⟨g, 9, none⟩ = some (.int .i64 n.run) := X.cell 9
    go_wp2_with fail
    refine (HN.out _).mono ?_
    rintro e w2 ⟨rfl, rfl⟩
    generalize needV n.got = q at *
    go_upto_region 3 with fail
    clear c8 c9
    go_wp2_with (first | (refine Nx.take ⟨X.blk, X.bel⟩ rfl rfl rfl ?_) | (refine wpList_put X.res rfl rfl rfl rfl rfl ?_))
    refine bodyPost_ret (v := ndV (n) p) ?_ rfl ⟨rfl, (X.fin _).2.2⟩
    exact results_one Tryz.results211 _ _ gr _ rfl (X.fin (ndC (n) p)).1 rfl
  · have d1 : decide (needV n.got < 0) = false := decide_eq_false h1
    by_cases h2 : (n.got.size : Int) < needV n.got
    · have hw : wholeB n.got = false := by rw [hdef, decide_eq_false (show ¬ needV n.got ≤ n.got.size by omega), Bool.and_false]
      have d2 : decide ((n.got.size : Int) < needV n.got) = true := decide_eq_true h2
      rw [show wholeN n = n from by unfold wholeN; rw [if_neg (fun k => by rw [hw] at k; exact absurd k.1 (by decide))]]
      clear hdef hw h1 h2
      have hm' := Lib.hid hs
      have HN := Lib.hid (fun w => specNeed n.got w hs)
      have X := N2.made2 (ndC n p) w
      go_enter Tryz.func211, Tryz.ntmps211
      go_upto_region 1 with fail
      generalize World.alloc _ _ = W at X ⊢
      generalize w.heap.size + 1 = gr at X ⊢
      generalize w.heap.size = g at X ⊢
      have c8 : W.cell? ⟨g, 8, none⟩ = some (.string n.got) := X.cell 8
      have c9 : W.cell? ⟨g, 9, none⟩ = some (.int .i64 n.run) := X.cell 9
      go_wp2_with fail
      refine (HN.out _).mono ?_
      rintro e w2 ⟨rfl, rfl⟩
      generalize needV n.got = q at *
      go_upto_region 3 with fail
      clear c8 c9
      go_wp2_with (first | (refine Nx.take ⟨X.blk, X.bel⟩ rfl rfl rfl ?_) | (refine wpList_put X.res rfl rfl rfl rfl rfl ?_))
      refine bodyPost_ret (v := ndV (n) p) ?_ rfl ⟨rfl, (X.fin _).2.2⟩
      exact results_one Tryz.results211 _ _ gr _ rfl (X.fin (ndC (n) p)).1 rfl
    · have hw : wholeB n.got = true := by rw [hdef, decide_eq_true (show 0 ≤ needV n.got by omega), decide_eq_true (show needV n.got ≤ n.got.size by omega)]; rfl
      have d2 : decide ((n.got.size : Int) < needV n.got) = false := decide_eq_false h2
      clear hdef h1 h2
      by_cases h5 : n.run = 5
      · have d5 : (n.run == 5) = true := beq_iff_eq.2 h5
        rw [show wholeN n = n from by unfold wholeN; rw [if_neg (fun k => k.2 h5)]]
        clear hw h5
        have hm' := Lib.hid hs
        have HN := Lib.hid (fun w => specNeed n.got w hs)
        have X := N2.made2 (ndC n p) w
        go_enter Tryz.func211, Tryz.ntmps211
        go_upto_region 1 with fail
        generalize World.alloc _ _ = W at X ⊢
        generalize w.heap.size + 1 = gr at X ⊢
        generalize w.heap.size = g at X ⊢
        have c8 : W.cell? ⟨g, 8, none⟩ = some (.string n.got) := X.cell 8
        have c9 : W.cell? ⟨g, 9, none⟩ = some (.int .i64 n.run) := X.cell 9
        go_wp2_with fail
        refine (HN.out _).mono ?_
        rintro e w2 ⟨rfl, rfl⟩
        generalize needV n.got = q at *
        go_upto_region 3 with fail
        clear c8 c9
        go_wp2_with (first | (refine Nx.take ⟨X.blk, X.bel⟩ rfl rfl rfl ?_) | (refine wpList_put X.res rfl rfl rfl rfl rfl ?_))
        refine bodyPost_ret (v := ndV (n) p) ?_ rfl ⟨rfl, (X.fin _).2.2⟩
        exact results_one Tryz.results211 _ _ gr _ rfl (X.fin (ndC (n) p)).1 rfl
      · have d5 : (n.run == 5) = false := beq_eq_false_iff_ne.2 h5
        rcases (Bool.eq_false_or_eq_true n.tx).symm with ht | ht
        · by_cases hc : rdCode n.got = 0
          · have hc' : (rdCode n.got != 0) = false := by rw [hc]; rfl
            rw [show wholeN n = { n with ph := 2, pos := 0, left := 0, bad := false } from by unfold wholeN; rw [if_pos ⟨hw, h5⟩]; rw [ht, decide_eq_false (fun k => k hc)]; rfl]
            clear hw h5
            replace ht := Lib.hid ht
            have hm' := Lib.hid hs
            have HN := Lib.hid (fun w => specNeed n.got w hs)
            have X := N2.made2 (ndC n p) w
            go_enter Tryz.func211, Tryz.ntmps211
            go_upto_region 1 with fail
            generalize World.alloc _ _ = W at X ⊢
            generalize w.heap.size + 1 = gr at X ⊢
            generalize w.heap.size = g at X ⊢
            have c8 : W.cell? ⟨g, 8, none⟩ = some (.string n.got) := X.cell 8
            have c9 : W.cell? ⟨g, 9, none⟩ = some (.int .i64 n.run) := X.cell 9
            go_wp2_with fail
            refine (HN.out _).mono ?_
            rintro e w2 ⟨rfl, rfl⟩
            generalize needV n.got = q at *
            go_wp2_with fail
            refine (specRead n.got _ hm'.out).mono ?_
            rintro e w7 ⟨v, rfl, O, b⟩
            obtain ⟨av, cv, rfl, -⟩ := O.nums
            replace X := X.below b
            clear b c8 c9 O
            have bb := below_more (Below.refl w7.heap.size w7) (.cells #[.int .i64 (rdId n.got), .bool (rdRm n.got), .int .i64 (rdLn n.got), .slice av (rdD n.got).length cv] 26)
            replace X := X.below bb
            clear bb
            go_upto_region 5 with fail
            generalize w7.alloc _ = W8 at X ⊢
            have c0 : W8.cell? ⟨g, 0, none⟩ = some (.int .i64 n.ph) := X.cell 0
            have c1 : W8.cell? ⟨g, 1, none⟩ = some (.bool n.tx) := X.cell 1
            have c3 : W8.cell? ⟨g, 3, none⟩ = some (.bool n.bad) := X.cell 3
            have c11 : W8.cell? ⟨g, 11, none⟩ = some (.int .i64 n.pos) := X.cell 11
            have c12 : W8.cell? ⟨g, 12, none⟩ = some (.int .i64 n.left) := X.cell 12
            have f0 := X.free 0
            have f3 := X.free 3
            have f11 := X.free 11
            have f12 := X.free 12
            rw [ht.out] at c1
            go_upto_region 9 with fail
            clear c0 c1 c3 c11 c12 f0 f3 f11 f12
            replace X : N2 g gr (ndC ({ n with ph := 2, pos := 0, left := 0, bad := false }) p) w _ := ((((X.set 0 (.int .i64 2)).set 11 (.int .i64 0)).set 12 (.int .i64 0)).set 3 (.bool false))
            generalize World.setCell _ _ _ = W9 at X ⊢
            go_wp2_with (first | (refine Nx.take ⟨X.blk, X.bel⟩ rfl rfl rfl ?_) | (refine wpList_put X.res rfl rfl rfl rfl rfl ?_))
            refine bodyPost_ret (v := ndV ({ n with ph := 2, pos := 0, left := 0, bad := false }) p) ?_ rfl ⟨rfl, (X.fin _).2.2⟩
            exact results_one Tryz.results211 _ _ gr _ rfl (X.fin (ndC ({ n with ph := 2, pos := 0, left := 0, bad := false }) p)).1 rfl
          · have hc' : (rdCode n.got != 0) = true := bne_iff_ne.2 hc
            rw [show wholeN n = { n with ph := 2, pos := 0, left := 0, bad := true } from by unfold wholeN; rw [if_pos ⟨hw, h5⟩]; rw [ht, decide_eq_true hc]; rfl]
            clear hw h5
            replace ht := Lib.hid ht
            have hm' := Lib.hid hs
            have HN := Lib.hid (fun w => specNeed n.got w hs)
            have X := N2.made2 (ndC n p) w
            go_enter Tryz.func211, Tryz.ntmps211
            go_upto_region 1 with fail
            generalize World.alloc _ _ = W at X ⊢
            generalize w.heap.size + 1 = gr at X ⊢
            generalize w.heap.size = g at X ⊢
            have c8 : W.cell? ⟨g, 8, none⟩ = some (.string n.got) := X.cell 8
            have c9 : W.cell? ⟨g, 9, none⟩ = some (.int .i64 n.run) := X.cell 9
            go_wp2_with fail
            refine (HN.out _).mono ?_
            rintro e w2 ⟨rfl, rfl⟩
            generalize needV n.got = q at *
            go_wp2_with fail
            refine (specRead n.got _ hm'.out).mono ?_
            rintro e w7 ⟨v, rfl, O, b⟩
            obtain ⟨av, cv, rfl, -⟩ := O.nums
            replace X := X.below b
            clear b c8 c9 O
            have bb := below_more (Below.refl w7.heap.size w7) (.cells #[.int .i64 (rdId n.got), .bool (rdRm n.got), .int .i64 (rdLn n.got), .slice av (rdD n.got).length cv] 26)
            replace X := X.below bb
            clear bb
            go_upto_region 5 with fail
            generalize w7.alloc _ = W8 at X ⊢
            have c0 : W8.cell? ⟨g, 0, none⟩ = some (.int .i64 n.ph) := X.cell 0
            have c1 : W8.cell? ⟨g, 1, none⟩ = some (.bool n.tx) := X.cell 1
            have c3 : W8.cell? ⟨g, 3, none⟩ = some (.bool n.bad) := X.cell 3
            have c11 : W8.cell? ⟨g, 11, none⟩ = some (.int .i64 n.pos) := X.cell 11
            have c12 : W8.cell? ⟨g, 12, none⟩ = some (.int .i64 n.left) := X.cell 12
            have f0 := X.free 0
            have f3 := X.free 3
            have f11 := X.free 11
            have f12 := X.free 12
            rw [ht.out] at c1
            go_upto_region 9 with fail
            clear c0 c1 c3 c11 c12 f0 f3 f11 f12
            replace X : N2 g gr (ndC ({ n with ph := 2, pos := 0, left := 0, bad := true }) p) w _ := ((((X.set 0 (.int .i64 2)).set 11 (.int .i64 0)).set 12 (.int .i64 0)).set 3 (.bool true))
            generalize World.setCell _ _ _ = W9 at X ⊢
            go_wp2_with (first | (refine Nx.take ⟨X.blk, X.bel⟩ rfl rfl rfl ?_) | (refine wpList_put X.res rfl rfl rfl rfl rfl ?_))
            refine bodyPost_ret (v := ndV ({ n with ph := 2, pos := 0, left := 0, bad := true }) p) ?_ rfl ⟨rfl, (X.fin _).2.2⟩
            exact results_one Tryz.results211 _ _ gr _ rfl (X.fin (ndC ({ n with ph := 2, pos := 0, left := 0, bad := true }) p)).1 rfl
        · rw [show wholeN n = { n with ph := 2, pos := 0, left := 0, bad := false } from by unfold wholeN; rw [if_pos ⟨hw, h5⟩]; rw [ht]; rfl]
          clear hw h5
          replace ht := Lib.hid ht
          have hm' := Lib.hid hs
          have HN := Lib.hid (fun w => specNeed n.got w hs)
          have X := N2.made2 (ndC n p) w
          go_enter Tryz.func211, Tryz.ntmps211
          go_upto_region 1 with fail
          generalize World.alloc _ _ = W at X ⊢
          generalize w.heap.size + 1 = gr at X ⊢
          generalize w.heap.size = g at X ⊢
          have c8 : W.cell? ⟨g, 8, none⟩ = some (.string n.got) := X.cell 8
          have c9 : W.cell? ⟨g, 9, none⟩ = some (.int .i64 n.run) := X.cell 9
          go_wp2_with fail
          refine (HN.out _).mono ?_
          rintro e w2 ⟨rfl, rfl⟩
          generalize needV n.got = q at *
          go_wp2_with fail
          refine (specRead n.got _ hm'.out).mono ?_
          rintro e w7 ⟨v, rfl, O, b⟩
          obtain ⟨av, cv, rfl, -⟩ := O.nums
          replace X := X.below b
          clear b c8 c9 O
          have bb := below_more (Below.refl w7.heap.size w7) (.cells #[.int .i64 (rdId n.got), .bool (rdRm n.got), .int .i64 (rdLn n.got), .slice av (rdD n.got).length cv] 26)
          replace X := X.below bb
          clear bb
          go_upto_region 5 with fail
          generalize w7.alloc _ = W8 at X ⊢
          have c0 : W8.cell? ⟨g, 0, none⟩ = some (.int .i64 n.ph) := X.cell 0
          have c1 : W8.cell? ⟨g, 1, none⟩ = some (.bool n.tx) := X.cell 1
          have c3 : W8.cell? ⟨g, 3, none⟩ = some (.bool n.bad) := X.cell 3
          have c11 : W8.cell? ⟨g, 11, none⟩ = some (.int .i64 n.pos) := X.cell 11
          have c12 : W8.cell? ⟨g, 12, none⟩ = some (.int .i64 n.left) := X.cell 12
          have f0 := X.free 0
          have f3 := X.free 3
          have f11 := X.free 11
          have f12 := X.free 12
          rw [ht.out] at c1
          go_upto_region 9 with fail
          clear c0 c1 c3 c11 c12 f0 f3 f11 f12
          replace X : N2 g gr (ndC ({ n with ph := 2, pos := 0, left := 0, bad := false }) p) w _ := ((((X.set 0 (.int .i64 2)).set 11 (.int .i64 0)).set 12 (.int .i64 0)).set 3 (.bool false))
          generalize World.setCell _ _ _ = W9 at X ⊢
          go_wp2_with (first | (refine Nx.take ⟨X.blk, X.bel⟩ rfl rfl rfl ?_) | (refine wpList_put X.res rfl rfl rfl rfl rfl ?_))
          refine bodyPost_ret (v := ndV ({ n with ph := 2, pos := 0, left := 0, bad := false }) p) ?_ rfl ⟨rfl, (X.fin _).2.2⟩
          exact results_one Tryz.results211 _ _ gr _ rfl (X.fin (ndC ({ n with ph := 2, pos := 0, left := 0, bad := false }) p)).1 rfl

set_option maxHeartbeats 8000000 in
/-- spec.l12Less. -/
theorem specLess (n : Nd) (p : NdP) (w : World) (hl0 : 0 ≤ n.left ∧ n.left ≤ 128) :
    Calls Tryz.prog 216 #[ndV n p] w fun e w' => e = .returned (.tuple #[ndV { n with left := lessV n.left } p, .bool (decide (lessV n.left = 0))]) ∧ Below w.heap.size w w' := by
  have hw : IntKind.i64.wrap (n.left - 1) = n.left - 1 := IntWalk.i64_in _ (by omega)
  by_cases hx : 0 < n.left - 1
  · have e1 : lessV n.left = n.left - 1 := if_pos hx
    have d0 : (n.left - 1 == 0) = false := beq_eq_false_iff_ne.2 (by omega)
    have e2 : decide (lessV n.left = 0) = false := decide_eq_false (by omega)
    rw [e2, e1]
    have hx2 := Lib.hid hx
    clear e1 e2 hx
    have X := N2.made2 (ndC n p) w
    go_enter Tryz.func216, Tryz.ntmps216
    go_upto_region 1 with fail
    generalize World.alloc _ _ = W at X ⊢
    generalize w.heap.size + 1 = gr at X ⊢
    generalize w.heap.size = g at X ⊢
    have c12 : W.cell? ⟨g, 12, none⟩ = some (.int .i64 n.left) := X.cell 12
    have f12 := X.free 12
    go_wp2_with fail
    refine (maxGt _ _ _ hx2.out).mono ?_
    rintro e w2 ⟨rfl, rfl⟩
    go_upto_region 2 with fail
    clear c12 f12
    replace X : N2 g gr (ndC ({ n with left := n.left - 1 }) p) w _ := (X.set 12 (.int .i64 (n.left - 1)))
    generalize World.setCell _ _ _ = W1 at X ⊢
    refine wp_region_held (S := fun u => Nx g ({ n with left := n.left - 1 }) p w u) (by kernel_rfl) ?_
    replace X : N2 g gr (ndC ({ n with left := n.left - 1 }) p) w { W1 with drawn := W1.drawn + 1 } := X.drew
    generalize ({ W1 with drawn := W1.drawn + 1 } : World) = V at X ⊢
    have Y : Nx g ({ n with left := n.left - 1 }) p w V := ⟨X.blk, X.bel⟩
    refine take_at 0 _ (ndV ({ n with left := n.left - 1 }) p) rfl rfl (by kernel_rfl) (by kernel_rfl) (by kernel_rfl) (fun _ _ _ h => h) (.inl ⟨rfl, fun u hu => hu.took rfl rfl⟩) Y ?_
    simp only [Act.put, List.setIfInBounds_toArray, List.set_cons_zero, List.set_cons_succ]
    refine take_at 1 _ (.pointer (some ⟨g, 12, none⟩)) rfl rfl (by kernel_rfl) (by kernel_rfl) (by kernel_rfl) (fun _ _ _ h => h) (.inl ⟨rfl, fun u hu => by go_simp⟩) Y ?_
    simp only [Act.put, List.setIfInBounds_toArray, List.set_cons_zero, List.set_cons_succ]
    refine take_at 2 _ (.int .i64 (n.left - 1)) rfl rfl (by kernel_rfl) (by kernel_rfl) (by kernel_rfl) (fun _ _ _ h => h) (.inl ⟨rfl, fun u hu => by have d : u.cell? ⟨g, 12, none⟩ = some (.int .i64 (n.left - 1)) := hu.cells.2.2.2.2.2.2.2.2.2.2.2.2.1; go_simp⟩) Y ?_
    simp only [Act.put, List.setIfInBounds_toArray, List.set_cons_zero, List.set_cons_succ]
    refine take_at 3 _ (.bool false) rfl rfl (by kernel_rfl) (by kernel_rfl) (by kernel_rfl) (fun _ _ _ h => h) (.inl ⟨rfl, fun u hu => by go_simp⟩) Y ?_
    simp only [Act.put, List.setIfInBounds_toArray, List.set_cons_zero, List.set_cons_succ]
    refine held_row 4 gr (ndC ({ n with left := n.left - 1 }) p) rfl (by kernel_rfl) rfl rfl rfl rfl rfl X.res (by kernel_rfl) rfl (ndC_one _ _) ⟨(setRow_other V gr g _ (Ne.symm X.nr)).trans X.blk, below_setRow X.bel X.hr _⟩ ?_
    refine value_at 5 _ (.bool false) rfl rfl (by kernel_rfl) rfl (by go_simp) ⟨(setRow_other V gr g _ (Ne.symm X.nr)).trans X.blk, below_setRow X.bel X.hr _⟩ ?_
    simp only [Act.put, List.setIfInBounds_toArray, List.set_cons_zero, List.set_cons_succ]
    refine wpAnyH_done (by kernel_rfl) ?_ _
    obtain ⟨Z1, -, Z3⟩ := X.fin (ndC ({ n with left := n.left - 1 }) p)
    go_wp2_with fail
    refine bodyPost_ret (v := .tuple #[ndV ({ n with left := n.left - 1 }) p, .bool false]) ?_ rfl ⟨rfl, Z3⟩
    exact results_node Tryz.results216 _ _ gr _ _ rfl rfl Z1 rfl
  · have e1 : lessV n.left = 0 := if_neg hx
    have e2 : decide (lessV n.left = 0) = true := decide_eq_true e1
    rw [e2, e1]
    have hx2 := Lib.hid hx
    clear e1 e2 hx
    have X := N2.made2 (ndC n p) w
    go_enter Tryz.func216, Tryz.ntmps216
    go_upto_region 1 with fail
    generalize World.alloc _ _ = W at X ⊢
    generalize w.heap.size + 1 = gr at X ⊢
    generalize w.heap.size = g at X ⊢
    have c12 : W.cell? ⟨g, 12, none⟩ = some (.int .i64 n.left) := X.cell 12
    have f12 := X.free 12
    go_wp2_with fail
    refine (maxLe (n.left - 1) 0 _ (by have := hx2.out; omega)).mono ?_
    rintro e w2 ⟨rfl, rfl⟩
    go_upto_region 2 with fail
    clear c12 f12
    replace X : N2 g gr (ndC ({ n with left := 0 }) p) w _ := (X.set 12 (.int .i64 (0)))
    generalize World.setCell _ _ _ = W1 at X ⊢
    refine wp_region_held (S := fun u => Nx g ({ n with left := 0 }) p w u) (by kernel_rfl) ?_
    replace X : N2 g gr (ndC ({ n with left := 0 }) p) w { W1 with drawn := W1.drawn + 1 } := X.drew
    generalize ({ W1 with drawn := W1.drawn + 1 } : World) = V at X ⊢
    have Y : Nx g ({ n with left := 0 }) p w V := ⟨X.blk, X.bel⟩
    refine take_at 0 _ (ndV ({ n with left := 0 }) p) rfl rfl (by kernel_rfl) (by kernel_rfl) (by kernel_rfl) (fun _ _ _ h => h) (.inl ⟨rfl, fun u hu => hu.took rfl rfl⟩) Y ?_
    simp only [Act.put, List.setIfInBounds_toArray, List.set_cons_zero, List.set_cons_succ]
    refine take_at 1 _ (.pointer (some ⟨g, 12, none⟩)) rfl rfl (by kernel_rfl) (by kernel_rfl) (by kernel_rfl) (fun _ _ _ h => h) (.inl ⟨rfl, fun u hu => by go_simp⟩) Y ?_
    simp only [Act.put, List.setIfInBounds_toArray, List.set_cons_zero, List.set_cons_succ]
    refine take_at 2 _ (.int .i64 (0)) rfl rfl (by kernel_rfl) (by kernel_rfl) (by kernel_rfl) (fun _ _ _ h => h) (.inl ⟨rfl, fun u hu => by have d : u.cell? ⟨g, 12, none⟩ = some (.int .i64 (0)) := hu.cells.2.2.2.2.2.2.2.2.2.2.2.2.1; go_simp⟩) Y ?_
    simp only [Act.put, List.setIfInBounds_toArray, List.set_cons_zero, List.set_cons_succ]
    refine take_at 3 _ (.bool true) rfl rfl (by kernel_rfl) (by kernel_rfl) (by kernel_rfl) (fun _ _ _ h => h) (.inl ⟨rfl, fun u hu => by go_simp⟩) Y ?_
    simp only [Act.put, List.setIfInBounds_toArray, List.set_cons_zero, List.set_cons_succ]
    refine held_row 4 gr (ndC ({ n with left := 0 }) p) rfl (by kernel_rfl) rfl rfl rfl rfl rfl X.res (by kernel_rfl) rfl (ndC_one _ _) ⟨(setRow_other V gr g _ (Ne.symm X.nr)).trans X.blk, below_setRow X.bel X.hr _⟩ ?_
    refine value_at 5 _ (.bool true) rfl rfl (by kernel_rfl) rfl (by go_simp) ⟨(setRow_other V gr g _ (Ne.symm X.nr)).trans X.blk, below_setRow X.bel X.hr _⟩ ?_
    simp only [Act.put, List.setIfInBounds_toArray, List.set_cons_zero, List.set_cons_succ]
    refine wpAnyH_done (by kernel_rfl) ?_ _
    obtain ⟨Z1, -, Z3⟩ := X.fin (ndC ({ n with left := 0 }) p)
    go_wp2_with fail
    refine bodyPost_ret (v := .tuple #[ndV ({ n with left := 0 }) p, .bool true]) ?_ rfl ⟨rfl, Z3⟩
    exact results_node Tryz.results216 _ _ gr _ _ rfl rfl Z1 rfl
end Go.Proofs.YtngcekegngmedaaGreatDoor

/- The program's Queued. -/

set_option linter.unusedVariables false
set_option linter.unusedSimpArgs false
set_option maxRecDepth 20000
namespace Go.Proofs.YtngcekegngmedaaGreatDoor
open Go.RowKit

/-- The blocks of a call of Queued: the node's, the frame's, the result's. -/
structure NQ (g gf gr : Nat) (C F : Array Value) (w0 w : World) : Prop where
  blk : w.heap[g]? = some (.cells C 32 (0, 0))
  frm : w.heap[gf]? = some (.cells F 26 (0, 0))
  res : w.heap[gr]? = some (.cells ndZ 32 (0, 0))
  bel : Below w0.heap.size w0 w
  hg : w0.heap.size ≤ g
  hf : w0.heap.size ≤ gf
  hr : w0.heap.size ≤ gr
  nf : gf ≠ g
  nr : gr ≠ g
  rf : gr ≠ gf
section
variable {g gf gr : Nat} {C F : Array Value} {w w' w0 : World}
theorem NQ.lt (h : NQ g gf gr C F w0 w) : g < w.heap.size ∧ gf < w.heap.size ∧ gr < w.heap.size := ⟨(Array.getElem?_eq_some_iff.1 h.blk).1, (Array.getElem?_eq_some_iff.1 h.frm).1, (Array.getElem?_eq_some_iff.1 h.res).1⟩
theorem NQ.below (h : NQ g gf gr C F w0 w) (b : Below w.heap.size w w') : NQ g gf gr C F w0 w' :=
  ⟨(b.block g h.lt.1).trans h.blk, (b.block gf h.lt.2.1).trans h.frm, (b.block gr h.lt.2.2).trans h.res, Below.then2 h.bel b, h.hg, h.hf, h.hr, h.nf, h.nr, h.rf⟩
theorem NQ.put (h : NQ g gf gr C F w0 w) (D : Array Value) : NQ g gf gr D F w0 (w.setRow g D) :=
  ⟨setRow_heap _ _ _ _ _ _ h.blk, (setRow_other w g gf D h.nf).trans h.frm, (setRow_other w g gr D h.nr).trans h.res, below_setRow h.bel h.hg D, h.hg, h.hf, h.hr, h.nf, h.nr, h.rf⟩
theorem NQ.set (h : NQ g gf gr C F w0 w) (k : Nat) (v : Value) : NQ g gf gr (C.setIfInBounds k v) F w0 (w.setCell ⟨g, k, none⟩ v) :=
  ⟨heap_setCell_same w g k _ _ v h.blk, (heap_setCell_other w ⟨g, k, none⟩ gf v h.nf).trans h.frm, (heap_setCell_other w ⟨g, k, none⟩ gr v h.nr).trans h.res, h.bel.setCell h.hg _, h.hg, h.hf, h.hr, h.nf, h.nr, h.rf⟩
theorem NQ.cell (h : NQ g gf gr C F w0 w) (k : Nat) : w.cell? ⟨g, k, none⟩ = C[k]? := cell_of_row w g k _ _ _ h.blk
theorem NQ.fcell (h : NQ g gf gr C F w0 w) (k : Nat) : w.cell? ⟨gf, k, none⟩ = F[k]? := cell_of_row w gf k _ _ _ h.frm
theorem NQ.free (h : NQ g gf gr C F w0 w) (k : Nat) : w.frozen? ⟨g, k, none⟩ = false := frozen_of_row w g k _ _ h.blk
theorem NQ.fin (h : NQ g gf gr C F w0 w) (D : Array Value) : (w.setRow gr D).heap[gr]? = some (.cells D 32 (0, 0)) ∧ Below w0.heap.size w0 (w.setRow gr D) :=
  ⟨setRow_heap _ _ _ _ _ _ h.res, below_setRow h.bel h.hr D⟩
theorem NQ.made (C F : Array Value) (w : World) : NQ w.heap.size (w.heap.size + 1) (w.heap.size + 1 + 1) C F w (((w.alloc (.cells C 32)).alloc (.cells F 26)).alloc (.cells ndZ 32)) := by
  have s1 : (w.alloc (.cells C 32)).heap.size = w.heap.size + 1 := by simp
  have s2 : ((w.alloc (.cells C 32)).alloc (.cells F 26)).heap.size = w.heap.size + 1 + 1 := by simp
  have b1 : Below w.heap.size w (w.alloc (.cells C 32)) := below_more (Below.refl _ _) _
  have b2 := below_more b1 (.cells F 26)
  have b3 := below_more b2 (.cells ndZ 32)
  have k1 : Below (w.heap.size + 1) (w.alloc (.cells C 32)) ((w.alloc (.cells C 32)).alloc (.cells F 26)) := by rw [← s1]; exact below_more (Below.refl _ _) _
  have k2 : Below (w.heap.size + 1 + 1) ((w.alloc (.cells C 32)).alloc (.cells F 26)) (((w.alloc (.cells C 32)).alloc (.cells F 26)).alloc (.cells ndZ 32)) := by rw [← s2]; exact below_more (Below.refl _ _) _
  refine ⟨?_, ?_, ?_, b3, by omega, by omega, by omega, by omega, by omega, by omega⟩
  · rw [k2.block _ (by omega), k1.block _ (by omega)]; exact heap_alloc_new w _
  · rw [k2.block _ (by omega), ← s1]; exact heap_alloc_new _ _
  · rw [← s2]; exact heap_alloc_new _ _
end
theorem mid_setRow (w : World) (g : Nat) (D : Array Value) : Mid g (g + 1) w (w.setRow g D) := ⟨rfl, rfl, rfl, by simp, fun k hk hc => setRow_other w g k D (by omega)⟩
theorem mid_setCell (w : World) (g k : Nat) (v : Value) : Mid g (g + 1) w (w.setCell ⟨g, k, none⟩ v) := (Mid.refl g (g + 1) w).grown (grown_at_cell w g k v) (fun q hq => by cases hq; omega)
theorem results_num {fn : Func} {p q : Tmp} (h : fn.results = #[.cell p 32, .tmp q]) (tmps : Array Value) (w : World) (g : Nat) (C : Array Value) (v : Value) (hp : tmps.getD p undef = .pointer (some ⟨g, 0, none⟩)) (hq : tmps.getD q undef = v)
    (hg : w.heap[g]? = some (.cells C 32 (0, 0))) (hC : C.size = 18) : (results fn tmps).run Tryz.prog w = .ok (.tuple #[.agg C, v]) w := by
  have hp' : tmps[p]?.getD undef = .pointer (some ⟨g, 0, none⟩) := by simpa using hp
  have hq' : tmps[q]?.getD undef = v := by simpa using hq
  have hl := run_loadVar_row (P := Tryz.prog) w g 32 32 C (0, 0) _ hg Tryz.underlying32 rfl (by rw [hC]; kernel_rfl)
  simp [results, h, hp', hq', asAddr, hl]
/-- What Queued answers. -/
def queA (n : Nd) (f : Frm) : Nd × Int := if nodeB n = true then queN n f else (znd [], 3)
def QueO (N : Nd) (k : Int) (w : World) (e : Ending) (w' : World) : Prop :=
  ∃ (p : NdP) (j : NdJ) (MB MF : List (Frm × Value)), e = .returned (.tuple #[ndV N p, .int .i64 k]) ∧ NdI j w.heap.size w'.heap.size N p MB MF w' ∧ Below w.heap.size w w'
theorem ndI_zero (B : Nat) (w : World) : NdI ⟨B, B, B, B, B, B, B, B⟩ B B (znd []) (zp none 0) [] [] w := by
  refine ⟨OwnI.nil _ _, own_nil _ _, own_nil _ _, ownP_nil _ _, rfl, rfl, far_nil, far_nil, (fun q hq => by cases hq), ⟨(fun q hq => by cases hq), (fun m hm => by cases hm)⟩, ⟨(fun q hq => by cases hq), (fun m hm => by cases hm)⟩, (fun q hq => by cases hq), ⟨?_, ?_, ?_, ?_, ?_, ?_, ?_, ?_, ?_, ?_⟩, Nat.zero_le _⟩ <;> dsimp only <;> omega
theorem NdI.drew {j : NdJ} {lo hi : Nat} {n : Nd} {p : NdP} {MB MF : List (Frm × Value)} {w : World} (h : NdI j lo hi n p MB MF w) : NdI j lo hi n p MB MF w.drew := h.below (Below.refl _ _).drew
/-- What Queued's test reads. -/
structure QC (g gf gr : Nat) (n : Nd) (p : NdP) (f : Frm) (af : Option Addr) (cf : Nat) (j : NdJ) (lo hi : Nat) (MB MF : List (Frm × Value)) (w0 u : World) : Prop where
  q : NQ g gf gr (ndC n p) (frC f af cf) w0 u
  i : NdI j lo hi n p MB MF u
  s : Nums af f.D u
  z : hi ≤ u.heap.size
section
variable {g gf gr lo hi : Nat} {n : Nd} {p : NdP} {f : Frm} {af : Option Addr} {cf : Nat} {j : NdJ} {MB MF : List (Frm × Value)} {w0 u u' : World}
theorem QC.below (h : QC g gf gr n p f af cf j lo hi MB MF w0 u) (b : Below u.heap.size u u') : QC g gf gr n p f af cf j lo hi MB MF w0 u' := ⟨h.q.below b, h.i.below b, h.s.below b, Nat.le_trans h.z b.size⟩
theorem QC.drew (h : QC g gf gr n p f af cf j lo hi MB MF w0 u) : QC g gf gr n p f af cf j lo hi MB MF w0 u.drew := h.below (Below.refl _ _).drew
theorem QC.took (h : QC g gf gr n p f af cf j lo hi MB MF w0 u) {o : Oper} {a : Act} {x : Operand} (ho : o.op = .load 32 x) (hx : a.eval x = .pointer (some ⟨g, 0, none⟩)) : (execOp a.eval o).run Tryz.prog u = .ok (.value (ndV n p)) u := Nx.took (w0 := w0) ⟨h.q.blk, h.q.bel⟩ ho hx
theorem QC.cells (h : QC g gf gr n p f af cf j lo hi MB MF w0 u) : u.cell? ⟨gf, 0, none⟩ = some (.int .i64 f.id) ∧ u.cell? ⟨gf, 1, none⟩ = some (.bool f.rm) ∧ u.cell? ⟨gf, 2, none⟩ = some (.int .i64 f.ln) ∧ u.cell? ⟨gf, 3, none⟩ = some (.slice af f.D.length cf) := ⟨h.q.fcell 0, h.q.fcell 1, h.q.fcell 2, h.q.fcell 3⟩
end

set_option maxHeartbeats 16000000 in
/-- impl.Queued. -/
theorem implQueued (n : Nd) (p : NdP) (f : Frm) (af : Option Addr) (cf : Nat) (w : World) (hm : NdM n p w) (hn : Nums af f.D w) :
    Calls Tryz.prog 25 #[ndV n p, frV f.id f.rm f.ln af f.D.length cf] w (QueO (queA n f).1 (queA n f).2 w) := by
  have X := NQ.made (ndC n p) (frC f af cf) w
  go_enter Tryz.func25, Tryz.ntmps25
  go_upto_region 1 with fail
  generalize World.alloc _ _ = W at X ⊢
  generalize w.heap.size + 1 + 1 = gr at X ⊢
  generalize w.heap.size + 1 = gf at X ⊢
  generalize w.heap.size = g at X ⊢
  go_wp2_with (refine Nx.take ⟨X.blk, X.bel⟩ rfl rfl rfl ?_)
  refine (implNodeOk n p _ (hm.below X.bel)).mono ?_
  rintro e w2 ⟨rfl, b⟩
  replace X := X.below b
  clear b
  cases hok : nodeB n
  · have hA := Lib.hid (show queA n f = (znd [], 3) from if_neg (by rw [hok]; exact Bool.false_ne_true))
    clear hok
    go_wp2_with (refine wpList_put (n := znd []) (p := zp none 0) X.res rfl rfl rfl rfl rfl ?_)
    obtain ⟨Z1, Z3⟩ := X.fin (ndC (znd []) (zp none 0))
    refine bodyPost_ret (v := .tuple #[ndV (znd []) (zp none 0), .int .i64 3]) ?_ rfl ?_
    · exact results_num Tryz.results25 _ _ gr _ _ rfl rfl Z1 rfl
    · rw [hA.out]
      exact ⟨zp none 0, _, [], [], rfl, (ndI_zero w.heap.size _).wide (Nat.le_refl _) Z3.size, Z3⟩
  have hA := Lib.hid (show queA n f = queN n f from if_pos hok)
  obtain ⟨s1, s2, s3, s4, s5, s6⟩ := small_1000 hok
  have hR := roomN_right hok
  have h16 := (boxB_iff.1 (right_iff.1 hok).1.box).1
  replace hok := Lib.hid hok
  have hs : roomN n ≤ 1048576 := by omega
  go_wp2_with (refine Nx.take ⟨X.blk, X.bel⟩ rfl rfl rfl ?_)
  refine (implCopied n p _ (hm.below X.bel) (by omega) (by omega) (fun j hj => by have := s3 j hj; omega) (by omega) (fun j hj => by have := s5 j hj; omega) (by omega)).mono ?_
  rintro e w3 ⟨p3, _, _, _, MB, MF, rfl, O3, b, -⟩
  have l2 := X.lt
  replace X := X.below b
  have z3 := b.size
  obtain ⟨j, I⟩ := O3.ndI3 b.size
  clear b O3 s1 s2 s3 s4 s5 s6 hR
  go_upto_region 4 with (refine wpList_put (n := n) (p := p3) X.blk rfl rfl rfl rfl rfl ?_)
  replace I := I.sep (mid_setRow w3 g (ndC n p3)) (.inr (by omega))
  replace X := X.put (ndC n p3)
  have hz : (w3.setRow g (ndC n p3)).heap.size = w3.heap.size := by simp
  have C : QC g gf gr n p3 f af cf j w2.heap.size w3.heap.size MB MF w _ := ⟨X, I, hn.below X.bel, Nat.le_of_eq hz.symm⟩
  generalize w3.setRow g (ndC n p3) = W3 at *
  clear X I
  simp only [Act.put]
  cases hfb : frB f
  · have hQ : Hid (queN n f = ({ n with box := (putV n.box f).1 }, (putV n.box f).2)) := Lib.hid (if_neg (by rintro ⟨h, -⟩; rw [hfb] at h; cases h))
    have hfo : frOk f.id f.rm f.ln f.D = false := hfb
    clear hfb
    refine region_class (QC g gf gr n p3 f af cf j w2.heap.size w3.heap.size MB MF w) (by kernel_rfl) (by kernel_rfl) C.drew ?_
    repeat first
      | go_big_quiet_skip
      | (go_big_quiet_want
         apply Exists.intro
         refine ⟨fun u hu => ?_, ?_⟩
         · exact quietAt_val (hu.took rfl rfl)
         simp only [Act.put, List.setIfInBounds_toArray, List.set_cons_zero, List.set_cons_succ]
         go_big_quiet_on)
      | (go_big_quiet_want
         apply Exists.intro
         refine ⟨fun u hu => ?_, ?_⟩
         · exact quietAt_val (frTookI (f := f) (af := af) (cf := cf) hu.q.frm rfl rfl)
         simp only [Act.put, List.setIfInBounds_toArray, List.set_cons_zero, List.set_cons_succ]
         go_big_quiet_on)
      | (go_big_quiet_want
         apply Exists.intro
         refine ⟨fun u hu => ?_, ?_⟩
         · apply quietAt_val
           obtain ⟨x0, x1, x2, x3⟩ := hu.cells
           go_simp
           rfl
         simp only [Act.put, List.setIfInBounds_toArray, List.set_cons_zero, List.set_cons_succ]
         go_big_quiet_on)
      | (go_big_quiet_want
         apply Exists.intro
         refine ⟨fun u hu => ?_, ?_⟩
         · apply quietAt_enter 90 #[frV f.id f.rm f.ln af f.D.length cf]
           · go_simp
           · refine (implFrameOk _ _ _ _ _ _ u hu.s).mono ?_
             rintro e w2 ⟨he, b2⟩
             rw [hfo] at he
             exact ⟨he, hu.below b2⟩
         simp only [Act.put, List.setIfInBounds_toArray, List.set_cons_zero, List.set_cons_succ]
         go_big_quiet_on)
    refine wpQuiet_nil ?_
    intro W4 C4
    clear C
    have c15 : W4.cell? ⟨g, 15, none⟩ = some (.slice p3.ab n.box.length p3.cb) := C4.q.cell 15
    obtain ⟨x0, x1, x2, x3⟩ := C4.cells
    go_wp2_with fail
    refine (show Calls _ _ _ _ (PutGot (putV n.box f) _) from implPutIn p3.ab n.box p3.cb f.id f.rm f.ln af f.D cf _ (C4.i.ndm hs).box C4.i.nda.box.1 C4.i.nda.box.2 C4.s).mono ?_
    rintro e w5 ⟨M, ab, cb, rfl, hM, OB, FB, b⟩
    have C5 := C4.below b
    have z5 := b.size
    have UB := OB.under
    have z4 := C4.z
    have l4 := C4.q.lt
    clear b x0 x1 x2 x3 c15
    have c15 : w5.cell? ⟨g, 15, none⟩ = some (.slice p3.ab n.box.length p3.cb) := C5.q.cell 15
    have f15 := C5.q.free 15
    go_upto_region 8 with fail
    clear c15 f15
    have X : NQ g gf gr (ndC { n with box := (putV n.box f).1 } { p3 with ab := ab, cb := cb }) (frC f af cf) w _ := C5.q.set 15 (.slice ab (putV n.box f).1.length cb)
    have I := C5.i.sep (mid_setCell w5 g 15 (.slice ab (putV n.box f).1.length cb)) (.inr (by omega))
    have B := OB.kept2 (grown_at_cell w5 g 15 (.slice ab (putV n.box f).1.length cb)) l4.1
    have z6 : (World.setCell w5 ⟨g, 15, none⟩ (.slice ab (putV n.box f).1.length cb)).heap.size = w5.heap.size := by simp
    generalize World.setCell w5 _ _ = W6 at X I B z6 ⊢
    clear C4 C5 OB
    go_wp2_with (first | (refine Nx.take ⟨X.blk, X.bel⟩ rfl rfl rfl ?_) | (refine wpList_put (n := { n with box := (putV n.box f).1 }) (p := { p3 with ab := ab, cb := cb }) X.res rfl rfl rfl rfl rfl ?_))
    obtain ⟨Z1, Z3⟩ := X.fin (ndC { n with box := (putV n.box f).1 } { p3 with ab := ab, cb := cb })
    have I7 := I.sep (mid_setRow W6 gr (ndC { n with box := (putV n.box f).1 } { p3 with ab := ab, cb := cb })) (.inr (by omega))
    have B7 := B.kept2 (grown_setRow W6 gr (ndC { n with box := (putV n.box f).1 } { p3 with ab := ab, cb := cb })) l4.2.2
    have z7 : (W6.setRow gr (ndC { n with box := (putV n.box f).1 } { p3 with ab := ab, cb := cb })).heap.size = W6.heap.size := by simp
    refine bodyPost_ret (v := .tuple #[ndV { n with box := (putV n.box f).1 } { p3 with ab := ab, cb := cb }, .int .i64 (putV n.box f).2]) ?_ rfl ?_
    · exact results_num Tryz.results25 _ _ gr _ _ rfl rfl Z1 rfl
    · rw [hA.out, hQ.out]
      obtain ⟨o1, o2, o3, o4, o5, o6, o7, o8, o9, o10⟩ := I7.ok
      have hgl := X.hg
      exact ⟨{ p3 with ab := ab, cb := cb }, { j with x0 := W4.heap.size, x1 := w5.heap.size }, M, MF, rfl, ⟨I7.dat, B7, I7.fifo, I7.flt, hM, I7.mf, FB, I7.ff, I7.ud, UB, I7.uf, I7.ul, ⟨by dsimp only; omega, by dsimp only; omega, by dsimp only; omega, by dsimp only; omega, by dsimp only; omega, o6, o7, by dsimp only; omega, by dsimp only; omega, o10⟩, I7.got⟩, Z3⟩
  · by_cases hq : sendV n = rkF f
    · have hQ : Hid (queN n f = (n, 2)) := Lib.hid (if_pos ⟨hfb, hq⟩)
      have hfo : frOk f.id f.rm f.ln f.D = true := hfb
      have hq' : (rankV f.id f.rm f.ln f.D == sendV n) = true := beq_iff_eq.2 hq.symm
      clear hfb hq
      refine region_class (QC g gf gr n p3 f af cf j w2.heap.size w3.heap.size MB MF w) (by kernel_rfl) (by kernel_rfl) C.drew ?_
      repeat first
        | go_big_quiet_skip
        | (go_big_quiet_want
           apply Exists.intro
           refine ⟨fun u hu => ?_, ?_⟩
           · exact quietAt_val (hu.took rfl rfl)
           simp only [Act.put, List.setIfInBounds_toArray, List.set_cons_zero, List.set_cons_succ]
           go_big_quiet_on)
        | (go_big_quiet_want
           apply Exists.intro
           refine ⟨fun u hu => ?_, ?_⟩
           · exact quietAt_val (frTookI (f := f) (af := af) (cf := cf) hu.q.frm rfl rfl)
           simp only [Act.put, List.setIfInBounds_toArray, List.set_cons_zero, List.set_cons_succ]
           go_big_quiet_on)
        | (go_big_quiet_want
           apply Exists.intro
           refine ⟨fun u hu => ?_, ?_⟩
           · apply quietAt_val
             obtain ⟨x0, x1, x2, x3⟩ := hu.cells
             go_simp
             rfl
           simp only [Act.put, List.setIfInBounds_toArray, List.set_cons_zero, List.set_cons_succ]
           go_big_quiet_on)
        | (go_big_quiet_want
           apply Exists.intro
           refine ⟨fun u hu => ?_, ?_⟩
           · apply quietAt_enter 90 #[frV f.id f.rm f.ln af f.D.length cf]
             · go_simp
             · refine (implFrameOk _ _ _ _ _ _ u hu.s).mono ?_
               rintro e w2 ⟨he, b2⟩
               rw [hfo] at he
               exact ⟨he, hu.below b2⟩
           simp only [Act.put, List.setIfInBounds_toArray, List.set_cons_zero, List.set_cons_succ]
           go_big_quiet_on)
        | (go_big_quiet_want
           apply Exists.intro
           refine ⟨fun u hu => ?_, ?_⟩
           · apply quietAt_enter 105 #[frV f.id f.rm f.ln af f.D.length cf]
             · go_simp
             · refine (implRankOf _ _ _ _ _ _ u hu.s).mono ?_
               rintro e w2 ⟨rfl, b2⟩
               exact ⟨rfl, hu.below b2⟩
           simp only [Act.put, List.setIfInBounds_toArray, List.set_cons_zero, List.set_cons_succ]
           go_big_quiet_on)
        | (go_big_quiet_want
           apply Exists.intro
           refine ⟨fun u hu => ?_, ?_⟩
           · apply quietAt_enter 27 #[ndV n p3]
             · go_simp
             · refine (implSending _ _ u (hu.i.ndm hs)).mono ?_
               rintro e w2 ⟨rfl, b2⟩
               exact ⟨rfl, hu.below b2⟩
           simp only [Act.put, List.setIfInBounds_toArray, List.set_cons_zero, List.set_cons_succ]
           go_big_quiet_on)
      refine wpQuiet_nil ?_
      intro W4 C4
      clear C
      have X := C4.q
      go_wp2_with (first | (refine Nx.take ⟨X.blk, X.bel⟩ rfl rfl rfl ?_) | (refine wpList_put (n := n) (p := p3) X.res rfl rfl rfl rfl rfl ?_))
      obtain ⟨Z1, Z3⟩ := X.fin (ndC n p3)
      refine bodyPost_ret (v := .tuple #[ndV n p3, .int .i64 2]) ?_ rfl ?_
      · exact results_num Tryz.results25 _ _ gr _ _ rfl rfl Z1 rfl
      · rw [hA.out, hQ.out]
        have hz4 := C4.z
        have hw := X.bel.size
        have hgl := X.hg
        have i := (C4.i.sep (mid_setRow W4 gr (ndC n p3)) (.inr (by omega)))
        have z7 : (W4.setRow gr (ndC n p3)).heap.size = W4.heap.size := by simp
        exact ⟨p3, _, MB, MF, rfl, i.wide (by omega) (by omega), Z3⟩
    · have hQ : Hid (queN n f = ({ n with box := (putV n.box f).1 }, (putV n.box f).2)) := Lib.hid (if_neg (by rintro ⟨-, h⟩; exact hq h))
      have hfo : frOk f.id f.rm f.ln f.D = true := hfb
      have hq' : (rankV f.id f.rm f.ln f.D == sendV n) = false := beq_eq_false_iff_ne.2 fun h => hq h.symm
      clear hfb hq
      refine region_class (QC g gf gr n p3 f af cf j w2.heap.size w3.heap.size MB MF w) (by kernel_rfl) (by kernel_rfl) C.drew ?_
      repeat first
        | go_big_quiet_skip
        | (go_big_quiet_want
           apply Exists.intro
           refine ⟨fun u hu => ?_, ?_⟩
           · exact quietAt_val (hu.took rfl rfl)
           simp only [Act.put, List.setIfInBounds_toArray, List.set_cons_zero, List.set_cons_succ]
           go_big_quiet_on)
        | (go_big_quiet_want
           apply Exists.intro
           refine ⟨fun u hu => ?_, ?_⟩
           · exact quietAt_val (frTookI (f := f) (af := af) (cf := cf) hu.q.frm rfl rfl)
           simp only [Act.put, List.setIfInBounds_toArray, List.set_cons_zero, List.set_cons_succ]
           go_big_quiet_on)
        | (go_big_quiet_want
           apply Exists.intro
           refine ⟨fun u hu => ?_, ?_⟩
           · apply quietAt_val
             obtain ⟨x0, x1, x2, x3⟩ := hu.cells
             go_simp
             rfl
           simp only [Act.put, List.setIfInBounds_toArray, List.set_cons_zero, List.set_cons_succ]
           go_big_quiet_on)
        | (go_big_quiet_want
           apply Exists.intro
           refine ⟨fun u hu => ?_, ?_⟩
           · apply quietAt_enter 90 #[frV f.id f.rm f.ln af f.D.length cf]
             · go_simp
             · refine (implFrameOk _ _ _ _ _ _ u hu.s).mono ?_
               rintro e w2 ⟨he, b2⟩
               rw [hfo] at he
               exact ⟨he, hu.below b2⟩
           simp only [Act.put, List.setIfInBounds_toArray, List.set_cons_zero, List.set_cons_succ]
           go_big_quiet_on)
        | (go_big_quiet_want
           apply Exists.intro
           refine ⟨fun u hu => ?_, ?_⟩
           · apply quietAt_enter 105 #[frV f.id f.rm f.ln af f.D.length cf]
             · go_simp
             · refine (implRankOf _ _ _ _ _ _ u hu.s).mono ?_
               rintro e w2 ⟨rfl, b2⟩
               exact ⟨rfl, hu.below b2⟩
           simp only [Act.put, List.setIfInBounds_toArray, List.set_cons_zero, List.set_cons_succ]
           go_big_quiet_on)
        | (go_big_quiet_want
           apply Exists.intro
           refine ⟨fun u hu => ?_, ?_⟩
           · apply quietAt_enter 27 #[ndV n p3]
             · go_simp
             · refine (implSending _ _ u (hu.i.ndm hs)).mono ?_
               rintro e w2 ⟨rfl, b2⟩
               exact ⟨rfl, hu.below b2⟩
           simp only [Act.put, List.setIfInBounds_toArray, List.set_cons_zero, List.set_cons_succ]
           go_big_quiet_on)
      refine wpQuiet_nil ?_
      intro W4 C4
      clear C
      have c15 : W4.cell? ⟨g, 15, none⟩ = some (.slice p3.ab n.box.length p3.cb) := C4.q.cell 15
      obtain ⟨x0, x1, x2, x3⟩ := C4.cells
      go_wp2_with fail
      refine (show Calls _ _ _ _ (PutGot (putV n.box f) _) from implPutIn p3.ab n.box p3.cb f.id f.rm f.ln af f.D cf _ (C4.i.ndm hs).box C4.i.nda.box.1 C4.i.nda.box.2 C4.s).mono ?_
      rintro e w5 ⟨M, ab, cb, rfl, hM, OB, FB, b⟩
      have C5 := C4.below b
      have z5 := b.size
      have UB := OB.under
      have z4 := C4.z
      have l4 := C4.q.lt
      clear b x0 x1 x2 x3 c15
      have c15 : w5.cell? ⟨g, 15, none⟩ = some (.slice p3.ab n.box.length p3.cb) := C5.q.cell 15
      have f15 := C5.q.free 15
      go_upto_region 8 with fail
      clear c15 f15
      have X : NQ g gf gr (ndC { n with box := (putV n.box f).1 } { p3 with ab := ab, cb := cb }) (frC f af cf) w _ := C5.q.set 15 (.slice ab (putV n.box f).1.length cb)
      have I := C5.i.sep (mid_setCell w5 g 15 (.slice ab (putV n.box f).1.length cb)) (.inr (by omega))
      have B := OB.kept2 (grown_at_cell w5 g 15 (.slice ab (putV n.box f).1.length cb)) l4.1
      have z6 : (World.setCell w5 ⟨g, 15, none⟩ (.slice ab (putV n.box f).1.length cb)).heap.size = w5.heap.size := by simp
      generalize World.setCell w5 _ _ = W6 at X I B z6 ⊢
      clear C4 C5 OB
      go_wp2_with (first | (refine Nx.take ⟨X.blk, X.bel⟩ rfl rfl rfl ?_) | (refine wpList_put (n := { n with box := (putV n.box f).1 }) (p := { p3 with ab := ab, cb := cb }) X.res rfl rfl rfl rfl rfl ?_))
      obtain ⟨Z1, Z3⟩ := X.fin (ndC { n with box := (putV n.box f).1 } { p3 with ab := ab, cb := cb })
      have I7 := I.sep (mid_setRow W6 gr (ndC { n with box := (putV n.box f).1 } { p3 with ab := ab, cb := cb })) (.inr (by omega))
      have B7 := B.kept2 (grown_setRow W6 gr (ndC { n with box := (putV n.box f).1 } { p3 with ab := ab, cb := cb })) l4.2.2
      have z7 : (W6.setRow gr (ndC { n with box := (putV n.box f).1 } { p3 with ab := ab, cb := cb })).heap.size = W6.heap.size := by simp
      refine bodyPost_ret (v := .tuple #[ndV { n with box := (putV n.box f).1 } { p3 with ab := ab, cb := cb }, .int .i64 (putV n.box f).2]) ?_ rfl ?_
      · exact results_num Tryz.results25 _ _ gr _ _ rfl rfl Z1 rfl
      · rw [hA.out, hQ.out]
        obtain ⟨o1, o2, o3, o4, o5, o6, o7, o8, o9, o10⟩ := I7.ok
        have hgl := X.hg
        exact ⟨{ p3 with ab := ab, cb := cb }, { j with x0 := W4.heap.size, x1 := w5.heap.size }, M, MF, rfl, ⟨I7.dat, B7, I7.fifo, I7.flt, hM, I7.mf, FB, I7.ff, I7.ud, UB, I7.uf, I7.ul, ⟨by dsimp only; omega, by dsimp only; omega, by dsimp only; omega, by dsimp only; omega, by dsimp only; omega, o6, o7, by dsimp only; omega, by dsimp only; omega, o10⟩, I7.got⟩, Z3⟩
end Go.Proofs.YtngcekegngmedaaGreatDoor

/- The walk of laws.FnEcho. -/

set_option linter.unusedVariables false
set_option linter.unusedSimpArgs false
namespace Go.Proofs.YtngcekegngmedaaGreatDoor
open Go.RowKit

theorem wire_list {f : Frm} (h : frB f = true) : (wireV f.id f.rm f.ln f.D).data.toList = wireL f := by
  have h' : frOk f.id f.rm f.ln f.D = true := h
  rw [wireV_yes h', append_toList, stfV_yes (stf_len h').1]
  rfl
theorem que_new {f : Frm} (h : frB f = true) : queA (znd []) f = (startE f, 0) := by
  have hn : nodeB (znd []) = true := by decide
  have hr := rk_pos h
  have hb : boxB [] = true := by decide
  have e : putV [] f = ([f], 0) := by
    rw [putV_new (p := 0) hb (by omega) ⟨Nat.le_refl _, fun j hj => absurd hj (by omega), fun j hj hl => absurd hl (by simp)⟩ (by simp [metB]) (by simp)]
    rfl
  unfold queA
  rw [if_pos hn]
  unfold queN
  have hs : sendV (znd []) = -1 := if_pos (.inl rfl)
  rw [if_neg (by rintro ⟨-, h2⟩; rw [hs] at h2; omega)]
  show ({ znd [] with box := (putV [] f).1 }, (putV [] f).2) = _
  rw [e]
  rfl
theorem Ans.kind {g gh : Nat} {n : Nd} {p : NdP} {k : Int} {f : Frm} {ad : Option Addr} {cd : Nat} {w0 w : World} (h : Ans g gh n p k f ad cd w0 w) : w.cell? ⟨gh, 0, none⟩ = some (.int .i64 k) := cell_of_row w gh 0 _ _ _ h.hp
theorem nx_grown {g : Nat} {n : Nd} {p : NdP} {w0 w w' : World} {r : Option Nat} (h : Nx g n p w0 w) (k : w.grownBy w' r) (hr : ∀ q, r = some q → w0.heap.size ≤ q ∧ g ≠ q) : Nx g n p w0 w' :=
  ⟨(k.block g h.lt (fun e => (hr g e.symm).2 rfl)).trans h.blk, h.bel.grown k h.bel.size (fun q e => (hr q e).1)⟩

set_option maxHeartbeats 16000000 in
set_option maxRecDepth 20000 in
theorem walkFnEcho (a : Option Addr) (len cap : Nat) (w : World) (cd : Code w.heap.size a len w) (hg : ErrHeld w) :
    Calls Tryz.prog 4 #[.slice a len cap] w fun e w' => e = .returned (.bool true) ∧ Below w.heap.size w w' := by
  have hlm := cd.1
  go_enter Tryz.func4, Tryz.ntmps4
  go_wp2_with fail
  refine (bigAny a len cap w hlm).mono ?_
  rintro e w1 ⟨rfl, rfl⟩
  by_cases hbig : (4096 : Int) < (len : Int)
  · go_wp2_with fail
    go_ret
    exact ⟨rfl, Below.refl _ _⟩
  go_wp2_with fail
  refine (rollAny (B := w.heap.size) 8 w cd (Nat.le_refl _)).mono ?_
  rintro e w2 ⟨rfl, g2, s2⟩
  have b := below_new g2
  have hz2 := b.size
  clear g2
  generalize hdp : w.heap.size = dp at s2 ⊢
  have B0 := b
  clear b
  have HF : Fls (some ⟨w2.heap.size, 0, none⟩) [] (w2.alloc (.cells #[] 175)) := ⟨Nat.zero_le _, fun j hj => absurd hj (by simp)⟩
  have b := below_more (Below.refl w2.heap.size w2) (.cells #[] 175)
  replace B0 := Below.then2 B0 b
  have hd2 := s2.lt
  replace s2 := s2.below b
  clear b
  go_wp2_with fail
  refine (specNewNode _ [] 0 _ HF (fun e => by cases e) (Nat.zero_le _)).mono ?_
  rintro e w3 ⟨a3, c3, rfl, O3, b⟩
  replace B0 := Below.then2 B0 b
  replace s2 := s2.below b
  clear b
  have hL : newL [] = [] := rfl
  have hB : newB [] = true := by decide
  rw [hL] at O3 ⊢
  rw [hB]
  have hw30 := B0.size
  have hd3 := s2.lt
  have ownB3 : ∀ q, (Value.slice a3 ([] : List (Int × Int)).length c3).ownBlock = some q → dp < q := fun q hq => by have h1 := O3.low hq; simp at h1; omega
  have X := Nx.made (znd []) (zp a3 c3) B0
  have b := below_more (Below.refl w3.heap.size w3) (.cells (ndC (znd []) (zp a3 c3)) 32)
  go_upto_region 5 with (skip; refine wpList_lay (w := w3) (n := znd []) (p := zp a3 c3) (C := ndZ) (by rfl) (by rfl) (by rfl) (by rfl) (by rfl) (by rfl) ?_)
  replace s2 := s2.below b
  replace O3 := O3.below b
  clear b B0
  generalize w3.alloc _ = W3 at X s2 O3 ⊢
  have hgnd : dp < w3.heap.size := by omega
  have hgnw : w.heap.size ≤ w3.heap.size := by omega
  generalize w3.heap.size = gn at *
  have hw3 := X.bel.size
  go_wp2_with fail
  refine (throwAny (B := dp) (a := a) (len := len) (cap := cap) 2048 _ (by omega) (by omega) s2).mono ?_
  rintro e w4 ⟨id, id0, id1, rfl, g4, s4⟩
  have hgn : gn ≠ dp := by omega
  have hx4 := X.lt
  have h4 := g4.size
  replace X := nx_grown X g4 (fun q e => by cases e; exact ⟨by omega, hgn⟩)
  replace O3 := O3.kept g4 (.inr (fun e => by have := ownB3 dp e; omega))
  clear g4 s2
  go_wp2_with fail
  refine (frameAny (B := dp) (a := a) (len := len) (cap := cap) id w4 (by omega) (by omega) s4).mono ?_
  rintro e w5 ⟨ln, D, av, cv, rfl, O5, hok, g5, -⟩
  have h5 := g5.size
  replace X := nx_grown X g5 (fun q e => by cases e; exact ⟨by omega, hgn⟩)
  replace O3 := O3.kept g5 (.inr (fun e => by have := ownB3 dp e; omega))
  clear g5 s4
  have b := below_more (Below.refl w5.heap.size w5) (.cells #[.int .i64 id, .bool false, .int .i64 ln, .slice av D.length cv] 26)
  have G : (w5.alloc (.cells #[.int .i64 id, .bool false, .int .i64 ln, .slice av D.length cv] 26)).heap[w5.heap.size]? = some (.cells (frC ⟨id, false, ln, D⟩ av cv) 26 (0, 0)) := heap_alloc_new w5 _
  replace X := X.below b
  replace O3 := O3.below b
  have h6g : gn < w5.heap.size := by omega
  replace O5 := O5.below' b
  clear b
  go_upto_region 6 with fail
  generalize w5.alloc _ = W5 at X O3 O5 G ⊢
  generalize w5.heap.size = gf at G h6g ⊢
  have hf : frB ⟨id, false, ln, D⟩ = true := hok
  have hlist := wire_list hf
  have hque := que_new hf
  have hwl := wire_len id false ln D
  have hwlen : (wireL ⟨id, false, ln, D⟩).length = (wireV id false ln D).size := by rw [← hlist]; exact Array.length_toList
  clear hok
  have M3 : NdM (znd []) (zp a3 c3) W5 := NdM.new (O3.flsAt (by simp)).2 c3
  go_wp2_with (first | (refine X.take rfl rfl rfl ?_) | (refine frTakeI (f := ⟨id, false, ln, D⟩) G rfl rfl rfl ?_))
  refine (implQueued (znd []) (zp a3 c3) ⟨id, false, ln, D⟩ av cv _ M3 O5.nums2).mono ?_
  rintro e w6 h6
  rw [hque] at h6
  obtain ⟨p6, j6, _, _, rfl, I6, b⟩ := h6
  have x5 := X.lt
  replace X := X.below b
  replace G := (b.block _ (Array.getElem?_eq_some_iff.1 G).1).trans G
  replace O5 := O5.below' b
  clear b M3 O3 hque
  go_upto_region 7 with (refine wpList_put (n := startE ⟨id, false, ln, D⟩) (p := p6) X.blk rfl rfl rfl rfl rfl ?_)
  have m := mid_setRow w6 gn (ndC (startE ⟨id, false, ln, D⟩) p6)
  replace I6 := I6.sep m (.inr (by omega))
  have X6 : Nx gn (startE ⟨id, false, ln, D⟩) p6 w (w6.setRow gn (ndC (startE ⟨id, false, ln, D⟩) p6)) := ⟨setRow_heap _ _ _ _ _ _ X.blk, below_setRow X.bel hgnw (ndC (startE ⟨id, false, ln, D⟩) p6)⟩
  have hgf : gf ≠ gn := by omega
  replace G := (setRow_other w6 gn gf (ndC (startE ⟨id, false, ln, D⟩) p6) hgf).trans G
  have N6 : Nums av D (w6.setRow gn (ndC (startE ⟨id, false, ln, D⟩) p6)) := (O5.mid m (by omega)).nums2
  clear X m O5
  generalize w6.setRow _ _ = W6 at X6 I6 G N6 ⊢
  go_wp2_with (refine frTakeI (f := ⟨id, false, ln, D⟩) G rfl rfl rfl ?_)
  refine (specWireOf id false ln av D cv _ N6).mono ?_
  rintro e w7 ⟨rfl, b⟩
  replace X6 := X6.below b
  replace I6 := I6.below b
  clear b G N6
  have hr6 : roomN (startE ⟨id, false, ln, D⟩) ≤ 1048576 := by have := roomN_right (start_right hf); omega
  have M6 := I6.ndm hr6
  have A6 := I6.nda
  have E6 := echo_start hf
  clear I6
  generalize (⟨id, false, ln, D⟩ : Frm) = f at *
  generalize startE f = n at *
  generalize wireV id false ln D = s at *
  generalize p6 = p at *
  go_wp2_with fail
  go_loopw [8, 9, 10, 11] (fun i _ _ _ wr => ∃ (k : Nat) (n : Nd) (p : NdP), k ≤ s.size ∧ i = .int .i64 k ∧ Echo f k n ∧ Nx gn n p w wr ∧ NdM n p wr ∧ NdA n p) (fun i _ _ _ _ => s.size - (intOf i).toNat)
  case atStart => exact ⟨0, n, p, Nat.zero_le _, rfl, E6, X6, M6, A6⟩
  case round =>
    obtain ⟨k, n, p, hk, rfl, E, X, M, A⟩ := hrel
    by_cases hlt : k < s.size
    · obtain ⟨⟨d, hd, hdb, hdr⟩, hE2, hkd⟩ := echo_step hf E (by omega)
      have hn := E.1
      have hi := fun W : World => index_at s k k W hlt rfl
      have hsd : s[k]'hlt = d := by
        have e1 : s.data.toList[k]? = some d := by rw [hlist]; exact hd
        have e2 : s.data.toList[k]? = some (s[k]'hlt) := by rw [List.getElem?_eq_getElem (by rw [Array.length_toList]; exact hlt)]; rfl
        rw [e2] at e1; exact Option.some.inj e1
      simp only [hsd] at hi
      obtain ⟨q, hqv, hqc⟩ : ∃ q : Bool, (bitI d == 0) = q ∧ (((d.toNat : Nat) : Int) == 48) = q := by
        rcases bit_val hdb with rfl | rfl
        · exact ⟨true, by decide, by decide⟩
        · exact ⟨false, by decide, by decide⟩
      have hv01 := bitI_01 hdb
      generalize hv : bitI d = v at hqv hv01 hdr
      generalize ((d.toNat : Nat) : Int) = c at hi hqc
      have hqq : (!(q == q)) = false := by cases q <;> rfl
      obtain ⟨q9, hq9, hse1, hse0⟩ : ∃ q9 : Bool, ((k : Int) == (s.size : Int) - 9) = q9 ∧ (q9 = true → 0 = seenE f k n) ∧ (q9 = false → v = seenE f k n) := by
        unfold seenE
        by_cases h9 : k + 9 = s.size
        · exact ⟨true, beq_iff_eq.2 (by omega), fun _ => by rw [if_pos (by omega)], fun h => by cases h⟩
        · exact ⟨false, beq_eq_false_iff_ne.2 (by omega), fun h => by (cases h), fun _ => by rw [if_neg (by omega)]; exact hdr.symm⟩
      have hl01 : seenE f k n = 0 ∨ seenE f k n = 1 := by
        cases q9
        · rw [← hse0 rfl]; exact hv01
        · exact .inl (hse1 rfl).symm
      obtain ⟨N, kk, ff, hr⟩ : ∃ N kk ff, sampN n (seenE f k n) = (N, kk, ff) := ⟨_, _, _, rfl⟩
      have hNb : nodeB N = true := by have := samp_right hn hl01; rw [hr] at this; exact this
      have hNr : roomN N ≤ 1048576 := by have := roomN_right hNb; omega
      rw [hr] at hE2 hkd
      dsimp only at hE2 hkd
      have hk1 : k + 1 = s.size → kk = 1 := fun h => by rw [hkd, if_pos (by omega)]
      have hk0 : ¬ k + 1 = s.size → kk = 0 := fun h => by rw [hkd, if_neg (by omega)]
      have HI := Lib.hid (fun (l : Int) (W : World) (hl : l = seenE f k n) (h1 : NdM n p W) (h2 : ErrHeld W) => show Calls _ _ _ _ (SampOx N kk ff W) from (implSampled n p l W h1 h2 A).mono (fun e w' h => by
        have hA : sampA n l = (N, kk, ff) := by
          unfold sampA
          rw [hl, if_pos (by rw [hn]; have : rng (seenE f k n) 0 1 = true := rng_iff.2 (by omega); rw [this]; rfl)]; exact hr
        rw [hA] at h; exact h))
      replace HI := HI.out
      replace hse1 := Lib.hid hse1
      replace hse0 := Lib.hid hse0
      clear hr hkd hl01 hsd hd hdb
      go_wp2_with (refine X.take rfl rfl rfl ?_)
      refine (implDrives n p _ M).mono ?_
      rintro e w8 ⟨he, b⟩
      rw [hdr] at he
      subst he
      replace X := X.below b
      replace M := M.below b
      clear b hdr
      replace HI := Lib.hid HI
      cases q9
      · go_wp2_with (refine X.take rfl rfl rfl ?_)
        refine (HI.out _ _ (hse0.out (by trivial)) M (hg.below X.bel)).mono ?_
        rintro e w9 ⟨p9, ad9, cd9, j9, H9, CB, CF, rfl, F9, -, l9, I9, b⟩
        have x8 := X.lt
        have z9 := b.size
        replace X := X.below b
        clear b F9 M HI
        have C := Ans.made N p9 kk ff ad9 cd9 w9 X.bel
        have b := ans_below N p9 kk ff ad9 cd9 w9 (Below.refl w9.heap.size w9) (Nat.le_refl _)
        have a1 := ans_node w9
        have a2 := ans_hap N p9 w9
        go_upto_region 17 with (first | (refine wpList_put (n := N) (p := p9) a1 rfl rfl rfl rfl rfl ?_) | (refine wpList_tell (k := kk) (f := ff) (ad := ad9) (cd := cd9) a2 rfl rfl rfl rfl rfl ?_))
        clear a1 a2
        replace X := X.below b
        replace I9 := I9.below b
        clear b
        unfold ansW at X I9 C
        generalize World.setRow _ _ _ = W9 at X I9 C ⊢
        generalize w9.heap.size + 1 = gh at C ⊢
        generalize w9.heap.size = gx at C z9 ⊢
        have ck := C.kind
        have m := mid_setRow W9 gn (ndC N p9)
        have I10 := (I9.sep m (.inr (by omega)))
        have X10 : Nx gn N p9 w (W9.setRow gn (ndC N p9)) := ⟨setRow_heap _ _ _ _ _ _ X.blk, below_setRow X.bel hgnw (ndC N p9)⟩
        have M10 := I10.ndm hNr
        have A10 := I10.nda
        clear m I9 I10
        by_cases he : k + 1 = s.size
        · obtain rfl : kk = 1 := hk1 he
          have hq1 : ((k : Int) == (s.size : Int) - 1) = true := beq_iff_eq.2 (by omega)
          go_wp2_with (first | (refine C.takeN rfl rfl rfl ?_) | (refine wpList_put (n := N) (p := p9) X.blk rfl rfl rfl rfl rfl ?_))
          go_roundw
          case rel => exact ⟨k + 1, N, p9, by omega, by go_num, hE2, X10, M10, A10⟩
          case measure => simp [intOf]; omega
        · obtain rfl : kk = 0 := hk0 he
          have hq1 : ((k : Int) == (s.size : Int) - 1) = false := beq_eq_false_iff_ne.2 (by omega)
          go_wp2_with (first | (refine C.takeN rfl rfl rfl ?_) | (refine wpList_put (n := N) (p := p9) X.blk rfl rfl rfl rfl rfl ?_))
          go_roundw
          case rel => exact ⟨k + 1, N, p9, by omega, by go_num, hE2, X10, M10, A10⟩
          case measure => simp [intOf]; omega
      · go_wp2_with (refine X.take rfl rfl rfl ?_)
        refine (HI.out _ _ (hse1.out (by trivial)) M (hg.below X.bel)).mono ?_
        rintro e w9 ⟨p9, ad9, cd9, j9, H9, CB, CF, rfl, F9, -, l9, I9, b⟩
        have x8 := X.lt
        have z9 := b.size
        replace X := X.below b
        clear b F9 M HI
        have C := Ans.made N p9 kk ff ad9 cd9 w9 X.bel
        have b := ans_below N p9 kk ff ad9 cd9 w9 (Below.refl w9.heap.size w9) (Nat.le_refl _)
        have a1 := ans_node w9
        have a2 := ans_hap N p9 w9
        go_upto_region 17 with (first | (refine wpList_put (n := N) (p := p9) a1 rfl rfl rfl rfl rfl ?_) | (refine wpList_tell (k := kk) (f := ff) (ad := ad9) (cd := cd9) a2 rfl rfl rfl rfl rfl ?_))
        clear a1 a2
        replace X := X.below b
        replace I9 := I9.below b
        clear b
        unfold ansW at X I9 C
        generalize World.setRow _ _ _ = W9 at X I9 C ⊢
        generalize w9.heap.size + 1 = gh at C ⊢
        generalize w9.heap.size = gx at C z9 ⊢
        have ck := C.kind
        have m := mid_setRow W9 gn (ndC N p9)
        have I10 := (I9.sep m (.inr (by omega)))
        have X10 : Nx gn N p9 w (W9.setRow gn (ndC N p9)) := ⟨setRow_heap _ _ _ _ _ _ X.blk, below_setRow X.bel hgnw (ndC N p9)⟩
        have M10 := I10.ndm hNr
        have A10 := I10.nda
        clear m I9 I10
        by_cases he : k + 1 = s.size
        · obtain rfl : kk = 1 := hk1 he
          have hq1 : ((k : Int) == (s.size : Int) - 1) = true := beq_iff_eq.2 (by omega)
          go_wp2_with (first | (refine C.takeN rfl rfl rfl ?_) | (refine wpList_put (n := N) (p := p9) X.blk rfl rfl rfl rfl rfl ?_))
          go_roundw
          case rel => exact ⟨k + 1, N, p9, by omega, by go_num, hE2, X10, M10, A10⟩
          case measure => simp [intOf]; omega
        · obtain rfl : kk = 0 := hk0 he
          have hq1 : ((k : Int) == (s.size : Int) - 1) = false := beq_eq_false_iff_ne.2 (by omega)
          go_wp2_with (first | (refine C.takeN rfl rfl rfl ?_) | (refine wpList_put (n := N) (p := p9) X.blk rfl rfl rfl rfl rfl ?_))
          go_roundw
          case rel => exact ⟨k + 1, N, p9, by omega, by go_num, hE2, X10, M10, A10⟩
          case measure => simp [intOf]; omega
    · obtain rfl : k = s.size := by omega
      have hend : n = endE f := echo_end hf (by rw [hwlen]; exact E)
      subst hend
      have c0 : wr.cell? ⟨gn, 0, none⟩ = some (.int .i64 5) := X.cells.1
      have c13 : wr.cell? ⟨gn, 13, none⟩ = some (.int .i64 0) := cell_of_row _ gn 13 _ _ _ X.blk
      have c14 : wr.cell? ⟨gn, 14, none⟩ = some (.int .i64 0) := cell_of_row _ gn 14 _ _ _ X.blk
      have c15 : wr.cell? ⟨gn, 15, none⟩ = some (.slice p.ab 0 p.cb) := cell_of_row _ gn 15 _ _ _ X.blk
      have hb := X.bel
      clear X M A E
      go_wp2_with fail
      go_ret
      exact ⟨rfl, hb⟩
end Go.Proofs.YtngcekegngmedaaGreatDoor
