/- The harness's szNode, toNode and eqNode: a node's size, its copy and what the copy owns, two alike. -/
import Derived.Test.YthhhhfpgmolcmaaGreatM9
import Derived.Test.YthhhhfpgmolcmaaGreatM21
import Derived.Test.YthhhhfpgmolcmaaGreatM19
import Derived.Laws.CopyOwn
import Derived.Test.YthhhhfpgmolcmaaGreatM4
import Derived.Test.YthhhhfpgmolcmaaGreatM6

set_option linter.unusedVariables false
set_option linter.unusedSimpArgs false
set_option maxRecDepth 20000
namespace Go.Proofs.YthhhhfpgmolcmaaGreat
open Go.RowKit

/-! ### An argument's own node (laws.Node). -/
section
variable {n : Nd} {p : NdP} {w w' w0 : World} {g : Nat}
structure Ny (g : Nat) (n : Nd) (p : NdP) (w0 w : World) : Prop where
  blk : w.heap[g]? = some (.cells (ndC n p) 47 (0, 0))
  bel : Below w0.heap.size w0 w
theorem Ny.lt (h : Ny g n p w0 w) : g < w.heap.size := (Array.getElem?_eq_some_iff.1 h.blk).1
theorem Ny.below (h : Ny g n p w0 w) (b : Below w.heap.size w w') : Ny g n p w0 w' := ⟨(b.block g h.lt).trans h.blk, Below.then2 h.bel b⟩
theorem Ny.made (n : Nd) (p : NdP) (b : Below w0.heap.size w0 w) : Ny w.heap.size n p w0 (w.alloc (.cells (ndC n p) 47)) := ⟨heap_alloc_new w _, b.alloc b.size _⟩
theorem Ny.take (h : Ny g n p w0 w) {ops : Array Oper} {rest : List Oper} {o : Oper} {a : Act} {Q : Exit → Act → World → Prop} {x : Operand} (ho : o.op = .load 47 x) (hx : a.eval x = .pointer (some ⟨g, 0, none⟩))
    (hw : Region.wanted o (yielded ops a.tmps) = true) (k : wpList Tryz.prog ops Q rest (a.put o.dst (ndV n p)) w) : wpList Tryz.prog ops Q (o :: rest) a w :=
  BigFrame.wpList_want hw fun _ hK => wp_load_row 47 x ho g hx 47 (ndC n p) (0, 0) _ h.blk Tryz.underlying47 rfl (by kernel_rfl) (hK _ _ k)
theorem Ny.took (h : Ny g n p w0 w) {o : Oper} {a : Act} {x : Operand} (ho : o.op = .load 47 x) (hx : a.eval x = .pointer (some ⟨g, 0, none⟩)) : (execOp a.eval o).run Tryz.prog w = .ok (.value (ndV n p)) w := by
  unfold execOp
  simp only [ho, hx, Instr.loadAt, Instr.sureAddr, Sem.run_bind, Sem.run_pure, Result.andThen_ok, run_loadVar_row w g 47 47 (ndC n p) (0, 0) _ h.blk Tryz.underlying47 rfl (by kernel_rfl)]
end
/-- The zero node's cells. -/
abbrev ndZ : Array Value := #[.int .i64 0, .bool false, .bool false, .bool false, .int .i64 0, .bool false, .int .i64 0, .slice none 0 0, .string ⟨#[]⟩, .int .i64 0, .int .i64 0, .int .i64 0, .int .i64 0, .int .i64 0, .int .i64 0, .slice none 0 0, .slice none 0 0, .slice none 0 0]
/-- A copy is being made: the argument's block, the copy's, the result's. -/
structure TN (ga g gr : Nat) (n : Nd) (p : NdP) (C : Array Value) (w0 w : World) : Prop where
  arg : w.heap[ga]? = some (.cells (ndC n p) 47 (0, 0))
  blk : w.heap[g]? = some (.cells C 33 (0, 0))
  res : w.heap[gr]? = some (.cells ndZ 33 (0, 0))
  bel : Below w0.heap.size w0 w
  ha : w0.heap.size ≤ ga
  hg : w0.heap.size ≤ g
  hr : w0.heap.size ≤ gr
  ne : ga ≠ g
  nr : gr ≠ g
section
variable {ga g gr : Nat} {n : Nd} {p : NdP} {C : Array Value} {w w' w0 : World}
theorem TN.lt (h : TN ga g gr n p C w0 w) : ga < w.heap.size ∧ g < w.heap.size ∧ gr < w.heap.size := ⟨(Array.getElem?_eq_some_iff.1 h.arg).1, (Array.getElem?_eq_some_iff.1 h.blk).1, (Array.getElem?_eq_some_iff.1 h.res).1⟩
theorem TN.below (h : TN ga g gr n p C w0 w) (b : Below w.heap.size w w') : TN ga g gr n p C w0 w' :=
  ⟨(b.block ga h.lt.1).trans h.arg, (b.block g h.lt.2.1).trans h.blk, (b.block gr h.lt.2.2).trans h.res, Below.then2 h.bel b, h.ha, h.hg, h.hr, h.ne, h.nr⟩
theorem TN.set (h : TN ga g gr n p C w0 w) (k : Nat) (v : Value) : TN ga g gr n p (C.setIfInBounds k v) w0 (w.setCell ⟨g, k, none⟩ v) :=
  ⟨(heap_setCell_other w ⟨g, k, none⟩ ga v h.ne).trans h.arg, heap_setCell_same w g k _ _ v h.blk, (heap_setCell_other w ⟨g, k, none⟩ gr v h.nr).trans h.res, h.bel.setCell h.hg _, h.ha, h.hg, h.hr, h.ne, h.nr⟩
theorem TN.cell (h : TN ga g gr n p C w0 w) (k : Nat) : w.cell? ⟨g, k, none⟩ = C[k]? := cell_of_row w g k _ _ _ h.blk
theorem TN.free (h : TN ga g gr n p C w0 w) (k : Nat) : w.frozen? ⟨g, k, none⟩ = false := frozen_of_row w g k _ _ h.blk
theorem TN.argc (h : TN ga g gr n p C w0 w) (k : Nat) : w.cell? ⟨ga, k, none⟩ = (ndC n p)[k]? := cell_of_row w ga k _ _ _ h.arg
theorem TN.made (n : Nd) (p : NdP) (w : World) : TN w.heap.size (w.heap.size + 1 + 1) (w.heap.size + 1) n p ndZ w (((w.alloc (.cells (ndC n p) 47)).alloc (.cells ndZ 33)).alloc (.cells ndZ 33)) := by
  have s1 : (w.alloc (.cells (ndC n p) 47)).heap.size = w.heap.size + 1 := by simp
  have s2 : ((w.alloc (.cells (ndC n p) 47)).alloc (.cells ndZ 33)).heap.size = w.heap.size + 1 + 1 := by simp
  have b1 : Below w.heap.size w (w.alloc (.cells (ndC n p) 47)) := below_more (Below.refl _ _) _
  have b2 := below_more b1 (.cells ndZ 33)
  have b3 := below_more b2 (.cells ndZ 33)
  have k1 : Below (w.heap.size + 1) (w.alloc (.cells (ndC n p) 47)) ((w.alloc (.cells (ndC n p) 47)).alloc (.cells ndZ 33)) := by rw [← s1]; exact below_more (Below.refl _ _) _
  have k2 : Below (w.heap.size + 1 + 1) ((w.alloc (.cells (ndC n p) 47)).alloc (.cells ndZ 33)) (((w.alloc (.cells (ndC n p) 47)).alloc (.cells ndZ 33)).alloc (.cells ndZ 33)) := by rw [← s2]; exact below_more (Below.refl _ _) _
  refine ⟨?_, ?_, ?_, b3, by omega, by omega, by omega, by omega, by omega⟩
  · rw [k2.block _ (by omega), k1.block _ (by omega)]; exact heap_alloc_new w _
  · rw [← s2]; exact heap_alloc_new _ _
  · rw [k2.block _ (by omega), ← s1]; exact heap_alloc_new _ _
/-- The copy goes into the result's block, whole. -/
theorem TN.fin (h : TN ga g gr n p C w0 w) (hC : C.size = 18) (h1 : C.all (·.oneCell') = true) : (w.setRow gr C).heap[gr]? = some (.cells C 33 (0, 0)) ∧ w.grownBy (w.setRow gr C) (some gr) ∧ Below w0.heap.size w0 (w.setRow gr C) := by
  refine ⟨setRow_heap _ _ _ _ _ _ h.res, ⟨rfl, rfl, rfl, by simp, fun k hk hne => setRow_other w gr k C (fun e => hne (by rw [e]))⟩, below_setRow h.bel h.hr C⟩
end
theorem above_ne {v : Value} {B g : Nat} (h : ∀ k, v.ownBlock = some k → B ≤ k) (hg : g < B) : v.ownBlock = none ∨ v.ownBlock ≠ some g := by
  cases e : v.ownBlock with
  | none => exact .inl rfl
  | some k => exact .inr fun he => by cases he; have := h _ e; omega
theorem OwnF.low' {B : Nat} {M : List (Frm × Value)} {v : Value} {w : World} (h : OwnF B M v w) : (∀ k, v.ownBlock = some k → B ≤ k) ∧ ∀ m ∈ M, ∀ k, m.2.ownBlock = some k → B ≤ k := ⟨fun k hk => (h.1.lt k hk).1, fun m hm k hk => ((h.2 m hm).1.lt k hk).1⟩
theorem OwnF.kept2 {B g : Nat} {M : List (Frm × Value)} {v : Value} {w w' : World} (h : OwnF B M v w) (k : w.grownBy w' (some g)) (hg : g < B) : OwnF B M v w' :=
  ⟨h.1.kept k (above_ne h.low'.1 hg), fun m hm => (h.2 m hm).kept k (above_ne (h.low'.2 m hm) hg)⟩
theorem OwnI.kept2 {B g : Nat} {D : List Int} {v : Value} {w w' : World} (h : OwnI B D v w) (k : w.grownBy w' (some g)) (hg : g < B) : OwnI B D v w' := h.kept k (above_ne (fun _ hk => h.low hk) hg)
theorem OwnP.kept2 {B g : Nat} {M : List (Int × Int)} {v : Value} {w w' : World} (h : OwnP B M v w) (k : w.grownBy w' (some g)) (hg : g < B) : OwnP B M v w' := h.kept k (above_ne (fun _ hk => h.low hk) hg)

/-- The room that a node takes, and whether it is small enough. -/
def roomN (n : Nd) : Nat := n.fr.D.length + n.got.size + (n.box.length + room n.box n.box.length) + (n.fifo.length + room n.fifo n.fifo.length) + n.flt.length
/-- What a size's answer is. -/
def SzR (left : Int) (k : Nat) (e : Ending) : Prop := (((k : Int) ≤ left ∧ e = .returned (.int .i64 (left - k))) ∨ (left < k ∧ e = .returned (.int .i64 (-1))))
/-- What a copied node owns: its data, box, fifo and filters, one above the other. -/
structure NdO (B b1 b2 b3 : Nat) (n : Nd) (p : NdP) (MB MF : List (Frm × Value)) (w : World) : Prop where
  dat : OwnI B n.fr.D (.slice p.ad n.fr.D.length p.cd) w
  box : OwnF b1 MB (.slice p.ab n.box.length p.cb) w
  fifo : OwnF b2 MF (.slice p.af n.fifo.length p.cf) w
  flt : OwnP b3 n.flt (.slice p.al n.flt.length p.cl) w
  mb : (MB.map fun m => m.1) = n.box
  mf : (MF.map fun m => m.1) = n.fifo
  fb : Far MB
  ff : Far MF
  ub : ∀ q, (Value.slice p.ad n.fr.D.length p.cd).ownBlock = some q → q < b1
  ux : Under b2 MB (.slice p.ab n.box.length p.cb)
  uf : Under b3 MF (.slice p.af n.fifo.length p.cf)
  le : B ≤ b1 ∧ b1 ≤ b2 ∧ b2 ≤ b3
  got : n.got.size ≤ maxLen
/-- laws.szFrameS, whatever is left. -/
theorem szFramesAny (a : Option Addr) (L : List Frm) (c : Nat) (left : Int) (w : World) (hd : Frs a L w) (hl0 : 0 ≤ left) (hl1 : left ≤ 1048576) :
    Calls Tryz.prog 43 #[.slice a L.length c, .int .i64 left] w fun e w' => SzR left (L.length + room L L.length) e ∧ Below w.heap.size w w' := by
  have hm := hd.1
  unfold maxLen at hm
  go_enter Tryz.func43, Tryz.ntmps43
  by_cases h0 : left < L.length
  · have HR : Hid (SzR left (L.length + room L L.length) (.returned (.int .i64 (-1)))) := Lib.hid (.inr ⟨by omega, rfl⟩)
    go_wp2_with fail
    go_ret
    exact ⟨HR.out, Below.refl _ _⟩
  go_wp2_with fail
  go_loopw [1, 5] (fun l i wr => ∃ k : Nat, k ≤ L.length ∧ (L.length : Int) + room L k ≤ left ∧ i = .int .i64 k ∧ l = .int .i64 (left - (L.length : Int) - room L k) ∧ Below w.heap.size w wr) (fun _ i _ => L.length - (intOf i).toNat)
  case atStart => exact ⟨0, Nat.zero_le _, by rw [room_zero]; omega, rfl, by rw [room_zero]; simp, Below.refl _ _⟩
  case round =>
    obtain ⟨k, hk, hr, rfl, rfl, b⟩ := hrel
    by_cases hlt : k < L.length
    · obtain ⟨g, o, ad, cc, rfl, ⟨c0, c1, c2, c3⟩, hn⟩ := (hd.below b).2 k hlt
      have hs := room_succ L k hlt
      have hl := room_le L (show k + 1 ≤ L.length by omega)
      generalize nthF L k = f at *
      by_cases hov : (L.length : Int) + room L (k + 1) ≤ left
      · go_wp2_with fail
        refine (szFrameOk _ _ _ _ _ _ _ _ (by omega) (by omega)).mono ?_
        rintro e w2 ⟨rfl, b2⟩
        replace b := Below.then2 b b2
        clear b2 hn c0 c1 c2 c3
        go_wp2_with fail
        go_roundw
        case rel => exact ⟨k + 1, by omega, hov, by go_num, by congr 1; omega, b⟩
        case measure => simp [intOf]; omega
      · have hn1 := hn.1
        have HR : Hid (SzR left (L.length + room L L.length) (.returned (.int .i64 (-1)))) := Lib.hid (.inr ⟨by omega, rfl⟩)
        go_wp2_with fail
        refine (szFrameOver _ _ _ _ _ _ _ _ hn1 (by omega) (by omega) (by omega)).mono ?_
        rintro e w2 ⟨rfl, b2⟩
        replace b := Below.then2 b b2
        clear b2 hn c0 c1 c2 c3
        go_wp2_with fail
        go_ret
        exact ⟨HR.out, b⟩
    · obtain rfl : k = L.length := by omega
      have HR : Hid (SzR left (L.length + room L L.length) (.returned (.int .i64 (left - (L.length : Int) - room L L.length)))) := Lib.hid (.inl ⟨by omega, by congr 2; omega⟩)
      go_wp2_with fail
      go_ret
      exact ⟨HR.out, b⟩
theorem szFltAny (a : Option Addr) (n c : Nat) (left : Int) (w : World) (hm : n ≤ maxLen) (hl0 : 0 ≤ left) (hl1 : left ≤ 1048576) :
    Calls Tryz.prog 21 #[.slice a n c, .int .i64 left] w fun e w' => SzR left n e ∧ w = w' := by
  unfold maxLen at hm
  go_enter Tryz.func21, Tryz.ntmps21
  by_cases h : (n : Int) ≤ left
  · have HR : Hid (SzR left n (.returned (.int .i64 (left - n)))) := Lib.hid (.inl ⟨h, rfl⟩)
    go_wp2_with fail
    go_ret
    exact ⟨HR.out, rfl⟩
  · have HR : Hid (SzR left n (.returned (.int .i64 (-1)))) := Lib.hid (.inr ⟨by omega, rfl⟩)
    go_wp2_with fail
    go_ret
    exact ⟨HR.out, rfl⟩
set_option maxHeartbeats 4000000 in
/-- laws.szNode. -/
theorem szNodeAny (n : Nd) (p : NdP) (left : Int) (w : World) (hm : NdM n p w) (hl0 : 0 ≤ left) (hl1 : left ≤ 1048576) :
    Calls Tryz.prog 17 #[ndV n p, .int .i64 left] w fun e w' => SzR left (roomN n) e ∧ Below w.heap.size w w' := by
  have hT : Hid (roomN n = n.fr.D.length + n.got.size + (n.box.length + room n.box n.box.length) + (n.fifo.length + room n.fifo n.fifo.length) + n.flt.length) := Lib.hid rfl
  have HB : Hid (roomN n ≤ left → SzR left (roomN n) (.returned (.int .i64 (left - roomN n)))) := Lib.hid fun h => .inl ⟨h, rfl⟩
  have HO : Hid (left < roomN n → SzR left (roomN n) (.returned (.int .i64 (-1)))) := Lib.hid fun h => .inr ⟨h, rfl⟩
  have h1 := hm.nums.1
  have h2 := hm.size
  have h5 := hm.flt.1
  have Y := Ny.made n p (Below.refl w.heap.size w)
  have hT1 := hT.out
  unfold maxLen at h1 h2 h5
  go_enter Tryz.func17, Tryz.ntmps17
  go_upto_region 1 with fail
  replace hm := hm.alloc (.cells (ndC n p) 47)
  generalize w.alloc _ = W at Y hm ⊢
  generalize w.heap.size = g at Y
  have c : ∀ k, W.cell? ⟨g, k, none⟩ = (ndC n p)[k]? := fun k => cell_of_row W g k _ _ _ Y.blk
  have c4 : W.cell? ⟨g, 4, none⟩ = some (.int .i64 n.fr.id) := c 4
  have c5 : W.cell? ⟨g, 5, none⟩ = some (.bool n.fr.rm) := c 5
  have c6 : W.cell? ⟨g, 6, none⟩ = some (.int .i64 n.fr.ln) := c 6
  have c7 : W.cell? ⟨g, 7, none⟩ = some (.slice p.ad n.fr.D.length p.cd) := c 7
  have hb := Y.bel
  by_cases hD : left < n.fr.D.length
  · have HR := Lib.hid (HO.out (by omega))
    go_wp2_with fail
    refine (szFrameOver _ _ _ _ _ _ _ _ hm.nums.1 hD hl0 hl1).mono ?_
    rintro e w2 ⟨rfl, b2⟩
    replace hb := Below.then2 hb b2
    go_wp2_with fail
    go_ret
    exact ⟨HR.out, hb⟩
  go_wp2_with fail
  refine (szFrameOk _ _ _ _ _ _ _ _ (by omega) hl1).mono ?_
  rintro e w2 ⟨rfl, b2⟩
  replace hm := hm.below b2
  replace Y := Y.below b2
  replace hb := Y.bel
  clear b2 c c4 c5 c6 c7
  have c8 : w2.cell? ⟨g, 8, none⟩ = some (.string n.got) := cell_of_row w2 g 8 _ _ _ Y.blk
  by_cases hG : left - n.fr.D.length < n.got.size
  · have HR := Lib.hid (HO.out (by omega))
    go_wp2_with fail
    go_ret
    exact ⟨HR.out, hb⟩
  have c15 : w2.cell? ⟨g, 15, none⟩ = some (.slice p.ab n.box.length p.cb) := cell_of_row w2 g 15 _ _ _ Y.blk
  go_wp2_with fail
  refine (szFramesAny _ _ _ _ _ hm.box (by omega) (by omega)).mono ?_
  rintro e w3 ⟨hz | hz, b2⟩
  case inr =>
    obtain ⟨hz, rfl⟩ := hz
    have HR := Lib.hid (HO.out (by omega))
    replace hb := Below.then2 hb b2
    go_wp2_with fail
    go_ret
    exact ⟨HR.out, hb⟩
  obtain ⟨hz, rfl⟩ := hz
  replace hm := hm.below b2
  replace Y := Y.below b2
  replace hb := Y.bel
  clear b2 c8 c15
  generalize room n.box n.box.length = r1 at *
  have c16 : w3.cell? ⟨g, 16, none⟩ = some (.slice p.af n.fifo.length p.cf) := cell_of_row w3 g 16 _ _ _ Y.blk
  go_wp2_with fail
  refine (szFramesAny _ _ _ _ _ hm.fifo (by omega) (by omega)).mono ?_
  rintro e w4 ⟨hy | hy, b2⟩
  case inr =>
    obtain ⟨hy, rfl⟩ := hy
    have HR := Lib.hid (HO.out (by omega))
    replace hb := Below.then2 hb b2
    go_wp2_with fail
    go_ret
    exact ⟨HR.out, hb⟩
  obtain ⟨hy, rfl⟩ := hy
  replace hm := hm.below b2
  replace Y := Y.below b2
  replace hb := Y.bel
  clear b2 c16
  generalize room n.fifo n.fifo.length = r2 at *
  have c17 : w4.cell? ⟨g, 17, none⟩ = some (.slice p.al n.flt.length p.cl) := cell_of_row w4 g 17 _ _ _ Y.blk
  go_wp2_with fail
  refine (szFltAny _ _ _ _ _ hm.flt.1 (by omega) (by omega)).mono ?_
  rintro e w5 ⟨hx | hx, rfl⟩
  case inr =>
    obtain ⟨hx, rfl⟩ := hx
    have HR := Lib.hid (HO.out (by omega))
    go_wp2_with fail
    go_ret
    exact ⟨HR.out, hb⟩
  obtain ⟨hx, rfl⟩ := hx
  have HR := Lib.hid (HB.out (by omega))
  have hq : left - (n.fr.D.length : Int) - n.got.size - ((n.box.length + r1 : Nat) : Int) - ((n.fifo.length + r2 : Nat) : Int) - n.flt.length = left - (roomN n : Int) := by omega
  go_wp2_with fail
  go_ret
  exact ⟨by first | exact HR.out | (rw [← hq] at HR; exact HR.out), hb⟩
end Go.Proofs.YthhhhfpgmolcmaaGreat

/- The harness's toNode and eqNode: a node's copy and what the copy owns, two alike. -/

set_option linter.unusedVariables false
set_option linter.unusedSimpArgs false
set_option maxRecDepth 20000
namespace Go.Proofs.YthhhhfpgmolcmaaGreat
open Go.RowKit

theorem grown_at_cell (w : World) (g k : Nat) (v : Value) : w.grownBy (w.setCell ⟨g, k, none⟩ v) (some g) := grown_set _ _ _ _
/-- What a copy of a node leaves. -/
def GotN (n : Nd) (w : World) (e : Ending) (w' : World) : Prop :=
  ∃ (p : NdP) (b1 b2 b3 : Nat) (MB MF : List (Frm × Value)), e = .returned (ndV n p) ∧ NdO w.heap.size b1 b2 b3 n p MB MF w' ∧ Below w.heap.size w w'
set_option maxHeartbeats 8000000 in
/-- laws.toNode. -/
theorem toNodeOwn (n : Nd) (p : NdP) (w : World) (hm : NdM n p w) (hs : roomN n ≤ 1048576) :
    Calls Tryz.prog 19 #[ndV n p] w (GotN n w) := by
  unfold roomN at hs
  have gs := hm.size
  have X := TN.made n p w
  have hD : n.fr.D.length ≤ 1048576 := by omega
  have hB : n.box.length + room n.box n.box.length ≤ 1048576 := by omega
  have hF : n.fifo.length + room n.fifo n.fifo.length ≤ 1048576 := by omega
  have hL : n.flt.length ≤ 1048576 := by omega
  clear hs
  go_enter Tryz.func19, Tryz.ntmps19
  go_upto_region 2 with fail
  generalize World.alloc _ _ = W0 at X ⊢
  generalize w.heap.size + 1 + 1 = go at X ⊢
  generalize w.heap.size + 1 = gr at X ⊢
  generalize w.heap.size = ga at X ⊢
  have ya0 : W0.cell? ⟨ga, 0, none⟩ = some (.int .i64 n.ph) := X.argc 0
  have ya := ya0
  clear ya0
  have yo0 : W0.cell? ⟨go, 0, none⟩ = some (.int .i64 0) := X.cell 0
  have qf := X.free
  have q0 := qf 0
  clear qf
  go_upto_region 3 with fail
  replace X : TN ga go gr n p #[.int .i64 n.ph, .bool false, .bool false, .bool false, .int .i64 0, .bool false, .int .i64 0, .slice none 0 0, .string ⟨#[]⟩, .int .i64 0, .int .i64 0, .int .i64 0, .int .i64 0, .int .i64 0, .int .i64 0, .slice none 0 0, .slice none 0 0, .slice none 0 0] w _ := X.set 0 (.int .i64 n.ph)
  clear yo0 q0
  have hz1 : (W0.setCell ⟨go, 0, none⟩ (.int .i64 n.ph)).heap.size = W0.heap.size := by simp
  generalize W0.setCell ⟨go, 0, none⟩ (.int .i64 n.ph) = W1 at *
  clear ya
  have ya1 : W1.cell? ⟨ga, 1, none⟩ = some (.bool n.tx) := X.argc 1
  have ya := ya1
  clear ya1
  have yo1 : W1.cell? ⟨go, 1, none⟩ = some (.bool false) := X.cell 1
  have qf := X.free
  have q1 := qf 1
  clear qf
  go_upto_region 4 with fail
  replace X : TN ga go gr n p #[.int .i64 n.ph, .bool n.tx, .bool false, .bool false, .int .i64 0, .bool false, .int .i64 0, .slice none 0 0, .string ⟨#[]⟩, .int .i64 0, .int .i64 0, .int .i64 0, .int .i64 0, .int .i64 0, .int .i64 0, .slice none 0 0, .slice none 0 0, .slice none 0 0] w _ := X.set 1 (.bool n.tx)
  clear yo1 q1
  have hz2 : (W1.setCell ⟨go, 1, none⟩ (.bool n.tx)).heap.size = W1.heap.size := by simp
  generalize W1.setCell ⟨go, 1, none⟩ (.bool n.tx) = W2 at *
  clear ya
  have ya2 : W2.cell? ⟨ga, 2, none⟩ = some (.bool n.mild) := X.argc 2
  have ya := ya2
  clear ya2
  have yo2 : W2.cell? ⟨go, 2, none⟩ = some (.bool false) := X.cell 2
  have qf := X.free
  have q2 := qf 2
  clear qf
  go_upto_region 5 with fail
  replace X : TN ga go gr n p #[.int .i64 n.ph, .bool n.tx, .bool n.mild, .bool false, .int .i64 0, .bool false, .int .i64 0, .slice none 0 0, .string ⟨#[]⟩, .int .i64 0, .int .i64 0, .int .i64 0, .int .i64 0, .int .i64 0, .int .i64 0, .slice none 0 0, .slice none 0 0, .slice none 0 0] w _ := X.set 2 (.bool n.mild)
  clear yo2 q2
  have hz3 : (W2.setCell ⟨go, 2, none⟩ (.bool n.mild)).heap.size = W2.heap.size := by simp
  generalize W2.setCell ⟨go, 2, none⟩ (.bool n.mild) = W3 at *
  clear ya
  have ya3 : W3.cell? ⟨ga, 3, none⟩ = some (.bool n.bad) := X.argc 3
  have ya := ya3
  clear ya3
  have yo3 : W3.cell? ⟨go, 3, none⟩ = some (.bool false) := X.cell 3
  have qf := X.free
  have q3 := qf 3
  clear qf
  go_upto_region 6 with fail
  replace X : TN ga go gr n p #[.int .i64 n.ph, .bool n.tx, .bool n.mild, .bool n.bad, .int .i64 0, .bool false, .int .i64 0, .slice none 0 0, .string ⟨#[]⟩, .int .i64 0, .int .i64 0, .int .i64 0, .int .i64 0, .int .i64 0, .int .i64 0, .slice none 0 0, .slice none 0 0, .slice none 0 0] w _ := X.set 3 (.bool n.bad)
  clear yo3 q3
  have hz4 : (W3.setCell ⟨go, 3, none⟩ (.bool n.bad)).heap.size = W3.heap.size := by simp
  generalize W3.setCell ⟨go, 3, none⟩ (.bool n.bad) = W4 at *
  clear ya
  have ya4 : W4.cell? ⟨ga, 4, none⟩ = some (.int .i64 n.fr.id) := X.argc 4
  have ya5 : W4.cell? ⟨ga, 5, none⟩ = some (.bool n.fr.rm) := X.argc 5
  have ya6 : W4.cell? ⟨ga, 6, none⟩ = some (.int .i64 n.fr.ln) := X.argc 6
  have ya7 : W4.cell? ⟨ga, 7, none⟩ = some (.slice p.ad n.fr.D.length p.cd) := X.argc 7
  have hlt6 := X.lt.2.1
  have hrt6 := X.lt.2.2
  have hsz6 := X.bel.size
  go_wp2_with fail
  refine (toFrOwn _ _ _ _ _ _ _ (hm.nums.below X.bel) hD).mono ?_
  rintro e W5 ⟨ad, rfl, OD, b⟩
  have hc5 := b.size
  replace X := X.below b
  clear b
  clear ya4 ya5 ya6 ya7
  have yo4 : W5.cell? ⟨go, 4, none⟩ = some (.int .i64 0) := X.cell 4
  have yo5 : W5.cell? ⟨go, 5, none⟩ = some (.bool false) := X.cell 5
  have yo6 : W5.cell? ⟨go, 6, none⟩ = some (.int .i64 0) := X.cell 6
  have yo7 : W5.cell? ⟨go, 7, none⟩ = some (.slice none 0 0) := X.cell 7
  have qf := X.free
  have q4 := qf 4
  have q5 := qf 5
  have q6 := qf 6
  have q7 := qf 7
  clear qf
  go_upto_region 7 with fail
  replace X : TN ga go gr n p #[.int .i64 n.ph, .bool n.tx, .bool n.mild, .bool n.bad, .int .i64 n.fr.id, .bool false, .int .i64 0, .slice none 0 0, .string ⟨#[]⟩, .int .i64 0, .int .i64 0, .int .i64 0, .int .i64 0, .int .i64 0, .int .i64 0, .slice none 0 0, .slice none 0 0, .slice none 0 0] w _ := X.set 4 (.int .i64 n.fr.id)
  replace OD := OD.kept2 (grown_at_cell _ go 4 (.int .i64 n.fr.id)) hlt6
  replace X : TN ga go gr n p #[.int .i64 n.ph, .bool n.tx, .bool n.mild, .bool n.bad, .int .i64 n.fr.id, .bool n.fr.rm, .int .i64 0, .slice none 0 0, .string ⟨#[]⟩, .int .i64 0, .int .i64 0, .int .i64 0, .int .i64 0, .int .i64 0, .int .i64 0, .slice none 0 0, .slice none 0 0, .slice none 0 0] w _ := X.set 5 (.bool n.fr.rm)
  replace OD := OD.kept2 (grown_at_cell _ go 5 (.bool n.fr.rm)) hlt6
  replace X : TN ga go gr n p #[.int .i64 n.ph, .bool n.tx, .bool n.mild, .bool n.bad, .int .i64 n.fr.id, .bool n.fr.rm, .int .i64 n.fr.ln, .slice none 0 0, .string ⟨#[]⟩, .int .i64 0, .int .i64 0, .int .i64 0, .int .i64 0, .int .i64 0, .int .i64 0, .slice none 0 0, .slice none 0 0, .slice none 0 0] w _ := X.set 6 (.int .i64 n.fr.ln)
  replace OD := OD.kept2 (grown_at_cell _ go 6 (.int .i64 n.fr.ln)) hlt6
  replace X : TN ga go gr n p #[.int .i64 n.ph, .bool n.tx, .bool n.mild, .bool n.bad, .int .i64 n.fr.id, .bool n.fr.rm, .int .i64 n.fr.ln, .slice ad n.fr.D.length n.fr.D.length, .string ⟨#[]⟩, .int .i64 0, .int .i64 0, .int .i64 0, .int .i64 0, .int .i64 0, .int .i64 0, .slice none 0 0, .slice none 0 0, .slice none 0 0] w _ := X.set 7 (.slice ad n.fr.D.length n.fr.D.length)
  replace OD := OD.kept2 (grown_at_cell _ go 7 (.slice ad n.fr.D.length n.fr.D.length)) hlt6
  clear yo4 q4 yo5 q5 yo6 q6 yo7 q7
  have hz6 : ((((W5.setCell ⟨go, 4, none⟩ (.int .i64 n.fr.id)).setCell ⟨go, 5, none⟩ (.bool n.fr.rm)).setCell ⟨go, 6, none⟩ (.int .i64 n.fr.ln)).setCell ⟨go, 7, none⟩ (.slice ad n.fr.D.length n.fr.D.length)).heap.size = W5.heap.size := by simp
  generalize (((W5.setCell ⟨go, 4, none⟩ (.int .i64 n.fr.id)).setCell ⟨go, 5, none⟩ (.bool n.fr.rm)).setCell ⟨go, 6, none⟩ (.int .i64 n.fr.ln)).setCell ⟨go, 7, none⟩ (.slice ad n.fr.D.length n.fr.D.length) = W6 at *
  have ya8 : W6.cell? ⟨ga, 8, none⟩ = some (.string n.got) := X.argc 8
  have ya := ya8
  clear ya8
  have yo8 : W6.cell? ⟨go, 8, none⟩ = some (.string ⟨#[]⟩) := X.cell 8
  have qf := X.free
  have q8 := qf 8
  clear qf
  go_upto_region 8 with fail
  replace X : TN ga go gr n p #[.int .i64 n.ph, .bool n.tx, .bool n.mild, .bool n.bad, .int .i64 n.fr.id, .bool n.fr.rm, .int .i64 n.fr.ln, .slice ad n.fr.D.length n.fr.D.length, .string n.got, .int .i64 0, .int .i64 0, .int .i64 0, .int .i64 0, .int .i64 0, .int .i64 0, .slice none 0 0, .slice none 0 0, .slice none 0 0] w _ := X.set 8 (.string n.got)
  replace OD := OD.kept2 (grown_at_cell _ go 8 (.string n.got)) hlt6
  clear yo8 q8
  have hz7 : (W6.setCell ⟨go, 8, none⟩ (.string n.got)).heap.size = W6.heap.size := by simp
  generalize W6.setCell ⟨go, 8, none⟩ (.string n.got) = W7 at *
  clear ya
  have ya9 : W7.cell? ⟨ga, 9, none⟩ = some (.int .i64 n.run) := X.argc 9
  have ya := ya9
  clear ya9
  have yo9 : W7.cell? ⟨go, 9, none⟩ = some (.int .i64 0) := X.cell 9
  have qf := X.free
  have q9 := qf 9
  clear qf
  go_upto_region 9 with fail
  replace X : TN ga go gr n p #[.int .i64 n.ph, .bool n.tx, .bool n.mild, .bool n.bad, .int .i64 n.fr.id, .bool n.fr.rm, .int .i64 n.fr.ln, .slice ad n.fr.D.length n.fr.D.length, .string n.got, .int .i64 n.run, .int .i64 0, .int .i64 0, .int .i64 0, .int .i64 0, .int .i64 0, .slice none 0 0, .slice none 0 0, .slice none 0 0] w _ := X.set 9 (.int .i64 n.run)
  replace OD := OD.kept2 (grown_at_cell _ go 9 (.int .i64 n.run)) hlt6
  clear yo9 q9
  have hz8 : (W7.setCell ⟨go, 9, none⟩ (.int .i64 n.run)).heap.size = W7.heap.size := by simp
  generalize W7.setCell ⟨go, 9, none⟩ (.int .i64 n.run) = W8 at *
  clear ya
  have ya10 : W8.cell? ⟨ga, 10, none⟩ = some (.int .i64 n.last) := X.argc 10
  have ya := ya10
  clear ya10
  have yo10 : W8.cell? ⟨go, 10, none⟩ = some (.int .i64 0) := X.cell 10
  have qf := X.free
  have q10 := qf 10
  clear qf
  go_upto_region 10 with fail
  replace X : TN ga go gr n p #[.int .i64 n.ph, .bool n.tx, .bool n.mild, .bool n.bad, .int .i64 n.fr.id, .bool n.fr.rm, .int .i64 n.fr.ln, .slice ad n.fr.D.length n.fr.D.length, .string n.got, .int .i64 n.run, .int .i64 n.last, .int .i64 0, .int .i64 0, .int .i64 0, .int .i64 0, .slice none 0 0, .slice none 0 0, .slice none 0 0] w _ := X.set 10 (.int .i64 n.last)
  replace OD := OD.kept2 (grown_at_cell _ go 10 (.int .i64 n.last)) hlt6
  clear yo10 q10
  have hz9 : (W8.setCell ⟨go, 10, none⟩ (.int .i64 n.last)).heap.size = W8.heap.size := by simp
  generalize W8.setCell ⟨go, 10, none⟩ (.int .i64 n.last) = W9 at *
  clear ya
  have ya11 : W9.cell? ⟨ga, 11, none⟩ = some (.int .i64 n.pos) := X.argc 11
  have ya := ya11
  clear ya11
  have yo11 : W9.cell? ⟨go, 11, none⟩ = some (.int .i64 0) := X.cell 11
  have qf := X.free
  have q11 := qf 11
  clear qf
  go_upto_region 11 with fail
  replace X : TN ga go gr n p #[.int .i64 n.ph, .bool n.tx, .bool n.mild, .bool n.bad, .int .i64 n.fr.id, .bool n.fr.rm, .int .i64 n.fr.ln, .slice ad n.fr.D.length n.fr.D.length, .string n.got, .int .i64 n.run, .int .i64 n.last, .int .i64 n.pos, .int .i64 0, .int .i64 0, .int .i64 0, .slice none 0 0, .slice none 0 0, .slice none 0 0] w _ := X.set 11 (.int .i64 n.pos)
  replace OD := OD.kept2 (grown_at_cell _ go 11 (.int .i64 n.pos)) hlt6
  clear yo11 q11
  have hz10 : (W9.setCell ⟨go, 11, none⟩ (.int .i64 n.pos)).heap.size = W9.heap.size := by simp
  generalize W9.setCell ⟨go, 11, none⟩ (.int .i64 n.pos) = W10 at *
  clear ya
  have ya12 : W10.cell? ⟨ga, 12, none⟩ = some (.int .i64 n.left) := X.argc 12
  have ya := ya12
  clear ya12
  have yo12 : W10.cell? ⟨go, 12, none⟩ = some (.int .i64 0) := X.cell 12
  have qf := X.free
  have q12 := qf 12
  clear qf
  go_upto_region 12 with fail
  replace X : TN ga go gr n p #[.int .i64 n.ph, .bool n.tx, .bool n.mild, .bool n.bad, .int .i64 n.fr.id, .bool n.fr.rm, .int .i64 n.fr.ln, .slice ad n.fr.D.length n.fr.D.length, .string n.got, .int .i64 n.run, .int .i64 n.last, .int .i64 n.pos, .int .i64 n.left, .int .i64 0, .int .i64 0, .slice none 0 0, .slice none 0 0, .slice none 0 0] w _ := X.set 12 (.int .i64 n.left)
  replace OD := OD.kept2 (grown_at_cell _ go 12 (.int .i64 n.left)) hlt6
  clear yo12 q12
  have hz11 : (W10.setCell ⟨go, 12, none⟩ (.int .i64 n.left)).heap.size = W10.heap.size := by simp
  generalize W10.setCell ⟨go, 12, none⟩ (.int .i64 n.left) = W11 at *
  clear ya
  have ya13 : W11.cell? ⟨ga, 13, none⟩ = some (.int .i64 n.cs) := X.argc 13
  have ya14 : W11.cell? ⟨ga, 14, none⟩ = some (.int .i64 n.cg) := X.argc 14
  have hlt12 := X.lt.2.1
  have hrt12 := X.lt.2.2
  have hsz12 := X.bel.size
  go_wp2_with fail
  refine (toCnt _ _ _).mono ?_
  rintro e W12 ⟨rfl, b⟩
  have hc12 := b.size
  replace X := X.below b
  replace OD := OD.below' b
  clear b
  clear ya13 ya14
  have yo13 : W12.cell? ⟨go, 13, none⟩ = some (.int .i64 0) := X.cell 13
  have yo14 : W12.cell? ⟨go, 14, none⟩ = some (.int .i64 0) := X.cell 14
  have qf := X.free
  have q13 := qf 13
  have q14 := qf 14
  clear qf
  go_upto_region 13 with fail
  replace X : TN ga go gr n p #[.int .i64 n.ph, .bool n.tx, .bool n.mild, .bool n.bad, .int .i64 n.fr.id, .bool n.fr.rm, .int .i64 n.fr.ln, .slice ad n.fr.D.length n.fr.D.length, .string n.got, .int .i64 n.run, .int .i64 n.last, .int .i64 n.pos, .int .i64 n.left, .int .i64 n.cs, .int .i64 0, .slice none 0 0, .slice none 0 0, .slice none 0 0] w _ := X.set 13 (.int .i64 n.cs)
  replace OD := OD.kept2 (grown_at_cell _ go 13 (.int .i64 n.cs)) hlt6
  replace X : TN ga go gr n p #[.int .i64 n.ph, .bool n.tx, .bool n.mild, .bool n.bad, .int .i64 n.fr.id, .bool n.fr.rm, .int .i64 n.fr.ln, .slice ad n.fr.D.length n.fr.D.length, .string n.got, .int .i64 n.run, .int .i64 n.last, .int .i64 n.pos, .int .i64 n.left, .int .i64 n.cs, .int .i64 n.cg, .slice none 0 0, .slice none 0 0, .slice none 0 0] w _ := X.set 14 (.int .i64 n.cg)
  replace OD := OD.kept2 (grown_at_cell _ go 14 (.int .i64 n.cg)) hlt6
  clear yo13 q13 yo14 q14
  have hz13 : ((W12.setCell ⟨go, 13, none⟩ (.int .i64 n.cs)).setCell ⟨go, 14, none⟩ (.int .i64 n.cg)).heap.size = W12.heap.size := by simp
  generalize (W12.setCell ⟨go, 13, none⟩ (.int .i64 n.cs)).setCell ⟨go, 14, none⟩ (.int .i64 n.cg) = W13 at *
  have UD := fun q hq => (OD.1.lt q hq).2
  have ya15 : W13.cell? ⟨ga, 15, none⟩ = some (.slice p.ab n.box.length p.cb) := X.argc 15
  have hlt13 := X.lt.2.1
  have hrt13 := X.lt.2.2
  have hsz13 := X.bel.size
  go_wp2_with fail
  refine (toFramesOwn _ _ _ _ (hm.box.below X.bel) hB).mono ?_
  rintro e W14 ⟨MB, ab, cb, rfl, hMB, OB, FB, b⟩
  have hc14 := b.size
  replace X := X.below b
  replace OD := OD.below' b
  clear b
  clear ya15
  have yo15 : W14.cell? ⟨go, 15, none⟩ = some (.slice none 0 0) := X.cell 15
  have qf := X.free
  have q15 := qf 15
  clear qf
  go_upto_region 14 with fail
  replace X : TN ga go gr n p #[.int .i64 n.ph, .bool n.tx, .bool n.mild, .bool n.bad, .int .i64 n.fr.id, .bool n.fr.rm, .int .i64 n.fr.ln, .slice ad n.fr.D.length n.fr.D.length, .string n.got, .int .i64 n.run, .int .i64 n.last, .int .i64 n.pos, .int .i64 n.left, .int .i64 n.cs, .int .i64 n.cg, .slice ab n.box.length cb, .slice none 0 0, .slice none 0 0] w _ := X.set 15 (.slice ab n.box.length cb)
  replace OD := OD.kept2 (grown_at_cell _ go 15 (.slice ab n.box.length cb)) hlt6
  replace OB := OB.kept2 (grown_at_cell _ go 15 (.slice ab n.box.length cb)) hlt13
  clear yo15 q15
  have hz15 : (W14.setCell ⟨go, 15, none⟩ (.slice ab n.box.length cb)).heap.size = W14.heap.size := by simp
  generalize W14.setCell ⟨go, 15, none⟩ (.slice ab n.box.length cb) = W15 at *
  have UX := OB.under
  have ya16 : W15.cell? ⟨ga, 16, none⟩ = some (.slice p.af n.fifo.length p.cf) := X.argc 16
  have hlt14 := X.lt.2.1
  have hrt14 := X.lt.2.2
  have hsz14 := X.bel.size
  go_wp2_with fail
  refine (toFramesOwn _ _ _ _ (hm.fifo.below X.bel) hF).mono ?_
  rintro e W16 ⟨MF, af, cf, rfl, hMF, OF, FF, b⟩
  have hc16 := b.size
  replace X := X.below b
  replace OD := OD.below' b
  replace OB := OB.below b
  clear b
  clear ya16
  have yo16 : W16.cell? ⟨go, 16, none⟩ = some (.slice none 0 0) := X.cell 16
  have qf := X.free
  have q16 := qf 16
  clear qf
  go_upto_region 15 with fail
  replace X : TN ga go gr n p #[.int .i64 n.ph, .bool n.tx, .bool n.mild, .bool n.bad, .int .i64 n.fr.id, .bool n.fr.rm, .int .i64 n.fr.ln, .slice ad n.fr.D.length n.fr.D.length, .string n.got, .int .i64 n.run, .int .i64 n.last, .int .i64 n.pos, .int .i64 n.left, .int .i64 n.cs, .int .i64 n.cg, .slice ab n.box.length cb, .slice af n.fifo.length cf, .slice none 0 0] w _ := X.set 16 (.slice af n.fifo.length cf)
  replace OD := OD.kept2 (grown_at_cell _ go 16 (.slice af n.fifo.length cf)) hlt6
  replace OB := OB.kept2 (grown_at_cell _ go 16 (.slice af n.fifo.length cf)) hlt13
  replace OF := OF.kept2 (grown_at_cell _ go 16 (.slice af n.fifo.length cf)) hlt14
  clear yo16 q16
  have hz17 : (W16.setCell ⟨go, 16, none⟩ (.slice af n.fifo.length cf)).heap.size = W16.heap.size := by simp
  generalize W16.setCell ⟨go, 16, none⟩ (.slice af n.fifo.length cf) = W17 at *
  have UF := OF.under
  have ya17 : W17.cell? ⟨ga, 17, none⟩ = some (.slice p.al n.flt.length p.cl) := X.argc 17
  have hlt15 := X.lt.2.1
  have hrt15 := X.lt.2.2
  have hsz15 := X.bel.size
  go_wp2_with fail
  refine (toFltsOwn _ _ _ _ (hm.flt.below X.bel) hL).mono ?_
  rintro e W18 ⟨gl, rfl, OL, b⟩
  have hc18 := b.size
  replace X := X.below b
  replace OD := OD.below' b
  replace OB := OB.below b
  replace OF := OF.below b
  clear b
  clear ya17
  have yo17 : W18.cell? ⟨go, 17, none⟩ = some (.slice none 0 0) := X.cell 17
  have qf := X.free
  have q17 := qf 17
  clear qf
  go_upto_region 16 with fail
  replace X : TN ga go gr n p #[.int .i64 n.ph, .bool n.tx, .bool n.mild, .bool n.bad, .int .i64 n.fr.id, .bool n.fr.rm, .int .i64 n.fr.ln, .slice ad n.fr.D.length n.fr.D.length, .string n.got, .int .i64 n.run, .int .i64 n.last, .int .i64 n.pos, .int .i64 n.left, .int .i64 n.cs, .int .i64 n.cg, .slice ab n.box.length cb, .slice af n.fifo.length cf, .slice (some ⟨gl, 0, none⟩) n.flt.length n.flt.length] w _ := X.set 17 (.slice (some ⟨gl, 0, none⟩) n.flt.length n.flt.length)
  replace OD := OD.kept2 (grown_at_cell _ go 17 (.slice (some ⟨gl, 0, none⟩) n.flt.length n.flt.length)) hlt6
  replace OB := OB.kept2 (grown_at_cell _ go 17 (.slice (some ⟨gl, 0, none⟩) n.flt.length n.flt.length)) hlt13
  replace OF := OF.kept2 (grown_at_cell _ go 17 (.slice (some ⟨gl, 0, none⟩) n.flt.length n.flt.length)) hlt14
  replace OL := OL.kept2 (grown_at_cell _ go 17 (.slice (some ⟨gl, 0, none⟩) n.flt.length n.flt.length)) hlt15
  clear yo17 q17
  have hz19 : (W18.setCell ⟨go, 17, none⟩ (.slice (some ⟨gl, 0, none⟩) n.flt.length n.flt.length)).heap.size = W18.heap.size := by simp
  generalize W18.setCell ⟨go, 17, none⟩ (.slice (some ⟨gl, 0, none⟩) n.flt.length n.flt.length) = W19 at *
  obtain ⟨Z1, Z2, Z3⟩ := X.fin rfl (by simp [Value.oneCell'])
  replace OD := OD.kept2 Z2 hrt6
  replace OB := OB.kept2 Z2 hrt13
  replace OF := OF.kept2 Z2 hrt14
  replace OL := OL.kept2 Z2 hrt15
  have HO : Hid (NdO w.heap.size W13.heap.size W15.heap.size W17.heap.size n ⟨ad, n.fr.D.length, ab, cb, af, cf, some ⟨gl, 0, none⟩, n.flt.length⟩ MB MF (W19.setRow gr #[.int .i64 n.ph, .bool n.tx, .bool n.mild, .bool n.bad, .int .i64 n.fr.id, .bool n.fr.rm, .int .i64 n.fr.ln, .slice ad n.fr.D.length n.fr.D.length, .string n.got, .int .i64 n.run, .int .i64 n.last, .int .i64 n.pos, .int .i64 n.left, .int .i64 n.cs, .int .i64 n.cg, .slice ab n.box.length cb, .slice af n.fifo.length cf, .slice (some ⟨gl, 0, none⟩) n.flt.length n.flt.length])) :=
    Lib.hid ⟨OD.mono hsz6, OB, OF, OL, hMB, hMF, FB, FF, UD, UX, UF, ⟨by omega, by omega, by omega⟩, gs⟩
  clear OD OB OF OL Z2
  go_wp2_with (first
    | (refine wpList_load_row rfl 33 _ rfl go rfl 33 #[.int .i64 n.ph, .bool n.tx, .bool n.mild, .bool n.bad, .int .i64 n.fr.id, .bool n.fr.rm, .int .i64 n.fr.ln, .slice ad n.fr.D.length n.fr.D.length, .string n.got, .int .i64 n.run, .int .i64 n.last, .int .i64 n.pos, .int .i64 n.left, .int .i64 n.cs, .int .i64 n.cg, .slice ab n.box.length cb, .slice af n.fifo.length cf, .slice (some ⟨gl, 0, none⟩) n.flt.length n.flt.length] (0, 0) _ X.blk Tryz.underlying33 rfl (by kernel_rfl) ?_)
    | (refine wpList_store_row rfl 33 _ _ rfl gr #[.int .i64 n.ph, .bool n.tx, .bool n.mild, .bool n.bad, .int .i64 n.fr.id, .bool n.fr.rm, .int .i64 n.fr.ln, .slice ad n.fr.D.length n.fr.D.length, .string n.got, .int .i64 n.run, .int .i64 n.last, .int .i64 n.pos, .int .i64 n.left, .int .i64 n.cs, .int .i64 n.cg, .slice ab n.box.length cb, .slice af n.fifo.length cf, .slice (some ⟨gl, 0, none⟩) n.flt.length n.flt.length] rfl rfl 33 _ X.res (by kernel_rfl) (by rfl) (by simp [Value.oneCell']) ?_))
  refine bodyPost_ret (v := ndV n ⟨ad, n.fr.D.length, ab, cb, af, cf, some ⟨gl, 0, none⟩, n.flt.length⟩) ?_ rfl ⟨⟨ad, n.fr.D.length, ab, cb, af, cf, some ⟨gl, 0, none⟩, n.flt.length⟩, W13.heap.size, W15.heap.size, W17.heap.size, MB, MF, rfl, HO.out, Z3⟩
  exact results_cell_row Tryz.results19 _ _ gr 33 _ (0, 0) _ rfl Z1 Tryz.underlying33 rfl (by kernel_rfl)
/-- Two nodes that hold the same, in two blocks. -/
structure NN (ga gb : Nat) (n : Nd) (p q : NdP) (w0 w : World) : Prop where
  a : Nx ga n p w0 w
  b : Nx gb n q w0 w
  ma : NdM n p w
  mb : NdM n q w
theorem NN.below {ga gb : Nat} {n : Nd} {p q : NdP} {w0 w w' : World} (h : NN ga gb n p q w0 w) (b : Below w.heap.size w w') : NN ga gb n p q w0 w' := ⟨h.a.below b, h.b.below b, h.ma.below b, h.mb.below b⟩
set_option maxHeartbeats 8000000 in
/-- laws.eqNode, of two that hold the same. -/
theorem eqN (n : Nd) (p q : NdP) (w : World) (ha : NdM n p w) (hb : NdM n q w) :
    Calls Tryz.prog 20 #[ndV n p, ndV n q] w fun e w' => e = .returned (.bool true) ∧ Below w.heap.size w w' := by
  have X : NN w.heap.size (w.alloc (.cells (ndC n p) 33)).heap.size n p q w ((w.alloc (.cells (ndC n p) 33)).alloc (.cells (ndC n q) 33)) := by
    have h1 := Nx.made n p (Below.refl w.heap.size w)
    exact ⟨h1.alloc _, Nx.made n q h1.bel, (ha.alloc _).alloc _, (hb.alloc _).alloc _⟩
  rw [show (w.alloc (.cells (ndC n p) 33)).heap.size = w.heap.size + 1 by simp] at X
  go_enter Tryz.func20, Tryz.ntmps20
  go_upto_region 1 with fail
  generalize World.alloc _ _ = W at X ⊢
  generalize w.heap.size + 1 = gb at X ⊢
  generalize w.heap.size = ga at X ⊢
  obtain ⟨c0, c1, c2, c3, c4, c5, c6, c7, c8, c9, c10, c11, c12, c13, c14, c15, c16, c17⟩ := X.a.cells
  obtain ⟨d0, d1, d2, d3, d4, d5, d6, d7, d8, d9, d10, d11, d12, d13, d14, d15, d16, d17⟩ := X.b.cells
  go_wp2_with fail
  refine (eqFr _ _ _ _ _ _ _ _ _ X.ma.nums X.mb.nums).mono ?_
  rintro e w' ⟨rfl, b⟩
  replace X := X.below b
  clear b c0 c1 c2 c3 c4 c5 c6 c7 c8 c9 c10 c11 c12 c13 c14 c15 c16 c17 d0 d1 d2 d3 d4 d5 d6 d7 d8 d9 d10 d11 d12 d13 d14 d15 d16 d17
  obtain ⟨c0, c1, c2, c3, c4, c5, c6, c7, c8, c9, c10, c11, c12, c13, c14, c15, c16, c17⟩ := X.a.cells
  obtain ⟨d0, d1, d2, d3, d4, d5, d6, d7, d8, d9, d10, d11, d12, d13, d14, d15, d16, d17⟩ := X.b.cells
  go_wp2_with fail
  refine (eqCnt _ _ _).mono ?_
  rintro e w' ⟨rfl, b⟩
  replace X := X.below b
  clear b c0 c1 c2 c3 c4 c5 c6 c7 c8 c9 c10 c11 c12 c13 c14 c15 c16 c17 d0 d1 d2 d3 d4 d5 d6 d7 d8 d9 d10 d11 d12 d13 d14 d15 d16 d17
  obtain ⟨c0, c1, c2, c3, c4, c5, c6, c7, c8, c9, c10, c11, c12, c13, c14, c15, c16, c17⟩ := X.a.cells
  obtain ⟨d0, d1, d2, d3, d4, d5, d6, d7, d8, d9, d10, d11, d12, d13, d14, d15, d16, d17⟩ := X.b.cells
  go_wp2_with fail
  refine (eqFrames _ _ _ _ _ _ X.ma.box X.mb.box).mono ?_
  rintro e w' ⟨rfl, b⟩
  replace X := X.below b
  clear b c0 c1 c2 c3 c4 c5 c6 c7 c8 c9 c10 c11 c12 c13 c14 c15 c16 c17 d0 d1 d2 d3 d4 d5 d6 d7 d8 d9 d10 d11 d12 d13 d14 d15 d16 d17
  obtain ⟨c0, c1, c2, c3, c4, c5, c6, c7, c8, c9, c10, c11, c12, c13, c14, c15, c16, c17⟩ := X.a.cells
  obtain ⟨d0, d1, d2, d3, d4, d5, d6, d7, d8, d9, d10, d11, d12, d13, d14, d15, d16, d17⟩ := X.b.cells
  go_wp2_with fail
  refine (eqFrames _ _ _ _ _ _ X.ma.fifo X.mb.fifo).mono ?_
  rintro e w' ⟨rfl, b⟩
  replace X := X.below b
  clear b c0 c1 c2 c3 c4 c5 c6 c7 c8 c9 c10 c11 c12 c13 c14 c15 c16 c17 d0 d1 d2 d3 d4 d5 d6 d7 d8 d9 d10 d11 d12 d13 d14 d15 d16 d17
  obtain ⟨c0, c1, c2, c3, c4, c5, c6, c7, c8, c9, c10, c11, c12, c13, c14, c15, c16, c17⟩ := X.a.cells
  obtain ⟨d0, d1, d2, d3, d4, d5, d6, d7, d8, d9, d10, d11, d12, d13, d14, d15, d16, d17⟩ := X.b.cells
  go_wp2_with fail
  refine (eqFlts _ _ _ _ _ _ X.ma.flt X.mb.flt).mono ?_
  rintro e w' ⟨rfl, b⟩
  replace X := X.below b
  clear b c0 c1 c2 c3 c4 c5 c6 c7 c8 c9 c10 c11 c12 c13 c14 c15 c16 c17 d0 d1 d2 d3 d4 d5 d6 d7 d8 d9 d10 d11 d12 d13 d14 d15 d16 d17
  have hbl := X.a.bel
  go_wp2_with fail
  go_ret
  exact ⟨rfl, hbl⟩
end Go.Proofs.YthhhhfpgmolcmaaGreat

/- A node as it comes in: what the reading of the argument says of the memory. -/

set_option linter.unusedVariables false
set_option linter.unusedSimpArgs false
set_option maxRecDepth 20000
namespace Go.Proofs.YthhhhfpgmolcmaaGreat
open Go.ChangeShapes Go.WideShapes Go.ChangeAt Go.RowKit Go.Joins

theorem cellsNode : Tryz.prog.cellsOf 47 = 18 := by kernel_rfl
theorem oneStr : Tryz.prog.cellsOf 9 = 1 := by kernel_rfl
theorem oneFrs : Tryz.prog.cellsOf 44 = 1 := by kernel_rfl
theorem oneFls : Tryz.prog.cellsOf 45 = 1 := by kernel_rfl
theorem twoCnt : Tryz.prog.cellsOf 43 = 2 := by kernel_rfl
set_option maxHeartbeats 4000000 in
/-- The cells of a node, opened. -/
theorem node_cells {H : Type} {enc : TypeId × Value → H} {w : World} {base m : Nat} {cs : List Value} {y : DataW H × List MemPlace}
    (h : DataW.trod enc Tryz.prog w base (fun _ => true) true m 47 cs = some y) : ∃ n p, cs = (ndC n p).toList ∧ NdM n p w := by
  obtain ⟨xs, k, _, _, hl, hxl, hf⟩ := DataW.trod_struct Tryz.underlying47 h
  have hl18 : cs.length = 18 := hl.trans cellsNode
  have hx14 : xs.length = 14 := hxl
  match cs, hl18, xs, hx14 with
  | [c0, c1, c2, c3, c4, c5, c6, c7, c8, c9, c10, c11, c12, c13, c14, c15, c16, c17], _, [y0, y1, y2, y3, y4, y5, y6, y7, y8, y9, y10, y11, y12, y13], _ =>
    have g0 := hf 0 _ rfl
    have g1 := hf 1 _ rfl
    have g2 := hf 2 _ rfl
    have g3 := hf 3 _ rfl
    have g4 := hf 4 _ rfl
    have g5 := hf 5 _ rfl
    have g6 := hf 6 _ rfl
    have g7 := hf 7 _ rfl
    have g8 := hf 8 _ rfl
    have g9 := hf 9 _ rfl
    have g10 := hf 10 _ rfl
    have g11 := hf 11 _ rfl
    have g12 := hf 12 _ rfl
    have g13 := hf 13 _ rfl
    clear hf hl hxl h
    simp [one64, oneBool, oneStr, oneFrs, oneFls, twoCnt, cellsFrame] at g0 g1 g2 g3 g4 g5 g6 g7 g8 g9 g10 g11 g12 g13
    obtain ⟨ph, e0, -, -⟩ := DataW.trod_int Tryz.underlying2 g0
    obtain ⟨tx, e1, -⟩ := DataW.trod_bool Tryz.underlying4 g1
    obtain ⟨mild, e2, -⟩ := DataW.trod_bool Tryz.underlying4 g2
    obtain ⟨bad, e3, -⟩ := DataW.trod_bool Tryz.underlying4 g3
    obtain ⟨id, rm, ln, ad, D, cd, e4, hn⟩ := frame_cells g4
    obtain ⟨got, e5, -, hg⟩ := DataW.trod_string Tryz.underlying9 g5
    obtain ⟨run, e6, -, -⟩ := DataW.trod_int Tryz.underlying2 g6
    obtain ⟨last, e7, -, -⟩ := DataW.trod_int Tryz.underlying2 g7
    obtain ⟨pos, e8, -, -⟩ := DataW.trod_int Tryz.underlying2 g8
    obtain ⟨left, e9, -, -⟩ := DataW.trod_int Tryz.underlying2 g9
    obtain ⟨z0, z1, k2, _, hl2, j0, j1⟩ := Go.ChangeShapes.trod_struct2 Tryz.underlying43 g10
    simp [one64] at j0 j1
    obtain ⟨cs0, e10, -, -⟩ := DataW.trod_int Tryz.underlying2 j0
    obtain ⟨cg0, e11, -, -⟩ := DataW.trod_int Tryz.underlying2 j1
    obtain ⟨ab, LB, cb, e12, hB⟩ := frames_open g11
    obtain ⟨af, LF, cf, e13, hF⟩ := frames_open g12
    obtain ⟨al, LL, cl, e14, hL⟩ := filters_open g13
    simp only [List.cons.injEq, and_true] at e0 e1 e2 e3 e4 e5 e6 e7 e8 e9 e10 e11 e12 e13 e14
    obtain ⟨rfl, rfl, rfl, rfl⟩ := e4
    subst e0 e1 e2 e3 e5 e6 e7 e8 e9 e10 e11 e12 e13 e14
    exact ⟨⟨ph, tx, mild, bad, ⟨id, rm, ln, D⟩, got, run, last, pos, left, cs0, cg0, LB, LF, LL⟩, ⟨ad, cd, ab, cb, af, cf, al, cl⟩, rfl, hn, hB, hF, hL, hg⟩
/-- A node by value, opened. -/
theorem node_open {H : Type} {enc : TypeId × Value → H} {w : World} {r : Reach} {b0 base : Nat} {v : Value} {d : DataW H} {p : List MemPlace}
    (hv : Value.okWide Tryz.prog w r b0 47 v) (h : DataW.Trod enc Tryz.prog w base (fun _ => true) true 47 v d p) : ∃ n q, v = ndV n q ∧ NdM n q w := by
  obtain ⟨cs, rfl, hsz⟩ := okWide_struct Tryz.underlying47 hv
  obtain ⟨fuel, hf⟩ := h
  obtain ⟨n, q, hcs, hm⟩ := node_cells hf
  refine ⟨n, q, ?_, hm⟩
  have : cs.toList = (ndC n q).toList := hcs
  rw [show cs = ndC n q from Array.toList_inj.1 this]
end Go.Proofs.YthhhhfpgmolcmaaGreat
