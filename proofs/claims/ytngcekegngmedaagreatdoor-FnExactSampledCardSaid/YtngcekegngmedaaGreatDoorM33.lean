/- The harness's szNode, toNode and eqNode: a node's size, its copy and what the copy owns, two alike. -/
import Derived.Test.YtngcekegngmedaaGreatDoorM32
import Derived.Test.YtngcekegngmedaaGreatDoorM30
import Derived.Test.YtngcekegngmedaaGreatDoorM28
import Derived.Laws.CopyOwn
import Derived.Test.YtngcekegngmedaaGreatDoorM11
import Derived.Test.YtngcekegngmedaaGreatDoorM27
import Derived.Test.YtngcekegngmedaaGreatDoorM31

set_option linter.unusedVariables false
set_option linter.unusedSimpArgs false
set_option maxRecDepth 20000
namespace Go.Proofs.YtngcekegngmedaaGreatDoor
open Go.RowKit

/-! ### An argument's own node (laws.Node). -/
section
variable {n : Nd} {p : NdP} {w w' w0 : World} {g : Nat}
structure Ny (g : Nat) (n : Nd) (p : NdP) (w0 w : World) : Prop where
  blk : w.heap[g]? = some (.cells (ndC n p) 83 (0, 0))
  bel : Below w0.heap.size w0 w
theorem Ny.lt (h : Ny g n p w0 w) : g < w.heap.size := (Array.getElem?_eq_some_iff.1 h.blk).1
theorem Ny.below (h : Ny g n p w0 w) (b : Below w.heap.size w w') : Ny g n p w0 w' := ⟨(b.block g h.lt).trans h.blk, Below.then2 h.bel b⟩
theorem Ny.made (n : Nd) (p : NdP) (b : Below w0.heap.size w0 w) : Ny w.heap.size n p w0 (w.alloc (.cells (ndC n p) 83)) := ⟨heap_alloc_new w _, b.alloc b.size _⟩
theorem Ny.take (h : Ny g n p w0 w) {ops : Array Oper} {rest : List Oper} {o : Oper} {a : Act} {Q : Exit → Act → World → Prop} {x : Operand} (ho : o.op = .load 83 x) (hx : a.eval x = .pointer (some ⟨g, 0, none⟩))
    (hw : Region.wanted o (yielded ops a.tmps) = true) (k : wpList Tryz.prog ops Q rest (a.put o.dst (ndV n p)) w) : wpList Tryz.prog ops Q (o :: rest) a w :=
  BigFrame.wpList_want hw fun _ hK => wp_load_row 83 x ho g hx 83 (ndC n p) (0, 0) _ h.blk Tryz.underlying83 rfl (by kernel_rfl) (hK _ _ k)
theorem Ny.took (h : Ny g n p w0 w) {o : Oper} {a : Act} {x : Operand} (ho : o.op = .load 83 x) (hx : a.eval x = .pointer (some ⟨g, 0, none⟩)) : (execOp a.eval o).run Tryz.prog w = .ok (.value (ndV n p)) w := by
  unfold execOp
  simp only [ho, hx, Instr.loadAt, Instr.sureAddr, Sem.run_bind, Sem.run_pure, Result.andThen_ok, run_loadVar_row w g 83 83 (ndC n p) (0, 0) _ h.blk Tryz.underlying83 rfl (by kernel_rfl)]
end
/-- The zero node's cells. -/
abbrev ndZ : Array Value := #[.int .i64 0, .bool false, .bool false, .bool false, .int .i64 0, .bool false, .int .i64 0, .slice none 0 0, .string ⟨#[]⟩, .int .i64 0, .int .i64 0, .int .i64 0, .int .i64 0, .int .i64 0, .int .i64 0, .slice none 0 0, .slice none 0 0, .slice none 0 0]
/-- A copy is being made: the argument's block, the copy's, the result's. -/
structure TN (ga g gr : Nat) (n : Nd) (p : NdP) (C : Array Value) (w0 w : World) : Prop where
  arg : w.heap[ga]? = some (.cells (ndC n p) 83 (0, 0))
  blk : w.heap[g]? = some (.cells C 32 (0, 0))
  res : w.heap[gr]? = some (.cells ndZ 32 (0, 0))
  bel : Below w0.heap.size w0 w
  ha : w0.heap.size ≤ ga
  hg : w0.heap.size ≤ g
  hr : w0.heap.size ≤ gr
  ne : ga ≠ g
  nr : gr ≠ g
section
variable {ga g gr : Nat} {n : Nd} {p : NdP} {C : Array Value} {w w' w0 : World}
theorem TN.lt (h : TN ga g gr n p C w0 w) : ga < w.heap.size ∧ g < w.heap.size ∧ gr < w.heap.size := ⟨(Array.getElem?_eq_some_iff.1 h.arg).1, (Array.getElem?_eq_some_iff.1 h.blk).1, (Array.getElem?_eq_some_iff.1 h.res).1⟩
theorem TN.below (h : TN ga g gr n p C w0 w) (b : Below w.heap.size w w') : TN ga g gr n p C w0 w' :=
  ⟨(b.block ga h.lt.1).trans h.arg, (b.block g h.lt.2.1).trans h.blk, (b.block gr h.lt.2.2).trans h.res, Below.then2 h.bel b, h.ha, h.hg, h.hr, h.ne, h.nr⟩
theorem TN.set (h : TN ga g gr n p C w0 w) (k : Nat) (v : Value) : TN ga g gr n p (C.setIfInBounds k v) w0 (w.setCell ⟨g, k, none⟩ v) :=
  ⟨(heap_setCell_other w ⟨g, k, none⟩ ga v h.ne).trans h.arg, heap_setCell_same w g k _ _ v h.blk, (heap_setCell_other w ⟨g, k, none⟩ gr v h.nr).trans h.res, h.bel.setCell h.hg _, h.ha, h.hg, h.hr, h.ne, h.nr⟩
theorem TN.cell (h : TN ga g gr n p C w0 w) (k : Nat) : w.cell? ⟨g, k, none⟩ = C[k]? := cell_of_row w g k _ _ _ h.blk
theorem TN.free (h : TN ga g gr n p C w0 w) (k : Nat) : w.frozen? ⟨g, k, none⟩ = false := frozen_of_row w g k _ _ h.blk
theorem TN.argc (h : TN ga g gr n p C w0 w) (k : Nat) : w.cell? ⟨ga, k, none⟩ = (ndC n p)[k]? := cell_of_row w ga k _ _ _ h.arg
theorem TN.made (n : Nd) (p : NdP) (w : World) : TN w.heap.size (w.heap.size + 1 + 1) (w.heap.size + 1) n p ndZ w (((w.alloc (.cells (ndC n p) 83)).alloc (.cells ndZ 32)).alloc (.cells ndZ 32)) := by
  have s1 : (w.alloc (.cells (ndC n p) 83)).heap.size = w.heap.size + 1 := by simp
  have s2 : ((w.alloc (.cells (ndC n p) 83)).alloc (.cells ndZ 32)).heap.size = w.heap.size + 1 + 1 := by simp
  have b1 : Below w.heap.size w (w.alloc (.cells (ndC n p) 83)) := below_more (Below.refl _ _) _
  have b2 := below_more b1 (.cells ndZ 32)
  have b3 := below_more b2 (.cells ndZ 32)
  have k1 : Below (w.heap.size + 1) (w.alloc (.cells (ndC n p) 83)) ((w.alloc (.cells (ndC n p) 83)).alloc (.cells ndZ 32)) := by rw [← s1]; exact below_more (Below.refl _ _) _
  have k2 : Below (w.heap.size + 1 + 1) ((w.alloc (.cells (ndC n p) 83)).alloc (.cells ndZ 32)) (((w.alloc (.cells (ndC n p) 83)).alloc (.cells ndZ 32)).alloc (.cells ndZ 32)) := by rw [← s2]; exact below_more (Below.refl _ _) _
  refine ⟨?_, ?_, ?_, b3, by omega, by omega, by omega, by omega, by omega⟩
  · rw [k2.block _ (by omega), k1.block _ (by omega)]; exact heap_alloc_new w _
  · rw [← s2]; exact heap_alloc_new _ _
  · rw [k2.block _ (by omega), ← s1]; exact heap_alloc_new _ _
/-- The copy goes into the result's block, whole. -/
theorem TN.fin (h : TN ga g gr n p C w0 w) (hC : C.size = 18) (h1 : C.all (·.oneCell') = true) : (w.setRow gr C).heap[gr]? = some (.cells C 32 (0, 0)) ∧ w.grownBy (w.setRow gr C) (some gr) ∧ Below w0.heap.size w0 (w.setRow gr C) := by
  refine ⟨setRow_heap _ _ _ _ _ _ h.res, ⟨rfl, rfl, rfl, by simp, fun k hk hne => setRow_other w gr k C (fun e => hne (by rw [e]))⟩, below_setRow h.bel h.hr C⟩
end
theorem above_ne {v : Value} {B g : Nat} (h : ∀ k, v.ownBlock = some k → B ≤ k) (hg : g < B) : v.ownBlock = none ∨ v.ownBlock ≠ some g := by
  cases e : v.ownBlock with
  | none => exact .inl rfl
  | some k => exact .inr fun he => by cases he; have := h _ e; omega
theorem OwnF.low' {B : Nat} {M : List (Frm × Value)} {v : Value} {w : World} (h : OwnF B M v w) : (∀ k, v.ownBlock = some k → B ≤ k) ∧ ∀ m ∈ M, ∀ k, m.2.ownBlock = some k → B ≤ k := ⟨fun k hk => (h.1.lt k hk).1, fun m hm k hk => ((h.2 m hm).1.lt k hk).1⟩
theorem OwnF.kept2 {B g : Nat} {M : List (Frm × Value)} {v : Value} {w w' : World} (h : OwnF B M v w) (k : w.grownBy w' (some g)) (hg : g < B) : OwnF B M v w' :=
  ⟨h.1.kept k (above_ne h.low'.1 hg), fun m hm => (h.2 m hm).kept k (above_ne (h.low'.2 m hm) hg)⟩
theorem OwnI.kept2 {B g : Nat} {D : List Int} {v : Value} {w w' : World} (h : OwnI B D v w) (k : w.grownBy w' (some g)) (hg : g < B) : OwnI B D v w' := h.kept k (above_ne (fun _ hk => h.low hk) hg)
theorem OwnP.kept2 {B g : Nat} {M : List (Int × Int)} {v : Value} {w w' : World} (h : OwnP B M v w) (k : w.grownBy w' (some g)) (hg : g < B) : OwnP B M v w' := h.kept k (above_ne (fun _ hk => h.low hk) hg)

/-- The room that a node takes, and whether it is small enough. -/
def roomN (n : Nd) : Nat := n.fr.D.length + n.got.size + (n.box.length + room n.box n.box.length) + (n.fifo.length + room n.fifo n.fifo.length) + n.flt.length
/-- What a size's answer is. -/
def SzR (left : Int) (k : Nat) (e : Ending) : Prop := (((k : Int) ≤ left ∧ e = .returned (.int .i64 (left - k))) ∨ (left < k ∧ e = .returned (.int .i64 (-1))))
/-- What a copied node owns: its data, box, fifo and filters, one above the other. -/
structure NdO (B b1 b2 b3 : Nat) (n : Nd) (p : NdP) (MB MF : List (Frm × Value)) (w : World) : Prop where
  dat : OwnI B n.fr.D (.slice p.ad n.fr.D.length p.cd) w
  box : OwnF b1 MB (.slice p.ab n.box.length p.cb) w
  fifo : OwnF b2 MF (.slice p.af n.fifo.length p.cf) w
  flt : OwnP b3 n.flt (.slice p.al n.flt.length p.cl) w
  mb : (MB.map fun m => m.1) = n.box
  mf : (MF.map fun m => m.1) = n.fifo
  fb : Far MB
  ff : Far MF
  ub : ∀ q, (Value.slice p.ad n.fr.D.length p.cd).ownBlock = some q → q < b1
  ux : Under b2 MB (.slice p.ab n.box.length p.cb)
  uf : Under b3 MF (.slice p.af n.fifo.length p.cf)
  le : B ≤ b1 ∧ b1 ≤ b2 ∧ b2 ≤ b3
  got : n.got.size ≤ maxLen
/-- laws.szFrameS, whatever is left. -/
theorem szFramesAny (a : Option Addr) (L : List Frm) (c : Nat) (left : Int) (w : World) (hd : Frs a L w) (hl0 : 0 ≤ left) (hl1 : left ≤ 1048576) :
    Calls Tryz.prog 126 #[.slice a L.length c, .int .i64 left] w fun e w' => SzR left (L.length + room L L.length) e ∧ Below w.heap.size w w' := by
  have hm := hd.1
  unfold maxLen at hm
  go_enter Tryz.func126, Tryz.ntmps126
  by_cases h0 : left < L.length
  · have HR : Hid (SzR left (L.length + room L L.length) (.returned (.int .i64 (-1)))) := Lib.hid (.inr ⟨by omega, rfl⟩)
    go_wp2_with fail
    go_ret
    exact ⟨HR.out, Below.refl _ _⟩
  go_wp2_with fail
  go_loopw [1, 5] (fun l i wr => ∃ k : Nat, k ≤ L.length ∧ (L.length : Int) + room L k ≤ left ∧ i = .int .i64 k ∧ l = .int .i64 (left - (L.length : Int) - room L k) ∧ Below w.heap.size w wr) (fun _ i _ => L.length - (intOf i).toNat)
  case atStart => exact ⟨0, Nat.zero_le _, by rw [room_zero]; omega, rfl, by rw [room_zero]; simp, Below.refl _ _⟩
  case round =>
    obtain ⟨k, hk, hr, rfl, rfl, b⟩ := hrel
    by_cases hlt : k < L.length
    · obtain ⟨g, o, ad, cc, rfl, ⟨c0, c1, c2, c3⟩, hn⟩ := (hd.below b).2 k hlt
      have hs := room_succ L k hlt
      have hl := room_le L (show k + 1 ≤ L.length by omega)
      generalize nthF L k = f at *
      by_cases hov : (L.length : Int) + room L (k + 1) ≤ left
      · go_wp2_with fail
        refine (szFrameOk _ _ _ _ _ _ _ _ (by omega) (by omega)).mono ?_
        rintro e w2 ⟨rfl, b2⟩
        replace b := Below.then2 b b2
        clear b2 hn c0 c1 c2 c3
        go_wp2_with fail
        go_roundw
        case rel => exact ⟨k + 1, by omega, hov, by go_num, by congr 1; omega, b⟩
        case measure => simp [intOf]; omega
      · have hn1 := hn.1
        have HR : Hid (SzR left (L.length + room L L.length) (.returned (.int .i64 (-1)))) := Lib.hid (.inr ⟨by omega, rfl⟩)
        go_wp2_with fail
        refine (szFrameOver _ _ _ _ _ _ _ _ hn1 (by omega) (by omega) (by omega)).mono ?_
        rintro e w2 ⟨rfl, b2⟩
        replace b := Below.then2 b b2
        clear b2 hn c0 c1 c2 c3
        go_wp2_with fail
        go_ret
        exact ⟨HR.out, b⟩
    · obtain rfl : k = L.length := by omega
      have HR : Hid (SzR left (L.length + room L L.length) (.returned (.int .i64 (left - (L.length : Int) - room L L.length)))) := Lib.hid (.inl ⟨by omega, by congr 2; omega⟩)
      go_wp2_with fail
      go_ret
      exact ⟨HR.out, b⟩
theorem szFltAny (a : Option Addr) (n c : Nat) (left : Int) (w : World) (hm : n ≤ maxLen) (hl0 : 0 ≤ left) (hl1 : left ≤ 1048576) :
    Calls Tryz.prog 127 #[.slice a n c, .int .i64 left] w fun e w' => SzR left n e ∧ w = w' := by
  unfold maxLen at hm
  go_enter Tryz.func127, Tryz.ntmps127
  by_cases h : (n : Int) ≤ left
  · have HR : Hid (SzR left n (.returned (.int .i64 (left - n)))) := Lib.hid (.inl ⟨h, rfl⟩)
    go_wp2_with fail
    go_ret
    exact ⟨HR.out, rfl⟩
  · have HR : Hid (SzR left n (.returned (.int .i64 (-1)))) := Lib.hid (.inr ⟨by omega, rfl⟩)
    go_wp2_with fail
    go_ret
    exact ⟨HR.out, rfl⟩
set_option maxHeartbeats 4000000 in
/-- laws.szNode. -/
theorem szNodeAny (n : Nd) (p : NdP) (left : Int) (w : World) (hm : NdM n p w) (hl0 : 0 ≤ left) (hl1 : left ≤ 1048576) :
    Calls Tryz.prog 52 #[ndV n p, .int .i64 left] w fun e w' => SzR left (roomN n) e ∧ Below w.heap.size w w' := by
  have hT : Hid (roomN n = n.fr.D.length + n.got.size + (n.box.length + room n.box n.box.length) + (n.fifo.length + room n.fifo n.fifo.length) + n.flt.length) := Lib.hid rfl
  have HB : Hid (roomN n ≤ left → SzR left (roomN n) (.returned (.int .i64 (left - roomN n)))) := Lib.hid fun h => .inl ⟨h, rfl⟩
  have HO : Hid (left < roomN n → SzR left (roomN n) (.returned (.int .i64 (-1)))) := Lib.hid fun h => .inr ⟨h, rfl⟩
  have h1 := hm.nums.1
  have h2 := hm.size
  have h5 := hm.flt.1
  have Y := Ny.made n p (Below.refl w.heap.size w)
  have hT1 := hT.out
  unfold maxLen at h1 h2 h5
  go_enter Tryz.func52, Tryz.ntmps52
  go_upto_region 1 with fail
  replace hm := hm.alloc (.cells (ndC n p) 83)
  generalize w.alloc _ = W at Y hm ⊢
  generalize w.heap.size = g at Y
  have c : ∀ k, W.cell? ⟨g, k, none⟩ = (ndC n p)[k]? := fun k => cell_of_row W g k _ _ _ Y.blk
  have c4 : W.cell? ⟨g, 4, none⟩ = some (.int .i64 n.fr.id) := c 4
  have c5 : W.cell? ⟨g, 5, none⟩ = some (.bool n.fr.rm) := c 5
  have c6 : W.cell? ⟨g, 6, none⟩ = some (.int .i64 n.fr.ln) := c 6
  have c7 : W.cell? ⟨g, 7, none⟩ = some (.slice p.ad n.fr.D.length p.cd) := c 7
  have hb := Y.bel
  by_cases hD : left < n.fr.D.length
  · have HR := Lib.hid (HO.out (by omega))
    go_wp2_with fail
    refine (szFrameOver _ _ _ _ _ _ _ _ hm.nums.1 hD hl0 hl1).mono ?_
    rintro e w2 ⟨rfl, b2⟩
    replace hb := Below.then2 hb b2
    go_wp2_with fail
    go_ret
    exact ⟨HR.out, hb⟩
  go_wp2_with fail
  refine (szFrameOk _ _ _ _ _ _ _ _ (by omega) hl1).mono ?_
  rintro e w2 ⟨rfl, b2⟩
  replace hm := hm.below b2
  replace Y := Y.below b2
  replace hb := Y.bel
  clear b2 c c4 c5 c6 c7
  have c8 : w2.cell? ⟨g, 8, none⟩ = some (.string n.got) := cell_of_row w2 g 8 _ _ _ Y.blk
  by_cases hG : left - n.fr.D.length < n.got.size
  · have HR := Lib.hid (HO.out (by omega))
    go_wp2_with fail
    go_ret
    exact ⟨HR.out, hb⟩
  have c15 : w2.cell? ⟨g, 15, none⟩ = some (.slice p.ab n.box.length p.cb) := cell_of_row w2 g 15 _ _ _ Y.blk
  go_wp2_with fail
  refine (szFramesAny _ _ _ _ _ hm.box (by omega) (by omega)).mono ?_
  rintro e w3 ⟨hz | hz, b2⟩
  case inr =>
    obtain ⟨hz, rfl⟩ := hz
    have HR := Lib.hid (HO.out (by omega))
    replace hb := Below.then2 hb b2
    go_wp2_with fail
    go_ret
    exact ⟨HR.out, hb⟩
  obtain ⟨hz, rfl⟩ := hz
  replace hm := hm.below b2
  replace Y := Y.below b2
  replace hb := Y.bel
  clear b2 c8 c15
  generalize room n.box n.box.length = r1 at *
  have c16 : w3.cell? ⟨g, 16, none⟩ = some (.slice p.af n.fifo.length p.cf) := cell_of_row w3 g 16 _ _ _ Y.blk
  go_wp2_with fail
  refine (szFramesAny _ _ _ _ _ hm.fifo (by omega) (by omega)).mono ?_
  rintro e w4 ⟨hy | hy, b2⟩
  case inr =>
    obtain ⟨hy, rfl⟩ := hy
    have HR := Lib.hid (HO.out (by omega))
    replace hb := Below.then2 hb b2
    go_wp2_with fail
    go_ret
    exact ⟨HR.out, hb⟩
  obtain ⟨hy, rfl⟩ := hy
  replace hm := hm.below b2
  replace Y := Y.below b2
  replace hb := Y.bel
  clear b2 c16
  generalize room n.fifo n.fifo.length = r2 at *
  have c17 : w4.cell? ⟨g, 17, none⟩ = some (.slice p.al n.flt.length p.cl) := cell_of_row w4 g 17 _ _ _ Y.blk
  go_wp2_with fail
  refine (szFltAny _ _ _ _ _ hm.flt.1 (by omega) (by omega)).mono ?_
  rintro e w5 ⟨hx | hx, rfl⟩
  case inr =>
    obtain ⟨hx, rfl⟩ := hx
    have HR := Lib.hid (HO.out (by omega))
    go_wp2_with fail
    go_ret
    exact ⟨HR.out, hb⟩
  obtain ⟨hx, rfl⟩ := hx
  have HR := Lib.hid (HB.out (by omega))
  have hq : left - (n.fr.D.length : Int) - n.got.size - ((n.box.length + r1 : Nat) : Int) - ((n.fifo.length + r2 : Nat) : Int) - n.flt.length = left - (roomN n : Int) := by omega
  go_wp2_with fail
  go_ret
  exact ⟨by first | exact HR.out | (rw [← hq] at HR; exact HR.out), hb⟩
end Go.Proofs.YtngcekegngmedaaGreatDoor

/- The harness's toNode and eqNode: a node's copy and what the copy owns, two alike. -/

set_option linter.unusedVariables false
set_option linter.unusedSimpArgs false
set_option maxRecDepth 20000
namespace Go.Proofs.YtngcekegngmedaaGreatDoor
open Go.RowKit

theorem grown_at_cell (w : World) (g k : Nat) (v : Value) : w.grownBy (w.setCell ⟨g, k, none⟩ v) (some g) := grown_set _ _ _ _
/-- What a copy of a node leaves. -/
def GotN (n : Nd) (w : World) (e : Ending) (w' : World) : Prop :=
  ∃ (p : NdP) (b1 b2 b3 : Nat) (MB MF : List (Frm × Value)), e = .returned (ndV n p) ∧ NdO w.heap.size b1 b2 b3 n p MB MF w' ∧ Below w.heap.size w w'
set_option maxHeartbeats 8000000 in
/-- laws.toNode. -/
theorem toNodeOwn (n : Nd) (p : NdP) (w : World) (hm : NdM n p w) (hs : roomN n ≤ 1048576) :
    Calls Tryz.prog 53 #[ndV n p] w (GotN n w) := by
  unfold roomN at hs
  have gs := hm.size
  have X := TN.made n p w
  have hD : n.fr.D.length ≤ 1048576 := by omega
  have hB : n.box.length + room n.box n.box.length ≤ 1048576 := by omega
  have hF : n.fifo.length + room n.fifo n.fifo.length ≤ 1048576 := by omega
  have hL : n.flt.length ≤ 1048576 := by omega
  clear hs
  go_enter Tryz.func53, Tryz.ntmps53
  go_upto_region 2 with fail
  generalize World.alloc _ _ = W0 at X ⊢
  generalize w.heap.size + 1 + 1 = go at X ⊢
  generalize w.heap.size + 1 = gr at X ⊢
  generalize w.heap.size = ga at X ⊢
  have ya0 : W0.cell? ⟨ga, 0, none⟩ = some (.int .i64 n.ph) := X.argc 0
  have ya := ya0
  clear ya0
  have yo0 : W0.cell? ⟨go, 0, none⟩ = some (.int .i64 0) := X.cell 0
  have qf := X.free
  have q0 := qf 0
  clear qf
  go_upto_region 3 with fail
  replace X : TN ga go gr n p #[.int .i64 n.ph, .bool false, .bool false, .bool false, .int .i64 0, .bool false, .int .i64 0, .slice none 0 0, .string ⟨#[]⟩, .int .i64 0, .int .i64 0, .int .i64 0, .int .i64 0, .int .i64 0, .int .i64 0, .slice none 0 0, .slice none 0 0, .slice none 0 0] w _ := X.set 0 (.int .i64 n.ph)
  clear yo0 q0
  have hz1 : (W0.setCell ⟨go, 0, none⟩ (.int .i64 n.ph)).heap.size = W0.heap.size := by simp
  generalize W0.setCell ⟨go, 0, none⟩ (.int .i64 n.ph) = W1 at *
  clear ya
  have ya1 : W1.cell? ⟨ga, 1, none⟩ = some (.bool n.tx) := X.argc 1
  have ya := ya1
  clear ya1
  have yo1 : W1.cell? ⟨go, 1, none⟩ = some (.bool false) := X.cell 1
  have qf := X.free
  have q1 := qf 1
  clear qf
  go_upto_region 4 with fail
  replace X : TN ga go gr n p #[.int .i64 n.ph, .bool n.tx, .bool false, .bool false, .int .i64 0, .bool false, .int .i64 0, .slice none 0 0, .string ⟨#[]⟩, .int .i64 0, .int .i64 0, .int .i64 0, .int .i64 0, .int .i64 0, .int .i64 0, .slice none 0 0, .slice none 0 0, .slice none 0 0] w _ := X.set 1 (.bool n.tx)
  clear yo1 q1
  have hz2 : (W1.setCell ⟨go, 1, none⟩ (.bool n.tx)).heap.size = W1.heap.size := by simp
  generalize W1.setCell ⟨go, 1, none⟩ (.bool n.tx) = W2 at *
  clear ya
  have ya2 : W2.cell? ⟨ga, 2, none⟩ = some (.bool n.mild) := X.argc 2
  have ya := ya2
  clear ya2
  have yo2 : W2.cell? ⟨go, 2, none⟩ = some (.bool false) := X.cell 2
  have qf := X.free
  have q2 := qf 2
  clear qf
  go_upto_region 5 with fail
  replace X : TN ga go gr n p #[.int .i64 n.ph, .bool n.tx, .bool n.mild, .bool false, .int .i64 0, .bool false, .int .i64 0, .slice none 0 0, .string ⟨#[]⟩, .int .i64 0, .int .i64 0, .int .i64 0, .int .i64 0, .int .i64 0, .int .i64 0, .slice none 0 0, .slice none 0 0, .slice none 0 0] w _ := X.set 2 (.bool n.mild)
  clear yo2 q2
  have hz3 : (W2.setCell ⟨go, 2, none⟩ (.bool n.mild)).heap.size = W2.heap.size := by simp
  generalize W2.setCell ⟨go, 2, none⟩ (.bool n.mild) = W3 at *
  clear ya
  have ya3 : W3.cell? ⟨ga, 3, none⟩ = some (.bool n.bad) := X.argc 3
  have ya := ya3
  clear ya3
  have yo3 : W3.cell? ⟨go, 3, none⟩ = some (.bool false) := X.cell 3
  have qf := X.free
  have q3 := qf 3
  clear qf
  go_upto_region 6 with fail
  replace X : TN ga go gr n p #[.int .i64 n.ph, .bool n.tx, .bool n.mild, .bool n.bad, .int .i64 0, .bool false, .int .i64 0, .slice none 0 0, .string ⟨#[]⟩, .int .i64 0, .int .i64 0, .int .i64 0, .int .i64 0, .int .i64 0, .int .i64 0, .slice none 0 0, .slice none 0 0, .slice none 0 0] w _ := X.set 3 (.bool n.bad)
  clear yo3 q3
  have hz4 : (W3.setCell ⟨go, 3, none⟩ (.bool n.bad)).heap.size = W3.heap.size := by simp
  generalize W3.setCell ⟨go, 3, none⟩ (.bool n.bad) = W4 at *
  clear ya
  have ya4 : W4.cell? ⟨ga, 4, none⟩ = some (.int .i64 n.fr.id) := X.argc 4
  have ya5 : W4.cell? ⟨ga, 5, none⟩ = some (.bool n.fr.rm) := X.argc 5
  have ya6 : W4.cell? ⟨ga, 6, none⟩ = some (.int .i64 n.fr.ln) := X.argc 6
  have ya7 : W4.cell? ⟨ga, 7, none⟩ = some (.slice p.ad n.fr.D.length p.cd) := X.argc 7
  have hlt6 := X.lt.2.1
  have hrt6 := X.lt.2.2
  have hsz6 := X.bel.size
  go_wp2_with fail
  refine (toFrOwn _ _ _ _ _ _ _ (hm.nums.below X.bel) hD).mono ?_
  rintro e W5 ⟨ad, rfl, OD, b⟩
  have hc5 := b.size
  replace X := X.below b
  clear b
  clear ya4 ya5 ya6 ya7
  have yo4 : W5.cell? ⟨go, 4, none⟩ = some (.int .i64 0) := X.cell 4
  have yo5 : W5.cell? ⟨go, 5, none⟩ = some (.bool false) := X.cell 5
  have yo6 : W5.cell? ⟨go, 6, none⟩ = some (.int .i64 0) := X.cell 6
  have yo7 : W5.cell? ⟨go, 7, none⟩ = some (.slice none 0 0) := X.cell 7
  have qf := X.free
  have q4 := qf 4
  have q5 := qf 5
  have q6 := qf 6
  have q7 := qf 7
  clear qf
  go_upto_region 7 with fail
  replace X : TN ga go gr n p #[.int .i64 n.ph, .bool n.tx, .bool n.mild, .bool n.bad, .int .i64 n.fr.id, .bool false, .int .i64 0, .slice none 0 0, .string ⟨#[]⟩, .int .i64 0, .int .i64 0, .int .i64 0, .int .i64 0, .int .i64 0, .int .i64 0, .slice none 0 0, .slice none 0 0, .slice none 0 0] w _ := X.set 4 (.int .i64 n.fr.id)
  replace OD := OD.kept2 (grown_at_cell _ go 4 (.int .i64 n.fr.id)) hlt6
  replace X : TN ga go gr n p #[.int .i64 n.ph, .bool n.tx, .bool n.mild, .bool n.bad, .int .i64 n.fr.id, .bool n.fr.rm, .int .i64 0, .slice none 0 0, .string ⟨#[]⟩, .int .i64 0, .int .i64 0, .int .i64 0, .int .i64 0, .int .i64 0, .int .i64 0, .slice none 0 0, .slice none 0 0, .slice none 0 0] w _ := X.set 5 (.bool n.fr.rm)
  replace OD := OD.kept2 (grown_at_cell _ go 5 (.bool n.fr.rm)) hlt6
  replace X : TN ga go gr n p #[.int .i64 n.ph, .bool n.tx, .bool n.mild, .bool n.bad, .int .i64 n.fr.id, .bool n.fr.rm, .int .i64 n.fr.ln, .slice none 0 0, .string ⟨#[]⟩, .int .i64 0, .int .i64 0, .int .i64 0, .int .i64 0, .int .i64 0, .int .i64 0, .slice none 0 0, .slice none 0 0, .slice none 0 0] w _ := X.set 6 (.int .i64 n.fr.ln)
  replace OD := OD.kept2 (grown_at_cell _ go 6 (.int .i64 n.fr.ln)) hlt6
  replace X : TN ga go gr n p #[.int .i64 n.ph, .bool n.tx, .bool n.mild, .bool n.bad, .int .i64 n.fr.id, .bool n.fr.rm, .int .i64 n.fr.ln, .slice ad n.fr.D.length n.fr.D.length, .string ⟨#[]⟩, .int .i64 0, .int .i64 0, .int .i64 0, .int .i64 0, .int .i64 0, .int .i64 0, .slice none 0 0, .slice none 0 0, .slice none 0 0] w _ := X.set 7 (.slice ad n.fr.D.length n.fr.D.length)
  replace OD := OD.kept2 (grown_at_cell _ go 7 (.slice ad n.fr.D.length n.fr.D.length)) hlt6
  clear yo4 q4 yo5 q5 yo6 q6 yo7 q7
  have hz6 : ((((W5.setCell ⟨go, 4, none⟩ (.int .i64 n.fr.id)).setCell ⟨go, 5, none⟩ (.bool n.fr.rm)).setCell ⟨go, 6, none⟩ (.int .i64 n.fr.ln)).setCell ⟨go, 7, none⟩ (.slice ad n.fr.D.length n.fr.D.length)).heap.size = W5.heap.size := by simp
  generalize (((W5.setCell ⟨go, 4, none⟩ (.int .i64 n.fr.id)).setCell ⟨go, 5, none⟩ (.bool n.fr.rm)).setCell ⟨go, 6, none⟩ (.int .i64 n.fr.ln)).setCell ⟨go, 7, none⟩ (.slice ad n.fr.D.length n.fr.D.length) = W6 at *
  have ya8 : W6.cell? ⟨ga, 8, none⟩ = some (.string n.got) := X.argc 8
  have ya := ya8
  clear ya8
  have yo8 : W6.cell? ⟨go, 8, none⟩ = some (.string ⟨#[]⟩) := X.cell 8
  have qf := X.free
  have q8 := qf 8
  clear qf
  go_upto_region 8 with fail
  replace X : TN ga go gr n p #[.int .i64 n.ph, .bool n.tx, .bool n.mild, .bool n.bad, .int .i64 n.fr.id, .bool n.fr.rm, .int .i64 n.fr.ln, .slice ad n.fr.D.length n.fr.D.length, .string n.got, .int .i64 0, .int .i64 0, .int .i64 0, .int .i64 0, .int .i64 0, .int .i64 0, .slice none 0 0, .slice none 0 0, .slice none 0 0] w _ := X.set 8 (.string n.got)
  replace OD := OD.kept2 (grown_at_cell _ go 8 (.string n.got)) hlt6
  clear yo8 q8
  have hz7 : (W6.setCell ⟨go, 8, none⟩ (.string n.got)).heap.size = W6.heap.size := by simp
  generalize W6.setCell ⟨go, 8, none⟩ (.string n.got) = W7 at *
  clear ya
  have ya9 : W7.cell? ⟨ga, 9, none⟩ = some (.int .i64 n.run) := X.argc 9
  have ya := ya9
  clear ya9
  have yo9 : W7.cell? ⟨go, 9, none⟩ = some (.int .i64 0) := X.cell 9
  have qf := X.free
  have q9 := qf 9
  clear qf
  go_upto_region 9 with fail
  replace X : TN ga go gr n p #[.int .i64 n.ph, .bool n.tx, .bool n.mild, .bool n.bad, .int .i64 n.fr.id, .bool n.fr.rm, .int .i64 n.fr.ln, .slice ad n.fr.D.length n.fr.D.length, .string n.got, .int .i64 n.run, .int .i64 0, .int .i64 0, .int .i64 0, .int .i64 0, .int .i64 0, .slice none 0 0, .slice none 0 0, .slice none 0 0] w _ := X.set 9 (.int .i64 n.run)
  replace OD := OD.kept2 (grown_at_cell _ go 9 (.int .i64 n.run)) hlt6
  clear yo9 q9
  have hz8 : (W7.setCell ⟨go, 9, none⟩ (.int .i64 n.run)).heap.size = W7.heap.size := by simp
  generalize W7.setCell ⟨go, 9, none⟩ (.int .i64 n.run) = W8 at *
  clear ya
  have ya10 : W8.cell? ⟨ga, 10, none⟩ = some (.int .i64 n.last) := X.argc 10
  have ya := ya10
  clear ya10
  have yo10 : W8.cell? ⟨go, 10, none⟩ = some (.int .i64 0) := X.cell 10
  have qf := X.free
  have q10 := qf 10
  clear qf
  go_upto_region 10 with fail
  replace X : TN ga go gr n p #[.int .i64 n.ph, .bool n.tx, .bool n.mild, .bool n.bad, .int .i64 n.fr.id, .bool n.fr.rm, .int .i64 n.fr.ln, .slice ad n.fr.D.length n.fr.D.length, .string n.got, .int .i64 n.run, .int .i64 n.last, .int .i64 0, .int .i64 0, .int .i64 0, .int .i64 0, .slice none 0 0, .slice none 0 0, .slice none 0 0] w _ := X.set 10 (.int .i64 n.last)
  replace OD := OD.kept2 (grown_at_cell _ go 10 (.int .i64 n.last)) hlt6
  clear yo10 q10
  have hz9 : (W8.setCell ⟨go, 10, none⟩ (.int .i64 n.last)).heap.size = W8.heap.size := by simp
  generalize W8.setCell ⟨go, 10, none⟩ (.int .i64 n.last) = W9 at *
  clear ya
  have ya11 : W9.cell? ⟨ga, 11, none⟩ = some (.int .i64 n.pos) := X.argc 11
  have ya := ya11
  clear ya11
  have yo11 : W9.cell? ⟨go, 11, none⟩ = some (.int .i64 0) := X.cell 11
  have qf := X.free
  have q11 := qf 11
  clear qf
  go_upto_region 11 with fail
  replace X : TN ga go gr n p #[.int .i64 n.ph, .bool n.tx, .bool n.mild, .bool n.bad, .int .i64 n.fr.id, .bool n.fr.rm, .int .i64 n.fr.ln, .slice ad n.fr.D.length n.fr.D.length, .string n.got, .int .i64 n.run, .int .i64 n.last, .int .i64 n.pos, .int .i64 0, .int .i64 0, .int .i64 0, .slice none 0 0, .slice none 0 0, .slice none 0 0] w _ := X.set 11 (.int .i64 n.pos)
  replace OD := OD.kept2 (grown_at_cell _ go 11 (.int .i64 n.pos)) hlt6
  clear yo11 q11
  have hz10 : (W9.setCell ⟨go, 11, none⟩ (.int .i64 n.pos)).heap.size = W9.heap.size := by simp
  generalize W9.setCell ⟨go, 11, none⟩ (.int .i64 n.pos) = W10 at *
  clear ya
  have ya12 : W10.cell? ⟨ga, 12, none⟩ = some (.int .i64 n.left) := X.argc 12
  have ya := ya12
  clear ya12
  have yo12 : W10.cell? ⟨go, 12, none⟩ = some (.int .i64 0) := X.cell 12
  have qf := X.free
  have q12 := qf 12
  clear qf
  go_upto_region 12 with fail
  replace X : TN ga go gr n p #[.int .i64 n.ph, .bool n.tx, .bool n.mild, .bool n.bad, .int .i64 n.fr.id, .bool n.fr.rm, .int .i64 n.fr.ln, .slice ad n.fr.D.length n.fr.D.length, .string n.got, .int .i64 n.run, .int .i64 n.last, .int .i64 n.pos, .int .i64 n.left, .int .i64 0, .int .i64 0, .slice none 0 0, .slice none 0 0, .slice none 0 0] w _ := X.set 12 (.int .i64 n.left)
  replace OD := OD.kept2 (grown_at_cell _ go 12 (.int .i64 n.left)) hlt6
  clear yo12 q12
  have hz11 : (W10.setCell ⟨go, 12, none⟩ (.int .i64 n.left)).heap.size = W10.heap.size := by simp
  generalize W10.setCell ⟨go, 12, none⟩ (.int .i64 n.left) = W11 at *
  clear ya
  have ya13 : W11.cell? ⟨ga, 13, none⟩ = some (.int .i64 n.cs) := X.argc 13
  have ya14 : W11.cell? ⟨ga, 14, none⟩ = some (.int .i64 n.cg) := X.argc 14
  have hlt12 := X.lt.2.1
  have hrt12 := X.lt.2.2
  have hsz12 := X.bel.size
  go_wp2_with fail
  refine (toCnt _ _ _).mono ?_
  rintro e W12 ⟨rfl, b⟩
  have hc12 := b.size
  replace X := X.below b
  replace OD := OD.below' b
  clear b
  clear ya13 ya14
  have yo13 : W12.cell? ⟨go, 13, none⟩ = some (.int .i64 0) := X.cell 13
  have yo14 : W12.cell? ⟨go, 14, none⟩ = some (.int .i64 0) := X.cell 14
  have qf := X.free
  have q13 := qf 13
  have q14 := qf 14
  clear qf
  go_upto_region 13 with fail
  replace X : TN ga go gr n p #[.int .i64 n.ph, .bool n.tx, .bool n.mild, .bool n.bad, .int .i64 n.fr.id, .bool n.fr.rm, .int .i64 n.fr.ln, .slice ad n.fr.D.length n.fr.D.length, .string n.got, .int .i64 n.run, .int .i64 n.last, .int .i64 n.pos, .int .i64 n.left, .int .i64 n.cs, .int .i64 0, .slice none 0 0, .slice none 0 0, .slice none 0 0] w _ := X.set 13 (.int .i64 n.cs)
  replace OD := OD.kept2 (grown_at_cell _ go 13 (.int .i64 n.cs)) hlt6
  replace X : TN ga go gr n p #[.int .i64 n.ph, .bool n.tx, .bool n.mild, .bool n.bad, .int .i64 n.fr.id, .bool n.fr.rm, .int .i64 n.fr.ln, .slice ad n.fr.D.length n.fr.D.length, .string n.got, .int .i64 n.run, .int .i64 n.last, .int .i64 n.pos, .int .i64 n.left, .int .i64 n.cs, .int .i64 n.cg, .slice none 0 0, .slice none 0 0, .slice none 0 0] w _ := X.set 14 (.int .i64 n.cg)
  replace OD := OD.kept2 (grown_at_cell _ go 14 (.int .i64 n.cg)) hlt6
  clear yo13 q13 yo14 q14
  have hz13 : ((W12.setCell ⟨go, 13, none⟩ (.int .i64 n.cs)).setCell ⟨go, 14, none⟩ (.int .i64 n.cg)).heap.size = W12.heap.size := by simp
  generalize (W12.setCell ⟨go, 13, none⟩ (.int .i64 n.cs)).setCell ⟨go, 14, none⟩ (.int .i64 n.cg) = W13 at *
  have UD := fun q hq => (OD.1.lt q hq).2
  have ya15 : W13.cell? ⟨ga, 15, none⟩ = some (.slice p.ab n.box.length p.cb) := X.argc 15
  have hlt13 := X.lt.2.1
  have hrt13 := X.lt.2.2
  have hsz13 := X.bel.size
  go_wp2_with fail
  refine (toFramesOwn _ _ _ _ (hm.box.below X.bel) hB).mono ?_
  rintro e W14 ⟨MB, ab, cb, rfl, hMB, OB, FB, b⟩
  have hc14 := b.size
  replace X := X.below b
  replace OD := OD.below' b
  clear b
  clear ya15
  have yo15 : W14.cell? ⟨go, 15, none⟩ = some (.slice none 0 0) := X.cell 15
  have qf := X.free
  have q15 := qf 15
  clear qf
  go_upto_region 14 with fail
  replace X : TN ga go gr n p #[.int .i64 n.ph, .bool n.tx, .bool n.mild, .bool n.bad, .int .i64 n.fr.id, .bool n.fr.rm, .int .i64 n.fr.ln, .slice ad n.fr.D.length n.fr.D.length, .string n.got, .int .i64 n.run, .int .i64 n.last, .int .i64 n.pos, .int .i64 n.left, .int .i64 n.cs, .int .i64 n.cg, .slice ab n.box.length cb, .slice none 0 0, .slice none 0 0] w _ := X.set 15 (.slice ab n.box.length cb)
  replace OD := OD.kept2 (grown_at_cell _ go 15 (.slice ab n.box.length cb)) hlt6
  replace OB := OB.kept2 (grown_at_cell _ go 15 (.slice ab n.box.length cb)) hlt13
  clear yo15 q15
  have hz15 : (W14.setCell ⟨go, 15, none⟩ (.slice ab n.box.length cb)).heap.size = W14.heap.size := by simp
  generalize W14.setCell ⟨go, 15, none⟩ (.slice ab n.box.length cb) = W15 at *
  have UX := OB.under
  have ya16 : W15.cell? ⟨ga, 16, none⟩ = some (.slice p.af n.fifo.length p.cf) := X.argc 16
  have hlt14 := X.lt.2.1
  have hrt14 := X.lt.2.2
  have hsz14 := X.bel.size
  go_wp2_with fail
  refine (toFramesOwn _ _ _ _ (hm.fifo.below X.bel) hF).mono ?_
  rintro e W16 ⟨MF, af, cf, rfl, hMF, OF, FF, b⟩
  have hc16 := b.size
  replace X := X.below b
  replace OD := OD.below' b
  replace OB := OB.below b
  clear b
  clear ya16
  have yo16 : W16.cell? ⟨go, 16, none⟩ = some (.slice none 0 0) := X.cell 16
  have qf := X.free
  have q16 := qf 16
  clear qf
  go_upto_region 15 with fail
  replace X : TN ga go gr n p #[.int .i64 n.ph, .bool n.tx, .bool n.mild, .bool n.bad, .int .i64 n.fr.id, .bool n.fr.rm, .int .i64 n.fr.ln, .slice ad n.fr.D.length n.fr.D.length, .string n.got, .int .i64 n.run, .int .i64 n.last, .int .i64 n.pos, .int .i64 n.left, .int .i64 n.cs, .int .i64 n.cg, .slice ab n.box.length cb, .slice af n.fifo.length cf, .slice none 0 0] w _ := X.set 16 (.slice af n.fifo.length cf)
  replace OD := OD.kept2 (grown_at_cell _ go 16 (.slice af n.fifo.length cf)) hlt6
  replace OB := OB.kept2 (grown_at_cell _ go 16 (.slice af n.fifo.length cf)) hlt13
  replace OF := OF.kept2 (grown_at_cell _ go 16 (.slice af n.fifo.length cf)) hlt14
  clear yo16 q16
  have hz17 : (W16.setCell ⟨go, 16, none⟩ (.slice af n.fifo.length cf)).heap.size = W16.heap.size := by simp
  generalize W16.setCell ⟨go, 16, none⟩ (.slice af n.fifo.length cf) = W17 at *
  have UF := OF.under
  have ya17 : W17.cell? ⟨ga, 17, none⟩ = some (.slice p.al n.flt.length p.cl) := X.argc 17
  have hlt15 := X.lt.2.1
  have hrt15 := X.lt.2.2
  have hsz15 := X.bel.size
  go_wp2_with fail
  refine (toFltsOwn _ _ _ _ (hm.flt.below X.bel) hL).mono ?_
  rintro e W18 ⟨gl, rfl, OL, b⟩
  have hc18 := b.size
  replace X := X.below b
  replace OD := OD.below' b
  replace OB := OB.below b
  replace OF := OF.below b
  clear b
  clear ya17
  have yo17 : W18.cell? ⟨go, 17, none⟩ = some (.slice none 0 0) := X.cell 17
  have qf := X.free
  have q17 := qf 17
  clear qf
  go_upto_region 16 with fail
  replace X : TN ga go gr n p #[.int .i64 n.ph, .bool n.tx, .bool n.mild, .bool n.bad, .int .i64 n.fr.id, .bool n.fr.rm, .int .i64 n.fr.ln, .slice ad n.fr.D.length n.fr.D.length, .string n.got, .int .i64 n.run, .int .i64 n.last, .int .i64 n.pos, .int .i64 n.left, .int .i64 n.cs, .int .i64 n.cg, .slice ab n.box.length cb, .slice af n.fifo.length cf, .slice (some ⟨gl, 0, none⟩) n.flt.length n.flt.length] w _ := X.set 17 (.slice (some ⟨gl, 0, none⟩) n.flt.length n.flt.length)
  replace OD := OD.kept2 (grown_at_cell _ go 17 (.slice (some ⟨gl, 0, none⟩) n.flt.length n.flt.length)) hlt6
  replace OB := OB.kept2 (grown_at_cell _ go 17 (.slice (some ⟨gl, 0, none⟩) n.flt.length n.flt.length)) hlt13
  replace OF := OF.kept2 (grown_at_cell _ go 17 (.slice (some ⟨gl, 0, none⟩) n.flt.length n.flt.length)) hlt14
  replace OL := OL.kept2 (grown_at_cell _ go 17 (.slice (some ⟨gl, 0, none⟩) n.flt.length n.flt.length)) hlt15
  clear yo17 q17
  have hz19 : (W18.setCell ⟨go, 17, none⟩ (.slice (some ⟨gl, 0, none⟩) n.flt.length n.flt.length)).heap.size = W18.heap.size := by simp
  generalize W18.setCell ⟨go, 17, none⟩ (.slice (some ⟨gl, 0, none⟩) n.flt.length n.flt.length) = W19 at *
  obtain ⟨Z1, Z2, Z3⟩ := X.fin rfl (by simp [Value.oneCell'])
  replace OD := OD.kept2 Z2 hrt6
  replace OB := OB.kept2 Z2 hrt13
  replace OF := OF.kept2 Z2 hrt14
  replace OL := OL.kept2 Z2 hrt15
  have HO : Hid (NdO w.heap.size W13.heap.size W15.heap.size W17.heap.size n ⟨ad, n.fr.D.length, ab, cb, af, cf, some ⟨gl, 0, none⟩, n.flt.length⟩ MB MF (W19.setRow gr #[.int .i64 n.ph, .bool n.tx, .bool n.mild, .bool n.bad, .int .i64 n.fr.id, .bool n.fr.rm, .int .i64 n.fr.ln, .slice ad n.fr.D.length n.fr.D.length, .string n.got, .int .i64 n.run, .int .i64 n.last, .int .i64 n.pos, .int .i64 n.left, .int .i64 n.cs, .int .i64 n.cg, .slice ab n.box.length cb, .slice af n.fifo.length cf, .slice (some ⟨gl, 0, none⟩) n.flt.length n.flt.length])) :=
    Lib.hid ⟨OD.mono hsz6, OB, OF, OL, hMB, hMF, FB, FF, UD, UX, UF, ⟨by omega, by omega, by omega⟩, gs⟩
  clear OD OB OF OL Z2
  go_wp2_with (first
    | (refine wpList_load_row rfl 32 _ rfl go rfl 32 #[.int .i64 n.ph, .bool n.tx, .bool n.mild, .bool n.bad, .int .i64 n.fr.id, .bool n.fr.rm, .int .i64 n.fr.ln, .slice ad n.fr.D.length n.fr.D.length, .string n.got, .int .i64 n.run, .int .i64 n.last, .int .i64 n.pos, .int .i64 n.left, .int .i64 n.cs, .int .i64 n.cg, .slice ab n.box.length cb, .slice af n.fifo.length cf, .slice (some ⟨gl, 0, none⟩) n.flt.length n.flt.length] (0, 0) _ X.blk Tryz.underlying32 rfl (by kernel_rfl) ?_)
    | (refine wpList_store_row rfl 32 _ _ rfl gr #[.int .i64 n.ph, .bool n.tx, .bool n.mild, .bool n.bad, .int .i64 n.fr.id, .bool n.fr.rm, .int .i64 n.fr.ln, .slice ad n.fr.D.length n.fr.D.length, .string n.got, .int .i64 n.run, .int .i64 n.last, .int .i64 n.pos, .int .i64 n.left, .int .i64 n.cs, .int .i64 n.cg, .slice ab n.box.length cb, .slice af n.fifo.length cf, .slice (some ⟨gl, 0, none⟩) n.flt.length n.flt.length] rfl rfl 32 _ X.res (by kernel_rfl) (by rfl) (by simp [Value.oneCell']) ?_))
  refine bodyPost_ret (v := ndV n ⟨ad, n.fr.D.length, ab, cb, af, cf, some ⟨gl, 0, none⟩, n.flt.length⟩) ?_ rfl ⟨⟨ad, n.fr.D.length, ab, cb, af, cf, some ⟨gl, 0, none⟩, n.flt.length⟩, W13.heap.size, W15.heap.size, W17.heap.size, MB, MF, rfl, HO.out, Z3⟩
  exact results_cell_row Tryz.results53 _ _ gr 32 _ (0, 0) _ rfl Z1 Tryz.underlying32 rfl (by kernel_rfl)
/-- Two nodes that hold the same, in two blocks. -/
structure NN (ga gb : Nat) (n : Nd) (p q : NdP) (w0 w : World) : Prop where
  a : Nx ga n p w0 w
  b : Nx gb n q w0 w
  ma : NdM n p w
  mb : NdM n q w
theorem NN.below {ga gb : Nat} {n : Nd} {p q : NdP} {w0 w w' : World} (h : NN ga gb n p q w0 w) (b : Below w.heap.size w w') : NN ga gb n p q w0 w' := ⟨h.a.below b, h.b.below b, h.ma.below b, h.mb.below b⟩
set_option maxHeartbeats 8000000 in
/-- laws.eqNode, of two that hold the same. -/
theorem eqN (n : Nd) (p q : NdP) (w : World) (ha : NdM n p w) (hb : NdM n q w) :
    Calls Tryz.prog 54 #[ndV n p, ndV n q] w fun e w' => e = .returned (.bool true) ∧ Below w.heap.size w w' := by
  have X : NN w.heap.size (w.alloc (.cells (ndC n p) 32)).heap.size n p q w ((w.alloc (.cells (ndC n p) 32)).alloc (.cells (ndC n q) 32)) := by
    have h1 := Nx.made n p (Below.refl w.heap.size w)
    exact ⟨h1.alloc _, Nx.made n q h1.bel, (ha.alloc _).alloc _, (hb.alloc _).alloc _⟩
  rw [show (w.alloc (.cells (ndC n p) 32)).heap.size = w.heap.size + 1 by simp] at X
  go_enter Tryz.func54, Tryz.ntmps54
  go_upto_region 1 with fail
  generalize World.alloc _ _ = W at X ⊢
  generalize w.heap.size + 1 = gb at X ⊢
  generalize w.heap.size = ga at X ⊢
  obtain ⟨c0, c1, c2, c3, c4, c5, c6, c7, c8, c9, c10, c11, c12, c13, c14, c15, c16, c17⟩ := X.a.cells
  obtain ⟨d0, d1, d2, d3, d4, d5, d6, d7, d8, d9, d10, d11, d12, d13, d14, d15, d16, d17⟩ := X.b.cells
  go_wp2_with fail
  refine (eqFr _ _ _ _ _ _ _ _ _ X.ma.nums X.mb.nums).mono ?_
  rintro e w' ⟨rfl, b⟩
  replace X := X.below b
  clear b c0 c1 c2 c3 c4 c5 c6 c7 c8 c9 c10 c11 c12 c13 c14 c15 c16 c17 d0 d1 d2 d3 d4 d5 d6 d7 d8 d9 d10 d11 d12 d13 d14 d15 d16 d17
  obtain ⟨c0, c1, c2, c3, c4, c5, c6, c7, c8, c9, c10, c11, c12, c13, c14, c15, c16, c17⟩ := X.a.cells
  obtain ⟨d0, d1, d2, d3, d4, d5, d6, d7, d8, d9, d10, d11, d12, d13, d14, d15, d16, d17⟩ := X.b.cells
  go_wp2_with fail
  refine (eqCnt _ _ _).mono ?_
  rintro e w' ⟨rfl, b⟩
  replace X := X.below b
  clear b c0 c1 c2 c3 c4 c5 c6 c7 c8 c9 c10 c11 c12 c13 c14 c15 c16 c17 d0 d1 d2 d3 d4 d5 d6 d7 d8 d9 d10 d11 d12 d13 d14 d15 d16 d17
  obtain ⟨c0, c1, c2, c3, c4, c5, c6, c7, c8, c9, c10, c11, c12, c13, c14, c15, c16, c17⟩ := X.a.cells
  obtain ⟨d0, d1, d2, d3, d4, d5, d6, d7, d8, d9, d10, d11, d12, d13, d14, d15, d16, d17⟩ := X.b.cells
  go_wp2_with fail
  refine (eqFrames _ _ _ _ _ _ X.ma.box X.mb.box).mono ?_
  rintro e w' ⟨rfl, b⟩
  replace X := X.below b
  clear b c0 c1 c2 c3 c4 c5 c6 c7 c8 c9 c10 c11 c12 c13 c14 c15 c16 c17 d0 d1 d2 d3 d4 d5 d6 d7 d8 d9 d10 d11 d12 d13 d14 d15 d16 d17
  obtain ⟨c0, c1, c2, c3, c4, c5, c6, c7, c8, c9, c10, c11, c12, c13, c14, c15, c16, c17⟩ := X.a.cells
  obtain ⟨d0, d1, d2, d3, d4, d5, d6, d7, d8, d9, d10, d11, d12, d13, d14, d15, d16, d17⟩ := X.b.cells
  go_wp2_with fail
  refine (eqFrames _ _ _ _ _ _ X.ma.fifo X.mb.fifo).mono ?_
  rintro e w' ⟨rfl, b⟩
  replace X := X.below b
  clear b c0 c1 c2 c3 c4 c5 c6 c7 c8 c9 c10 c11 c12 c13 c14 c15 c16 c17 d0 d1 d2 d3 d4 d5 d6 d7 d8 d9 d10 d11 d12 d13 d14 d15 d16 d17
  obtain ⟨c0, c1, c2, c3, c4, c5, c6, c7, c8, c9, c10, c11, c12, c13, c14, c15, c16, c17⟩ := X.a.cells
  obtain ⟨d0, d1, d2, d3, d4, d5, d6, d7, d8, d9, d10, d11, d12, d13, d14, d15, d16, d17⟩ := X.b.cells
  go_wp2_with fail
  refine (eqFlts _ _ _ _ _ _ X.ma.flt X.mb.flt).mono ?_
  rintro e w' ⟨rfl, b⟩
  replace X := X.below b
  clear b c0 c1 c2 c3 c4 c5 c6 c7 c8 c9 c10 c11 c12 c13 c14 c15 c16 c17 d0 d1 d2 d3 d4 d5 d6 d7 d8 d9 d10 d11 d12 d13 d14 d15 d16 d17
  have hbl := X.a.bel
  go_wp2_with fail
  go_ret
  exact ⟨rfl, hbl⟩
end Go.Proofs.YtngcekegngmedaaGreatDoor

/- What a node does with one bit, plain; a right node stays right. -/

set_option linter.unusedVariables false
set_option linter.unusedSimpArgs false
set_option maxRecDepth 20000
namespace Go.Proofs.YtngcekegngmedaaGreatDoor
open Go.RowKit

/-- A frame of nothing; what happened (its kind, its frame). -/
def zF : Frm := ⟨0, false, 0, []⟩
def bitS (l : Int) : ByteArray := if l = 0 then ⟨#[48]⟩ else ⟨#[49]⟩
def badA (n : Nd) : Int := if n.tx = true then sbA n.cs n.cg else gwA n.cs n.cg
def badB (n : Nd) : Int := if n.tx = true then swB n.cs n.cg else gbB n.cs n.cg
/-- It breaks off. -/
def brkN (n : Nd) : Nd × Int × Frm :=
  if stV (badA n) (badB n) = 2 then ({ n with cs := badA n, cg := badB n, got := ⟨#[]⟩, run := 0, last := 0, pos := 0, bad := false, ph := 7, left := 128 }, 5, zF)
  else ({ n with cs := badA n, cg := badB n, got := ⟨#[]⟩, run := 0, last := 0, pos := 0, bad := false, ph := 3, mild := decide (stV (badA n) (badB n) = 1), left := 6 }, 4, zF)
def hearN (n : Nd) (l : Int) : Nd := { n with got := n.got ++ bitS l, run := if l = n.last then n.run + 1 else 1, last := l }
def wholeN (n : Nd) : Nd := if wholeB n.got = true ∧ n.run ≠ 5 then { n with ph := 2, pos := 0, left := 0, bad := !n.tx && decide (rdCode n.got ≠ 0) } else n
def begN (n : Nd) (tx : Bool) : Nd := { n with ph := 1, got := ⟨#[48]⟩, run := 1, last := 0, left := 0, tx := tx, bad := false }
def bodyN (n : Nd) (l : Int) : Nd × Int × Frm :=
  if n.run = 5 then (if l = n.last then brkN n else (wholeN { n with run := 1, last := l }, 0, zF))
  else if n.tx = true ∧ l ≠ nextV n then (if nextV n = 0 ∨ 12 < n.got.size then brkN n else (wholeN (hearN { n with tx := false } l), 0, zF))
  else (wholeN (hearN n l), 0, zF)
/-- What was read. -/
def rdF (s : ByteArray) : Frm := ⟨rdId s, rdRm s, rdLn s, rdD s⟩
def heardN (n : Nd) : Nd × Int × Frm :=
  if passV n.flt (rdF n.got).id = true then ({ n with pos := 9, cs := gwA n.cs n.cg, cg := gwB n.cs n.cg, fifo := (pushV n.fifo (rdF n.got)).1 }, if (pushV n.fifo (rdF n.got)).2 = true then 2 else 3, rdF n.got)
  else ({ n with pos := 9, cs := gwA n.cs n.cg, cg := gwB n.cs n.cg }, 0, zF)
def tailB (n : Nd) (l : Int) : Bool := if n.pos = 1 then n.tx && decide (l = 1) else if n.pos = 2 then decide (l = 0) || n.bad else if n.pos = 9 then n.tx && decide (l = 0) else decide (l = 0)
def tailN (n : Nd) (l : Int) : Nd × Int × Frm :=
  if tailB n l = true then brkN n
  else if n.pos < 9 then (if n.pos = 8 ∧ n.tx = false then heardN n else ({ n with pos := n.pos + 1 }, 0, zF))
  else if n.tx = true then ({ n with ph := 5, left := 3, got := ⟨#[]⟩, run := 0, last := 0, pos := 0, cs := swA n.cs n.cg, cg := swB n.cs n.cg, box := outV n.box (rkF n.fr) }, 1, n.fr)
  else ({ n with ph := 5, left := 3, got := ⟨#[]⟩, run := 0, last := 0, pos := 0 }, 0, zF)
def offN (n : Nd) (l : Int) : Nd × Int × Frm :=
  if l = 0 then ({ n with run := 0 }, 0, zF)
  else if n.run + 1 < 11 then ({ n with run := n.run + 1 }, 0, zF)
  else if 0 < n.left - 1 then ({ n with run := 0, left := n.left - 1 }, 0, zF)
  else ({ n with run := 0, left := 0, cs := 0, cg := 0, ph := 0, tx := false, mild := false, fr := zF }, 6, zF)
def lessV (x : Int) : Int := if 0 < x - 1 then x - 1 else 0
def pauseN (n : Nd) (l : Int) : Nd :=
  if n.ph = 3 then (if lessV n.left = 0 then { n with ph := 4, left := 8 } else { n with left := lessV n.left })
  else if n.ph = 4 then (if l = 0 then { n with left := 8 } else if lessV n.left = 0 then { n with ph := 5, left := 3 } else { n with left := lessV n.left })
  else if n.ph = 5 then (if lessV n.left = 0 then (if n.tx = true ∧ stV n.cs n.cg = 1 then { n with left := 8, ph := 6, tx := false, fr := zF } else { n with left := 0, ph := 0, tx := false, fr := zF }) else { n with left := lessV n.left })
  else if n.ph = 6 then (if l = 0 then begN n false else if lessV n.left = 0 then { n with left := 0, ph := 0 } else { n with left := lessV n.left })
  else n
def sampN (n : Nd) (l : Int) : Nd × Int × Frm :=
  if n.ph = 0 then (if l = 1 then (n, 0, zF) else ({ begN n (decide (0 < n.box.length)) with fr := if 0 < n.box.length then nthF n.box 0 else zF }, 0, zF))
  else if n.ph = 1 then bodyN n l
  else if n.ph = 2 then tailN n l
  else if n.ph = 7 then offN n l
  else (pauseN n l, 0, zF)

/-! ### A right node, as facts. -/
structure Right (n : Nd) : Prop where
  ph : 0 ≤ n.ph ∧ n.ph ≤ 7
  run : 0 ≤ n.run ∧ n.run ≤ 11
  last : 0 ≤ n.last ∧ n.last ≤ 1
  pos : 0 ≤ n.pos ∧ n.pos ≤ 9
  left : 0 ≤ n.left ∧ n.left ≤ 128
  cnt : cOk n.cs n.cg = true
  fr : frB n.fr = true
  size : n.got.size ≤ 98
  got : okB n.got = true
  box : boxB n.box = true
  fifo : fifoB n.fifo = true
  flt : n.flt.length ≤ 8 ∧ n.flt.all flOk = true
/-- What is wanted on the wire. -/
structure Wire1 (n : Nd) : Prop where
  some : n.got.size ≠ 0
  run : 1 ≤ n.run ∧ n.run ≤ 5
  half : n.run ≠ 5 → wholeB n.got = false
  tx : n.tx = true → prefB (fullF n.fr) n.got = true ∧ hasB n.box n.fr = true
theorem bodyB_iff {n : Nd} : bodyB n = true ↔ Wire1 n := by
  constructor
  · intro h
    simp only [bodyB, Bool.and_eq_true, Bool.not_eq_true', Bool.or_eq_false_iff, decide_eq_false_iff_not, Bool.not_eq_false', rng_iff, Bool.and_eq_false_iff, Bool.or_eq_true, Bool.not_eq_true'] at h
    obtain ⟨⟨h1, h2, h3⟩, h4⟩ := h
    refine ⟨h1, h2, fun e => ?_, fun e => ?_⟩
    · rcases h3 with h3 | h3
      · exact absurd e h3
      · exact h3
    · rcases h4 with h4 | h4
      · rw [e] at h4; cases h4
      · exact h4
  · rintro ⟨h1, h2, h3, h4⟩
    simp only [bodyB, Bool.and_eq_true, Bool.not_eq_true', Bool.or_eq_false_iff, decide_eq_false_iff_not, Bool.not_eq_false', rng_iff, Bool.and_eq_false_iff, Bool.or_eq_true, Bool.not_eq_true']
    refine ⟨⟨h1, h2, ?_⟩, ?_⟩
    · by_cases e : n.run = 5
      · exact .inl (fun k => k e)
      · exact .inr (h3 e)
    · cases ht : n.tx with
      | false => exact .inl rfl
      | true => exact .inr (h4 ht)
theorem right_iff {n : Nd} : nodeB n = true ↔ Right n ∧ (n.ph = 1 → Wire1 n) := by
  constructor
  · intro h
    simp only [nodeB, numB, listB, Bool.and_eq_true, rng_iff, decide_eq_true_eq, Bool.or_eq_true, decide_eq_true_eq] at h
    obtain ⟨⟨h1, h2, h3, h4, h5, h6⟩, h7, ⟨h8, h9, h10, h11, h12, h13⟩, h14⟩ := h
    refine ⟨⟨h1, h2, h3, h4, h5, h6, h7, h8, h9, h10, h11, h12, h13⟩, fun e => ?_⟩
    rcases h14 with h | h
    · exact absurd e h
    · exact bodyB_iff.1 h
  · rintro ⟨⟨h1, h2, h3, h4, h5, h6, h7, h8, h9, h10, h11, h12, h13⟩, h14⟩
    simp only [nodeB, numB, listB, Bool.and_eq_true, rng_iff, decide_eq_true_eq, Bool.or_eq_true, decide_eq_true_eq]
    refine ⟨⟨h1, h2, h3, h4, h5, h6⟩, h7, ⟨h8, h9, h10, h11, h12, h13⟩, ?_⟩
    by_cases e : n.ph = 1
    · exact .inr (bodyB_iff.2 (h14 e))
    · exact .inl e

/-! ### The pieces. -/
theorem zF_ok : frB zF = true := by decide
theorem okB_none : okB ⟨#[]⟩ = true := by rw [okB_iff]; exact ⟨by decide, fun c hc => by cases hc⟩
theorem okB_bit0 (l : Int) : okB (bitS l) = true := by
  rw [okB_iff]; unfold bitS
  split
  · exact ⟨by decide, fun c hc => by simp at hc; subst hc; decide⟩
  · exact ⟨by decide, fun c hc => by simp at hc; subst hc; decide⟩
theorem bitS_size (l : Int) : (bitS l).size = 1 := by unfold bitS; split <;> rfl
theorem sb_ok {s g : Int} (h : cOk s g = true) : cOk (sbA s g) (swB s g) = true := by
  have k := cOk_iff.1 h
  rw [cOk_iff, sbA, swB, if_pos h, if_pos h]; split <;> omega
theorem gb_ok {s g : Int} (h : cOk s g = true) : cOk (gwA s g) (gbB s g) = true := by
  have k := cOk_iff.1 h
  rw [cOk_iff, gwA, gbB, if_pos h, if_pos h]; split <;> omega
theorem sw_ok {s g : Int} (h : cOk s g = true) : cOk (swA s g) (swB s g) = true := by
  have k := cOk_iff.1 h
  rw [cOk_iff, swA, swB, if_pos h, if_pos h]; split <;> omega
theorem gw_ok {s g : Int} (h : cOk s g = true) : cOk (gwA s g) (gwB s g) = true := by
  have k := cOk_iff.1 h
  rw [cOk_iff, gwA, gwB, if_pos h, if_pos h]; split <;> (try split) <;> omega
theorem bad_ok {n : Nd} (h : cOk n.cs n.cg = true) : cOk (badA n) (badB n) = true := by
  unfold badA badB
  cases n.tx
  · exact gb_ok h
  · exact sb_ok h
theorem rdF_ok (s : ByteArray) : frB (rdF s) = true := by
  by_cases h : rdCode s = 0
  · exact (read_back h).1
  · obtain ⟨e1, e2, e3, e4⟩ := rd_not h
    unfold rdF; rw [e1, e2, e3, e4]; exact zF_ok
theorem push_ok {L : List Frm} {f : Frm} (h : fifoB L = true) : fifoB (pushV L f).1 = true := by
  unfold pushV
  split
  · exact h
  · rename_i hc
    simp only [fifoB, Bool.and_eq_true, decide_eq_true_eq] at h ⊢
    have h1 : ¬ 32 ≤ L.length := fun e => hc (.inl e)
    have h2 : frB f = true := by
      cases e : frB f with
      | true => rfl
      | false => exact absurd (.inr e) hc
    refine ⟨by simp; omega, ?_⟩
    rw [List.all_append, h.2]; simp [h2]
theorem out_ok {L : List Frm} {r : Int} (h : boxB L = true) : boxB (outV L r) = true := by
  obtain ⟨hl, hr⟩ := boxB_iff.1 h
  have hp := pos_at (r := r) hr
  cases m : metB L r (posN L r L.length) with
  | false => rw [outV_not h hp m]; exact h
  | true =>
    rw [outV_met h hp m]
    obtain ⟨hm, -⟩ := metB_yes.1 m
    generalize posN L r L.length = p at *
    have hlen : (splL L p (p + 1) []).length = L.length - 1 := by rw [splL_len hp.1]; simp; omega
    have at_ : ∀ j, j < L.length - 1 → nthF (splL L p (p + 1) []) j = nthF L (if j < p then j else j + 1) := by
      intro j hj
      split
      · rename_i hjp; exact splL_low hp.1 hjp
      · rename_i hjp
        unfold splL
        rw [List.nil_append, nthF_right (by simp; omega), nthF_drop]
        congr 1; simp; omega
    refine boxB_yes (by omega) fun j hj => ?_
    rw [hlen] at hj
    rw [at_ j hj]
    refine ⟨(hr _ (by split <;> omega)).1, fun h0 => ?_⟩
    rw [at_ (j - 1) (by omega)]
    exact hr.lt (by split <;> split <;> omega) (by split <;> omega)
theorem not_whole {s : ByteArray} (h : okB s = true) (hw : wholeB s = false) : s.size + 1 ≤ 98 ∧ (s.size < 19 ∨ (s.size : Int) < needV s) := by
  have hb := needV_bd s
  simp only [wholeB, Bool.and_eq_false_iff, decide_eq_false_iff_not] at hw
  by_cases h19 : s.size < 19
  · exact ⟨by omega, .inl h19⟩
  · have h0 : 0 ≤ needV s := by
      rw [needV_eq h (by omega)]
      have := numV_bd (lenS s)
      split
      · split <;> omega
      · omega
    have : (s.size : Int) < needV s := by omega
    exact ⟨by omega, .inr this⟩
theorem half_short {s : ByteArray} (h : s.size < 19) : wholeB s = false := by simp [wholeB, needV_short h]
theorem full_needs {f : Frm} (h : frB f = true) : wholeB (fullF f) = true := by
  have e := (read_said (show frOk f.id f.rm f.ln f.D = true from h)).2.2.2.2.2
  have e' : needV (fullF f) = (fullF f).size := e
  simp only [wholeB, Bool.and_eq_true, decide_eq_true_eq]
  omega
theorem pref_short {f : Frm} {s : ByteArray} (h : frB f = true) (hp : prefB (fullF f) s = true) (hw : wholeB s = false) : s.size < (fullF f).size := by
  simp only [prefB, Bool.and_eq_true, decide_eq_true_eq] at hp
  obtain ⟨h1, h2⟩ := hp
  by_cases e : s.size = (fullF f).size
  · exfalso
    rw [e] at h2
    have h3 : (fullF f).extract 0 (fullF f).size = fullF f := by
      apply ba_inj; rw [front_list]; exact List.take_of_length_le (Nat.le_refl _)
    rw [h3] at h2
    rw [← h2, full_needs h] at hw
    cases hw
  · omega
theorem pref_next {f : Frm} {s : ByteArray} {l : Int} (h : frB f = true) (hp : prefB (fullF f) s = true) (hw : wholeB s = false) (hl : l = ((byteAt (fullF f) s.size).toNat : Int) - 48) : prefB (fullF f) (s ++ bitS l) = true := by
  have hs := pref_short h hp hw
  have hb := full_bit h hs
  simp only [prefB, Bool.and_eq_true, decide_eq_true_eq] at hp ⊢
  obtain ⟨h1, h2⟩ := hp
  have hz : (s ++ bitS l).size = s.size + 1 := by rw [ByteArray.size_append, bitS_size]
  refine ⟨by omega, ?_⟩
  rw [hz]
  have hbit : (bitS l).data.toList = [byteAt (fullF f) s.size] := by
    rcases hb with e | e <;> rw [e] at hl ⊢ <;> subst hl <;> rfl
  apply ba_inj
  have hlen : s.size < (fullF f).data.toList.length := hs
  have e2 := congrArg (fun b : ByteArray => b.data.toList) h2
  simp only [front_list] at e2
  rw [front_list, append_toList, hbit, List.take_succ_eq_append_getElem hlen, e2]
  congr 2
  exact byteAt_eq hs
theorem whole_right {n : Nd} (R : Right n) (h0 : n.got.size ≠ 0) (h1 : 1 ≤ n.run ∧ n.run ≤ 5) (ht : n.tx = true → prefB (fullF n.fr) n.got = true ∧ hasB n.box n.fr = true) : nodeB (wholeN n) = true := by
  unfold wholeN
  split
  · exact right_iff.2 ⟨⟨by simp, R.run, R.last, by simp, by simp, R.cnt, R.fr, R.size, R.got, R.box, R.fifo, R.flt⟩, fun e => by simp at e⟩
  · rename_i hc
    refine right_iff.2 ⟨R, fun _ => ⟨h0, h1, fun e => ?_, ht⟩⟩
    cases hw : wholeB n.got with
    | false => rfl
    | true => exact absurd ⟨hw, e⟩ hc
theorem brk_right {n : Nd} (R : Right n) : nodeB (brkN n).1 = true := by
  have hc := bad_ok R.cnt
  unfold brkN
  split
  · exact right_iff.2 ⟨⟨by simp, by simp, by simp, by simp, by simp, hc, R.fr, (show (0:Nat) ≤ 98 by omega), okB_none, R.box, R.fifo, R.flt⟩, fun e => by simp at e⟩
  · exact right_iff.2 ⟨⟨by simp, by simp, by simp, by simp, by simp, hc, R.fr, (show (0:Nat) ≤ 98 by omega), okB_none, R.box, R.fifo, R.flt⟩, fun e => by simp at e⟩
theorem hear_right {n : Nd} {l : Int} (R : Right n) (hl : l = 0 ∨ l = 1) (W : Wire1 n) (h5 : n.run ≠ 5) (ht : n.tx = true → l = nextV n) : nodeB (wholeN (hearN n l)) = true := by
  have hw := W.half h5
  have hs := not_whole R.got hw
  have hz : (n.got ++ bitS l).size = n.got.size + 1 := by rw [ByteArray.size_append, bitS_size]
  have hrun : 1 ≤ (hearN n l).run ∧ (hearN n l).run ≤ 5 := by
    have := W.run
    simp only [hearN]; split <;> omega
  refine whole_right ⟨R.ph, by omega, by simp only [hearN]; omega, R.pos, R.left, R.cnt, R.fr, by simp only [hearN]; omega, ?_, R.box, R.fifo, R.flt⟩ (by simp only [hearN]; omega) hrun fun e => ?_
  · simp only [hearN]
    rw [okB_append R.got (okB_bit0 l), bitS_size]
    simp only [decide_eq_true_eq]; omega
  · obtain ⟨hp, hb⟩ := W.tx e
    refine ⟨pref_next R.fr hp hw ?_, hb⟩
    have := pref_short R.fr hp hw
    rw [ht e, nextV, if_neg h5, if_neg (by omega)]
    rfl
theorem body_right {n : Nd} {l : Int} (R : Right n) (hl : l = 0 ∨ l = 1) (W : Wire1 n) : nodeB (bodyN n l).1 = true := by
  unfold bodyN
  split
  · rename_i h5
    split
    · exact brk_right R
    · exact whole_right ⟨R.ph, by simp, by simp only []; omega, R.pos, R.left, R.cnt, R.fr, R.size, R.got, R.box, R.fifo, R.flt⟩ W.some (by simp) W.tx
  · rename_i h5
    split
    · split
      · exact brk_right R
      · exact hear_right (n := { n with tx := false }) ⟨R.ph, R.run, R.last, R.pos, R.left, R.cnt, R.fr, R.size, R.got, R.box, R.fifo, R.flt⟩ hl ⟨W.some, W.run, W.half, fun e => by cases e⟩ h5 (fun e => by cases e)
    · rename_i hc
      refine hear_right R hl W h5 fun e => ?_
      by_cases k : l = nextV n
      · exact k
      · exact absurd ⟨e, k⟩ hc
theorem heard_right {n : Nd} (R : Right n) (h2 : n.ph = 2) : nodeB (heardN n).1 = true := by
  unfold heardN
  split
  · exact right_iff.2 ⟨⟨R.ph, R.run, R.last, by simp, R.left, gw_ok R.cnt, R.fr, R.size, R.got, R.box, push_ok R.fifo, R.flt⟩, fun e => by simp only [] at e; omega⟩
  · exact right_iff.2 ⟨⟨R.ph, R.run, R.last, by simp, R.left, gw_ok R.cnt, R.fr, R.size, R.got, R.box, R.fifo, R.flt⟩, fun e => by simp only [] at e; omega⟩
theorem tail_right {n : Nd} {l : Int} (R : Right n) (h2 : n.ph = 2) : nodeB (tailN n l).1 = true := by
  have hp := R.pos
  unfold tailN
  split
  · exact brk_right R
  split
  · split
    · exact heard_right R h2
    · exact right_iff.2 ⟨⟨R.ph, R.run, R.last, by simp only []; omega, R.left, R.cnt, R.fr, R.size, R.got, R.box, R.fifo, R.flt⟩, fun e => by simp only [] at e; omega⟩
  split
  · exact right_iff.2 ⟨⟨by simp, by simp, by simp, by simp, by simp, sw_ok R.cnt, R.fr, (show (0:Nat) ≤ 98 by omega), okB_none, out_ok R.box, R.fifo, R.flt⟩, fun e => by simp at e⟩
  · exact right_iff.2 ⟨⟨by simp, by simp, by simp, by simp, by simp, R.cnt, R.fr, (show (0:Nat) ≤ 98 by omega), okB_none, R.box, R.fifo, R.flt⟩, fun e => by simp at e⟩
theorem off_right {n : Nd} {l : Int} (R : Right n) (h7 : n.ph = 7) : nodeB (offN n l).1 = true := by
  have hr := R.run
  have hf := R.left
  unfold offN
  split
  · exact right_iff.2 ⟨⟨R.ph, by simp, R.last, R.pos, R.left, R.cnt, R.fr, R.size, R.got, R.box, R.fifo, R.flt⟩, fun e => by simp only [] at e; omega⟩
  split
  · exact right_iff.2 ⟨⟨R.ph, by simp only []; omega, R.last, R.pos, R.left, R.cnt, R.fr, R.size, R.got, R.box, R.fifo, R.flt⟩, fun e => by simp only [] at e; omega⟩
  split
  · exact right_iff.2 ⟨⟨R.ph, by simp, R.last, R.pos, by simp only []; omega, R.cnt, R.fr, R.size, R.got, R.box, R.fifo, R.flt⟩, fun e => by simp only [] at e; omega⟩
  · exact right_iff.2 ⟨⟨by simp, by simp, R.last, R.pos, by simp, (show cOk 0 0 = true by decide), zF_ok, R.size, R.got, R.box, R.fifo, R.flt⟩, fun e => by simp at e⟩
theorem half_one : wholeB ⟨#[48]⟩ = false := half_short (by decide)
theorem okB_one : okB ⟨#[48]⟩ = true := okB_bit0 0
theorem beg_right {n : Nd} {tx : Bool} (R : Right n) (ht : tx = true → prefB (fullF n.fr) ⟨#[48]⟩ = true ∧ hasB n.box n.fr = true) : nodeB (begN n tx) = true :=
  right_iff.2 ⟨⟨by simp [begN], by simp [begN], by simp [begN], R.pos, by simp [begN], R.cnt, R.fr, (show (1:Nat) ≤ 98 by omega), okB_one, R.box, R.fifo, R.flt⟩, fun _ => ⟨(show (1:Nat) ≠ 0 by omega), by simp [begN], fun _ => half_one, ht⟩⟩
theorem less_bd {x : Int} (h : 0 ≤ x ∧ x ≤ 128) : 0 ≤ lessV x ∧ lessV x ≤ 128 := by unfold lessV; split <;> omega
theorem pause_right {n : Nd} {l : Int} (R : Right n) (h0 : n.ph ≠ 1) : nodeB (pauseN n l) = true := by
  have hf := less_bd R.left
  have same : ∀ x, 0 ≤ x ∧ x ≤ 128 → nodeB { n with left := x } = true := fun x hx => right_iff.2 ⟨⟨R.ph, R.run, R.last, R.pos, hx, R.cnt, R.fr, R.size, R.got, R.box, R.fifo, R.flt⟩, fun e => absurd e h0⟩
  have goes : ∀ p x, (0 ≤ p ∧ p ≤ 7) → p ≠ 1 → 0 ≤ x ∧ x ≤ 128 → nodeB { n with ph := p, left := x } = true := fun p x hp h1 hx => right_iff.2 ⟨⟨hp, R.run, R.last, R.pos, hx, R.cnt, R.fr, R.size, R.got, R.box, R.fifo, R.flt⟩, fun e => absurd e h1⟩
  have end_ : ∀ p x, (0 ≤ p ∧ p ≤ 7) → p ≠ 1 → 0 ≤ x ∧ x ≤ 128 → nodeB { n with left := x, ph := p, tx := false, fr := zF } = true := fun p x hp h1 hx => right_iff.2 ⟨⟨hp, R.run, R.last, R.pos, hx, R.cnt, zF_ok, R.size, R.got, R.box, R.fifo, R.flt⟩, fun e => absurd e h1⟩
  unfold pauseN
  split
  · split
    · exact goes 4 8 (by omega) (by omega) (by omega)
    · exact same _ hf
  split
  · split
    · exact same 8 (by omega)
    split
    · exact goes 5 3 (by omega) (by omega) (by omega)
    · exact same _ hf
  split
  · split
    · split
      · exact end_ 6 8 (by omega) (by omega) (by omega)
      · exact end_ 0 0 (by omega) (by omega) (by omega)
    · exact same _ hf
  split
  · split
    · exact beg_right R (fun e => by cases e)
    split
    · exact goes 0 0 (by omega) (by omega) (by omega)
    · exact same _ hf
  · exact right_iff.2 ⟨R, fun e => absurd e h0⟩
theorem first_bit {f : Frm} (h : frB f = true) : prefB (fullF f) ⟨#[48]⟩ = true := by
  have hs := full_size (show frOk f.id f.rm f.ln f.D = true from h)
  have hL := full_list (show frOk f.id f.rm f.ln f.D = true from h)
  have hz : (⟨#[48]⟩ : ByteArray).size = 1 := rfl
  have hs' : (fullF f).size = 34 + 8 * f.D.length := hs
  simp only [prefB, Bool.and_eq_true, decide_eq_true_eq]
  refine ⟨by omega, ?_⟩
  apply ba_inj
  rw [front_list, hz]
  show ((fullV f.id f.rm f.ln f.D).data.toList.take 1) = [48]
  rw [hL]; rfl
theorem same_self (f : Frm) : sameF f f = true := by simp [sameF, sameFr]
theorem has_first {L : List Frm} (h : boxB L = true) (h0 : 0 < L.length) : frB (nthF L 0) = true ∧ hasB L (nthF L 0) = true := by
  obtain ⟨hl, hr⟩ := boxB_iff.1 h
  exact ⟨rkF_ok (hr 0 h0).1, by rw [hasB_hit hr h0 rfl]; exact same_self _⟩
/-- A right node stays right. -/
theorem samp_right {n : Nd} {l : Int} (h : nodeB n = true) (hl : l = 0 ∨ l = 1) : nodeB (sampN n l).1 = true := by
  obtain ⟨R, W⟩ := right_iff.1 h
  unfold sampN
  split
  · split
    · exact h
    · by_cases h0 : 0 < n.box.length
      · obtain ⟨hf, hh⟩ := has_first R.box h0
        have e : (if 0 < n.box.length then nthF n.box 0 else zF) = nthF n.box 0 := if_pos h0
        simp only [e]
        exact beg_right (n := { n with fr := nthF n.box 0 }) ⟨R.ph, R.run, R.last, R.pos, R.left, R.cnt, hf, R.size, R.got, R.box, R.fifo, R.flt⟩ (fun _ => ⟨first_bit hf, hh⟩)
      · have e : (if 0 < n.box.length then nthF n.box 0 else zF) = zF := if_neg h0
        have e2 : decide (0 < n.box.length) = false := by simpa using h0
        simp only [e, e2]
        exact beg_right (n := { n with fr := zF }) ⟨R.ph, R.run, R.last, R.pos, R.left, R.cnt, zF_ok, R.size, R.got, R.box, R.fifo, R.flt⟩ (fun e => by cases e)
  split
  · rename_i h1; exact body_right R hl (W h1)
  split
  · rename_i h2; exact tail_right R h2
  split
  · rename_i h7; exact off_right R h7
  · rename_i h1 _ _; exact pause_right R h1
end Go.Proofs.YtngcekegngmedaaGreatDoor

/- What a node does with a frame that is put in its box, plain; a right node stays right. -/

set_option linter.unusedVariables false
set_option linter.unusedSimpArgs false
set_option maxRecDepth 20000
namespace Go.Proofs.YtngcekegngmedaaGreatDoor
open Go.RowKit

theorem rk_neg {f : Frm} (h : frB f = false) : rkF f = -1 := by
  unfold rkF rankV
  rw [if_neg (by rw [show frOk f.id f.rm f.ln f.D = false from h]; decide)]
end Go.Proofs.YtngcekegngmedaaGreatDoor

/- A node as it comes in: what the reading of the argument says of the memory. -/

set_option linter.unusedVariables false
set_option linter.unusedSimpArgs false
set_option maxRecDepth 20000
namespace Go.Proofs.YtngcekegngmedaaGreatDoor
open Go.ChangeShapes Go.WideShapes Go.ChangeAt Go.RowKit Go.Joins

theorem cellsNode : Tryz.prog.cellsOf 83 = 18 := by kernel_rfl
theorem oneStr : Tryz.prog.cellsOf 9 = 1 := by kernel_rfl
theorem oneFrs : Tryz.prog.cellsOf 80 = 1 := by kernel_rfl
theorem oneFls : Tryz.prog.cellsOf 81 = 1 := by kernel_rfl
theorem twoCnt : Tryz.prog.cellsOf 79 = 2 := by kernel_rfl
set_option maxHeartbeats 4000000 in
/-- The cells of a node, opened. -/
theorem node_cells {H : Type} {enc : TypeId × Value → H} {w : World} {base m : Nat} {cs : List Value} {y : DataW H × List MemPlace}
    (h : DataW.trod enc Tryz.prog w base (fun _ => true) true m 83 cs = some y) : ∃ n p, cs = (ndC n p).toList ∧ NdM n p w := by
  obtain ⟨xs, k, _, _, hl, hxl, hf⟩ := DataW.trod_struct Tryz.underlying83 h
  have hl18 : cs.length = 18 := hl.trans cellsNode
  have hx14 : xs.length = 14 := hxl
  match cs, hl18, xs, hx14 with
  | [c0, c1, c2, c3, c4, c5, c6, c7, c8, c9, c10, c11, c12, c13, c14, c15, c16, c17], _, [y0, y1, y2, y3, y4, y5, y6, y7, y8, y9, y10, y11, y12, y13], _ =>
    have g0 := hf 0 _ rfl
    have g1 := hf 1 _ rfl
    have g2 := hf 2 _ rfl
    have g3 := hf 3 _ rfl
    have g4 := hf 4 _ rfl
    have g5 := hf 5 _ rfl
    have g6 := hf 6 _ rfl
    have g7 := hf 7 _ rfl
    have g8 := hf 8 _ rfl
    have g9 := hf 9 _ rfl
    have g10 := hf 10 _ rfl
    have g11 := hf 11 _ rfl
    have g12 := hf 12 _ rfl
    have g13 := hf 13 _ rfl
    clear hf hl hxl h
    simp [one64, oneBool, oneStr, oneFrs, oneFls, twoCnt, cellsFrame] at g0 g1 g2 g3 g4 g5 g6 g7 g8 g9 g10 g11 g12 g13
    obtain ⟨ph, e0, -, -⟩ := DataW.trod_int Tryz.underlying2 g0
    obtain ⟨tx, e1, -⟩ := DataW.trod_bool Tryz.underlying4 g1
    obtain ⟨mild, e2, -⟩ := DataW.trod_bool Tryz.underlying4 g2
    obtain ⟨bad, e3, -⟩ := DataW.trod_bool Tryz.underlying4 g3
    obtain ⟨id, rm, ln, ad, D, cd, e4, hn⟩ := frame_cells g4
    obtain ⟨got, e5, -, hg⟩ := DataW.trod_string Tryz.underlying9 g5
    obtain ⟨run, e6, -, -⟩ := DataW.trod_int Tryz.underlying2 g6
    obtain ⟨last, e7, -, -⟩ := DataW.trod_int Tryz.underlying2 g7
    obtain ⟨pos, e8, -, -⟩ := DataW.trod_int Tryz.underlying2 g8
    obtain ⟨left, e9, -, -⟩ := DataW.trod_int Tryz.underlying2 g9
    obtain ⟨z0, z1, k2, _, hl2, j0, j1⟩ := Go.ChangeShapes.trod_struct2 Tryz.underlying79 g10
    simp [one64] at j0 j1
    obtain ⟨cs0, e10, -, -⟩ := DataW.trod_int Tryz.underlying2 j0
    obtain ⟨cg0, e11, -, -⟩ := DataW.trod_int Tryz.underlying2 j1
    obtain ⟨ab, LB, cb, e12, hB⟩ := frames_open g11
    obtain ⟨af, LF, cf, e13, hF⟩ := frames_open g12
    obtain ⟨al, LL, cl, e14, hL⟩ := filters_open g13
    simp only [List.cons.injEq, and_true] at e0 e1 e2 e3 e4 e5 e6 e7 e8 e9 e10 e11 e12 e13 e14
    obtain ⟨rfl, rfl, rfl, rfl⟩ := e4
    subst e0 e1 e2 e3 e5 e6 e7 e8 e9 e10 e11 e12 e13 e14
    exact ⟨⟨ph, tx, mild, bad, ⟨id, rm, ln, D⟩, got, run, last, pos, left, cs0, cg0, LB, LF, LL⟩, ⟨ad, cd, ab, cb, af, cf, al, cl⟩, rfl, hn, hB, hF, hL, hg⟩
/-- A node by value, opened. -/
theorem node_open {H : Type} {enc : TypeId × Value → H} {w : World} {r : Reach} {b0 base : Nat} {v : Value} {d : DataW H} {p : List MemPlace}
    (hv : Value.okWide Tryz.prog w r b0 83 v) (h : DataW.Trod enc Tryz.prog w base (fun _ => true) true 83 v d p) : ∃ n q, v = ndV n q ∧ NdM n q w := by
  obtain ⟨cs, rfl, hsz⟩ := okWide_struct Tryz.underlying83 hv
  obtain ⟨fuel, hf⟩ := h
  obtain ⟨n, q, hcs, hm⟩ := node_cells hf
  refine ⟨n, q, ?_, hm⟩
  have : cs.toList = (ndC n q).toList := hcs
  rw [show cs = ndC n q from Array.toList_inj.1 this]
end Go.Proofs.YtngcekegngmedaaGreatDoor
