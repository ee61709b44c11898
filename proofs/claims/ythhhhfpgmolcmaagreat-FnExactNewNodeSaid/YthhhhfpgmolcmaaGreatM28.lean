/- NewNode, of the program and of the model: a still node with a copy of the filters, or the zero node. -/
import Derived.Test.YthhhhfpgmolcmaaGreatM21
import Derived.Test.YthhhhfpgmolcmaaGreatM23
import Derived.Test.YthhhhfpgmolcmaaGreatM13
import Derived.Test.YthhhhfpgmolcmaaGreatM9
import Derived.Test.YthhhhfpgmolcmaaGreatM19

set_option linter.unusedVariables false
set_option linter.unusedSimpArgs false
set_option maxRecDepth 20000
namespace Go.Proofs.YthhhhfpgmolcmaaGreat
open Go.RowKit

/-- A new node with these filters; whether it is right. -/
def znd (L : List (Int × Int)) : Nd := ⟨0, false, false, false, ⟨0, false, 0, []⟩, ⟨#[]⟩, 0, 0, 0, 0, 0, 0, [], [], L⟩
def zp (al : Option Addr) (cl : Nat) : NdP := ⟨none, 0, none, 0, none, 0, al, cl⟩
def newB (L : List (Int × Int)) : Bool := decide (L.length ≤ 8) && L.all flOk
def newL (L : List (Int × Int)) : List (Int × Int) := if newB L = true then L else []
theorem nodeB_new (L : List (Int × Int)) : nodeB (znd L) = newB L := by
  have h1 : numB (znd L) = true := rfl
  have h2 : frB (znd L).fr = true := rfl
  have h3 : okB (znd L).got = true := rfl
  have h4 : boxB (znd L).box = true := boxB_yes (by simp [znd]) (Rise.zero _)
  have h5 : fifoB (znd L).fifo = true := rfl
  have h6 : decide ((znd L).ph ≠ 1) = true := rfl
  have h7 : decide ((znd L).got.size ≤ 98) = true := rfl
  rw [nodeB, h1, h2, listB, h7, h3, h4, h5, h6]
  simp only [Bool.true_and, Bool.true_or, Bool.and_true]
  rfl
/-- A node goes, whole, into the block that was made last, whatever its number is called. -/
theorem wpList_layAt {n : Nd} {p : NdP} {w W : World} {C : Array Value} {g : Nat} {ops : Array Oper} {rest : List Oper} {o : Oper} {a : Act} {Q : Exit → Act → World → Prop} {x y : Operand} (ho : o.op = .store 33 x y) (hg : o.guard = none) (hW : W = w.alloc (.cells C 33))
    (hx : a.eval x = .pointer (some ⟨g, 0, none⟩)) (hy : a.eval y = ndV n p) (hC : C.size = 18) (hs : w.heap.size = g) (k : wpList Tryz.prog ops Q rest (a.put o.dst undef) (w.alloc (.cells (ndC n p) 33))) : wpList Tryz.prog ops Q (o :: rest) a W := by
  subst hs
  exact wpList_lay ho hg hW hx hy hC k
theorem Nums.nil (w : World) : Nums none [] w := ⟨Nat.zero_le _, by simp, fun j hj => absurd hj (by simp)⟩
theorem Frs.nil (a : Option Addr) (w : World) : Frs a [] w := ⟨Nat.zero_le _, fun j hj => absurd hj (by simp)⟩
theorem NdM.new {L : List (Int × Int)} {al : Option Addr} {w : World} (h : Fls al L w) (cl : Nat) : NdM (znd L) (zp al cl) w := ⟨Nums.nil w, Frs.nil _ w, Frs.nil _ w, h, Nat.zero_le _⟩

/-- The node that is being made, and the result's block. -/
structure N2 (g gr : Nat) (C : Array Value) (w0 w : World) : Prop where
  blk : w.heap[g]? = some (.cells C 33 (0, 0))
  res : w.heap[gr]? = some (.cells ndZ 33 (0, 0))
  bel : Below w0.heap.size w0 w
  hg : w0.heap.size ≤ g
  hr : w0.heap.size ≤ gr
  nr : gr ≠ g
section
variable {g gr : Nat} {C : Array Value} {w w' w0 : World}
theorem N2.lt (h : N2 g gr C w0 w) : g < w.heap.size ∧ gr < w.heap.size := ⟨(Array.getElem?_eq_some_iff.1 h.blk).1, (Array.getElem?_eq_some_iff.1 h.res).1⟩
theorem N2.below (h : N2 g gr C w0 w) (b : Below w.heap.size w w') : N2 g gr C w0 w' := ⟨(b.block g h.lt.1).trans h.blk, (b.block gr h.lt.2).trans h.res, Below.then2 h.bel b, h.hg, h.hr, h.nr⟩
theorem N2.set (h : N2 g gr C w0 w) (k : Nat) (v : Value) : N2 g gr (C.setIfInBounds k v) w0 (w.setCell ⟨g, k, none⟩ v) :=
  ⟨heap_setCell_same w g k _ _ v h.blk, (heap_setCell_other w ⟨g, k, none⟩ gr v h.nr).trans h.res, h.bel.setCell h.hg _, h.hg, h.hr, h.nr⟩
theorem N2.fin (h : N2 g gr C w0 w) (D : Array Value) : (w.setRow gr D).heap[gr]? = some (.cells D 33 (0, 0)) ∧ w.grownBy (w.setRow gr D) (some gr) ∧ Below w0.heap.size w0 (w.setRow gr D) :=
  ⟨setRow_heap _ _ _ _ _ _ h.res, ⟨rfl, rfl, rfl, by simp, fun k hk hne => setRow_other w gr k D (fun e => hne (by rw [e]))⟩, below_setRow h.bel h.hr D⟩
end
/-- Two blocks, the result's and then the node's. -/
theorem N2.made (D : Array Value) (w : World) : N2 (w.heap.size + 1) w.heap.size D w ((w.alloc (.cells ndZ 33)).alloc (.cells D 33)) := by
  have s1 : (w.alloc (.cells ndZ 33)).heap.size = w.heap.size + 1 := by simp
  have b1 : Below w.heap.size w (w.alloc (.cells ndZ 33)) := below_more (Below.refl _ _) _
  have b2 := below_more b1 (.cells D 33)
  have k1 : Below (w.heap.size + 1) (w.alloc (.cells ndZ 33)) ((w.alloc (.cells ndZ 33)).alloc (.cells D 33)) := by rw [← s1]; exact below_more (Below.refl _ _) _
  refine ⟨by rw [← s1]; exact heap_alloc_new _ _, ?_, b2, by omega, by omega, by omega⟩
  rw [k1.block _ (by omega)]
  exact heap_alloc_new w _
/-- What a new node is. -/
def NewR (L : List (Int × Int)) (w : World) (e : Ending) (w' : World) : Prop :=
  ∃ (al : Option Addr) (cl : Nat), e = .returned (.tuple #[ndV (znd (newL L)) (zp al cl), .bool (newB L)]) ∧ OwnP w.heap.size (newL L) (.slice al (newL L).length cl) w' ∧ Below w.heap.size w w'
theorem ownP_nil (B : Nat) (w : World) : OwnP B [] (.slice none 0 0) w := ⟨rfl, .inl ⟨rfl, rfl⟩⟩

theorem results_node {fn : Func} {p q : Tmp} (h : fn.results = #[.cell p 33, .tmp q]) (tmps : Array Value) (w : World) (g : Nat) (C : Array Value) (b : Value) (hp : tmps.getD p undef = .pointer (some ⟨g, 0, none⟩)) (hq : tmps.getD q undef = b)
    (hg : w.heap[g]? = some (.cells C 33 (0, 0))) (hC : C.size = 18) : (results fn tmps).run Tryz.prog w = .ok (.tuple #[.agg C, b]) w := by
  have hp' : tmps[p]?.getD undef = .pointer (some ⟨g, 0, none⟩) := by simpa using hp
  have hq' : tmps[q]?.getD undef = b := by simpa using hq
  have hl := run_loadVar_row (P := Tryz.prog) w g 33 33 C (0, 0) _ hg Tryz.underlying33 rfl (by rw [hC]; kernel_rfl)
  simp [results, h, hp', hq', asAddr, hl]
set_option maxHeartbeats 4000000 in
/-- impl.NewNode. -/
theorem implNewNode (a : Option Addr) (L : List (Int × Int)) (c : Nat) (w : World) (hd : Fls a L w) (h : L.length ≤ 1048576) :
    Calls Tryz.prog 10 #[.slice a L.length c] w (NewR L w) := by
  have X := N2.made (ndC (znd L) (zp a c)) w
  go_enter Tryz.func10, Tryz.ntmps10
  go_upto_region 2 with (skip; refine wpList_layAt (w := w.alloc (.cells ndZ 33)) (n := znd L) (p := zp a c) (C := ndZ) (g := w.heap.size + 1) (by rfl) (by rfl) (by rfl) (by rfl) (by rfl) (by rfl) (by simp) ?_)
  generalize World.alloc _ _ = W at X ⊢
  have hgr : w.heap.size ≤ w.heap.size := Nat.le_refl _
  generalize w.heap.size + 1 = g at X ⊢
  generalize hwr : w.heap.size = gr at X ⊢
  have hF := hd.below X.bel
  have Z : Nx g (znd L) (zp a c) w W := ⟨X.blk, X.bel⟩
  go_wp2_with (refine Z.take rfl rfl rfl ?_)
  refine (implNodeOk (znd L) (zp a c) _ (NdM.new hF c)).mono ?_
  rintro e w1 ⟨rfl, b⟩
  rw [nodeB_new]
  replace X := X.below b
  replace hF := hF.below b
  clear b Z
  cases hnb : newB L
  · have HL : newL L = [] := by rw [newL, hnb]; rfl
    obtain ⟨Z1, Z2, Z3⟩ := X.fin ndZ
    go_wp2_with (skip; refine wpList_store_row (by rfl) 33 _ _ (by rfl) gr ndZ (by rfl) (by rfl) 33 ndZ X.res (by kernel_rfl) (by rfl) (by simp [Value.oneCell']) ?_)
    refine bodyPost_ret (v := .tuple #[ndV (znd []) (zp none 0), .bool false]) ?_ rfl ⟨none, 0, by rw [HL, hnb], by rw [HL]; exact ownP_nil _ _, Z3⟩
    exact results_node Tryz.results10 _ _ gr ndZ _ rfl rfl Z1 rfl
  · have HL : newL L = L := by rw [newL, hnb]; rfl
    go_wp2_with fail
    refine (copiedFlts a L c _ hF h).mono ?_
    rintro e w2 ⟨gl, rfl, OL, b⟩
    have hlt := X.lt
    have hsz := X.bel.size
    replace X := X.below b
    clear b hF
    have c17 : w2.cell? ⟨g, 17, none⟩ = some (.slice a L.length c) := cell_of_row w2 g 17 _ _ _ X.blk
    have f17 := frozen_of_row w2 g 17 _ _ X.blk
    change _
    go_upto_region 5 with fail
    replace X : N2 g gr (ndC (znd L) (zp (some ⟨gl, 0, none⟩) L.length)) w _ := X.set 17 (.slice (some ⟨gl, 0, none⟩) L.length L.length)
    replace OL := OL.kept2 (grown_at_cell _ g 17 (.slice (some ⟨gl, 0, none⟩) L.length L.length)) hlt.1
    clear c17 f17
    generalize w2.setCell ⟨g, 17, none⟩ (.slice (some ⟨gl, 0, none⟩) L.length L.length) = W3 at *
    obtain ⟨Z1, Z2, Z3⟩ := X.fin (ndC (znd L) (zp (some ⟨gl, 0, none⟩) L.length))
    replace OL := (OL.kept2 Z2 hlt.2).mono hsz
    have Z : Nx g (znd L) (zp (some ⟨gl, 0, none⟩) L.length) w W3 := ⟨X.blk, X.bel⟩
    go_wp2_with (first
      | (refine Z.take rfl rfl rfl ?_)
      | (skip; refine wpList_store_row (by rfl) 33 _ _ (by rfl) gr (ndC (znd L) (zp (some ⟨gl, 0, none⟩) L.length)) (by rfl) (by rfl) 33 ndZ X.res (by kernel_rfl) (by rfl) (ndC_one _ _) ?_))
    refine bodyPost_ret (v := .tuple #[ndV (znd L) (zp (some ⟨gl, 0, none⟩) L.length), .bool true]) ?_ rfl ⟨some ⟨gl, 0, none⟩, L.length, by rw [HL, hnb], by rw [HL]; exact OL, Z3⟩
    exact results_node Tryz.results10 _ _ gr _ _ rfl rfl Z1 rfl
set_option maxHeartbeats 4000000 in
/-- spec.NewNode. -/
theorem specNewNode (a : Option Addr) (L : List (Int × Int)) (c : Nat) (w : World) (hd : Fls a L w) (hnil : a = none → c = 0) (h : L.length ≤ 1048576) :
    Calls Tryz.prog 11 #[.slice a L.length c] w (NewR L w) := by
  have s1 : (w.alloc (.cells ndZ 33)).heap.size = w.heap.size + 1 := by simp
  have b1 : Below w.heap.size w (w.alloc (.cells ndZ 33)) := below_more (Below.refl _ _) _
  have b2 := below_more b1 (.cells #[] 64)
  have HG := heap_alloc_new (w.alloc (.cells ndZ 33)) (.cells #[] 64)
  have HR : ((w.alloc (.cells ndZ 33)).alloc (.cells #[] 64)).heap[w.heap.size]? = some (.cells ndZ 33 (0, 0)) := by
    have k1 : Below (w.heap.size + 1) (w.alloc (.cells ndZ 33)) ((w.alloc (.cells ndZ 33)).alloc (.cells #[] 64)) := by rw [← s1]; exact below_more (Below.refl _ _) _
    rw [k1.block _ (by omega)]
    exact heap_alloc_new w _
  rw [s1] at HG
  have hF := hd.below b2
  go_enter Tryz.func11, Tryz.ntmps11
  go_wp2_with (at_builtin; skip; refine wpList_newP _ _ (by rfl) (by rfl) (w.heap.size + 1) (by rfl) a L c (by rfl) HG hF hnil (by omega) ?_)
  intro al cl w2 OL k
  generalize World.alloc _ _ = W0 at HG HR hF b2 k
  have hsz2 := b2.size
  have hlg := (Array.getElem?_eq_some_iff.1 HG).1
  have hlr := (Array.getElem?_eq_some_iff.1 HR).1
  have hw2 := k.size
  have b3 := b2.grown k b2.size (fun q e => by cases e; omega)
  have X : N2 w2.heap.size w.heap.size (ndC (znd L) (zp al cl)) w (w2.alloc (.cells (ndC (znd L) (zp al cl)) 33)) := by
    refine ⟨heap_alloc_new _ _, ?_, below_more b3 _, by omega, by omega, by omega⟩
    have kb : Below w2.heap.size w2 (w2.alloc (.cells (ndC (znd L) (zp al cl)) 33)) := below_more (Below.refl _ _) _
    rw [kb.block _ (by omega), k.block _ hlr (by simp)]
    exact HR
  have OL' := (OL.below (below_more (Below.refl _ _) (.cells (ndC (znd L) (zp al cl)) 33))).mono (show w.heap.size ≤ w.heap.size + 1 by omega)
  have OLw : ∀ q, (Value.slice al L.length cl).ownBlock = some q → w.heap.size + 1 ≤ q := fun q hq => OL.low hq
  clear hF HG HR b1 b2 s1 k b3 hsz2 hlg OL
  go_upto_region 2 with (skip; refine wpList_lay (w := w2) (n := znd L) (p := zp al cl) (C := ndZ) (by rfl) (by rfl) (by rfl) (by rfl) (by rfl) (by rfl) ?_)
  generalize World.alloc _ _ = W at X OL' ⊢
  have hgg : w.heap.size < w2.heap.size := by omega
  generalize w2.heap.size = g at X hgg ⊢
  have hF := (OL'.flsAt (by omega)).2
  have Z : Nx g (znd L) (zp al cl) w W := ⟨X.blk, X.bel⟩
  generalize hwr : w.heap.size = gr at X hgg ⊢
  go_wp2_with (refine Z.take rfl rfl rfl ?_)
  refine (specNodeOk (znd L) (zp al cl) _ (NdM.new hF cl)).mono ?_
  rintro e w1 ⟨rfl, b⟩
  rw [nodeB_new]
  replace X := X.below b
  replace OL' := OL'.below b
  clear b Z hF
  cases hnb : newB L
  · have HL : newL L = [] := by rw [newL, hnb]; rfl
    obtain ⟨Z1, Z2, Z3⟩ := X.fin ndZ
    go_wp2_with (skip; refine wpList_store_row (by rfl) 33 _ _ (by rfl) gr ndZ (by rfl) (by rfl) 33 ndZ X.res (by kernel_rfl) (by rfl) (by simp [Value.oneCell']) ?_)
    refine bodyPost_ret (v := .tuple #[ndV (znd []) (zp none 0), .bool false]) ?_ rfl ⟨none, 0, by rw [HL, hnb], by rw [HL]; exact ownP_nil _ _, Z3⟩
    exact results_node Tryz.results11 _ _ gr ndZ _ rfl rfl Z1 rfl
  · have HL : newL L = L := by rw [newL, hnb]; rfl
    obtain ⟨Z1, Z2, Z3⟩ := X.fin (ndC (znd L) (zp al cl))
    have Z : Nx g (znd L) (zp al cl) w w1 := ⟨X.blk, X.bel⟩
    have OLf : OwnP w.heap.size L (.slice al L.length cl) (w1.setRow gr (ndC (znd L) (zp al cl))) := OL'.kept Z2 (above_ne OLw (by omega))
    go_wp2_with (first
      | (refine Z.take rfl rfl rfl ?_)
      | (skip; refine wpList_store_row (by rfl) 33 _ _ (by rfl) gr (ndC (znd L) (zp al cl)) (by rfl) (by rfl) 33 ndZ X.res (by kernel_rfl) (by rfl) (ndC_one _ _) ?_))
    refine bodyPost_ret (v := .tuple #[ndV (znd L) (zp al cl), .bool true]) ?_ rfl ⟨al, cl, by rw [HL, hnb], by rw [HL]; exact OLf, Z3⟩
    exact results_node Tryz.results11 _ _ gr _ _ rfl rfl Z1 rfl
end Go.Proofs.YthhhhfpgmolcmaaGreat

/- Marks on filters that a call owns, and on a new node. -/

set_option linter.unusedVariables false
set_option linter.unusedSimpArgs false
set_option maxRecDepth 20000
namespace Go.Proofs.YthhhhfpgmolcmaaGreat
open Go.RowKit

theorem MkP.own {G n cap : Nat} {k : Int} {cur : Array Value} {w : World} {B : Nat} (h : MkP G n n k cur w) (hs : cur.size = cap * 2) (hc : n ≤ cap) (hm : cap ≤ maxLen) (hB : B ≤ G) : OwnP B (mksP k n) (.slice (some ⟨G, 0, none⟩) n cap) w := by
  have hl := mksP_len k n
  have hfl := flatP_len (mksP k n)
  refine ⟨flatP_len _, .inr ⟨G, cap, cur, by rw [hl], hB, h.blk, by omega, hm, hs, ?_⟩⟩
  apply List.ext_getElem?
  intro j
  by_cases hj : j < n * 2
  · rw [List.getElem?_take, if_pos (by omega), Array.getElem?_toList]
    obtain ⟨f0, f1⟩ := flatP_at (mksP k n) (j / 2) (by omega)
    obtain ⟨e0, e1⟩ := h.lo (j / 2) (by omega)
    have hk : (mksP k n)[j / 2]'(by omega) = mkP k (j / 2) := by rw [← nthP_eq (by omega), mksP_nth (by omega)]
    rw [hk] at f0 f1
    have hcase : j = j / 2 * 2 ∨ j = j / 2 * 2 + 1 := by omega
    rcases hcase with hc | hc
    · rw [hc, e0, f0]
    · rw [hc, e1, f1]
  · rw [List.getElem?_eq_none (by simp; omega), List.getElem?_eq_none (by omega)]
set_option maxHeartbeats 2000000 in
/-- laws.markFilterS. -/
theorem markFlts (B hi : Nat) (M : List (Int × Int)) (a : Option Addr) (c : Nat) (k : Int) (w : World) (HO : OwnP B M (.slice a M.length c) w) (hu : ∀ q, (Value.slice a M.length c).ownBlock = some q → q < hi) (hn : M.length ≤ 1048577) (h0 : 0 ≤ k) (h1 : k ≤ 100000000) :
    Calls Tryz.prog 24 #[.slice a M.length c, .int .i64 k] w fun e w' => e = .returned (.int .i64 (k + 2 * (M.length : Int))) ∧ OwnP B (mksP k M.length) (.slice a M.length c) w' ∧ Mid B hi w w' := by
  by_cases hz : M.length = 0
  · have e : M = [] := List.length_eq_zero_iff.1 hz
    subst e
    have HK : Hid (k + 2 * ((0 : Nat) : Int) = k) := Lib.hid (by omega)
    go_enter Tryz.func24, Tryz.ntmps24
    go_wp2_with fail
    go_loopw [1, 5] (fun q i wr => q = .int .i64 k ∧ i = .int .i64 0 ∧ wr = w) (fun _ _ _ => 0)
    case atStart => exact ⟨rfl, rfl, rfl⟩
    case round =>
      obtain ⟨rfl, rfl, rfl⟩ := hrel
      go_wp2_with fail
      go_ret
      exact ⟨by first | (rw [HK.out]; rfl) | (show _ = Ending.returned (.int .i64 (k + 2 * ((0 : Nat) : Int))); rw [HK.out]; rfl), HO, Mid.refl _ _ _⟩
  · have HO' := HO
    obtain ⟨hxl, ⟨hv, h0'⟩ | ⟨g, cap, cur, hv, hB, hg, hcap, hmx, hsz, htk⟩⟩ := HO'
    · exact absurd h0' hz
    cases hv
    have hgh : g < hi := hu g rfl
    go_enter Tryz.func24, Tryz.ntmps24
    generalize hML : M.length = n at *
    clear htk hxl HO hu
    go_wp2_with fail
    go_loopw [1, 5] (fun q i wr => ∃ (j : Nat) (cur' : Array Value), j ≤ n ∧ q = .int .i64 (k + 2 * (j : Int)) ∧ i = .int .i64 j ∧ cur'.size = c * 2 ∧ MkP g n j k cur' wr ∧ Mid B hi w wr) (fun _ i _ => n - (intOf i).toNat)
    case atStart => exact ⟨0, cur, Nat.zero_le _, by simp, rfl, hsz, ⟨hg, by omega, fun i hi => absurd hi (by omega)⟩, Mid.refl _ _ _⟩
    case round =>
      obtain ⟨j, cur', hj, rfl, rfl, hs', K, G⟩ := hrel
      by_cases hlt : j < n
      · obtain ⟨x0, x1, c0, c1⟩ := K.cells hlt
        have z0 := K.free (j * 2)
        have z1 := K.free (j * 2 + 1)
        obtain ⟨cur2, e2, K2⟩ := K.put hlt (x := k + 2 * (j : Int)) (y := k + 2 * (j : Int) + 1) rfl rfl
        have G2 := (G.grown (grown_at_cell wr g (j * 2) (.int .i64 (k + 2 * (j : Int)))) fun q e => by cases e; exact ⟨hB, hgh⟩).grown (grown_at_cell _ g (j * 2 + 1) (.int .i64 (k + 2 * (j : Int) + 1))) fun q e => by cases e; exact ⟨hB, hgh⟩
        clear K G
        go_wp2_with fail
        go_roundw
        case rel => exact ⟨j + 1, cur2, by omega, by congr 1; omega, by go_num, by omega, K2, G2⟩
        case measure => simp [intOf]; omega
      · obtain rfl : j = n := by omega
        have own := K.own hs' hcap hmx hB
        go_wp2_with fail
        go_ret
        exact ⟨rfl, own, G⟩
/-- laws.heldFilterS of filters that bear their marks. -/
theorem heldFlts (a : Option Addr) (n c : Nat) (k : Int) (w : World) (hd : Fls a (mksP k n) w) (hn : n ≤ 1048577) (h0 : 0 ≤ k) (h1 : k ≤ 100000000) :
    Calls Tryz.prog 64 #[.slice a n c, .int .i64 k] w fun e w' => e = .returned (.int .i64 (k + 2 * (n : Int))) ∧ w = w' := by
  go_enter Tryz.func64, Tryz.ntmps64
  go_wp2_with fail
  go_loop [1, 5] (fun q i => ∃ j : Nat, j ≤ n ∧ q = .int .i64 (k + 2 * (j : Int)) ∧ i = .int .i64 j) (fun _ i => n - (intOf i).toNat)
  case atStart => exact ⟨0, Nat.zero_le _, by simp, rfl⟩
  case round =>
    obtain ⟨j, hj, rfl, rfl⟩ := hrel
    by_cases hlt : j < n
    · obtain ⟨g, o, rfl, c0, c1⟩ := hd.2 j (by rw [mksP_len]; exact hlt)
      rw [mksP_nth hlt] at c0 c1
      simp only [mkP] at c0 c1
      go_wp2_with fail
      go_round
      case rel => exact ⟨j + 1, by omega, by congr 1; omega, by go_num⟩
      case measure => simp [intOf]; omega
    · obtain rfl : j = n := by omega
      go_wp2_with fail
      go_ret
      exact ⟨rfl, rfl⟩
set_option maxHeartbeats 2000000 in
/-- laws.markNode of a new node. -/
theorem markNew (B hi : Nat) (L : List (Int × Int)) (al : Option Addr) (cl : Nat) (w : World) (HO : OwnP B L (.slice al L.length cl) w) (hu : ∀ q, (Value.slice al L.length cl).ownBlock = some q → q < hi) (hi0 : hi ≤ w.heap.size) (hn : L.length ≤ 1048577) :
    Calls Tryz.prog 25 #[ndV (znd L) (zp al cl), .int .i64 1] w fun e w' => e = .returned (.int .i64 (1 + 2 * (L.length : Int))) ∧ OwnP B (mksP 1 L.length) (.slice al L.length cl) w' ∧ Mid B hi w w' := by
  have X := Nx.made (znd L) (zp al cl) (Below.refl w.heap.size w)
  have G := Mid.grown (Mid.refl B hi w) (grown_at (below_more (Below.refl w.heap.size w) (.cells (ndC (znd L) (zp al cl)) 33))) (fun q e => by cases e)
  replace HO := HO.below (below_more (Below.refl w.heap.size w) (.cells (ndC (znd L) (zp al cl)) 33))
  have e1 : kAt 1 [] ([] : List Frm).length = 1 := by simp [kAt, room]
  go_enter Tryz.func25, Tryz.ntmps25
  go_upto_region 1 with fail
  generalize w.alloc _ = W at X G HO ⊢
  have hxl : hi ≤ w.heap.size := hi0
  generalize w.heap.size = g at X hxl
  have c : ∀ k, W.cell? ⟨g, k, none⟩ = (ndC (znd L) (zp al cl))[k]? := fun k => cell_of_row W g k _ _ _ X.blk
  have c4 : W.cell? ⟨g, 4, none⟩ = some (.int .i64 0) := c 4
  have c5 : W.cell? ⟨g, 5, none⟩ = some (.bool false) := c 5
  have c6 : W.cell? ⟨g, 6, none⟩ = some (.int .i64 0) := c 6
  have c7 : W.cell? ⟨g, 7, none⟩ = some (.slice none 0 0) := c 7
  go_wp2_with fail
  refine (markFr W.heap.size 0 false 0 [] none 0 1 W (OwnI.nil _ _) (by simp) (by omega) (by omega)).mono ?_
  rintro e w1 ⟨rfl, -, k⟩
  have ke : (Value.slice none ([] : List Int).length 0).ownBlock = none := rfl
  rw [ke] at k
  have b1 := below_new k
  replace X := X.below b1
  replace G := G.grown k (fun q e => by cases e)
  replace HO := HO.stay k
  clear k ke b1 c c4 c5 c6 c7
  have c15 : w1.cell? ⟨g, 15, none⟩ = some (.slice none 0 0) := cell_of_row w1 g 15 _ _ _ X.blk
  have OF0 : OwnF w1.heap.size [] (.slice none 0 0) w1 := ⟨World.ownsRow_nil w1 _ _ _, fun m hm => by cases hm⟩
  go_wp2_with fail
  refine (markFrames w1.heap.size w1.heap.size [] [] rfl none 0 1 w1 OF0 (fun i j hi => absurd hi (by simp)) ⟨fun q hq => (by cases hq), fun m hm => (by cases hm)⟩ (by simp [room]) (by omega) (by omega)).mono ?_
  rintro e w2 ⟨M', he, -, -, -, m2⟩
  rw [e1] at he
  subst he
  have k2 := m2.below (Nat.le_refl _) (Nat.le_refl _)
  replace X := X.below k2
  replace G := G.grown (grown_at k2) (fun q e => by cases e)
  replace HO := HO.below k2
  clear k2 m2 c15 OF0
  have c16 : w2.cell? ⟨g, 16, none⟩ = some (.slice none 0 0) := cell_of_row w2 g 16 _ _ _ X.blk
  have OF1 : OwnF w2.heap.size [] (.slice none 0 0) w2 := ⟨World.ownsRow_nil w2 _ _ _, fun m hm => by cases hm⟩
  go_wp2_with fail
  refine (markFrames w2.heap.size w2.heap.size [] [] rfl none 0 1 w2 OF1 (fun i j hi => absurd hi (by simp)) ⟨fun q hq => (by cases hq), fun m hm => (by cases hm)⟩ (by simp [room]) (by omega) (by omega)).mono ?_
  rintro e w3 ⟨M', he, -, -, -, m2⟩
  rw [e1] at he
  subst he
  have k2 := m2.below (Nat.le_refl _) (Nat.le_refl _)
  replace X := X.below k2
  replace G := G.grown (grown_at k2) (fun q e => by cases e)
  replace HO := HO.below k2
  clear k2 m2 c16 OF1
  have c17 : w3.cell? ⟨g, 17, none⟩ = some (.slice al L.length cl) := cell_of_row w3 g 17 _ _ _ X.blk
  go_wp2_with fail
  refine (markFlts B hi L al cl 1 w3 HO hu hn (by omega) (by omega)).mono ?_
  rintro e w4 ⟨rfl, HO4, m4⟩
  replace G := G.trans m4
  clear X
  go_wp2_with fail
  go_ret
  exact ⟨rfl, HO4, G⟩
set_option maxHeartbeats 2000000 in
/-- laws.heldNode of a new node that bears its marks. -/
theorem heldNew (n : Nat) (L : List (Int × Int)) (hL : L.length = n) (al : Option Addr) (cl : Nat) (w : World) (hd : Fls al (mksP 1 n) w) (hn : n ≤ 1048577) :
    Calls Tryz.prog 26 #[ndV (znd L) (zp al cl), .int .i64 1] w fun e w' => e = .returned (.int .i64 (1 + 2 * (n : Int))) ∧ Below w.heap.size w w' := by
  have X := Nx.made (znd L) (zp al cl) (Below.refl w.heap.size w)
  replace hd := hd.alloc (.cells (ndC (znd L) (zp al cl)) 33)
  have e1 : kAt 1 [] ([] : List Frm).length = 1 := by simp [kAt, room]
  have hnz : ¬ 1 + 2 * (n : Int) < 0 := by omega
  go_enter Tryz.func26, Tryz.ntmps26
  go_upto_region 1 with fail
  generalize w.alloc _ = W at X hd ⊢
  generalize w.heap.size = g at X
  have c : ∀ k, W.cell? ⟨g, k, none⟩ = (ndC (znd L) (zp al cl))[k]? := fun k => cell_of_row W g k _ _ _ X.blk
  have c4 : W.cell? ⟨g, 4, none⟩ = some (.int .i64 0) := c 4
  have c5 : W.cell? ⟨g, 5, none⟩ = some (.bool false) := c 5
  have c6 : W.cell? ⟨g, 6, none⟩ = some (.int .i64 0) := c 6
  have c7 : W.cell? ⟨g, 7, none⟩ = some (.slice none 0 0) := c 7
  go_wp2_with fail
  refine (heldFr 0 false 0 none 0 0 1 W (Nums.nil _) (by omega) (by omega) (by omega)).mono ?_
  rintro e w1 ⟨rfl, k⟩
  replace X := X.below k
  replace hd := hd.below k
  clear k c c4 c5 c6 c7
  have c15 : w1.cell? ⟨g, 15, none⟩ = some (.slice none 0 0) := cell_of_row w1 g 15 _ _ _ X.blk
  go_wp2_with fail
  refine (heldFrames none [] 0 1 w1 (Frs.nil _ _) (by simp [room]) (by omega) (by omega)).mono ?_
  rintro e w2 ⟨he, k⟩
  rw [e1] at he
  subst he
  replace X := X.below k
  replace hd := hd.below k
  clear k c15
  have c16 : w2.cell? ⟨g, 16, none⟩ = some (.slice none 0 0) := cell_of_row w2 g 16 _ _ _ X.blk
  go_wp2_with fail
  refine (heldFrames none [] 0 1 w2 (Frs.nil _ _) (by simp [room]) (by omega) (by omega)).mono ?_
  rintro e w3 ⟨he, k⟩
  rw [e1] at he
  subst he
  replace X := X.below k
  replace hd := hd.below k
  clear k c16
  have c17 : w3.cell? ⟨g, 17, none⟩ = some (.slice al L.length cl) := cell_of_row w3 g 17 _ _ _ X.blk
  rw [hL] at c17
  go_wp2_with fail
  refine (heldFlts al n cl 1 w3 hd hn (by omega) (by omega)).mono ?_
  rintro e w4 ⟨rfl, rfl⟩
  have hb := X.bel
  go_wp2_with fail
  go_ret
  exact ⟨rfl, hb⟩
end Go.Proofs.YthhhhfpgmolcmaaGreat
