/- NewNode, of the program and of the model: a still node with a copy of the filters, or the zero node. -/
import Derived.Test.YtngcekegngmedaaGreatM17
import Derived.Test.YtngcekegngmedaaGreatM19
import Derived.Test.YtngcekegngmedaaGreatM23
import Derived.Test.YtngcekegngmedaaGreatM9
import Derived.Test.YtngcekegngmedaaGreatM15
import Derived.Test.YtngcekegngmedaaGreatM18
import Derived.Test.YtngcekegngmedaaGreatM25
import Derived.Test.YtngcekegngmedaaGreatM14
import Derived.Test.YtngcekegngmedaaGreatM3
import Derived.Maps.AppendAt
import Derived.Test.YtngcekegngmedaaGreatM16

set_option linter.unusedVariables false
set_option linter.unusedSimpArgs false
set_option maxRecDepth 20000
namespace Go.Proofs.YtngcekegngmedaaGreat
open Go.RowKit

/-- A new node with these filters; whether it is right. -/
def znd (L : List (Int × Int)) : Nd := ⟨0, false, false, false, ⟨0, false, 0, []⟩, ⟨#[]⟩, 0, 0, 0, 0, 0, 0, [], [], L⟩
def zp (al : Option Addr) (cl : Nat) : NdP := ⟨none, 0, none, 0, none, 0, al, cl⟩
def newB (L : List (Int × Int)) : Bool := decide (L.length ≤ 8) && L.all flOk
def newL (L : List (Int × Int)) : List (Int × Int) := if newB L = true then L else []
theorem nodeB_new (L : List (Int × Int)) : nodeB (znd L) = newB L := by
  have h1 : numB (znd L) = true := rfl
  have h2 : frB (znd L).fr = true := rfl
  have h3 : okB (znd L).got = true := rfl
  have h4 : boxB (znd L).box = true := boxB_yes (by simp [znd]) (Rise.zero _)
  have h5 : fifoB (znd L).fifo = true := rfl
  have h6 : decide ((znd L).ph ≠ 1) = true := rfl
  have h7 : decide ((znd L).got.size ≤ 98) = true := rfl
  rw [nodeB, h1, h2, listB, h7, h3, h4, h5, h6]
  simp only [Bool.true_and, Bool.true_or, Bool.and_true]
  rfl
/-- A node goes, whole, into the block that was made last, whatever its number is called. -/
theorem wpList_layAt {n : Nd} {p : NdP} {w W : World} {C : Array Value} {g : Nat} {ops : Array Oper} {rest : List Oper} {o : Oper} {a : Act} {Q : Exit → Act → World → Prop} {x y : Operand} (ho : o.op = .store 46 x y) (hg : o.guard = none) (hW : W = w.alloc (.cells C 46))
    (hx : a.eval x = .pointer (some ⟨g, 0, none⟩)) (hy : a.eval y = ndV n p) (hC : C.size = 18) (hs : w.heap.size = g) (k : wpList Tryz.prog ops Q rest (a.put o.dst undef) (w.alloc (.cells (ndC n p) 46))) : wpList Tryz.prog ops Q (o :: rest) a W := by
  subst hs
  exact wpList_lay ho hg hW hx hy hC k
theorem Nums.nil (w : World) : Nums none [] w := ⟨Nat.zero_le _, by simp, fun j hj => absurd hj (by simp)⟩
theorem Frs.nil (a : Option Addr) (w : World) : Frs a [] w := ⟨Nat.zero_le _, fun j hj => absurd hj (by simp)⟩
theorem NdM.new {L : List (Int × Int)} {al : Option Addr} {w : World} (h : Fls al L w) (cl : Nat) : NdM (znd L) (zp al cl) w := ⟨Nums.nil w, Frs.nil _ w, Frs.nil _ w, h, Nat.zero_le _⟩

/-- The node that is being made, and the result's block. -/
structure N2 (g gr : Nat) (C : Array Value) (w0 w : World) : Prop where
  blk : w.heap[g]? = some (.cells C 46 (0, 0))
  res : w.heap[gr]? = some (.cells ndZ 46 (0, 0))
  bel : Below w0.heap.size w0 w
  hg : w0.heap.size ≤ g
  hr : w0.heap.size ≤ gr
  nr : gr ≠ g
section
variable {g gr : Nat} {C : Array Value} {w w' w0 : World}
theorem N2.lt (h : N2 g gr C w0 w) : g < w.heap.size ∧ gr < w.heap.size := ⟨(Array.getElem?_eq_some_iff.1 h.blk).1, (Array.getElem?_eq_some_iff.1 h.res).1⟩
theorem N2.below (h : N2 g gr C w0 w) (b : Below w.heap.size w w') : N2 g gr C w0 w' := ⟨(b.block g h.lt.1).trans h.blk, (b.block gr h.lt.2).trans h.res, Below.then2 h.bel b, h.hg, h.hr, h.nr⟩
theorem N2.set (h : N2 g gr C w0 w) (k : Nat) (v : Value) : N2 g gr (C.setIfInBounds k v) w0 (w.setCell ⟨g, k, none⟩ v) :=
  ⟨heap_setCell_same w g k _ _ v h.blk, (heap_setCell_other w ⟨g, k, none⟩ gr v h.nr).trans h.res, h.bel.setCell h.hg _, h.hg, h.hr, h.nr⟩
theorem N2.fin (h : N2 g gr C w0 w) (D : Array Value) : (w.setRow gr D).heap[gr]? = some (.cells D 46 (0, 0)) ∧ w.grownBy (w.setRow gr D) (some gr) ∧ Below w0.heap.size w0 (w.setRow gr D) :=
  ⟨setRow_heap _ _ _ _ _ _ h.res, ⟨rfl, rfl, rfl, by simp, fun k hk hne => setRow_other w gr k D (fun e => hne (by rw [e]))⟩, below_setRow h.bel h.hr D⟩
end
/-- Two blocks, the result's and then the node's. -/
theorem N2.made (D : Array Value) (w : World) : N2 (w.heap.size + 1) w.heap.size D w ((w.alloc (.cells ndZ 46)).alloc (.cells D 46)) := by
  have s1 : (w.alloc (.cells ndZ 46)).heap.size = w.heap.size + 1 := by simp
  have b1 : Below w.heap.size w (w.alloc (.cells ndZ 46)) := below_more (Below.refl _ _) _
  have b2 := below_more b1 (.cells D 46)
  have k1 : Below (w.heap.size + 1) (w.alloc (.cells ndZ 46)) ((w.alloc (.cells ndZ 46)).alloc (.cells D 46)) := by rw [← s1]; exact below_more (Below.refl _ _) _
  refine ⟨by rw [← s1]; exact heap_alloc_new _ _, ?_, b2, by omega, by omega, by omega⟩
  rw [k1.block _ (by omega)]
  exact heap_alloc_new w _
/-- What a new node is. -/
def NewR (L : List (Int × Int)) (w : World) (e : Ending) (w' : World) : Prop :=
  ∃ (al : Option Addr) (cl : Nat), e = .returned (.tuple #[ndV (znd (newL L)) (zp al cl), .bool (newB L)]) ∧ OwnP w.heap.size (newL L) (.slice al (newL L).length cl) w' ∧ Below w.heap.size w w'
theorem ownP_nil (B : Nat) (w : World) : OwnP B [] (.slice none 0 0) w := ⟨rfl, .inl ⟨rfl, rfl⟩⟩

theorem results_node {fn : Func} {p q : Tmp} (h : fn.results = #[.cell p 46, .tmp q]) (tmps : Array Value) (w : World) (g : Nat) (C : Array Value) (b : Value) (hp : tmps.getD p undef = .pointer (some ⟨g, 0, none⟩)) (hq : tmps.getD q undef = b)
    (hg : w.heap[g]? = some (.cells C 46 (0, 0))) (hC : C.size = 18) : (results fn tmps).run Tryz.prog w = .ok (.tuple #[.agg C, b]) w := by
  have hp' : tmps[p]?.getD undef = .pointer (some ⟨g, 0, none⟩) := by simpa using hp
  have hq' : tmps[q]?.getD undef = b := by simpa using hq
  have hl := run_loadVar_row (P := Tryz.prog) w g 46 46 C (0, 0) _ hg Tryz.underlying46 rfl (by rw [hC]; kernel_rfl)
  simp [results, h, hp', hq', asAddr, hl]
set_option maxHeartbeats 4000000 in
/-- impl.NewNode. -/
theorem implNewNode (a : Option Addr) (L : List (Int × Int)) (c : Nat) (w : World) (hd : Fls a L w) (h : L.length ≤ 1048576) :
    Calls Tryz.prog 17 #[.slice a L.length c] w (NewR L w) := by
  have X := N2.made (ndC (znd L) (zp a c)) w
  go_enter Tryz.func17, Tryz.ntmps17
  go_upto_region 2 with (skip; refine wpList_layAt (w := w.alloc (.cells ndZ 46)) (n := znd L) (p := zp a c) (C := ndZ) (g := w.heap.size + 1) (by rfl) (by rfl) (by rfl) (by rfl) (by rfl) (by rfl) (by simp) ?_)
  generalize World.alloc _ _ = W at X ⊢
  have hgr : w.heap.size ≤ w.heap.size := Nat.le_refl _
  generalize w.heap.size + 1 = g at X ⊢
  generalize hwr : w.heap.size = gr at X ⊢
  have hF := hd.below X.bel
  have Z : Nx g (znd L) (zp a c) w W := ⟨X.blk, X.bel⟩
  go_wp2_with (refine Z.take rfl rfl rfl ?_)
  refine (implNodeOk (znd L) (zp a c) _ (NdM.new hF c)).mono ?_
  rintro e w1 ⟨rfl, b⟩
  rw [nodeB_new]
  replace X := X.below b
  replace hF := hF.below b
  clear b Z
  cases hnb : newB L
  · have HL : newL L = [] := by rw [newL, hnb]; rfl
    obtain ⟨Z1, Z2, Z3⟩ := X.fin ndZ
    go_wp2_with (skip; refine wpList_store_row (by rfl) 46 _ _ (by rfl) gr ndZ (by rfl) (by rfl) 46 ndZ X.res (by kernel_rfl) (by rfl) (by simp [Value.oneCell']) ?_)
    refine bodyPost_ret (v := .tuple #[ndV (znd []) (zp none 0), .bool false]) ?_ rfl ⟨none, 0, by rw [HL, hnb], by rw [HL]; exact ownP_nil _ _, Z3⟩
    exact results_node Tryz.results17 _ _ gr ndZ _ rfl rfl Z1 rfl
  · have HL : newL L = L := by rw [newL, hnb]; rfl
    go_wp2_with fail
    refine (copiedFlts a L c _ hF h).mono ?_
    rintro e w2 ⟨gl, rfl, OL, b⟩
    have hlt := X.lt
    have hsz := X.bel.size
    replace X := X.below b
    clear b hF
    have c17 : w2.cell? ⟨g, 17, none⟩ = some (.slice a L.length c) := cell_of_row w2 g 17 _ _ _ X.blk
    have f17 := frozen_of_row w2 g 17 _ _ X.blk
    change _
    go_upto_region 5 with fail
    replace X : N2 g gr (ndC (znd L) (zp (some ⟨gl, 0, none⟩) L.length)) w _ := X.set 17 (.slice (some ⟨gl, 0, none⟩) L.length L.length)
    replace OL := OL.kept2 (grown_at_cell _ g 17 (.slice (some ⟨gl, 0, none⟩) L.length L.length)) hlt.1
    clear c17 f17
    generalize w2.setCell ⟨g, 17, none⟩ (.slice (some ⟨gl, 0, none⟩) L.length L.length) = W3 at *
    obtain ⟨Z1, Z2, Z3⟩ := X.fin (ndC (znd L) (zp (some ⟨gl, 0, none⟩) L.length))
    replace OL := (OL.kept2 Z2 hlt.2).mono hsz
    have Z : Nx g (znd L) (zp (some ⟨gl, 0, none⟩) L.length) w W3 := ⟨X.blk, X.bel⟩
    go_wp2_with (first
      | (refine Z.take rfl rfl rfl ?_)
      | (skip; refine wpList_store_row (by rfl) 46 _ _ (by rfl) gr (ndC (znd L) (zp (some ⟨gl, 0, none⟩) L.length)) (by rfl) (by rfl) 46 ndZ X.res (by kernel_rfl) (by rfl) (ndC_one _ _) ?_))
    refine bodyPost_ret (v := .tuple #[ndV (znd L) (zp (some ⟨gl, 0, none⟩) L.length), .bool true]) ?_ rfl ⟨some ⟨gl, 0, none⟩, L.length, by rw [HL, hnb], by rw [HL]; exact OL, Z3⟩
    exact results_node Tryz.results17 _ _ gr _ _ rfl rfl Z1 rfl
set_option maxHeartbeats 4000000 in
/-- spec.NewNode. -/
theorem specNewNode (a : Option Addr) (L : List (Int × Int)) (c : Nat) (w : World) (hd : Fls a L w) (hnil : a = none → c = 0) (h : L.length ≤ 1048576) :
    Calls Tryz.prog 14 #[.slice a L.length c] w (NewR L w) := by
  have s1 : (w.alloc (.cells ndZ 46)).heap.size = w.heap.size + 1 := by simp
  have b1 : Below w.heap.size w (w.alloc (.cells ndZ 46)) := below_more (Below.refl _ _) _
  have b2 := below_more b1 (.cells #[] 58)
  have HG := heap_alloc_new (w.alloc (.cells ndZ 46)) (.cells #[] 58)
  have HR : ((w.alloc (.cells ndZ 46)).alloc (.cells #[] 58)).heap[w.heap.size]? = some (.cells ndZ 46 (0, 0)) := by
    have k1 : Below (w.heap.size + 1) (w.alloc (.cells ndZ 46)) ((w.alloc (.cells ndZ 46)).alloc (.cells #[] 58)) := by rw [← s1]; exact below_more (Below.refl _ _) _
    rw [k1.block _ (by omega)]
    exact heap_alloc_new w _
  rw [s1] at HG
  have hF := hd.below b2
  go_enter Tryz.func14, Tryz.ntmps14
  go_wp2_with (at_builtin; skip; refine wpList_newP _ _ (by rfl) (by rfl) (w.heap.size + 1) (by rfl) a L c (by rfl) HG hF hnil (by omega) ?_)
  intro al cl w2 OL k
  generalize World.alloc _ _ = W0 at HG HR hF b2 k
  have hsz2 := b2.size
  have hlg := (Array.getElem?_eq_some_iff.1 HG).1
  have hlr := (Array.getElem?_eq_some_iff.1 HR).1
  have hw2 := k.size
  have b3 := b2.grown k b2.size (fun q e => by cases e; omega)
  have X : N2 w2.heap.size w.heap.size (ndC (znd L) (zp al cl)) w (w2.alloc (.cells (ndC (znd L) (zp al cl)) 46)) := by
    refine ⟨heap_alloc_new _ _, ?_, below_more b3 _, by omega, by omega, by omega⟩
    have kb : Below w2.heap.size w2 (w2.alloc (.cells (ndC (znd L) (zp al cl)) 46)) := below_more (Below.refl _ _) _
    rw [kb.block _ (by omega), k.block _ hlr (by simp)]
    exact HR
  have OL' := (OL.below (below_more (Below.refl _ _) (.cells (ndC (znd L) (zp al cl)) 46))).mono (show w.heap.size ≤ w.heap.size + 1 by omega)
  have OLw : ∀ q, (Value.slice al L.length cl).ownBlock = some q → w.heap.size + 1 ≤ q := fun q hq => OL.low hq
  clear hF HG HR b1 b2 s1 k b3 hsz2 hlg OL
  go_upto_region 2 with (skip; refine wpList_lay (w := w2) (n := znd L) (p := zp al cl) (C := ndZ) (by rfl) (by rfl) (by rfl) (by rfl) (by rfl) (by rfl) ?_)
  generalize World.alloc _ _ = W at X OL' ⊢
  have hgg : w.heap.size < w2.heap.size := by omega
  generalize w2.heap.size = g at X hgg ⊢
  have hF := (OL'.flsAt (by omega)).2
  have Z : Nx g (znd L) (zp al cl) w W := ⟨X.blk, X.bel⟩
  generalize hwr : w.heap.size = gr at X hgg ⊢
  go_wp2_with (refine Z.take rfl rfl rfl ?_)
  refine (specNodeOk (znd L) (zp al cl) _ (NdM.new hF cl)).mono ?_
  rintro e w1 ⟨rfl, b⟩
  rw [nodeB_new]
  replace X := X.below b
  replace OL' := OL'.below b
  clear b Z hF
  cases hnb : newB L
  · have HL : newL L = [] := by rw [newL, hnb]; rfl
    obtain ⟨Z1, Z2, Z3⟩ := X.fin ndZ
    go_wp2_with (skip; refine wpList_store_row (by rfl) 46 _ _ (by rfl) gr ndZ (by rfl) (by rfl) 46 ndZ X.res (by kernel_rfl) (by rfl) (by simp [Value.oneCell']) ?_)
    refine bodyPost_ret (v := .tuple #[ndV (znd []) (zp none 0), .bool false]) ?_ rfl ⟨none, 0, by rw [HL, hnb], by rw [HL]; exact ownP_nil _ _, Z3⟩
    exact results_node Tryz.results14 _ _ gr ndZ _ rfl rfl Z1 rfl
  · have HL : newL L = L := by rw [newL, hnb]; rfl
    obtain ⟨Z1, Z2, Z3⟩ := X.fin (ndC (znd L) (zp al cl))
    have Z : Nx g (znd L) (zp al cl) w w1 := ⟨X.blk, X.bel⟩
    have OLf : OwnP w.heap.size L (.slice al L.length cl) (w1.setRow gr (ndC (znd L) (zp al cl))) := OL'.kept Z2 (above_ne OLw (by omega))
    go_wp2_with (first
      | (refine Z.take rfl rfl rfl ?_)
      | (skip; refine wpList_store_row (by rfl) 46 _ _ (by rfl) gr (ndC (znd L) (zp al cl)) (by rfl) (by rfl) 46 ndZ X.res (by kernel_rfl) (by rfl) (ndC_one _ _) ?_))
    refine bodyPost_ret (v := .tuple #[ndV (znd L) (zp al cl), .bool true]) ?_ rfl ⟨al, cl, by rw [HL, hnb], by rw [HL]; exact OLf, Z3⟩
    exact results_node Tryz.results14 _ _ gr _ _ rfl rfl Z1 rfl
end Go.Proofs.YtngcekegngmedaaGreat

/- Marks on filters that a call owns, and on a new node. -/

set_option linter.unusedVariables false
set_option linter.unusedSimpArgs false
set_option maxRecDepth 20000
namespace Go.Proofs.YtngcekegngmedaaGreat
open Go.RowKit

theorem MkP.own {G n cap : Nat} {k : Int} {cur : Array Value} {w : World} {B : Nat} (h : MkP G n n k cur w) (hs : cur.size = cap * 2) (hc : n ≤ cap) (hm : cap ≤ maxLen) (hB : B ≤ G) : OwnP B (mksP k n) (.slice (some ⟨G, 0, none⟩) n cap) w := by
  have hl := mksP_len k n
  have hfl := flatP_len (mksP k n)
  refine ⟨flatP_len _, .inr ⟨G, cap, cur, by rw [hl], hB, h.blk, by omega, hm, hs, ?_⟩⟩
  apply List.ext_getElem?
  intro j
  by_cases hj : j < n * 2
  · rw [List.getElem?_take, if_pos (by omega), Array.getElem?_toList]
    obtain ⟨f0, f1⟩ := flatP_at (mksP k n) (j / 2) (by omega)
    obtain ⟨e0, e1⟩ := h.lo (j / 2) (by omega)
    have hk : (mksP k n)[j / 2]'(by omega) = mkP k (j / 2) := by rw [← nthP_eq (by omega), mksP_nth (by omega)]
    rw [hk] at f0 f1
    have hcase : j = j / 2 * 2 ∨ j = j / 2 * 2 + 1 := by omega
    rcases hcase with hc | hc
    · rw [hc, e0, f0]
    · rw [hc, e1, f1]
  · rw [List.getElem?_eq_none (by simp; omega), List.getElem?_eq_none (by omega)]
set_option maxHeartbeats 2000000 in
/-- laws.markFilterS. -/
theorem markFlts (B hi : Nat) (M : List (Int × Int)) (a : Option Addr) (c : Nat) (k : Int) (w : World) (HO : OwnP B M (.slice a M.length c) w) (hu : ∀ q, (Value.slice a M.length c).ownBlock = some q → q < hi) (hn : M.length ≤ 1048577) (h0 : 0 ≤ k) (h1 : k ≤ 100000000) :
    Calls Tryz.prog 21 #[.slice a M.length c, .int .i64 k] w fun e w' => e = .returned (.int .i64 (k + 2 * (M.length : Int))) ∧ OwnP B (mksP k M.length) (.slice a M.length c) w' ∧ Mid B hi w w' := by
  by_cases hz : M.length = 0
  · have e : M = [] := List.length_eq_zero_iff.1 hz
    subst e
    have HK : Hid (k + 2 * ((0 : Nat) : Int) = k) := Lib.hid (by omega)
    go_enter Tryz.func21, Tryz.ntmps21
    go_wp2_with fail
    go_loopw [1, 5] (fun q i wr => q = .int .i64 k ∧ i = .int .i64 0 ∧ wr = w) (fun _ _ _ => 0)
    case atStart => exact ⟨rfl, rfl, rfl⟩
    case round =>
      obtain ⟨rfl, rfl, rfl⟩ := hrel
      go_wp2_with fail
      go_ret
      exact ⟨by first | (rw [HK.out]; rfl) | (show _ = Ending.returned (.int .i64 (k + 2 * ((0 : Nat) : Int))); rw [HK.out]; rfl), HO, Mid.refl _ _ _⟩
  · have HO' := HO
    obtain ⟨hxl, ⟨hv, h0'⟩ | ⟨g, cap, cur, hv, hB, hg, hcap, hmx, hsz, htk⟩⟩ := HO'
    · exact absurd h0' hz
    cases hv
    have hgh : g < hi := hu g rfl
    go_enter Tryz.func21, Tryz.ntmps21
    generalize hML : M.length = n at *
    clear htk hxl HO hu
    go_wp2_with fail
    go_loopw [1, 5] (fun q i wr => ∃ (j : Nat) (cur' : Array Value), j ≤ n ∧ q = .int .i64 (k + 2 * (j : Int)) ∧ i = .int .i64 j ∧ cur'.size = c * 2 ∧ MkP g n j k cur' wr ∧ Mid B hi w wr) (fun _ i _ => n - (intOf i).toNat)
    case atStart => exact ⟨0, cur, Nat.zero_le _, by simp, rfl, hsz, ⟨hg, by omega, fun i hi => absurd hi (by omega)⟩, Mid.refl _ _ _⟩
    case round =>
      obtain ⟨j, cur', hj, rfl, rfl, hs', K, G⟩ := hrel
      by_cases hlt : j < n
      · obtain ⟨x0, x1, c0, c1⟩ := K.cells hlt
        have z0 := K.free (j * 2)
        have z1 := K.free (j * 2 + 1)
        obtain ⟨cur2, e2, K2⟩ := K.put hlt (x := k + 2 * (j : Int)) (y := k + 2 * (j : Int) + 1) rfl rfl
        have G2 := (G.grown (grown_at_cell wr g (j * 2) (.int .i64 (k + 2 * (j : Int)))) fun q e => by cases e; exact ⟨hB, hgh⟩).grown (grown_at_cell _ g (j * 2 + 1) (.int .i64 (k + 2 * (j : Int) + 1))) fun q e => by cases e; exact ⟨hB, hgh⟩
        clear K G
        go_wp2_with fail
        go_roundw
        case rel => exact ⟨j + 1, cur2, by omega, by congr 1; omega, by go_num, by omega, K2, G2⟩
        case measure => simp [intOf]; omega
      · obtain rfl : j = n := by omega
        have own := K.own hs' hcap hmx hB
        go_wp2_with fail
        go_ret
        exact ⟨rfl, own, G⟩
/-- laws.heldFilterS of filters that bear their marks. -/
theorem heldFlts (a : Option Addr) (n c : Nat) (k : Int) (w : World) (hd : Fls a (mksP k n) w) (hn : n ≤ 1048577) (h0 : 0 ≤ k) (h1 : k ≤ 100000000) :
    Calls Tryz.prog 38 #[.slice a n c, .int .i64 k] w fun e w' => e = .returned (.int .i64 (k + 2 * (n : Int))) ∧ w = w' := by
  go_enter Tryz.func38, Tryz.ntmps38
  go_wp2_with fail
  go_loop [1, 5] (fun q i => ∃ j : Nat, j ≤ n ∧ q = .int .i64 (k + 2 * (j : Int)) ∧ i = .int .i64 j) (fun _ i => n - (intOf i).toNat)
  case atStart => exact ⟨0, Nat.zero_le _, by simp, rfl⟩
  case round =>
    obtain ⟨j, hj, rfl, rfl⟩ := hrel
    by_cases hlt : j < n
    · obtain ⟨g, o, rfl, c0, c1⟩ := hd.2 j (by rw [mksP_len]; exact hlt)
      rw [mksP_nth hlt] at c0 c1
      simp only [mkP] at c0 c1
      go_wp2_with fail
      go_round
      case rel => exact ⟨j + 1, by omega, by congr 1; omega, by go_num⟩
      case measure => simp [intOf]; omega
    · obtain rfl : j = n := by omega
      go_wp2_with fail
      go_ret
      exact ⟨rfl, rfl⟩
end Go.Proofs.YtngcekegngmedaaGreat

/- Marks on a node that a call owns, and the look for them. -/

set_option linter.unusedVariables false
set_option linter.unusedSimpArgs false
set_option maxRecDepth 20000
namespace Go.Proofs.YtngcekegngmedaaGreat
open Go.RowKit

theorem Mid.wide {lo hi lo' hi' : Nat} {w w' : World} (h : Mid lo hi w w') (h1 : lo' ≤ lo) (h2 : hi ≤ hi') : Mid lo' hi' w w' := ⟨h.os, h.tape, h.output, h.size, fun k hk hc => h.block k hk (by omega)⟩
theorem Mid.row {lo hi g : Nat} {w w' : World} {C : Array Value} {ty : TypeId} {z : Nat × Nat} (h : Mid lo hi w w') (hb : w.heap[g]? = some (.cells C ty z)) (hg : hi ≤ g) : w'.heap[g]? = some (.cells C ty z) :=
  (h.block g (Array.getElem?_eq_some_iff.1 hb).1 (.inr hg)).trans hb
theorem Mid.ofBelow {lo hi : Nat} {w w' : World} (b : Below w.heap.size w w') : Mid lo hi w w' := (Mid.refl lo hi w).grown (grown_at b) (fun q e => by cases e)
section
variable {B lo hi : Nat} {w w' : World}
/-- What lies below these blocks stays, too. -/
theorem OwnI.midLow {D : List Int} {v : Value} (h : OwnI B D v w) (k : Mid lo hi w w') (hu : ∀ q, v.ownBlock = some q → q < lo) : OwnI B D v w' := by
  refine ⟨⟨h.1.1, ?_⟩, h.2⟩
  rcases h.1.2 with e | ⟨g, cap, cur, e, hb, hg, r⟩
  · exact .inl e
  · exact .inr ⟨g, cap, cur, e, hb, (k.block g (Array.getElem?_eq_some_iff.1 hg).1 (.inl (hu g (by rw [e]; rfl)))).trans hg, r⟩
theorem OwnF.midLow {M : List (Frm × Value)} {v : Value} (h : OwnF B M v w) (k : Mid lo hi w w') (hu : Under lo M v) : OwnF B M v w' := by
  refine ⟨⟨h.1.1, ?_⟩, fun m hm => (h.2 m hm).midLow k (hu.2 m hm)⟩
  rcases h.1.2 with e | ⟨g, cap, cur, e, hb, hg, r⟩
  · exact .inl e
  · exact .inr ⟨g, cap, cur, e, hb, (k.block g (Array.getElem?_eq_some_iff.1 hg).1 (.inl (hu.1 g (by rw [e]; rfl)))).trans hg, r⟩
end

/-! ### A node that bears its marks. -/
def k1N (k : Int) (n : Nd) : Int := k + (n.fr.D.length : Int)
def k2N (k : Int) (n : Nd) : Int := kAt (k1N k n) n.box n.box.length
def k3N (k : Int) (n : Nd) : Int := kAt (k2N k n) n.fifo n.fifo.length
def k4N (k : Int) (n : Nd) : Int := k3N k n + 2 * (n.flt.length : Int)
def markedN (k : Int) (n : Nd) : Nd := { n with fr := ⟨n.fr.id, n.fr.rm, n.fr.ln, marks k n.fr.D.length⟩, box := mkL (k1N k n) n.box, fifo := mkL (k2N k n) n.fifo, flt := mksP (k3N k n) n.flt.length }
theorem room_mkL (k : Int) (L : List Frm) : ∀ j, j ≤ L.length → room (mkL k L) j = room L j
  | 0, _ => by rw [room_zero, room_zero]
  | j + 1, hj => by
    rw [room_succ _ _ (by rw [mkL_len]; omega), room_succ _ _ (by omega), room_mkL k L j (by omega), mkL_nth (by omega)]
    simp [mkF, marks_len]
theorem room_marked (k : Int) (n : Nd) : roomN (markedN k n) = roomN n := by
  unfold roomN markedN
  simp only [marks_len, mkL_len, mksP_len, room_mkL _ _ _ (Nat.le_refl _)]
theorem ndV_marked (k : Int) (n : Nd) (p : NdP) : ndV (markedN k n) p = ndV n p := by
  unfold markedN
  simp only [ndV, marks_len, mkL_len, mksP_len]
theorem kN_bd {k : Int} {n : Nd} (h0 : 0 ≤ k) (h1 : k ≤ 1000000) (hs : roomN n ≤ 1048576) : (0 ≤ k1N k n ∧ k1N k n ≤ 90000000) ∧ (0 ≤ k2N k n ∧ k2N k n ≤ 90000000) ∧ (0 ≤ k3N k n ∧ k3N k n ≤ 20000000) := by
  unfold roomN at hs
  simp only [k1N, k2N, k3N, kAt]
  omega
end Go.Proofs.YtngcekegngmedaaGreat

/- A step of a node: the block that it works on, its results' blocks; whole stores; results of two cells. -/

set_option linter.unusedVariables false
set_option linter.unusedSimpArgs false
set_option maxRecDepth 20000
namespace Go.Proofs.YtngcekegngmedaaGreat
open Go.RowKit

/-- Two blocks, the node's and then the result's. -/
theorem N2.made2 (D : Array Value) (w : World) : N2 w.heap.size (w.heap.size + 1) D w ((w.alloc (.cells D 46)).alloc (.cells ndZ 46)) := by
  have s1 : (w.alloc (.cells D 46)).heap.size = w.heap.size + 1 := by simp
  have b1 : Below w.heap.size w (w.alloc (.cells D 46)) := below_more (Below.refl _ _) _
  have b2 := below_more b1 (.cells ndZ 46)
  have k1 : Below (w.heap.size + 1) (w.alloc (.cells D 46)) ((w.alloc (.cells D 46)).alloc (.cells ndZ 46)) := by rw [← s1]; exact below_more (Below.refl _ _) _
  refine ⟨?_, by rw [← s1]; exact heap_alloc_new _ _, b2, by omega, by omega, by omega⟩
  rw [k1.block _ (by omega)]; exact heap_alloc_new w _
section
variable {g gr : Nat} {C D : Array Value} {w w' w0 : World}
theorem N2.cell (h : N2 g gr C w0 w) (k : Nat) : w.cell? ⟨g, k, none⟩ = C[k]? := cell_of_row w g k _ _ _ h.blk
theorem N2.free (h : N2 g gr C w0 w) (k : Nat) : w.frozen? ⟨g, k, none⟩ = false := frozen_of_row w g k _ _ h.blk
theorem N2.put (h : N2 g gr C w0 w) (D : Array Value) : N2 g gr D w0 (w.setRow g D) :=
  ⟨setRow_heap _ _ _ _ _ _ h.blk, (setRow_other w g gr D h.nr).trans h.res, below_setRow h.bel h.hg D, h.hg, h.hr, h.nr⟩
theorem N2.drew (h : N2 g gr C w0 w) : N2 g gr C w0 w.drew := ⟨h.blk, h.res, h.bel.drew, h.hg, h.hr, h.nr⟩
end
/-- A node goes, whole, into its block. -/
theorem wpList_put {n : Nd} {p : NdP} {w : World} {g : Nat} {C : Array Value} (hb : w.heap[g]? = some (.cells C 46 (0, 0))) {ops : Array Oper} {rest : List Oper} {o : Oper} {a : Act} {Q : Exit → Act → World → Prop} {x y : Operand}
    (ho : o.op = .store 46 x y) (hg : o.guard = none) (hx : a.eval x = .pointer (some ⟨g, 0, none⟩)) (hy : a.eval y = ndV n p) (hC : C.size = 18) (k : wpList Tryz.prog ops Q rest (a.put o.dst undef) (w.setRow g (ndC n p))) : wpList Tryz.prog ops Q (o :: rest) a w :=
  wpList_store_row hg 46 x y ho g (ndC n p) hx hy 46 C hb (by kernel_rfl) (hC.trans rfl) (ndC_one n p) k
theorem results_one {fn : Func} {p : Tmp} (h : fn.results = #[.cell p 46]) (tmps : Array Value) (w : World) (g : Nat) (C : Array Value) (hp : tmps.getD p undef = .pointer (some ⟨g, 0, none⟩))
    (hg : w.heap[g]? = some (.cells C 46 (0, 0))) (hC : C.size = 18) : (results fn tmps).run Tryz.prog w = .ok (.agg C) w := by
  have hp' : tmps[p]?.getD undef = .pointer (some ⟨g, 0, none⟩) := by simpa using hp
  have hl := run_loadVar_row (P := Tryz.prog) w g 46 46 C (0, 0) _ hg Tryz.underlying46 rfl (by rw [hC]; kernel_rfl)
  simp [results, h, hp', asAddr, hl]
/-- One operation that is ready alone, in a region that draws. -/
theorem held_op {P : Program} {md : Region.Mode} {ops : Array Oper} {Q : Exit → Act → World → Prop} {S : World → Prop} (i : Nat) {oi : Oper} {fuel : Nat} {listed : Array Bool} {a : Act} {w : World}
    (hi : ops[i]? = some oi) (hr : Region.ready md ops listed = [i]) (hw : Region.wanted oi (yielded ops a.tmps) = true)
    (h : oi.wp P a w (fun a' w' => S w' ∧ wpAnyH P md ops Q S fuel (listed.setIfInBounds i true) a' w') Q) : wpAnyH P md ops Q S (fuel + 1) listed a w := by
  refine wpAnyH_all hr (by simp) fun j hj => ?_
  obtain rfl : j = i := by simpa using hj
  unfold wpOp
  simp only [hi]
  rw [if_pos hw]
  exact .inl h
theorem Nx.cellsTook {g : Nat} {n : Nd} {p : NdP} {w0 w : World} (h : Nx g n p w0 w) : w.cell? ⟨g, 4, none⟩ = some (.int .i64 n.fr.id) ∧ w.cell? ⟨g, 5, none⟩ = some (.bool n.fr.rm) ∧ w.cell? ⟨g, 6, none⟩ = some (.int .i64 n.fr.ln) ∧ w.cell? ⟨g, 7, none⟩ = some (.slice p.ad n.fr.D.length p.cd) :=
  ⟨h.cells.2.2.2.2.1, h.cells.2.2.2.2.2.1, h.cells.2.2.2.2.2.2.1, h.cells.2.2.2.2.2.2.2.1⟩
/-- Its lists have addresses, and room for what they hold. -/
structure NdA (n : Nd) (p : NdP) : Prop where
  box : n.box.length ≤ p.cb ∧ Addressed p.ab p.cb
  fifo : n.fifo.length ≤ p.cf ∧ Addressed p.af p.cf
end Go.Proofs.YtngcekegngmedaaGreat

/- What stands from a block on; a copied list's frozen room. -/

set_option linter.unusedVariables false
set_option linter.unusedSimpArgs false
set_option maxRecDepth 20000
namespace Go.Proofs.YtngcekegngmedaaGreat
open Go.RowKit

theorem grown_setRow (w : World) (g : Nat) (D : Array Value) : w.grownBy (w.setRow g D) (some g) := ⟨rfl, rfl, rfl, by simp, fun k hk hne => setRow_other w g k D (fun e => hne (by rw [e]))⟩
/-- u has what w has, from block B on. -/
structure Up (B : Nat) (w u : World) : Prop where
  size : w.heap.size ≤ u.heap.size
  block : ∀ k, B ≤ k → k < w.heap.size → u.heap[k]? = w.heap[k]?
  os : u.os = w.os
  tape : u.tape = w.tape
  output : u.output = w.output
theorem Up.trans {B : Nat} {a b c : World} (h : Up B a b) (k : Up B b c) : Up B a c := ⟨Nat.le_trans h.size k.size, fun q hq hl => (k.block q hq (Nat.lt_of_lt_of_le hl h.size)).trans (h.block q hq hl), k.os.trans h.os, k.tape.trans h.tape, k.output.trans h.output⟩
theorem Up.higher {B B' : Nat} {w u : World} (h : Up B w u) (hB : B ≤ B') : Up B' w u := ⟨h.size, fun q hq hl => h.block q (Nat.le_trans hB hq) hl, h.os, h.tape, h.output⟩
theorem Up.refl (B : Nat) (w : World) : Up B w w := ⟨Nat.le_refl _, fun _ _ _ => rfl, rfl, rfl, rfl⟩
theorem Up.grown {B g : Nat} {w u v : World} (h : Up B w u) (k : u.grownBy v (some g)) (hg : g < B) : Up B w v := h.trans ⟨k.size, fun q hq hl => k.block q hl (fun e => by cases e; omega), k.os, k.tape, k.output⟩
theorem Up.ofBelow {B : Nat} {w u : World} (b : Below w.heap.size w u) : Up B w u := ⟨b.size, fun q _ hl => b.block q hl, b.os, b.tape, b.output⟩
theorem Up.mid {B : Nat} {w u : World} (h : Up B w u) : ∃ v, Mid 0 B w v ∧ v = u := ⟨u, ⟨h.os, h.tape, h.output, h.size, fun k hk hc => by rcases hc with hc | hc; omega; exact h.block k hc hk⟩, rfl⟩
theorem OwnF.up {B lo : Nat} {M : List (Frm × Value)} {v : Value} {w u : World} (h : OwnF B M v w) (k : Up lo w u) (hB : lo ≤ B) : OwnF B M v u := by obtain ⟨x, m, rfl⟩ := k.mid; exact h.mid m hB
theorem OwnI.up {B lo : Nat} {D : List Int} {v : Value} {w u : World} (h : OwnI B D v w) (k : Up lo w u) (hB : lo ≤ B) : OwnI B D v u := by obtain ⟨x, m, rfl⟩ := k.mid; exact h.mid m hB
end Go.Proofs.YtngcekegngmedaaGreat

/- A node whose memory lies in four intervals that do not meet; its marks, and the look for them; what happened. -/

set_option linter.unusedVariables false
set_option linter.unusedSimpArgs false
set_option maxRecDepth 20000
namespace Go.Proofs.YtngcekegngmedaaGreat
open Go.RowKit

/-- Where a node's memory lies: its frame's data, box, fifo, filters. -/
structure NdJ where
  d0 : Nat
  d1 : Nat
  x0 : Nat
  x1 : Nat
  f0 : Nat
  f1 : Nat
  l0 : Nat
  l1 : Nat
structure NdJ.Ok (j : NdJ) (lo hi : Nat) : Prop where
  d : lo ≤ j.d0 ∧ j.d0 ≤ j.d1 ∧ j.d1 ≤ hi
  x : lo ≤ j.x0 ∧ j.x0 ≤ j.x1 ∧ j.x1 ≤ hi
  f : lo ≤ j.f0 ∧ j.f0 ≤ j.f1 ∧ j.f1 ≤ hi
  l : lo ≤ j.l0 ∧ j.l0 ≤ j.l1 ∧ j.l1 ≤ hi
  dx : j.d1 ≤ j.x0 ∨ j.x1 ≤ j.d0
  df : j.d1 ≤ j.f0 ∨ j.f1 ≤ j.d0
  dl : j.d1 ≤ j.l0 ∨ j.l1 ≤ j.d0
  xf : j.x1 ≤ j.f0 ∨ j.f1 ≤ j.x0
  xl : j.x1 ≤ j.l0 ∨ j.l1 ≤ j.x0
  fl : j.f1 ≤ j.l0 ∨ j.l1 ≤ j.f0
structure NdI (j : NdJ) (lo hi : Nat) (n : Nd) (p : NdP) (MB MF : List (Frm × Value)) (w : World) : Prop where
  dat : OwnI j.d0 n.fr.D (.slice p.ad n.fr.D.length p.cd) w
  box : OwnF j.x0 MB (.slice p.ab n.box.length p.cb) w
  fifo : OwnF j.f0 MF (.slice p.af n.fifo.length p.cf) w
  flt : OwnP j.l0 n.flt (.slice p.al n.flt.length p.cl) w
  mb : (MB.map fun m => m.1) = n.box
  mf : (MF.map fun m => m.1) = n.fifo
  fb : Far MB
  ff : Far MF
  ud : ∀ q, (Value.slice p.ad n.fr.D.length p.cd).ownBlock = some q → q < j.d1
  ux : Under j.x1 MB (.slice p.ab n.box.length p.cb)
  uf : Under j.f1 MF (.slice p.af n.fifo.length p.cf)
  ul : ∀ q, (Value.slice p.al n.flt.length p.cl).ownBlock = some q → q < j.l1
  ok : j.Ok lo hi
  got : n.got.size ≤ maxLen
section
variable {B E lo hi lo' hi' : Nat} {w w' : World} {n : Nd} {p : NdP} {MB MF : List (Frm × Value)} {j : NdJ}
theorem OwnI.sep {D : List Int} {v : Value} (h : OwnI B D v w) (k : Mid lo hi w w') (hu : ∀ q, v.ownBlock = some q → q < E) (hs : E ≤ lo ∨ hi ≤ B) : OwnI B D v w' := by
  rcases hs with hs | hs
  · exact h.midLow k fun q hq => Nat.lt_of_lt_of_le (hu q hq) hs
  · exact h.mid k hs
theorem Under.to {M : List (Frm × Value)} {v : Value} (h : Under E M v) (he : E ≤ hi) : Under hi M v := ⟨fun q hq => Nat.lt_of_lt_of_le (h.1 q hq) he, fun m hm q hq => Nat.lt_of_lt_of_le (h.2 m hm q hq) he⟩
theorem OwnF.sep {M : List (Frm × Value)} {v : Value} (h : OwnF B M v w) (k : Mid lo hi w w') (hu : Under E M v) (hs : E ≤ lo ∨ hi ≤ B) : OwnF B M v w' := by
  rcases hs with hs | hs
  · exact h.midLow k (hu.to hs)
  · exact h.mid k hs
theorem OwnP.midLow {M : List (Int × Int)} {v : Value} (h : OwnP B M v w) (k : Mid lo hi w w') (hu : ∀ q, v.ownBlock = some q → q < lo) : OwnP B M v w' := by
  obtain ⟨h1, h2 | ⟨g, cap, cur, e, hb, hg, r⟩⟩ := h
  · exact ⟨h1, .inl h2⟩
  · exact ⟨h1, .inr ⟨g, cap, cur, e, hb, (k.block g (Array.getElem?_eq_some_iff.1 hg).1 (.inl (hu g (by rw [e]; rfl)))).trans hg, r⟩⟩
theorem OwnP.sep {M : List (Int × Int)} {v : Value} (h : OwnP B M v w) (k : Mid lo hi w w') (hu : ∀ q, v.ownBlock = some q → q < E) (hs : E ≤ lo ∨ hi ≤ B) : OwnP B M v w' := by
  rcases hs with hs | hs
  · exact h.midLow k fun q hq => Nat.lt_of_lt_of_le (hu q hq) hs
  · exact h.mid k hs
theorem NdI.below (h : NdI j lo hi n p MB MF w) (b : Below w.heap.size w w') : NdI j lo hi n p MB MF w' :=
  ⟨h.dat.below' b, h.box.below b, h.fifo.below b, h.flt.below b, h.mb, h.mf, h.fb, h.ff, h.ud, h.ux, h.uf, h.ul, h.ok, h.got⟩
/-- Where something else turns, this stays. -/
theorem NdI.sep (h : NdI j lo hi n p MB MF w) (k : Mid lo' hi' w w') (hs : hi ≤ lo' ∨ hi' ≤ lo) : NdI j lo hi n p MB MF w' := by
  have k1 := h.ok.d; have k2 := h.ok.x; have k3 := h.ok.f; have k4 := h.ok.l
  exact ⟨h.dat.sep k h.ud (by omega), h.box.sep k h.ux (by omega), h.fifo.sep k h.uf (by omega), h.flt.sep k h.ul (by omega), h.mb, h.mf, h.fb, h.ff, h.ud, h.ux, h.uf, h.ul, h.ok, h.got⟩
theorem NdI.ndm (h : NdI j lo hi n p MB MF w) (hs : roomN n ≤ 1048576) : NdM n p w := by
  unfold roomN at hs
  exact ⟨h.dat.nums2, h.box.frsOf h.mb (by omega), h.fifo.frsOf h.mf (by omega), (h.flt.flsAt (by omega)).2, h.got⟩
theorem NdJ.Ok.wide (h : j.Ok lo hi) (h1 : lo' ≤ lo) (h2 : hi ≤ hi') : j.Ok lo' hi' := by
  obtain ⟨a, b, c, d, e1, e2, e3, e4, e5, e6⟩ := h
  exact ⟨by omega, by omega, by omega, by omega, e1, e2, e3, e4, e5, e6⟩
theorem NdI.wide (h : NdI j lo hi n p MB MF w) (h1 : lo' ≤ lo) (h2 : hi ≤ hi') : NdI j lo' hi' n p MB MF w := { h with ok := h.ok.wide h1 h2 }
end
theorem NdO.ndI {B b1 b2 b3 hi : Nat} {n : Nd} {p : NdP} {MB MF : List (Frm × Value)} {w : World} (h : NdO B b1 b2 b3 n p MB MF w) (hu : ∀ q, (Value.slice p.al n.flt.length p.cl).ownBlock = some q → q < hi) (hh : b3 ≤ hi) :
    NdI ⟨B, b1, b1, b2, b2, b3, b3, hi⟩ B hi n p MB MF w := by
  obtain ⟨l1, l2, l3⟩ := h.le
  refine ⟨h.dat, h.box, h.fifo, h.flt, h.mb, h.mf, h.fb, h.ff, h.ub, h.ux, h.uf, hu, ⟨?_, ?_, ?_, ?_, ?_, ?_, ?_, ?_, ?_, ?_⟩, h.got⟩ <;> dsimp only <;> omega


end Go.Proofs.YtngcekegngmedaaGreat

/- The blocks that hold what Sampled answered; a node's memory, bounded; how much room a right node takes. -/

set_option linter.unusedVariables false
set_option linter.unusedSimpArgs false
set_option maxRecDepth 20000
namespace Go.Proofs.YtngcekegngmedaaGreat
open Go.RowKit

theorem ownLtP {B : Nat} {M : List (Int × Int)} {v : Value} {w : World} (h : OwnP B M v w) : ∀ q, v.ownBlock = some q → q < w.heap.size := fun q hq => (World.ownsRow.lt h q hq).2
theorem OwnP.bare {B n c : Nat} {M : List (Int × Int)} {a : Option Addr} {w : World} (h : OwnP B M (.slice a n c) w) : a = none → c = 0 := by
  intro e
  rcases h.2 with ⟨k, _⟩ | ⟨g, cap, cur, k, _⟩
  · cases k; rfl
  · subst e; cases k
/-- Its bounds may be taken no higher than what is there. -/
theorem NdO.ndI2 {B b1 b2 b3 H : Nat} {n : Nd} {p : NdP} {MB MF : List (Frm × Value)} {w : World} (h : NdO B b1 b2 b3 n p MB MF w) (hu : ∀ q, (Value.slice p.al n.flt.length p.cl).ownBlock = some q → q < H) (hh : b3 ≤ H) (hB : B ≤ w.heap.size) :
    NdI ⟨B, min b1 w.heap.size, min b1 w.heap.size, min b2 w.heap.size, min b2 w.heap.size, min b3 w.heap.size, min b3 w.heap.size, min H w.heap.size⟩ B (min H w.heap.size) n p MB MF w := by
  obtain ⟨l1, l2, l3⟩ := h.le
  have ub := h.box.under
  have uf := h.fifo.under
  refine ⟨h.dat, h.box.mono (Nat.min_le_left _ _), h.fifo.mono (Nat.min_le_left _ _), h.flt.mono (Nat.min_le_left _ _), h.mb, h.mf, h.fb, h.ff, fun q hq => ?_, ⟨fun q hq => ?_, fun m hm q hq => ?_⟩, ⟨fun q hq => ?_, fun m hm q hq => ?_⟩, fun q hq => ?_, ⟨?_, ?_, ?_, ?_, ?_, ?_, ?_, ?_, ?_, ?_⟩, h.got⟩ <;> dsimp only
  · have h1 := h.ub q hq; have h2 := (h.dat.1.lt q hq).2; omega
  · have h1 := h.ux.1 q hq; have h2 := ub.1 q hq; omega
  · have h1 := h.ux.2 m hm q hq; have h2 := ub.2 m hm q hq; omega
  · have h1 := h.uf.1 q hq; have h2 := uf.1 q hq; omega
  · have h1 := h.uf.2 m hm q hq; have h2 := uf.2 m hm q hq; omega
  · have h1 := hu q hq; have h2 := ownLtP h.flt q hq; omega
  all_goals omega
theorem NdO.ndI3 {B b1 b2 b3 : Nat} {n : Nd} {p : NdP} {MB MF : List (Frm × Value)} {w : World} (h : NdO B b1 b2 b3 n p MB MF w) (hB : B ≤ w.heap.size) : ∃ j, NdI j B w.heap.size n p MB MF w := by
  have e : min (max b3 w.heap.size) w.heap.size = w.heap.size := by omega
  have k := h.ndI2 (H := max b3 w.heap.size) (fun q hq => by have h2 := ownLtP h.flt q hq; omega) (by omega) hB
  rw [e] at k
  exact ⟨_, k⟩
theorem NdO.nda {B b1 b2 b3 : Nat} {n : Nd} {p : NdP} {MB MF : List (Frm × Value)} {w : World} (h : NdO B b1 b2 b3 n p MB MF w) : NdA n p := ⟨⟨h.box.len.2, h.box.addressed⟩, ⟨h.fifo.len.2, h.fifo.addressed⟩⟩
theorem NdI.nda {j : NdJ} {lo hi : Nat} {n : Nd} {p : NdP} {MB MF : List (Frm × Value)} {w : World} (h : NdI j lo hi n p MB MF w) : NdA n p := ⟨⟨h.box.len.2, h.box.addressed⟩, ⟨h.fifo.len.2, h.fifo.addressed⟩⟩

/-! ### A right node takes little room. -/
theorem room_8 {L : List Frm} (h : ∀ j, j < L.length → (nthF L j).D.length ≤ 8) : ∀ j, j ≤ L.length → room L j ≤ 8 * j
  | 0, _ => by rw [room_zero]; omega
  | j + 1, hj => by
    have h1 := room_8 h j (by omega)
    have h2 := h j (by omega)
    rw [room_succ _ _ (by omega)]; omega
theorem fifoB_32 {L : List Frm} (h : fifoB L = true) : L.length ≤ 32 := by simp only [fifoB, Bool.and_eq_true, decide_eq_true_eq] at h; exact h.1
theorem frB_8 {f : Frm} (h : frB f = true) : f.D.length ≤ 8 := by have := frOk_max (show frOk f.id f.rm f.ln f.D = true from h); omega
theorem roomN_right {n : Nd} (h : nodeB n = true) : roomN n ≤ 600 := by
  obtain ⟨R, -⟩ := right_iff.1 h
  have hb := boxB_iff.1 R.box
  have h1 := frB_8 R.fr
  have h2 := room_8 (L := n.box) (fun j hj => by
    cases hf : frB (nthF n.box j) with
    | true => exact frB_8 hf
    | false => have h3 := rk_neg hf; have h4 := (hb.2 j hj).1; omega) _ (Nat.le_refl _)
  have h32 := fifoB_32 R.fifo
  have h3 := room_8 (L := n.fifo) (fun j hj => by
    have h3 := R.fifo
    simp only [fifoB, Bool.and_eq_true, List.all_eq_true] at h3
    exact frB_8 (h3.2 _ (by rw [nthF_eq hj]; exact List.getElem_mem hj))) _ (Nat.le_refl _)
  have h4 := R.size
  have h5 := R.flt.1
  have h6 := hb.1
  unfold roomN; omega
theorem small_1000 {n : Nd} (h : nodeB n = true) : n.fr.D.length ≤ 1000 ∧ n.box.length ≤ 1000 ∧ (∀ j, j < n.box.length → (nthF n.box j).D.length ≤ 1000) ∧ n.fifo.length ≤ 1000 ∧ (∀ j, j < n.fifo.length → (nthF n.fifo j).D.length ≤ 1000) ∧ n.flt.length ≤ 1000 := by
  obtain ⟨R, -⟩ := right_iff.1 h
  have hb := boxB_iff.1 R.box
  have h32 := fifoB_32 R.fifo
  refine ⟨by have := frB_8 R.fr; omega, by omega, fun j hj => ?_, by omega, fun j hj => ?_, by have := R.flt.1; omega⟩
  · cases hf : frB (nthF n.box j) with
    | true => have := frB_8 hf; omega
    | false => have h3 := rk_neg hf; have h4 := (hb.2 j hj).1; omega
  · have h3 := R.fifo
    simp only [fifoB, Bool.and_eq_true, List.all_eq_true] at h3
    have := frB_8 (h3.2 _ (by rw [nthF_eq hj]; exact List.getElem_mem hj) : frB (nthF n.fifo j) = true); omega
theorem roomN_zero : roomN (znd []) = 0 := by decide
theorem k4N_bd {k : Int} {n : Nd} (h0 : 0 ≤ k) (h1 : k ≤ 1000000) (hs : roomN n ≤ 1048576) : 0 ≤ k4N k n ∧ k4N k n ≤ 30000000 := by
  obtain ⟨-, -, h2, h3⟩ := kN_bd h0 h1 hs
  unfold roomN at hs
  unfold k4N; omega
end Go.Proofs.YtngcekegngmedaaGreat

/- Slices of nodes that the call owns; laws.toNodeS, laws.toBus. -/

set_option linter.unusedVariables false
set_option linter.unusedSimpArgs false
set_option maxRecDepth 20000
namespace Go.Proofs.YtngcekegngmedaaGreat
open Go.RowKit

/-! ### Cells in the middle of a row. -/
theorem mid_cell (w : World) (g k : Nat) (v : Value) : Mid g (g + 1) w (w.setCell ⟨g, k, none⟩ v) := (Mid.refl g (g + 1) w).grown (grown_at_cell w g k v) (fun q hq => by cases hq; omega)
theorem setCells_row (G : Nat) (T : TypeId) : ∀ (vs : List Value) (o : Nat) (cur : Array Value) (w : World), w.heap[G]? = some (.cells cur T (0, 0)) → o + vs.length ≤ cur.size →
    ∃ cur', (w.setCells G o vs).heap[G]? = some (.cells cur' T (0, 0)) ∧ cur'.size = cur.size ∧ (∀ i v, vs[i]? = some v → cur'[o + i]? = some v) ∧ (∀ i, i < o ∨ o + vs.length ≤ i → cur'[i]? = cur[i]?) ∧ Mid G (G + 1) w (w.setCells G o vs)
  | [], o, cur, w, h, hb => ⟨cur, h, rfl, fun i v hv => by simp at hv, fun _ _ => rfl, Mid.refl _ _ _⟩
  | v :: r, o, cur, w, h, hb => by
    rw [List.length_cons] at hb
    obtain ⟨cur', h1, h2, h3, h4, h5⟩ := setCells_row G T r (o + 1) (cur.setIfInBounds o v) (w.setCell ⟨G, o, none⟩ v) (heap_setCell_same _ _ _ _ _ _ h) (by simp; omega)
    refine ⟨cur', h1, by rw [h2]; simp, fun i u hu => ?_, fun i hi => ?_, ?_⟩
    · cases i with
      | zero =>
        obtain rfl : v = u := by simpa using hu
        rw [Nat.add_zero, h4 o (.inl (by omega)), Array.getElem?_setIfInBounds]
        simp; omega
      | succ i =>
        have := h3 i u (by simpa using hu)
        rwa [show o + (i + 1) = o + 1 + i by omega]
    · rw [List.length_cons] at hi
      rw [h4 i (by omega), Array.getElem?_setIfInBounds, if_neg (by omega)]
    · exact (mid_cell w G o v).trans h5
theorem there_row {G o n : Nat} {T : TypeId} {cur : Array Value} {w : World} (h : w.heap[G]? = some (.cells cur T (0, 0))) (hb : o + n ≤ cur.size) : w.there G o n := fun j hj => by
  refine ⟨?_, frozen_of_row w G _ _ _ h⟩
  rw [cell_of_row w G _ _ _ _ h, Array.getElem?_eq_getElem (by omega)]; rfl
section
variable {G o : Nat} {T : TypeId} {cur : Array Value} {n : Nd} {p : NdP} {w : World} {ops : Array Oper} {rest : List Oper} {x : Oper} {a : Act} {Q : Exit → Act → World → Prop}
/-- A whole node goes into the middle of a row. -/
theorem row_put (h : w.heap[G]? = some (.cells cur T (0, 0))) (hb : o + 18 ≤ cur.size) {y z : Operand} (ho : x.op = .store 46 y z) {o' : Nat} (hy : a.eval y = .pointer (some ⟨G, o', none⟩)) (hoo : o' = o) (hz : a.eval z = ndV n p)
    (hw : Region.wanted x (yielded ops a.tmps) = true) (k : wpList Tryz.prog ops Q rest (a.put x.dst undef) (w.setCells G o (ndC n p).toList)) : wpList Tryz.prog ops Q (x :: rest) a w := by
  rw [hoo] at hy
  exact BigFrame.wpList_want hw fun _ hK => wp_store_mid 46 y z ho G o (ndC n p) hy hz (there_row h hb) (by kernel_rfl) (ndC_one n p) (hK _ _ k)
end

/-- The walk stands still ahead of a node's store: 'go_wp2_with (refine stay_store rfl ?_)', then 'refine ⟨row_put .. ?_⟩'. -/
structure Stay (p : Prop) : Prop where
  out : p
theorem stay_store {ops : Array Oper} {rest : List Oper} {x : Oper} {a : Act} {w : World} {Q : Exit → Act → World → Prop} {y z : Operand} (ho : x.op = .store 46 y z) (k : Stay (wpList Tryz.prog ops Q (x :: rest) a w)) : wpList Tryz.prog ops Q (x :: rest) a w := k.out

theorem below_cells {B G o : Nat} {T : TypeId} {vs : List Value} {cur : Array Value} {w0 w : World} (b : Below B w0 w) (hB : B ≤ w0.heap.size) (hG : B ≤ G) (h : w.heap[G]? = some (.cells cur T (0, 0))) (hb : o + vs.length ≤ cur.size) : Below B w0 (w.setCells G o vs) := by
  obtain ⟨cur', c1, c2, c3, c4, c5⟩ := setCells_row G T vs o cur w h hb
  exact b.trans (c5.below hG (Nat.le_trans hB b.size))
theorem size_cells (G : Nat) : ∀ (vs : List Value) (o : Nat) (w : World), (w.setCells G o vs).heap.size = w.heap.size
  | [], _, _ => rfl
  | v :: r, o, w => by rw [World.setCells, size_cells G r]; simp

/-! ### A row of nodes that the call owns. -/
structure RowN (B G hi cap k : Nat) (N : List Nd) (P : Nat → NdP) (J : Nat → NdJ) (L H : Nat → Nat) (MB MF : Nat → List (Frm × Value)) (cur : Array Value) (w : World) : Prop where
  blk : w.heap[G]? = some (.cells cur 46 (0, 0))
  len : cur.size = cap * 18
  cel : ∀ j, j < k → ∀ i v, (ndC (nthN N j) (P j)).toList[i]? = some v → cur[j * 18 + i]? = some v
  mem : ∀ j, j < k → NdI (J j) (L j) (H j) (nthN N j) (P j) (MB j) (MF j) w
  far : ∀ i j, i < j → j < k → H i ≤ L j ∨ H j ≤ L i
  out : ∀ j, j < k → B ≤ L j ∧ L j ≤ H j ∧ H j ≤ hi ∧ (G < L j ∨ H j ≤ G)
  top : B ≤ G ∧ G < hi
  kc : k ≤ cap
def OwnN (B G hi cap k : Nat) (N : List Nd) (w : World) : Prop := ∃ P J L H MB MF cur, RowN B G hi cap k N P J L H MB MF cur w
section
variable {B G hi cap k : Nat} {N : List Nd} {P : Nat → NdP} {J : Nat → NdJ} {L H : Nat → Nat} {MB MF : Nat → List (Frm × Value)} {cur : Array Value} {w w' : World}
theorem RowN.below (h : RowN B G hi cap k N P J L H MB MF cur w) (b : Below w.heap.size w w') : RowN B G hi cap k N P J L H MB MF cur w' :=
  ⟨(b.block G (Array.getElem?_eq_some_iff.1 h.blk).1).trans h.blk, h.len, h.cel, fun j hj => (h.mem j hj).below b, h.far, h.out, h.top, h.kc⟩
theorem OwnN.below (h : OwnN B G hi cap k N w) (b : Below w.heap.size w w') : OwnN B G hi cap k N w' := by
  obtain ⟨P, J, L, H, MB, MF, cur, h⟩ := h
  exact ⟨P, J, L, H, MB, MF, cur, h.below b⟩
/-- Where something else turns, these stay. -/
theorem OwnN.sep {lo' hi' : Nat} (h : OwnN B G hi cap k N w) (m : Mid lo' hi' w w') (hs : hi ≤ lo' ∨ hi' ≤ B) : OwnN B G hi cap k N w' := by
  obtain ⟨P, J, L, H, MB, MF, cur, h⟩ := h
  have ht := h.top
  refine ⟨P, J, L, H, MB, MF, cur, ⟨(m.block G (Array.getElem?_eq_some_iff.1 h.blk).1 (by omega)).trans h.blk, h.len, h.cel, fun j hj => ?_, h.far, h.out, h.top, h.kc⟩⟩
  have ho := h.out j hj
  exact (h.mem j hj).sep m (by omega)
theorem OwnN.wide {hi' : Nat} (h : OwnN B G hi cap k N w) (hh : hi ≤ hi') : OwnN B G hi' cap k N w := by
  obtain ⟨P, J, L, H, MB, MF, cur, h⟩ := h
  have ht := h.top
  refine ⟨P, J, L, H, MB, MF, cur, ⟨h.blk, h.len, h.cel, h.mem, h.far, fun j hj => ?_, by omega, h.kc⟩⟩
  have ho := h.out j hj
  omega
theorem OwnN.blk (h : OwnN B G hi cap k N w) : ∃ cur, w.heap[G]? = some (.cells cur 46 (0, 0)) ∧ cur.size = cap * 18 := by
  obtain ⟨P, J, L, H, MB, MF, cur, h⟩ := h
  exact ⟨cur, h.blk, h.len⟩
/-- A node is stored behind the others. -/
theorem OwnN.put (h : OwnN B G hi cap k N w) (hk : k < cap) {n : Nd} {p : NdP} {j : NdJ} {lo hi' : Nat} {MB' MF' : List (Frm × Value)} (hn : nthN N k = n) (ho : NdI j lo hi' n p MB' MF' w) (h1 : hi ≤ lo) (h2 : lo ≤ hi') :
    OwnN B G hi' cap (k + 1) N (w.setCells G (k * 18) (ndC n p).toList) := by
  obtain ⟨P, J, L, H, MB, MF, cur, h⟩ := h
  have ht := h.top
  have hl := h.len
  obtain ⟨cur', c1, c2, c3, c4, c5⟩ := setCells_row G 46 (ndC n p).toList (k * 18) cur w h.blk (by rw [hl]; show k * 18 + 18 ≤ cap * 18; omega)
  refine ⟨fun i => if i = k then p else P i, fun i => if i = k then j else J i, fun i => if i = k then lo else L i, fun i => if i = k then hi' else H i, fun i => if i = k then MB' else MB i, fun i => if i = k then MF' else MF i, cur', ⟨c1, by rw [c2, hl], fun i hi0 => ?_, fun i hi0 => ?_, fun i q hiq hq => ?_, fun i hi0 => ?_, by omega, hk⟩⟩
  · by_cases e : i = k
    · subst e
      simp only [↓reduceIte, hn]
      exact c3
    · simp only [if_neg e]
      intro q v hv
      have hq : q < 18 := (List.getElem?_eq_some_iff.1 hv).1
      rw [c4 _ (.inl (by omega))]
      exact h.cel i (by omega) q v hv
  · by_cases e : i = k
    · subst e
      simp only [↓reduceIte, hn]
      exact ho.sep c5 (.inr (by omega))
    · simp only [if_neg e]
      have ho' := h.out i (by omega)
      exact (h.mem i (by omega)).sep c5 (by omega)
  · have hi1 := h.out i (by omega)
    by_cases e : q = k
    · subst e
      simp only [↓reduceIte, if_neg (show ¬ i = q by omega)]
      exact .inl (by omega)
    · simp only [if_neg e, if_neg (show ¬ i = k by omega)]
      exact h.far i q hiq (by omega)
  · by_cases e : i = k
    · subst e
      simp only [↓reduceIte]
      exact ⟨by omega, h2, Nat.le_refl _, .inl (by omega)⟩
    · simp only [if_neg e]
      have ho' := h.out i (by omega)
      exact ⟨ho'.1, ho'.2.1, by omega, ho'.2.2.2⟩
theorem OwnN.nds (h : OwnN B G hi cap N.length N w) (hm : N.length ≤ maxLen) (hs : sumN N N.length ≤ 1048576) : Nds Bare (some ⟨G, 0, none⟩) N w := by
  obtain ⟨P, J, L, H, MB, MF, cur, h⟩ := h
  refine ⟨hm, fun j hj => ⟨G, 0, P j, rfl, fun i v hv => ?_, (h.mem j hj).ndm (by have := sumN_at N hj; omega), (h.mem j hj).flt.bare⟩⟩
  rw [cell_of_row w G _ _ _ _ h.blk, Nat.zero_add]
  exact h.cel j hj i v hv
end
theorem make_nodes (c : Nat) (hc : c ≤ 1048576) (W : World) : (Instr.makeSlice 24 (.int .i64 c) (.int .i64 c)).run Tryz.prog W =
    .ok (.slice (some ⟨W.heap.size, 0, none⟩) c c) (W.alloc (.cells (madeCells ndZ (c * 18)) 46)) := by
  obtain ⟨i0, hi, hz0, hz1, hz2⟩ := info_parts (show (Tryz.prog.info? 46).map (fun i => (i.zero, i.size, i.bytes)) = some (some (.agg ndZ), 18, 200) by kernel_rfl)
  have := run_make (P := Tryz.prog) W 24 46 i0 (.agg ndZ) Tryz.underlying24 hi hz0 .i64 .i64 c c (by omega) (Int.le_refl _) (by rw [hz2]; omega) (by omega)
  rw [this, hz1]
  simp only [Int.toNat_natCast]
  rfl

theorem three_made (w : World) (C D E : Array Value) (T T' T'' : TypeId) : (((w.alloc (.cells C T)).alloc (.cells D T')).alloc (.cells E T'')).heap[w.heap.size]? = some (.cells C T (0, 0)) ∧ (((w.alloc (.cells C T)).alloc (.cells D T')).alloc (.cells E T'')).heap[w.heap.size + 1]? = some (.cells D T' (0, 0))
    ∧ (((w.alloc (.cells C T)).alloc (.cells D T')).alloc (.cells E T'')).heap[w.heap.size + 2]? = some (.cells E T'' (0, 0)) ∧ Below w.heap.size w (((w.alloc (.cells C T)).alloc (.cells D T')).alloc (.cells E T'')) := by
  obtain ⟨h1, h2, b⟩ := two_made w C D T T'
  have h3 := heap_alloc_new ((w.alloc (.cells C T)).alloc (.cells D T')) (.cells E T'')
  have hs : ((w.alloc (.cells C T)).alloc (.cells D T')).heap.size = w.heap.size + 2 := by simp
  rw [hs] at h3
  have k := below_more (Below.refl _ ((w.alloc (.cells C T)).alloc (.cells D T'))) (.cells E T'')
  exact ⟨(k.block _ (by omega)).trans h1, (k.block _ (by omega)).trans h2, h3, below_more b (.cells E T'')⟩
end Go.Proofs.YtngcekegngmedaaGreat

/- Slices of lists of filters; laws.szFilterSS, toFilterSS, eqFilterSS, markFilterSS. -/

set_option linter.unusedVariables false
set_option linter.unusedSimpArgs false
set_option maxRecDepth 20000
namespace Go.Proofs.YtngcekegngmedaaGreat
open Go.RowKit

def nthG (F : List (List (Int × Int))) (j : Nat) : List (Int × Int) := F.getD j []
theorem nthG_eq {F : List (List (Int × Int))} {j : Nat} (h : j < F.length) : nthG F j = F[j] := by simp [nthG, h]
theorem nthG_mem {F : List (List (Int × Int))} {j : Nat} (h : j < F.length) : nthG F j ∈ F := by rw [nthG_eq h]; exact List.getElem_mem h
/-- Element j of the slice at a is the list L. -/
def FsAt (a : Option Addr) (j : Nat) (L : List (Int × Int)) (w : World) : Prop := ∃ g o al cl, a = some ⟨g, o, none⟩ ∧ w.cell? ⟨g, o + j, none⟩ = some (.slice al L.length cl) ∧ Fls al L w ∧ (al = none → cl = 0)
theorem FsAt.below {a : Option Addr} {j : Nat} {L : List (Int × Int)} {w w' : World} (h : FsAt a j L w) (b : Below w.heap.size w w') : FsAt a j L w' := by
  obtain ⟨g, o, al, cl, ha, hc, hf, hn⟩ := h
  exact ⟨g, o, al, cl, ha, (b.cell (World.block_lt_of_cell? w _ hc)).trans hc, hf.below b, hn⟩
/-- The slice at a holds the lists F. -/
def Fss (a : Option Addr) (F : List (List (Int × Int))) (w : World) : Prop := F.length ≤ maxLen ∧ ∀ j, j < F.length → FsAt a j (nthG F j) w
theorem Fss.below {a : Option Addr} {F : List (List (Int × Int))} {w w' : World} (h : Fss a F w) (b : Below w.heap.size w w') : Fss a F w' := ⟨h.1, fun j hj => (h.2 j hj).below b⟩
/-- How many filters the first k lists hold. -/
def sumG (F : List (List (Int × Int))) (k : Nat) : Nat := ((F.take k).map List.length).sum
theorem sumG_zero (F : List (List (Int × Int))) : sumG F 0 = 0 := by simp [sumG]
theorem sumG_succ (F : List (List (Int × Int))) (k : Nat) (h : k < F.length) : sumG F (k + 1) = sumG F k + (nthG F k).length := by
  have e : F.take (k + 1) = F.take k ++ [nthG F k] := by
    rw [List.take_add_one, List.getElem?_eq_getElem h, nthG, List.getD_eq_getElem?_getD, List.getElem?_eq_getElem h]; rfl
  unfold sumG
  rw [e, List.map_append, List.sum_append]
  simp
theorem sumG_le (F : List (List (Int × Int))) {j k : Nat} (h : j ≤ k) : sumG F j ≤ sumG F k := by
  induction k with
  | zero => rw [Nat.le_zero.1 h]; exact Nat.le_refl _
  | succ k ih =>
    by_cases e : j = k + 1
    · rw [e]; exact Nat.le_refl _
    · refine Nat.le_trans (ih (by omega)) ?_
      by_cases hk : k < F.length
      · rw [sumG_succ F k hk]; omega
      · simp [sumG, List.take_of_length_le (Nat.le_of_not_lt hk), List.take_of_length_le (Nat.le_succ_of_le (Nat.le_of_not_lt hk))]
theorem sumG_at (F : List (List (Int × Int))) {j : Nat} (h : j < F.length) : (nthG F j).length ≤ sumG F F.length := by
  have h1 := sumG_succ F j h
  have h2 := sumG_le F (show j + 1 ≤ F.length by omega)
  omega
def roomG (F : List (List (Int × Int))) : Nat := F.length + sumG F F.length

/-- laws.szFilterSS. -/
theorem szFssAny (a : Option Addr) (F : List (List (Int × Int))) (c : Nat) (left : Int) (w : World) (hd : Fss a F w) (hl0 : 0 ≤ left) (hl1 : left ≤ 1048576) :
    Calls Tryz.prog 4 #[.slice a F.length c, .int .i64 left] w fun e w' => SzR left (roomG F) e ∧ w = w' := by
  have hm := hd.1
  unfold maxLen at hm
  unfold roomG
  go_enter Tryz.func4, Tryz.ntmps4
  by_cases h0 : left < F.length
  · have HR : Hid (SzR left (F.length + sumG F F.length) (.returned (.int .i64 (-1)))) := Lib.hid (.inr ⟨by omega, rfl⟩)
    go_wp2_with fail
    go_ret
    exact ⟨HR.out, rfl⟩
  go_wp2_with fail
  go_loopw [1, 5] (fun l i wr => ∃ k : Nat, k ≤ F.length ∧ (F.length : Int) + sumG F k ≤ left ∧ i = .int .i64 k ∧ l = .int .i64 (left - (F.length : Int) - sumG F k) ∧ w = wr) (fun _ i _ => F.length - (intOf i).toNat)
  case atStart => exact ⟨0, Nat.zero_le _, by rw [sumG_zero]; omega, rfl, by rw [sumG_zero]; simp, rfl⟩
  case round =>
    obtain ⟨k, hk, hr, rfl, rfl, rfl⟩ := hrel
    by_cases hlt : k < F.length
    · obtain ⟨g, o, al, cl, rfl, hc, hf, -⟩ := hd.2 k hlt
      have hs := sumG_succ F k hlt
      have hl := sumG_le F (show k + 1 ≤ F.length by omega)
      have hfm := hf.1
      generalize nthG F k = L at *
      have hlo : 0 ≤ left - (F.length : Int) - sumG F k := by omega
      have hhi : left - (F.length : Int) - sumG F k ≤ 1048576 := by omega
      go_wp2_with fail
      refine (szFltAny al L.length cl _ _ hfm hlo hhi).mono ?_
      rintro e w2 ⟨hz | hz, rfl⟩
      case inr =>
        obtain ⟨hz, rfl⟩ := hz
        have HR : Hid (SzR left (F.length + sumG F F.length) (.returned (.int .i64 (-1)))) := Lib.hid (.inr ⟨by omega, rfl⟩)
        clear hc hlo hhi
        go_wp2_with fail
        go_ret
        exact ⟨HR.out, rfl⟩
      obtain ⟨hz, rfl⟩ := hz
      have hov : (F.length : Int) + sumG F (k + 1) ≤ left := by omega
      have hng : ¬ left - (F.length : Int) - sumG F k - (L.length : Int) < 0 := by omega
      clear hc hlo hhi
      go_wp2_with fail
      go_roundw
      case rel => exact ⟨k + 1, by omega, hov, by go_num, by congr 1; omega, by first | rfl | trivial⟩
      case measure => simp [intOf]; omega
    · obtain rfl : k = F.length := by omega
      have HR : Hid (SzR left (F.length + sumG F F.length) (.returned (.int .i64 (left - (F.length : Int) - sumG F F.length)))) := Lib.hid (.inl ⟨by omega, by congr 2; omega⟩)
      go_wp2_with fail
      go_ret
      exact ⟨HR.out, rfl⟩
set_option maxHeartbeats 4000000 in
/-- laws.eqFilterSS of alike lists. -/
theorem eqFss (a b : Option Addr) (F : List (List (Int × Int))) (c c' : Nat) (w : World) (ha : Fss a F w) (hb : Fss b F w) :
    Calls Tryz.prog 9 #[.slice a F.length c, .slice b F.length c'] w fun e w' => e = .returned (.bool true) ∧ Below w.heap.size w w' := by
  have hm := ha.1
  unfold maxLen at hm
  go_enter Tryz.func9, Tryz.ntmps9
  go_wp2_with fail
  go_loopw [5] (fun i wr => ∃ k : Nat, k ≤ F.length ∧ i = .int .i64 k ∧ Below w.heap.size w wr) (fun i _ => F.length - (intOf i).toNat)
  case atStart => exact ⟨0, Nat.zero_le _, rfl, Below.refl _ _⟩
  case round =>
    obtain ⟨k, hk, rfl, bw⟩ := hrel
    by_cases hlt : k < F.length
    · obtain ⟨g, o, al, cl, rfl, hc, hf, -⟩ := (ha.below bw).2 k hlt
      obtain ⟨g', o', al', cl', rfl, hc', hf', -⟩ := (hb.below bw).2 k hlt
      generalize nthG F k = L at *
      go_upto_region 6 with fail
      refine region_class (fun u => (u.cell? ⟨g, o + k, none⟩ = some (.slice al L.length cl) ∧ Fls al L u) ∧ (u.cell? ⟨g', o' + k, none⟩ = some (.slice al' L.length cl') ∧ Fls al' L u) ∧ Below w.heap.size w u) (by kernel_rfl) (by kernel_rfl) ⟨⟨hc, hf.drew⟩, ⟨hc', hf'.drew⟩, bw.drew⟩ ?_
      clear hc hf hc' hf' bw
      repeat first
        | go_big_quiet_skip
        | (go_big_quiet_want
           apply Exists.intro
           refine ⟨fun u hu => ?_, ?_⟩
           · apply quietAt_val
             obtain ⟨⟨c0, _⟩, ⟨c1, _⟩, _⟩ := hu
             go_simp
             rfl
           simp only [Act.put, List.setIfInBounds_toArray, List.set_cons_zero, List.set_cons_succ]
           go_big_quiet_on)
        | (go_big_quiet_want
           apply Exists.intro
           refine ⟨fun u hu => ?_, ?_⟩
           · apply quietAt_enter 20 #[.slice al L.length cl, .slice al' L.length cl']
             · go_simp
             · refine (eqFlts al al' L cl cl' u hu.1.2 hu.2.1.2).mono ?_
               rintro e w2 ⟨rfl, b2⟩
               exact ⟨rfl, ⟨(b2.cell (World.block_lt_of_cell? u _ hu.1.1)).trans hu.1.1, hu.1.2.below b2⟩, ⟨(b2.cell (World.block_lt_of_cell? u _ hu.2.1.1)).trans hu.2.1.1, hu.2.1.2.below b2⟩, Below.then2 hu.2.2 b2⟩
           simp only [Act.put, List.setIfInBounds_toArray, List.set_cons_zero, List.set_cons_succ]
           go_big_quiet_on)
      refine wpQuiet_nil ?_
      intro W2 L2
      have bw := L2.2.2
      clear L2
      go_wp2_with fail
      go_roundw
      case rel => exact ⟨k + 1, by omega, by go_num, bw⟩
      case measure => simp [intOf]; omega
    · go_wp2_with fail
      go_ret
      exact ⟨rfl, bw⟩

/-! ### Lists of filters that the call owns. -/
/-- One list that the call owns, in an interval. -/
def OwnL (lo hi : Nat) (L : List (Int × Int)) (v : Value) (w : World) : Prop := ∃ al cl, v = .slice al L.length cl ∧ OwnP lo L (.slice al L.length cl) w ∧ (∀ q, (Value.slice al L.length cl).ownBlock = some q → q < hi)
structure OwnG (B G hi cap k : Nat) (F : List (List (Int × Int))) (L H : Nat → Nat) (cur : Array Value) (w : World) : Prop where
  blk : w.heap[G]? = some (.cells cur 44 (0, 0))
  len : cur.size = cap
  mem : ∀ j, j < k → ∃ v, cur[j]? = some v ∧ OwnL (L j) (H j) (nthG F j) v w
  out : ∀ j, j < k → G < L j ∧ L j ≤ H j ∧ H j ≤ hi
  far : ∀ i j, i < j → j < k → H i ≤ L j
  top : B ≤ G ∧ G < hi
  kc : k ≤ cap
section
variable {B G hi cap k lo : Nat} {F : List (List (Int × Int))} {L H : Nat → Nat} {cur : Array Value} {w w' : World} {M : List (Int × Int)} {v : Value}
theorem OwnL.below (h : OwnL lo hi M v w) (b : Below w.heap.size w w') : OwnL lo hi M v w' := by
  obtain ⟨al, cl, e, o, u⟩ := h
  exact ⟨al, cl, e, o.below b, u⟩
theorem OwnL.mid {a b : Nat} (h : OwnL lo hi M v w) (m : Mid a b w w') (hb : b ≤ lo) : OwnL lo hi M v w' := by
  obtain ⟨al, cl, e, o, u⟩ := h
  exact ⟨al, cl, e, o.mid m hb, u⟩
theorem ownP_bare {B c : Nat} {L : List (Int × Int)} {a : Option Addr} (h : OwnP B L (.slice a L.length c) w) : a = none → c = 0 := by
  rintro rfl
  rcases h.2 with ⟨e, _⟩ | ⟨g, cap, cur, e, _⟩
  · exact (Value.slice.inj e).2.2
  · cases e
theorem OwnG.fss (h : OwnG B G hi F.length F.length F L H cur w) (hm : F.length ≤ 2000000) (hs : ∀ j, j < F.length → (nthG F j).length ≤ 2000000) : Fss (some ⟨G, 0, none⟩) F w := by
  refine ⟨by unfold maxLen; omega, fun j hj => ?_⟩
  obtain ⟨v, hc, al, cl, rfl, o, -⟩ := h.mem j hj
  exact ⟨G, 0, al, cl, rfl, by rw [cell_of_row w G _ _ _ _ h.blk, Nat.zero_add]; exact hc, (o.flsAt (hs j hj)).2, ownP_bare o⟩
/-- One more. -/
theorem OwnG.put (h : OwnG B G hi cap k F L H cur w) (hk : k < cap) {hi' : Nat} (hl : OwnL hi hi' (nthG F k) v w) (hh : hi ≤ hi') :
    OwnG B G hi' cap (k + 1) F (fun j => if j = k then hi else L j) (fun j => if j = k then hi' else H j) (cur.setIfInBounds k v) (w.setCell ⟨G, k, none⟩ v) := by
  have ht := h.top
  have hkk := h.len
  have m : Mid G (G + 1) w (w.setCell ⟨G, k, none⟩ v) := mid_cell w G k v
  refine ⟨heap_setCell_same _ _ _ _ _ _ h.blk, by simp; exact hkk, fun j hj => ?_, fun j hj => ?_, fun i j hij hj => ?_, by omega, by omega⟩
  · by_cases e : j = k
    · subst e
      simp only [↓reduceIte]
      exact ⟨v, by rw [Array.getElem?_setIfInBounds]; simp; omega, hl.mid m (by omega)⟩
    · simp only [if_neg e]
      obtain ⟨u, hc, ho⟩ := h.mem j (by omega)
      have := h.out j (by omega)
      exact ⟨u, by rw [Array.getElem?_setIfInBounds, if_neg (by omega)]; exact hc, ho.mid m (by omega)⟩
  · by_cases e : j = k
    · subst e; simp only [↓reduceIte]; omega
    · simp only [if_neg e]
      have := h.out j (by omega)
      omega
  · by_cases e : j = k
    · subst e; simp only [↓reduceIte, if_neg (show ¬ i = j by omega)]; exact (h.out i (by omega)).2.2
    · simp only [if_neg e, if_neg (show ¬ i = k by omega)]; exact h.far i j hij (by omega)
theorem OwnG.below (h : OwnG B G hi cap k F L H cur w) (b : Below w.heap.size w w') : OwnG B G hi cap k F L H cur w' :=
  ⟨(b.block G (Array.getElem?_eq_some_iff.1 h.blk).1).trans h.blk, h.len, fun j hj => by obtain ⟨v, hc, o⟩ := h.mem j hj; exact ⟨v, hc, o.below b⟩, h.out, h.far, h.top, h.kc⟩
end
theorem make_lists (c : Nat) (hc : c ≤ 1048576) (W : World) : (Instr.makeSlice 29 (.int .i64 c) (.int .i64 c)).run Tryz.prog W =
    .ok (.slice (some ⟨W.heap.size, 0, none⟩) c c) (W.alloc (.cells (madeCells #[.slice none 0 0] c) 44)) := by
  obtain ⟨i0, hi, hz0, hz1, hz2⟩ := info_parts (show (Tryz.prog.info? 44).map (fun i => (i.zero, i.size, i.bytes)) = some (some (.slice none 0 0), 1, 24) by kernel_rfl)
  have := run_make (P := Tryz.prog) W 29 44 i0 (.slice none 0 0) Tryz.underlying29 hi hz0 .i64 .i64 c c (by omega) (Int.le_refl _) (by rw [hz2]; omega) (by omega)
  rw [this, hz1]
  simp only [Int.toNat_natCast, Nat.mul_one]
  rfl
set_option maxHeartbeats 4000000 in
/-- laws.toFilterSS. -/
theorem toFss (a : Option Addr) (F : List (List (Int × Int))) (c : Nat) (w : World) (hd : Fss a F w) (h : roomG F ≤ 1048576) :
    Calls Tryz.prog 6 #[.slice a F.length c] w fun e w' =>
      ∃ G L H cur, e = .returned (.slice (some ⟨G, 0, none⟩) F.length F.length) ∧ OwnG w.heap.size G w'.heap.size F.length F.length F L H cur w' ∧ Below w.heap.size w w' := by
  unfold roomG at h
  have hmk := make_lists F.length (by omega)
  go_enter Tryz.func6, Tryz.ntmps6
  go_wp2_with fail
  clear hmk
  go_loopw [4] (fun i wr => ∃ (k : Nat) (L H : Nat → Nat) (cur : Array Value), k ≤ F.length ∧ i = .int .i64 k ∧ OwnG w.heap.size w.heap.size wr.heap.size F.length k F L H cur wr ∧ Below w.heap.size w wr) (fun i _ => F.length - (intOf i).toNat)
  case atStart => exact ⟨0, fun _ => 0, fun _ => 0, _, Nat.zero_le _, rfl, ⟨heap_alloc_new _ _, by simp [madeCells], fun j hj => absurd hj (by omega), fun j hj => absurd hj (by omega), fun i j _ hj => absurd hj (by omega), by simp, Nat.zero_le _⟩, (Below.refl _ _).alloc (Nat.le_refl _) _⟩
  case round =>
    obtain ⟨k, L, H, cur, hk, rfl, R0, b⟩ := hrel
    by_cases hlt : k < F.length
    · obtain ⟨g, o, al, cl, rfl, hc, hf, -⟩ := (hd.below b).2 k hlt
      have hs := sumG_at F hlt
      generalize hnn : nthG F k = M at *
      go_wp2_with fail
      refine (toFltsOwn al M cl _ hf (by omega)).mono ?_
      rintro e w2 ⟨g2, rfl, O, b4⟩
      have hle := b4.size
      have hu : ∀ q, (Value.slice (some ⟨g2, 0, none⟩) M.length M.length).ownBlock = some q → q < w2.heap.size := fun q hq => by
        rcases O.2 with ⟨e, _⟩ | ⟨g', cap', cur', e, _, hb, _⟩
        · cases e
        · cases e; cases hq; exact (Array.getElem?_eq_some_iff.1 hb).1
      have OL : OwnL wr.heap.size w2.heap.size M (.slice (some ⟨g2, 0, none⟩) M.length M.length) w2 := ⟨_, _, rfl, O, hu⟩
      replace R0 := R0.below b4
      replace b := Below.then2 b b4
      have hck : ∃ x, w2.cell? ⟨w.heap.size, k, none⟩ = some x := by
        rw [cell_of_row w2 _ _ _ _ _ R0.blk, Array.getElem?_eq_getElem (by rw [R0.len]; omega)]
        exact ⟨_, rfl⟩
      obtain ⟨x, hck⟩ := hck
      have f0 := frozen_of_row w2 w.heap.size k _ _ R0.blk
      clear b4 hf hc O hu
      go_wp2_with fail
      have R1 := R0.put (hi' := w2.heap.size) hlt (by rw [hnn]; exact OL) hle
      have b5 : Below w.heap.size w (w2.setCell ⟨w.heap.size, k, none⟩ (.slice (some ⟨g2, 0, none⟩) M.length M.length)) := b.setCell (Nat.le_refl _) _
      have hsz : (w2.setCell ⟨w.heap.size, k, none⟩ (.slice (some ⟨g2, 0, none⟩) M.length M.length)).heap.size = w2.heap.size := by simp
      go_roundw
      case rel => exact ⟨k + 1, _, _, _, by omega, by go_num, by rw [hsz]; exact R1, b5⟩
      case measure => simp [intOf]; omega
    · obtain rfl : k = F.length := by omega
      go_wp2_with fail
      go_ret
      exact ⟨_, L, H, cur, rfl, R0, b⟩
set_option maxHeartbeats 4000000 in
/-- laws.markFilterSS of lists that the call owns. -/
theorem markFss (B G hi : Nat) (F : List (List (Int × Int))) (L H : Nat → Nat) (cur : Array Value) (c : Nat) (w : World) (HO : OwnG B G hi F.length F.length F L H cur w) (h : roomG F ≤ 1048576) :
    Calls Tryz.prog 10 #[.slice (some ⟨G, 0, none⟩) F.length c, .int .i64 1] w fun e w' => e = .returned (.int .i64 (1 + 2 * (sumG F F.length : Int))) ∧ Mid B hi w w' := by
  unfold roomG at h
  have ht := HO.top
  go_enter Tryz.func10, Tryz.ntmps10
  go_wp2_with fail
  go_loopw [1, 5] (fun q i wr => ∃ k : Nat, k ≤ F.length ∧ q = .int .i64 (1 + 2 * (sumG F k : Int)) ∧ i = .int .i64 k ∧ wr.heap[G]? = some (.cells cur 44 (0, 0)) ∧ (∀ j, k ≤ j → j < F.length → ∃ v, cur[j]? = some v ∧ OwnL (L j) (H j) (nthG F j) v wr) ∧ Mid B hi w wr) (fun _ i _ => F.length - (intOf i).toNat)
  case atStart => exact ⟨0, Nat.zero_le _, by rw [sumG_zero]; rfl, rfl, HO.blk, fun j _ hj => HO.mem j hj, Mid.refl _ _ _⟩
  case round =>
    obtain ⟨k, hk, rfl, rfl, HB, HM, m⟩ := hrel
    by_cases hlt : k < F.length
    · obtain ⟨v, hc, al, cl, rfl, o, u⟩ := HM k (Nat.le_refl _) hlt
      have hs := sumG_succ F k hlt
      have hl := sumG_le F (show k + 1 ≤ F.length by omega)
      have hout := HO.out k hlt
      have hck : wr.cell? ⟨G, k, none⟩ = some (.slice al (nthG F k).length cl) := by rw [cell_of_row wr _ _ _ _ _ HB]; exact hc
      generalize hnn : nthG F k = M at *
      go_wp2_with fail
      refine (markFlts (L k) (H k) M al cl _ _ o u (by omega) (by omega) (by omega)).mono ?_
      rintro e w2 ⟨rfl, -, m2⟩
      have HB2 : w2.heap[G]? = some (.cells cur 44 (0, 0)) := (m2.block G (Array.getElem?_eq_some_iff.1 HB).1 (.inl (by omega))).trans HB
      have HM2 : ∀ j, k + 1 ≤ j → j < F.length → ∃ v, cur[j]? = some v ∧ OwnL (L j) (H j) (nthG F j) v w2 := fun j h1 h2 => by
        obtain ⟨v, hv, hol⟩ := HM j (by omega) h2
        exact ⟨v, hv, hol.mid m2 (HO.far k j (by omega) h2)⟩
      have m3 := m.trans (m2.wide (lo' := B) (hi' := hi) (by omega) (by omega))
      clear HB HM m m2 o u hc hck
      go_wp2_with fail
      go_roundw
      case rel => exact ⟨k + 1, by omega, by congr 1; omega, by go_num, HB2, HM2, m3⟩
      case measure => simp [intOf]; omega
    · obtain rfl : k = F.length := by omega
      go_wp2_with fail
      go_ret
      exact ⟨rfl, m⟩
end Go.Proofs.YtngcekegngmedaaGreat

/- The model's copy of a node. -/

set_option linter.unusedVariables false
set_option linter.unusedSimpArgs false
set_option maxRecDepth 20000
namespace Go.Proofs.YtngcekegngmedaaGreat
open Go.RowKit

theorem OwnI.keptHi {B G : Nat} {D : List Int} {v : Value} {w w' : World} (h : OwnI B D v w) (k : w.grownBy w' (some G)) (hu : ∀ q, v.ownBlock = some q → q < G) : OwnI B D v w' := by
  refine h.kept k ?_
  cases e : v.ownBlock with
  | none => exact .inl rfl
  | some q => exact .inr fun h2 => by cases h2; have := hu _ e; omega
theorem OwnF.keptHi {B G : Nat} {M : List (Frm × Value)} {v : Value} {w w' : World} (h : OwnF B M v w) (k : w.grownBy w' (some G)) (hu : Under G M v) : OwnF B M v w' := by
  refine h.kept k ?_ fun m hm => ?_
  · cases e : v.ownBlock with
    | none => exact .inl rfl
    | some q => exact .inr fun h2 => by cases h2; have := hu.1 _ e; omega
  · cases e : m.2.ownBlock with
    | none => exact .inl rfl
    | some q => exact .inr fun h2 => by cases h2; have := hu.2 m hm _ e; omega
theorem bare_of {B n c : Nat} {M : List (Int × Int)} {a : Option Addr} {w : World} (h : OwnP B M (.slice a n c) w) : a = none → c = 0 := by
  intro e
  rcases h.2 with ⟨k, _⟩ | ⟨g, cap, cur, k, _⟩
  · cases k; rfl
  · subst e; cases k
theorem OwnP.up {B lo : Nat} {M : List (Int × Int)} {v : Value} {w u : World} (h : OwnP B M v w) (k : Up lo w u) (hB : lo ≤ B) : OwnP B M v u := by
  rcases h.2 with e | ⟨g, cap, cur, e, hb, hg, r⟩
  · exact ⟨h.1, .inl e⟩
  · exact ⟨h.1, .inr ⟨g, cap, cur, e, hb, (k.block g (by omega) (Array.getElem?_eq_some_iff.1 hg).1).trans hg, r⟩⟩

end Go.Proofs.YtngcekegngmedaaGreat

/- Two operations that are ready at once; a node's and a frame's argument; sizes of a frame. -/

set_option linter.unusedVariables false
set_option linter.unusedSimpArgs false
set_option maxRecDepth 20000
namespace Go.Proofs.YtngcekegngmedaaGreat
open Go.RowKit

theorem call_wp {P : Program} {K : Act → World → Prop} {Q : Exit → Act → World → Prop} {o : Oper} {a : Act} {w : World} (f : FuncId) (args : Array Value) (hx : (execOp a.eval o).run P w = .ok (.enter f args) w)
    (h : Calls P f args w fun e w' => ∃ v, e = .returned v ∧ K (a.put o.dst v) w') : o.wp P a w K Q := by
  unfold Oper.wp
  rw [hx, Oper.upon_enter]
  exact h.mono fun e w' h' => by
    obtain ⟨v, he, k⟩ := h'
    subst he
    exact k
theorem value_wp {P : Program} {K : Act → World → Prop} {Q : Exit → Act → World → Prop} {o : Oper} {a : Act} {w : World} (v : Value) (w' : World) (hx : (execOp a.eval o).run P w = .ok (.value v) w') (h : K (a.put o.dst v) w') : o.wp P a w K Q := by
  unfold Oper.wp
  rw [hx]
  exact h
theorem held_fork {P : Program} {md : Region.Mode} {ops : Array Oper} {Q : Exit → Act → World → Prop} {S : World → Prop} (i j : Nat) {oi oj : Oper} {fuel : Nat} {listed : Array Bool} {a : Act} {w : World}
    (hr : Region.ready md ops listed = [i, j]) (hi : ops[i]? = some oi) (hj : ops[j]? = some oj) (hwi : Region.wanted oi (yielded ops a.tmps) = true) (hwj : Region.wanted oj (yielded ops a.tmps) = true)
    (h1 : oi.wp P a w (fun a' w' => S w' ∧ wpAnyH P md ops Q S fuel (listed.setIfInBounds i true) a' w') Q) (h2 : oj.wp P a w (fun a' w' => S w' ∧ wpAnyH P md ops Q S fuel (listed.setIfInBounds j true) a' w') Q) : wpAnyH P md ops Q S (fuel + 1) listed a w := by
  refine wpAnyH_all hr (by simp) fun q hq => ?_
  obtain rfl | rfl : q = i ∨ q = j := by simpa using hq
  · unfold wpOp
    simp only [hi]
    rw [if_pos hwi]
    exact .inl h1
  · unfold wpOp
    simp only [hj]
    rw [if_pos hwj]
    exact .inl h2
abbrev frC (f : Frm) (a : Option Addr) (c : Nat) : Array Value := #[.int .i64 f.id, .bool f.rm, .int .i64 f.ln, .slice a f.D.length c]
section
variable {ga gb : Nat} {n : Nd} {p : NdP} {f : Frm} {af : Option Addr} {cf : Nat} {w0 w w' : World}
theorem frTakeI {g : Nat} {f : Frm} {af : Option Addr} {cf : Nat} {w : World} (h : w.heap[g]? = some (.cells (frC f af cf) 40 (0, 0))) {ops : Array Oper} {rest : List Oper} {o : Oper} {a : Act} {Q : Exit → Act → World → Prop} {x : Operand} (ho : o.op = .load 40 x) (hx : a.eval x = .pointer (some ⟨g, 0, none⟩))
    (hw : Region.wanted o (yielded ops a.tmps) = true) (k : wpList Tryz.prog ops Q rest (a.put o.dst (frV f.id f.rm f.ln af f.D.length cf)) w) : wpList Tryz.prog ops Q (o :: rest) a w :=
  BigFrame.wpList_want hw fun _ hK => wp_load_row 40 x ho g hx 40 (frC f af cf) (0, 0) _ h Tryz.underlying40 rfl (by kernel_rfl) (hK _ _ k)
theorem frTookI {g : Nat} {f : Frm} {af : Option Addr} {cf : Nat} {w : World} (h : w.heap[g]? = some (.cells (frC f af cf) 40 (0, 0))) {o : Oper} {a : Act} {x : Operand} (ho : o.op = .load 40 x) (hx : a.eval x = .pointer (some ⟨g, 0, none⟩)) : (execOp a.eval o).run Tryz.prog w = .ok (.value (frV f.id f.rm f.ln af f.D.length cf)) w := by
  unfold execOp
  simp only [ho, hx, Instr.loadAt, Instr.sureAddr, Sem.run_bind, Sem.run_pure, Result.andThen_ok, run_loadVar_row w g 40 40 (frC f af cf) (0, 0) _ h Tryz.underlying40 rfl (by kernel_rfl)]
end
end Go.Proofs.YtngcekegngmedaaGreat

/- A region that draws its order, one operation after another: each operation is told as it is written (out of the list of operations: out of the array it stays unread, and all that follows grows slow). -/

set_option linter.unusedVariables false
set_option linter.unusedSimpArgs false
set_option maxRecDepth 20000
namespace Go.Proofs.YtngcekegngmedaaGreat
open Go.RowKit
section
variable {P : Program} {md : Region.Mode} {ops : Array Oper} {Q : Exit → Act → World → Prop} {S : World → Prop} {fuel : Nat} {listed : Array Bool} {a : Act} {w : World} {oi : Oper}
theorem op_at {i : Nat} (hi : ops.toList[i]? = some oi) : ops[i]? = some oi := by rw [← Array.getElem?_toList]; exact hi
theorem h_take (i d : Nat) (v : Value) (hi : ops.toList[i]? = some oi) (hd : oi.dst = some d) (hs : Region.noSelect ops = true) (hf : Region.free md ops listed i = true) (hr : (Region.ready md ops listed).contains i = true)
    (hQ : ∀ c a w, Q (.panic c) (a.put (some d) v) w → Q (.panic c) a w) (hw : Region.wanted oi (yielded ops a.tmps) = true) (hx : ∀ u, S u → (execOp a.eval oi).run P u = .ok (.value v) u) (hS : S w)
    (h : wpAnyH P md ops Q S fuel (listed.setIfInBounds i true) (a.put (some d) v) w) : wpAnyH P md ops Q S (fuel + 1) listed a w :=
  wpAnyH_take (op_at hi) hs hf hr (by rw [hd]; exact hQ) (.inl ⟨hw, hx⟩) hS (by rw [hd]; exact h)
theorem h_call (i d : Nat) (f : FuncId) (args : Array Value) (hi : ops.toList[i]? = some oi) (hd : oi.dst = some d) (hr : Region.ready md ops listed = [i]) (hw : Region.wanted oi (yielded ops a.tmps) = true) (hx : (execOp a.eval oi).run P w = .ok (.enter f args) w)
    (h : Calls P f args w fun e w' => ∃ v, e = .returned v ∧ S w' ∧ wpAnyH P md ops Q S fuel (listed.setIfInBounds i true) (a.put (some d) v) w') : wpAnyH P md ops Q S (fuel + 1) listed a w :=
  held_call i f args (op_at hi) hr hw hx (by rw [hd]; exact h)
theorem h_new (i d : Nat) (v : Value) (w2 : World) (hi : ops.toList[i]? = some oi) (hd : oi.dst = some d) (hr : Region.ready md ops listed = [i]) (hw : Region.wanted oi (yielded ops a.tmps) = true) (hx : (execOp a.eval oi).run P w = .ok (.value v) w2)
    (k : S w2 ∧ wpAnyH P md ops Q S fuel (listed.setIfInBounds i true) (a.put (some d) v) w2) : wpAnyH P md ops Q S (fuel + 1) listed a w := by
  refine held_op i (op_at hi) hr hw ?_
  unfold Oper.wp
  rw [hx]
  rw [← hd] at k
  exact k
theorem h_value (i d : Nat) (v : Value) (hi : ops.toList[i]? = some oi) (hd : oi.dst = some d) (hr : Region.ready md ops listed = [i]) (hw : Region.wanted oi (yielded ops a.tmps) = true) (hx : (execOp a.eval oi).run P w = .ok (.value v) w) (hS : S w)
    (k : wpAnyH P md ops Q S fuel (listed.setIfInBounds i true) (a.put (some d) v) w) : wpAnyH P md ops Q S (fuel + 1) listed a w := h_new i d v w hi hd hr hw hx ⟨hS, k⟩
theorem h_store (i : Nat) (w2 : World) (hi : ops.toList[i]? = some oi) (hd : oi.dst = none) (hr : Region.ready md ops listed = [i]) (hw : Region.wanted oi (yielded ops a.tmps) = true) (hx : (execOp a.eval oi).run P w = .ok .skip w2)
    (k : S w2 ∧ wpAnyH P md ops Q S fuel (listed.setIfInBounds i true) a w2) : wpAnyH P md ops Q S (fuel + 1) listed a w := by
  refine held_op i (op_at hi) hr hw ?_
  unfold Oper.wp
  rw [hx]
  show S w2 ∧ wpAnyH P md ops Q S fuel (listed.setIfInBounds i true) (a.put oi.dst undef) w2
  rw [hd]
  exact k
end
end Go.Proofs.YtngcekegngmedaaGreat

/- A row of nodes that grows by append; spec.l13Copy. -/

set_option linter.unusedVariables false
set_option linter.unusedSimpArgs false
set_option maxRecDepth 20000
namespace Go.Proofs.YtngcekegngmedaaGreat
open Go.RowKit

/-! ### The nodes' cells, one behind the other. -/
def flatN (N : List Nd) (P : Nat → NdP) (k : Nat) : List Value := (List.range k).flatMap fun j => (ndC (nthN N j) (P j)).toList
theorem flatN_succ (N : List Nd) (P : Nat → NdP) (k : Nat) : flatN N P (k + 1) = flatN N P k ++ (ndC (nthN N k) (P k)).toList := by simp [flatN, List.range_succ]
theorem flatN_len (N : List Nd) (P : Nat → NdP) : ∀ k, (flatN N P k).length = k * 18
  | 0 => rfl
  | k + 1 => by rw [flatN_succ, List.length_append, flatN_len N P k]; show k * 18 + 18 = _; omega
theorem flatN_at (N : List Nd) (P : Nat → NdP) : ∀ (k j i : Nat) (v : Value), j < k → (ndC (nthN N j) (P j)).toList[i]? = some v → (flatN N P k)[j * 18 + i]? = some v
  | 0, j, i, v, hj, _ => absurd hj (by omega)
  | k + 1, j, i, v, hj, hv => by
    have hi : i < 18 := (List.getElem?_eq_some_iff.1 hv).1
    rw [flatN_succ]
    by_cases e : j = k
    · subst e
      rw [List.getElem?_append_right (by rw [flatN_len]; omega), flatN_len, show j * 18 + i - j * 18 = i by omega]
      exact hv
    · rw [List.getElem?_append_left (by rw [flatN_len]; omega)]
      exact flatN_at N P k j i v (by omega) hv
theorem flatN_congr (N N' : List Nd) (P P' : Nat → NdP) (k : Nat) (hN : ∀ j, j < k → nthN N' j = nthN N j) (hP : ∀ j, j < k → P' j = P j) : flatN N' P' k = flatN N P k := by
  induction k with
  | zero => rfl
  | succ k ih => rw [flatN_succ, flatN_succ, ih (fun j hj => hN j (by omega)) (fun j hj => hP j (by omega)), hN k (by omega), hP k (by omega)]

/-! ### What a node of a row rests upon. -/
structure UpI (lo hi : Nat) (w u : World) : Prop where
  size : w.heap.size ≤ u.heap.size
  block : ∀ k, lo ≤ k → k < hi → u.heap[k]? = w.heap[k]?
  os : u.os = w.os
  tape : u.tape = w.tape
  output : u.output = w.output
/-- It stands wherever the blocks from lo to hi stand. -/
def StdM (lo hi : Nat) (n : Nd) (p : NdP) (w : World) : Prop := (∀ u, UpI lo hi w u → NdM n p u) ∧ Bare p
/-- It owns its memory, in the blocks from lo to hi. -/
def OwnM (lo hi : Nat) (n : Nd) (p : NdP) (w : World) : Prop := ∃ j MB MF, NdI j lo hi n p MB MF w
def SepM (M : Nat → Nat → Nd → NdP → World → Prop) : Prop := ∀ (lo hi : Nat) (n : Nd) (p : NdP) (w w' : World) (a b : Nat), M lo hi n p w → Mid a b w w' → (hi ≤ a ∨ b ≤ lo) → hi ≤ w.heap.size → M lo hi n p w'
theorem stdM_sep : SepM StdM := fun lo hi n p w w' a b h m hs hh => ⟨fun u hu => h.1 u ⟨Nat.le_trans m.size hu.size, fun k h1 h2 => (hu.block k h1 h2).trans (m.block k (by omega) (by omega)), hu.os.trans m.os, hu.tape.trans m.tape, hu.output.trans m.output⟩, h.2⟩
theorem ownM_sep : SepM OwnM := fun lo hi n p w w' a b h m hs _ => by obtain ⟨j, MB, MF, h⟩ := h; exact ⟨j, MB, MF, h.sep m hs⟩
theorem StdM.now {lo hi : Nat} {n : Nd} {p : NdP} {w : World} (h : StdM lo hi n p w) : NdM n p w := h.1 w ⟨Nat.le_refl _, fun _ _ _ => rfl, rfl, rfl, rfl⟩

structure RowM (M : Nat → Nat → Nd → NdP → World → Prop) (B k : Nat) (N : List Nd) (P : Nat → NdP) (L H : Nat → Nat) (v : Value) (w : World) : Prop where
  own : w.ownsRow B 46 18 v k (flatN N P k)
  mem : ∀ j, j < k → M (L j) (H j) (nthN N j) (P j) w
  out : ∀ j, j < k → B ≤ L j ∧ L j ≤ H j ∧ H j ≤ w.heap.size
  far : ∀ i j, i < j → j < k → H i ≤ L j
  apart : ∀ j, j < k → ∀ g, v.ownBlock = some g → g < L j ∨ H j ≤ g
  lt : ∀ g, v.ownBlock = some g → g < w.heap.size
section
variable {M : Nat → Nat → Nd → NdP → World → Prop} {B k : Nat} {N : List Nd} {P : Nat → NdP} {L H : Nat → Nat} {v : Value} {w w' : World}
theorem RowM.nil (M : Nat → Nat → Nd → NdP → World → Prop) (B : Nat) (N : List Nd) (P : Nat → NdP) (L H : Nat → Nat) (w : World) : RowM M B 0 N P L H (.slice none 0 0) w :=
  ⟨⟨rfl, .inl ⟨rfl, rfl⟩⟩, fun j hj => absurd hj (by omega), fun j hj => absurd hj (by omega), fun i j _ hj => absurd hj (by omega), fun j hj => absurd hj (by omega), fun g hg => by cases hg⟩
theorem RowM.is (h : RowM M B k N P L H v w) : ∃ a c, v = .slice a k c := by
  rcases h.own.2 with ⟨rfl, rfl⟩ | ⟨g, cap, cur, rfl, _⟩
  · exact ⟨_, _, rfl⟩
  · exact ⟨_, _, rfl⟩
theorem ownsRow_mid {e : TypeId} {sz n a b : Nat} {xs : List Value} (h : w.ownsRow B e sz v n xs) (m : Mid a b w w') (hs : ∀ g, v.ownBlock = some g → g < a ∨ b ≤ g) : w'.ownsRow B e sz v n xs := by
  refine ⟨h.1, ?_⟩
  rcases h.2 with e | ⟨g, cap, cur, e, hb, hg, r⟩
  · exact .inl e
  · have := hs g (by rw [e]; rfl)
    exact .inr ⟨g, cap, cur, e, hb, (m.block g (Array.getElem?_eq_some_iff.1 hg).1 this).trans hg, r⟩
/-- Where something else turns, all stays. -/
theorem RowM.sep (hM : SepM M) (h : RowM M B k N P L H v w) {a b : Nat} (m : Mid a b w w') (hs : ∀ g, v.ownBlock = some g → g < a ∨ b ≤ g) (hj : ∀ j, j < k → H j ≤ a ∨ b ≤ L j) : RowM M B k N P L H v w' :=
  ⟨ownsRow_mid h.own m hs, fun j hk => hM _ _ _ _ _ _ _ _ (h.mem j hk) m (hj j hk) (h.out j hk).2.2, fun j hk => by have := h.out j hk; have := m.size; omega, h.far, h.apart, fun g hg => by have := h.lt g hg; have := m.size; omega⟩
theorem RowM.below (hM : SepM M) (h : RowM M B k N P L H v w) (b : Below w.heap.size w w') : RowM M B k N P L H v w' :=
  h.sep hM (Mid.ofBelow (lo := w.heap.size) (hi := w.heap.size) b) (fun g hg => .inl (h.lt g hg)) (fun j hj => .inl (h.out j hj).2.2)
/-- One more. -/
theorem RowM.app (hM : SepM M) (h : RowM M B k N P L H v w) {p : NdP} {lo hi : Nat} {v' : Value} (hm : M lo hi (nthN N k) p w) (hB : B ≤ lo) (hlh : lo ≤ hi) (hhi : hi ≤ w.heap.size) (hlo : ∀ j, j < k → H j ≤ lo) (hg : ∀ g, v.ownBlock = some g → g < lo)
    (r1 : w'.ownsRow B 46 18 v' (k + 1) (flatN N P k ++ (ndC (nthN N k) p).toList)) (r2 : w.grownBy w' v.ownBlock) (r4 : v'.ownBlock = v.ownBlock ∨ v'.ownBlock = some w.heap.size) :
    RowM M B (k + 1) N (fun j => if j = k then p else P j) (fun j => if j = k then lo else L j) (fun j => if j = k then hi else H j) v' w' := by
  have hmid : ∃ a b, Mid a b w w' ∧ (∀ g, a ≤ g → g < b → v.ownBlock = some g) := by
    cases hv : v.ownBlock with
    | none => exact ⟨0, 0, (Mid.refl 0 0 w).grown (by rw [hv] at r2; exact r2) (fun q e => by cases e), fun g _ h => by omega⟩
    | some g => exact ⟨g, g + 1, (Mid.refl g (g + 1) w).grown (by rw [hv] at r2; exact r2) (fun q e => by cases e; omega), fun q h1 h2 => by rw [show q = g by omega]⟩
  obtain ⟨a, b, m, hab⟩ := hmid
  have hsz := m.size
  have far' : ∀ lo' hi', (∀ g, v.ownBlock = some g → g < lo' ∨ hi' ≤ g) → lo' ≤ hi' → hi' ≤ a ∨ b ≤ lo' ∨ b ≤ a := fun lo' hi' hh hle => by
    by_cases e : a < b
    · have h1 := hh a (hab a (Nat.le_refl _) e)
      have h2 := hh (b - 1) (hab (b - 1) (by omega) (by omega))
      have h3 : a = b - 1 := by
        have x1 := hab a (Nat.le_refl _) e
        have x2 := hab (b - 1) (by omega) (by omega)
        rw [x1] at x2
        exact Option.some.inj x2
      omega
    · exact .inr (.inr (by omega))
  have mem' : ∀ lo' hi' n' p', M lo' hi' n' p' w → lo' ≤ hi' → hi' ≤ w.heap.size → (∀ g, v.ownBlock = some g → g < lo' ∨ hi' ≤ g) → M lo' hi' n' p' w' := fun lo' hi' n' p' hm' hle hle2 hh => by
    rcases far' lo' hi' hh hle with e | e | e
    · exact hM _ _ _ _ _ _ _ _ hm' m (.inl e) hle2
    · exact hM _ _ _ _ _ _ _ _ hm' m (.inr e) hle2
    · refine hM _ _ _ _ _ _ 0 0 hm' ⟨m.os, m.tape, m.output, m.size, fun q hq _ => m.block q hq (by omega)⟩ (.inr (by omega)) hle2
  refine ⟨?_, fun j hj => ?_, fun j hj => ?_, fun i j hij hj => ?_, fun j hj g hg' => ?_, fun g hg' => ?_⟩
  · rw [flatN_succ, flatN_congr N N P (fun j => if j = k then p else P j) k (fun _ _ => rfl) (fun j hj => if_neg (by omega))]
    simp only [↓reduceIte]
    exact r1
  · by_cases e : j = k
    · subst e; simp only [↓reduceIte]; exact mem' _ _ _ _ hm hlh hhi (fun g hg' => .inl (hg g hg'))
    · simp only [if_neg e]
      have ho := h.out j (by omega)
      exact mem' _ _ _ _ (h.mem j (by omega)) ho.2.1 ho.2.2 (h.apart j (by omega))
  · by_cases e : j = k
    · subst e; simp only [↓reduceIte]; omega
    · simp only [if_neg e]
      have ho := h.out j (by omega)
      omega
  · by_cases e : j = k
    · subst e; simp only [↓reduceIte, if_neg (show ¬ i = j by omega)]; exact hlo i hij
    · simp only [if_neg e, if_neg (show ¬ i = k by omega)]; exact h.far i j hij (by omega)
  · have hnew : v.ownBlock = some g ∨ g = w.heap.size := by
      rcases r4 with e | e
      · rw [e] at hg'; exact .inl hg'
      · rw [e] at hg'; exact .inr (Option.some.inj hg').symm
    by_cases e : j = k
    · subst e
      simp only [↓reduceIte]
      rcases hnew with e | e
      · exact .inl (hg g e)
      · exact .inr (by omega)
    · simp only [if_neg e]
      rcases hnew with e | e
      · exact h.apart j (by omega) g e
      · exact .inr (by have := h.out j (by omega); omega)
  · rcases r1.2 with ⟨e, _⟩ | ⟨g', cap, cur, e, _, hg2, _⟩
    · rw [e] at hg'; cases hg'
    · rw [e] at hg'; cases hg'; exact (Array.getElem?_eq_some_iff.1 hg2).1
/-- The slice in memory. -/
theorem RowM.nds {R : NdP → Prop} (h : RowM M B k N P L H v w) (hk : k = N.length) (hm : N.length ≤ maxLen) (hR : ∀ j, j < k → NdM (nthN N j) (P j) w ∧ R (P j)) : ∃ a c, v = .slice a N.length c ∧ Nds R a N w := by
  subst hk
  rcases h.own.2 with ⟨rfl, h0⟩ | ⟨g, cap, cur, rfl, hb, hg, hle, hmx, hcs, htk⟩
  · exact ⟨none, 0, by rw [h0], hm, fun j hj => absurd hj (by omega)⟩
  · refine ⟨_, cap, rfl, hm, fun j hj => ⟨g, 0, P j, rfl, fun i x hx => ?_, hR j hj⟩⟩
    have hi : i < 18 := (List.getElem?_eq_some_iff.1 hx).1
    have h2 := flatN_at N P N.length j i x hj hx
    rw [← htk, List.getElem?_take_of_lt (by omega)] at h2
    rw [cell_of_row w g _ _ _ _ hg, Nat.zero_add, ← Array.getElem?_toList]
    exact h2
end
theorem infoN : (Tryz.prog.info? 46).map (fun i => (i.zero, i.size, i.bytes)) = some (some (.agg ndZ), 18, 200) := by kernel_rfl
/-- A node is appended, in a region that draws its order. -/
theorem held_appN {M : Nat → Nat → Nd → NdP → World → Prop} (hM : SepM M) {B k : Nat} {N : List Nd} {P : Nat → NdP} {L H : Nat → Nat} {md : Region.Mode} {ops : Array Oper} {Q : Exit → Act → World → Prop} {S : World → Prop} (i d : Nat) (v : Value) (p : NdP) (lo hi g1 c1 : Nat) {oi : Oper} {fuel : Nat} {listed : Array Bool} {a : Act} {w : World} {s x : Operand}
    (hi0 : ops.toList[i]? = some oi) (hd : oi.dst = some d) (hr : Region.ready md ops listed = [i]) (hw : Region.wanted oi (yielded ops a.tmps) = true) (ho : oi.op = .call { callee := .builtin .append, args := #[s, x], argTypes := #[24, 24] })
    (hs : a.eval s = v) (h : RowM M B k N P L H v w) (hk : k ≤ 1000000) (hx : a.eval x = .slice (some ⟨g1, 0, none⟩) 1 c1) (hg1 : w.heap[g1]? = some (.cells (ndC (nthN N k) p) 46 (0, 0)))
    (hm : M lo hi (nthN N k) p w) (hB : B ≤ lo) (hlh : lo ≤ hi) (hhi : hi ≤ w.heap.size) (hlo : ∀ j, j < k → H j ≤ lo) (hg : ∀ g, v.ownBlock = some g → g < lo) (hBw : B ≤ w.heap.size)
    (K : ∀ v' w', RowM M B (k + 1) N (fun j => if j = k then p else P j) (fun j => if j = k then lo else L j) (fun j => if j = k then hi else H j) v' w' → w.grownBy w' v.ownBlock → S w' ∧ wpAnyH Tryz.prog md ops Q S fuel (listed.setIfInBounds i true) (a.put (some d) v') w') : wpAnyH Tryz.prog md ops Q S (fuel + 1) listed a w := by
  obtain ⟨i0, hi1, hz0, hz1, hz2⟩ := info_parts infoN
  obtain ⟨v', w', hrun, r1, r2, -, r4⟩ := run_append_own_at (P := Tryz.prog) w B 24 oi.type 46 i0 (.agg ndZ) 18 200 Tryz.underlying24 hi1 hz0 hz1 hz2 rfl (by decide) v k (flatN N P k) h.own ⟨g1, 0, none⟩ 1 c1 (ndC (nthN N k) p).toList rfl
    (fun j u hu => by rw [show (⟨g1, 0, none⟩ : Addr).add j = ⟨g1, j, none⟩ by unfold Addr.add; split <;> simp_all, cell_of_row w g1 _ _ _ _ hg1, ← Array.getElem?_toList]; exact hu) (fun u hu => (Array.all_eq_true_iff_forall_mem.1 (ndC_one (nthN N k) p)) u (by simpa using hu)) (by unfold maxLen; omega) (by omega) hBw
  exact h_new i d v' w' hi0 hd hr hw (by simp [execOp, ho, resolve, invoke, builtin, hs, hx, hrun, Result.andThen]) (K v' w' (h.app hM hm hB hlh hhi hlo hg r1 r2 r4) r2)
end Go.Proofs.YtngcekegngmedaaGreat

/- The program's copiedNode. -/

set_option linter.unusedVariables false
set_option linter.unusedSimpArgs false
set_option maxRecDepth 20000
namespace Go.Proofs.YtngcekegngmedaaGreat
open Go.RowKit


/-- A copied node, and that its bounds are below what is there. -/
def GotB (n : Nd) (w : World) (e : Ending) (w' : World) : Prop :=
  ∃ (p : NdP) (b1 b2 b3 : Nat) (MB MF : List (Frm × Value)), e = .returned (ndV n p) ∧ NdO w.heap.size b1 b2 b3 n p MB MF w' ∧ Below w.heap.size w w' ∧ b3 ≤ w'.heap.size

end Go.Proofs.YtngcekegngmedaaGreat

/- The program's Queued. -/

set_option linter.unusedVariables false
set_option linter.unusedSimpArgs false
set_option maxRecDepth 20000
namespace Go.Proofs.YtngcekegngmedaaGreat
open Go.RowKit

/-- The blocks of a call of Queued: the node's, the frame's, the result's. -/
structure NQ (g gf gr : Nat) (C F : Array Value) (w0 w : World) : Prop where
  blk : w.heap[g]? = some (.cells C 46 (0, 0))
  frm : w.heap[gf]? = some (.cells F 40 (0, 0))
  res : w.heap[gr]? = some (.cells ndZ 46 (0, 0))
  bel : Below w0.heap.size w0 w
  hg : w0.heap.size ≤ g
  hf : w0.heap.size ≤ gf
  hr : w0.heap.size ≤ gr
  nf : gf ≠ g
  nr : gr ≠ g
  rf : gr ≠ gf
section
variable {g gf gr : Nat} {C F : Array Value} {w w' w0 : World}
theorem NQ.lt (h : NQ g gf gr C F w0 w) : g < w.heap.size ∧ gf < w.heap.size ∧ gr < w.heap.size := ⟨(Array.getElem?_eq_some_iff.1 h.blk).1, (Array.getElem?_eq_some_iff.1 h.frm).1, (Array.getElem?_eq_some_iff.1 h.res).1⟩
theorem NQ.below (h : NQ g gf gr C F w0 w) (b : Below w.heap.size w w') : NQ g gf gr C F w0 w' :=
  ⟨(b.block g h.lt.1).trans h.blk, (b.block gf h.lt.2.1).trans h.frm, (b.block gr h.lt.2.2).trans h.res, Below.then2 h.bel b, h.hg, h.hf, h.hr, h.nf, h.nr, h.rf⟩
theorem NQ.put (h : NQ g gf gr C F w0 w) (D : Array Value) : NQ g gf gr D F w0 (w.setRow g D) :=
  ⟨setRow_heap _ _ _ _ _ _ h.blk, (setRow_other w g gf D h.nf).trans h.frm, (setRow_other w g gr D h.nr).trans h.res, below_setRow h.bel h.hg D, h.hg, h.hf, h.hr, h.nf, h.nr, h.rf⟩
theorem NQ.set (h : NQ g gf gr C F w0 w) (k : Nat) (v : Value) : NQ g gf gr (C.setIfInBounds k v) F w0 (w.setCell ⟨g, k, none⟩ v) :=
  ⟨heap_setCell_same w g k _ _ v h.blk, (heap_setCell_other w ⟨g, k, none⟩ gf v h.nf).trans h.frm, (heap_setCell_other w ⟨g, k, none⟩ gr v h.nr).trans h.res, h.bel.setCell h.hg _, h.hg, h.hf, h.hr, h.nf, h.nr, h.rf⟩
theorem NQ.cell (h : NQ g gf gr C F w0 w) (k : Nat) : w.cell? ⟨g, k, none⟩ = C[k]? := cell_of_row w g k _ _ _ h.blk
theorem NQ.fcell (h : NQ g gf gr C F w0 w) (k : Nat) : w.cell? ⟨gf, k, none⟩ = F[k]? := cell_of_row w gf k _ _ _ h.frm
theorem NQ.free (h : NQ g gf gr C F w0 w) (k : Nat) : w.frozen? ⟨g, k, none⟩ = false := frozen_of_row w g k _ _ h.blk
theorem NQ.fin (h : NQ g gf gr C F w0 w) (D : Array Value) : (w.setRow gr D).heap[gr]? = some (.cells D 46 (0, 0)) ∧ Below w0.heap.size w0 (w.setRow gr D) :=
  ⟨setRow_heap _ _ _ _ _ _ h.res, below_setRow h.bel h.hr D⟩
theorem NQ.made (C F : Array Value) (w : World) : NQ w.heap.size (w.heap.size + 1) (w.heap.size + 1 + 1) C F w (((w.alloc (.cells C 46)).alloc (.cells F 40)).alloc (.cells ndZ 46)) := by
  have s1 : (w.alloc (.cells C 46)).heap.size = w.heap.size + 1 := by simp
  have s2 : ((w.alloc (.cells C 46)).alloc (.cells F 40)).heap.size = w.heap.size + 1 + 1 := by simp
  have b1 : Below w.heap.size w (w.alloc (.cells C 46)) := below_more (Below.refl _ _) _
  have b2 := below_more b1 (.cells F 40)
  have b3 := below_more b2 (.cells ndZ 46)
  have k1 : Below (w.heap.size + 1) (w.alloc (.cells C 46)) ((w.alloc (.cells C 46)).alloc (.cells F 40)) := by rw [← s1]; exact below_more (Below.refl _ _) _
  have k2 : Below (w.heap.size + 1 + 1) ((w.alloc (.cells C 46)).alloc (.cells F 40)) (((w.alloc (.cells C 46)).alloc (.cells F 40)).alloc (.cells ndZ 46)) := by rw [← s2]; exact below_more (Below.refl _ _) _
  refine ⟨?_, ?_, ?_, b3, by omega, by omega, by omega, by omega, by omega, by omega⟩
  · rw [k2.block _ (by omega), k1.block _ (by omega)]; exact heap_alloc_new w _
  · rw [k2.block _ (by omega), ← s1]; exact heap_alloc_new _ _
  · rw [← s2]; exact heap_alloc_new _ _
end
theorem mid_setRow (w : World) (g : Nat) (D : Array Value) : Mid g (g + 1) w (w.setRow g D) := ⟨rfl, rfl, rfl, by simp, fun k hk hc => setRow_other w g k D (by omega)⟩
theorem mid_setCell (w : World) (g k : Nat) (v : Value) : Mid g (g + 1) w (w.setCell ⟨g, k, none⟩ v) := (Mid.refl g (g + 1) w).grown (grown_at_cell w g k v) (fun q hq => by cases hq; omega)
theorem results_num {fn : Func} {p q : Tmp} (h : fn.results = #[.cell p 46, .tmp q]) (tmps : Array Value) (w : World) (g : Nat) (C : Array Value) (v : Value) (hp : tmps.getD p undef = .pointer (some ⟨g, 0, none⟩)) (hq : tmps.getD q undef = v)
    (hg : w.heap[g]? = some (.cells C 46 (0, 0))) (hC : C.size = 18) : (results fn tmps).run Tryz.prog w = .ok (.tuple #[.agg C, v]) w := by
  have hp' : tmps[p]?.getD undef = .pointer (some ⟨g, 0, none⟩) := by simpa using hp
  have hq' : tmps[q]?.getD undef = v := by simpa using hq
  have hl := run_loadVar_row (P := Tryz.prog) w g 46 46 C (0, 0) _ hg Tryz.underlying46 rfl (by rw [hC]; kernel_rfl)
  simp [results, h, hp', hq', asAddr, hl]
/-- What Queued answers. -/
def queA (n : Nd) (f : Frm) : Nd × Int := if nodeB n = true then queN n f else (znd [], 3)
def QueO (N : Nd) (k : Int) (w : World) (e : Ending) (w' : World) : Prop :=
  ∃ (p : NdP) (j : NdJ) (MB MF : List (Frm × Value)), e = .returned (.tuple #[ndV N p, .int .i64 k]) ∧ NdI j w.heap.size w'.heap.size N p MB MF w' ∧ Below w.heap.size w w'
theorem ndI_zero (B : Nat) (w : World) : NdI ⟨B, B, B, B, B, B, B, B⟩ B B (znd []) (zp none 0) [] [] w := by
  refine ⟨OwnI.nil _ _, own_nil _ _, own_nil _ _, ownP_nil _ _, rfl, rfl, far_nil, far_nil, (fun q hq => by cases hq), ⟨(fun q hq => by cases hq), (fun m hm => by cases hm)⟩, ⟨(fun q hq => by cases hq), (fun m hm => by cases hm)⟩, (fun q hq => by cases hq), ⟨?_, ?_, ?_, ?_, ?_, ?_, ?_, ?_, ?_, ?_⟩, Nat.zero_le _⟩ <;> dsimp only <;> omega
theorem NdI.drew {j : NdJ} {lo hi : Nat} {n : Nd} {p : NdP} {MB MF : List (Frm × Value)} {w : World} (h : NdI j lo hi n p MB MF w) : NdI j lo hi n p MB MF w.drew := h.below (Below.refl _ _).drew
/-- What Queued's test reads. -/
structure QC (g gf gr : Nat) (n : Nd) (p : NdP) (f : Frm) (af : Option Addr) (cf : Nat) (j : NdJ) (lo hi : Nat) (MB MF : List (Frm × Value)) (w0 u : World) : Prop where
  q : NQ g gf gr (ndC n p) (frC f af cf) w0 u
  i : NdI j lo hi n p MB MF u
  s : Nums af f.D u
  z : hi ≤ u.heap.size
section
variable {g gf gr lo hi : Nat} {n : Nd} {p : NdP} {f : Frm} {af : Option Addr} {cf : Nat} {j : NdJ} {MB MF : List (Frm × Value)} {w0 u u' : World}
theorem QC.below (h : QC g gf gr n p f af cf j lo hi MB MF w0 u) (b : Below u.heap.size u u') : QC g gf gr n p f af cf j lo hi MB MF w0 u' := ⟨h.q.below b, h.i.below b, h.s.below b, Nat.le_trans h.z b.size⟩
theorem QC.drew (h : QC g gf gr n p f af cf j lo hi MB MF w0 u) : QC g gf gr n p f af cf j lo hi MB MF w0 u.drew := h.below (Below.refl _ _).drew
theorem QC.took (h : QC g gf gr n p f af cf j lo hi MB MF w0 u) {o : Oper} {a : Act} {x : Operand} (ho : o.op = .load 46 x) (hx : a.eval x = .pointer (some ⟨g, 0, none⟩)) : (execOp a.eval o).run Tryz.prog u = .ok (.value (ndV n p)) u := Nx.took (w0 := w0) ⟨h.q.blk, h.q.bel⟩ ho hx
theorem QC.cells (h : QC g gf gr n p f af cf j lo hi MB MF w0 u) : u.cell? ⟨gf, 0, none⟩ = some (.int .i64 f.id) ∧ u.cell? ⟨gf, 1, none⟩ = some (.bool f.rm) ∧ u.cell? ⟨gf, 2, none⟩ = some (.int .i64 f.ln) ∧ u.cell? ⟨gf, 3, none⟩ = some (.slice af f.D.length cf) := ⟨h.q.fcell 0, h.q.fcell 1, h.q.fcell 2, h.q.fcell 3⟩
end

end Go.Proofs.YtngcekegngmedaaGreat
