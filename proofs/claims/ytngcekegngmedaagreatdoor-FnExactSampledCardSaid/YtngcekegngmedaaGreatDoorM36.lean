/- NewNode, of the program and of the model: a still node with a copy of the filters, or the zero node. -/
import Derived.Test.YtngcekegngmedaaGreatDoorM30
import Derived.Test.YtngcekegngmedaaGreatDoorM34
import Derived.Test.YtngcekegngmedaaGreatDoorM35
import Derived.Test.YtngcekegngmedaaGreatDoorM32
import Derived.Test.YtngcekegngmedaaGreatDoorM28
import Derived.Test.YtngcekegngmedaaGreatDoorM33
import Derived.Test.YtngcekegngmedaaGreatDoorM12
import Derived.Test.YtngcekegngmedaaGreatDoorM37
import Derived.Test.YtngcekegngmedaaGreatDoorM3

set_option linter.unusedVariables false
set_option linter.unusedSimpArgs false
set_option maxRecDepth 20000
namespace Go.Proofs.YtngcekegngmedaaGreatDoor
open Go.RowKit

/-- A new node with these filters; whether it is right. -/
def znd (L : List (Int × Int)) : Nd := ⟨0, false, false, false, ⟨0, false, 0, []⟩, ⟨#[]⟩, 0, 0, 0, 0, 0, 0, [], [], L⟩
def zp (al : Option Addr) (cl : Nat) : NdP := ⟨none, 0, none, 0, none, 0, al, cl⟩
theorem Nums.nil (w : World) : Nums none [] w := ⟨Nat.zero_le _, by simp, fun j hj => absurd hj (by simp)⟩
theorem Frs.nil (a : Option Addr) (w : World) : Frs a [] w := ⟨Nat.zero_le _, fun j hj => absurd hj (by simp)⟩
theorem NdM.new {L : List (Int × Int)} {al : Option Addr} {w : World} (h : Fls al L w) (cl : Nat) : NdM (znd L) (zp al cl) w := ⟨Nums.nil w, Frs.nil _ w, Frs.nil _ w, h, Nat.zero_le _⟩

/-- The node that is being made, and the result's block. -/
structure N2 (g gr : Nat) (C : Array Value) (w0 w : World) : Prop where
  blk : w.heap[g]? = some (.cells C 32 (0, 0))
  res : w.heap[gr]? = some (.cells ndZ 32 (0, 0))
  bel : Below w0.heap.size w0 w
  hg : w0.heap.size ≤ g
  hr : w0.heap.size ≤ gr
  nr : gr ≠ g
section
variable {g gr : Nat} {C : Array Value} {w w' w0 : World}
theorem N2.lt (h : N2 g gr C w0 w) : g < w.heap.size ∧ gr < w.heap.size := ⟨(Array.getElem?_eq_some_iff.1 h.blk).1, (Array.getElem?_eq_some_iff.1 h.res).1⟩
theorem N2.below (h : N2 g gr C w0 w) (b : Below w.heap.size w w') : N2 g gr C w0 w' := ⟨(b.block g h.lt.1).trans h.blk, (b.block gr h.lt.2).trans h.res, Below.then2 h.bel b, h.hg, h.hr, h.nr⟩
theorem N2.set (h : N2 g gr C w0 w) (k : Nat) (v : Value) : N2 g gr (C.setIfInBounds k v) w0 (w.setCell ⟨g, k, none⟩ v) :=
  ⟨heap_setCell_same w g k _ _ v h.blk, (heap_setCell_other w ⟨g, k, none⟩ gr v h.nr).trans h.res, h.bel.setCell h.hg _, h.hg, h.hr, h.nr⟩
theorem N2.fin (h : N2 g gr C w0 w) (D : Array Value) : (w.setRow gr D).heap[gr]? = some (.cells D 32 (0, 0)) ∧ w.grownBy (w.setRow gr D) (some gr) ∧ Below w0.heap.size w0 (w.setRow gr D) :=
  ⟨setRow_heap _ _ _ _ _ _ h.res, ⟨rfl, rfl, rfl, by simp, fun k hk hne => setRow_other w gr k D (fun e => hne (by rw [e]))⟩, below_setRow h.bel h.hr D⟩
end
/-- Two blocks, the result's and then the node's. -/
theorem N2.made (D : Array Value) (w : World) : N2 (w.heap.size + 1) w.heap.size D w ((w.alloc (.cells ndZ 32)).alloc (.cells D 32)) := by
  have s1 : (w.alloc (.cells ndZ 32)).heap.size = w.heap.size + 1 := by simp
  have b1 : Below w.heap.size w (w.alloc (.cells ndZ 32)) := below_more (Below.refl _ _) _
  have b2 := below_more b1 (.cells D 32)
  have k1 : Below (w.heap.size + 1) (w.alloc (.cells ndZ 32)) ((w.alloc (.cells ndZ 32)).alloc (.cells D 32)) := by rw [← s1]; exact below_more (Below.refl _ _) _
  refine ⟨by rw [← s1]; exact heap_alloc_new _ _, ?_, b2, by omega, by omega, by omega⟩
  rw [k1.block _ (by omega)]
  exact heap_alloc_new w _
theorem ownP_nil (B : Nat) (w : World) : OwnP B [] (.slice none 0 0) w := ⟨rfl, .inl ⟨rfl, rfl⟩⟩

theorem results_node {fn : Func} {p q : Tmp} (h : fn.results = #[.cell p 32, .tmp q]) (tmps : Array Value) (w : World) (g : Nat) (C : Array Value) (b : Value) (hp : tmps.getD p undef = .pointer (some ⟨g, 0, none⟩)) (hq : tmps.getD q undef = b)
    (hg : w.heap[g]? = some (.cells C 32 (0, 0))) (hC : C.size = 18) : (results fn tmps).run Tryz.prog w = .ok (.tuple #[.agg C, b]) w := by
  have hp' : tmps[p]?.getD undef = .pointer (some ⟨g, 0, none⟩) := by simpa using hp
  have hq' : tmps[q]?.getD undef = b := by simpa using hq
  have hl := run_loadVar_row (P := Tryz.prog) w g 32 32 C (0, 0) _ hg Tryz.underlying32 rfl (by rw [hC]; kernel_rfl)
  simp [results, h, hp', hq', asAddr, hl]
end Go.Proofs.YtngcekegngmedaaGreatDoor

/- Marks on filters that a call owns, and on a new node. -/

set_option linter.unusedVariables false
set_option linter.unusedSimpArgs false
set_option maxRecDepth 20000
namespace Go.Proofs.YtngcekegngmedaaGreatDoor
open Go.RowKit

theorem MkP.own {G n cap : Nat} {k : Int} {cur : Array Value} {w : World} {B : Nat} (h : MkP G n n k cur w) (hs : cur.size = cap * 2) (hc : n ≤ cap) (hm : cap ≤ maxLen) (hB : B ≤ G) : OwnP B (mksP k n) (.slice (some ⟨G, 0, none⟩) n cap) w := by
  have hl := mksP_len k n
  have hfl := flatP_len (mksP k n)
  refine ⟨flatP_len _, .inr ⟨G, cap, cur, by rw [hl], hB, h.blk, by omega, hm, hs, ?_⟩⟩
  apply List.ext_getElem?
  intro j
  by_cases hj : j < n * 2
  · rw [List.getElem?_take, if_pos (by omega), Array.getElem?_toList]
    obtain ⟨f0, f1⟩ := flatP_at (mksP k n) (j / 2) (by omega)
    obtain ⟨e0, e1⟩ := h.lo (j / 2) (by omega)
    have hk : (mksP k n)[j / 2]'(by omega) = mkP k (j / 2) := by rw [← nthP_eq (by omega), mksP_nth (by omega)]
    rw [hk] at f0 f1
    have hcase : j = j / 2 * 2 ∨ j = j / 2 * 2 + 1 := by omega
    rcases hcase with hc | hc
    · rw [hc, e0, f0]
    · rw [hc, e1, f1]
  · rw [List.getElem?_eq_none (by simp; omega), List.getElem?_eq_none (by omega)]
set_option maxHeartbeats 2000000 in
/-- laws.markFilterS. -/
theorem markFlts (B hi : Nat) (M : List (Int × Int)) (a : Option Addr) (c : Nat) (k : Int) (w : World) (HO : OwnP B M (.slice a M.length c) w) (hu : ∀ q, (Value.slice a M.length c).ownBlock = some q → q < hi) (hn : M.length ≤ 1048577) (h0 : 0 ≤ k) (h1 : k ≤ 100000000) :
    Calls Tryz.prog 138 #[.slice a M.length c, .int .i64 k] w fun e w' => e = .returned (.int .i64 (k + 2 * (M.length : Int))) ∧ OwnP B (mksP k M.length) (.slice a M.length c) w' ∧ Mid B hi w w' := by
  by_cases hz : M.length = 0
  · have e : M = [] := List.length_eq_zero_iff.1 hz
    subst e
    have HK : Hid (k + 2 * ((0 : Nat) : Int) = k) := Lib.hid (by omega)
    go_enter Tryz.func138, Tryz.ntmps138
    go_wp2_with fail
    go_loopw [1, 5] (fun q i wr => q = .int .i64 k ∧ i = .int .i64 0 ∧ wr = w) (fun _ _ _ => 0)
    case atStart => exact ⟨rfl, rfl, rfl⟩
    case round =>
      obtain ⟨rfl, rfl, rfl⟩ := hrel
      go_wp2_with fail
      go_ret
      exact ⟨by first | (rw [HK.out]; rfl) | (show _ = Ending.returned (.int .i64 (k + 2 * ((0 : Nat) : Int))); rw [HK.out]; rfl), HO, Mid.refl _ _ _⟩
  · have HO' := HO
    obtain ⟨hxl, ⟨hv, h0'⟩ | ⟨g, cap, cur, hv, hB, hg, hcap, hmx, hsz, htk⟩⟩ := HO'
    · exact absurd h0' hz
    cases hv
    have hgh : g < hi := hu g rfl
    go_enter Tryz.func138, Tryz.ntmps138
    generalize hML : M.length = n at *
    clear htk hxl HO hu
    go_wp2_with fail
    go_loopw [1, 5] (fun q i wr => ∃ (j : Nat) (cur' : Array Value), j ≤ n ∧ q = .int .i64 (k + 2 * (j : Int)) ∧ i = .int .i64 j ∧ cur'.size = c * 2 ∧ MkP g n j k cur' wr ∧ Mid B hi w wr) (fun _ i _ => n - (intOf i).toNat)
    case atStart => exact ⟨0, cur, Nat.zero_le _, by simp, rfl, hsz, ⟨hg, by omega, fun i hi => absurd hi (by omega)⟩, Mid.refl _ _ _⟩
    case round =>
      obtain ⟨j, cur', hj, rfl, rfl, hs', K, G⟩ := hrel
      by_cases hlt : j < n
      · obtain ⟨x0, x1, c0, c1⟩ := K.cells hlt
        have z0 := K.free (j * 2)
        have z1 := K.free (j * 2 + 1)
        obtain ⟨cur2, e2, K2⟩ := K.put hlt (x := k + 2 * (j : Int)) (y := k + 2 * (j : Int) + 1) rfl rfl
        have G2 := (G.grown (grown_at_cell wr g (j * 2) (.int .i64 (k + 2 * (j : Int)))) fun q e => by cases e; exact ⟨hB, hgh⟩).grown (grown_at_cell _ g (j * 2 + 1) (.int .i64 (k + 2 * (j : Int) + 1))) fun q e => by cases e; exact ⟨hB, hgh⟩
        clear K G
        go_wp2_with fail
        go_roundw
        case rel => exact ⟨j + 1, cur2, by omega, by congr 1; omega, by go_num, by omega, K2, G2⟩
        case measure => simp [intOf]; omega
      · obtain rfl : j = n := by omega
        have own := K.own hs' hcap hmx hB
        go_wp2_with fail
        go_ret
        exact ⟨rfl, own, G⟩
/-- laws.heldFilterS of filters that bear their marks. -/
theorem heldFlts (a : Option Addr) (n c : Nat) (k : Int) (w : World) (hd : Fls a (mksP k n) w) (hn : n ≤ 1048577) (h0 : 0 ≤ k) (h1 : k ≤ 100000000) :
    Calls Tryz.prog 141 #[.slice a n c, .int .i64 k] w fun e w' => e = .returned (.int .i64 (k + 2 * (n : Int))) ∧ w = w' := by
  go_enter Tryz.func141, Tryz.ntmps141
  go_wp2_with fail
  go_loop [1, 5] (fun q i => ∃ j : Nat, j ≤ n ∧ q = .int .i64 (k + 2 * (j : Int)) ∧ i = .int .i64 j) (fun _ i => n - (intOf i).toNat)
  case atStart => exact ⟨0, Nat.zero_le _, by simp, rfl⟩
  case round =>
    obtain ⟨j, hj, rfl, rfl⟩ := hrel
    by_cases hlt : j < n
    · obtain ⟨g, o, rfl, c0, c1⟩ := hd.2 j (by rw [mksP_len]; exact hlt)
      rw [mksP_nth hlt] at c0 c1
      simp only [mkP] at c0 c1
      go_wp2_with fail
      go_round
      case rel => exact ⟨j + 1, by omega, by congr 1; omega, by go_num⟩
      case measure => simp [intOf]; omega
    · obtain rfl : j = n := by omega
      go_wp2_with fail
      go_ret
      exact ⟨rfl, rfl⟩
end Go.Proofs.YtngcekegngmedaaGreatDoor

/- Marks on a node that a call owns, and the look for them. -/

set_option linter.unusedVariables false
set_option linter.unusedSimpArgs false
set_option maxRecDepth 20000
namespace Go.Proofs.YtngcekegngmedaaGreatDoor
open Go.RowKit

theorem Mid.wide {lo hi lo' hi' : Nat} {w w' : World} (h : Mid lo hi w w') (h1 : lo' ≤ lo) (h2 : hi ≤ hi') : Mid lo' hi' w w' := ⟨h.os, h.tape, h.output, h.size, fun k hk hc => h.block k hk (by omega)⟩
theorem Mid.row {lo hi g : Nat} {w w' : World} {C : Array Value} {ty : TypeId} {z : Nat × Nat} (h : Mid lo hi w w') (hb : w.heap[g]? = some (.cells C ty z)) (hg : hi ≤ g) : w'.heap[g]? = some (.cells C ty z) :=
  (h.block g (Array.getElem?_eq_some_iff.1 hb).1 (.inr hg)).trans hb
theorem Mid.ofBelow {lo hi : Nat} {w w' : World} (b : Below w.heap.size w w') : Mid lo hi w w' := (Mid.refl lo hi w).grown (grown_at b) (fun q e => by cases e)
section
variable {B lo hi : Nat} {w w' : World}
/-- What lies below these blocks stays, too. -/
theorem OwnI.midLow {D : List Int} {v : Value} (h : OwnI B D v w) (k : Mid lo hi w w') (hu : ∀ q, v.ownBlock = some q → q < lo) : OwnI B D v w' := by
  refine ⟨⟨h.1.1, ?_⟩, h.2⟩
  rcases h.1.2 with e | ⟨g, cap, cur, e, hb, hg, r⟩
  · exact .inl e
  · exact .inr ⟨g, cap, cur, e, hb, (k.block g (Array.getElem?_eq_some_iff.1 hg).1 (.inl (hu g (by rw [e]; rfl)))).trans hg, r⟩
theorem OwnF.midLow {M : List (Frm × Value)} {v : Value} (h : OwnF B M v w) (k : Mid lo hi w w') (hu : Under lo M v) : OwnF B M v w' := by
  refine ⟨⟨h.1.1, ?_⟩, fun m hm => (h.2 m hm).midLow k (hu.2 m hm)⟩
  rcases h.1.2 with e | ⟨g, cap, cur, e, hb, hg, r⟩
  · exact .inl e
  · exact .inr ⟨g, cap, cur, e, hb, (k.block g (Array.getElem?_eq_some_iff.1 hg).1 (.inl (hu.1 g (by rw [e]; rfl)))).trans hg, r⟩
end

/-! ### A node that bears its marks. -/
def k1N (k : Int) (n : Nd) : Int := k + (n.fr.D.length : Int)
def k2N (k : Int) (n : Nd) : Int := kAt (k1N k n) n.box n.box.length
def k3N (k : Int) (n : Nd) : Int := kAt (k2N k n) n.fifo n.fifo.length
def k4N (k : Int) (n : Nd) : Int := k3N k n + 2 * (n.flt.length : Int)
def markedN (k : Int) (n : Nd) : Nd := { n with fr := ⟨n.fr.id, n.fr.rm, n.fr.ln, marks k n.fr.D.length⟩, box := mkL (k1N k n) n.box, fifo := mkL (k2N k n) n.fifo, flt := mksP (k3N k n) n.flt.length }
theorem room_mkL (k : Int) (L : List Frm) : ∀ j, j ≤ L.length → room (mkL k L) j = room L j
  | 0, _ => by rw [room_zero, room_zero]
  | j + 1, hj => by
    rw [room_succ _ _ (by rw [mkL_len]; omega), room_succ _ _ (by omega), room_mkL k L j (by omega), mkL_nth (by omega)]
    simp [mkF, marks_len]
theorem room_marked (k : Int) (n : Nd) : roomN (markedN k n) = roomN n := by
  unfold roomN markedN
  simp only [marks_len, mkL_len, mksP_len, room_mkL _ _ _ (Nat.le_refl _)]
theorem kN_bd {k : Int} {n : Nd} (h0 : 0 ≤ k) (h1 : k ≤ 1000000) (hs : roomN n ≤ 1048576) : (0 ≤ k1N k n ∧ k1N k n ≤ 90000000) ∧ (0 ≤ k2N k n ∧ k2N k n ≤ 90000000) ∧ (0 ≤ k3N k n ∧ k3N k n ≤ 20000000) := by
  unfold roomN at hs
  simp only [k1N, k2N, k3N, kAt]
  omega
set_option maxHeartbeats 2000000 in
/-- laws.heldNode of a node that bears its marks. -/
theorem heldNodeO (n : Nd) (p : NdP) (k : Int) (w : World) (hm : NdM (markedN k n) p w) (hs : roomN n ≤ 1048576) (h0 : 0 ≤ k) (h1 : k ≤ 1000000) :
    Calls Tryz.prog 58 #[ndV n p, .int .i64 k] w fun e w' => e = .returned (.int .i64 (k4N k n)) ∧ Below w.heap.size w w' := by
  obtain ⟨hd, hb, hf, hl, -⟩ := hm
  obtain ⟨⟨q10, q11⟩, ⟨q20, q21⟩, q30, q31⟩ := kN_bd h0 h1 hs
  have e2 : kAt (k1N k n) n.box n.box.length = k2N k n := rfl
  have e3 : kAt (k2N k n) n.fifo n.fifo.length = k3N k n := rfl
  have hsD : n.fr.D.length ≤ 2000000 := by unfold roomN at hs; omega
  have hsB : n.box.length + room n.box n.box.length ≤ 1048576 := by unfold roomN at hs; omega
  have hsF : n.fifo.length + room n.fifo n.fifo.length ≤ 1048576 := by unfold roomN at hs; omega
  have hsL : n.flt.length ≤ 1048577 := by unfold roomN at hs; omega
  have hd' : Nums p.ad (marks k n.fr.D.length) w := hd
  have hb' : Frs p.ab (mkL (k1N k n) n.box) w := hb
  have hf' : Frs p.af (mkL (k2N k n) n.fifo) w := hf
  have hl' : Fls p.al (mksP (k3N k n) n.flt.length) w := hl
  clear hd hb hf hl hs
  have X := Nx.made n p (Below.refl w.heap.size w)
  have k0 := below_more (Below.refl w.heap.size w) (.cells (ndC n p) 32)
  replace hd' := hd'.below k0
  replace hb' := hb'.below k0
  replace hf' := hf'.below k0
  replace hl' := hl'.below k0
  clear k0
  have n1 : ¬ k1N k n < 0 := by omega
  have n2 : ¬ k2N k n < 0 := by omega
  have n3 : ¬ k3N k n < 0 := by omega
  have n4 : ¬ k4N k n < 0 := by unfold k4N; omega
  have KE : Hid (k3N k n + 2 * (n.flt.length : Int) = k4N k n) := Lib.hid rfl
  go_enter Tryz.func58, Tryz.ntmps58
  go_upto_region 1 with fail
  generalize w.alloc _ = W at X hd' hb' hf' hl' ⊢
  generalize w.heap.size = g at X
  have c : ∀ k, W.cell? ⟨g, k, none⟩ = (ndC n p)[k]? := fun k => cell_of_row W g k _ _ _ X.blk
  have c4 : W.cell? ⟨g, 4, none⟩ = some (.int .i64 n.fr.id) := c 4
  have c5 : W.cell? ⟨g, 5, none⟩ = some (.bool n.fr.rm) := c 5
  have c6 : W.cell? ⟨g, 6, none⟩ = some (.int .i64 n.fr.ln) := c 6
  have c7 : W.cell? ⟨g, 7, none⟩ = some (.slice p.ad n.fr.D.length p.cd) := c 7
  go_wp2_with fail
  refine (heldFr n.fr.id n.fr.rm n.fr.ln p.ad n.fr.D.length p.cd k W hd' hsD h0 (by omega)).mono ?_
  rintro e w1 ⟨rfl, k1⟩
  rw [show k + (n.fr.D.length : Int) = k1N k n from rfl]
  replace X := X.below k1
  replace hb' := hb'.below k1
  replace hf' := hf'.below k1
  replace hl' := hl'.below k1
  clear k1 c c4 c5 c6 c7 hd'
  have c15 : w1.cell? ⟨g, 15, none⟩ = some (.slice p.ab n.box.length p.cb) := cell_of_row w1 g 15 _ _ _ X.blk
  go_wp2_with fail
  refine (heldFrames p.ab n.box p.cb (k1N k n) w1 hb' hsB q10 q11).mono ?_
  rintro e w2 ⟨he, k2⟩
  rw [e2] at he
  subst he
  replace X := X.below k2
  replace hf' := hf'.below k2
  replace hl' := hl'.below k2
  clear k2 c15 hb'
  have c16 : w2.cell? ⟨g, 16, none⟩ = some (.slice p.af n.fifo.length p.cf) := cell_of_row w2 g 16 _ _ _ X.blk
  go_wp2_with fail
  refine (heldFrames p.af n.fifo p.cf (k2N k n) w2 hf' hsF q20 q21).mono ?_
  rintro e w3 ⟨he, k3⟩
  rw [e3] at he
  subst he
  replace X := X.below k3
  replace hl' := hl'.below k3
  clear k3 c16 hf'
  have c17 : w3.cell? ⟨g, 17, none⟩ = some (.slice p.al n.flt.length p.cl) := cell_of_row w3 g 17 _ _ _ X.blk
  go_wp2_with fail
  refine (heldFlts p.al n.flt.length p.cl (k3N k n) w3 hl' hsL q30 (by omega)).mono ?_
  rintro e w4 ⟨rfl, rfl⟩
  have hb := X.bel
  rw [KE.out]
  go_wp2_with fail
  go_ret
  exact ⟨rfl, hb⟩
end Go.Proofs.YtngcekegngmedaaGreatDoor

/- A step of a node: the block that it works on, its results' blocks; whole stores; results of two cells. -/

set_option linter.unusedVariables false
set_option linter.unusedSimpArgs false
set_option maxRecDepth 20000
namespace Go.Proofs.YtngcekegngmedaaGreatDoor
open Go.RowKit

/-- What happened, as the machine's value. -/
abbrev hpC (k : Int) (f : Frm) (ad : Option Addr) (cd : Nat) : Array Value := #[.int .i64 k, .int .i64 f.id, .bool f.rm, .int .i64 f.ln, .slice ad f.D.length cd]
abbrev hpV (k : Int) (f : Frm) (ad : Option Addr) (cd : Nat) : Value := .agg #[.int .i64 k, .int .i64 f.id, .bool f.rm, .int .i64 f.ln, .slice ad f.D.length cd]
abbrev hpZ : Array Value := #[.int .i64 0, .int .i64 0, .bool false, .int .i64 0, .slice none 0 0]
theorem hpC_one (k : Int) (f : Frm) (ad : Option Addr) (cd : Nat) : (hpC k f ad cd).all (·.oneCell') = true := by simp [Value.oneCell']

/-- The node that is worked on, the results' blocks. -/
structure N3 (g gr gh : Nat) (C : Array Value) (w0 w : World) : Prop where
  blk : w.heap[g]? = some (.cells C 32 (0, 0))
  res : w.heap[gr]? = some (.cells ndZ 32 (0, 0))
  hap : w.heap[gh]? = some (.cells hpZ 36 (0, 0))
  bel : Below w0.heap.size w0 w
  hg : w0.heap.size ≤ g
  hr : w0.heap.size ≤ gr
  hh : w0.heap.size ≤ gh
  nr : gr ≠ g
  nh : gh ≠ g
  rh : gh ≠ gr
section
variable {g gr gh : Nat} {C D E : Array Value} {w w' w0 : World} {n : Nd} {p : NdP}
theorem N3.lt (h : N3 g gr gh C w0 w) : g < w.heap.size ∧ gr < w.heap.size ∧ gh < w.heap.size := ⟨(Array.getElem?_eq_some_iff.1 h.blk).1, (Array.getElem?_eq_some_iff.1 h.res).1, (Array.getElem?_eq_some_iff.1 h.hap).1⟩
theorem N3.below (h : N3 g gr gh C w0 w) (b : Below w.heap.size w w') : N3 g gr gh C w0 w' :=
  ⟨(b.block g h.lt.1).trans h.blk, (b.block gr h.lt.2.1).trans h.res, (b.block gh h.lt.2.2).trans h.hap, Below.then2 h.bel b, h.hg, h.hr, h.hh, h.nr, h.nh, h.rh⟩
theorem N3.drew (h : N3 g gr gh C w0 w) : N3 g gr gh C w0 w.drew := ⟨h.blk, h.res, h.hap, h.bel.drew, h.hg, h.hr, h.hh, h.nr, h.nh, h.rh⟩
theorem N3.set (h : N3 g gr gh C w0 w) (k : Nat) (v : Value) : N3 g gr gh (C.setIfInBounds k v) w0 (w.setCell ⟨g, k, none⟩ v) :=
  ⟨heap_setCell_same w g k _ _ v h.blk, (heap_setCell_other w ⟨g, k, none⟩ gr v h.nr).trans h.res, (heap_setCell_other w ⟨g, k, none⟩ gh v h.nh).trans h.hap, h.bel.setCell h.hg _, h.hg, h.hr, h.hh, h.nr, h.nh, h.rh⟩
theorem N3.put (h : N3 g gr gh C w0 w) (D : Array Value) : N3 g gr gh D w0 (w.setRow g D) :=
  ⟨setRow_heap _ _ _ _ _ _ h.blk, (setRow_other w g gr D h.nr).trans h.res, (setRow_other w g gh D h.nh).trans h.hap, below_setRow h.bel h.hg D, h.hg, h.hr, h.hh, h.nr, h.nh, h.rh⟩
theorem N3.cell (h : N3 g gr gh C w0 w) (k : Nat) : w.cell? ⟨g, k, none⟩ = C[k]? := cell_of_row w g k _ _ _ h.blk
theorem N3.free (h : N3 g gr gh C w0 w) (k : Nat) : w.frozen? ⟨g, k, none⟩ = false := frozen_of_row w g k _ _ h.blk
theorem N3.nx (h : N3 g gr gh (ndC n p) w0 w) : Nx g n p w0 w := ⟨h.blk, h.bel⟩
/-- The results are stored, whole. -/
theorem N3.fin (h : N3 g gr gh C w0 w) (D E : Array Value) : (w.setRow gr D).heap[gh]? = some (.cells hpZ 36 (0, 0)) ∧ ((w.setRow gr D).setRow gh E).heap[gr]? = some (.cells D 32 (0, 0))
    ∧ ((w.setRow gr D).setRow gh E).heap[gh]? = some (.cells E 36 (0, 0)) ∧ Below w0.heap.size w0 ((w.setRow gr D).setRow gh E) := by
  have e1 : (w.setRow gr D).heap[gh]? = some (.cells hpZ 36 (0, 0)) := (setRow_other w gr gh D h.rh).trans h.hap
  refine ⟨e1, (setRow_other _ gh gr E (Ne.symm h.rh)).trans (setRow_heap _ _ _ _ _ _ h.res), setRow_heap _ _ _ _ _ _ e1, below_setRow (below_setRow h.bel h.hr D) h.hh E⟩
end
/-- Three blocks, the node's, the results'. -/
theorem N3.made (D : Array Value) (w : World) : N3 w.heap.size (w.heap.size + 1) (w.heap.size + 1 + 1) D w (((w.alloc (.cells D 32)).alloc (.cells ndZ 32)).alloc (.cells hpZ 36)) := by
  have s1 : (w.alloc (.cells D 32)).heap.size = w.heap.size + 1 := by simp
  have s2 : ((w.alloc (.cells D 32)).alloc (.cells ndZ 32)).heap.size = w.heap.size + 1 + 1 := by simp
  have b1 : Below w.heap.size w (w.alloc (.cells D 32)) := below_more (Below.refl _ _) _
  have b2 := below_more b1 (.cells ndZ 32)
  have b3 := below_more b2 (.cells hpZ 36)
  have k1 : Below (w.heap.size + 1) (w.alloc (.cells D 32)) ((w.alloc (.cells D 32)).alloc (.cells ndZ 32)) := by rw [← s1]; exact below_more (Below.refl _ _) _
  have k2 : Below (w.heap.size + 1 + 1) ((w.alloc (.cells D 32)).alloc (.cells ndZ 32)) (((w.alloc (.cells D 32)).alloc (.cells ndZ 32)).alloc (.cells hpZ 36)) := by rw [← s2]; exact below_more (Below.refl _ _) _
  refine ⟨?_, ?_, ?_, b3, by omega, by omega, by omega, by omega, by omega, by omega⟩
  · rw [k2.block _ (by omega), k1.block _ (by omega)]; exact heap_alloc_new w _
  · rw [k2.block _ (by omega), ← s1]; exact heap_alloc_new _ _
  · rw [← s2]; exact heap_alloc_new _ _
/-- Two blocks, the node's and then the result's. -/
theorem N2.made2 (D : Array Value) (w : World) : N2 w.heap.size (w.heap.size + 1) D w ((w.alloc (.cells D 32)).alloc (.cells ndZ 32)) := by
  have s1 : (w.alloc (.cells D 32)).heap.size = w.heap.size + 1 := by simp
  have b1 : Below w.heap.size w (w.alloc (.cells D 32)) := below_more (Below.refl _ _) _
  have b2 := below_more b1 (.cells ndZ 32)
  have k1 : Below (w.heap.size + 1) (w.alloc (.cells D 32)) ((w.alloc (.cells D 32)).alloc (.cells ndZ 32)) := by rw [← s1]; exact below_more (Below.refl _ _) _
  refine ⟨?_, by rw [← s1]; exact heap_alloc_new _ _, b2, by omega, by omega, by omega⟩
  rw [k1.block _ (by omega)]; exact heap_alloc_new w _
section
variable {g gr : Nat} {C D : Array Value} {w w' w0 : World}
theorem N2.cell (h : N2 g gr C w0 w) (k : Nat) : w.cell? ⟨g, k, none⟩ = C[k]? := cell_of_row w g k _ _ _ h.blk
theorem N2.free (h : N2 g gr C w0 w) (k : Nat) : w.frozen? ⟨g, k, none⟩ = false := frozen_of_row w g k _ _ h.blk
theorem N2.put (h : N2 g gr C w0 w) (D : Array Value) : N2 g gr D w0 (w.setRow g D) :=
  ⟨setRow_heap _ _ _ _ _ _ h.blk, (setRow_other w g gr D h.nr).trans h.res, below_setRow h.bel h.hg D, h.hg, h.hr, h.nr⟩
theorem N2.drew (h : N2 g gr C w0 w) : N2 g gr C w0 w.drew := ⟨h.blk, h.res, h.bel.drew, h.hg, h.hr, h.nr⟩
end
/-- A node goes, whole, into its block. -/
theorem wpList_put {n : Nd} {p : NdP} {w : World} {g : Nat} {C : Array Value} (hb : w.heap[g]? = some (.cells C 32 (0, 0))) {ops : Array Oper} {rest : List Oper} {o : Oper} {a : Act} {Q : Exit → Act → World → Prop} {x y : Operand}
    (ho : o.op = .store 32 x y) (hg : o.guard = none) (hx : a.eval x = .pointer (some ⟨g, 0, none⟩)) (hy : a.eval y = ndV n p) (hC : C.size = 18) (k : wpList Tryz.prog ops Q rest (a.put o.dst undef) (w.setRow g (ndC n p))) : wpList Tryz.prog ops Q (o :: rest) a w :=
  wpList_store_row hg 32 x y ho g (ndC n p) hx hy 32 C hb (by kernel_rfl) (hC.trans rfl) (ndC_one n p) k
theorem wpList_tell {k : Int} {f : Frm} {ad : Option Addr} {cd : Nat} {w : World} {g : Nat} {C : Array Value} (hb : w.heap[g]? = some (.cells C 36 (0, 0))) {ops : Array Oper} {rest : List Oper} {o : Oper} {a : Act} {Q : Exit → Act → World → Prop} {x y : Operand}
    (ho : o.op = .store 36 x y) (hg : o.guard = none) (hx : a.eval x = .pointer (some ⟨g, 0, none⟩)) (hy : a.eval y = hpV k f ad cd) (hC : C.size = 5) (kk : wpList Tryz.prog ops Q rest (a.put o.dst undef) (w.setRow g (hpC k f ad cd))) : wpList Tryz.prog ops Q (o :: rest) a w :=
  wpList_store_row hg 36 x y ho g (hpC k f ad cd) hx hy 36 C hb (by kernel_rfl) (hC.trans rfl) (hpC_one k f ad cd) kk
theorem results_one {fn : Func} {p : Tmp} (h : fn.results = #[.cell p 32]) (tmps : Array Value) (w : World) (g : Nat) (C : Array Value) (hp : tmps.getD p undef = .pointer (some ⟨g, 0, none⟩))
    (hg : w.heap[g]? = some (.cells C 32 (0, 0))) (hC : C.size = 18) : (results fn tmps).run Tryz.prog w = .ok (.agg C) w := by
  have hp' : tmps[p]?.getD undef = .pointer (some ⟨g, 0, none⟩) := by simpa using hp
  have hl := run_loadVar_row (P := Tryz.prog) w g 32 32 C (0, 0) _ hg Tryz.underlying32 rfl (by rw [hC]; kernel_rfl)
  simp [results, h, hp', asAddr, hl]
theorem results_both {fn : Func} {p q : Tmp} (h : fn.results = #[.cell p 32, .cell q 36]) (tmps : Array Value) (w : World) (g gh : Nat) (C E : Array Value) (hp : tmps.getD p undef = .pointer (some ⟨g, 0, none⟩)) (hq : tmps.getD q undef = .pointer (some ⟨gh, 0, none⟩))
    (hg : w.heap[g]? = some (.cells C 32 (0, 0))) (hh : w.heap[gh]? = some (.cells E 36 (0, 0))) (hC : C.size = 18) (hE : E.size = 5) : (results fn tmps).run Tryz.prog w = .ok (.tuple #[.agg C, .agg E]) w := by
  have hp' : tmps[p]?.getD undef = .pointer (some ⟨g, 0, none⟩) := by simpa using hp
  have hq' : tmps[q]?.getD undef = .pointer (some ⟨gh, 0, none⟩) := by simpa using hq
  have hl := run_loadVar_row (P := Tryz.prog) w g 32 32 C (0, 0) _ hg Tryz.underlying32 rfl (by rw [hC]; kernel_rfl)
  have hk := run_loadVar_row (P := Tryz.prog) w gh 36 36 E (0, 0) _ hh Tryz.underlying36 rfl (by rw [hE]; kernel_rfl)
  simp [results, h, hp', hq', asAddr, hl, hk]
/-- One operation that is ready alone, in a region that draws. -/
theorem held_op {P : Program} {md : Region.Mode} {ops : Array Oper} {Q : Exit → Act → World → Prop} {S : World → Prop} (i : Nat) {oi : Oper} {fuel : Nat} {listed : Array Bool} {a : Act} {w : World}
    (hi : ops[i]? = some oi) (hr : Region.ready md ops listed = [i]) (hw : Region.wanted oi (yielded ops a.tmps) = true)
    (h : oi.wp P a w (fun a' w' => S w' ∧ wpAnyH P md ops Q S fuel (listed.setIfInBounds i true) a' w') Q) : wpAnyH P md ops Q S (fuel + 1) listed a w := by
  refine wpAnyH_all hr (by simp) fun j hj => ?_
  obtain rfl : j = i := by simpa using hj
  unfold wpOp
  simp only [hi]
  rw [if_pos hw]
  exact .inl h
theorem Nx.cellsTook {g : Nat} {n : Nd} {p : NdP} {w0 w : World} (h : Nx g n p w0 w) : w.cell? ⟨g, 4, none⟩ = some (.int .i64 n.fr.id) ∧ w.cell? ⟨g, 5, none⟩ = some (.bool n.fr.rm) ∧ w.cell? ⟨g, 6, none⟩ = some (.int .i64 n.fr.ln) ∧ w.cell? ⟨g, 7, none⟩ = some (.slice p.ad n.fr.D.length p.cd) :=
  ⟨h.cells.2.2.2.2.1, h.cells.2.2.2.2.2.1, h.cells.2.2.2.2.2.2.1, h.cells.2.2.2.2.2.2.2.1⟩
/-- What a step answers: a node and what happened; what they hold. -/
def SampR (r : Nd × Int × Frm) (w : World) (e : Ending) (w' : World) : Prop :=
  ∃ (p : NdP) (ad : Option Addr) (cd : Nat), e = .returned (.tuple #[ndV r.1 p, hpV r.2.1 r.2.2 ad cd]) ∧ NdM r.1 p w' ∧ Nums ad r.2.2.D w' ∧ Below w.heap.size w w'
/-- Its lists have addresses, and room for what they hold. -/
structure NdA (n : Nd) (p : NdP) : Prop where
  box : n.box.length ≤ p.cb ∧ Addressed p.ab p.cb
  fifo : n.fifo.length ≤ p.cf ∧ Addressed p.af p.cf
end Go.Proofs.YtngcekegngmedaaGreatDoor

/- What stands from a block on; a copied list's frozen room. -/

set_option linter.unusedVariables false
set_option linter.unusedSimpArgs false
set_option maxRecDepth 20000
namespace Go.Proofs.YtngcekegngmedaaGreatDoor
open Go.RowKit

theorem grown_setRow (w : World) (g : Nat) (D : Array Value) : w.grownBy (w.setRow g D) (some g) := ⟨rfl, rfl, rfl, by simp, fun k hk hne => setRow_other w g k D (fun e => hne (by rw [e]))⟩
/-- u has what w has, from block B on. -/
structure Up (B : Nat) (w u : World) : Prop where
  size : w.heap.size ≤ u.heap.size
  block : ∀ k, B ≤ k → k < w.heap.size → u.heap[k]? = w.heap[k]?
  os : u.os = w.os
  tape : u.tape = w.tape
  output : u.output = w.output
theorem Up.trans {B : Nat} {a b c : World} (h : Up B a b) (k : Up B b c) : Up B a c := ⟨Nat.le_trans h.size k.size, fun q hq hl => (k.block q hq (Nat.lt_of_lt_of_le hl h.size)).trans (h.block q hq hl), k.os.trans h.os, k.tape.trans h.tape, k.output.trans h.output⟩
theorem Up.higher {B B' : Nat} {w u : World} (h : Up B w u) (hB : B ≤ B') : Up B' w u := ⟨h.size, fun q hq hl => h.block q (Nat.le_trans hB hq) hl, h.os, h.tape, h.output⟩
theorem Up.refl (B : Nat) (w : World) : Up B w w := ⟨Nat.le_refl _, fun _ _ _ => rfl, rfl, rfl, rfl⟩
theorem Up.grown {B g : Nat} {w u v : World} (h : Up B w u) (k : u.grownBy v (some g)) (hg : g < B) : Up B w v := h.trans ⟨k.size, fun q hq hl => k.block q hl (fun e => by cases e; omega), k.os, k.tape, k.output⟩
theorem Up.ofBelow {B : Nat} {w u : World} (b : Below w.heap.size w u) : Up B w u := ⟨b.size, fun q _ hl => b.block q hl, b.os, b.tape, b.output⟩
theorem Up.mid {B : Nat} {w u : World} (h : Up B w u) : ∃ v, Mid 0 B w v ∧ v = u := ⟨u, ⟨h.os, h.tape, h.output, h.size, fun k hk hc => by rcases hc with hc | hc; omega; exact h.block k hc hk⟩, rfl⟩
theorem OwnF.up {B lo : Nat} {M : List (Frm × Value)} {v : Value} {w u : World} (h : OwnF B M v w) (k : Up lo w u) (hB : lo ≤ B) : OwnF B M v u := by obtain ⟨x, m, rfl⟩ := k.mid; exact h.mid m hB
theorem OwnI.up {B lo : Nat} {D : List Int} {v : Value} {w u : World} (h : OwnI B D v w) (k : Up lo w u) (hB : lo ≤ B) : OwnI B D v u := by obtain ⟨x, m, rfl⟩ := k.mid; exact h.mid m hB
theorem N3.upFin {g gr gh hi : Nat} {C : Array Value} {w0 w : World} (h : N3 g gr gh C w0 w) (D E : Array Value) (hi1 : gr < hi) (hi2 : gh < hi) : Up hi w ((w.setRow gr D).setRow gh E) := ((Up.refl hi w).grown (grown_setRow w gr D) hi1).grown (grown_setRow _ gh E) hi2
end Go.Proofs.YtngcekegngmedaaGreatDoor

/- A node whose memory lies in four intervals that do not meet; its marks, and the look for them; what happened. -/

set_option linter.unusedVariables false
set_option linter.unusedSimpArgs false
set_option maxRecDepth 20000
namespace Go.Proofs.YtngcekegngmedaaGreatDoor
open Go.RowKit

/-- Where a node's memory lies: its frame's data, box, fifo, filters. -/
structure NdJ where
  d0 : Nat
  d1 : Nat
  x0 : Nat
  x1 : Nat
  f0 : Nat
  f1 : Nat
  l0 : Nat
  l1 : Nat
structure NdJ.Ok (j : NdJ) (lo hi : Nat) : Prop where
  d : lo ≤ j.d0 ∧ j.d0 ≤ j.d1 ∧ j.d1 ≤ hi
  x : lo ≤ j.x0 ∧ j.x0 ≤ j.x1 ∧ j.x1 ≤ hi
  f : lo ≤ j.f0 ∧ j.f0 ≤ j.f1 ∧ j.f1 ≤ hi
  l : lo ≤ j.l0 ∧ j.l0 ≤ j.l1 ∧ j.l1 ≤ hi
  dx : j.d1 ≤ j.x0 ∨ j.x1 ≤ j.d0
  df : j.d1 ≤ j.f0 ∨ j.f1 ≤ j.d0
  dl : j.d1 ≤ j.l0 ∨ j.l1 ≤ j.d0
  xf : j.x1 ≤ j.f0 ∨ j.f1 ≤ j.x0
  xl : j.x1 ≤ j.l0 ∨ j.l1 ≤ j.x0
  fl : j.f1 ≤ j.l0 ∨ j.l1 ≤ j.f0
structure NdI (j : NdJ) (lo hi : Nat) (n : Nd) (p : NdP) (MB MF : List (Frm × Value)) (w : World) : Prop where
  dat : OwnI j.d0 n.fr.D (.slice p.ad n.fr.D.length p.cd) w
  box : OwnF j.x0 MB (.slice p.ab n.box.length p.cb) w
  fifo : OwnF j.f0 MF (.slice p.af n.fifo.length p.cf) w
  flt : OwnP j.l0 n.flt (.slice p.al n.flt.length p.cl) w
  mb : (MB.map fun m => m.1) = n.box
  mf : (MF.map fun m => m.1) = n.fifo
  fb : Far MB
  ff : Far MF
  ud : ∀ q, (Value.slice p.ad n.fr.D.length p.cd).ownBlock = some q → q < j.d1
  ux : Under j.x1 MB (.slice p.ab n.box.length p.cb)
  uf : Under j.f1 MF (.slice p.af n.fifo.length p.cf)
  ul : ∀ q, (Value.slice p.al n.flt.length p.cl).ownBlock = some q → q < j.l1
  ok : j.Ok lo hi
  got : n.got.size ≤ maxLen
section
variable {B E lo hi lo' hi' : Nat} {w w' : World} {n : Nd} {p : NdP} {MB MF : List (Frm × Value)} {j : NdJ}
theorem OwnI.sep {D : List Int} {v : Value} (h : OwnI B D v w) (k : Mid lo hi w w') (hu : ∀ q, v.ownBlock = some q → q < E) (hs : E ≤ lo ∨ hi ≤ B) : OwnI B D v w' := by
  rcases hs with hs | hs
  · exact h.midLow k fun q hq => Nat.lt_of_lt_of_le (hu q hq) hs
  · exact h.mid k hs
theorem Under.to {M : List (Frm × Value)} {v : Value} (h : Under E M v) (he : E ≤ hi) : Under hi M v := ⟨fun q hq => Nat.lt_of_lt_of_le (h.1 q hq) he, fun m hm q hq => Nat.lt_of_lt_of_le (h.2 m hm q hq) he⟩
theorem OwnF.sep {M : List (Frm × Value)} {v : Value} (h : OwnF B M v w) (k : Mid lo hi w w') (hu : Under E M v) (hs : E ≤ lo ∨ hi ≤ B) : OwnF B M v w' := by
  rcases hs with hs | hs
  · exact h.midLow k (hu.to hs)
  · exact h.mid k hs
theorem OwnP.midLow {M : List (Int × Int)} {v : Value} (h : OwnP B M v w) (k : Mid lo hi w w') (hu : ∀ q, v.ownBlock = some q → q < lo) : OwnP B M v w' := by
  obtain ⟨h1, h2 | ⟨g, cap, cur, e, hb, hg, r⟩⟩ := h
  · exact ⟨h1, .inl h2⟩
  · exact ⟨h1, .inr ⟨g, cap, cur, e, hb, (k.block g (Array.getElem?_eq_some_iff.1 hg).1 (.inl (hu g (by rw [e]; rfl)))).trans hg, r⟩⟩
theorem OwnP.sep {M : List (Int × Int)} {v : Value} (h : OwnP B M v w) (k : Mid lo hi w w') (hu : ∀ q, v.ownBlock = some q → q < E) (hs : E ≤ lo ∨ hi ≤ B) : OwnP B M v w' := by
  rcases hs with hs | hs
  · exact h.midLow k fun q hq => Nat.lt_of_lt_of_le (hu q hq) hs
  · exact h.mid k hs
theorem NdI.below (h : NdI j lo hi n p MB MF w) (b : Below w.heap.size w w') : NdI j lo hi n p MB MF w' :=
  ⟨h.dat.below' b, h.box.below b, h.fifo.below b, h.flt.below b, h.mb, h.mf, h.fb, h.ff, h.ud, h.ux, h.uf, h.ul, h.ok, h.got⟩
/-- Where something else turns, this stays. -/
theorem NdI.sep (h : NdI j lo hi n p MB MF w) (k : Mid lo' hi' w w') (hs : hi ≤ lo' ∨ hi' ≤ lo) : NdI j lo hi n p MB MF w' := by
  have k1 := h.ok.d; have k2 := h.ok.x; have k3 := h.ok.f; have k4 := h.ok.l
  exact ⟨h.dat.sep k h.ud (by omega), h.box.sep k h.ux (by omega), h.fifo.sep k h.uf (by omega), h.flt.sep k h.ul (by omega), h.mb, h.mf, h.fb, h.ff, h.ud, h.ux, h.uf, h.ul, h.ok, h.got⟩
theorem NdI.ndm (h : NdI j lo hi n p MB MF w) (hs : roomN n ≤ 1048576) : NdM n p w := by
  unfold roomN at hs
  exact ⟨h.dat.nums2, h.box.frsOf h.mb (by omega), h.fifo.frsOf h.mf (by omega), (h.flt.flsAt (by omega)).2, h.got⟩
theorem NdJ.Ok.wide (h : j.Ok lo hi) (h1 : lo' ≤ lo) (h2 : hi ≤ hi') : j.Ok lo' hi' := by
  obtain ⟨a, b, c, d, e1, e2, e3, e4, e5, e6⟩ := h
  exact ⟨by omega, by omega, by omega, by omega, e1, e2, e3, e4, e5, e6⟩
theorem NdI.wide (h : NdI j lo hi n p MB MF w) (h1 : lo' ≤ lo) (h2 : hi ≤ hi') : NdI j lo' hi' n p MB MF w := { h with ok := h.ok.wide h1 h2 }
end

set_option maxHeartbeats 2000000 in
/-- laws.markNode of a node that the call owns. -/
theorem markNodeI (j : NdJ) (lo hi : Nat) (n : Nd) (p : NdP) (MB MF : List (Frm × Value)) (k : Int) (w : World) (HO : NdI j lo hi n p MB MF w) (hi0 : hi ≤ w.heap.size)
    (hs : roomN n ≤ 1048576) (h0 : 0 ≤ k) (h1 : k ≤ 1000000) :
    Calls Tryz.prog 56 #[ndV n p, .int .i64 k] w fun e w' => ∃ MB' MF', e = .returned (.int .i64 (k4N k n)) ∧ NdI j lo hi (markedN k n) p MB' MF' w' ∧ Mid lo hi w w' := by
  obtain ⟨hd, hb, hf, hl, emb, emf, fb, ff, ud, ux, uf, ul, ⟨jd, jx, jf, jl, jdx, jdf, jdl, jxf, jxl, jfl⟩, hgot⟩ := HO
  have JO : Hid (j.Ok lo hi) := Lib.hid ⟨jd, jx, jf, jl, jdx, jdf, jdl, jxf, jxl, jfl⟩
  obtain ⟨⟨q10, q11⟩, ⟨q20, q21⟩, q30, q31⟩ := kN_bd h0 h1 hs
  have e2 : kAt (k1N k n) n.box n.box.length = k2N k n := rfl
  have e3 : kAt (k2N k n) n.fifo n.fifo.length = k3N k n := rfl
  have hsD : n.fr.D.length ≤ 2000000 := by unfold roomN at hs; omega
  have hsB : n.box.length + room n.box n.box.length ≤ 1048576 := by unfold roomN at hs; omega
  have hsF : n.fifo.length + room n.fifo n.fifo.length ≤ 1048576 := by unfold roomN at hs; omega
  have hsL : n.flt.length ≤ 1048577 := by unfold roomN at hs; omega
  have k0 := below_more (Below.refl w.heap.size w) (.cells (ndC n p) 32)
  have X := heap_alloc_new w (.cells (ndC n p) 32)
  have G : Mid lo hi w (w.alloc (.cells (ndC n p) 32)) := Mid.ofBelow k0
  replace hd := hd.below' k0
  replace hb := hb.below k0
  replace hf := hf.below k0
  replace hl := hl.below k0
  clear k0 hs
  have fin : ∀ (MB' MF' : List (Frm × Value)) (w' : World), OwnI j.d0 (marks k n.fr.D.length) (.slice p.ad n.fr.D.length p.cd) w' → (MB'.map fun m => m.1) = mkL (k1N k n) n.box → OwnF j.x0 MB' (.slice p.ab n.box.length p.cb) w' → Far MB' → Under j.x1 MB' (.slice p.ab n.box.length p.cb)
      → (MF'.map fun m => m.1) = mkL (k2N k n) n.fifo → OwnF j.f0 MF' (.slice p.af n.fifo.length p.cf) w' → Far MF' → Under j.f1 MF' (.slice p.af n.fifo.length p.cf) → OwnP j.l0 (mksP (k3N k n) n.flt.length) (.slice p.al n.flt.length p.cl) w' → NdI j lo hi (markedN k n) p MB' MF' w' := by
    intro MB' MF' w' a1 a2 a3 a4 a5 a6 a7 a8 a9 a10
    refine ⟨?_, ?_, ?_, ?_, a2, a6, a4, a8, ?_, ?_, ?_, ?_, JO.out, hgot⟩ <;> simp only [markedN, marks_len, mkL_len, mksP_len] <;> assumption
  replace fin := Lib.hid fin
  have KE : Hid (k3N k n + 2 * (n.flt.length : Int) = k4N k n) := Lib.hid rfl
  go_enter Tryz.func56, Tryz.ntmps56
  go_upto_region 1 with fail
  generalize w.alloc _ = W at X G hd hb hf hl ⊢
  have hxl : hi ≤ w.heap.size := hi0
  generalize w.heap.size = g at X hxl
  have c : ∀ k, W.cell? ⟨g, k, none⟩ = (ndC n p)[k]? := fun k => cell_of_row W g k _ _ _ X
  have c4 : W.cell? ⟨g, 4, none⟩ = some (.int .i64 n.fr.id) := c 4
  have c5 : W.cell? ⟨g, 5, none⟩ = some (.bool n.fr.rm) := c 5
  have c6 : W.cell? ⟨g, 6, none⟩ = some (.int .i64 n.fr.ln) := c 6
  have c7 : W.cell? ⟨g, 7, none⟩ = some (.slice p.ad n.fr.D.length p.cd) := c 7
  go_wp2_with fail
  refine (markFr j.d0 n.fr.id n.fr.rm n.fr.ln n.fr.D p.ad p.cd k W hd hsD h0 (by omega)).mono ?_
  rintro e w1 ⟨rfl, hd1, g1⟩
  have m1 : Mid j.d0 j.d1 W w1 := (Mid.refl j.d0 j.d1 W).grown g1 (fun q hq => ⟨hd.low hq, ud q hq⟩)
  replace X := m1.row X (by omega)
  replace hb := hb.sep m1 ux (by omega)
  replace hf := hf.sep m1 uf (by omega)
  replace hl := hl.sep m1 ul (by omega)
  replace G := G.trans (m1.wide (by omega) (by omega))
  clear m1 g1 hd c c4 c5 c6 c7
  have c15 : w1.cell? ⟨g, 15, none⟩ = some (.slice p.ab n.box.length p.cb) := cell_of_row w1 g 15 _ _ _ X
  rw [show k + (n.fr.D.length : Int) = k1N k n from rfl]
  go_wp2_with fail
  refine (markFramesU j.x0 j.x1 MB n.box emb p.ab p.cb (k1N k n) w1 hb fb ux (by omega) q10 q11).mono ?_
  rintro e w2 ⟨MB', he, emb2, hb2, fb2, m2, ux2⟩
  rw [e2] at he
  subst he
  replace X := m2.row X (by omega)
  replace hd1 := hd1.sep m2 ud (by omega)
  replace hf := hf.sep m2 uf (by omega)
  replace hl := hl.sep m2 ul (by omega)
  replace G := G.trans (m2.wide (by omega) (by omega))
  clear m2 c15 hb
  have c16 : w2.cell? ⟨g, 16, none⟩ = some (.slice p.af n.fifo.length p.cf) := cell_of_row w2 g 16 _ _ _ X
  go_wp2_with fail
  refine (markFramesU j.f0 j.f1 MF n.fifo emf p.af p.cf (k2N k n) w2 hf ff uf (by omega) q20 q21).mono ?_
  rintro e w3 ⟨MF', he, emf2, hf2, ff2, m3, uf2⟩
  rw [e3] at he
  subst he
  replace X := m3.row X (by omega)
  replace hd1 := hd1.sep m3 ud (by omega)
  replace hb2 := hb2.sep m3 ux2 (by omega)
  replace hl := hl.sep m3 ul (by omega)
  replace G := G.trans (m3.wide (by omega) (by omega))
  clear m3 c16 hf
  have c17 : w3.cell? ⟨g, 17, none⟩ = some (.slice p.al n.flt.length p.cl) := cell_of_row w3 g 17 _ _ _ X
  go_wp2_with fail
  refine (markFlts j.l0 j.l1 n.flt p.al p.cl (k3N k n) w3 hl ul hsL q30 (by omega)).mono ?_
  rintro e w4 ⟨rfl, hl4, m4⟩
  have D4 := hd1.sep m4 ud (by omega)
  have B4 := hb2.sep m4 ux2 (by omega)
  have F4 := hf2.sep m4 uf2 (by omega)
  replace G := G.trans (m4.wide (by omega) (by omega))
  have res := fin.out MB' MF' w4 D4 emb2 B4 fb2 ux2 emf2 F4 ff2 uf2 hl4
  clear X m4 c17 hl hd1 hb2 hf2 hl4 D4 B4 F4
  rw [KE.out]
  go_wp2_with fail
  go_ret
  exact ⟨MB', MF', rfl, res, G⟩

set_option maxHeartbeats 2000000 in
/-- laws.eqHappen, of two that hold the same. -/
theorem eqHp (k : Int) (f : Frm) (a b : Option Addr) (c c' : Nat) (w : World) (ha : Nums a f.D w) (hb : Nums b f.D w) :
    Calls Tryz.prog 55 #[hpV k f a c, hpV k f b c'] w fun e w' => e = .returned (.bool true) ∧ Below w.heap.size w w' := by
  have hk : (k == k) = true := beq_self_eq_true k
  have b2 := below_more (below_more (Below.refl w.heap.size w) (.cells (hpC k f a c) 36)) (.cells (hpC k f b c') 36)
  replace ha := ha.below b2
  replace hb := hb.below b2
  go_enter Tryz.func55, Tryz.ntmps55
  go_wp2_with fail
  refine (eqFr f.id f.rm f.ln a b f.D c c' _ ha hb).mono ?_
  rintro e w2 ⟨rfl, k2⟩
  have hB := Below.then2 b2 k2
  clear k2 b2 ha hb
  go_wp2_with fail
  go_ret
  exact ⟨rfl, hB⟩
set_option maxHeartbeats 2000000 in
/-- laws.markHappen of what the call owns. -/
theorem markHp (B : Nat) (k0 : Int) (f : Frm) (a : Option Addr) (c : Nat) (k : Int) (w : World) (HO : OwnI B f.D (.slice a f.D.length c) w) (hn : f.D.length ≤ 2000000) (h0 : 0 ≤ k) (h1 : k ≤ 100000000) :
    Calls Tryz.prog 57 #[hpV k0 f a c, .int .i64 k] w fun e w' => e = .returned (.int .i64 (k + (f.D.length : Int))) ∧ OwnI B (marks k f.D.length) (.slice a f.D.length c) w' ∧ w.grownBy w' (Value.slice a f.D.length c).ownBlock := by
  have b1 := below_more (Below.refl w.heap.size w) (.cells (hpC k0 f a c) 36)
  have g1 := World.grownBy_alloc w (.cells (hpC k0 f a c) 36) none
  replace HO := HO.below' b1
  clear b1
  go_enter Tryz.func57, Tryz.ntmps57
  go_wp2_with fail
  refine (markFr B f.id f.rm f.ln f.D a c k _ HO hn h0 (by omega)).mono ?_
  rintro e w2 ⟨rfl, O2, g2⟩
  go_wp2_with fail
  go_ret
  exact ⟨rfl, O2, grown_trans (grown_some g1 _) g2⟩
set_option maxHeartbeats 2000000 in
/-- laws.heldHappen of what bears its marks. -/
theorem heldHp (k0 : Int) (f : Frm) (a : Option Addr) (c : Nat) (k : Int) (w : World) (hN : Nums a (marks k f.D.length) w) (hn : f.D.length ≤ 2000000) (h0 : 0 ≤ k) (h1 : k ≤ 100000000) :
    Calls Tryz.prog 59 #[hpV k0 f a c, .int .i64 k] w fun e w' => e = .returned (.int .i64 (k + (f.D.length : Int))) ∧ Below w.heap.size w w' := by
  have b1 := below_more (Below.refl w.heap.size w) (.cells (hpC k0 f a c) 36)
  replace hN := hN.below b1
  have hneg : ¬ k + (f.D.length : Int) < 0 := by omega
  go_enter Tryz.func59, Tryz.ntmps59
  go_wp2_with fail
  refine (heldFr f.id f.rm f.ln a f.D.length c k _ hN hn h0 (by omega)).mono ?_
  rintro e w2 ⟨rfl, k2⟩
  have hB := Below.then2 b1 k2
  clear k2 b1 hN
  go_wp2_with fail
  go_ret
  exact ⟨rfl, hB⟩
end Go.Proofs.YtngcekegngmedaaGreatDoor

/- The blocks that hold what Sampled answered; a node's memory, bounded; how much room a right node takes. -/

set_option linter.unusedVariables false
set_option linter.unusedSimpArgs false
set_option maxRecDepth 20000
namespace Go.Proofs.YtngcekegngmedaaGreatDoor
open Go.RowKit

/-- Two blocks that hold what Sampled answered. -/
structure Ans (g gh : Nat) (n : Nd) (p : NdP) (k : Int) (f : Frm) (ad : Option Addr) (cd : Nat) (w0 w : World) : Prop where
  nd : w.heap[g]? = some (.cells (ndC n p) 32 (0, 0))
  hp : w.heap[gh]? = some (.cells (hpC k f ad cd) 36 (0, 0))
  bel : Below w0.heap.size w0 w
section
variable {g gh : Nat} {n : Nd} {p : NdP} {k : Int} {f : Frm} {ad : Option Addr} {cd lo hi : Nat} {w0 w w' : World}
theorem Ans.lt (h : Ans g gh n p k f ad cd w0 w) : g < w.heap.size ∧ gh < w.heap.size := ⟨(Array.getElem?_eq_some_iff.1 h.nd).1, (Array.getElem?_eq_some_iff.1 h.hp).1⟩
theorem Ans.below (h : Ans g gh n p k f ad cd w0 w) (b : Below w.heap.size w w') : Ans g gh n p k f ad cd w0 w' := ⟨(b.block g h.lt.1).trans h.nd, (b.block gh h.lt.2).trans h.hp, Below.then2 h.bel b⟩
theorem Ans.mid (h : Ans g gh n p k f ad cd w0 w) (m : Mid lo hi w w') (hw : w0.heap.size ≤ lo) (hs : (g < lo ∧ gh < lo) ∨ (hi ≤ g ∧ hi ≤ gh)) : Ans g gh n p k f ad cd w0 w' :=
  ⟨(m.block g h.lt.1 (by omega)).trans h.nd, (m.block gh h.lt.2 (by omega)).trans h.hp, h.bel.trans (m.below hw h.bel.size)⟩
theorem Ans.takeN (h : Ans g gh n p k f ad cd w0 w) {ops : Array Oper} {rest : List Oper} {o : Oper} {a : Act} {Q : Exit → Act → World → Prop} {x : Operand} (ho : o.op = .load 32 x) (hx : a.eval x = .pointer (some ⟨g, 0, none⟩))
    (hw : Region.wanted o (yielded ops a.tmps) = true) (kk : wpList Tryz.prog ops Q rest (a.put o.dst (ndV n p)) w) : wpList Tryz.prog ops Q (o :: rest) a w := Nx.take ⟨h.nd, h.bel⟩ ho hx hw kk
theorem Ans.takeH (h : Ans g gh n p k f ad cd w0 w) {ops : Array Oper} {rest : List Oper} {o : Oper} {a : Act} {Q : Exit → Act → World → Prop} {x : Operand} (ho : o.op = .load 36 x) (hx : a.eval x = .pointer (some ⟨gh, 0, none⟩))
    (hw : Region.wanted o (yielded ops a.tmps) = true) (kk : wpList Tryz.prog ops Q rest (a.put o.dst (hpV k f ad cd)) w) : wpList Tryz.prog ops Q (o :: rest) a w :=
  BigFrame.wpList_want hw fun _ hK => wp_load_row 36 x ho gh hx 36 (hpC k f ad cd) (0, 0) _ h.hp Tryz.underlying36 rfl (by kernel_rfl) (hK _ _ kk)
end
/-- The world with the two blocks, and what they hold. -/
abbrev ansW (n : Nd) (p : NdP) (k : Int) (f : Frm) (ad : Option Addr) (cd : Nat) (w : World) : World :=
  (((w.alloc (.cells ndZ 32)).alloc (.cells hpZ 36)).setRow w.heap.size (ndC n p)).setRow (w.heap.size + 1) (hpC k f ad cd)
theorem ans_node (w : World) : ((w.alloc (.cells ndZ 32)).alloc (.cells hpZ 36)).heap[w.heap.size]? = some (.cells ndZ 32 (0, 0)) := by
  have s1 : (w.alloc (.cells ndZ 32)).heap.size = w.heap.size + 1 := by simp
  have k1 : Below (w.heap.size + 1) (w.alloc (.cells ndZ 32)) ((w.alloc (.cells ndZ 32)).alloc (.cells hpZ 36)) := by rw [← s1]; exact below_more (Below.refl _ _) _
  rw [k1.block _ (by omega)]; exact heap_alloc_new w _
theorem ans_hap0 (w : World) : ((w.alloc (.cells ndZ 32)).alloc (.cells hpZ 36)).heap[w.heap.size + 1]? = some (.cells hpZ 36 (0, 0)) := by
  have s1 : (w.alloc (.cells ndZ 32)).heap.size = w.heap.size + 1 := by simp
  rw [← s1]; exact heap_alloc_new _ _
theorem ans_hap (n : Nd) (p : NdP) (w : World) : (((w.alloc (.cells ndZ 32)).alloc (.cells hpZ 36)).setRow w.heap.size (ndC n p)).heap[w.heap.size + 1]? = some (.cells hpZ 36 (0, 0)) :=
  (setRow_other _ w.heap.size (w.heap.size + 1) (ndC n p) (by omega)).trans (ans_hap0 w)
theorem ans_below {B : Nat} {w0 : World} (n : Nd) (p : NdP) (k : Int) (f : Frm) (ad : Option Addr) (cd : Nat) (w : World) (b : Below B w0 w) (hB : B ≤ w.heap.size) : Below B w0 (ansW n p k f ad cd w) :=
  below_setRow (below_setRow ((b.alloc hB _).alloc (by simp; omega) _) hB _) (by omega) _
theorem Ans.made {w0 : World} (n : Nd) (p : NdP) (k : Int) (f : Frm) (ad : Option Addr) (cd : Nat) (w : World) (b : Below w0.heap.size w0 w) : Ans w.heap.size (w.heap.size + 1) n p k f ad cd w0 (ansW n p k f ad cd w) :=
  ⟨(setRow_other _ (w.heap.size + 1) w.heap.size (hpC k f ad cd) (by omega)).trans (setRow_heap _ _ _ _ _ _ (ans_node w)), setRow_heap _ _ _ _ _ _ (ans_hap n p w), ans_below n p k f ad cd w b b.size⟩
theorem ownLtP {B : Nat} {M : List (Int × Int)} {v : Value} {w : World} (h : OwnP B M v w) : ∀ q, v.ownBlock = some q → q < w.heap.size := fun q hq => (World.ownsRow.lt h q hq).2
theorem OwnP.bare {B n c : Nat} {M : List (Int × Int)} {a : Option Addr} {w : World} (h : OwnP B M (.slice a n c) w) : a = none → c = 0 := by
  intro e
  rcases h.2 with ⟨k, _⟩ | ⟨g, cap, cur, k, _⟩
  · cases k; rfl
  · subst e; cases k
/-- Its bounds may be taken no higher than what is there. -/
theorem NdO.ndI2 {B b1 b2 b3 H : Nat} {n : Nd} {p : NdP} {MB MF : List (Frm × Value)} {w : World} (h : NdO B b1 b2 b3 n p MB MF w) (hu : ∀ q, (Value.slice p.al n.flt.length p.cl).ownBlock = some q → q < H) (hh : b3 ≤ H) (hB : B ≤ w.heap.size) :
    NdI ⟨B, min b1 w.heap.size, min b1 w.heap.size, min b2 w.heap.size, min b2 w.heap.size, min b3 w.heap.size, min b3 w.heap.size, min H w.heap.size⟩ B (min H w.heap.size) n p MB MF w := by
  obtain ⟨l1, l2, l3⟩ := h.le
  have ub := h.box.under
  have uf := h.fifo.under
  refine ⟨h.dat, h.box.mono (Nat.min_le_left _ _), h.fifo.mono (Nat.min_le_left _ _), h.flt.mono (Nat.min_le_left _ _), h.mb, h.mf, h.fb, h.ff, fun q hq => ?_, ⟨fun q hq => ?_, fun m hm q hq => ?_⟩, ⟨fun q hq => ?_, fun m hm q hq => ?_⟩, fun q hq => ?_, ⟨?_, ?_, ?_, ?_, ?_, ?_, ?_, ?_, ?_, ?_⟩, h.got⟩ <;> dsimp only
  · have h1 := h.ub q hq; have h2 := (h.dat.1.lt q hq).2; omega
  · have h1 := h.ux.1 q hq; have h2 := ub.1 q hq; omega
  · have h1 := h.ux.2 m hm q hq; have h2 := ub.2 m hm q hq; omega
  · have h1 := h.uf.1 q hq; have h2 := uf.1 q hq; omega
  · have h1 := h.uf.2 m hm q hq; have h2 := uf.2 m hm q hq; omega
  · have h1 := hu q hq; have h2 := ownLtP h.flt q hq; omega
  all_goals omega
theorem NdO.ndI3 {B b1 b2 b3 : Nat} {n : Nd} {p : NdP} {MB MF : List (Frm × Value)} {w : World} (h : NdO B b1 b2 b3 n p MB MF w) (hB : B ≤ w.heap.size) : ∃ j, NdI j B w.heap.size n p MB MF w := by
  have e : min (max b3 w.heap.size) w.heap.size = w.heap.size := by omega
  have k := h.ndI2 (H := max b3 w.heap.size) (fun q hq => by have h2 := ownLtP h.flt q hq; omega) (by omega) hB
  rw [e] at k
  exact ⟨_, k⟩
theorem NdO.nda {B b1 b2 b3 : Nat} {n : Nd} {p : NdP} {MB MF : List (Frm × Value)} {w : World} (h : NdO B b1 b2 b3 n p MB MF w) : NdA n p := ⟨⟨h.box.len.2, h.box.addressed⟩, ⟨h.fifo.len.2, h.fifo.addressed⟩⟩
theorem NdI.nda {j : NdJ} {lo hi : Nat} {n : Nd} {p : NdP} {MB MF : List (Frm × Value)} {w : World} (h : NdI j lo hi n p MB MF w) : NdA n p := ⟨⟨h.box.len.2, h.box.addressed⟩, ⟨h.fifo.len.2, h.fifo.addressed⟩⟩

/-! ### A right node takes little room. -/
theorem room_8 {L : List Frm} (h : ∀ j, j < L.length → (nthF L j).D.length ≤ 8) : ∀ j, j ≤ L.length → room L j ≤ 8 * j
  | 0, _ => by rw [room_zero]; omega
  | j + 1, hj => by
    have h1 := room_8 h j (by omega)
    have h2 := h j (by omega)
    rw [room_succ _ _ (by omega)]; omega
theorem fifoB_32 {L : List Frm} (h : fifoB L = true) : L.length ≤ 32 := by simp only [fifoB, Bool.and_eq_true, decide_eq_true_eq] at h; exact h.1
theorem frB_8 {f : Frm} (h : frB f = true) : f.D.length ≤ 8 := by have := frOk_max (show frOk f.id f.rm f.ln f.D = true from h); omega
theorem roomN_right {n : Nd} (h : nodeB n = true) : roomN n ≤ 600 := by
  obtain ⟨R, -⟩ := right_iff.1 h
  have hb := boxB_iff.1 R.box
  have h1 := frB_8 R.fr
  have h2 := room_8 (L := n.box) (fun j hj => by
    cases hf : frB (nthF n.box j) with
    | true => exact frB_8 hf
    | false => have h3 := rk_neg hf; have h4 := (hb.2 j hj).1; omega) _ (Nat.le_refl _)
  have h32 := fifoB_32 R.fifo
  have h3 := room_8 (L := n.fifo) (fun j hj => by
    have h3 := R.fifo
    simp only [fifoB, Bool.and_eq_true, List.all_eq_true] at h3
    exact frB_8 (h3.2 _ (by rw [nthF_eq hj]; exact List.getElem_mem hj))) _ (Nat.le_refl _)
  have h4 := R.size
  have h5 := R.flt.1
  have h6 := hb.1
  unfold roomN; omega
theorem roomN_zero : roomN (znd []) = 0 := by decide
theorem k4N_bd {k : Int} {n : Nd} (h0 : 0 ≤ k) (h1 : k ≤ 1000000) (hs : roomN n ≤ 1048576) : 0 ≤ k4N k n ∧ k4N k n ≤ 30000000 := by
  obtain ⟨-, -, h2, h3⟩ := kN_bd h0 h1 hs
  unfold roomN at hs
  unfold k4N; omega
end Go.Proofs.YtngcekegngmedaaGreatDoor

/- The program's steps of a node, one by one. -/

set_option linter.unusedVariables false
set_option linter.unusedSimpArgs false
set_option maxRecDepth 20000
namespace Go.Proofs.YtngcekegngmedaaGreatDoor
open Go.RowKit

def unN (n : Nd) : Nd := { n with got := ⟨#[]⟩, run := 0, last := 0, pos := 0 }
def begunN (n : Nd) : Nd := { n with ph := 1, bad := false, got := ⟨#[48]⟩, run := 1, last := 0, left := 0 }
def cdN (n : Nd) (ph lf : Int) : Nd := if lessV n.left = 0 then { n with ph := ph, left := lf } else { n with left := lessV n.left }

set_option maxHeartbeats 4000000 in
/-- impl.unseen. -/
theorem implUnseen (n : Nd) (p : NdP) (w : World) :
    Calls Tryz.prog 200 #[ndV n p] w fun e w' => e = .returned (ndV (unN n) p) ∧ Below w.heap.size w w' := by
  have X := N2.made2 (ndC n p) w
  go_enter Tryz.func200, Tryz.ntmps200
  go_upto_region 1 with fail
  generalize World.alloc _ _ = W at X ⊢
  generalize w.heap.size + 1 = gr at X ⊢
  generalize w.heap.size = g at X ⊢
  have c8 : W.cell? ⟨g, 8, none⟩ = some (.string n.got) := X.cell 8
  have c9 : W.cell? ⟨g, 9, none⟩ = some (.int .i64 n.run) := X.cell 9
  have c10 : W.cell? ⟨g, 10, none⟩ = some (.int .i64 n.last) := X.cell 10
  have c11 : W.cell? ⟨g, 11, none⟩ = some (.int .i64 n.pos) := X.cell 11
  have f8 := X.free 8
  have f9 := X.free 9
  have f10 := X.free 10
  have f11 := X.free 11
  go_upto_region 2 with fail
  clear c8 c9 c10 c11 f8 f9 f10 f11
  replace X : N2 g gr (ndC (unN n) p) w _ := ((((X.set 8 (.string ⟨#[]⟩)).set 9 (.int .i64 0)).set 10 (.int .i64 0)).set 11 (.int .i64 0))
  generalize World.setCell _ _ _ = W1 at X ⊢
  go_wp2_with (first | (refine Nx.take ⟨X.blk, X.bel⟩ rfl rfl rfl ?_) | (refine wpList_put X.res rfl rfl rfl rfl rfl ?_))
  refine bodyPost_ret (v := ndV (unN n) p) ?_ rfl ⟨rfl, (X.fin _).2.2⟩
  exact results_one Tryz.results200 _ _ gr _ rfl (X.fin (ndC (unN n) p)).1 rfl

set_option maxHeartbeats 4000000 in
/-- impl.begun. -/
theorem implBegun (n : Nd) (p : NdP) (w : World) :
    Calls Tryz.prog 236 #[ndV n p] w fun e w' => e = .returned (ndV (begunN n) p) ∧ Below w.heap.size w w' := by
  have X := N2.made2 (ndC n p) w
  go_enter Tryz.func236, Tryz.ntmps236
  go_upto_region 1 with fail
  generalize World.alloc _ _ = W at X ⊢
  generalize w.heap.size + 1 = gr at X ⊢
  generalize w.heap.size = g at X ⊢
  have c0 : W.cell? ⟨g, 0, none⟩ = some (.int .i64 n.ph) := X.cell 0
  have c3 : W.cell? ⟨g, 3, none⟩ = some (.bool n.bad) := X.cell 3
  have c8 : W.cell? ⟨g, 8, none⟩ = some (.string n.got) := X.cell 8
  have c9 : W.cell? ⟨g, 9, none⟩ = some (.int .i64 n.run) := X.cell 9
  have c10 : W.cell? ⟨g, 10, none⟩ = some (.int .i64 n.last) := X.cell 10
  have c12 : W.cell? ⟨g, 12, none⟩ = some (.int .i64 n.left) := X.cell 12
  have f0 := X.free 0
  have f3 := X.free 3
  have f8 := X.free 8
  have f9 := X.free 9
  have f10 := X.free 10
  have f12 := X.free 12
  go_upto_region 3 with fail
  clear c0 c3 c8 c9 c10 c12 f0 f3 f8 f9 f10 f12
  replace X : N2 g gr (ndC (begunN n) p) w _ := ((((((X.set 0 (.int .i64 1)).set 3 (.bool false)).set 8 (.string ⟨#[48]⟩)).set 9 (.int .i64 1)).set 10 (.int .i64 0)).set 12 (.int .i64 0))
  generalize World.setCell _ _ _ = W1 at X ⊢
  go_wp2_with (first | (refine Nx.take ⟨X.blk, X.bel⟩ rfl rfl rfl ?_) | (refine wpList_put X.res rfl rfl rfl rfl rfl ?_))
  refine bodyPost_ret (v := ndV (begunN n) p) ?_ rfl ⟨rfl, (X.fin _).2.2⟩
  exact results_one Tryz.results236 _ _ gr _ rfl (X.fin (ndC (begunN n) p)).1 rfl

set_option maxHeartbeats 4000000 in
/-- impl.countedDown. -/
theorem implDown (n : Nd) (p : NdP) (ph lf : Int) (w : World) (hl0 : 0 ≤ n.left ∧ n.left ≤ 128) :
    Calls Tryz.prog 244 #[ndV n p, .int .i64 ph, .int .i64 lf] w fun e w' => e = .returned (ndV (cdN n ph lf) p) ∧ Below w.heap.size w w' := by
  have hw : IntKind.i64.wrap (n.left - 1) = n.left - 1 := IntWalk.i64_in _ (by omega)
  by_cases hl : 0 < n.left - 1
  · have e : cdN n ph lf = { n with left := n.left - 1 } := by unfold cdN lessV; rw [if_pos hl, if_neg (by omega)]
    have h0 : (n.left - 1 == 0) = false := beq_eq_false_iff_ne.2 (by omega)
    rw [e]
    clear e
    have hmx : max (n.left - 1) 0 = n.left - 1 := by omega
    generalize hv : n.left - 1 = v at *
    have X := N2.made2 (ndC n p) w
    go_enter Tryz.func244, Tryz.ntmps244
    go_upto_region 1 with fail
    generalize World.alloc _ _ = W at X ⊢
    generalize w.heap.size + 1 = gr at X ⊢
    generalize w.heap.size = g at X ⊢
    have c0 : W.cell? ⟨g, 0, none⟩ = some (.int .i64 n.ph) := X.cell 0
    have c12 : W.cell? ⟨g, 12, none⟩ = some (.int .i64 n.left) := X.cell 12
    have f0 := X.free 0
    have f12 := X.free 12
    go_upto_region 4 with fail
    clear c0 c12 f0 f12
    replace X : N2 g gr (ndC ({ n with left := v }) p) w _ := (X.set 12 (.int .i64 v))
    generalize World.setCell _ _ _ = W1 at X ⊢
    go_wp2_with (first | (refine Nx.take ⟨X.blk, X.bel⟩ rfl rfl rfl ?_) | (refine wpList_put X.res rfl rfl rfl rfl rfl ?_))
    refine bodyPost_ret (v := ndV ({ n with left := v }) p) ?_ rfl ⟨rfl, (X.fin _).2.2⟩
    exact results_one Tryz.results244 _ _ gr _ rfl (X.fin (ndC ({ n with left := v }) p)).1 rfl
  · have e : cdN n ph lf = { n with ph := ph, left := lf } := by unfold cdN lessV; rw [if_neg hl, if_pos rfl]
    rw [e]
    clear e
    have hmx : max (n.left - 1) 0 = 0 := by omega
    generalize hv : n.left - 1 = v at *
    have X := N2.made2 (ndC n p) w
    go_enter Tryz.func244, Tryz.ntmps244
    go_upto_region 1 with fail
    generalize World.alloc _ _ = W at X ⊢
    generalize w.heap.size + 1 = gr at X ⊢
    generalize w.heap.size = g at X ⊢
    have c0 : W.cell? ⟨g, 0, none⟩ = some (.int .i64 n.ph) := X.cell 0
    have c12 : W.cell? ⟨g, 12, none⟩ = some (.int .i64 n.left) := X.cell 12
    have f0 := X.free 0
    have f12 := X.free 12
    go_upto_region 4 with fail
    clear c0 c12 f0 f12
    replace X : N2 g gr (ndC ({ n with ph := ph, left := lf }) p) w _ := (((X.set 12 (.int .i64 0)).set 0 (.int .i64 ph)).set 12 (.int .i64 lf))
    generalize World.setCell _ _ _ = W1 at X ⊢
    go_wp2_with (first | (refine Nx.take ⟨X.blk, X.bel⟩ rfl rfl rfl ?_) | (refine wpList_put X.res rfl rfl rfl rfl rfl ?_))
    refine bodyPost_ret (v := ndV ({ n with ph := ph, left := lf }) p) ?_ rfl ⟨rfl, (X.fin _).2.2⟩
    exact results_one Tryz.results244 _ _ gr _ rfl (X.fin (ndC ({ n with ph := ph, left := lf }) p)).1 rfl

/-- What a step panics with where the node breaks off. -/
def Broke (w : World) (e : Ending) (w' : World) : Prop := e = .panicked [{ v := .iface 164 (.agg #[]), recovered := false }] ∧ Below w.heap.size w w'
theorem implBreak (w : World) : Calls Tryz.prog 237 #[.bool true] w (Broke w) := by
  go_enter Tryz.func237, Tryz.ntmps237
  go_wp2_with fail
  exact ⟨rfl, rfl, Below.refl _ _⟩
theorem implNoBreak (w : World) : Calls Tryz.prog 237 #[.bool false] w fun e w' => e = .returned (.tuple #[]) ∧ Below w.heap.size w w' := by
  go_enter Tryz.func237, Tryz.ntmps237
  go_wp2_with fail
  go_end0
  exact ⟨rfl, Below.refl _ _⟩

set_option maxHeartbeats 4000000 in
/-- impl.hearing. -/
theorem implHear (n : Nd) (p : NdP) (l : Int) (w : World) (hl : l = 0 ∨ l = 1) (hr : 0 ≤ n.run ∧ n.run ≤ 11) (hs : n.got.size ≤ 98) :
    Calls Tryz.prog 238 #[ndV n p, .int .i64 l] w fun e w' => e = .returned (ndV (hearN n l) p) ∧ Below w.heap.size w w' := by
  have hbo : ofS l 1 = bitS l := by rcases hl with rfl | rfl <;> decide
  have hz : (n.got ++ bitS l).size = n.got.size + 1 := by rw [ByteArray.size_append, bitS_size]
  have hsz : ¬ 9223372036854775807 < n.got.size + (bitS l).size := by rw [bitS_size]; omega
  have hrw : IntKind.i64.wrap (n.run + 1) = n.run + 1 := IntWalk.i64_in _ (by omega)
  by_cases h : l = n.last
  · have h' : (l == n.last) = true := beq_iff_eq.2 h
    have e : hearN n l = { n with got := n.got ++ bitS l, run := n.run + 1, last := l } := by unfold hearN; rw [if_pos h]
    rw [e]
    clear h e
    generalize bitS l = t at *
    generalize hgt : n.got ++ t = gt at *
    have X := N2.made2 (ndC n p) w
    go_enter Tryz.func238, Tryz.ntmps238
    go_upto_region 1 with fail
    generalize World.alloc _ _ = W at X ⊢
    generalize w.heap.size + 1 = gr at X ⊢
    generalize w.heap.size = g at X ⊢
    go_wp2_with fail
    refine (implOf l 1 _).mono ?_
    rintro e w2 ⟨rfl, b⟩
    rw [hbo]
    replace X := X.below b
    clear b
    have c8 : w2.cell? ⟨g, 8, none⟩ = some (.string n.got) := X.cell 8
    have c9 : w2.cell? ⟨g, 9, none⟩ = some (.int .i64 n.run) := X.cell 9
    have c10 : w2.cell? ⟨g, 10, none⟩ = some (.int .i64 n.last) := X.cell 10
    have f8 := X.free 8
    have f9 := X.free 9
    have f10 := X.free 10
    go_upto_region 7 with fail
    clear c8 c9 c10 f8 f9 f10
    replace X : N2 g gr (ndC ({ n with got := gt, run := n.run + 1, last := l }) p) w _ := (((X.set 8 (.string gt)).set 10 (.int .i64 l)).set 9 (.int .i64 (n.run + 1)))
    generalize World.setCell _ _ _ = W1 at X ⊢
    go_wp2_with (first | (refine Nx.take ⟨X.blk, X.bel⟩ rfl rfl rfl ?_) | (refine wpList_put X.res rfl rfl rfl rfl rfl ?_))
    refine bodyPost_ret (v := ndV ({ n with got := gt, run := n.run + 1, last := l }) p) ?_ rfl ⟨rfl, (X.fin _).2.2⟩
    exact results_one Tryz.results238 _ _ gr _ rfl (X.fin (ndC ({ n with got := gt, run := n.run + 1, last := l }) p)).1 rfl
  · have h' : (l == n.last) = false := beq_eq_false_iff_ne.2 h
    have e : hearN n l = { n with got := n.got ++ bitS l, run := 1, last := l } := by unfold hearN; rw [if_neg h]
    rw [e]
    clear h e
    generalize bitS l = t at *
    generalize hgt : n.got ++ t = gt at *
    have X := N2.made2 (ndC n p) w
    go_enter Tryz.func238, Tryz.ntmps238
    go_upto_region 1 with fail
    generalize World.alloc _ _ = W at X ⊢
    generalize w.heap.size + 1 = gr at X ⊢
    generalize w.heap.size = g at X ⊢
    go_wp2_with fail
    refine (implOf l 1 _).mono ?_
    rintro e w2 ⟨rfl, b⟩
    rw [hbo]
    replace X := X.below b
    clear b
    have c8 : w2.cell? ⟨g, 8, none⟩ = some (.string n.got) := X.cell 8
    have c9 : w2.cell? ⟨g, 9, none⟩ = some (.int .i64 n.run) := X.cell 9
    have c10 : w2.cell? ⟨g, 10, none⟩ = some (.int .i64 n.last) := X.cell 10
    have f8 := X.free 8
    have f9 := X.free 9
    have f10 := X.free 10
    go_upto_region 7 with fail
    clear c8 c9 c10 f8 f9 f10
    replace X : N2 g gr (ndC ({ n with got := gt, run := 1, last := l }) p) w _ := ((((X.set 8 (.string gt)).set 9 (.int .i64 0)).set 10 (.int .i64 l)).set 9 (.int .i64 1))
    generalize World.setCell _ _ _ = W1 at X ⊢
    go_wp2_with (first | (refine Nx.take ⟨X.blk, X.bel⟩ rfl rfl rfl ?_) | (refine wpList_put X.res rfl rfl rfl rfl rfl ?_))
    refine bodyPost_ret (v := ndV ({ n with got := gt, run := 1, last := l }) p) ?_ rfl ⟨rfl, (X.fin _).2.2⟩
    exact results_one Tryz.results238 _ _ gr _ rfl (X.fin (ndC ({ n with got := gt, run := 1, last := l }) p)).1 rfl

set_option maxHeartbeats 4000000 in
/-- impl.contested, of one that goes on. -/
theorem implKeep (n : Nd) (p : NdP) (l : Int) (w : World) (hm : NdM n p w) (hok : nodeB n = true) (hk : n.tx = false ∨ l = nextV n) :
    Calls Tryz.prog 239 #[ndV n p, .int .i64 l] w fun e w' => e = .returned (ndV (n) p) ∧ Below w.heap.size w w' := by
  have X := N2.made2 (ndC n p) w
  go_enter Tryz.func239, Tryz.ntmps239
  go_upto_region 1 with fail
  generalize World.alloc _ _ = W at X ⊢
  generalize w.heap.size + 1 = gr at X ⊢
  generalize w.heap.size = g at X ⊢
  have c1 : W.cell? ⟨g, 1, none⟩ = some (.bool n.tx) := X.cell 1
  have c8 : W.cell? ⟨g, 8, none⟩ = some (.string n.got) := X.cell 8
  have f1 := X.free 1
  cases ht : n.tx
  · rw [ht] at c1
    go_upto_region 4 with (refine Nx.take ⟨X.blk, X.bel⟩ rfl rfl rfl ?_)
    clear c1 c8 f1
    go_wp2_with (first | (refine Nx.take ⟨X.blk, X.bel⟩ rfl rfl rfl ?_) | (refine wpList_put X.res rfl rfl rfl rfl rfl ?_))
    refine bodyPost_ret (v := ndV (n) p) ?_ rfl ⟨rfl, (X.fin _).2.2⟩
    exact results_one Tryz.results239 _ _ gr _ rfl (X.fin (ndC (n) p)).1 rfl
  · rw [ht] at c1
    have hk' : l = nextV n := by rcases hk with k | k; rw [ht] at k; cases k; exact k
    go_wp2_with (refine Nx.take ⟨X.blk, X.bel⟩ rfl rfl rfl ?_)
    refine (implNext n p _ (hm.below X.bel) hok).mono ?_
    rintro e w2 ⟨rfl, b⟩
    replace X := X.below b
    clear b
    have h' : (l == nextV n) = true := beq_iff_eq.2 hk'
    generalize nextV n = v at *
    go_upto_region 4 with (refine Nx.take ⟨X.blk, X.bel⟩ rfl rfl rfl ?_)
    clear c1 c8 f1
    go_wp2_with (first | (refine Nx.take ⟨X.blk, X.bel⟩ rfl rfl rfl ?_) | (refine wpList_put X.res rfl rfl rfl rfl rfl ?_))
    refine bodyPost_ret (v := ndV (n) p) ?_ rfl ⟨rfl, (X.fin _).2.2⟩
    exact results_one Tryz.results239 _ _ gr _ rfl (X.fin (ndC (n) p)).1 rfl

set_option maxHeartbeats 4000000 in
/-- impl.contested, of one that falls silent. -/
theorem implLose (n : Nd) (p : NdP) (l : Int) (w : World) (hm : NdM n p w) (hok : nodeB n = true) (ht : n.tx = true) (hk : l ≠ nextV n) (hl : l = 0) (h12 : n.got.size ≤ 12) :
    Calls Tryz.prog 239 #[ndV n p, .int .i64 l] w fun e w' => e = .returned (ndV ({ n with tx := false }) p) ∧ Below w.heap.size w w' := by
  replace ht := Lib.hid ht
  subst hl
  have X := N2.made2 (ndC n p) w
  go_enter Tryz.func239, Tryz.ntmps239
  go_upto_region 1 with fail
  generalize World.alloc _ _ = W at X ⊢
  generalize w.heap.size + 1 = gr at X ⊢
  generalize w.heap.size = g at X ⊢
  have c1 : W.cell? ⟨g, 1, none⟩ = some (.bool n.tx) := X.cell 1
  have c8 : W.cell? ⟨g, 8, none⟩ = some (.string n.got) := X.cell 8
  have f1 := X.free 1
  have ht := ht.out
  rw [ht] at c1
  go_wp2_with (refine Nx.take ⟨X.blk, X.bel⟩ rfl rfl rfl ?_)
  refine (implNext n p _ (hm.below X.bel) hok).mono ?_
  rintro e w2 ⟨rfl, b⟩
  replace X := X.below b
  clear c1 c8 f1
  clear b
  have c1 : w2.cell? ⟨g, 1, none⟩ = some (.bool n.tx) := X.cell 1
  have c8 : w2.cell? ⟨g, 8, none⟩ = some (.string n.got) := X.cell 8
  have f1 := X.free 1
  have h' : ((0 : Int) == nextV n) = false := beq_eq_false_iff_ne.2 hk
  clear hk
  generalize nextV n = v at *
  have hd : decide (12 < (n.got.size : Int)) = false := decide_eq_false (by omega)
  go_wp2_with fail
  refine (implNoBreak _).mono ?_
  rintro e w3 ⟨rfl, b⟩
  replace X := X.below b
  clear c1 c8 f1
  clear b
  have c1 : w3.cell? ⟨g, 1, none⟩ = some (.bool n.tx) := X.cell 1
  have f1 := X.free 1
  go_upto_region 4 with fail
  clear c1 f1
  replace X : N2 g gr (ndC ({ n with tx := false }) p) w _ := (X.set 1 (.bool false))
  generalize World.setCell _ _ _ = W1 at X ⊢
  go_wp2_with (first | (refine Nx.take ⟨X.blk, X.bel⟩ rfl rfl rfl ?_) | (refine wpList_put X.res rfl rfl rfl rfl rfl ?_))
  refine bodyPost_ret (v := ndV ({ n with tx := false }) p) ?_ rfl ⟨rfl, (X.fin _).2.2⟩
  exact results_one Tryz.results239 _ _ gr _ rfl (X.fin (ndC ({ n with tx := false }) p)).1 rfl

set_option maxHeartbeats 4000000 in
/-- impl.contested, of one that breaks off. -/
theorem implPart (n : Nd) (p : NdP) (l : Int) (w : World) (hm : NdM n p w) (hok : nodeB n = true) (ht : n.tx = true) (hk : l ≠ nextV n) (hl : l = 1 ∨ 12 < n.got.size) (hs : n.got.size ≤ 98) :
    Calls Tryz.prog 239 #[ndV n p, .int .i64 l] w (Broke w) := by
  replace ht := Lib.hid ht
  have X := N2.made2 (ndC n p) w
  go_enter Tryz.func239, Tryz.ntmps239
  go_upto_region 1 with fail
  generalize World.alloc _ _ = W at X ⊢
  generalize w.heap.size + 1 = gr at X ⊢
  generalize w.heap.size = g at X ⊢
  have c1 : W.cell? ⟨g, 1, none⟩ = some (.bool n.tx) := X.cell 1
  have c8 : W.cell? ⟨g, 8, none⟩ = some (.string n.got) := X.cell 8
  have f1 := X.free 1
  have ht := ht.out
  rw [ht] at c1
  go_wp2_with (refine Nx.take ⟨X.blk, X.bel⟩ rfl rfl rfl ?_)
  refine (implNext n p _ (hm.below X.bel) hok).mono ?_
  rintro e w2 ⟨rfl, b⟩
  replace X := X.below b
  clear c1 c8 f1
  clear b
  have c1 : w2.cell? ⟨g, 1, none⟩ = some (.bool n.tx) := X.cell 1
  have c8 : w2.cell? ⟨g, 8, none⟩ = some (.string n.got) := X.cell 8
  have f1 := X.free 1
  have h' : (l == nextV n) = false := beq_eq_false_iff_ne.2 hk
  clear hk
  generalize nextV n = v at *
  have hb := X.bel
  by_cases h1 : l = 1
  · have h2 : (l == 1) = true := beq_iff_eq.2 h1
    clear h1
    go_wp2_with fail
    refine (implBreak _).mono ?_
    rintro e w3 ⟨rfl, b⟩
    exact ⟨rfl, rfl, Below.then2 hb b⟩
  · have h2 : (l == 1) = false := beq_eq_false_iff_ne.2 h1
    have h12 : 12 < n.got.size := by rcases hl with h | h; exact absurd h h1; exact h
    have hd : decide (12 < (n.got.size : Int)) = true := decide_eq_true (by omega)
    clear h1 h12
    go_wp2_with fail
    refine (implBreak _).mono ?_
    rintro e w3 ⟨rfl, b⟩
    exact ⟨rfl, rfl, Below.then2 hb b⟩

set_option maxHeartbeats 4000000 in
/-- impl.wrongInTail. -/
theorem implWrong (n : Nd) (p : NdP) (l : Int) (w : World) (hl : l = 0 ∨ l = 1) :
    Calls Tryz.prog 241 #[ndV n p, .int .i64 l] w fun e w' => e = .returned (.bool (tailB n l)) ∧ Below w.heap.size w w' := by
  have hb : Below w.heap.size w (w.alloc (.cells (ndC n p) 32)) := below_more (Below.refl _ _) _
  have X := Nx.made n p (Below.refl w.heap.size w)
  have HV : Hid (tailB n l = if n.pos = 1 then n.tx && decide (l = 1) else if n.pos = 2 then decide (l = 0) || n.bad else if n.pos = 9 then n.tx && decide (l = 0) else decide (l = 0)) := Lib.hid rfl
  go_enter Tryz.func241, Tryz.ntmps241
  go_upto_region 1 with fail
  generalize w.alloc _ = W at X hb ⊢
  generalize w.heap.size = g at X ⊢
  obtain ⟨-, c1, -, c3, -, -, -, -, -, -, -, c11, -, -, -, -, -, -⟩ := X.cells
  clear X
  generalize n.pos = q at *
  generalize n.tx = t at *
  generalize n.bad = d at *
  by_cases h1 : q = 1
  · subst h1
    cases t
    · go_wp2_with fail
      go_ret
      exact ⟨by rw [HV.out]; rfl, hb⟩
    · rcases hl with rfl | rfl
      · go_wp2_with fail
        go_ret
        exact ⟨by rw [HV.out]; first | rfl | simp, hb⟩
      · go_wp2_with fail
        go_ret
        exact ⟨by rw [HV.out]; first | rfl | simp, hb⟩
  have e1 : (q == 1) = false := beq_eq_false_iff_ne.2 h1
  by_cases h2 : q = 2
  · subst h2
    clear h1 e1
    cases d
    · rcases hl with rfl | rfl
      · go_wp2_with fail
        go_ret
        exact ⟨by rw [HV.out]; first | rfl | simp, hb⟩
      · go_wp2_with fail
        go_ret
        exact ⟨by rw [HV.out]; first | rfl | simp, hb⟩
    · go_wp2_with fail
      go_ret
      exact ⟨by rw [HV.out]; simp, hb⟩
  have e2 : (q == 2) = false := beq_eq_false_iff_ne.2 h2
  by_cases h9 : q = 9
  · subst h9
    clear h1 e1 h2 e2
    cases t
    · go_wp2_with fail
      go_ret
      exact ⟨by rw [HV.out]; simp, hb⟩
    · rcases hl with rfl | rfl
      · go_wp2_with fail
        go_ret
        exact ⟨by rw [HV.out]; first | rfl | simp, hb⟩
      · go_wp2_with fail
        go_ret
        exact ⟨by rw [HV.out]; first | rfl | simp, hb⟩
  have e9 : (q == 9) = false := beq_eq_false_iff_ne.2 h9
  replace HV := Lib.hid (HV.out.trans ((if_neg h1).trans ((if_neg h2).trans (if_neg h9))))
  clear h1 h2 h9
  rcases hl with rfl | rfl
  · go_wp2_with fail
    go_ret
    exact ⟨by rw [HV.out]; rfl, hb⟩
  · go_wp2_with fail
    go_ret
    exact ⟨by rw [HV.out]; rfl, hb⟩
end Go.Proofs.YtngcekegngmedaaGreatDoor

/- The program's steps in PhIdle, PhFlag, PhDelim, PhInter, PhWait and PhOff. -/

set_option linter.unusedVariables false
set_option linter.unusedSimpArgs false
set_option maxRecDepth 20000
namespace Go.Proofs.YtngcekegngmedaaGreatDoor
open Go.RowKit

/-- A step that tells no frame, and lets the lists be. -/
def Told (r : Nd) (k : Int) (p : NdP) (w : World) (e : Ending) (w' : World) : Prop := e = .returned (.tuple #[ndV r p, hpV k zF none 0]) ∧ Below w.heap.size w w'

set_option maxHeartbeats 4000000 in
/-- impl.inFlag. -/
theorem implInFlag (n : Nd) (p : NdP) (l : Int) (w : World) (hl0 : 0 ≤ n.left ∧ n.left ≤ 128) :
    Calls Tryz.prog 205 #[ndV n p, .int .i64 l] w (Told (cdN n 4 8) 0 p w) := by
  have X := N3.made (ndC n p) w
  go_enter Tryz.func205, Tryz.ntmps205
  go_upto_region 1 with fail
  generalize World.alloc _ _ = W at X ⊢
  generalize w.heap.size + 1 + 1 = gh at X ⊢
  generalize w.heap.size + 1 = gr at X ⊢
  generalize w.heap.size = g at X ⊢
  go_wp2_with (refine Nx.take ⟨X.blk, X.bel⟩ rfl rfl rfl ?_)
  refine (implDown n p 4 8 _ hl0).mono ?_
  rintro e w2 ⟨rfl, b⟩
  replace X := X.below b
  clear b
  go_wp2_with (first | (refine Nx.take ⟨X.blk, X.bel⟩ rfl rfl rfl ?_) | (refine wpList_put X.res rfl rfl rfl rfl rfl ?_) | (refine wpList_tell (k := 0) (f := zF) (ad := none) (cd := 0) (X.fin (ndC (cdN n 4 8) p) #[]).1 rfl rfl rfl rfl rfl ?_))
  obtain ⟨-, Z1, Z2, Z3⟩ := X.fin (ndC (cdN n 4 8) p) (hpC (0) (zF) (none) (0))
  refine bodyPost_ret (v := .tuple #[ndV (cdN n 4 8) p, hpV (0) (zF) (none) (0)]) ?_ rfl ⟨rfl, Z3⟩
  exact results_both Tryz.results205 _ _ gr gh _ _ rfl rfl Z1 Z2 rfl rfl

set_option maxHeartbeats 4000000 in
/-- impl.inDelim. -/
theorem implInDelim (n : Nd) (p : NdP) (l : Int) (w : World) (hl : l = 0 ∨ l = 1) (hl0 : 0 ≤ n.left ∧ n.left ≤ 128) :
    Calls Tryz.prog 206 #[ndV n p, .int .i64 l] w (Told (if l = 0 then { n with left := 8 } else cdN n 5 3) 0 p w) := by
  rcases hl with rfl | rfl
  · rw [if_pos rfl]
    have X := N3.made (ndC n p) w
    go_enter Tryz.func206, Tryz.ntmps206
    go_upto_region 1 with fail
    generalize World.alloc _ _ = W at X ⊢
    generalize w.heap.size + 1 + 1 = gh at X ⊢
    generalize w.heap.size + 1 = gr at X ⊢
    generalize w.heap.size = g at X ⊢
    have c12 : W.cell? ⟨g, 12, none⟩ = some (.int .i64 n.left) := X.cell 12
    have f12 := X.free 12
    go_upto_region 3 with fail
    clear c12 f12
    replace X : N3 g gr gh (ndC ({ n with left := 8 }) p) w _ := (X.set 12 (.int .i64 8))
    generalize World.setCell _ _ _ = W1 at X ⊢
    go_wp2_with (first | (refine Nx.take ⟨X.blk, X.bel⟩ rfl rfl rfl ?_) | (refine wpList_put X.res rfl rfl rfl rfl rfl ?_) | (refine wpList_tell (k := 0) (f := zF) (ad := none) (cd := 0) (X.fin (ndC ({ n with left := 8 }) p) #[]).1 rfl rfl rfl rfl rfl ?_))
    obtain ⟨-, Z1, Z2, Z3⟩ := X.fin (ndC ({ n with left := 8 }) p) (hpC (0) (zF) (none) (0))
    refine bodyPost_ret (v := .tuple #[ndV ({ n with left := 8 }) p, hpV (0) (zF) (none) (0)]) ?_ rfl ⟨rfl, Z3⟩
    exact results_both Tryz.results206 _ _ gr gh _ _ rfl rfl Z1 Z2 rfl rfl
  · rw [if_neg (by decide)]
    have X := N3.made (ndC n p) w
    go_enter Tryz.func206, Tryz.ntmps206
    go_upto_region 1 with fail
    generalize World.alloc _ _ = W at X ⊢
    generalize w.heap.size + 1 + 1 = gh at X ⊢
    generalize w.heap.size + 1 = gr at X ⊢
    generalize w.heap.size = g at X ⊢
    go_wp2_with (refine Nx.take ⟨X.blk, X.bel⟩ rfl rfl rfl ?_)
    refine (implDown n p 5 3 _ hl0).mono ?_
    rintro e w2 ⟨rfl, b⟩
    replace X := X.below b
    clear b
    go_wp2_with (first | (refine Nx.take ⟨X.blk, X.bel⟩ rfl rfl rfl ?_) | (refine wpList_put X.res rfl rfl rfl rfl rfl ?_) | (refine wpList_tell (k := 0) (f := zF) (ad := none) (cd := 0) (X.fin (ndC (cdN n 5 3) p) #[]).1 rfl rfl rfl rfl rfl ?_))
    obtain ⟨-, Z1, Z2, Z3⟩ := X.fin (ndC (cdN n 5 3) p) (hpC (0) (zF) (none) (0))
    refine bodyPost_ret (v := .tuple #[ndV (cdN n 5 3) p, hpV (0) (zF) (none) (0)]) ?_ rfl ⟨rfl, Z3⟩
    exact results_both Tryz.results206 _ _ gr gh _ _ rfl rfl Z1 Z2 rfl rfl

/-- A step that tells no frame, and lets the lists be; its own frame stays, or is the zero frame. -/
def TellF (r : Nd) (k : Int) (n : Nd) (p : NdP) (w : World) (e : Ending) (w' : World) : Prop := ∃ p' : NdP, Told r k p' w e w' ∧ ((r.fr = n.fr ∧ p' = p) ∨ (r.fr = zF ∧ p' = { p with ad := none, cd := 0 }))

set_option maxHeartbeats 8000000 in
/-- impl.inInter. -/
theorem implInInter (n : Nd) (p : NdP) (l : Int) (w : World) (hl0 : 0 ≤ n.left ∧ n.left ≤ 128) (h5 : n.ph = 5) :
    Calls Tryz.prog 207 #[ndV n p, .int .i64 l] w (TellF (if n.tx = true ∧ stV n.cs n.cg = 1 then (if lessV n.left = 0 then { n with ph := 6, left := 8, tx := false, fr := zF } else { n with left := lessV n.left }) else (if lessV n.left = 0 then { n with ph := 0, left := 0, tx := false, fr := zF } else { n with left := lessV n.left })) 0 n p w) := by
  replace h5 := Lib.hid h5
  by_cases hs : n.tx = true ∧ stV n.cs n.cg = 1
  · have ht := Lib.hid hs.1
    have h1 : (stV n.cs n.cg == 1) = true := beq_iff_eq.2 hs.2
    rw [if_pos hs]
    clear hs
    generalize hst : stV n.cs n.cg = st at *
    by_cases hv : lessV n.left = 0
    · have e1 : cdN n 6 8 = { n with ph := 6, left := 8 } := by unfold cdN; rw [if_pos hv]
      rw [if_pos hv]
      have X := N3.made (ndC n p) w
      go_enter Tryz.func207, Tryz.ntmps207
      go_upto_region 1 with fail
      generalize World.alloc _ _ = W at X ⊢
      generalize w.heap.size + 1 + 1 = gh at X ⊢
      generalize w.heap.size + 1 = gr at X ⊢
      generalize w.heap.size = g at X ⊢
      have c1 : W.cell? ⟨g, 1, none⟩ = some (.bool n.tx) := X.cell 1
      have c13 : W.cell? ⟨g, 13, none⟩ = some (.int .i64 n.cs) := X.cell 13
      have c14 : W.cell? ⟨g, 14, none⟩ = some (.int .i64 n.cg) := X.cell 14
      rw [ht.out] at c1
      go_wp2_with fail
      refine (implStateOf _ _ _).mono ?_
      rintro e w2 ⟨rfl, b⟩
      replace X := X.below b
      clear b c1 c13 c14
      have h1 := h1
      go_wp2_with (refine Nx.take ⟨X.blk, X.bel⟩ rfl rfl rfl ?_)
      refine (implDown n p 6 8 _ hl0).mono ?_
      rintro e w3 ⟨rfl, b⟩
      replace X := X.below b
      clear b
      rw [e1]
      go_upto_region 4 with (refine wpList_put X.blk rfl rfl rfl rfl rfl ?_)
      replace X : N3 g gr gh (ndC { n with ph := 6, left := 8 } p) w _ := X.put _
      generalize World.setRow _ _ _ = W4 at X ⊢
      have c0 : W4.cell? ⟨g, 0, none⟩ = some (.int .i64 6) := X.cell 0
      have c1 : W4.cell? ⟨g, 1, none⟩ = some (.bool n.tx) := X.cell 1
      have c4 : W4.cell? ⟨g, 4, none⟩ = some (.int .i64 n.fr.id) := X.cell 4
      have c5 : W4.cell? ⟨g, 5, none⟩ = some (.bool n.fr.rm) := X.cell 5
      have c6 : W4.cell? ⟨g, 6, none⟩ = some (.int .i64 n.fr.ln) := X.cell 6
      have c7 : W4.cell? ⟨g, 7, none⟩ = some (.slice p.ad n.fr.D.length p.cd) := X.cell 7
      have f1 := X.free 1
      have f4 := X.free 4
      have f5 := X.free 5
      have f6 := X.free 6
      have f7 := X.free 7
      go_upto_region 6 with fail
      clear c0 c1 c4 c5 c6 c7 f1 f4 f5 f6 f7
      replace X : N3 g gr gh (ndC ({ n with ph := 6, left := 8, tx := false, fr := zF }) { p with ad := none, cd := 0 }) w _ := (((((X.set 1 (.bool false)).set 4 (.int .i64 0)).set 5 (.bool false)).set 6 (.int .i64 0)).set 7 (.slice none 0 0))
      generalize World.setCell _ _ _ = W5 at X ⊢
      go_wp2_with (first | (refine Nx.take ⟨X.blk, X.bel⟩ rfl rfl rfl ?_) | (refine wpList_put X.res rfl rfl rfl rfl rfl ?_) | (refine wpList_tell (k := 0) (f := zF) (ad := none) (cd := 0) (X.fin (ndC ({ n with ph := 6, left := 8, tx := false, fr := zF }) { p with ad := none, cd := 0 }) #[]).1 rfl rfl rfl rfl rfl ?_))
      obtain ⟨-, Z1, Z2, Z3⟩ := X.fin (ndC ({ n with ph := 6, left := 8, tx := false, fr := zF }) { p with ad := none, cd := 0 }) (hpC (0) (zF) (none) (0))
      refine bodyPost_ret (v := .tuple #[ndV ({ n with ph := 6, left := 8, tx := false, fr := zF }) { p with ad := none, cd := 0 }, hpV (0) (zF) (none) (0)]) ?_ rfl ⟨_, ⟨rfl, Z3⟩, .inr ⟨rfl, rfl⟩⟩
      exact results_both Tryz.results207 _ _ gr gh _ _ rfl rfl Z1 Z2 rfl rfl
    · have e1 : cdN n 6 8 = { n with left := lessV n.left } := by unfold cdN; rw [if_neg hv]
      rw [if_neg hv]
      have X := N3.made (ndC n p) w
      go_enter Tryz.func207, Tryz.ntmps207
      go_upto_region 1 with fail
      generalize World.alloc _ _ = W at X ⊢
      generalize w.heap.size + 1 + 1 = gh at X ⊢
      generalize w.heap.size + 1 = gr at X ⊢
      generalize w.heap.size = g at X ⊢
      have c1 : W.cell? ⟨g, 1, none⟩ = some (.bool n.tx) := X.cell 1
      have c13 : W.cell? ⟨g, 13, none⟩ = some (.int .i64 n.cs) := X.cell 13
      have c14 : W.cell? ⟨g, 14, none⟩ = some (.int .i64 n.cg) := X.cell 14
      rw [ht.out] at c1
      go_wp2_with fail
      refine (implStateOf _ _ _).mono ?_
      rintro e w2 ⟨rfl, b⟩
      replace X := X.below b
      clear b c1 c13 c14
      have h1 := h1
      go_wp2_with (refine Nx.take ⟨X.blk, X.bel⟩ rfl rfl rfl ?_)
      refine (implDown n p 6 8 _ hl0).mono ?_
      rintro e w3 ⟨rfl, b⟩
      replace X := X.below b
      clear b
      rw [e1]
      go_upto_region 4 with (refine wpList_put X.blk rfl rfl rfl rfl rfl ?_)
      replace X : N3 g gr gh (ndC { n with left := lessV n.left } p) w _ := X.put _
      generalize World.setRow _ _ _ = W4 at X ⊢
      have c0 : W4.cell? ⟨g, 0, none⟩ = some (.int .i64 5) := (X.cell 0).trans (by rw [← h5.out]; rfl)
      go_upto_region 6 with fail
      clear c0
      go_wp2_with (first | (refine Nx.take ⟨X.blk, X.bel⟩ rfl rfl rfl ?_) | (refine wpList_put X.res rfl rfl rfl rfl rfl ?_) | (refine wpList_tell (k := 0) (f := zF) (ad := none) (cd := 0) (X.fin (ndC ({ n with left := lessV n.left }) p) #[]).1 rfl rfl rfl rfl rfl ?_))
      obtain ⟨-, Z1, Z2, Z3⟩ := X.fin (ndC ({ n with left := lessV n.left }) p) (hpC (0) (zF) (none) (0))
      refine bodyPost_ret (v := .tuple #[ndV ({ n with left := lessV n.left }) p, hpV (0) (zF) (none) (0)]) ?_ rfl ⟨_, ⟨rfl, Z3⟩, .inl ⟨rfl, rfl⟩⟩
      exact results_both Tryz.results207 _ _ gr gh _ _ rfl rfl Z1 Z2 rfl rfl
  · rw [if_neg hs]
    rcases (Bool.eq_false_or_eq_true n.tx).symm with ht0 | ht0
    · have ht := Lib.hid ht0
      clear ht0 hs
      by_cases hv : lessV n.left = 0
      · have e1 : cdN n 0 0 = { n with ph := 0, left := 0 } := by unfold cdN; rw [if_pos hv]
        rw [if_pos hv]
        have X := N3.made (ndC n p) w
        go_enter Tryz.func207, Tryz.ntmps207
        go_upto_region 1 with fail
        generalize World.alloc _ _ = W at X ⊢
        generalize w.heap.size + 1 + 1 = gh at X ⊢
        generalize w.heap.size + 1 = gr at X ⊢
        generalize w.heap.size = g at X ⊢
        have c1 : W.cell? ⟨g, 1, none⟩ = some (.bool n.tx) := X.cell 1
        have c13 : W.cell? ⟨g, 13, none⟩ = some (.int .i64 n.cs) := X.cell 13
        have c14 : W.cell? ⟨g, 14, none⟩ = some (.int .i64 n.cg) := X.cell 14
        rw [ht.out] at c1
        go_wp2_with (refine Nx.take ⟨X.blk, X.bel⟩ rfl rfl rfl ?_)
        clear c1 c13 c14
        refine (implDown n p 0 0 _ hl0).mono ?_
        rintro e w3 ⟨rfl, b⟩
        replace X := X.below b
        clear b
        rw [e1]
        go_upto_region 4 with (refine wpList_put X.blk rfl rfl rfl rfl rfl ?_)
        replace X : N3 g gr gh (ndC { n with ph := 0, left := 0 } p) w _ := X.put _
        generalize World.setRow _ _ _ = W4 at X ⊢
        have c0 : W4.cell? ⟨g, 0, none⟩ = some (.int .i64 0) := X.cell 0
        have c1 : W4.cell? ⟨g, 1, none⟩ = some (.bool n.tx) := X.cell 1
        have c4 : W4.cell? ⟨g, 4, none⟩ = some (.int .i64 n.fr.id) := X.cell 4
        have c5 : W4.cell? ⟨g, 5, none⟩ = some (.bool n.fr.rm) := X.cell 5
        have c6 : W4.cell? ⟨g, 6, none⟩ = some (.int .i64 n.fr.ln) := X.cell 6
        have c7 : W4.cell? ⟨g, 7, none⟩ = some (.slice p.ad n.fr.D.length p.cd) := X.cell 7
        have f1 := X.free 1
        have f4 := X.free 4
        have f5 := X.free 5
        have f6 := X.free 6
        have f7 := X.free 7
        go_upto_region 6 with fail
        clear c0 c1 c4 c5 c6 c7 f1 f4 f5 f6 f7
        replace X : N3 g gr gh (ndC ({ n with ph := 0, left := 0, tx := false, fr := zF }) { p with ad := none, cd := 0 }) w _ := (((((X.set 1 (.bool false)).set 4 (.int .i64 0)).set 5 (.bool false)).set 6 (.int .i64 0)).set 7 (.slice none 0 0))
        generalize World.setCell _ _ _ = W5 at X ⊢
        go_wp2_with (first | (refine Nx.take ⟨X.blk, X.bel⟩ rfl rfl rfl ?_) | (refine wpList_put X.res rfl rfl rfl rfl rfl ?_) | (refine wpList_tell (k := 0) (f := zF) (ad := none) (cd := 0) (X.fin (ndC ({ n with ph := 0, left := 0, tx := false, fr := zF }) { p with ad := none, cd := 0 }) #[]).1 rfl rfl rfl rfl rfl ?_))
        obtain ⟨-, Z1, Z2, Z3⟩ := X.fin (ndC ({ n with ph := 0, left := 0, tx := false, fr := zF }) { p with ad := none, cd := 0 }) (hpC (0) (zF) (none) (0))
        refine bodyPost_ret (v := .tuple #[ndV ({ n with ph := 0, left := 0, tx := false, fr := zF }) { p with ad := none, cd := 0 }, hpV (0) (zF) (none) (0)]) ?_ rfl ⟨_, ⟨rfl, Z3⟩, .inr ⟨rfl, rfl⟩⟩
        exact results_both Tryz.results207 _ _ gr gh _ _ rfl rfl Z1 Z2 rfl rfl
      · have e1 : cdN n 0 0 = { n with left := lessV n.left } := by unfold cdN; rw [if_neg hv]
        rw [if_neg hv]
        have X := N3.made (ndC n p) w
        go_enter Tryz.func207, Tryz.ntmps207
        go_upto_region 1 with fail
        generalize World.alloc _ _ = W at X ⊢
        generalize w.heap.size + 1 + 1 = gh at X ⊢
        generalize w.heap.size + 1 = gr at X ⊢
        generalize w.heap.size = g at X ⊢
        have c1 : W.cell? ⟨g, 1, none⟩ = some (.bool n.tx) := X.cell 1
        have c13 : W.cell? ⟨g, 13, none⟩ = some (.int .i64 n.cs) := X.cell 13
        have c14 : W.cell? ⟨g, 14, none⟩ = some (.int .i64 n.cg) := X.cell 14
        rw [ht.out] at c1
        go_wp2_with (refine Nx.take ⟨X.blk, X.bel⟩ rfl rfl rfl ?_)
        clear c1 c13 c14
        refine (implDown n p 0 0 _ hl0).mono ?_
        rintro e w3 ⟨rfl, b⟩
        replace X := X.below b
        clear b
        rw [e1]
        go_upto_region 4 with (refine wpList_put X.blk rfl rfl rfl rfl rfl ?_)
        replace X : N3 g gr gh (ndC { n with left := lessV n.left } p) w _ := X.put _
        generalize World.setRow _ _ _ = W4 at X ⊢
        have c0 : W4.cell? ⟨g, 0, none⟩ = some (.int .i64 5) := (X.cell 0).trans (by rw [← h5.out]; rfl)
        go_upto_region 6 with fail
        clear c0
        go_wp2_with (first | (refine Nx.take ⟨X.blk, X.bel⟩ rfl rfl rfl ?_) | (refine wpList_put X.res rfl rfl rfl rfl rfl ?_) | (refine wpList_tell (k := 0) (f := zF) (ad := none) (cd := 0) (X.fin (ndC ({ n with left := lessV n.left }) p) #[]).1 rfl rfl rfl rfl rfl ?_))
        obtain ⟨-, Z1, Z2, Z3⟩ := X.fin (ndC ({ n with left := lessV n.left }) p) (hpC (0) (zF) (none) (0))
        refine bodyPost_ret (v := .tuple #[ndV ({ n with left := lessV n.left }) p, hpV (0) (zF) (none) (0)]) ?_ rfl ⟨_, ⟨rfl, Z3⟩, .inl ⟨rfl, rfl⟩⟩
        exact results_both Tryz.results207 _ _ gr gh _ _ rfl rfl Z1 Z2 rfl rfl
    · have ht := Lib.hid ht0
      have h1 : (stV n.cs n.cg == 1) = false := beq_eq_false_iff_ne.2 fun k => hs ⟨ht0, k⟩
      clear ht0 hs
      generalize hst : stV n.cs n.cg = st at *
      by_cases hv : lessV n.left = 0
      · have e1 : cdN n 0 0 = { n with ph := 0, left := 0 } := by unfold cdN; rw [if_pos hv]
        rw [if_pos hv]
        have X := N3.made (ndC n p) w
        go_enter Tryz.func207, Tryz.ntmps207
        go_upto_region 1 with fail
        generalize World.alloc _ _ = W at X ⊢
        generalize w.heap.size + 1 + 1 = gh at X ⊢
        generalize w.heap.size + 1 = gr at X ⊢
        generalize w.heap.size = g at X ⊢
        have c1 : W.cell? ⟨g, 1, none⟩ = some (.bool n.tx) := X.cell 1
        have c13 : W.cell? ⟨g, 13, none⟩ = some (.int .i64 n.cs) := X.cell 13
        have c14 : W.cell? ⟨g, 14, none⟩ = some (.int .i64 n.cg) := X.cell 14
        rw [ht.out] at c1
        go_wp2_with fail
        refine (implStateOf _ _ _).mono ?_
        rintro e w2 ⟨rfl, b⟩
        replace X := X.below b
        clear b c1 c13 c14
        go_wp2_with (refine Nx.take ⟨X.blk, X.bel⟩ rfl rfl rfl ?_)
        refine (implDown n p 0 0 _ hl0).mono ?_
        rintro e w3 ⟨rfl, b⟩
        replace X := X.below b
        clear b
        rw [e1]
        go_upto_region 4 with (refine wpList_put X.blk rfl rfl rfl rfl rfl ?_)
        replace X : N3 g gr gh (ndC { n with ph := 0, left := 0 } p) w _ := X.put _
        generalize World.setRow _ _ _ = W4 at X ⊢
        have c0 : W4.cell? ⟨g, 0, none⟩ = some (.int .i64 0) := X.cell 0
        have c1 : W4.cell? ⟨g, 1, none⟩ = some (.bool n.tx) := X.cell 1
        have c4 : W4.cell? ⟨g, 4, none⟩ = some (.int .i64 n.fr.id) := X.cell 4
        have c5 : W4.cell? ⟨g, 5, none⟩ = some (.bool n.fr.rm) := X.cell 5
        have c6 : W4.cell? ⟨g, 6, none⟩ = some (.int .i64 n.fr.ln) := X.cell 6
        have c7 : W4.cell? ⟨g, 7, none⟩ = some (.slice p.ad n.fr.D.length p.cd) := X.cell 7
        have f1 := X.free 1
        have f4 := X.free 4
        have f5 := X.free 5
        have f6 := X.free 6
        have f7 := X.free 7
        go_upto_region 6 with fail
        clear c0 c1 c4 c5 c6 c7 f1 f4 f5 f6 f7
        replace X : N3 g gr gh (ndC ({ n with ph := 0, left := 0, tx := false, fr := zF }) { p with ad := none, cd := 0 }) w _ := (((((X.set 1 (.bool false)).set 4 (.int .i64 0)).set 5 (.bool false)).set 6 (.int .i64 0)).set 7 (.slice none 0 0))
        generalize World.setCell _ _ _ = W5 at X ⊢
        go_wp2_with (first | (refine Nx.take ⟨X.blk, X.bel⟩ rfl rfl rfl ?_) | (refine wpList_put X.res rfl rfl rfl rfl rfl ?_) | (refine wpList_tell (k := 0) (f := zF) (ad := none) (cd := 0) (X.fin (ndC ({ n with ph := 0, left := 0, tx := false, fr := zF }) { p with ad := none, cd := 0 }) #[]).1 rfl rfl rfl rfl rfl ?_))
        obtain ⟨-, Z1, Z2, Z3⟩ := X.fin (ndC ({ n with ph := 0, left := 0, tx := false, fr := zF }) { p with ad := none, cd := 0 }) (hpC (0) (zF) (none) (0))
        refine bodyPost_ret (v := .tuple #[ndV ({ n with ph := 0, left := 0, tx := false, fr := zF }) { p with ad := none, cd := 0 }, hpV (0) (zF) (none) (0)]) ?_ rfl ⟨_, ⟨rfl, Z3⟩, .inr ⟨rfl, rfl⟩⟩
        exact results_both Tryz.results207 _ _ gr gh _ _ rfl rfl Z1 Z2 rfl rfl
      · have e1 : cdN n 0 0 = { n with left := lessV n.left } := by unfold cdN; rw [if_neg hv]
        rw [if_neg hv]
        have X := N3.made (ndC n p) w
        go_enter Tryz.func207, Tryz.ntmps207
        go_upto_region 1 with fail
        generalize World.alloc _ _ = W at X ⊢
        generalize w.heap.size + 1 + 1 = gh at X ⊢
        generalize w.heap.size + 1 = gr at X ⊢
        generalize w.heap.size = g at X ⊢
        have c1 : W.cell? ⟨g, 1, none⟩ = some (.bool n.tx) := X.cell 1
        have c13 : W.cell? ⟨g, 13, none⟩ = some (.int .i64 n.cs) := X.cell 13
        have c14 : W.cell? ⟨g, 14, none⟩ = some (.int .i64 n.cg) := X.cell 14
        rw [ht.out] at c1
        go_wp2_with fail
        refine (implStateOf _ _ _).mono ?_
        rintro e w2 ⟨rfl, b⟩
        replace X := X.below b
        clear b c1 c13 c14
        go_wp2_with (refine Nx.take ⟨X.blk, X.bel⟩ rfl rfl rfl ?_)
        refine (implDown n p 0 0 _ hl0).mono ?_
        rintro e w3 ⟨rfl, b⟩
        replace X := X.below b
        clear b
        rw [e1]
        go_upto_region 4 with (refine wpList_put X.blk rfl rfl rfl rfl rfl ?_)
        replace X : N3 g gr gh (ndC { n with left := lessV n.left } p) w _ := X.put _
        generalize World.setRow _ _ _ = W4 at X ⊢
        have c0 : W4.cell? ⟨g, 0, none⟩ = some (.int .i64 5) := (X.cell 0).trans (by rw [← h5.out]; rfl)
        go_upto_region 6 with fail
        clear c0
        go_wp2_with (first | (refine Nx.take ⟨X.blk, X.bel⟩ rfl rfl rfl ?_) | (refine wpList_put X.res rfl rfl rfl rfl rfl ?_) | (refine wpList_tell (k := 0) (f := zF) (ad := none) (cd := 0) (X.fin (ndC ({ n with left := lessV n.left }) p) #[]).1 rfl rfl rfl rfl rfl ?_))
        obtain ⟨-, Z1, Z2, Z3⟩ := X.fin (ndC ({ n with left := lessV n.left }) p) (hpC (0) (zF) (none) (0))
        refine bodyPost_ret (v := .tuple #[ndV ({ n with left := lessV n.left }) p, hpV (0) (zF) (none) (0)]) ?_ rfl ⟨_, ⟨rfl, Z3⟩, .inl ⟨rfl, rfl⟩⟩
        exact results_both Tryz.results207 _ _ gr gh _ _ rfl rfl Z1 Z2 rfl rfl

set_option maxHeartbeats 4000000 in
/-- impl.inWait. -/
theorem implInWait (n : Nd) (p : NdP) (l : Int) (w : World) (hl : l = 0 ∨ l = 1) (hl0 : 0 ≤ n.left ∧ n.left ≤ 128) :
    Calls Tryz.prog 208 #[ndV n p, .int .i64 l] w (Told (if l = 0 then begN n false else cdN n 0 0) 0 p w) := by
  rcases hl with rfl | rfl
  · rw [if_pos rfl]
    have X := N3.made (ndC n p) w
    go_enter Tryz.func208, Tryz.ntmps208
    go_upto_region 1 with fail
    generalize World.alloc _ _ = W at X ⊢
    generalize w.heap.size + 1 + 1 = gh at X ⊢
    generalize w.heap.size + 1 = gr at X ⊢
    generalize w.heap.size = g at X ⊢
    go_wp2_with (refine Nx.take ⟨X.blk, X.bel⟩ rfl rfl rfl ?_)
    refine (implBegun n p _).mono ?_
    rintro e w2 ⟨rfl, b⟩
    replace X := X.below b
    clear b
    go_upto_region 4 with (refine wpList_put X.blk rfl rfl rfl rfl rfl ?_)
    replace X : N3 g gr gh (ndC (begunN n) p) w _ := X.put _
    generalize World.setRow _ _ _ = W4 at X ⊢
    have c1 : W4.cell? ⟨g, 1, none⟩ = some (.bool n.tx) := X.cell 1
    have f1 := X.free 1
    go_upto_region 5 with fail
    clear c1 f1
    replace X : N3 g gr gh (ndC (begN n false) p) w _ := (X.set 1 (.bool false))
    generalize World.setCell _ _ _ = W5 at X ⊢
    go_wp2_with (first | (refine Nx.take ⟨X.blk, X.bel⟩ rfl rfl rfl ?_) | (refine wpList_put X.res rfl rfl rfl rfl rfl ?_) | (refine wpList_tell (k := 0) (f := zF) (ad := none) (cd := 0) (X.fin (ndC (begN n false) p) #[]).1 rfl rfl rfl rfl rfl ?_))
    obtain ⟨-, Z1, Z2, Z3⟩ := X.fin (ndC (begN n false) p) (hpC (0) (zF) (none) (0))
    refine bodyPost_ret (v := .tuple #[ndV (begN n false) p, hpV (0) (zF) (none) (0)]) ?_ rfl ⟨rfl, Z3⟩
    exact results_both Tryz.results208 _ _ gr gh _ _ rfl rfl Z1 Z2 rfl rfl
  · rw [if_neg (by decide)]
    have X := N3.made (ndC n p) w
    go_enter Tryz.func208, Tryz.ntmps208
    go_upto_region 1 with fail
    generalize World.alloc _ _ = W at X ⊢
    generalize w.heap.size + 1 + 1 = gh at X ⊢
    generalize w.heap.size + 1 = gr at X ⊢
    generalize w.heap.size = g at X ⊢
    go_wp2_with (refine Nx.take ⟨X.blk, X.bel⟩ rfl rfl rfl ?_)
    refine (implDown n p 0 0 _ hl0).mono ?_
    rintro e w2 ⟨rfl, b⟩
    replace X := X.below b
    clear b
    go_wp2_with (first | (refine Nx.take ⟨X.blk, X.bel⟩ rfl rfl rfl ?_) | (refine wpList_put X.res rfl rfl rfl rfl rfl ?_) | (refine wpList_tell (k := 0) (f := zF) (ad := none) (cd := 0) (X.fin (ndC (cdN n 0 0) p) #[]).1 rfl rfl rfl rfl rfl ?_))
    obtain ⟨-, Z1, Z2, Z3⟩ := X.fin (ndC (cdN n 0 0) p) (hpC (0) (zF) (none) (0))
    refine bodyPost_ret (v := .tuple #[ndV (cdN n 0 0) p, hpV (0) (zF) (none) (0)]) ?_ rfl ⟨rfl, Z3⟩
    exact results_both Tryz.results208 _ _ gr gh _ _ rfl rfl Z1 Z2 rfl rfl
end Go.Proofs.YtngcekegngmedaaGreatDoor

/- Two operations that are ready at once; a node's and a frame's argument; sizes of a frame. -/

set_option linter.unusedVariables false
set_option linter.unusedSimpArgs false
set_option maxRecDepth 20000
namespace Go.Proofs.YtngcekegngmedaaGreatDoor
open Go.RowKit

abbrev frC (f : Frm) (a : Option Addr) (c : Nat) : Array Value := #[.int .i64 f.id, .bool f.rm, .int .i64 f.ln, .slice a f.D.length c]
/-- A node and a frame, as a law of both holds them. -/
structure Yf (ga gb : Nat) (n : Nd) (p : NdP) (f : Frm) (af : Option Addr) (cf : Nat) (w0 w : World) : Prop where
  nd : w.heap[ga]? = some (.cells (ndC n p) 83 (0, 0))
  fr : w.heap[gb]? = some (.cells (frC f af cf) 78 (0, 0))
  bel : Below w0.heap.size w0 w
section
variable {ga gb : Nat} {n : Nd} {p : NdP} {f : Frm} {af : Option Addr} {cf : Nat} {w0 w w' : World}
theorem Yf.below (h : Yf ga gb n p f af cf w0 w) (b : Below w.heap.size w w') : Yf ga gb n p f af cf w0 w' := ⟨(b.block ga (Array.getElem?_eq_some_iff.1 h.nd).1).trans h.nd, (b.block gb (Array.getElem?_eq_some_iff.1 h.fr).1).trans h.fr, Below.then2 h.bel b⟩
end
theorem Yf.made (n : Nd) (p : NdP) (f : Frm) (af : Option Addr) (cf : Nat) (w : World) : Yf w.heap.size (w.heap.size + 1) n p f af cf w ((w.alloc (.cells (ndC n p) 83)).alloc (.cells (frC f af cf) 78)) := by
  have s1 : (w.alloc (.cells (ndC n p) 83)).heap.size = w.heap.size + 1 := by simp
  have b1 : Below w.heap.size w (w.alloc (.cells (ndC n p) 83)) := below_more (Below.refl _ _) _
  have b2 := below_more b1 (.cells (frC f af cf) 78)
  have k2 : Below (w.heap.size + 1) (w.alloc (.cells (ndC n p) 83)) ((w.alloc (.cells (ndC n p) 83)).alloc (.cells (frC f af cf) 78)) := by rw [← s1]; exact below_more (Below.refl _ _) _
  refine ⟨?_, ?_, b2⟩
  · rw [k2.block _ (by omega)]; exact heap_alloc_new w _
  · rw [← s1]; exact heap_alloc_new _ _
end Go.Proofs.YtngcekegngmedaaGreatDoor

/- A region that draws its order, one operation after another: each operation is told as it is written (out of the list of operations: out of the array it stays unread, and all that follows grows slow). -/

set_option linter.unusedVariables false
set_option linter.unusedSimpArgs false
set_option maxRecDepth 20000
namespace Go.Proofs.YtngcekegngmedaaGreatDoor
open Go.RowKit
section
variable {P : Program} {md : Region.Mode} {ops : Array Oper} {Q : Exit → Act → World → Prop} {S : World → Prop} {fuel : Nat} {listed : Array Bool} {a : Act} {w : World} {oi : Oper}
theorem op_at {i : Nat} (hi : ops.toList[i]? = some oi) : ops[i]? = some oi := by rw [← Array.getElem?_toList]; exact hi
theorem h_take (i d : Nat) (v : Value) (hi : ops.toList[i]? = some oi) (hd : oi.dst = some d) (hs : Region.noSelect ops = true) (hf : Region.free md ops listed i = true) (hr : (Region.ready md ops listed).contains i = true)
    (hQ : ∀ c a w, Q (.panic c) (a.put (some d) v) w → Q (.panic c) a w) (hw : Region.wanted oi (yielded ops a.tmps) = true) (hx : ∀ u, S u → (execOp a.eval oi).run P u = .ok (.value v) u) (hS : S w)
    (h : wpAnyH P md ops Q S fuel (listed.setIfInBounds i true) (a.put (some d) v) w) : wpAnyH P md ops Q S (fuel + 1) listed a w :=
  wpAnyH_take (op_at hi) hs hf hr (by rw [hd]; exact hQ) (.inl ⟨hw, hx⟩) hS (by rw [hd]; exact h)
theorem h_call (i d : Nat) (f : FuncId) (args : Array Value) (hi : ops.toList[i]? = some oi) (hd : oi.dst = some d) (hr : Region.ready md ops listed = [i]) (hw : Region.wanted oi (yielded ops a.tmps) = true) (hx : (execOp a.eval oi).run P w = .ok (.enter f args) w)
    (h : Calls P f args w fun e w' => ∃ v, e = .returned v ∧ S w' ∧ wpAnyH P md ops Q S fuel (listed.setIfInBounds i true) (a.put (some d) v) w') : wpAnyH P md ops Q S (fuel + 1) listed a w :=
  held_call i f args (op_at hi) hr hw hx (by rw [hd]; exact h)
end
end Go.Proofs.YtngcekegngmedaaGreatDoor
