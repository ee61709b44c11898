/- Proved: at every text of bytes: a new node of the filters drawn out of it is right just where the model's is; it is still (drives 1, its next bit is 1), and drives 0 with a frame in its box (laws.FnStill answers true). No condition. -/
import Derived.Test.YtjlegnnekjcpmaaGreatM27
import Derived.Test.YtjlegnnekjcpmaaGreatM18
import Derived.Test.YtjlegnnekjcpmaaGreatM25
import Derived.Test.YtjlegnnekjcpmaaGreatM17
import Derived.Test.YtjlegnnekjcpmaaGreatM14
import Derived.Test.YtjlegnnekjcpmaaGreatRows
import Derived.WalkKit
import Derived.WalkSpells
import Derived.ProofKit
import Derived.OpenShut
import Derived.ShutString
import Derived.ChangeOld
import Derived.Below
import Derived.Deep.CutRange

set_option linter.unusedVariables false
set_option linter.unusedSimpArgs false
namespace Go.Proofs.YtjlegnnekjcpmaaGreat.lawStill
open Go.ChangeShapes Go.WideShapes Go.ChangeAt Go.RowKit
open Go.ChangeMaps (open_string shut_string)

theorem own : ownKnob Tryz.prog.godebug = none := by kernel_rfl

/-- A new node with one frame in its box. -/
def xnd (L : List (Int × Int)) (f : Frm) : Nd := ⟨0, false, false, false, ⟨0, false, 0, []⟩, ⟨#[]⟩, 0, 0, 0, 0, 0, 0, [f], [], L⟩
def xp (gb : Nat) (al : Option Addr) (cl : Nat) : NdP := ⟨none, 0, some ⟨gb, 0, none⟩, 1, none, 0, al, cl⟩
theorem new_still (L : List (Int × Int)) (h : newB L = true) : driveN (znd L) = 1 ∧ nextN (znd L) = 1 := by
  have hd : downB (znd L) = false := rfl
  constructor
  · unfold driveN; rw [hd, Bool.and_false]; rfl
  · unfold nextN; rw [if_neg (fun k => by have := k.1; simp [znd] at this)]
theorem x_right (L : List (Int × Int)) (f : Frm) (h : newB L = true) (hf : frB f = true) : nodeB (xnd L f) = true ∧ driveN (xnd L f) = 0 := by
  have hr : 0 ≤ rkF f := by
    have := rankV_neg (id := f.id) (rm := f.rm) (ln := f.ln) (D := f.D)
    have h2 : frOk f.id f.rm f.ln f.D = true := hf
    have h3 : ¬ rkF f < 0 := by unfold rkF; rw [this, h2]; simp
    omega
  have h1 : numB (xnd L f) = true := rfl
  have h2 : frB (xnd L f).fr = true := rfl
  have h3 : okB (xnd L f).got = true := rfl
  have h4 : boxB (xnd L f).box = true := boxB_yes (by simp [xnd]) (fun j hj => by
    obtain rfl : j = 0 := by simp [xnd] at hj; exact hj
    exact ⟨hr, fun h0 => absurd h0 (by omega)⟩)
  have h5 : fifoB (xnd L f).fifo = true := rfl
  have h6 : decide ((xnd L f).ph ≠ 1) = true := rfl
  have h7 : decide ((xnd L f).got.size ≤ 98) = true := rfl
  have hk : nodeB (xnd L f) = true := by
    rw [nodeB, h1, h2, listB, h7, h3, h4, h5, h6]
    simp only [Bool.true_and, Bool.true_or, Bool.and_true]
    exact h
  refine ⟨hk, ?_⟩
  have hd : downB (xnd L f) = true := rfl
  unfold driveN
  rw [hk, hd]
  rfl
theorem nxKeep {g : Nat} {n : Nd} {p : NdP} {w0 w w' : World} {r : Option Nat} (h : Nx g n p w0 w) (k : w.grownBy w' r) (hr : ∀ q, r = some q → w0.heap.size ≤ q ∧ g ≠ q) : Nx g n p w0 w' :=
  ⟨(k.block g h.lt (fun e => (hr g e.symm).2 rfl)).trans h.blk, h.bel.grown k h.bel.size (fun q e => (hr q e).1)⟩

set_option maxHeartbeats 8000000 in
set_option maxRecDepth 20000 in
theorem walkFnStill (a : Option Addr) (len cap : Nat) (w : World) (cd : Code w.heap.size a len w) :
    Calls Tryz.prog 8 #[.slice a len cap] w fun e w' => e = .returned (.bool true) ∧ Below w.heap.size w w' := by
  have hlm := cd.1
  go_enter Tryz.func8, Tryz.ntmps8
  go_wp2_with fail
  refine (bigAny a len cap w hlm).mono ?_
  rintro e w1 ⟨rfl, rfl⟩
  by_cases hbig : (4096 : Int) < (len : Int)
  · go_wp2_with fail
    go_ret
    exact ⟨rfl, Below.refl _ _⟩
  go_wp2_with fail
  refine (drawNewNode w cd (Nat.le_refl _)).mono ?_
  rintro e w2 ⟨L, al, cl, rfl, hF, hL, hnil, b⟩
  go_wp2_with fail
  refine (implNewNode al L cl w2 hF (by omega)).mono ?_
  rintro e w3 ⟨a3, c3, rfl, O3, k⟩
  replace b := Below.then2 b k
  replace hF := hF.below k
  clear k
  have Y := Nx.made (znd (newL L)) (zp a3 c3) b
  have k := below_more (Below.refl w3.heap.size w3) (.cells (ndC (znd (newL L)) (zp a3 c3)) 66)
  replace hF := hF.below k
  replace O3 := O3.below k
  clear k b
  go_upto_region 5 with (skip; refine wpList_lay (w := w3) (n := znd (newL L)) (p := zp a3 c3) (C := ndZ) (by rfl) (by rfl) (by rfl) (by rfl) (by rfl) (by rfl) ?_)
  generalize w3.alloc _ = W3 at Y hF O3 ⊢
  generalize w3.heap.size = gn at Y ⊢
  go_wp2_with fail
  refine (specNewNode al L cl W3 hF hnil (by omega)).mono ?_
  rintro e w4 ⟨a4, c4, rfl, -, k⟩
  replace Y := Y.below k
  replace O3 := O3.below k
  clear k hF
  have k := below_more (Below.refl w4.heap.size w4) (.cells (ndC (znd (newL L)) (zp a4 c4)) 66)
  replace Y := Y.below k
  replace O3 := O3.below k
  clear k
  go_upto_region 6 with (skip; refine wpList_lay (w := w4) (n := znd (newL L)) (p := zp a4 c4) (C := ndZ) (by rfl) (by rfl) (by rfl) (by rfl) (by rfl) (by rfl) ?_)
  generalize w4.alloc _ = W4 at Y O3 ⊢
  generalize w4.heap.size = g4
  cases hnb : newB L
  · have HL : newL L = [] := by rw [newL, hnb]; rfl
    have c17 : W4.cell? ⟨gn, 17, none⟩ = some (.slice a3 (newL L).length c3) := cell_of_row W4 gn 17 _ _ _ Y.blk
    rw [HL] at c17
    have hb := Y.bel
    go_wp2_with fail
    go_ret
    exact ⟨rfl, hb⟩
  have HL : newL L = L := by rw [newL, hnb]; rfl
  rw [HL] at Y O3 ⊢
  have hl0 : (0 : Nat) ≤ L.length := Nat.zero_le _
  obtain ⟨hdr, hnx⟩ := new_still L hnb
  have hnk := (nodeB_new L).trans hnb
  go_upto_region 10 with fail
  have X0 := Nx.made (znd L) (zp a3 c3) Y.bel
  have k := below_more (Below.refl W4.heap.size W4) (.cells (ndC (znd L) (zp a3 c3)) 66)
  have hgn := Y.lt
  have hw4 := Y.bel.size
  have U3 : ∀ q, (Value.slice a3 L.length c3).ownBlock = some q → q < W4.heap.size := fun q hq => (World.ownsRow.lt O3 q hq).2
  have hcd := cd.below Y.bel (Nat.le_refl _)
  go_upto_region 11 with (first | (skip; refine Y.take (by rfl) (by rfl) (by rfl) ?_) | (skip; refine wpList_lay (w := W4) (n := znd L) (p := zp a3 c3) (C := ndZ) (by rfl) (by rfl) (by rfl) (by rfl) (by rfl) (by rfl) ?_))
  replace Y := Y.below k
  replace O3 := O3.below k
  replace hcd := hcd.below k hw4
  clear k
  generalize W4.alloc _ = W5 at Y O3 hcd X0 ⊢
  generalize W4.heap.size = gx at X0 hgn hw4 U3 ⊢
  have hgx := X0.lt
  go_wp2_with fail
  refine (rollAny (B := w.heap.size) 7 W5 hcd Y.bel.size).mono ?_
  rintro e w6 ⟨rfl, g6, s6⟩
  have h6 := g6.size
  have k := below_new g6
  replace Y := Y.below k
  replace X0 := X0.below k
  replace O3 := O3.below k
  clear k g6 hcd
  generalize hdp : W5.heap.size = dp at s6 hgx ⊢
  have hwd : w.heap.size ≤ dp := by have := Y.bel.size; omega
  go_wp2_with fail
  refine (frameAny (B := w.heap.size) (a := a) (len := len) (cap := cap) 5 w6 (by omega) (by omega) s6).mono ?_
  rintro e w7 ⟨ln, D, av, cv, rfl, O7, hok, g7, -⟩
  have h7 := g7.size
  replace Y := nxKeep Y g7 (fun q e => by cases e; exact ⟨hwd, by omega⟩)
  replace X0 := nxKeep X0 g7 (fun q e => by cases e; exact ⟨hwd, by omega⟩)
  replace O3 := O3.kept g7 (.inr (fun e => by have := U3 dp e; omega))
  have B8 := below_more (Below.refl w7.heap.size w7) (.cells #[.int .i64 5, .bool false, .int .i64 ln, .slice av D.length cv] 50)
  have F8 : FrC w7.heap.size 0 av cv ⟨5, false, ln, D⟩ (w7.alloc (.cells #[.int .i64 5, .bool false, .int .i64 ln, .slice av D.length cv] 50)) :=
    ⟨⟨World.cell?_alloc_at _ _ _ _ rfl, World.cell?_alloc_at _ _ _ _ rfl, World.cell?_alloc_at _ _ _ _ rfl, World.cell?_alloc_at _ _ _ _ rfl⟩, O7.nums2.below B8⟩
  have h8 := B8.size
  replace Y := Y.below B8
  replace X0 := X0.below B8
  replace O3 := O3.below B8
  have O8 := O7.below' B8
  have c15 : (w7.alloc (.cells #[.int .i64 5, .bool false, .int .i64 ln, .slice av D.length cv] 50)).cell? ⟨gx, 15, none⟩ = some (.slice none 0 0) := cell_of_row _ gx 15 _ _ _ X0.blk
  have f15 := frozen_of_row _ gx 15 _ _ X0.blk
  clear g7 s6 O7 B8
  go_upto_region 12 with fail
  have k9 := grown_at_cell (w7.alloc (.cells #[.int .i64 5, .bool false, .int .i64 ln, .slice av D.length cv] 50)) gx 15 (.slice (some ⟨w7.heap.size, 0, none⟩) 1 1)
  have X : Nx gx (xnd L ⟨5, false, ln, D⟩) (xp w7.heap.size a3 c3) w ((w7.alloc (.cells #[.int .i64 5, .bool false, .int .i64 ln, .slice av D.length cv] 50)).setCell ⟨gx, 15, none⟩ (.slice (some ⟨w7.heap.size, 0, none⟩) 1 1)) :=
    ⟨heap_setCell_same _ gx 15 _ _ _ X0.blk, X0.bel.setCell hw4 _⟩
  replace Y := nxKeep Y k9 (fun q e => by cases e; exact ⟨hw4, by omega⟩)
  replace O3 := O3.kept k9 (.inr (fun e => by have := U3 gx e; omega))
  replace O8 := O8.kept2 k9 (by omega)
  have hgb : gx ≠ w7.heap.size := by omega
  obtain ⟨⟨y0, y1, y2, y3⟩, -⟩ := F8
  have ne : ∀ k, some (⟨w7.heap.size, k, none⟩ : Addr).block ≠ some gx := fun k e => by simp at e; omega
  have F9 : FrC w7.heap.size 0 av cv ⟨5, false, ln, D⟩ ((w7.alloc (.cells #[.int .i64 5, .bool false, .int .i64 ln, .slice av D.length cv] 50)).setCell ⟨gx, 15, none⟩ (.slice (some ⟨w7.heap.size, 0, none⟩) 1 1)) :=
    ⟨⟨k9.cell y0 (ne _), k9.cell y1 (ne _), k9.cell y2 (ne _), k9.cell y3 (ne _)⟩, O8.nums2⟩
  clear y0 y1 y2 y3 ne c15 f15 k9 X0 O8
  generalize World.setCell _ _ _ = w9 at Y X O3 F9 ⊢
  have M1 : NdM (znd L) (zp a3 c3) w9 := NdM.new (O3.flsAt (by omega)).2 c3
  have M2 : NdM (xnd L ⟨5, false, ln, D⟩) (xp w7.heap.size a3 c3) w9 := ⟨Nums.nil _, ⟨by simp [xnd, maxLen], fun j hj => by
    obtain rfl : j = 0 := by simp [xnd] at hj; exact hj
    exact ⟨w7.heap.size, 0, av, cv, rfl, F9⟩⟩, Frs.nil _ _, (O3.flsAt (by omega)).2, Nat.zero_le _⟩
  obtain ⟨hxk, hxd⟩ := x_right L ⟨5, false, ln, D⟩ hnb hok
  clear F9 O3 U3
  generalize w7.heap.size = gb at *
  go_wp2_with (refine Y.take rfl rfl rfl ?_)
  refine (implNodeOk (znd L) (zp a3 c3) _ M1).mono ?_
  rintro e wn ⟨he, k⟩
  rw [hnk] at he
  subst he
  replace Y := Y.below k
  replace X := X.below k
  replace M1 := M1.below k
  replace M2 := M2.below k
  clear k
  generalize wn = w9 at *
  go_wp2_with (refine Y.take rfl rfl rfl ?_)
  refine (implDrives (znd L) (zp a3 c3) _ M1).mono ?_
  rintro e wn ⟨he, k⟩
  rw [hdr] at he
  subst he
  replace Y := Y.below k
  replace X := X.below k
  replace M1 := M1.below k
  replace M2 := M2.below k
  clear k
  generalize wn = w9 at *
  go_wp2_with (refine Y.take rfl rfl rfl ?_)
  refine (implNextBit (znd L) (zp a3 c3) _ M1).mono ?_
  rintro e wn ⟨he, k⟩
  rw [hnx] at he
  subst he
  replace Y := Y.below k
  replace X := X.below k
  replace M1 := M1.below k
  replace M2 := M2.below k
  clear k
  generalize wn = w9 at *
  go_wp2_with (refine X.take rfl rfl rfl ?_)
  refine (implNodeOk (xnd L ⟨5, false, ln, D⟩) (xp gb a3 c3) _ M2).mono ?_
  rintro e wn ⟨he, k⟩
  rw [hxk] at he
  subst he
  replace Y := Y.below k
  replace X := X.below k
  replace M1 := M1.below k
  replace M2 := M2.below k
  clear k
  generalize wn = w9 at *
  go_wp2_with (refine X.take rfl rfl rfl ?_)
  refine (implDrives (xnd L ⟨5, false, ln, D⟩) (xp gb a3 c3) _ M2).mono ?_
  rintro e wn ⟨he, k⟩
  rw [hxd] at he
  subst he
  replace Y := Y.below k
  replace X := X.below k
  replace M1 := M1.below k
  replace M2 := M2.below k
  clear k
  generalize wn = w9 at *
  have hb := Y.bel
  go_wp2_with fail
  go_ret
  exact ⟨rfl, hb⟩

theorem laidOut : laidOutB Tryz.prog = true := by kernel_rfl

/-! ### The row's step of FnStill. -/
set_option maxRecDepth 100000 in
theorem liftedFnStill (os : Os) (started : os.Started) (H : Type) (enc : TypeId × Value → H) :
    ReturnsInHanded {} Tryz.checked os 8 .any (Rows.fnStillSpec.pre6 enc Tryz.prog Tryz.f8 Rows.fnStillRow.domain false) (Rows.fnStillSpec.post enc Tryz.prog Tryz.f8 false true false false) := by
  refine returnsInHanded_of_change (C := Tryz.checked) own started (by kernel_rfl) Tryz.func8
    (ChangeSpec.witness6 (enc := enc) (C := Tryz.checked) false ⟨#[], #[.slice none 0 0], []⟩ 8 (by kernel_rfl) (by kernel_rfl) (by kernel_rfl) (by kernel_rfl)) ?_
  intro W base args ds gs before hval0 hW hcnd _
  have hval : ∀ (j : Nat) t v, Tryz.f8.params[j]? = some t → args[j]? = some v → Value.okWide Tryz.prog W .any base t v := hval0
  have hW' := hW
  obtain ⟨p, q, hA0, hV, rfl, hfz, hnd⟩ := hW
  have hA : DataW.TrodAll enc Tryz.prog W 0 (fun _ => true) true Tryz.f8.params.toList args.toList ds p := hA0
  rw [Tryz.params8] at hA hval
  obtain ⟨v0, vs0, d0, ds0, p0, q0, hargs, rfl, rfl, h0, r0⟩ := trodAll_cons hA
  obtain ⟨rfl, rfl, rfl⟩ := trodAll_nil r0
  obtain rfl : args = #[v0] := by cases args; simp_all
  obtain ⟨rfl, rfl⟩ := trodVars_none hV
  obtain ⟨a0, len0, cap0, rfl⟩ := okWide_slice Tryz.underlying73 (hval 0 73 v0 rfl rfl)
  have k0 := h0
  have lt0 : ∀ x ∈ p0, x.block < W.heap.size := by obtain ⟨m, hm⟩ := k0; exact DataW.trod_lt m _ _ _ hm
  have w0 : Code W.heap.size a0 len0 W := by
    obtain ⟨fuel, hf⟩ := h0
    rcases open_ints Tryz.underlying73 Tryz.underlying5 (by kernel_rfl) hf with ⟨hcs, _⟩ | ⟨x, l, c, zs, hcs, _, hl, hm, hz, _, hcell, hwz⟩
    · simp [Value.cells] at hcs
      obtain ⟨rfl, rfl, rfl⟩ := hcs
      exact ⟨by omega, fun j hj => absurd hj (by omega)⟩
    · simp [Value.cells] at hcs
      obtain ⟨rfl, rfl, rfl⟩ := hcs
      exact code_of hl hm (by simpa using hz) hcell hwz
  clear hA0 hval0
  refine (walkFnStill a0 len0 cap0 W w0).mono fun e W' ⟨he, bel⟩ => ?_
  subst he
  exact ⟨_, rfl, _, _, _, [], _, [], hW', trodAll_mk1 (shut_bool Tryz.underlying4 _), (trodAll_cons_mk (Below.trod laidOut (by kernel_rfl) (of_decide_eq_true (by kernel_rfl)) k0 bel lt0) trodAll_mk0), rfl, bel.frame _, fun h => by cases h⟩

theorem fnStill_holds : Rows.FnStillSaid :=
  OpenClaim.holds_of_wide 8 Tryz.f8 rfl rfl rfl rfl rfl rfl rfl ⟨rfl, rfl, rfl, rfl, rfl⟩ rfl rfl rfl rfl rfl (by kernel_rfl) Tryz.func8 (by kernel_rfl)
    (of_decide_eq_true (by kernel_rfl)) (by unfold Func.isWrapper; first | (rw [if_pos (by decide +kernel)]; kernel_rfl) | (rw [if_neg (by decide +kernel)]; exact ⟨rfl, rfl⟩))
    (fun os started H enc _ => liftedFnStill os started H enc)
#print axioms fnStill_holds
end Go.Proofs.YtjlegnnekjcpmaaGreat.lawStill
