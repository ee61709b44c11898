/- Proved: at every argument the program's NewNode answers as the model's does (laws.FnExactNewNode answers true at every argument), the arguments stay as they were, and the answer owns its memory. No condition. -/
import Derived.Test.YthhhhfpgmolcmaaGreatM28
import Derived.Test.YthhhhfpgmolcmaaGreatM22
import Derived.Test.YthhhhfpgmolcmaaGreatM4
import Derived.Test.YthhhhfpgmolcmaaGreatRows
import Derived.WalkKit
import Derived.WalkSpells
import Derived.ProofKit
import Derived.OpenShut
import Derived.ShutString
import Derived.ChangeOld
import Derived.Below
import Derived.Deep.CutRange

namespace Go.Proofs.YthhhhfpgmolcmaaGreat.exNewNode
open Go.ChangeShapes Go.WideShapes Go.ChangeAt Go.RowKit
set_option linter.unusedVariables false
set_option linter.unusedSimpArgs false

theorem own : ownKnob Tryz.prog.godebug = none := by kernel_rfl
theorem laidOut : laidOutB Tryz.prog = true := by kernel_rfl

/-- What stays through the law's walk: the blocks of the two answers; what was there when the model had answered. -/
structure ST (w W3 : World) (gw gb : Nat) (X : List (Int × Int)) (al3 : Option Addr) (cl3 : Nat) (al5 : Option Addr) (cl5 : Nat) (u : World) : Prop where
  y0 : Nx gw (znd X) (zp al3 cl3) w u
  y5 : Nx gb (znd X) (zp al5 cl5) w u
  q : Below W3.heap.size W3 u
section
variable {w W3 u u' : World} {gw gb : Nat} {X : List (Int × Int)} {al3 : Option Addr} {cl3 : Nat} {al5 : Option Addr} {cl5 : Nat}
theorem ST.below (h : ST w W3 gw gb X al3 cl3 al5 cl5 u) (b : Below u.heap.size u u') : ST w W3 gw gb X al3 cl3 al5 cl5 u' := ⟨h.y0.below b, h.y5.below b, Below.then2 h.q b⟩
theorem nxMid {g : Nat} {n : Nd} {p : NdP} {lo hi : Nat} (h : Nx g n p w u) (k : Mid lo hi u u') (hw : w.heap.size ≤ lo) (hg : g < lo ∨ hi ≤ g) : Nx g n p w u' := ⟨(k.block g h.lt hg).trans h.blk, h.bel.trans (k.below hw h.bel.size)⟩
theorem ST.mid {lo hi : Nat} (h : ST w W3 gw gb X al3 cl3 al5 cl5 u) (k : Mid lo hi u u') (hw : w.heap.size ≤ W3.heap.size) (hl : W3.heap.size ≤ lo) (hg : gw < W3.heap.size) (hb : hi ≤ gb) : ST w W3 gw gb X al3 cl3 al5 cl5 u' :=
  ⟨nxMid h.y0 k (Nat.le_trans hw hl) (.inl (by omega)), nxMid h.y5 k (Nat.le_trans hw hl) (.inr hb), h.q.trans (k.below hl h.q.size)⟩
end
def NewX (X : List (Int × Int)) (v : Bool) (w : World) (e : Ending) (w' : World) : Prop :=
  ∃ (al : Option Addr) (cl : Nat), e = .returned (.tuple #[ndV (znd X) (zp al cl), .bool v]) ∧ OwnP w.heap.size X (.slice al X.length cl) w' ∧ Below w.heap.size w w'
theorem newL_len (L : List (Int × Int)) : (newL L).length ≤ L.length := by unfold newL; split <;> simp
theorem ownLt {B : Nat} {M : List (Int × Int)} {v : Value} {w : World} (h : OwnP B M v w) : ∀ q, v.ownBlock = some q → q < w.heap.size := fun q hq => (World.ownsRow.lt h q hq).2

set_option maxHeartbeats 8000000 in
set_option maxRecDepth 20000 in
theorem walkFnExactNewNode (a : Option Addr) (L : List (Int × Int)) (c : Nat) (w : World) (hd : Fls a L w) :
    Calls Tryz.prog 5 #[.slice a L.length c] w fun e w' => e = .returned (.bool true) ∧ Below w.heap.size w w' := by
  have hm := hd.1
  go_enter Tryz.func5, Tryz.ntmps5
  by_cases hs : L.length ≤ 1048576
  case neg =>
    go_wp2_with fail
    refine (szFltBig a L.length c w hm (by omega)).mono ?_
    rintro e w1 ⟨rfl, rfl⟩
    go_wp2_with fail
    go_ret
    exact ⟨rfl, Below.refl _ _⟩
  have HS : ∀ g c w, Fls (some ⟨g, 0, none⟩) L w → Calls Tryz.prog 11 #[.slice (some ⟨g, 0, none⟩) L.length c] w (NewX (newL L) (newB L) w) := fun g c w h => specNewNode (some ⟨g, 0, none⟩) L c w h (fun e => by cases e) hs
  have HI : ∀ g c w, Fls (some ⟨g, 0, none⟩) L w → Calls Tryz.prog 10 #[.slice (some ⟨g, 0, none⟩) L.length c] w (NewX (newL L) (newB L) w) := fun g c w h => implNewNode (some ⟨g, 0, none⟩) L c w h hs
  have hxl := newL_len L
  generalize newL L = X at HS HI hxl
  generalize newB L = v at HS HI
  have hv : (!(v == v)) = false := by simp
  have hX : X.length ≤ 1048576 := by omega
  replace HS := Lib.hid HS
  replace HI := Lib.hid HI
  go_wp2_with fail
  refine (szFltOk a L.length c w hs).mono ?_
  rintro e w1 ⟨n, hn, rfl, rfl⟩
  go_wp2_with fail
  refine (toFltsOwn a L c w hd hs).mono ?_
  rintro e w2 ⟨g2, rfl, O2, b⟩
  go_wp2_with fail
  refine (HS.out g2 L.length w2 (O2.flsAt (by omega)).2).mono ?_
  rintro e w3 ⟨al3, cl3, rfl, O3, k⟩
  replace b := Below.then2 b k
  clear k O2
  have Y0 := Nx.made (znd X) (zp al3 cl3) b
  have F3 := (O3.below (below_more (Below.refl _ _) (.cells (ndC (znd X) (zp al3 cl3)) 33)))
  have hgw : w3.heap.size < (w3.alloc (.cells (ndC (znd X) (zp al3 cl3)) 33)).heap.size := by simp
  clear O3
  go_upto_region 6 with (skip; refine wpList_lay (w := w3) (n := znd X) (p := zp al3 cl3) (C := ndZ) (by rfl) (by rfl) (by rfl) (by rfl) (by rfl) (by rfl) ?_)
  generalize w3.alloc _ = W3 at Y0 F3 hgw ⊢
  generalize w3.heap.size = gw at Y0 hgw ⊢
  replace F3 := (F3.flsAt (by omega)).2
  have hw3 := Y0.bel.size
  have hd3 := hd.below Y0.bel
  go_wp2_with fail
  refine (toFltsOwn a L c W3 hd3 hs).mono ?_
  rintro e w4 ⟨g4, rfl, O4, k⟩
  have U4 := ownLt O4
  have Q := k
  replace Y0 := Y0.below k
  have h34 := k.size
  clear k hd3
  go_wp2_with fail
  refine (HI.out g4 L.length w4 (O4.flsAt (by omega)).2).mono ?_
  rintro e w5 ⟨al5, cl5, rfl, O5, k⟩
  have U5 := ownLt O5
  have h45 := k.size
  replace Q := Below.then2 Q k
  replace Y0 := Y0.below k
  replace O4 := O4.below k
  clear k
  have k := below_more (Below.refl w5.heap.size w5) (.cells (ndC (znd X) (zp al5 cl5)) 33)
  have Z : ST w W3 gw w5.heap.size X al3 cl3 al5 cl5 (w5.alloc (.cells (ndC (znd X) (zp al5 cl5)) 33)) := ⟨Y0.below k, Nx.made (znd X) (zp al5 cl5) Y0.bel, Below.then2 Q k⟩
  replace O4 := O4.below k
  replace O5 := O5.below k
  clear Q Y0 k
  go_upto_region 8 with (skip; refine wpList_lay (w := w5) (n := znd X) (p := zp al5 cl5) (C := ndZ) (by rfl) (by rfl) (by rfl) (by rfl) (by rfl) (by rfl) ?_)
  have hs5 : w5.heap.size ≤ (w5.alloc (.cells (ndC (znd X) (zp al5 cl5)) 33)).heap.size := by simp
  generalize w5.alloc _ = W5 at Z O4 O5 hs5 ⊢
  generalize hgb : w5.heap.size = gb at Z hs5 ⊢
  rw [hgb] at U5 h45
  go_wp2_with (first | (refine Z.y5.take rfl rfl rfl ?_) | (refine Z.y0.take rfl rfl rfl ?_))
  refine (eqN (znd X) (zp al5 cl5) (zp al3 cl3) W5 (NdM.new (O5.flsAt (by omega)).2 cl5) (NdM.new (F3.below Z.q) cl3)).mono ?_
  rintro e w6 ⟨rfl, k⟩
  have h56 := k.size
  replace Z := Z.below k
  replace O4 := O4.below k
  replace O5 := O5.below k
  clear k
  have hd6 := hd.below Z.y0.bel
  go_wp2_with fail
  refine (toFlts a L c w6 hd6 hs).mono ?_
  rintro e w7 ⟨g7, rfl, F7, k⟩
  have h67 := k.size
  replace Z := Z.below k
  replace O4 := O4.below k
  replace O5 := O5.below k
  clear k hd6
  go_wp2_with fail
  refine (eqFlts (some ⟨g4, 0, none⟩) (some ⟨g7, 0, none⟩) L L.length L.length w7 (O4.flsAt (by omega)).2 F7).mono ?_
  rintro e w8 ⟨rfl, k⟩
  have h78 := k.size
  replace Z := Z.below k
  replace O4 := O4.below k
  replace O5 := O5.below k
  clear k F7
  go_wp2_with fail
  refine (markFlts W3.heap.size w4.heap.size L (some ⟨g4, 0, none⟩) L.length 1 w8 O4 U4 (by omega) (by omega) (by omega)).mono ?_
  rintro e w9 ⟨rfl, -, k⟩
  have h89 := k.size
  replace Z := Z.mid k hw3 (Nat.le_refl _) hgw h45
  replace O5 := O5.mid k (Nat.le_refl _)
  have hk9 : decide (1 + 2 * (L.length : Int) < 0) = false := decide_eq_false (by omega)
  have hk9' : ¬ 1 + 2 * (L.length : Int) < 0 := by omega
  generalize 1 + 2 * (L.length : Int) = k9 at hk9 hk9' ⊢
  clear k O4
  go_wp2_with (first | (refine Z.y5.take rfl rfl rfl ?_) | (refine Z.y0.take rfl rfl rfl ?_))
  refine (eqN (znd X) (zp al5 cl5) (zp al3 cl3) w9 (NdM.new (O5.flsAt (by omega)).2 cl5) (NdM.new (F3.below Z.q) cl3)).mono ?_
  rintro e w10 ⟨rfl, k⟩
  have h910 := k.size
  replace Z := Z.below k
  replace O5 := O5.below k
  clear k
  go_wp2_with (refine Z.y5.take rfl rfl rfl ?_)
  refine (markNew w4.heap.size gb X al5 cl5 w10 O5 U5 (by omega) (by omega)).mono ?_
  rintro e w11 ⟨rfl, O11, k⟩
  replace Z := Z.mid k hw3 h34 hgw (Nat.le_refl _)
  have hk11 : ¬ 1 + 2 * (X.length : Int) < 0 := by omega
  have H := Lib.hid (fun w (h : Fls al5 (mksP 1 X.length) w) => heldNew X.length X rfl al5 cl5 w h (by omega))
  generalize 1 + 2 * (X.length : Int) = k11 at hk11 H ⊢
  clear k O5
  have hml := mksP_len 1 X.length
  go_wp2_with (refine Z.y5.take rfl rfl rfl ?_)
  refine (H.out w11 (O11.flsAt (by omega)).2).mono ?_
  rintro e w12 ⟨rfl, k⟩
  replace Z := Z.below k
  replace O11 := O11.below k
  clear k
  have hd12 := hd.below Z.y0.bel
  go_wp2_with fail
  refine (toFltsOwn a L c w12 hd12 hs).mono ?_
  rintro e w13 ⟨g13, rfl, O13, k⟩
  replace Z := Z.below k
  replace O11 := O11.below k
  clear k hd12
  go_wp2_with fail
  refine (HI.out g13 L.length w13 (O13.flsAt (by omega)).2).mono ?_
  rintro e w14 ⟨al14, cl14, rfl, O14, k⟩
  replace Z := Z.below k
  replace O11 := O11.below k
  clear k O13
  have k := below_more (Below.refl w14.heap.size w14) (.cells (ndC (znd X) (zp al14 cl14)) 33)
  have Y14 := Nx.made (znd X) (zp al14 cl14) Z.y0.bel
  replace Z := Z.below k
  replace O11 := O11.below k
  replace O14 := O14.below k
  clear k
  go_upto_region 25 with (skip; refine wpList_lay (w := w14) (n := znd X) (p := zp al14 cl14) (C := ndZ) (by rfl) (by rfl) (by rfl) (by rfl) (by rfl) (by rfl) ?_)
  generalize w14.alloc _ = W14 at Z O11 O14 Y14 ⊢
  generalize w14.heap.size = gh at Y14 ⊢
  go_wp2_with (first | (refine Y14.take rfl rfl rfl ?_) | (refine Z.y0.take rfl rfl rfl ?_))
  refine (eqN (znd X) (zp al14 cl14) (zp al3 cl3) W14 (NdM.new (O14.flsAt (by omega)).2 cl14) (NdM.new (F3.below Z.q) cl3)).mono ?_
  rintro e w15 ⟨rfl, k⟩
  replace Z := Z.below k
  replace O11 := O11.below k
  clear k Y14 O14
  go_wp2_with (refine Z.y5.take rfl rfl rfl ?_)
  refine (H.out w15 (O11.flsAt (by omega)).2).mono ?_
  rintro e w16 ⟨rfl, k⟩
  have hb := Below.then2 Z.y0.bel k
  clear k Z O11
  go_wp2_with fail
  go_ret
  exact ⟨rfl, hb⟩

/-! ### The row's step of FnExactNewNode. -/
set_option maxRecDepth 100000 in
theorem liftedFnExactNewNode (os : Os) (started : os.Started) (H : Type) (enc : TypeId × Value → H) :
    ReturnsInHanded {} Tryz.checked os 5 .any (Rows.fnExactNewNodeSpec.pre6 enc Tryz.prog Tryz.f5 Rows.fnExactNewNodeRow.domain false) (Rows.fnExactNewNodeSpec.post enc Tryz.prog Tryz.f5 false true false false) := by
  refine returnsInHanded_of_change (C := Tryz.checked) own started (by kernel_rfl) Tryz.func5
    (ChangeSpec.witness6 (enc := enc) (C := Tryz.checked) false ⟨#[], #[.slice none 0 0], []⟩ 8 (by kernel_rfl) (by kernel_rfl) (by kernel_rfl) (by kernel_rfl)) ?_
  intro W base args ds gs before hval0 hW hcnd _
  have hval : ∀ (j : Nat) t v, Tryz.f5.params[j]? = some t → args[j]? = some v → Value.okWide Tryz.prog W .any base t v := hval0
  have hW' := hW
  obtain ⟨p, q, hA0, hV, rfl, hfz, hnd⟩ := hW
  have hA : DataW.TrodAll enc Tryz.prog W 0 (fun _ => true) true Tryz.f5.params.toList args.toList ds p := hA0
  rw [Tryz.params5] at hA hval
  obtain ⟨v0, vs0, d0, ds0, p0, q0, hargs, rfl, rfl, h0, r0⟩ := trodAll_cons hA
  obtain ⟨rfl, rfl, rfl⟩ := trodAll_nil r0
  obtain rfl : args = #[v0] := by cases args; simp_all
  obtain ⟨rfl, rfl⟩ := trodVars_none hV
  have k0 := h0
  have lt0 : ∀ x ∈ p0, x.block < W.heap.size := by obtain ⟨m, hm⟩ := k0; exact DataW.trod_lt m _ _ _ hm
  obtain ⟨a0, len0, cap0, rfl⟩ := okWide_slice Tryz.underlying45 (hval 0 45 v0 rfl rfl)
  obtain ⟨L0, w0⟩ : ∃ L : List (Int × Int), L.length = len0 ∧ Fls a0 L W := by
    obtain ⟨fuel, hf⟩ := h0
    obtain ⟨a, L, c, hcs, hn⟩ := filters_open hf
    simp [Value.cells] at hcs
    obtain ⟨rfl, rfl, rfl⟩ := hcs
    exact ⟨L, rfl, hn⟩
  obtain ⟨rfl, n0⟩ := w0
  clear hA0 hval0
  refine (walkFnExactNewNode _ _ _ W n0).mono fun e W' ⟨he, bel⟩ => ?_
  subst he
  exact ⟨_, rfl, _, _, _, [], _, [], hW', trodAll_mk1 (shut_bool Tryz.underlying4 _), (trodAll_cons_mk (Below.trod laidOut (by kernel_rfl) (of_decide_eq_true (by kernel_rfl)) k0 bel lt0) trodAll_mk0), rfl, bel.frame _, fun h => by cases h⟩

theorem fnExactNewNode_holds : Rows.FnExactNewNodeSaid :=
  OpenClaim.holds_of_wide 5 Tryz.f5 rfl rfl rfl rfl rfl rfl rfl ⟨rfl, rfl, rfl, rfl, rfl⟩ rfl rfl rfl rfl rfl (by kernel_rfl) Tryz.func5 (by kernel_rfl)
    (of_decide_eq_true (by kernel_rfl)) (by unfold Func.isWrapper; first | (rw [if_pos (by decide +kernel)]; kernel_rfl) | (rw [if_neg (by decide +kernel)]; exact ⟨rfl, rfl⟩))
    (fun os started H enc _ => liftedFnExactNewNode os started H enc)
#print axioms fnExactNewNode_holds
end Go.Proofs.YthhhhfpgmolcmaaGreat.exNewNode
