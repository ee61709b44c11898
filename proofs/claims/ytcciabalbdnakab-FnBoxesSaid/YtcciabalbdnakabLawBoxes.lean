/- Proved: at every text of bytes: at the box and frame drawn out of it PutIn, TakenOut and BoxOk answer as the model does; what is put in is there once, in a box by ranks, and what is taken out is not (laws.FnBoxes answers true). No condition. -/
import Derived.Test.YtcciabalbdnakabDrawsB
import Derived.Test.YtcciabalbdnakabLikes
import Derived.Test.YtcciabalbdnakabSame
import Derived.Test.YtcciabalbdnakabRows
import Derived.WalkKit
import Derived.WalkSpells
import Derived.ProofKit
import Derived.OpenShut
import Derived.ShutString
import Derived.ChangeOld
import Derived.Below
import Derived.Deep.CutRange
set_option linter.unusedVariables false
set_option linter.unusedSimpArgs false
namespace Go.Proofs.Ytcciabalbdnakab.lawBoxes
open Go.ChangeShapes Go.WideShapes Go.ChangeAt Go.RowKit
open Go.ChangeMaps (open_string shut_string)

theorem own : ownKnob Try.prog.godebug = none := by kernel_rfl

theorem same_rank {i0 : Int} {r0 : Bool} {l0 : Int} {D0 : List Int} {i1 : Int} {r1 : Bool} {l1 : Int} {D1 : List Int} (h : rankV i0 r0 l0 D0 ≠ rankV i1 r1 l1 D1) : sameFr i0 r0 l0 D0 i1 r1 l1 D1 = false := by
  apply sameFr_no
  by_cases e0 : i0 = i1
  · by_cases e1 : r0 = r1
    · by_cases e2 : l0 = l1
      · refine .inr (.inr (.inr fun e3 => h ?_))
        rw [e0, e1, e2, e3]
      · exact .inr (.inr (.inl e2))
    · exact .inr (.inl e1)
  · exact .inl e0
/-- How many of the first k are the frame at p. -/
def cntP (p k : Nat) : Nat := if p < k then 1 else 0
theorem cntP_at (p : Nat) : cntP p p = 0 ∧ cntP p (p + 1) = 1 := by simp [cntP]
theorem cntP_off {p k : Nat} (h : k ≠ p) : cntP p (k + 1) = cntP p k := by
  unfold cntP
  by_cases h1 : p < k
  · rw [if_pos h1, if_pos (by omega)]
  · rw [if_neg h1, if_neg (by omega)]
theorem cntP_all {p k : Nat} (h : p < k) : cntP p k = 1 := by simp [cntP, h]

set_option maxHeartbeats 8000000 in
set_option maxRecDepth 20000 in
theorem walkFnBoxes (a : Option Addr) (len cap : Nat) (w : World) (cd : Code w.heap.size a len w) :
    Calls Try.prog 7 #[.slice a len cap] w fun e w' => e = .returned (.bool true) ∧ Below w.heap.size w w' := by
  have hlm := cd.1
  go_enter Try.func7, Try.ntmps7
  go_wp2_with fail
  refine (bigAny a len cap w hlm).mono ?_
  rintro e w1 ⟨rfl, rfl⟩
  by_cases hbig : (4096 : Int) < (len : Int)
  · go_wp2_with fail
    go_ret
    exact ⟨rfl, Below.refl _ _⟩
  go_wp2_with fail
  refine (drawPutIn (B := w.heap.size) w cd (Nat.le_refl _)).mono ?_
  rintro e w1 ⟨L, ab, cb, id, rm, ln, D, ad, cdd, rfl, F, hcl, hae, hn, hL, b⟩
  replace cd := cd.below b (Nat.le_refl _)
  clear hbig
  go_upto_region 4 with fail
  have X4 := Bx.made w1 (.int .i64 id) (.bool rm) (.int .i64 ln) (.slice ad D.length cdd)
  have k : Below w1.heap.size w1 (w1.alloc (.cells #[.int .i64 id, .bool rm, .int .i64 ln, .slice ad D.length cdd] 26)) := (Below.refl _ _).alloc (Nat.le_refl _) _
  replace F := F.below k
  replace hn := hn.below k
  replace cd := cd.below k b.size
  replace b := b.trans (k.mono b.size)
  clear k
  generalize w1.alloc (.cells #[.int .i64 id, .bool rm, .int .i64 ln, .slice ad D.length cdd] 26) = W1 at *
  generalize w1.heap.size = g4 at *
  have HI := implPutIn ab L cb id rm ln ad D cdd W1 F hcl hae hn
  have HS := fun w h h2 => specPutIn ab L cb id rm ln ad D cdd w h h2
  have hlean := lean_put L ⟨id, rm, ln, D⟩
  have hstay : ∀ X k, putV L ⟨id, rm, ln, D⟩ = (X, k) → (k = 3 ∨ k = 2) → X = [] ∨ X = L := fun X k h h2 => put_stay h h2
  have hok : ∀ X k, putV L ⟨id, rm, ln, D⟩ = (X, k) → k ≠ 3 → k ≠ 2 → ∃ p, PutOk L ⟨id, rm, ln, D⟩ X k p := fun X k h h3 h2 => put_ok h h3 h2
  generalize putV L ⟨id, rm, ln, D⟩ = RR at HI HS hlean hstay hok
  obtain ⟨X, kc⟩ := RR
  have hxl := hlean.1
  simp only at hxl
  have hstay := Lib.hid (hstay X kc rfl)
  have hok := Lib.hid (hok X kc rfl)
  replace HS := Lib.hid HS
  replace HI := Lib.hid HI
  clear hlean
  have x0 := X4.c0
  have x1 := X4.c1
  have x2 := X4.c2
  have x3 := X4.c3
  go_wp2_with fail
  refine HI.out.mono ?_
  intro e w2 h2
  obtain ⟨M6, a6, c6, rfl, hM6, O6, -, k⟩ := h2.parts
  have F6 := O6.frsOf hM6 (by omega)
  have l6 := O6.len.2
  have A6 := O6.addressed
  replace F := F.below k
  replace hn := hn.below k
  replace X4 := X4.below' k
  replace cd := cd.below k b.size
  replace b := b.trans (k.mono b.size)
  clear k h2 HI hM6 O6 x0 x1 x2 x3
  have x0 := X4.c0
  have x1 := X4.c1
  have x2 := X4.c2
  have x3 := X4.c3
  go_wp2_with fail
  refine (HS.out w2 F hn).mono ?_
  intro e w3 h2
  obtain ⟨M7, g7, c7, rfl, hM7, O7, k⟩ := h2.parts
  have F7 := O7.frsOf hM7 (by omega)
  replace F := F.below k
  replace F6 := F6.below k
  replace hn := hn.below k
  replace X4 := X4.below' k
  replace cd := cd.below k b.size
  replace b := b.trans (k.mono b.size)
  clear k h2 HS hM7 O7 x0 x1 x2 x3
  go_wp2_with fail
  refine (drawTakenOut (B := w.heap.size) w3 cd b.size).mono ?_
  rintro e w4 ⟨L2, a8, c8, r, rfl, F8, l8, A8, hL2, k⟩
  replace F := F.below k
  replace F6 := F6.below k
  replace F7 := F7.below k
  replace hn := hn.below k
  replace X4 := X4.below' k
  replace b := b.trans (k.mono b.size)
  clear k cd
  go_wp2_with fail
  refine (likeFrs a6 (some ⟨g7, 0, none⟩) X c6 c7 w4 F6 F7).mono ?_
  rintro e w5 ⟨rfl, k⟩
  replace F := F.below k
  replace F6 := F6.below k
  replace F8 := F8.below k
  replace hn := hn.below k
  replace X4 := X4.below' k
  replace b := b.trans (k.mono b.size)
  clear k F7
  go_wp2_with fail
  refine (implBoxOk ab L cb w5 F).mono ?_
  rintro e w6 ⟨he, k⟩
  obtain ⟨bb, hbb⟩ : ∃ bb, boxB L = bb := ⟨_, rfl⟩
  rw [hbb] at he
  subst he
  replace F := F.below k
  replace F6 := F6.below k
  replace F8 := F8.below k
  replace hn := hn.below k
  replace X4 := X4.below' k
  replace b := b.trans (k.mono b.size)
  clear k
  replace hbb := Lib.hid hbb
  go_wp2_with fail
  refine (specBoxOk ab L cb w6 F).mono ?_
  rintro e w7 ⟨he, k⟩
  rw [hbb.out] at he
  subst he
  replace F := F.below k
  replace F6 := F6.below k
  replace F8 := F8.below k
  replace hn := hn.below k
  replace X4 := X4.below' k
  replace b := b.trans (k.mono b.size)
  clear k hbb
  have hbe : (bb != bb) = false := by cases bb <;> rfl
  go_wp2_with fail
  refine (implTakenOut a8 L2 c8 r w7 F8 l8 A8).mono ?_
  rintro e w8 ⟨M9, a9, c9, rfl, hM9, O9, -, k⟩
  have hz := (lean_out L2 r).1
  have F9 := O9.frsOf hM9 (by omega)
  replace F := F.below k
  replace F6 := F6.below k
  replace F8 := F8.below k
  replace hn := hn.below k
  replace X4 := X4.below' k
  replace b := b.trans (k.mono b.size)
  clear k hM9 O9
  go_wp2_with fail
  refine (specTakenOut a8 L2 c8 r w8 F8).mono ?_
  rintro e w9 ⟨M10, g10, c10, rfl, hM10, O10, k⟩
  have F10 := O10.frsOf hM10 (by omega)
  replace F := F.below k
  replace F6 := F6.below k
  replace F9 := F9.below k
  replace hn := hn.below k
  replace X4 := X4.below' k
  replace b := b.trans (k.mono b.size)
  clear k hM10 O10 F8 hz
  go_wp2_with fail
  refine (likeFrs a9 (some ⟨g10, 0, none⟩) (outV L2 r) c9 c10 w9 F9 F10).mono ?_
  rintro e w10 ⟨rfl, k⟩
  replace F := F.below k
  replace F6 := F6.below k
  replace hn := hn.below k
  replace X4 := X4.below' k
  replace b := b.trans (k.mono b.size)
  clear k F9 F10 hbe
  go_upto_region 9 with fail
  by_cases hk : kc = 3 ∨ kc = 2
  · have hs := hstay.out hk
    clear hstay hok
    by_cases hx0 : X.length = 0
    · rcases hk with rfl | rfl
      · go_wp2_with fail
        go_ret
        exact ⟨rfl, b⟩
      · go_wp2_with fail
        go_ret
        exact ⟨rfl, b⟩
    · have hXL : X = L := by
        rcases hs with h | h
        · rw [h] at hx0; exact absurd rfl hx0
        · exact h
      subst hXL
      have hx1 : ((X.length : Int) == 0) = false := by
        simp only [beq_eq_false_iff_ne, ne_eq]
        omega
      clear hs hx0
      rcases hk with rfl | rfl
      · go_wp2_with fail
        refine (likeFrs a6 ab X c6 cb w10 F6 F).mono ?_
        rintro e w11 ⟨rfl, k⟩
        replace b := b.trans (k.mono b.size)
        go_wp2_with fail
        go_ret
        exact ⟨rfl, b⟩
      · go_wp2_with fail
        refine (likeFrs a6 ab X c6 cb w10 F6 F).mono ?_
        rintro e w11 ⟨rfl, k⟩
        replace b := b.trans (k.mono b.size)
        go_wp2_with fail
        go_ret
        exact ⟨rfl, b⟩
  · obtain ⟨p, P⟩ := hok.out (fun e => hk (.inl e)) (fun e => hk (.inr e))
    have hk3 : (kc == 3) = false := by simp only [beq_eq_false_iff_ne, ne_eq]; exact fun e => hk (.inl e)
    have hk2 : (kc == 2) = false := by simp only [beq_eq_false_iff_ne, ne_eq]; exact fun e => hk (.inr e)
    clear hstay hok hk F
    have hpl := P.lt
    have hat := P.at'
    have hoth := P.other
    have hbox := P.box
    have hout := P.out
    have hone := P.one
    have hover := P.over
    clear P
    replace hat := Lib.hid hat
    replace hoth := Lib.hid hoth
    replace hbox := Lib.hid hbox
    replace hover := Lib.hid hover
    replace hone := Lib.hid hone
    have hrk : rkF ⟨id, rm, ln, D⟩ = rankV id rm ln D := rfl
    rw [hrk] at hout
    replace hrk := Lib.hid hrk
    replace hout := Lib.hid hout
    obtain ⟨Wc, hWc⟩ : ∃ Wc, Wc = w10 := ⟨_, rfl⟩
    rw [← hWc] at F6 X4 hn b
    go_wp2_with fail
    go_loopw [11, 12] (fun n i wr => ∃ k : Nat, k ≤ X.length ∧ i = .int .i64 k ∧ n = .int .i64 (cntP p k : Nat) ∧ Below Wc.heap.size Wc wr) (fun _ i _ => X.length - (intOf i).toNat)
    case atStart => exact ⟨0, Nat.zero_le _, rfl, rfl, by rw [hWc]; exact Below.refl _ _⟩
    case round =>
      clear hWc
      obtain ⟨k, hk, rfl, rfl, bw⟩ := hrel
      by_cases hlt : k < X.length
      · obtain ⟨g, o, ak, ck, rfl, fa⟩ := (F6.below bw).2 k hlt
        have fx := X4.below' bw
        have hnw := hn.below bw
        have hck : cntP p k ≤ 1 := by unfold cntP; split <;> omega
        have hsm : k ≠ p → sameFr (nthF X k).id (nthF X k).rm (nthF X k).ln (nthF X k).D id rm ln D = false := fun h => same_rank (hoth.out k hlt h)
        have hsp : k = p → sameFr (nthF X k).id (nthF X k).rm (nthF X k).ln (nthF X k).D id rm ln D = true := fun h => by
          subst h; rw [hat.out]; exact sameFr_yes rfl rfl rfl rfl
        generalize nthF X k = fk at *
        obtain ⟨idk, rmk, lnk, Dk⟩ := fk
        simp only at hsm hsp
        replace hsm := Lib.hid hsm
        replace hsp := Lib.hid hsp
        go_upto_region 15 with fail
        obtain ⟨sb, hsb⟩ : ∃ sb, sameFr idk rmk lnk Dk id rm ln D = sb := ⟨_, rfl⟩
        refine region_class (fun u => FrC g (o + k * 4) ak ck ⟨idk, rmk, lnk, Dk⟩ u ∧ (Bx g4 (.int .i64 id) (.bool rm) (.int .i64 ln) (.slice ad D.length cdd) u ∧ Nums ad D u) ∧ Below Wc.heap.size Wc u) (by kernel_rfl) (by kernel_rfl) ⟨fa.drew, ⟨fx, hnw.drew⟩, bw.drew⟩ ?_
        clear fa fx hnw bw
        repeat first
          | go_big_quiet_skip
          | (go_big_quiet_want
             apply Exists.intro
             refine ⟨fun u hu => ?_, ?_⟩
             · apply quietAt_val
               obtain ⟨⟨⟨a0, a1, a2, a3⟩, _⟩, ⟨bx, _⟩, _⟩ := hu
               have b0 := bx.c0
               have b1 := bx.c1
               have b2 := bx.c2
               have b3 := bx.c3
               go_simp
               rfl
             simp only [Act.put, List.setIfInBounds_toArray, List.set_cons_zero, List.set_cons_succ]
             go_big_quiet_on)
          | (go_big_quiet_want
             apply Exists.intro
             refine ⟨fun u hu => ?_, ?_⟩
             · apply quietAt_enter 36 #[frV idk rmk lnk ak Dk.length ck, frV id rm ln ad D.length cdd]
               · go_simp
               · refine (implSame idk rmk lnk ak Dk ck id rm ln ad D cdd u hu.1.2 hu.2.1.2).mono ?_
                 rintro e w2 ⟨rfl, b2⟩
                 rw [hsb]
                 exact ⟨rfl, hu.1.below b2, ⟨hu.2.1.1.below' b2, hu.2.1.2.below b2⟩, Below.then2 hu.2.2 b2⟩
             simp only [Act.put, List.setIfInBounds_toArray, List.set_cons_zero, List.set_cons_succ]
             go_big_quiet_on)
        refine wpQuiet_nil ?_
        intro W2 L2
        have bw := L2.2.2
        clear L2
        by_cases hkp : k = p
        · have hs1 := hsp.out hkp
          rw [hsb] at hs1
          subst hs1
          have hc1 : cntP p k = 0 := by rw [hkp]; exact (cntP_at p).1
          have hc2 : cntP p (k + 1) = 1 := by rw [hkp]; exact (cntP_at p).2
          rw [hc1]
          replace hc2 := Lib.hid hc2
          clear hsb hc1 hkp
          go_wp2_with fail
          go_roundw
          case rel => exact ⟨k + 1, by omega, by go_num, by rw [hc2.out] <;> rfl, bw⟩
          case measure => simp [intOf]; omega
        · have hs1 := hsm.out hkp
          rw [hsb] at hs1
          subst hs1
          have hc2 := Lib.hid (cntP_off hkp)
          clear hsb hkp
          go_wp2_with fail
          go_roundw
          case rel => exact ⟨k + 1, by omega, by go_num, by rw [hc2.out], bw⟩
          case measure => simp [intOf]; omega
      · obtain rfl : k = X.length := by omega
        have hcn := cntP_all hpl
        rw [hcn]
        replace F6 := F6.below bw
        replace X4 := X4.below' bw
        replace hn := hn.below bw
        replace b := b.trans (bw.mono b.size)
        clear bw hcn hlt hpl
        have x0 := X4.c0
        have x1 := X4.c1
        have x2 := X4.c2
        have x3 := X4.c3
        go_wp2_with fail
        refine (implRankOf id rm ln ad D cdd wr hn).mono ?_
        rintro e w11 ⟨rfl, k⟩
        replace F6 := F6.below k
        replace b := b.trans (k.mono b.size)
        clear k x0 x1 x2 x3 hn X4
        go_wp2_with fail
        refine (implTakenOut a6 X c6 (rankV id rm ln D) w11 F6 l6 A6).mono ?_
        rintro e w12 ⟨M12, a12, c12, rfl, hM12, O12, -, k⟩
        replace F6 := F6.below k
        replace b := b.trans (k.mono b.size)
        clear k hM12 O12
        generalize outV X (rankV id rm ln D) = Z at *
        go_wp2_with fail
        refine (implBoxOk a6 X c6 w12 F6).mono ?_
        rintro e w13 ⟨he, k⟩
        rw [hbox.out] at he
        subst he
        replace b := b.trans (k.mono b.size)
        clear k F6
        have hzl : (Z.length : Int) = (X.length : Int) - 1 := by have := hout.out; omega
        have hx1 : 1 ≤ X.length := by have := hout.out; omega
        rcases hone.out with rfl | rfl
        · have hne : ¬ X.length = L.length := fun e => by have := hover.out.2 e; omega
          have hnb : ((X.length : Int) == (L.length : Int)) = false := by
            simp only [beq_eq_false_iff_ne, ne_eq]
            omega
          clear hne
          go_wp2_with fail
          go_ret
          exact ⟨rfl, b⟩
        · have heq := hover.out.1 rfl
          go_wp2_with fail
          go_ret
          exact ⟨rfl, b⟩

theorem laidOut : laidOutB Try.prog = true := by kernel_rfl

/-! ### The row's step of FnBoxes. -/
set_option maxRecDepth 100000 in
theorem liftedFnBoxes (os : Os) (started : os.Started) (H : Type) (enc : TypeId × Value → H) :
    ReturnsInHanded {} Try.checked os 7 .any (Rows.fnBoxesSpec.pre6 enc Try.prog Try.f7 Rows.fnBoxesRow.domain false) (Rows.fnBoxesSpec.post enc Try.prog Try.f7 false true false false) := by
  refine returnsInHanded_of_change (C := Try.checked) own started (by kernel_rfl) Try.func7
    (ChangeSpec.witness6 (enc := enc) (C := Try.checked) false ⟨#[], #[.slice none 0 0], []⟩ 8 (by kernel_rfl) (by kernel_rfl) (by kernel_rfl) (by kernel_rfl)) ?_
  intro W base args ds gs before hval0 hW hcnd _
  have hval : ∀ (j : Nat) t v, Try.f7.params[j]? = some t → args[j]? = some v → Value.okWide Try.prog W .any base t v := hval0
  have hW' := hW
  obtain ⟨p, q, hA0, hV, rfl, hfz, hnd⟩ := hW
  have hA : DataW.TrodAll enc Try.prog W 0 (fun _ => true) true Try.f7.params.toList args.toList ds p := hA0
  rw [Try.params7] at hA hval
  obtain ⟨v0, vs0, d0, ds0, p0, q0, hargs, rfl, rfl, h0, r0⟩ := trodAll_cons hA
  obtain ⟨rfl, rfl, rfl⟩ := trodAll_nil r0
  obtain rfl : args = #[v0] := by cases args; simp_all
  obtain ⟨rfl, rfl⟩ := trodVars_none hV
  obtain ⟨a0, len0, cap0, rfl⟩ := okWide_slice Try.underlying22 (hval 0 22 v0 rfl rfl)
  have k0 := h0
  have lt0 : ∀ x ∈ p0, x.block < W.heap.size := by obtain ⟨m, hm⟩ := k0; exact DataW.trod_lt m _ _ _ hm
  have w0 : Code W.heap.size a0 len0 W := by
    obtain ⟨fuel, hf⟩ := h0
    rcases open_ints Try.underlying22 Try.underlying5 (by kernel_rfl) hf with ⟨hcs, _⟩ | ⟨x, l, c, zs, hcs, _, hl, hm, hz, _, hcell, hwz⟩
    · simp [Value.cells] at hcs
      obtain ⟨rfl, rfl, rfl⟩ := hcs
      exact ⟨by omega, fun j hj => absurd hj (by omega)⟩
    · simp [Value.cells] at hcs
      obtain ⟨rfl, rfl, rfl⟩ := hcs
      exact code_of hl hm (by simpa using hz) hcell hwz
  clear hA0 hval0
  refine (walkFnBoxes a0 len0 cap0 W w0).mono fun e W' ⟨he, bel⟩ => ?_
  subst he
  exact ⟨_, rfl, _, _, _, [], _, [], hW', trodAll_mk1 (shut_bool Try.underlying4 _), (trodAll_cons_mk (Below.trod laidOut (by kernel_rfl) (of_decide_eq_true (by kernel_rfl)) k0 bel lt0) trodAll_mk0), rfl, bel.frame _, fun h => by cases h⟩

theorem fnBoxes_holds : Rows.FnBoxesSaid :=
  OpenClaim.holds_of_wide 7 Try.f7 rfl rfl rfl rfl rfl rfl rfl ⟨rfl, rfl, rfl, rfl, rfl⟩ rfl rfl rfl rfl rfl (by kernel_rfl) Try.func7 (by kernel_rfl)
    (of_decide_eq_true (by kernel_rfl)) (by unfold Func.isWrapper; first | (rw [if_pos (by decide +kernel)]; kernel_rfl) | (rw [if_neg (by decide +kernel)]; exact ⟨rfl, rfl⟩))
    (fun os started H enc _ => liftedFnBoxes os started H enc)
#print axioms fnBoxes_holds
end Go.Proofs.Ytcciabalbdnakab.lawBoxes
