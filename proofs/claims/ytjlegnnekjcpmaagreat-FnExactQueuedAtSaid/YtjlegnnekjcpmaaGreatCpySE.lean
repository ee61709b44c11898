/- spec.l13Copy: a copy of a bus of right nodes. -/
import Derived.Test.YtjlegnnekjcpmaaGreatRowME
import Derived.Test.YtjlegnnekjcpmaaGreatBusSE
set_option linter.unusedVariables false
set_option linter.unusedSimpArgs false
set_option maxRecDepth 20000
namespace Go.Proofs.YtjlegnnekjcpmaaGreat
open Go.RowKit

theorem blkS {w w' : World} {g : Nat} {o : Obj} (h : w.heap[g]? = some o) (b : Below w.heap.size w w') : w'.heap[g]? = some o := (b.block g (Array.getElem?_eq_some_iff.1 h).1).trans h
theorem skip_wp {P : Program} {o : Oper} {a : Act} {w w2 : World} {K : Act → World → Prop} {Q : Exit → Act → World → Prop} (h : (execOp a.eval o).run P w = .ok .skip w2) (k : K (a.put o.dst undef) w2) : o.wp P a w K Q := by
  unfold Oper.wp
  rw [h]
  exact k
/-- A row of nodes of the call's own. -/
def GotR (N : List Nd) (now : Int) (w : World) (e : Ending) (w' : World) : Prop :=
  ∃ v P L H, e = .returned (.agg #[v, .int .i64 now]) ∧ RowM StdM w.heap.size N.length N P L H v w' ∧ Below w.heap.size w w'
/-- What the model's functions hand back: nodes that stand wherever the new blocks stand. -/
def GotS (N : List Nd) (now : Int) (w : World) (e : Ending) (w' : World) : Prop :=
  ∃ a c, e = .returned (buV a N.length c now) ∧ (∀ u, Up w.heap.size w' u → Nds Bare a N u) ∧ Below w.heap.size w w'
theorem RowM.up {B k : Nat} {N : List Nd} {P : Nat → NdP} {L H : Nat → Nat} {v : Value} {w u : World} (h : RowM StdM B k N P L H v w) (hu : Up B w u) : RowM StdM B k N P L H v u := by
  refine ⟨⟨h.own.1, ?_⟩, fun j hj => ?_, fun j hj => ?_, h.far, h.apart, fun g hg => Nat.lt_of_lt_of_le (h.lt g hg) hu.size⟩
  · rcases h.own.2 with e | ⟨g, cap, cur, e, hb, hg, r⟩
    · exact .inl e
    · exact .inr ⟨g, cap, cur, e, hb, (hu.block g hb (Array.getElem?_eq_some_iff.1 hg).1).trans hg, r⟩
  · have ho := h.out j hj
    have hm := h.mem j hj
    exact ⟨fun z hz => hm.1 z ⟨Nat.le_trans hu.size hz.size, fun q h1 h2 => (hz.block q h1 h2).trans (hu.block q (by omega) (by omega)), hz.os.trans hu.os, hz.tape.trans hu.tape, hz.output.trans hu.output⟩, hm.2⟩
  · have ho := h.out j hj
    have := hu.size
    omega
theorem RowM.low {M : Nat → Nat → Nd → NdP → World → Prop} {B B' k : Nat} {N : List Nd} {P : Nat → NdP} {L H : Nat → Nat} {v : Value} {w : World} (h : RowM M B k N P L H v w) (hB : B' ≤ B) : RowM M B' k N P L H v w := by
  refine ⟨⟨h.own.1, ?_⟩, h.mem, fun j hj => by have := h.out j hj; omega, h.far, h.apart, h.lt⟩
  rcases h.own.2 with e | ⟨g, cap, cur, e, hb, r⟩
  · exact .inl e
  · exact .inr ⟨g, cap, cur, e, by omega, r⟩
theorem GotR.gotS {N : List Nd} {now : Int} {w : World} {e : Ending} {w' : World} (h : GotR N now w e w') (hm : N.length ≤ maxLen) : GotS N now w e w' := by
  obtain ⟨v, P, L, H, rfl, R, b⟩ := h
  obtain ⟨a, c, rfl⟩ := R.is
  refine ⟨a, c, rfl, fun u hu => ?_, b⟩
  have RU := R.up hu
  obtain ⟨a', c', e, hN⟩ := RU.nds (R := Bare) rfl hm (fun j hj => ⟨(RU.mem j hj).now, (RU.mem j hj).2⟩)
  cases e
  exact hN
set_option maxHeartbeats 8000000 in
/-- spec.l13Copy of right nodes. -/
theorem specCopyBus (R : NdP → Prop) (hR : ∀ p, R p → Bare p) (a : Option Addr) (N : List Nd) (c : Nat) (now : Int) (w : World) (hd : Nds R a N w) (hok : ∀ n ∈ N, nodeB n = true) (h6 : N.length ≤ 6) :
    Calls Tryz.prog 66 #[buV a N.length c now] w (GotR N now w) := by
  have hm := hd.1
  obtain ⟨HC, HR, HO, B⟩ := three_made w (buC a N.length c now) #[.slice none 0 0, .int .i64 0] #[.slice none 0 0, .int .i64 now] 29 29 29
  go_enter Tryz.func66, Tryz.ntmps66
  go_upto_region 2 with fail
  have hs3 : (((w.alloc (.cells (buC a N.length c now) 29)).alloc (.cells #[.slice none 0 0, .int .i64 0] 29)).alloc (.cells #[.slice none 0 0, .int .i64 now] 29)).heap.size = w.heap.size + 3 := by simp
  generalize ((w.alloc (.cells (buC a N.length c now) 29)).alloc (.cells #[.slice none 0 0, .int .i64 0] 29)).alloc (.cells #[.slice none 0 0, .int .i64 now] 29) = W at HC HR HO B hs3 ⊢
  go_wp2_with fail
  go_loopw [4] (fun i wr => ∃ (k : Nat) (P : Nat → NdP) (L H : Nat → Nat) (v : Value), k ≤ N.length ∧ i = .int .i64 k ∧ wr.heap[w.heap.size]? = some (.cells (buC a N.length c now) 29 (0, 0)) ∧ wr.heap[w.heap.size + 1]? = some (.cells #[.slice none 0 0, .int .i64 0] 29 (0, 0)) ∧ wr.heap[w.heap.size + 2]? = some (.cells #[v, .int .i64 now] 29 (0, 0)) ∧ RowM StdM (w.heap.size + 3) k N P L H v wr ∧ w.heap.size + 3 ≤ wr.heap.size ∧ Below w.heap.size w wr) (fun i _ => N.length - (intOf i).toNat)
  case atStart => exact ⟨0, fun _ => ⟨none, 0, none, 0, none, 0, none, 0⟩, fun _ => 0, fun _ => 0, .slice none 0 0, Nat.zero_le _, rfl, HC, HR, HO, RowM.nil _ _ _ _ _ _ _, by omega, B⟩
  case round =>
    clear HC HR HO B hs3
    obtain ⟨k, P, L, H, v, hk, rfl, HC, HR, HO, RM, hs3, B⟩ := hrel
    have c0 := cell_of_row wr _ 0 _ _ _ HC
    by_cases hlt : k < N.length
    · go_upto_region 5 with fail
      obtain ⟨g, o, p, rfl, hc0, hnm0, hrp⟩ := hd.2 k hlt
      have hgw : g < w.heap.size := World.block_lt_of_cell? w _ (hc0 0 _ rfl)
      have hc := rangeAt_below hc0 B
      have hnm := hnm0.below B
      clear hc0 hnm0
      have hokk := hok _ (nthN_mem hlt)
      obtain ⟨z1, z2, z3, z4, z5, z6⟩ := small_1000 hokk
      have hwk : IntKind.i64.wrap (k : Int) = (k : Int) := IntWalk.i64_in _ (by omega)
      refine wp_region_held (S := fun u => u.heap[w.heap.size]? = some (.cells (buC (some ⟨g, o, none⟩) N.length c now) 29 (0, 0)) ∧ u.rangeAt g (o + k * 18) (ndC (nthN N k) p).toList) (by kernel_rfl) ?_
      have B0 : Below wr.heap.size wr { wr with drawn := wr.drawn + 1 } := (Below.refl _ _).drew
      replace HC := blkS HC B0
      replace HR := blkS HR B0
      replace HO := blkS HO B0
      replace hc := rangeAt_below hc B0
      replace RM := RM.below stdM_sep B0
      replace hnm := hnm.below B0
      replace B := Below.then2 B B0
      replace hs3 := Nat.le_trans hs3 B0.size
      generalize ({ wr with drawn := wr.drawn + 1 } : World) = V at HC HR HO hc RM hnm B hs3 ⊢
      clear B0 c0
      obtain ⟨av, cv, rfl⟩ := RM.is
      have hlo : ∀ j, j < k → H j ≤ V.heap.size := fun j hj => (RM.out j hj).2.2
      have hgl : ∀ q, (Value.slice av k cv).ownBlock = some q → q < V.heap.size := RM.lt
      have hge : ∀ q, (Value.slice av k cv).ownBlock = some q → w.heap.size + 3 ≤ q := fun q hq => by
        rcases RM.own.2 with ⟨e, _⟩ | ⟨g', cap, cur, e, hb, _⟩
        · rw [e] at hq; cases hq
        · rw [e] at hq; cases hq; exact hb
      refine h_take 0 15 (.pointer (some ⟨w.heap.size + 2, 0, none⟩)) rfl rfl (by kernel_rfl) (by kernel_rfl) (by kernel_rfl) (fun _ _ _ h => h) rfl (fun u hu => by go_simp) ⟨HC, hc⟩ ?_
      refine h_take 2 17 (.pointer (some ⟨w.heap.size, 0, none⟩)) rfl rfl (by kernel_rfl) (by kernel_rfl) (by kernel_rfl) (fun _ _ _ h => h) rfl (fun u hu => by go_simp) ⟨HC, hc⟩ ?_
      refine h_take 3 18 (.slice (some ⟨g, o, none⟩) N.length c) rfl rfl (by kernel_rfl) (by kernel_rfl) (by kernel_rfl) (fun _ _ _ h => h) rfl (fun u hu => by have c0 := cell_of_row u _ 0 _ _ _ hu.1; go_simp) ⟨HC, hc⟩ ?_
      refine h_take 4 19 (.int .i64 (k : Int)) rfl rfl (by kernel_rfl) (by kernel_rfl) (by kernel_rfl) (fun _ _ _ h => h) rfl (fun u hu => by go_simp) ⟨HC, hc⟩ ?_
      refine h_take 5 20 (.pointer (some ⟨g, o + k * 18, none⟩)) rfl rfl (by kernel_rfl) (by kernel_rfl) (by kernel_rfl) (fun _ _ _ h => h) rfl (fun u hu => by go_simp) ⟨HC, hc⟩ ?_
      refine h_take 6 21 (ndV (nthN N k) p) rfl rfl (by kernel_rfl) (by kernel_rfl) (by kernel_rfl) (fun _ _ _ h => h) rfl (fun u hu => rng_took hu.2 rfl rfl) ⟨HC, hc⟩ ?_
      simp only [Act.put, List.setIfInBounds_toArray, List.set_cons_zero, List.set_cons_succ]
      refine held_fork 1 7 (by kernel_rfl) (op_at rfl) (op_at rfl) rfl rfl ?pa ?pb
      case pa =>
        refine value_wp (.slice av k cv) V (by have c0 := cell_of_row _ _ 0 _ _ _ HO; go_simp) ?_
        refine ⟨⟨HC, hc⟩, ?_⟩
        simp only [Act.put, List.setIfInBounds_toArray, List.set_cons_zero, List.set_cons_succ]
        refine h_call 7 22 72 #[ndV (nthN N k) p] rfl rfl (by kernel_rfl) rfl (by go_simp) ?_
        refine (specCopy (nthN N k) p V hnm (hR p hrp) z1 z2 z3 z4 z5 z6).mono ?_
        rintro e w2 ⟨p2, rfl, ⟨hst, hbr⟩, b⟩
        have hM : StdM V.heap.size w2.heap.size (nthN N k) p2 w2 := ⟨fun u hu => hst u ⟨hu.size, hu.block, hu.os, hu.tape, hu.output⟩, hbr⟩
        have hVle := b.size
        replace HC := blkS HC b
        replace HR := blkS HR b
        replace HO := blkS HO b
        replace hc := rangeAt_below hc b
        replace RM := RM.below stdM_sep b
        replace B := Below.then2 B b
        clear b hst hbr hnm
        refine ⟨_, rfl, ⟨HC, hc⟩, ?_⟩
        simp only [Act.put, List.setIfInBounds_toArray, List.set_cons_zero, List.set_cons_succ]
        refine h_new 8 23 (.slice (some ⟨w2.heap.size, 0, none⟩) 1 1) (w2.alloc (.cells (ndC (nthN N k) p2) 66)) rfl rfl (by kernel_rfl) rfl (by go_simp) ?_
        have HT := heap_alloc_new w2 (.cells (ndC (nthN N k) p2) 66)
        have b := below_more (Below.refl w2.heap.size w2) (.cells (ndC (nthN N k) p2) 66)
        have hM2 := stdM_sep _ _ _ _ _ _ 0 0 hM (Mid.ofBelow b) (.inr (Nat.zero_le _)) (Nat.le_refl _)
        have hle2 := b.size
        replace HC := blkS HC b
        replace HR := blkS HR b
        replace HO := blkS HO b
        replace hc := rangeAt_below hc b
        replace RM := RM.below stdM_sep b
        replace B := Below.then2 B b
        clear b hM
        generalize w2.alloc _ = w3 at HT HC HR HO hc RM B hM2 hle2 ⊢
        refine ⟨⟨HC, hc⟩, ?_⟩
        simp only [Act.put, List.setIfInBounds_toArray, List.set_cons_zero, List.set_cons_succ]
        refine held_appN stdM_sep 9 24 (.slice av k cv) p2 V.heap.size w2.heap.size w2.heap.size 1 rfl rfl (by kernel_rfl) rfl rfl rfl RM (by omega) rfl HT hM2 hs3 hVle hle2 hlo hgl (by omega) ?_
        intro v4 w4 RM4 gr
        have hne : ∀ q, q < w.heap.size + 3 → some q ≠ (Value.slice av k cv).ownBlock := fun q hq e => by have := hge q e.symm; omega
        replace HC := (gr.block _ (Array.getElem?_eq_some_iff.1 HC).1 (hne _ (by omega))).trans HC
        replace HR := (gr.block _ (Array.getElem?_eq_some_iff.1 HR).1 (hne _ (by omega))).trans HR
        replace HO := (gr.block _ (Array.getElem?_eq_some_iff.1 HO).1 (hne _ (by omega))).trans HO
        have hgW : g < w3.heap.size := World.block_lt_of_cell? w3 _ (hc 0 _ rfl)
        replace hc : w4.rangeAt g (o + k * 18) (ndC (nthN N k) p).toList := fun i x hx => (World.cell?_of_block (gr.block g hgW (hne g (by omega)))).trans (hc i x hx)
        replace B := B.grown gr B.size (fun q hq => by have := hge q hq; omega)
        have hs4 : w.heap.size + 3 ≤ w4.heap.size := Nat.le_trans (by omega) gr.size
        clear gr hne hge HT hM2 hlo hgl RM hgW
        refine ⟨⟨HC, hc⟩, ?_⟩
        simp only [Act.put, List.setIfInBounds_toArray, List.set_cons_zero, List.set_cons_succ]
        refine h_value 10 25 (.pointer (some ⟨w.heap.size + 2, 0, none⟩)) rfl rfl (by kernel_rfl) rfl (by go_simp) ⟨HC, hc⟩ ?_
        simp only [Act.put, List.setIfInBounds_toArray, List.set_cons_zero, List.set_cons_succ]
        have f0 := frozen_of_row w4 (w.heap.size + 2) 0 _ _ HO
        have c0 := cell_of_row w4 (w.heap.size + 2) 0 _ _ _ HO
        obtain ⟨av4, cv4, rfl⟩ := RM4.is
        refine h_store 11 (w4.setCell ⟨w.heap.size + 2, 0, none⟩ (.slice av4 (k + 1) cv4)) rfl rfl (by kernel_rfl) rfl (by go_simp) ?_
        have m := mid_cell w4 (w.heap.size + 2) 0 (.slice av4 (k + 1) cv4)
        have HO5 := heap_setCell_same w4 (w.heap.size + 2) 0 _ _ (.slice av4 (k + 1) cv4) HO
        replace HC := (m.block _ (Array.getElem?_eq_some_iff.1 HC).1 (.inl (by omega))).trans HC
        replace HR := (m.block _ (Array.getElem?_eq_some_iff.1 HR).1 (.inl (by omega))).trans HR
        have hgW : g < w4.heap.size := World.block_lt_of_cell? w4 _ (hc 0 _ rfl)
        replace hc : (w4.setCell ⟨w.heap.size + 2, 0, none⟩ (.slice av4 (k + 1) cv4)).rangeAt g (o + k * 18) (ndC (nthN N k) p).toList := fun i x hx => (World.cell?_of_block (m.block g hgW (.inl (by omega)))).trans (hc i x hx)
        have hge4 : ∀ q, (Value.slice av4 (k + 1) cv4).ownBlock = some q → w.heap.size + 3 ≤ q := fun q hq => by
          rcases RM4.own.2 with ⟨e, _⟩ | ⟨g', cap, cur, e, hb, _⟩
          · rw [e] at hq; cases hq
          · rw [e] at hq; cases hq; exact hb
        have RM5 := RM4.sep stdM_sep m (fun q hq => .inr (hge4 q hq)) (fun j hj => .inr (by have := RM4.out j hj; omega))
        have B5 := B.trans (m.below (B := w.heap.size) (by omega) B.size)
        have hs5 := Nat.le_trans hs4 m.size
        generalize w4.setCell _ _ = w5 at HC HR HO5 hc RM5 B5 hs5 ⊢
        clear m HO hgW hge4 RM4 B hs4 c0 f0
        refine ⟨⟨HC, hc⟩, ?_⟩
        refine wpAnyH_done (by kernel_rfl) ?_ _
        go_wp2_with fail
        go_roundw
        case rel => exact ⟨k + 1, _, _, _, _, hlt, by go_num, HC, HR, HO5, RM5, hs5, B5⟩
        case measure => simp [intOf]; omega
      case pb =>
        refine call_wp 72 #[ndV (nthN N k) p] (by go_simp) ?_
        refine (specCopy (nthN N k) p V hnm (hR p hrp) z1 z2 z3 z4 z5 z6).mono ?_
        rintro e w2 ⟨p2, rfl, ⟨hst, hbr⟩, b⟩
        have hM : StdM V.heap.size w2.heap.size (nthN N k) p2 w2 := ⟨fun u hu => hst u ⟨hu.size, hu.block, hu.os, hu.tape, hu.output⟩, hbr⟩
        have hVle := b.size
        replace HC := blkS HC b
        replace HR := blkS HR b
        replace HO := blkS HO b
        replace hc := rangeAt_below hc b
        replace RM := RM.below stdM_sep b
        replace B := Below.then2 B b
        clear b hst hbr hnm
        refine ⟨_, rfl, ⟨HC, hc⟩, ?_⟩
        simp only [Act.put, List.setIfInBounds_toArray, List.set_cons_zero, List.set_cons_succ]
        refine held_fork 1 8 (by kernel_rfl) (op_at rfl) (op_at rfl) rfl rfl ?pc ?pd
        case pc =>
          refine value_wp (.slice av k cv) w2 (by have c0 := cell_of_row _ _ 0 _ _ _ HO; go_simp) ?_
          refine ⟨⟨HC, hc⟩, ?_⟩
          simp only [Act.put, List.setIfInBounds_toArray, List.set_cons_zero, List.set_cons_succ]
          refine h_new 8 23 (.slice (some ⟨w2.heap.size, 0, none⟩) 1 1) (w2.alloc (.cells (ndC (nthN N k) p2) 66)) rfl rfl (by kernel_rfl) rfl (by go_simp) ?_
          have HT := heap_alloc_new w2 (.cells (ndC (nthN N k) p2) 66)
          have b := below_more (Below.refl w2.heap.size w2) (.cells (ndC (nthN N k) p2) 66)
          have hM2 := stdM_sep _ _ _ _ _ _ 0 0 hM (Mid.ofBelow b) (.inr (Nat.zero_le _)) (Nat.le_refl _)
          have hle2 := b.size
          replace HC := blkS HC b
          replace HR := blkS HR b
          replace HO := blkS HO b
          replace hc := rangeAt_below hc b
          replace RM := RM.below stdM_sep b
          replace B := Below.then2 B b
          clear b hM
          generalize w2.alloc _ = w3 at HT HC HR HO hc RM B hM2 hle2 ⊢
          refine ⟨⟨HC, hc⟩, ?_⟩
          simp only [Act.put, List.setIfInBounds_toArray, List.set_cons_zero, List.set_cons_succ]
          refine held_appN stdM_sep 9 24 (.slice av k cv) p2 V.heap.size w2.heap.size w2.heap.size 1 rfl rfl (by kernel_rfl) rfl rfl rfl RM (by omega) rfl HT hM2 hs3 hVle hle2 hlo hgl (by omega) ?_
          intro v4 w4 RM4 gr
          have hne : ∀ q, q < w.heap.size + 3 → some q ≠ (Value.slice av k cv).ownBlock := fun q hq e => by have := hge q e.symm; omega
          replace HC := (gr.block _ (Array.getElem?_eq_some_iff.1 HC).1 (hne _ (by omega))).trans HC
          replace HR := (gr.block _ (Array.getElem?_eq_some_iff.1 HR).1 (hne _ (by omega))).trans HR
          replace HO := (gr.block _ (Array.getElem?_eq_some_iff.1 HO).1 (hne _ (by omega))).trans HO
          have hgW : g < w3.heap.size := World.block_lt_of_cell? w3 _ (hc 0 _ rfl)
          replace hc : w4.rangeAt g (o + k * 18) (ndC (nthN N k) p).toList := fun i x hx => (World.cell?_of_block (gr.block g hgW (hne g (by omega)))).trans (hc i x hx)
          replace B := B.grown gr B.size (fun q hq => by have := hge q hq; omega)
          have hs4 : w.heap.size + 3 ≤ w4.heap.size := Nat.le_trans (by omega) gr.size
          clear gr hne hge HT hM2 hlo hgl RM hgW
          refine ⟨⟨HC, hc⟩, ?_⟩
          simp only [Act.put, List.setIfInBounds_toArray, List.set_cons_zero, List.set_cons_succ]
          refine h_value 10 25 (.pointer (some ⟨w.heap.size + 2, 0, none⟩)) rfl rfl (by kernel_rfl) rfl (by go_simp) ⟨HC, hc⟩ ?_
          simp only [Act.put, List.setIfInBounds_toArray, List.set_cons_zero, List.set_cons_succ]
          have f0 := frozen_of_row w4 (w.heap.size + 2) 0 _ _ HO
          have c0 := cell_of_row w4 (w.heap.size + 2) 0 _ _ _ HO
          obtain ⟨av4, cv4, rfl⟩ := RM4.is
          refine h_store 11 (w4.setCell ⟨w.heap.size + 2, 0, none⟩ (.slice av4 (k + 1) cv4)) rfl rfl (by kernel_rfl) rfl (by go_simp) ?_
          have m := mid_cell w4 (w.heap.size + 2) 0 (.slice av4 (k + 1) cv4)
          have HO5 := heap_setCell_same w4 (w.heap.size + 2) 0 _ _ (.slice av4 (k + 1) cv4) HO
          replace HC := (m.block _ (Array.getElem?_eq_some_iff.1 HC).1 (.inl (by omega))).trans HC
          replace HR := (m.block _ (Array.getElem?_eq_some_iff.1 HR).1 (.inl (by omega))).trans HR
          have hgW : g < w4.heap.size := World.block_lt_of_cell? w4 _ (hc 0 _ rfl)
          replace hc : (w4.setCell ⟨w.heap.size + 2, 0, none⟩ (.slice av4 (k + 1) cv4)).rangeAt g (o + k * 18) (ndC (nthN N k) p).toList := fun i x hx => (World.cell?_of_block (m.block g hgW (.inl (by omega)))).trans (hc i x hx)
          have hge4 : ∀ q, (Value.slice av4 (k + 1) cv4).ownBlock = some q → w.heap.size + 3 ≤ q := fun q hq => by
            rcases RM4.own.2 with ⟨e, _⟩ | ⟨g', cap, cur, e, hb, _⟩
            · rw [e] at hq; cases hq
            · rw [e] at hq; cases hq; exact hb
          have RM5 := RM4.sep stdM_sep m (fun q hq => .inr (hge4 q hq)) (fun j hj => .inr (by have := RM4.out j hj; omega))
          have B5 := B.trans (m.below (B := w.heap.size) (by omega) B.size)
          have hs5 := Nat.le_trans hs4 m.size
          generalize w4.setCell _ _ = w5 at HC HR HO5 hc RM5 B5 hs5 ⊢
          clear m HO hgW hge4 RM4 B hs4 c0 f0
          refine ⟨⟨HC, hc⟩, ?_⟩
          refine wpAnyH_done (by kernel_rfl) ?_ _
          go_wp2_with fail
          go_roundw
          case rel => exact ⟨k + 1, _, _, _, _, hlt, by go_num, HC, HR, HO5, RM5, hs5, B5⟩
          case measure => simp [intOf]; omega
        case pd =>
          refine value_wp (.slice (some ⟨w2.heap.size, 0, none⟩) 1 1) (w2.alloc (.cells (ndC (nthN N k) p2) 66)) (by go_simp) ?_
          have HT := heap_alloc_new w2 (.cells (ndC (nthN N k) p2) 66)
          have b := below_more (Below.refl w2.heap.size w2) (.cells (ndC (nthN N k) p2) 66)
          have hM2 := stdM_sep _ _ _ _ _ _ 0 0 hM (Mid.ofBelow b) (.inr (Nat.zero_le _)) (Nat.le_refl _)
          have hle2 := b.size
          replace HC := blkS HC b
          replace HR := blkS HR b
          replace HO := blkS HO b
          replace hc := rangeAt_below hc b
          replace RM := RM.below stdM_sep b
          replace B := Below.then2 B b
          clear b hM
          generalize w2.alloc _ = w3 at HT HC HR HO hc RM B hM2 hle2 ⊢
          refine ⟨⟨HC, hc⟩, ?_⟩
          simp only [Act.put, List.setIfInBounds_toArray, List.set_cons_zero, List.set_cons_succ]
          refine h_value 1 16 (.slice av k cv) rfl rfl (by kernel_rfl) rfl (by have c0 := cell_of_row _ _ 0 _ _ _ HO; go_simp) ⟨HC, hc⟩ ?_
          simp only [Act.put, List.setIfInBounds_toArray, List.set_cons_zero, List.set_cons_succ]
          refine held_appN stdM_sep 9 24 (.slice av k cv) p2 V.heap.size w2.heap.size w2.heap.size 1 rfl rfl (by kernel_rfl) rfl rfl rfl RM (by omega) rfl HT hM2 hs3 hVle hle2 hlo hgl (by omega) ?_
          intro v4 w4 RM4 gr
          have hne : ∀ q, q < w.heap.size + 3 → some q ≠ (Value.slice av k cv).ownBlock := fun q hq e => by have := hge q e.symm; omega
          replace HC := (gr.block _ (Array.getElem?_eq_some_iff.1 HC).1 (hne _ (by omega))).trans HC
          replace HR := (gr.block _ (Array.getElem?_eq_some_iff.1 HR).1 (hne _ (by omega))).trans HR
          replace HO := (gr.block _ (Array.getElem?_eq_some_iff.1 HO).1 (hne _ (by omega))).trans HO
          have hgW : g < w3.heap.size := World.block_lt_of_cell? w3 _ (hc 0 _ rfl)
          replace hc : w4.rangeAt g (o + k * 18) (ndC (nthN N k) p).toList := fun i x hx => (World.cell?_of_block (gr.block g hgW (hne g (by omega)))).trans (hc i x hx)
          replace B := B.grown gr B.size (fun q hq => by have := hge q hq; omega)
          have hs4 : w.heap.size + 3 ≤ w4.heap.size := Nat.le_trans (by omega) gr.size
          clear gr hne hge HT hM2 hlo hgl RM hgW
          refine ⟨⟨HC, hc⟩, ?_⟩
          simp only [Act.put, List.setIfInBounds_toArray, List.set_cons_zero, List.set_cons_succ]
          refine h_value 10 25 (.pointer (some ⟨w.heap.size + 2, 0, none⟩)) rfl rfl (by kernel_rfl) rfl (by go_simp) ⟨HC, hc⟩ ?_
          simp only [Act.put, List.setIfInBounds_toArray, List.set_cons_zero, List.set_cons_succ]
          have f0 := frozen_of_row w4 (w.heap.size + 2) 0 _ _ HO
          have c0 := cell_of_row w4 (w.heap.size + 2) 0 _ _ _ HO
          obtain ⟨av4, cv4, rfl⟩ := RM4.is
          refine h_store 11 (w4.setCell ⟨w.heap.size + 2, 0, none⟩ (.slice av4 (k + 1) cv4)) rfl rfl (by kernel_rfl) rfl (by go_simp) ?_
          have m := mid_cell w4 (w.heap.size + 2) 0 (.slice av4 (k + 1) cv4)
          have HO5 := heap_setCell_same w4 (w.heap.size + 2) 0 _ _ (.slice av4 (k + 1) cv4) HO
          replace HC := (m.block _ (Array.getElem?_eq_some_iff.1 HC).1 (.inl (by omega))).trans HC
          replace HR := (m.block _ (Array.getElem?_eq_some_iff.1 HR).1 (.inl (by omega))).trans HR
          have hgW : g < w4.heap.size := World.block_lt_of_cell? w4 _ (hc 0 _ rfl)
          replace hc : (w4.setCell ⟨w.heap.size + 2, 0, none⟩ (.slice av4 (k + 1) cv4)).rangeAt g (o + k * 18) (ndC (nthN N k) p).toList := fun i x hx => (World.cell?_of_block (m.block g hgW (.inl (by omega)))).trans (hc i x hx)
          have hge4 : ∀ q, (Value.slice av4 (k + 1) cv4).ownBlock = some q → w.heap.size + 3 ≤ q := fun q hq => by
            rcases RM4.own.2 with ⟨e, _⟩ | ⟨g', cap, cur, e, hb, _⟩
            · rw [e] at hq; cases hq
            · rw [e] at hq; cases hq; exact hb
          have RM5 := RM4.sep stdM_sep m (fun q hq => .inr (hge4 q hq)) (fun j hj => .inr (by have := RM4.out j hj; omega))
          have B5 := B.trans (m.below (B := w.heap.size) (by omega) B.size)
          have hs5 := Nat.le_trans hs4 m.size
          generalize w4.setCell _ _ = w5 at HC HR HO5 hc RM5 B5 hs5 ⊢
          clear m HO hgW hge4 RM4 B hs4 c0 f0
          refine ⟨⟨HC, hc⟩, ?_⟩
          refine wpAnyH_done (by kernel_rfl) ?_ _
          go_wp2_with fail
          go_roundw
          case rel => exact ⟨k + 1, _, _, _, _, hlt, by go_num, HC, HR, HO5, RM5, hs5, B5⟩
          case measure => simp [intOf]; omega
    · obtain rfl : k = N.length := by omega
      obtain ⟨av, cv, rfl⟩ := RM.is
      have d0 := cell_of_row wr (w.heap.size + 2) 0 _ _ _ HO
      have d1 := cell_of_row wr (w.heap.size + 2) 1 _ _ _ HO
      have e0 := cell_of_row wr (w.heap.size + 1) 0 _ _ _ HR
      have e1 := cell_of_row wr (w.heap.size + 1) 1 _ _ _ HR
      have f0 := frozen_of_row wr (w.heap.size + 1) 0 _ _ HR
      have f1 := frozen_of_row wr (w.heap.size + 1) 1 _ _ HR
      go_wp2_with fail
      have hge : ∀ q, (Value.slice av N.length cv).ownBlock = some q → w.heap.size + 3 ≤ q := fun q hq => by
        rcases RM.own.2 with ⟨e, _⟩ | ⟨g', cap, cur, e, hb, _⟩
        · rw [e] at hq; cases hq
        · rw [e] at hq; cases hq; exact hb
      have m : Mid (w.heap.size + 1) (w.heap.size + 2) wr ((wr.setCell ⟨w.heap.size + 1, 0, none⟩ (.slice av N.length cv)).setCell ⟨w.heap.size + 1, 1, none⟩ (.int .i64 now)) := (mid_cell _ _ _ _).trans (mid_cell _ _ _ _)
      have hr3 := heap_setCell_same _ _ 1 _ _ (.int .i64 now) (heap_setCell_same wr _ 0 _ _ (.slice av N.length cv) HR)
      have RM5 := RM.sep stdM_sep m (fun q hq => .inr (by have := hge q hq; omega)) (fun j hj => .inr (by have := RM.out j hj; omega))
      have B5 := B.trans (m.below (B := w.heap.size) (by omega) B.size)
      generalize (wr.setCell _ _).setCell _ _ = w5 at hr3 RM5 B5 ⊢
      refine bodyPost_ret (v := buV av N.length cv now) ?_ rfl ⟨_, _, _, _, rfl, RM5.low (by omega), B5⟩
      exact results_cell_row rfl _ _ (w.heap.size + 1) 29 _ (0, 0) _ rfl hr3 Tryz.underlying29 rfl (by kernel_rfl)
end Go.Proofs.YtjlegnnekjcpmaaGreat

