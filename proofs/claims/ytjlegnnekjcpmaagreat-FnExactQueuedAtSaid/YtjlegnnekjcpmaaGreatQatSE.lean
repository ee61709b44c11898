/- spec.QueuedAt. -/
import Derived.Test.YtjlegnnekjcpmaaGreatCpySE
import Derived.Test.YtjlegnnekjcpmaaGreatQatPE
import Derived.Test.YtjlegnnekjcpmaaGreatM28
set_option linter.unusedVariables false
set_option linter.unusedSimpArgs false
set_option maxRecDepth 20000
namespace Go.Proofs.YtjlegnnekjcpmaaGreat
open Go.RowKit

def QatY (N : List Nd) (now k : Int) (w : World) (e : Ending) (w' : World) : Prop :=
  ∃ a c, e = .returned (.tuple #[buV a N.length c now, .int .i64 k]) ∧ (∀ u, Up w.heap.size w' u → Nds Bare a N u) ∧ Below w.heap.size w w'
theorem rng_range {g : Nat} {C : Array Value} {T : TypeId} {fr : Nat × Nat} {w : World} (h : w.heap[g]? = some (.cells C T fr)) : w.rangeAt g 0 C.toList := fun j v hv => by
  rw [cell_of_row w g _ _ _ _ h, Nat.zero_add, ← Array.getElem?_toList]; exact hv
theorem StdM.up {B lo hi : Nat} {n : Nd} {p : NdP} {w u : World} (h : StdM lo hi n p w) (hB : B ≤ lo) (hh : hi ≤ w.heap.size) (hu : Up B w u) : NdM n p u :=
  h.1 u ⟨hu.size, fun q h1 h2 => hu.block q (by omega) (by omega), hu.os, hu.tape, hu.output⟩
set_option maxHeartbeats 8000000 in
/-- spec.QueuedAt. -/
theorem specQueuedAt (R : NdP → Prop) (hR : ∀ p, R p → Bare p) (a : Option Addr) (N : List Nd) (c : Nat) (now node : Int) (f : Frm) (af : Option Addr) (cf : Nat) (w : World) (hd : Nds R a N w) (hn : Nums af f.D w) :
    Calls Tryz.prog 27 #[buV a N.length c now, .int .i64 node, frV f.id f.rm f.ln af f.D.length cf] w (QatY (qatN N now node f) (qatT N now) (qatK N now node f) w) := by
  have hm := hd.1
  have HQN : Hid (qatN N now node f = if busB N now = true then (if rng node 0 ((N.length : Int) - 1) = true then N.set node.toNat (queA (nthN N node.toNat) f).1 else N) else []) := Lib.hid rfl
  have HQT : Hid (qatT N now = if busB N now = true then now else 0) := Lib.hid rfl
  have HQK : Hid (qatK N now node f = if busB N now = true then (if rng node 0 ((N.length : Int) - 1) = true then (queA (nthN N node.toNat) f).2 else 3) else 3) := Lib.hid rfl
  obtain ⟨HC, HF, HR, B⟩ := three_made w (buC a N.length c now) (frC f af cf) #[.slice none 0 0, .int .i64 0] 29 50 29
  go_enter Tryz.func27, Tryz.ntmps27
  go_upto_region 1 with fail
  have hs3 : (((w.alloc (.cells (buC a N.length c now) 29)).alloc (.cells (frC f af cf) 50)).alloc (.cells #[.slice none 0 0, .int .i64 0] 29)).heap.size = w.heap.size + 3 := by simp
  generalize ((w.alloc (.cells (buC a N.length c now) 29)).alloc (.cells (frC f af cf) 50)).alloc (.cells #[.slice none 0 0, .int .i64 0] 29) = W at HC HF HR B hs3 ⊢
  have c0 := cell_of_row W _ 0 _ _ _ HC
  have c1 := cell_of_row W _ 1 _ _ _ HC
  go_wp2_with fail
  refine (specBusOk R a N c now _ (hd.below B)).mono ?_
  rintro e w1 ⟨rfl, b⟩
  replace HC := blkS HC b
  replace HF := blkS HF b
  replace HR := blkS HR b
  replace B := Below.then2 B b
  replace hs3 : w.heap.size + 3 ≤ w1.heap.size := by have := b.size; omega
  clear b c0 c1
  cases hok : busB N now
  · have d0 := cell_of_row w1 _ 0 _ _ _ HR
    have d1 := cell_of_row w1 _ 1 _ _ _ HR
    have f0 := frozen_of_row w1 (w.heap.size + 2) 0 _ _ HR
    have f1 := frozen_of_row w1 (w.heap.size + 2) 1 _ _ HR
    have hN : qatN N now node f = [] := by rw [HQN.out, hok]; rfl
    have hT : qatT N now = 0 := by rw [HQT.out, hok]; rfl
    have hK : qatK N now node f = 3 := by rw [HQK.out, hok]; rfl
    clear HQN HQT HQK hok
    go_wp2_with fail
    have m : Mid (w.heap.size + 2) (w.heap.size + 3) w1 ((w1.setCell ⟨w.heap.size + 2, 0, none⟩ (.slice none 0 0)).setCell ⟨w.heap.size + 2, 1, none⟩ (.int .i64 0)) := (mid_cell _ _ _ _).trans (mid_cell _ _ _ _)
    have hr3 := heap_setCell_same _ _ 1 _ _ (.int .i64 0) (heap_setCell_same w1 _ 0 _ _ (.slice none 0 0) HR)
    have B5 := B.trans (m.below (B := w.heap.size) (by omega) B.size)
    generalize (w1.setCell _ _).setCell _ _ = w5 at hr3 B5 ⊢
    refine bodyPost_ret (v := .tuple #[buV none 0 0 0, .int .i64 3]) ?_ rfl ?_
    · exact results_bus Tryz.results27 _ _ (w.heap.size + 2) _ _ rfl rfl hr3 rfl
    · rw [hN, hT, hK]
      exact ⟨none, 0, rfl, fun u _ => ⟨Nat.zero_le _, fun j hj => absurd hj (by simp)⟩, B5⟩
  · have hb6 := busB_iff.1 hok
    have c0 := cell_of_row w1 _ 0 _ _ _ HC
    have c1 := cell_of_row w1 _ 1 _ _ _ HC
    go_wp2_with fail
    refine (specCopyBus R hR a N c now _ (hd.below B) hb6.2.2.2 hb6.2.1).mono ?_
    rintro e w2 ⟨v, P2, L2, H2, rfl, RM, b⟩
    obtain ⟨av, cv, rfl⟩ := RM.is
    replace HC := blkS HC b
    replace HF := blkS HF b
    replace HR := blkS HR b
    replace B := Below.then2 B b
    have hw1 : w.heap.size + 3 ≤ w1.heap.size := hs3
    replace hs3 : w.heap.size + 3 ≤ w2.heap.size := by have := b.size; omega
    clear b c0 c1
    go_upto_region 4 with fail
    have HO := heap_alloc_new w2 (.cells (buC av N.length cv now) 29)
    have b := below_more (Below.refl w2.heap.size w2) (.cells (buC av N.length cv now) 29)
    replace HC := blkS HC b
    replace HF := blkS HF b
    replace HR := blkS HR b
    have hgl : ∀ q, (Value.slice av N.length cv).ownBlock = some q → q < w2.heap.size := RM.lt
    have hHl : ∀ j, j < N.length → H2 j ≤ w2.heap.size := fun j hj => (RM.out j hj).2.2
    replace RM := RM.below stdM_sep b
    replace B := Below.then2 B b
    have hz3 : w2.heap.size + 1 ≤ (w2.alloc (.cells (buC av N.length cv now) 29)).heap.size := by simp
    generalize w2.alloc (.cells (buC av N.length cv now) 29) = w3 at HO HC HF HR RM B hz3 ⊢
    clear b
    have c0 := cell_of_row w3 _ 0 _ _ _ HC
    have hwl : IntKind.i64.wrap ((N.length : Int) - 1) = (N.length : Int) - 1 := IntWalk.i64_in _ (by omega)
    go_wp2_with fail
    refine (l1In _ _ _ _).mono ?_
    rintro e w4 ⟨rfl, rfl⟩
    have hrn0 : rng node 0 ((N.length : Int) - 1) = (decide (0 ≤ node) && decide (node ≤ (N.length : Int) - 1)) := rfl
    cases hrg : (decide (0 ≤ node) && decide (node ≤ (N.length : Int) - 1))
    · rw [hrg] at hrn0
      have hN : qatN N now node f = N := by rw [HQN.out, if_pos hok, hrn0]; rfl
      have hT : qatT N now = now := by rw [HQT.out, if_pos hok]
      have hK : qatK N now node f = 3 := by rw [HQK.out, if_pos hok, hrn0]; rfl
      clear HQN HQT HQK hok hrn0
      have e0 := cell_of_row w3 _ 0 _ _ _ HO
      have e1 := cell_of_row w3 _ 1 _ _ _ HO
      have d0 := cell_of_row w3 _ 0 _ _ _ HR
      have d1 := cell_of_row w3 _ 1 _ _ _ HR
      have f0 := frozen_of_row w3 (w.heap.size + 2) 0 _ _ HR
      have f1 := frozen_of_row w3 (w.heap.size + 2) 1 _ _ HR
      go_wp2_with fail
      have m : Mid (w.heap.size + 2) (w.heap.size + 3) w3 ((w3.setCell ⟨w.heap.size + 2, 0, none⟩ (.slice av N.length cv)).setCell ⟨w.heap.size + 2, 1, none⟩ (.int .i64 now)) := (mid_cell _ _ _ _).trans (mid_cell _ _ _ _)
      have hr3 := heap_setCell_same _ _ 1 _ _ (.int .i64 now) (heap_setCell_same w3 _ 0 _ _ (.slice av N.length cv) HR)
      have B5 := B.trans (m.below (B := w.heap.size) (by omega) B.size)
      have hge : ∀ q, (Value.slice av N.length cv).ownBlock = some q → w.heap.size + 3 ≤ q := fun q hq => by
        rcases RM.own.2 with ⟨e, _⟩ | ⟨g', cap, cur, e, hb, _⟩
        · rw [e] at hq; cases hq
        · rw [e] at hq; cases hq; exact Nat.le_trans hw1 hb
      have R5 := RM.sep stdM_sep m (fun q hq => .inr (hge q hq)) (fun j hj => .inr (by have := RM.out j hj; omega))
      generalize (w3.setCell _ _).setCell _ _ = w5 at hr3 B5 R5 ⊢
      refine bodyPost_ret (v := .tuple #[buV av N.length cv now, .int .i64 3]) ?_ rfl ?_
      · exact results_bus Tryz.results27 _ _ (w.heap.size + 2) _ _ rfl rfl hr3 rfl
      · rw [hN, hT, hK]
        refine ⟨av, cv, rfl, fun u hu => ?_, B5⟩
        have RU := (R5.low (B' := w.heap.size) (by omega)).up hu
        obtain ⟨a', c', e, hNd⟩ := RU.nds (R := Bare) rfl hm (fun j hj => ⟨(RU.mem j hj).now, (RU.mem j hj).2⟩)
        cases e
        exact hNd
    · rw [hrg] at hrn0
      have hnd := rng_iff.1 hrn0
      obtain ⟨k, rfl⟩ : ∃ k : Nat, node = (k : Int) := ⟨node.toNat, by omega⟩
      have hk : k < N.length := by omega
      have htn : ((k : Nat) : Int).toNat = k := by omega
      have hN : qatN N now k f = N.set k (queA (nthN N k) f).1 := by rw [HQN.out, if_pos hok, if_pos hrn0, htn]
      have hT : qatT N now = now := by rw [HQT.out, if_pos hok]
      have hK : qatK N now k f = (queA (nthN N k) f).2 := by rw [HQK.out, if_pos hok, if_pos hrn0, htn]
      clear HQN HQT HQK hok hrn0 htn
      have hwk : IntKind.i64.wrap (k : Int) = (k : Int) := IntWalk.i64_in _ (by omega)
      obtain ⟨g, o, p, rfl, hrn1, hnm1, hrp⟩ := hd.2 k hk
      have hgw : g < w.heap.size := World.block_lt_of_cell? w _ (hrn1 0 _ rfl)
      have hrn := rangeAt_below hrn1 B
      have hnm := hnm1.below B
      have hn3 := hn.below B
      have hbr := hR p hrp
      generalize hqq : queA (nthN N k) f = qq at *
      obtain ⟨qn, kq⟩ := qq
      dsimp only at hN hK
      have HI := Lib.hid (fun (w : World) (h1 : NdM (nthN N k) p w) (h3 : Nums af f.D w) => show Calls _ _ _ _ (QueY qn kq w) from (specQueued (nthN N k) p f af cf w h1 hbr h3).mono (fun e w' h => by rw [hqq] at h; exact h))
      clear hqq
      go_upto_region 6 with fail
      go_cut [9, 10] (fun s9 s10 wx => ∃ (gA : Nat) (p2 : NdP) (lo hi : Nat), s9 = .pointer (some ⟨gA, 0, none⟩) ∧ s10 = .int .i64 kq ∧ wx.heap[gA]? = some (.cells (ndC qn p2) 66 (0, 0)) ∧ StdM lo hi qn p2 wx ∧ w3.heap.size ≤ lo ∧ lo ≤ hi ∧ hi ≤ wx.heap.size ∧ Below w3.heap.size w3 wx)
      case first =>
        refine wp_region_held (S := fun u => u.heap[w.heap.size]? = some (.cells (buC (some ⟨g, o, none⟩) N.length c now) 29 (0, 0)) ∧ u.heap[w.heap.size + 1]? = some (.cells (frC f af cf) 50 (0, 0)) ∧ u.rangeAt g (o + k * 18) (ndC (nthN N k) p).toList) (by kernel_rfl) ?_
        have B0 : Below w3.heap.size w3 { w3 with drawn := w3.drawn + 1 } := (Below.refl _ _).drew
        replace HC := blkS HC B0
        replace HF := blkS HF B0
        replace hnm := hnm.below B0
        replace hn3 := hn3.below B0
        replace hrn := rangeAt_below hrn B0
        generalize ({ w3 with drawn := w3.drawn + 1 } : World) = V at HC HF hrn hnm hn3 B0 ⊢
        have hzV : w3.heap.size ≤ V.heap.size := B0.size
        refine h_take 0 26 (.pointer (some ⟨w.heap.size, 0, none⟩)) rfl rfl (by kernel_rfl) (by kernel_rfl) (by kernel_rfl) (fun _ _ _ h => h) rfl (fun u hu => by go_simp) ⟨HC, HF, hrn⟩ ?_
        refine h_take 1 27 (.slice (some ⟨g, o, none⟩) N.length c) rfl rfl (by kernel_rfl) (by kernel_rfl) (by kernel_rfl) (fun _ _ _ h => h) rfl (fun u hu => by have c0 := cell_of_row u _ 0 _ _ _ hu.1; go_simp) ⟨HC, HF, hrn⟩ ?_
        refine h_take 2 28 (.int .i64 (k : Int)) rfl rfl (by kernel_rfl) (by kernel_rfl) (by kernel_rfl) (fun _ _ _ h => h) rfl (fun u hu => by go_simp) ⟨HC, HF, hrn⟩ ?_
        refine h_take 3 29 (.pointer (some ⟨g, o + k * 18, none⟩)) rfl rfl (by kernel_rfl) (by kernel_rfl) (by kernel_rfl) (fun _ _ _ h => h) rfl (fun u hu => by go_simp) ⟨HC, HF, hrn⟩ ?_
        refine h_take 4 30 (ndV (nthN N k) p) rfl rfl (by kernel_rfl) (by kernel_rfl) (by kernel_rfl) (fun _ _ _ h => h) rfl (fun u hu => rng_took hu.2.2 rfl rfl) ⟨HC, HF, hrn⟩ ?_
        refine h_take 5 31 (frV f.id f.rm f.ln af f.D.length cf) rfl rfl (by kernel_rfl) (by kernel_rfl) (by kernel_rfl) (fun _ _ _ h => h) rfl (fun u hu => fr_tookI _ f af cf u hu.2.1 rfl rfl) ⟨HC, HF, hrn⟩ ?_
        simp only [Act.put, List.setIfInBounds_toArray, List.set_cons_zero, List.set_cons_succ]
        refine held_fork 6 10 (by kernel_rfl) (op_at rfl) (op_at rfl) rfl rfl ?qa ?qb
        case qa =>
          refine call_wp 33 #[ndV (nthN N k) p, frV f.id f.rm f.ln af f.D.length cf] (by go_simp) ?_
          refine (HI.out V hnm hn3).mono ?_
          rintro e w5 ⟨p2, rfl, hst, b, hbr2⟩
          have I : StdM V.heap.size w5.heap.size qn p2 w5 := ⟨fun u hu => hst u ⟨hu.size, hu.block, hu.os, hu.tape, hu.output⟩, hbr2⟩
          have hlo := b.size
          replace HC := blkS HC b
          replace HF := blkS HF b
          replace hrn := rangeAt_below hrn b
          replace B0 := Below.then2 B0 b
          clear b
          refine ⟨_, rfl, ⟨HC, HF, hrn⟩, ?_⟩
          simp only [Act.put, List.setIfInBounds_toArray, List.set_cons_zero, List.set_cons_succ]
          refine h_take 7 25 (.tuple #[ndV qn p2, .int .i64 kq]) rfl rfl (by kernel_rfl) (by kernel_rfl) (by kernel_rfl) (fun _ _ _ h => h) rfl (fun u hu => by go_simp) ⟨HC, HF, hrn⟩ ?_
          simp only [Act.put, List.setIfInBounds_toArray, List.set_cons_zero, List.set_cons_succ]
          refine h_take 8 33 (ndV qn p2) rfl rfl (by kernel_rfl) (by kernel_rfl) (by kernel_rfl) (fun _ _ _ h => h) rfl (fun u hu => by go_simp) ⟨HC, HF, hrn⟩ ?_
          refine h_take 9 34 (.int .i64 kq) rfl rfl (by kernel_rfl) (by kernel_rfl) (by kernel_rfl) (fun _ _ _ h => h) rfl (fun u hu => by go_simp) ⟨HC, HF, hrn⟩ ?_
          simp only [Act.put, List.setIfInBounds_toArray, List.set_cons_zero, List.set_cons_succ]
          refine h_new 10 9 (.pointer (some ⟨w5.heap.size, 0, none⟩)) (w5.alloc (.cells ndZ 66)) rfl rfl (by kernel_rfl) rfl (by go_simp) ?_
          have HA := heap_alloc_new w5 (.cells ndZ 66)
          have b := below_more (Below.refl w5.heap.size w5) (.cells ndZ 66)
          replace HC := blkS HC b
          replace HF := blkS HF b
          replace hrn := rangeAt_below hrn b
          replace B0 := Below.then2 B0 b
          replace I := stdM_sep _ _ _ _ _ _ 0 0 I (Mid.ofBelow b) (.inr (Nat.zero_le _)) (Nat.le_refl _)
          have hz6 := b.size
          clear b
          generalize w5.alloc _ = w6 at HA HC HF hrn B0 I hz6 ⊢
          refine ⟨⟨HC, HF, hrn⟩, ?_⟩
          simp only [Act.put, List.setIfInBounds_toArray, List.set_cons_zero, List.set_cons_succ]
          have m := mid_setRow w6 w5.heap.size (ndC qn p2)
          have HA2 : (w6.setRow w5.heap.size (ndC qn p2)).heap[w5.heap.size]? = some (.cells (ndC qn p2) 66 (0, 0)) := setRow_heap _ _ _ _ _ _ HA
          have hzA := m.size
          have hw5.heap.size : w3.heap.size ≤ w5.heap.size := by omega
          have hzW := B0.size
          have BB : Below w3.heap.size w3 (w6.setRow w5.heap.size (ndC qn p2)) := B0.trans (m.below hw5.heap.size B0.size)
          replace HC := (m.block _ (Array.getElem?_eq_some_iff.1 HC).1 (by omega)).trans HC
          replace HF := (m.block _ (Array.getElem?_eq_some_iff.1 HF).1 (by omega)).trans HF
          replace hrn : (w6.setRow w5.heap.size (ndC qn p2)).rangeAt g (o + k * 18) (ndC (nthN N k) p).toList := fun i x hx => (World.cell?_of_block (m.block g (World.block_lt_of_cell? _ _ (hrn 0 _ rfl)) (.inl (by omega)))).trans (hrn i x hx)
          refine h_put 11 w5.heap.size (n := qn) (p := p2) rfl rfl (by kernel_rfl) rfl rfl rfl rfl HA rfl ⟨HC, HF, hrn⟩ ?_
          refine h_value 12 10 (.int .i64 kq) rfl rfl (by kernel_rfl) rfl (by go_simp) ⟨HC, HF, hrn⟩ ?_
          refine wpAnyH_done (by kernel_rfl) ?_ _
          simp only [Act.put, List.setIfInBounds_toArray, List.set_cons_zero, List.set_cons_succ]
          have I2 := stdM_sep _ _ _ _ _ _ _ _ I m (.inl (Nat.le_refl _)) hz6
          go_wp2_with fail
          go_meet
          exact ⟨w5.heap.size, p2, V.heap.size, w5.heap.size, rfl, rfl, HA2, I2, hzV, hlo, by omega, BB⟩
        case qb =>
          refine value_wp (.pointer (some ⟨V.heap.size, 0, none⟩)) (V.alloc (.cells ndZ 66)) (by go_simp) ?_
          have HA := heap_alloc_new V (.cells ndZ 66)
          have b := below_more (Below.refl V.heap.size V) (.cells ndZ 66)
          have hzA0 : (V.alloc (.cells ndZ 66)).heap.size = V.heap.size + 1 := by simp
          replace HC := blkS HC b
          replace HF := blkS HF b
          replace hrn := rangeAt_below hrn b
          replace B0 := Below.then2 B0 b
          replace hnm := hnm.below b
          replace hn3 := hn3.below b
          clear b
          generalize V.alloc _ = V1 at HA HC HF hrn B0 hnm hn3 hzA0 ⊢
          refine ⟨⟨HC, HF, hrn⟩, ?_⟩
          simp only [Act.put, List.setIfInBounds_toArray, List.set_cons_zero, List.set_cons_succ]
          refine h_call 6 32 33 #[ndV (nthN N k) p, frV f.id f.rm f.ln af f.D.length cf] rfl rfl (by kernel_rfl) rfl (by go_simp) ?_
          refine (HI.out V1 hnm hn3).mono ?_
          rintro e w5 ⟨p2, rfl, hst, b, hbr2⟩
          have I : StdM V1.heap.size w5.heap.size qn p2 w5 := ⟨fun u hu => hst u ⟨hu.size, hu.block, hu.os, hu.tape, hu.output⟩, hbr2⟩
          have hlo := b.size
          replace HC := blkS HC b
          replace HF := blkS HF b
          replace hrn := rangeAt_below hrn b
          replace HA := blkS HA b
          replace B0 := Below.then2 B0 b
          clear b
          refine ⟨_, rfl, ⟨HC, HF, hrn⟩, ?_⟩
          simp only [Act.put, List.setIfInBounds_toArray, List.set_cons_zero, List.set_cons_succ]
          refine h_take 7 25 (.tuple #[ndV qn p2, .int .i64 kq]) rfl rfl (by kernel_rfl) (by kernel_rfl) (by kernel_rfl) (fun _ _ _ h => h) rfl (fun u hu => by go_simp) ⟨HC, HF, hrn⟩ ?_
          simp only [Act.put, List.setIfInBounds_toArray, List.set_cons_zero, List.set_cons_succ]
          refine h_take 8 33 (ndV qn p2) rfl rfl (by kernel_rfl) (by kernel_rfl) (by kernel_rfl) (fun _ _ _ h => h) rfl (fun u hu => by go_simp) ⟨HC, HF, hrn⟩ ?_
          refine h_take 9 34 (.int .i64 kq) rfl rfl (by kernel_rfl) (by kernel_rfl) (by kernel_rfl) (fun _ _ _ h => h) rfl (fun u hu => by go_simp) ⟨HC, HF, hrn⟩ ?_
          simp only [Act.put, List.setIfInBounds_toArray, List.set_cons_zero, List.set_cons_succ]
          have m := mid_setRow w5 V.heap.size (ndC qn p2)
          have HA2 : (w5.setRow V.heap.size (ndC qn p2)).heap[V.heap.size]? = some (.cells (ndC qn p2) 66 (0, 0)) := setRow_heap _ _ _ _ _ _ HA
          have hzA := m.size
          have hV.heap.size : w3.heap.size ≤ V.heap.size := by omega
          have hzW := B0.size
          have BB : Below w3.heap.size w3 (w5.setRow V.heap.size (ndC qn p2)) := B0.trans (m.below hV.heap.size B0.size)
          replace HC := (m.block _ (Array.getElem?_eq_some_iff.1 HC).1 (by omega)).trans HC
          replace HF := (m.block _ (Array.getElem?_eq_some_iff.1 HF).1 (by omega)).trans HF
          replace hrn : (w5.setRow V.heap.size (ndC qn p2)).rangeAt g (o + k * 18) (ndC (nthN N k) p).toList := fun i x hx => (World.cell?_of_block (m.block g (World.block_lt_of_cell? _ _ (hrn 0 _ rfl)) (.inl (by omega)))).trans (hrn i x hx)
          refine h_put 11 V.heap.size (n := qn) (p := p2) rfl rfl (by kernel_rfl) rfl rfl rfl rfl HA rfl ⟨HC, HF, hrn⟩ ?_
          refine h_value 12 10 (.int .i64 kq) rfl rfl (by kernel_rfl) rfl (by go_simp) ⟨HC, HF, hrn⟩ ?_
          refine wpAnyH_done (by kernel_rfl) ?_ _
          simp only [Act.put, List.setIfInBounds_toArray, List.set_cons_zero, List.set_cons_succ]
          have I2 := stdM_sep _ _ _ _ _ _ _ _ I m (.inr (by omega)) (Nat.le_refl _)
          go_wp2_with fail
          go_meet
          exact ⟨V.heap.size, p2, V1.heap.size, w5.heap.size, rfl, rfl, HA2, I2, by omega, hlo, hzA, BB⟩
      case rest =>
      obtain ⟨gA, p2, lo, hi, rfl, rfl, HA, I, hl1, hl2, hl3, b⟩ := hcut
      generalize wc = w4 at *
      have hz4 := b.size
      replace HO := blkS HO b
      replace HR := blkS HR b
      replace RM := RM.below stdM_sep b
      replace B := Below.then2 B b
      clear b HF hrn hnm hn3 HC c0
      have e0 := cell_of_row w4 _ 0 _ _ _ HO
      obtain ⟨G, cap, cur, hav, hGb, hcur, hcap, hmx, hcs, htk⟩ : ∃ G cap cur, (Value.slice av N.length cv) = .slice (some ⟨G, 0, none⟩) N.length cap ∧ w1.heap.size ≤ G ∧ w4.heap[G]? = some (.cells cur 66 (0, 0)) ∧ N.length ≤ cap ∧ cap ≤ maxLen ∧ cur.size = cap * 18 ∧ cur.toList.take (N.length * 18) = flatN N P2 N.length := by
        rcases RM.own.2 with ⟨e, h0⟩ | h
        · exact absurd h0 (by omega)
        · exact h
      cases hav
      have hGl : G < w2.heap.size := hgl G rfl
      have hcb : k * 18 + 18 ≤ cur.size := by rw [hcs]; omega
      go_wp2_with (first | (refine rng_take (rng_range HA) rfl rfl rfl ?_) | (refine stay_store rfl ?_))
      refine ⟨row_put (n := qn) (p := p2) hcur hcb rfl rfl (by omega) rfl rfl ?_⟩
      obtain ⟨cur', k1, k2, k3, k4, k5⟩ := setCells_row G 66 (ndC qn p2).toList (k * 18) cur w4 hcur hcb
      have I5 := stdM_sep _ _ _ _ _ _ _ _ I k5 (.inr (by omega)) hl3
      have MO : ∀ j, j < N.length → StdM (L2 j) (H2 j) (nthN N j) (P2 j) (w4.setCells G (k * 18) (ndC qn p2).toList) := fun j hj => stdM_sep _ _ _ _ _ _ _ _ (RM.mem j hj) k5 (by have := RM.apart j hj G rfl; omega) (RM.out j hj).2.2
      have hz5 : (w4.setCells G (k * 18) (ndC qn p2).toList).heap.size = w4.heap.size := size_cells _ _ _ _
      have OUT : ∀ j, j < N.length → w1.heap.size ≤ L2 j ∧ L2 j ≤ H2 j ∧ H2 j ≤ w4.heap.size := fun j hj => RM.out j hj
      replace HO := (k5.block _ (Array.getElem?_eq_some_iff.1 HO).1 (by omega)).trans HO
      replace HR := (k5.block _ (Array.getElem?_eq_some_iff.1 HR).1 (by omega)).trans HR
      replace B := B.trans (k5.below (B := w.heap.size) (by omega) B.size)
      have CEL : ∀ j, j < N.length → ∀ i x, (ndC (nthN (N.set k qn) j) (if j = k then p2 else P2 j)).toList[i]? = some x → cur'[j * 18 + i]? = some x := by
        intro j hj i x hx
        have hi : i < 18 := (List.getElem?_eq_some_iff.1 hx).1
        rw [set_nth hk] at hx
        by_cases e : j = k
        · subst e
          rw [if_pos rfl, if_pos rfl] at hx
          exact k3 i x hx
        · rw [if_neg e, if_neg e] at hx
          rw [k4 _ (by rw [show (ndC qn p2).toList.length = 18 from rfl]; omega)]
          have h2 := flatN_at N P2 N.length j i x hj hx
          rw [← htk, List.getElem?_take_of_lt (by omega)] at h2
          rw [← Array.getElem?_toList]
          exact h2
      clear k2 k3 k4 k5 RM hcur htk I HA hcb e0
      generalize w4.setCells _ _ _ = w5 at HO HR B hz5 k1 I5 MO ⊢
      have e0 := cell_of_row w5 _ 0 _ _ _ HO
      have e1 := cell_of_row w5 _ 1 _ _ _ HO
      have d0 := cell_of_row w5 _ 0 _ _ _ HR
      have d1 := cell_of_row w5 _ 1 _ _ _ HR
      have f0 := frozen_of_row w5 (w.heap.size + 2) 0 _ _ HR
      have f1 := frozen_of_row w5 (w.heap.size + 2) 1 _ _ HR
      go_wp2_with fail
      have m : Mid (w.heap.size + 2) (w.heap.size + 3) w5 ((w5.setCell ⟨w.heap.size + 2, 0, none⟩ (.slice (some ⟨G, 0, none⟩) N.length cv)).setCell ⟨w.heap.size + 2, 1, none⟩ (.int .i64 now)) := (mid_cell _ _ _ _).trans (mid_cell _ _ _ _)
      have hr3 := heap_setCell_same _ _ 1 _ _ (.int .i64 now) (heap_setCell_same w5 _ 0 _ _ (.slice (some ⟨G, 0, none⟩) N.length cv) HR)
      have B6 := B.trans (m.below (B := w.heap.size) (by omega) B.size)
      have I6 := stdM_sep _ _ _ _ _ _ _ _ I5 m (.inr (by omega)) (by omega)
      have M6 : ∀ j, j < N.length → StdM (L2 j) (H2 j) (nthN N j) (P2 j) ((w5.setCell ⟨w.heap.size + 2, 0, none⟩ (.slice (some ⟨G, 0, none⟩) N.length cv)).setCell ⟨w.heap.size + 2, 1, none⟩ (.int .i64 now)) := fun j hj => stdM_sep _ _ _ _ _ _ _ _ (MO j hj) m (.inr (by have := OUT j hj; omega)) (by have := OUT j hj; omega)
      have k6 := (m.block _ (Array.getElem?_eq_some_iff.1 k1).1 (by omega)).trans k1
      have hz6 := m.size
      generalize (w5.setCell _ _).setCell _ _ = w6 at hr3 B6 I6 M6 k6 hz6 ⊢
      refine bodyPost_ret (v := .tuple #[buV (some ⟨G, 0, none⟩) N.length cv now, .int .i64 kq]) ?_ rfl ?_
      · exact results_bus Tryz.results27 _ _ (w.heap.size + 2) _ _ rfl rfl hr3 rfl
      · try rw [hN, hT, hK]
        refine ⟨some ⟨G, 0, none⟩, cv, by rw [List.length_set], fun u hu => ⟨by rw [List.length_set]; exact hm, fun j hj => ?_⟩, B6⟩
        rw [List.length_set] at hj
        have hGu : u.heap[G]? = some (.cells cur' 66 (0, 0)) := (hu.block G (by omega) (Array.getElem?_eq_some_iff.1 k6).1).trans k6
        refine ⟨G, 0, if j = k then p2 else P2 j, rfl, fun i x hx => ?_, ?_, ?_⟩
        · rw [cell_of_row u G _ _ _ _ hGu, Nat.zero_add]
          exact CEL j hj i x hx
        · rw [set_nth hk]
          by_cases e : j = k
          · rw [if_pos e, if_pos e]; exact I6.up (by omega) (by omega) hu
          · rw [if_neg e, if_neg e]; exact (M6 j hj).up (by have := OUT j hj; omega) (by have := OUT j hj; omega) hu
        · by_cases e : j = k
          · rw [if_pos e]; exact I6.2
          · rw [if_neg e]; exact (M6 j hj).2
end Go.Proofs.YtjlegnnekjcpmaaGreat

