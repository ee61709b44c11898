/- spec.l14Copy. -/
import Derived.Test.YtnhmecabppaboaaGreatM19
import Derived.Test.YtnhmecabppaboaaGreatM21
import Derived.Test.YtnhmecabppaboaaGreatM17

set_option linter.unusedVariables false
set_option linter.unusedSimpArgs false
set_option maxRecDepth 20000
namespace Go.Proofs.YtnhmecabppaboaaGreat
open Go.RowKit

/-- The model's answer: a server of the call's own; frames may share data. -/
def SrM (s : Srv) (w : World) (e : Ending) (w' : World) : Prop :=
  ∃ G cap c L H, e = .returned (svV (some ⟨G, 0, none⟩) s.bx.length c s.busy s.node s.rank s.now) ∧ BoxO False G cap (fun j => j < s.bx.length) s.bx L H w' ∧ FromB w.heap.size G s.bx.length L ∧ s.bx.length ≤ cap ∧ Below w.heap.size w w'
set_option maxHeartbeats 8000000 in
/-- spec.l14Copy of right boxes. -/
theorem specCopySrv (R : Option Addr → Nat → Nat → Prop) (a : Option Addr) (X : List (List Frm)) (c : Nat) (busy node rank now : Int) (w : World) (hd : Bxs R a X w) (hb : boxesB X = true) :
    Calls Tryz.prog 36 #[svV a X.length c busy node rank now] w (SrM ⟨X, busy, node, rank, now⟩ w) := by
  have h26 := boxesB_iff.1 hb
  obtain ⟨h2, h6, -⟩ := h26
  have hm := hd.1
  have hsm : Hid (∀ j, j < X.length → (nthB X j).length ≤ 16 ∧ ∀ i, i < (nthB X j).length → (nthF (nthB X j) i).D.length ≤ 8) := Lib.hid fun j hj => box_small hb hj
  replace hb := Lib.hid hb
  obtain ⟨HC, HR, HO, B⟩ := three_made w (svC a X.length c busy node rank now) (svC none 0 0 0 0 0 0) (svC a X.length c busy node rank now) 26 26 26
  go_enter Tryz.func36, Tryz.ntmps36
  go_upto_region 2 with fail
  have hs3 : (((w.alloc (.cells (svC a X.length c busy node rank now) 26)).alloc (.cells (svC none 0 0 0 0 0 0) 26)).alloc (.cells (svC a X.length c busy node rank now) 26)).heap.size = w.heap.size + 3 := by simp
  generalize ((w.alloc (.cells (svC a X.length c busy node rank now) 26)).alloc (.cells (svC none 0 0 0 0 0 0) 26)).alloc (.cells (svC a X.length c busy node rank now) 26) = W at HC HR HO B hs3 ⊢
  have d0 := cell_of_row _ _ 0 _ _ _ HO
  have k0 := frozen_of_row _ _ 0 _ _ HO
  go_upto_region 3 with fail
  clear d0 k0
  have m0 := mid_cell W (w.heap.size + 2) 0 (.slice (some ⟨w.heap.size + 3, 0, none⟩) 0 0)
  have HO1 := heap_setCell_same W (w.heap.size + 2) 0 _ _ (.slice (some ⟨w.heap.size + 3, 0, none⟩) 0 0) HO
  replace HC := (m0.block _ (Array.getElem?_eq_some_iff.1 HC).1 (.inl (by omega))).trans HC
  replace HR := (m0.block _ (Array.getElem?_eq_some_iff.1 HR).1 (.inl (by omega))).trans HR
  replace B := B.trans (m0.below (B := w.heap.size) (by omega) B.size)
  have hs1 : (W.setCell ⟨w.heap.size + 2, 0, none⟩ (.slice (some ⟨w.heap.size + 3, 0, none⟩) 0 0)).heap.size = w.heap.size + 3 := by simpa using hs3
  clear m0 HO hs3
  generalize W.setCell _ _ = W1 at HC HR HO1 B hs1 ⊢
  have RX1 := row_made W1 (B := w.heap.size + 3) (by omega) X (fun _ => .slice none 0 0) (fun _ => 0) (fun _ => 0)
  have ba := below_more (Below.refl W1.heap.size W1) (.cells #[] 64)
  have hsa : (W1.alloc (.cells #[] 64)).heap.size = w.heap.size + 4 := by simp; omega
  replace HC := blkX HC ba
  replace HR := blkX HR ba
  replace HO1 := blkX HO1 ba
  replace B := Below.then2 B ba
  rw [hs1] at RX1
  clear ba hs1
  generalize W1.alloc _ = W2 at HC HR HO1 B RX1 hsa ⊢
  go_wp2_with fail
  go_loopw [4] (fun i wr => ∃ (k : Nat) (P : Nat → Value) (L H : Nat → Nat) (v : Value), k ≤ X.length ∧ i = .int .i64 k ∧ wr.heap[w.heap.size]? = some (.cells (svC a X.length c busy node rank now) 26 (0, 0)) ∧ wr.heap[w.heap.size + 1]? = some (.cells (svC none 0 0 0 0 0 0) 26 (0, 0)) ∧ wr.heap[w.heap.size + 2]? = some (.cells #[v, .int .i64 busy, .int .i64 node, .int .i64 rank, .int .i64 now] 26 (0, 0)) ∧ RowX (OwnX False) (w.heap.size + 3) k X P L H v wr ∧ w.heap.size + 3 ≤ wr.heap.size ∧ Below w.heap.size w wr) (fun i _ => X.length - (intOf i).toNat)
  case atStart => exact ⟨0, _, _, _, _, Nat.zero_le _, rfl, HC, HR, HO1, RX1, by omega, B⟩
  case round =>
    clear HC HR HO1 RX1 B hsa
    obtain ⟨k, P, L, H, v, hk, rfl, HC, HR, HO, RX, hs3, B⟩ := hrel
    have c0 := cell_of_row wr _ 0 _ _ _ HC
    by_cases hlt : k < X.length
    · go_upto_region 6 with fail
      obtain ⟨g, o, al, cl, rfl, hc0, hnm0, -⟩ := hd.2 k hlt
      have hgw : g < w.heap.size := World.block_lt_of_cell? w _ hc0
      have hc := (B.cell (p := ⟨g, o + k, none⟩) hgw).trans hc0
      have hnm := hnm0.below B
      clear hc0 hnm0
      obtain ⟨hs16, hs8⟩ := hsm.out k hlt
      replace hs8 := Lib.hid hs8
      have hnn : ∃ M, M = nthB X k := ⟨_, rfl⟩
      obtain ⟨M, hnn⟩ := hnn
      rw [← hnn] at hc hnm hs16 hs8
      replace hnn := Lib.hid hnn
      have hwk : IntKind.i64.wrap (k : Int) = (k : Int) := IntWalk.i64_in _ (by omega)
      refine wp_region_held (S := fun u => u.heap[w.heap.size]? = some (.cells (svC (some ⟨g, o, none⟩) X.length c busy node rank now) 26 (0, 0)) ∧ u.cell? ⟨g, o + k, none⟩ = some (.slice al M.length cl)) (by kernel_rfl) ?_
      have B0 : Below wr.heap.size wr { wr with drawn := wr.drawn + 1 } := (Below.refl _ _).drew
      replace HC := blkX HC B0
      replace HR := blkX HR B0
      replace HO := blkX HO B0
      replace hc := (B0.cell (World.block_lt_of_cell? _ _ hc)).trans hc
      replace RX := RX.below (ownX_sep False) B0
      replace hnm := hnm.below B0
      replace B := Below.then2 B B0
      replace hs3 := Nat.le_trans hs3 B0.size
      generalize ({ wr with drawn := wr.drawn + 1 } : World) = V at HC HR HO hc RX hnm B hs3 ⊢
      clear B0 c0
      obtain ⟨av, cv, rfl⟩ := RX.is
      have hlo : ∀ j, j < k → H j ≤ V.heap.size := fun j hj => (RX.out j hj).2.2
      have hgl : ∀ q, (Value.slice av k cv).ownBlock = some q → q < V.heap.size := RX.lt
      have hge : ∀ q, (Value.slice av k cv).ownBlock = some q → w.heap.size + 3 ≤ q := fun q hq => by
        rcases RX.own.2 with ⟨e, _⟩ | ⟨g', cap, cur, e, hb, _⟩
        · rw [e] at hq; cases hq
        · rw [e] at hq; cases hq; exact hb
      refine h_take 0 15 (.pointer (some ⟨w.heap.size + 2, 0, none⟩)) rfl rfl (by kernel_rfl) (by kernel_rfl) (by kernel_rfl) (fun _ _ _ h => h) rfl (fun u hu => by go_simp) ⟨HC, hc⟩ ?_
      refine h_take 2 17 (.pointer (some ⟨w.heap.size, 0, none⟩)) rfl rfl (by kernel_rfl) (by kernel_rfl) (by kernel_rfl) (fun _ _ _ h => h) rfl (fun u hu => by go_simp) ⟨HC, hc⟩ ?_
      refine h_take 3 18 (.slice (some ⟨g, o, none⟩) X.length c) rfl rfl (by kernel_rfl) (by kernel_rfl) (by kernel_rfl) (fun _ _ _ h => h) rfl (fun u hu => by have c0 := cell_of_row u _ 0 _ _ _ hu.1; go_simp) ⟨HC, hc⟩ ?_
      refine h_take 4 19 (.int .i64 (k : Int)) rfl rfl (by kernel_rfl) (by kernel_rfl) (by kernel_rfl) (fun _ _ _ h => h) rfl (fun u hu => by go_simp) ⟨HC, hc⟩ ?_
      refine h_take 5 20 (.pointer (some ⟨g, o + k, none⟩)) rfl rfl (by kernel_rfl) (by kernel_rfl) (by kernel_rfl) (fun _ _ _ h => h) rfl (fun u hu => by go_simp) ⟨HC, hc⟩ ?_
      refine h_take 6 21 (.slice al M.length cl) rfl rfl (by kernel_rfl) (by kernel_rfl) (by kernel_rfl) (fun _ _ _ h => h) rfl (fun u hu => by have c0 := hu.2; go_simp) ⟨HC, hc⟩ ?_
      simp only [Act.put, List.setIfInBounds_toArray, List.set_cons_zero, List.set_cons_succ]
      refine held_fork 1 7 (by kernel_rfl) (op_at rfl) (op_at rfl) rfl rfl ?pa ?pb
      case pa =>
        refine value_wp (.slice av k cv) V (by have c0 := cell_of_row _ _ 0 _ _ _ HO; go_simp) ?_
        refine ⟨⟨HC, hc⟩, ?_⟩
        simp only [Act.put, List.setIfInBounds_toArray, List.set_cons_zero, List.set_cons_succ]
        refine h_call 7 22 70 #[.slice al M.length cl] rfl rfl (by kernel_rfl) rfl (by go_simp) ?_
        refine (copyAllB al M cl _ hnm (by omega) (fun i hi => by have := hs8.out i hi; omega)).mono ?_
        intro e w2 G3
        obtain ⟨a3, c3, rfl, hM, b⟩ := OwnX.goto G3
        have hVle := b.size
        replace HC := blkX HC b
        replace HR := blkX HR b
        replace HO := blkX HO b
        replace hc := (b.cell (World.block_lt_of_cell? _ _ hc)).trans hc
        replace RX := RX.below (ownX_sep False) b
        replace B := Below.then2 B b
        clear b hnm G3
        refine ⟨_, rfl, ⟨HC, hc⟩, ?_⟩
        simp only [Act.put, List.setIfInBounds_toArray, List.set_cons_zero, List.set_cons_succ]
        refine h_new 8 23 (.slice (some ⟨w2.heap.size, 0, none⟩) 1 1) (w2.alloc (.cells #[.slice a3 M.length c3] 64)) rfl rfl (by kernel_rfl) rfl (by go_simp) ?_
        have HT := heap_alloc_new w2 (.cells #[.slice a3 M.length c3] 64)
        have b := below_more (Below.refl w2.heap.size w2) (.cells #[.slice a3 M.length c3] 64)
        have hM2 := (ownX_sep False) _ _ _ _ _ _ 0 0 hM (Mid.ofBelow b) (.inr (Nat.zero_le _)) (Nat.le_refl _)
        have hle2 := b.size
        replace HC := blkX HC b
        replace HR := blkX HR b
        replace HO := blkX HO b
        replace hc := (b.cell (World.block_lt_of_cell? _ _ hc)).trans hc
        replace RX := RX.below (ownX_sep False) b
        replace B := Below.then2 B b
        clear b hM
        generalize w2.alloc _ = w3 at HT HC HR HO hc RX B hM2 hle2 ⊢
        refine ⟨⟨HC, hc⟩, ?_⟩
        simp only [Act.put, List.setIfInBounds_toArray, List.set_cons_zero, List.set_cons_succ]
        replace hM2 : OwnX False V.heap.size w2.heap.size (nthB X k) (.slice a3 M.length c3) w3 := by rw [← hnn.out]; exact hM2
        refine held_appX (ownX_sep False) 9 24 (.slice av k cv) (.slice a3 M.length c3) V.heap.size w2.heap.size w2.heap.size 1 rfl rfl (by kernel_rfl) rfl rfl rfl RX (by omega) rfl rfl HT hM2 hs3 hVle hle2 hlo hgl (by omega) ?_
        intro v4 w4 RX4 gr
        have hne : ∀ q, q < w.heap.size + 3 → some q ≠ (Value.slice av k cv).ownBlock := fun q hq e => by have := hge q e.symm; omega
        replace HC := (gr.block _ (Array.getElem?_eq_some_iff.1 HC).1 (hne _ (by omega))).trans HC
        replace HR := (gr.block _ (Array.getElem?_eq_some_iff.1 HR).1 (hne _ (by omega))).trans HR
        replace HO := (gr.block _ (Array.getElem?_eq_some_iff.1 HO).1 (hne _ (by omega))).trans HO
        have hgW : g < w3.heap.size := World.block_lt_of_cell? w3 _ hc
        replace hc : w4.cell? ⟨g, o + k, none⟩ = some (.slice al M.length cl) := (World.cell?_of_block (gr.block g hgW (hne g (by omega)))).trans hc
        replace B := B.grown gr B.size (fun q hq => by have := hge q hq; omega)
        have hs4 : w.heap.size + 3 ≤ w4.heap.size := Nat.le_trans (by omega) gr.size
        clear gr hne hge HT hM2 hlo hgl RX hgW
        refine ⟨⟨HC, hc⟩, ?_⟩
        simp only [Act.put, List.setIfInBounds_toArray, List.set_cons_zero, List.set_cons_succ]
        refine h_value 10 25 (.pointer (some ⟨w.heap.size + 2, 0, none⟩)) rfl rfl (by kernel_rfl) rfl (by go_simp) ⟨HC, hc⟩ ?_
        simp only [Act.put, List.setIfInBounds_toArray, List.set_cons_zero, List.set_cons_succ]
        have f0 := frozen_of_row w4 (w.heap.size + 2) 0 _ _ HO
        have c0 := cell_of_row w4 (w.heap.size + 2) 0 _ _ _ HO
        obtain ⟨av4, cv4, rfl⟩ := RX4.is
        refine h_store 11 (w4.setCell ⟨w.heap.size + 2, 0, none⟩ (.slice av4 (k + 1) cv4)) rfl rfl (by kernel_rfl) rfl (by go_simp) ?_
        have m := mid_cell w4 (w.heap.size + 2) 0 (.slice av4 (k + 1) cv4)
        have HO5 := heap_setCell_same w4 (w.heap.size + 2) 0 _ _ (.slice av4 (k + 1) cv4) HO
        replace HC := (m.block _ (Array.getElem?_eq_some_iff.1 HC).1 (.inl (by omega))).trans HC
        replace HR := (m.block _ (Array.getElem?_eq_some_iff.1 HR).1 (.inl (by omega))).trans HR
        have hgW : g < w4.heap.size := World.block_lt_of_cell? w4 _ hc
        replace hc : (w4.setCell ⟨w.heap.size + 2, 0, none⟩ (.slice av4 (k + 1) cv4)).cell? ⟨g, o + k, none⟩ = some (.slice al M.length cl) := (World.cell?_of_block (m.block g hgW (.inl (by omega)))).trans hc
        have hge4 : ∀ q, (Value.slice av4 (k + 1) cv4).ownBlock = some q → w.heap.size + 3 ≤ q := fun q hq => by
          rcases RX4.own.2 with ⟨e, _⟩ | ⟨g', cap, cur, e, hb, _⟩
          · rw [e] at hq; cases hq
          · rw [e] at hq; cases hq; exact hb
        have RX5 := RX4.sep (ownX_sep False) m (fun q hq => .inr (hge4 q hq)) (fun j hj => .inr (by have := RX4.out j hj; omega))
        have B5 := B.trans (m.below (B := w.heap.size) (by omega) B.size)
        have hs5 := Nat.le_trans hs4 m.size
        generalize w4.setCell _ _ = w5 at HC HR HO5 hc RX5 B5 hs5 ⊢
        clear m HO hgW hge4 RX4 B hs4 c0 f0
        refine ⟨⟨HC, hc⟩, ?_⟩
        refine wpAnyH_done (by kernel_rfl) ?_ _
        go_wp2_with fail
        go_roundw
        case rel => exact ⟨k + 1, _, _, _, _, hlt, by go_num, HC, HR, HO5, RX5, hs5, B5⟩
        case measure => simp [intOf]; omega
      case pb =>
        refine call_wp 70 #[.slice al M.length cl] (by go_simp) ?_
        refine (copyAllB al M cl _ hnm (by omega) (fun i hi => by have := hs8.out i hi; omega)).mono ?_
        intro e w2 G3
        obtain ⟨a3, c3, rfl, hM, b⟩ := OwnX.goto G3
        have hVle := b.size
        replace HC := blkX HC b
        replace HR := blkX HR b
        replace HO := blkX HO b
        replace hc := (b.cell (World.block_lt_of_cell? _ _ hc)).trans hc
        replace RX := RX.below (ownX_sep False) b
        replace B := Below.then2 B b
        clear b hnm G3
        refine ⟨_, rfl, ⟨HC, hc⟩, ?_⟩
        simp only [Act.put, List.setIfInBounds_toArray, List.set_cons_zero, List.set_cons_succ]
        refine held_fork 1 8 (by kernel_rfl) (op_at rfl) (op_at rfl) rfl rfl ?pc ?pd
        case pc =>
          refine value_wp (.slice av k cv) w2 (by have c0 := cell_of_row _ _ 0 _ _ _ HO; go_simp) ?_
          refine ⟨⟨HC, hc⟩, ?_⟩
          simp only [Act.put, List.setIfInBounds_toArray, List.set_cons_zero, List.set_cons_succ]
          refine h_new 8 23 (.slice (some ⟨w2.heap.size, 0, none⟩) 1 1) (w2.alloc (.cells #[.slice a3 M.length c3] 64)) rfl rfl (by kernel_rfl) rfl (by go_simp) ?_
          have HT := heap_alloc_new w2 (.cells #[.slice a3 M.length c3] 64)
          have b := below_more (Below.refl w2.heap.size w2) (.cells #[.slice a3 M.length c3] 64)
          have hM2 := (ownX_sep False) _ _ _ _ _ _ 0 0 hM (Mid.ofBelow b) (.inr (Nat.zero_le _)) (Nat.le_refl _)
          have hle2 := b.size
          replace HC := blkX HC b
          replace HR := blkX HR b
          replace HO := blkX HO b
          replace hc := (b.cell (World.block_lt_of_cell? _ _ hc)).trans hc
          replace RX := RX.below (ownX_sep False) b
          replace B := Below.then2 B b
          clear b hM
          generalize w2.alloc _ = w3 at HT HC HR HO hc RX B hM2 hle2 ⊢
          refine ⟨⟨HC, hc⟩, ?_⟩
          simp only [Act.put, List.setIfInBounds_toArray, List.set_cons_zero, List.set_cons_succ]
          replace hM2 : OwnX False V.heap.size w2.heap.size (nthB X k) (.slice a3 M.length c3) w3 := by rw [← hnn.out]; exact hM2
          refine held_appX (ownX_sep False) 9 24 (.slice av k cv) (.slice a3 M.length c3) V.heap.size w2.heap.size w2.heap.size 1 rfl rfl (by kernel_rfl) rfl rfl rfl RX (by omega) rfl rfl HT hM2 hs3 hVle hle2 hlo hgl (by omega) ?_
          intro v4 w4 RX4 gr
          have hne : ∀ q, q < w.heap.size + 3 → some q ≠ (Value.slice av k cv).ownBlock := fun q hq e => by have := hge q e.symm; omega
          replace HC := (gr.block _ (Array.getElem?_eq_some_iff.1 HC).1 (hne _ (by omega))).trans HC
          replace HR := (gr.block _ (Array.getElem?_eq_some_iff.1 HR).1 (hne _ (by omega))).trans HR
          replace HO := (gr.block _ (Array.getElem?_eq_some_iff.1 HO).1 (hne _ (by omega))).trans HO
          have hgW : g < w3.heap.size := World.block_lt_of_cell? w3 _ hc
          replace hc : w4.cell? ⟨g, o + k, none⟩ = some (.slice al M.length cl) := (World.cell?_of_block (gr.block g hgW (hne g (by omega)))).trans hc
          replace B := B.grown gr B.size (fun q hq => by have := hge q hq; omega)
          have hs4 : w.heap.size + 3 ≤ w4.heap.size := Nat.le_trans (by omega) gr.size
          clear gr hne hge HT hM2 hlo hgl RX hgW
          refine ⟨⟨HC, hc⟩, ?_⟩
          simp only [Act.put, List.setIfInBounds_toArray, List.set_cons_zero, List.set_cons_succ]
          refine h_value 10 25 (.pointer (some ⟨w.heap.size + 2, 0, none⟩)) rfl rfl (by kernel_rfl) rfl (by go_simp) ⟨HC, hc⟩ ?_
          simp only [Act.put, List.setIfInBounds_toArray, List.set_cons_zero, List.set_cons_succ]
          have f0 := frozen_of_row w4 (w.heap.size + 2) 0 _ _ HO
          have c0 := cell_of_row w4 (w.heap.size + 2) 0 _ _ _ HO
          obtain ⟨av4, cv4, rfl⟩ := RX4.is
          refine h_store 11 (w4.setCell ⟨w.heap.size + 2, 0, none⟩ (.slice av4 (k + 1) cv4)) rfl rfl (by kernel_rfl) rfl (by go_simp) ?_
          have m := mid_cell w4 (w.heap.size + 2) 0 (.slice av4 (k + 1) cv4)
          have HO5 := heap_setCell_same w4 (w.heap.size + 2) 0 _ _ (.slice av4 (k + 1) cv4) HO
          replace HC := (m.block _ (Array.getElem?_eq_some_iff.1 HC).1 (.inl (by omega))).trans HC
          replace HR := (m.block _ (Array.getElem?_eq_some_iff.1 HR).1 (.inl (by omega))).trans HR
          have hgW : g < w4.heap.size := World.block_lt_of_cell? w4 _ hc
          replace hc : (w4.setCell ⟨w.heap.size + 2, 0, none⟩ (.slice av4 (k + 1) cv4)).cell? ⟨g, o + k, none⟩ = some (.slice al M.length cl) := (World.cell?_of_block (m.block g hgW (.inl (by omega)))).trans hc
          have hge4 : ∀ q, (Value.slice av4 (k + 1) cv4).ownBlock = some q → w.heap.size + 3 ≤ q := fun q hq => by
            rcases RX4.own.2 with ⟨e, _⟩ | ⟨g', cap, cur, e, hb, _⟩
            · rw [e] at hq; cases hq
            · rw [e] at hq; cases hq; exact hb
          have RX5 := RX4.sep (ownX_sep False) m (fun q hq => .inr (hge4 q hq)) (fun j hj => .inr (by have := RX4.out j hj; omega))
          have B5 := B.trans (m.below (B := w.heap.size) (by omega) B.size)
          have hs5 := Nat.le_trans hs4 m.size
          generalize w4.setCell _ _ = w5 at HC HR HO5 hc RX5 B5 hs5 ⊢
          clear m HO hgW hge4 RX4 B hs4 c0 f0
          refine ⟨⟨HC, hc⟩, ?_⟩
          refine wpAnyH_done (by kernel_rfl) ?_ _
          go_wp2_with fail
          go_roundw
          case rel => exact ⟨k + 1, _, _, _, _, hlt, by go_num, HC, HR, HO5, RX5, hs5, B5⟩
          case measure => simp [intOf]; omega
        case pd =>
          refine value_wp (.slice (some ⟨w2.heap.size, 0, none⟩) 1 1) (w2.alloc (.cells #[.slice a3 M.length c3] 64)) (by go_simp) ?_
          have HT := heap_alloc_new w2 (.cells #[.slice a3 M.length c3] 64)
          have b := below_more (Below.refl w2.heap.size w2) (.cells #[.slice a3 M.length c3] 64)
          have hM2 := (ownX_sep False) _ _ _ _ _ _ 0 0 hM (Mid.ofBelow b) (.inr (Nat.zero_le _)) (Nat.le_refl _)
          have hle2 := b.size
          replace HC := blkX HC b
          replace HR := blkX HR b
          replace HO := blkX HO b
          replace hc := (b.cell (World.block_lt_of_cell? _ _ hc)).trans hc
          replace RX := RX.below (ownX_sep False) b
          replace B := Below.then2 B b
          clear b hM
          generalize w2.alloc _ = w3 at HT HC HR HO hc RX B hM2 hle2 ⊢
          refine ⟨⟨HC, hc⟩, ?_⟩
          simp only [Act.put, List.setIfInBounds_toArray, List.set_cons_zero, List.set_cons_succ]
          refine h_value 1 16 (.slice av k cv) rfl rfl (by kernel_rfl) rfl (by have c0 := cell_of_row _ _ 0 _ _ _ HO; go_simp) ⟨HC, hc⟩ ?_
          simp only [Act.put, List.setIfInBounds_toArray, List.set_cons_zero, List.set_cons_succ]
          replace hM2 : OwnX False V.heap.size w2.heap.size (nthB X k) (.slice a3 M.length c3) w3 := by rw [← hnn.out]; exact hM2
          refine held_appX (ownX_sep False) 9 24 (.slice av k cv) (.slice a3 M.length c3) V.heap.size w2.heap.size w2.heap.size 1 rfl rfl (by kernel_rfl) rfl rfl rfl RX (by omega) rfl rfl HT hM2 hs3 hVle hle2 hlo hgl (by omega) ?_
          intro v4 w4 RX4 gr
          have hne : ∀ q, q < w.heap.size + 3 → some q ≠ (Value.slice av k cv).ownBlock := fun q hq e => by have := hge q e.symm; omega
          replace HC := (gr.block _ (Array.getElem?_eq_some_iff.1 HC).1 (hne _ (by omega))).trans HC
          replace HR := (gr.block _ (Array.getElem?_eq_some_iff.1 HR).1 (hne _ (by omega))).trans HR
          replace HO := (gr.block _ (Array.getElem?_eq_some_iff.1 HO).1 (hne _ (by omega))).trans HO
          have hgW : g < w3.heap.size := World.block_lt_of_cell? w3 _ hc
          replace hc : w4.cell? ⟨g, o + k, none⟩ = some (.slice al M.length cl) := (World.cell?_of_block (gr.block g hgW (hne g (by omega)))).trans hc
          replace B := B.grown gr B.size (fun q hq => by have := hge q hq; omega)
          have hs4 : w.heap.size + 3 ≤ w4.heap.size := Nat.le_trans (by omega) gr.size
          clear gr hne hge HT hM2 hlo hgl RX hgW
          refine ⟨⟨HC, hc⟩, ?_⟩
          simp only [Act.put, List.setIfInBounds_toArray, List.set_cons_zero, List.set_cons_succ]
          refine h_value 10 25 (.pointer (some ⟨w.heap.size + 2, 0, none⟩)) rfl rfl (by kernel_rfl) rfl (by go_simp) ⟨HC, hc⟩ ?_
          simp only [Act.put, List.setIfInBounds_toArray, List.set_cons_zero, List.set_cons_succ]
          have f0 := frozen_of_row w4 (w.heap.size + 2) 0 _ _ HO
          have c0 := cell_of_row w4 (w.heap.size + 2) 0 _ _ _ HO
          obtain ⟨av4, cv4, rfl⟩ := RX4.is
          refine h_store 11 (w4.setCell ⟨w.heap.size + 2, 0, none⟩ (.slice av4 (k + 1) cv4)) rfl rfl (by kernel_rfl) rfl (by go_simp) ?_
          have m := mid_cell w4 (w.heap.size + 2) 0 (.slice av4 (k + 1) cv4)
          have HO5 := heap_setCell_same w4 (w.heap.size + 2) 0 _ _ (.slice av4 (k + 1) cv4) HO
          replace HC := (m.block _ (Array.getElem?_eq_some_iff.1 HC).1 (.inl (by omega))).trans HC
          replace HR := (m.block _ (Array.getElem?_eq_some_iff.1 HR).1 (.inl (by omega))).trans HR
          have hgW : g < w4.heap.size := World.block_lt_of_cell? w4 _ hc
          replace hc : (w4.setCell ⟨w.heap.size + 2, 0, none⟩ (.slice av4 (k + 1) cv4)).cell? ⟨g, o + k, none⟩ = some (.slice al M.length cl) := (World.cell?_of_block (m.block g hgW (.inl (by omega)))).trans hc
          have hge4 : ∀ q, (Value.slice av4 (k + 1) cv4).ownBlock = some q → w.heap.size + 3 ≤ q := fun q hq => by
            rcases RX4.own.2 with ⟨e, _⟩ | ⟨g', cap, cur, e, hb, _⟩
            · rw [e] at hq; cases hq
            · rw [e] at hq; cases hq; exact hb
          have RX5 := RX4.sep (ownX_sep False) m (fun q hq => .inr (hge4 q hq)) (fun j hj => .inr (by have := RX4.out j hj; omega))
          have B5 := B.trans (m.below (B := w.heap.size) (by omega) B.size)
          have hs5 := Nat.le_trans hs4 m.size
          generalize w4.setCell _ _ = w5 at HC HR HO5 hc RX5 B5 hs5 ⊢
          clear m HO hgW hge4 RX4 B hs4 c0 f0
          refine ⟨⟨HC, hc⟩, ?_⟩
          refine wpAnyH_done (by kernel_rfl) ?_ _
          go_wp2_with fail
          go_roundw
          case rel => exact ⟨k + 1, _, _, _, _, hlt, by go_num, HC, HR, HO5, RX5, hs5, B5⟩
          case measure => simp [intOf]; omega
    · obtain rfl : k = X.length := by omega
      obtain ⟨G, cap, cv, rfl, O, hF, hcap⟩ := RX.boxO (by omega)
      have d0 := cell_of_row wr (w.heap.size + 2) 0 _ _ _ HO
      have d1 := cell_of_row wr (w.heap.size + 2) 1 _ _ _ HO
      have d2 := cell_of_row wr (w.heap.size + 2) 2 _ _ _ HO
      have d3 := cell_of_row wr (w.heap.size + 2) 3 _ _ _ HO
      have d4 := cell_of_row wr (w.heap.size + 2) 4 _ _ _ HO
      have e0 := cell_of_row wr (w.heap.size + 1) 0 _ _ _ HR
      have e1 := cell_of_row wr (w.heap.size + 1) 1 _ _ _ HR
      have e2 := cell_of_row wr (w.heap.size + 1) 2 _ _ _ HR
      have e3 := cell_of_row wr (w.heap.size + 1) 3 _ _ _ HR
      have e4 := cell_of_row wr (w.heap.size + 1) 4 _ _ _ HR
      have k0 := frozen_of_row wr (w.heap.size + 1) 0 _ _ HR
      have k1 := frozen_of_row wr (w.heap.size + 1) 1 _ _ HR
      have k2 := frozen_of_row wr (w.heap.size + 1) 2 _ _ HR
      have k3 := frozen_of_row wr (w.heap.size + 1) 3 _ _ HR
      have k4 := frozen_of_row wr (w.heap.size + 1) 4 _ _ HR
      go_wp2_with fail
      clear c0 d0 d1 d2 d3 d4 e0 e1 e2 e3 e4 k0 k1 k2 k3 k4
      obtain ⟨HR', m⟩ := set5 HR (.slice (some ⟨G, 0, none⟩) X.length cv) (.int .i64 busy) (.int .i64 node) (.int .i64 rank) (.int .i64 now)
      generalize World.setCell _ _ _ = w2 at m HR' ⊢
      have O' := O.kp (Y := fun q => q < w.heap.size + 1 ∨ w.heap.size + 1 + 1 ≤ q) ⟨m.size, fun q hq hl => m.block q hl hq, m.os, m.tape, m.output⟩ (.inr (by have := hF.1; omega)) (fun j hj q h1 h2 => .inr (by have := hF.2 j hj; omega))
      have B' := B.trans (m.below (B := w.heap.size) (by omega) B.size)
      refine bodyPost_ret (v := svV (some ⟨G, 0, none⟩) X.length cv busy node rank now) ?_ rfl ⟨G, cap, cv, L, H, rfl, O', ⟨by have := hF.1; omega, fun j hj => by have := hF.2 j hj; omega⟩, hcap, B'⟩
      exact results_cell_row rfl _ w2 (w.heap.size + 1) 26 _ (0, 0) _ rfl HR' Tryz.underlying26 rfl (by kernel_rfl)
end Go.Proofs.YtnhmecabppaboaaGreat

/- spec.ServerPut, spec.NewServer. -/

set_option linter.unusedVariables false
set_option linter.unusedSimpArgs false
set_option maxRecDepth 20000
namespace Go.Proofs.YtnhmecabppaboaaGreat
open Go.RowKit

/-- What the model hands back beside a server of the call's own. -/
def PmO (s : Srv) (k : Value) (w : World) (e : Ending) (w' : World) : Prop :=
  ∃ G cap c L H, e = .returned (.tuple #[svV (some ⟨G, 0, none⟩) s.bx.length c s.busy s.node s.rank s.now, k]) ∧ BoxO False G cap (fun j => j < s.bx.length) s.bx L H w' ∧ FromB w.heap.size G s.bx.length L ∧ s.bx.length ≤ cap ∧ Below w.heap.size w w'
def PmR (s : Srv) (node : Int) (f : Frm) (w : World) (e : Ending) (w' : World) : Prop := (srvB s = false → PuZ w e w') ∧ (srvB s = true → PmO (putS s node f).1 (.int .i64 (putS s node f).2) w e w')
/-- What stands while spec.ServerPut goes on: the argument, the frame, the result, the copy and its boxes. -/
structure QuS (R : Option Addr → Nat → Nat → Prop) (g q G cap : Nat) (a : Option Addr) (c cv : Nat) (Z X : List (List Frm)) (busy node rank now : Int) (f : Frm) (af : Option Addr) (cf : Nat) (L H : Nat → Nat) (w0 w : World) : Prop where
  arg : w.heap[g]? = some (.cells (svC a Z.length c busy node rank now) 26 (0, 0))
  frm : w.heap[g + 1]? = some (.cells (frC f af cf) 35 (0, 0))
  res : w.heap[g + 2]? = some (.cells (svC none 0 0 0 0 0 0) 26 (0, 0))
  out : w.heap[q]? = some (.cells (svC (some ⟨G, 0, none⟩) X.length cv busy node rank now) 26 (0, 0))
  box : BoxO False G cap (fun j => j < X.length) X L H w
  src : Bxs R a Z w
  nums : Nums af f.D w
  bel : Below w0.heap.size w0 w
section
variable {R : Option Addr → Nat → Nat → Prop} {g q G cap : Nat} {a : Option Addr} {c cv : Nat} {Z X : List (List Frm)} {busy node rank now : Int} {f : Frm} {af : Option Addr} {cf : Nat} {L H : Nat → Nat} {w0 w w' : World}
theorem QuS.below (h : QuS R g q G cap a c cv Z X busy node rank now f af cf L H w0 w) (b : Below w.heap.size w w') : QuS R g q G cap a c cv Z X busy node rank now f af cf L H w0 w' :=
  ⟨blkV h.arg b, blkV h.frm b, blkV h.res b, blkV h.out b, h.box.below b, h.src.below b, h.nums.below b, Below.then2 h.bel b⟩
theorem QuS.drew (h : QuS R g q G cap a c cv Z X busy node rank now f af cf L H w0 w) : QuS R g q G cap a c cv Z X busy node rank now f af cf L H w0 w.drew := h.below (Below.refl _ _).drew
theorem QuS.sv (h : QuS R g q G cap a c cv Z X busy node rank now f af cf L H w0 w) : Sv g a Z.length c busy node rank now w0 w := ⟨h.arg, h.bel⟩
theorem QuS.so (h : QuS R g q G cap a c cv Z X busy node rank now f af cf L H w0 w) : Sv q (some ⟨G, 0, none⟩) X.length cv busy node rank now w0 w := ⟨h.out, h.bel⟩
/-- The end: the server is laid in the result's block. -/
theorem QuS.fin (h : QuS R g q G cap a c cv Z X busy node rank now f af cf L H w0 w) (hg : w0.heap.size = g) (hG : FromB (g + 3) G X.length L) :
    ∀ w5, w5 = (((((w.setCell ⟨g + 2, 0, none⟩ (.slice (some ⟨G, 0, none⟩) X.length cv)).setCell ⟨g + 2, 1, none⟩ (.int .i64 busy)).setCell ⟨g + 2, 2, none⟩ (.int .i64 node)).setCell ⟨g + 2, 3, none⟩ (.int .i64 rank)).setCell ⟨g + 2, 4, none⟩ (.int .i64 now)) →
      w5.heap[g + 2]? = some (.cells (svC (some ⟨G, 0, none⟩) X.length cv busy node rank now) 26 (0, 0)) ∧ BoxO False G cap (fun j => j < X.length) X L H w5 ∧ Below w0.heap.size w0 w5 := by
  rintro w5 rfl
  obtain ⟨h5, m⟩ := set5 h.res (.slice (some ⟨G, 0, none⟩) X.length cv) (.int .i64 busy) (.int .i64 node) (.int .i64 rank) (.int .i64 now)
  refine ⟨h5, h.box.kp (Y := fun q => q < g + 2 ∨ g + 3 ≤ q) ⟨m.size, fun q hq hl => m.block q hl (by omega), m.os, m.tape, m.output⟩ (.inr (by have := hG.1; omega)) (fun j hj q h1 h2 => .inr (by have := hG.2 j hj; omega)), h.bel.trans (m.below (by omega) h.bel.size)⟩
end
set_option maxHeartbeats 16000000 in
/-- spec.ServerPut. -/
theorem specServerPut (R : Option Addr → Nat → Nat → Prop) (a : Option Addr) (X : List (List Frm)) (c : Nat) (busy nd rank now node : Int) (f : Frm) (af : Option Addr) (cf : Nat) (w : World) (hd : Bxs R a X w) (hn : Nums af f.D w) :
    Calls Tryz.prog 14 #[svV a X.length c busy nd rank now, .int .i64 node, frV f.id f.rm f.ln af f.D.length cf] w (PmR ⟨X, busy, nd, rank, now⟩ node f w) := by
  have hm := hd.1
  have hn0 := hn
  have hd0 := hd
  obtain ⟨HC, HF, HR, B⟩ := three_made w (svC a X.length c busy nd rank now) (frC f af cf) (svC none 0 0 0 0 0 0) 26 35 26
  have hz : (((w.alloc (.cells (svC a X.length c busy nd rank now) 26)).alloc (.cells (frC f af cf) 35)).alloc (.cells (svC none 0 0 0 0 0 0) 26)).heap.size = w.heap.size + 3 := by simp
  go_enter Tryz.func14, Tryz.ntmps14
  go_upto_region 1 with fail
  replace hd := hd.below B
  replace hn := hn.below B
  generalize ((w.alloc (.cells (svC a X.length c busy nd rank now) 26)).alloc (.cells (frC f af cf) 35)).alloc (.cells (svC none 0 0 0 0 0 0) 26) = W at HC HF HR B hz hd hn ⊢
  have S0 : Sv w.heap.size a X.length c busy nd rank now w W := ⟨HC, B⟩
  go_wp2_with (refine S0.take rfl rfl rfl ?_)
  refine (specServerOk R a X c busy nd rank now _ hd).mono ?_
  rintro e w1 ⟨rfl, b⟩
  replace HC := blkV HC b
  replace HF := blkV HF b
  replace HR := blkV HR b
  replace B := Below.then2 B b
  replace hd := hd.below b
  replace hn := hn.below b
  have hz1 : w.heap.size + 3 ≤ w1.heap.size := by have := b.size; omega
  clear b S0 hz
  cases hok : srvB ⟨X, busy, nd, rank, now⟩
  · have e0 := cell_of_row w1 (w.heap.size + 2) 0 _ _ _ HR
    have e1 := cell_of_row w1 (w.heap.size + 2) 1 _ _ _ HR
    have e2 := cell_of_row w1 (w.heap.size + 2) 2 _ _ _ HR
    have e3 := cell_of_row w1 (w.heap.size + 2) 3 _ _ _ HR
    have e4 := cell_of_row w1 (w.heap.size + 2) 4 _ _ _ HR
    have k0 := frozen_of_row w1 (w.heap.size + 2) 0 _ _ HR
    have k1 := frozen_of_row w1 (w.heap.size + 2) 1 _ _ HR
    have k2 := frozen_of_row w1 (w.heap.size + 2) 2 _ _ HR
    have k3 := frozen_of_row w1 (w.heap.size + 2) 3 _ _ HR
    have k4 := frozen_of_row w1 (w.heap.size + 2) 4 _ _ HR
    replace hok := Lib.hid hok
    go_wp2_with fail
    obtain ⟨h5, m⟩ := set5 HR (.slice none 0 0) (.int .i64 0) (.int .i64 0) (.int .i64 0) (.int .i64 0)
    clear e0 e1 e2 e3 e4 k0 k1 k2 k3 k4
    generalize World.setCell _ _ _ = w5 at h5 m ⊢
    refine bodyPost_ret (v := .tuple #[svV none 0 0 0 0 0 0, .int .i64 3]) ?_ rfl ⟨fun _ => ⟨rfl, B.trans (m.below (by omega) B.size)⟩, fun h => absurd h (by rw [hok.out]; simp)⟩
    exact results_srv Tryz.results14 _ _ (w.heap.size + 2) _ _ rfl rfl h5 rfl
  have hS := srvB_iff.1 hok
  have hbx : boxesB X = true := hS.1
  replace hS := Lib.hid hS
  have h26 := boxesB_iff.1 hbx
  obtain ⟨h2, h6, h26b⟩ := h26
  replace h26b := Lib.hid h26b
  replace hok := Lib.hid hok
  have S1 : Sv w.heap.size a X.length c busy nd rank now w w1 := ⟨HC, B⟩
  go_wp2_with (refine S1.take rfl rfl rfl ?_)
  refine (specCopySrv R a X c busy nd rank now _ hd hbx).mono ?_
  rintro e w2 ⟨G, cap, cv, L, H, rfl, O, hF, hcap, b⟩
  dsimp only at O hF hcap
  replace HC := blkV HC b
  replace HF := blkV HF b
  replace HR := blkV HR b
  replace B := Below.then2 B b
  replace hn := hn.below b
  have hz2 : w.heap.size + 3 ≤ w2.heap.size := Nat.le_trans hz1 b.size
  have hFG : FromB (w.heap.size + 3) G X.length L := ⟨by have := hF.1; omega, fun j hj => by have := hF.2 j hj; omega⟩
  clear S1 b hd hF
  go_upto_region 4 with fail
  have ba := below_more (Below.refl w2.heap.size w2) (.cells (svC (some ⟨G, 0, none⟩) X.length cv busy nd rank now) 26)
  have hout := heap_alloc_new w2 (.cells (svC (some ⟨G, 0, none⟩) X.length cv busy nd rank now) 26)
  have hGq : G < w2.heap.size := O.lt
  have hHq : ∀ i, i < X.length → H i ≤ w2.heap.size := fun i hi => (O.out i hi).2.1
  have P : QuS R w.heap.size w2.heap.size G cap a c cv X X busy nd rank now f af cf L H w (w2.alloc (.cells (svC (some ⟨G, 0, none⟩) X.length cv busy nd rank now) 26)) :=
    ⟨blkV HC ba, blkV HF ba, blkV HR ba, hout, O.below ba, hd0.below (Below.then2 B ba), hn.below ba, Below.then2 B ba⟩
  clear HC HF HR B hn O ba hout
  obtain ⟨q, hq0⟩ : ∃ q, q = w2.heap.size := ⟨_, rfl⟩
  rw [← hq0] at P hGq hHq hz2 ⊢
  generalize w2.alloc _ = w3 at P ⊢
  replace hHq := Lib.hid hHq
  clear hq0
  have x0 := P.sv.cell 0
  have hsub : IntKind.i64.wrap ((X.length : Int) - 1) = (X.length : Int) - 1 := IntWalk.i64_in _ (by unfold maxLen at hm; omega)
  go_wp2_with fail
  refine (l1InR _ _ _ _).mono ?_
  rintro e w4 ⟨rfl, rfl⟩
  clear x0
  cases hr : rng node 0 ((X.length : Int) - 1)
  · have HV : Hid (putS ⟨X, busy, nd, rank, now⟩ node f = (⟨X, busy, nd, rank, now⟩, 3)) := Lib.hid (by
      unfold putS
      rw [if_pos hok.out, if_neg]
      rintro ⟨h1, h2⟩
      have h2 : node < (X.length : Int) := h2
      rw [rng_iff.2 ⟨h1, by omega⟩] at hr
      cases hr)
    clear hr
    have e0 := cell_of_row w3 (w.heap.size + 2) 0 _ _ _ P.res
    have e1 := cell_of_row w3 (w.heap.size + 2) 1 _ _ _ P.res
    have e2 := cell_of_row w3 (w.heap.size + 2) 2 _ _ _ P.res
    have e3 := cell_of_row w3 (w.heap.size + 2) 3 _ _ _ P.res
    have e4 := cell_of_row w3 (w.heap.size + 2) 4 _ _ _ P.res
    have k0 := frozen_of_row w3 (w.heap.size + 2) 0 _ _ P.res
    have k1 := frozen_of_row w3 (w.heap.size + 2) 1 _ _ P.res
    have k2 := frozen_of_row w3 (w.heap.size + 2) 2 _ _ P.res
    have k3 := frozen_of_row w3 (w.heap.size + 2) 3 _ _ P.res
    have k4 := frozen_of_row w3 (w.heap.size + 2) 4 _ _ P.res
    go_wp2_with (refine P.so.take rfl rfl rfl ?_)
    clear e0 e1 e2 e3 e4 k0 k1 k2 k3 k4
    obtain ⟨h5, O5, B5⟩ := P.fin rfl (by first | exact hFG | exact hFG') _ rfl
    refine bodyPost_ret (v := .tuple #[svV (some ⟨G, 0, none⟩) X.length cv busy nd rank now, .int .i64 3]) ?_ rfl ⟨fun h => absurd h (by rw [hok.out]; simp), fun _ => ?_⟩
    · exact results_srv Tryz.results14 _ _ (w.heap.size + 2) _ _ rfl rfl h5 rfl
    · rw [HV.out]
      exact ⟨G, _, _, _, _, rfl, O5, ⟨by have := hFG.1; show w.heap.size ≤ G; omega, fun i hi => by have := hFG.2 i hi; omega⟩, by first | exact hcap | exact hcap', B5⟩
  have h1 := rng_iff.1 hr
  obtain ⟨j, rfl⟩ : ∃ j : Nat, node = (j : Int) := ⟨node.toNat, by omega⟩
  have hj : j < X.length := by omega
  clear hr h1 hsub
  go_wp2_with fail
  by_cases hq : 3 < busy ∧ nd = (j : Int) ∧ rank = rkF f
  · have HV : Hid (putS ⟨X, busy, nd, rank, now⟩ (j : Int) f = (⟨X, busy, nd, rank, now⟩, 2)) := Lib.hid (by
      unfold putS
      rw [if_pos hok.out, if_pos ⟨by omega, by show (j : Int) < (X.length : Int); omega⟩, if_pos hq])
    have h3 : decide (3 < busy) = true := decide_eq_true hq.1
    have hn' : (nd == (j : Int)) = true := by rw [hq.2.1]; exact beq_self_eq_true _
    have hr' : (rank == rankV f.id f.rm f.ln f.D) = true := by rw [hq.2.2]; exact beq_self_eq_true (rkF f)
    have hfo : frOk f.id f.rm f.ln f.D = true := by
      have hs := (sndB_high (s := ⟨X, busy, nd, rank, now⟩) (by show ¬ busy ≤ 3; omega)).1 hS.out.2.2.2.2.2
      obtain ⟨i, hi, hri⟩ := hasB_iff.1 hs.2.2
      have hB := (boxB_iff.1 (h26b.out nd.toNat (by have h1 := hs.1; have h2 := hs.2.1; show nd.toNat < X.length; dsimp only at h1 h2; omega))).2 i hi
      have h3 : rkF (nthF (nthB X nd.toNat) i) = rank := hri
      exact rkF_ok (by rw [← hq.2.2, ← h3]; exact hB.1)
    replace hq := Lib.hid hq
    refine region_class (QuS R w.heap.size q G cap a c cv X X busy nd rank now f af cf L H w) (by kernel_rfl) (by kernel_rfl) P.drew ?_
    repeat first
      | go_big_quiet_skip
      | (go_big_quiet_want
         apply Exists.intro
         refine ⟨fun u hu => ?_, ?_⟩
         · exact quietAt_val (hu.sv.took rfl rfl)
         simp only [Act.put, List.setIfInBounds_toArray, List.set_cons_zero, List.set_cons_succ]
         go_big_quiet_on)
      | (go_big_quiet_want
         apply Exists.intro
         refine ⟨fun u hu => ?_, ?_⟩
         · exact quietAt_val (frTookI (f := f) (af := af) (cf := cf) hu.frm rfl rfl)
         simp only [Act.put, List.setIfInBounds_toArray, List.set_cons_zero, List.set_cons_succ]
         go_big_quiet_on)
      | (go_big_quiet_want
         apply Exists.intro
         refine ⟨fun u hu => ?_, ?_⟩
         · apply quietAt_val
           have x0 := hu.sv.cell 0
           have x1 := hu.sv.cell 1
           have x2 := hu.sv.cell 2
           have x3 := hu.sv.cell 3
           go_simp
           rfl
         simp only [Act.put, List.setIfInBounds_toArray, List.set_cons_zero, List.set_cons_succ]
         go_big_quiet_on)
      | (go_big_quiet_want
         apply Exists.intro
         refine ⟨fun u hu => ?_, ?_⟩
         · apply quietAt_enter 46 #[frV f.id f.rm f.ln af f.D.length cf]
           · go_simp
           · refine (specFrameOk _ _ _ _ _ _ u hu.nums).mono ?_
             rintro e w2 ⟨he, b2⟩
             rw [hfo] at he
             exact ⟨he, hu.below b2⟩
         simp only [Act.put, List.setIfInBounds_toArray, List.set_cons_zero, List.set_cons_succ]
         go_big_quiet_on)
      | (go_big_quiet_want
         apply Exists.intro
         refine ⟨fun u hu => ?_, ?_⟩
         · apply quietAt_enter 47 #[frV f.id f.rm f.ln af f.D.length cf]
           · go_simp
           · refine (specRankOf _ _ _ _ _ _ u hu.nums).mono ?_
             rintro e w2 ⟨he, b2⟩
             exact ⟨he, hu.below b2⟩
         simp only [Act.put, List.setIfInBounds_toArray, List.set_cons_zero, List.set_cons_succ]
         go_big_quiet_on)
    refine wpQuiet_nil ?_
    intro W4 P4
    clear P h3 hn' hr' hfo
    have e0 := cell_of_row W4 (w.heap.size + 2) 0 _ _ _ P4.res
    have e1 := cell_of_row W4 (w.heap.size + 2) 1 _ _ _ P4.res
    have e2 := cell_of_row W4 (w.heap.size + 2) 2 _ _ _ P4.res
    have e3 := cell_of_row W4 (w.heap.size + 2) 3 _ _ _ P4.res
    have e4 := cell_of_row W4 (w.heap.size + 2) 4 _ _ _ P4.res
    have k0 := frozen_of_row W4 (w.heap.size + 2) 0 _ _ P4.res
    have k1 := frozen_of_row W4 (w.heap.size + 2) 1 _ _ P4.res
    have k2 := frozen_of_row W4 (w.heap.size + 2) 2 _ _ P4.res
    have k3 := frozen_of_row W4 (w.heap.size + 2) 3 _ _ P4.res
    have k4 := frozen_of_row W4 (w.heap.size + 2) 4 _ _ P4.res
    go_wp2_with (refine P4.so.take rfl rfl rfl ?_)
    clear e0 e1 e2 e3 e4 k0 k1 k2 k3 k4
    obtain ⟨h5, O5, B5⟩ := P4.fin rfl (by first | exact hFG | exact hFG') _ rfl
    refine bodyPost_ret (v := .tuple #[svV (some ⟨G, 0, none⟩) X.length cv busy nd rank now, .int .i64 2]) ?_ rfl ⟨fun h => absurd h (by rw [hok.out]; simp), fun _ => ?_⟩
    · exact results_srv Tryz.results14 _ _ (w.heap.size + 2) _ _ rfl rfl h5 rfl
    · rw [HV.out]
      exact ⟨G, _, _, _, _, rfl, O5, ⟨by have := hFG.1; show w.heap.size ≤ G; omega, fun i hi => by have := hFG.2 i hi; omega⟩, by first | exact hcap | exact hcap', B5⟩
  by_cases hfo0 : ¬ frOk f.id f.rm f.ln f.D = true
  · have hfo : frOk f.id f.rm f.ln f.D = false := by simpa using hfo0
    clear hfo0
    refine region_class (QuS R w.heap.size q G cap a c cv X X busy nd rank now f af cf L H w) (by kernel_rfl) (by kernel_rfl) P.drew ?_
    repeat first
      | go_big_quiet_skip
      | (go_big_quiet_want
         apply Exists.intro
         refine ⟨fun u hu => ?_, ?_⟩
         · exact quietAt_val (hu.sv.took rfl rfl)
         simp only [Act.put, List.setIfInBounds_toArray, List.set_cons_zero, List.set_cons_succ]
         go_big_quiet_on)
      | (go_big_quiet_want
         apply Exists.intro
         refine ⟨fun u hu => ?_, ?_⟩
         · exact quietAt_val (frTookI (f := f) (af := af) (cf := cf) hu.frm rfl rfl)
         simp only [Act.put, List.setIfInBounds_toArray, List.set_cons_zero, List.set_cons_succ]
         go_big_quiet_on)
      | (go_big_quiet_want
         apply Exists.intro
         refine ⟨fun u hu => ?_, ?_⟩
         · apply quietAt_val
           have x0 := hu.sv.cell 0
           have x1 := hu.sv.cell 1
           have x2 := hu.sv.cell 2
           have x3 := hu.sv.cell 3
           go_simp
           rfl
         simp only [Act.put, List.setIfInBounds_toArray, List.set_cons_zero, List.set_cons_succ]
         go_big_quiet_on)
      | (go_big_quiet_want
         apply Exists.intro
         refine ⟨fun u hu => ?_, ?_⟩
         · apply quietAt_enter 46 #[frV f.id f.rm f.ln af f.D.length cf]
           · go_simp
           · refine (specFrameOk _ _ _ _ _ _ u hu.nums).mono ?_
             rintro e w2 ⟨he, b2⟩
             rw [hfo] at he
             exact ⟨he, hu.below b2⟩
         simp only [Act.put, List.setIfInBounds_toArray, List.set_cons_zero, List.set_cons_succ]
         go_big_quiet_on)
      | (go_big_quiet_want
         apply Exists.intro
         refine ⟨fun u hu => ?_, ?_⟩
         · apply quietAt_enter 47 #[frV f.id f.rm f.ln af f.D.length cf]
           · go_simp
           · refine (specRankOf _ _ _ _ _ _ u hu.nums).mono ?_
             rintro e w2 ⟨he, b2⟩
             exact ⟨he, hu.below b2⟩
         simp only [Act.put, List.setIfInBounds_toArray, List.set_cons_zero, List.set_cons_succ]
         go_big_quiet_on)
    refine wpQuiet_nil ?_
    intro W4 P4
    clear P hfo
    obtain ⟨ga, oa, al, cl, ha0, hcG, hfr, -⟩ := P4.src.2 j hj
    subst ha0
    go_upto_region 8 with fail
    refine wp_region_held (S := fun u => u.heap[w.heap.size]? = some (.cells (svC (some ⟨ga, oa, none⟩) X.length c busy nd rank now) 26 (0, 0)) ∧ u.heap[w.heap.size + 1]? = some (.cells (frC f af cf) 35 (0, 0)) ∧ u.cell? ⟨ga, oa + j, none⟩ = some (.slice al (nthB X j).length cl)) (by kernel_rfl) ?_
    have B0 : Below W4.heap.size W4 { W4 with drawn := W4.drawn + 1 } := (Below.refl _ _).drew
    replace P4 := P4.below B0
    replace hcG := (B0.cell (World.block_lt_of_cell? _ _ hcG)).trans hcG
    replace hfr := hfr.below B0
    generalize ({ W4 with drawn := W4.drawn + 1 } : World) = V at P4 hcG hfr ⊢
    clear B0
    have hS := And.intro P4.arg (And.intro P4.frm hcG)
    refine h_take 0 47 (.pointer (some ⟨w.heap.size, 0, none⟩)) rfl rfl (by kernel_rfl) (by kernel_rfl) (by kernel_rfl) (fun _ _ _ h => h) rfl (fun u hu => by go_simp) hS ?_
    refine h_take 1 48 (.slice (some ⟨ga, oa, none⟩) X.length c) rfl rfl (by kernel_rfl) (by kernel_rfl) (by kernel_rfl) (fun _ _ _ h => h) rfl (fun u hu => by have c0 := cell_of_row u _ 0 _ _ _ hu.1; go_simp) hS ?_
    refine h_take 2 49 (.int .i64 (j : Int)) rfl rfl (by kernel_rfl) (by kernel_rfl) (by kernel_rfl) (fun _ _ _ h => h) rfl (fun u hu => by go_simp) hS ?_
    refine h_take 3 50 (.pointer (some ⟨ga, oa + j, none⟩)) rfl rfl (by kernel_rfl) (by kernel_rfl) (by kernel_rfl) (fun _ _ _ h => h) rfl (fun u hu => by go_simp) hS ?_
    refine h_take 4 51 (.slice al (nthB X j).length cl) rfl rfl (by kernel_rfl) (by kernel_rfl) (by kernel_rfl) (fun _ _ _ h => h) rfl (fun u hu => by have c0 := hu.2.2; go_simp) hS ?_
    refine h_take 5 52 (frV f.id f.rm f.ln af f.D.length cf) rfl rfl (by kernel_rfl) (by kernel_rfl) (by kernel_rfl) (fun _ _ _ h => h) rfl (fun u hu => frTookI hu.2.1 rfl rfl) hS ?_
    simp only [Act.put, List.setIfInBounds_toArray, List.set_cons_zero, List.set_cons_succ]
    refine h_call 6 53 48 #[.slice al (nthB X j).length cl, frV f.id f.rm f.ln af f.D.length cf] rfl rfl (by kernel_rfl) rfl (by go_simp) ?_
    refine (show Calls _ _ _ _ (PutO (putV (nthB X j) f) V) from specPutIn al (nthB X j) cl f.id f.rm f.ln af f.D cf V hfr P4.nums).mono ?_
    rintro e w5 ⟨M, g5, c5, rfl, hM, OB, b⟩
    have OX : OwnX False V.heap.size w5.heap.size (putV (nthB X j) f).1 (.slice (some ⟨g5, 0, none⟩) (putV (nthB X j) f).1.length c5) w5 := ⟨M, _, c5, rfl, hM, OB, fun h => h.elim, OB.under⟩
    have hle := b.size
    have hzV : w.heap.size + 3 ≤ V.heap.size := (Array.getElem?_eq_some_iff.1 P4.res).1
    have hHj : ∀ i, i < X.length → H i ≤ V.heap.size := fun i hi => (P4.box.out i hi).2.1
    have hGV := P4.box.lt
    have hqV : q < V.heap.size := (Array.getElem?_eq_some_iff.1 P4.out).1
    have P5 := P4.below b
    have hcG5 := (b.cell (World.block_lt_of_cell? _ _ hcG)).trans hcG
    clear OB hM b hfr P4 hS hcG
    generalize hL5 : (putV (nthB X j) f).1 = L5 at *
    generalize hk5 : (putV (nthB X j) f).2 = k5 at *
    replace hL5 := Lib.hid hL5
    replace hk5 := Lib.hid hk5
    have hS := And.intro P5.arg (And.intro P5.frm hcG5)
    refine ⟨_, rfl, hS, ?_⟩
    simp only [Act.put, List.setIfInBounds_toArray, List.set_cons_zero, List.set_cons_succ]
    refine h_take 7 46 (.tuple #[.slice (some ⟨g5, 0, none⟩) L5.length c5, .int .i64 k5]) rfl rfl (by kernel_rfl) (by kernel_rfl) (by kernel_rfl) (fun _ _ _ h => h) rfl (fun u hu => by go_simp) hS ?_
    refine h_take 8 54 (.slice (some ⟨g5, 0, none⟩) L5.length c5) rfl rfl (by kernel_rfl) (by kernel_rfl) (by kernel_rfl) (fun _ _ _ h => h) rfl (fun u hu => by go_simp) hS ?_
    refine h_take 9 55 (.int .i64 k5) rfl rfl (by kernel_rfl) (by kernel_rfl) (by kernel_rfl) (fun _ _ _ h => h) rfl (fun u hu => by go_simp) hS ?_
    refine h_take 10 9 (.slice (some ⟨g5, 0, none⟩) L5.length c5) rfl rfl (by kernel_rfl) (by kernel_rfl) (by kernel_rfl) (fun _ _ _ h => h) rfl (fun u hu => by go_simp) hS ?_
    refine h_take 11 10 (.int .i64 k5) rfl rfl (by kernel_rfl) (by kernel_rfl) (by kernel_rfl) (fun _ _ _ h => h) rfl (fun u hu => by go_simp) hS ?_
    simp only [Act.put, List.setIfInBounds_toArray, List.set_cons_zero, List.set_cons_succ]
    refine wpAnyH_done (by kernel_rfl) ?_ _
    clear hS
    have c0 := cell_of_row w5 q 0 _ _ _ P5.out
    obtain ⟨cur, hcb, hcs, -⟩ := P5.box.row
    have hck : ∃ x, w5.cell? ⟨G, j, none⟩ = some x := by
      rw [cell_of_row w5 _ _ _ _ _ hcb, Array.getElem?_eq_getElem (by omega)]
      exact ⟨_, rfl⟩
    obtain ⟨x, hck⟩ := hck
    have f0 := frozen_of_row w5 G j _ _ hcb
    clear hcb hcs cur
    go_upto_region 10 with fail
    have O6 := (P5.box.put (i := j) (lo := V.heap.size) (hi := w5.heap.size) (X' := X.set j L5) (v := .slice (some ⟨g5, 0, none⟩) L5.length c5) (by omega) (fun i hi hne => by rw [nthB_set hj, if_neg hne]) (by rw [nthB_set hj, if_pos rfl]; exact OX) hle (Nat.le_refl _) (.inl hGV) (fun i hi _ => .inl (hHj i hi))).less (F' := fun i => i < X.length) (fun i hi => .inl hi)
    have m := mid_cell w5 G j (.slice (some ⟨g5, 0, none⟩) L5.length c5)
    have hlX : (X.set j L5).length = X.length := List.length_set
    have hGl := hFG.1
    have B6 := P5.bel.trans (m.below (B := w.heap.size) (by omega) P5.bel.size)
    have P6 : QuS R w.heap.size q G cap (some ⟨ga, oa, none⟩) c cv X (X.set j L5) busy nd rank now f af cf (fun i => if i = j then V.heap.size else L i) (fun i => if i = j then w5.heap.size else H i) w (w5.setCell ⟨G, j, none⟩ (.slice (some ⟨g5, 0, none⟩) L5.length c5)) := by
      refine ⟨(m.block _ (Array.getElem?_eq_some_iff.1 P5.arg).1 (by omega)).trans P5.arg, (m.block _ (Array.getElem?_eq_some_iff.1 P5.frm).1 (by omega)).trans P5.frm, (m.block _ (Array.getElem?_eq_some_iff.1 P5.res).1 (by omega)).trans P5.res, ?_, ?_, hd0.below B6, hn0.below B6, B6⟩
      · rw [hlX]; exact (m.block _ (Array.getElem?_eq_some_iff.1 P5.out).1 (by omega)).trans P5.out
      · rw [hlX]; exact O6
    have hFG' : FromB (w.heap.size + 3) G (X.set j L5).length (fun i => if i = j then V.heap.size else L i) := ⟨hFG.1, fun i hi => by
      rw [hlX] at hi
      dsimp only
      split
      · exact hzV
      · exact hFG.2 i hi⟩
    have hcap' : (X.set j L5).length ≤ cap := by rw [hlX]; exact hcap
    have HV : Hid (putS ⟨X, busy, nd, rank, now⟩ (j : Int) f = (⟨X.set j L5, busy, nd, rank, now⟩, k5)) := Lib.hid (by
      unfold putS
      rw [if_pos hok.out, if_pos ⟨by omega, by show (j : Int) < (X.length : Int); omega⟩, if_neg hq]
      show ((⟨X.set (j : Int).toNat (putV (nthB X (j : Int).toNat) f).1, busy, nd, rank, now⟩ : Srv), (putV (nthB X (j : Int).toNat) f).2) = _
      rw [Int.toNat_natCast, hL5.out, hk5.out])
    clear m O6 P5 OX hGV hHj hle hcG5 f0 c0 hck B6 hqV
    generalize w5.setCell _ _ = w6 at P6 ⊢
    clear hlX
    generalize X.set j L5 = X' at P6 hFG' HV hcap'
    have e0 := cell_of_row w6 (w.heap.size + 2) 0 _ _ _ P6.res
    have e1 := cell_of_row w6 (w.heap.size + 2) 1 _ _ _ P6.res
    have e2 := cell_of_row w6 (w.heap.size + 2) 2 _ _ _ P6.res
    have e3 := cell_of_row w6 (w.heap.size + 2) 3 _ _ _ P6.res
    have e4 := cell_of_row w6 (w.heap.size + 2) 4 _ _ _ P6.res
    have k0 := frozen_of_row w6 (w.heap.size + 2) 0 _ _ P6.res
    have k1 := frozen_of_row w6 (w.heap.size + 2) 1 _ _ P6.res
    have k2 := frozen_of_row w6 (w.heap.size + 2) 2 _ _ P6.res
    have k3 := frozen_of_row w6 (w.heap.size + 2) 3 _ _ P6.res
    have k4 := frozen_of_row w6 (w.heap.size + 2) 4 _ _ P6.res
    go_wp2_with (refine P6.so.take rfl rfl rfl ?_)
    clear e0 e1 e2 e3 e4 k0 k1 k2 k3 k4
    obtain ⟨h5, O5, B5⟩ := P6.fin rfl (by first | exact hFG | exact hFG') _ rfl
    refine bodyPost_ret (v := .tuple #[svV (some ⟨G, 0, none⟩) X'.length cv busy nd rank now, .int .i64 k5]) ?_ rfl ⟨fun h => absurd h (by rw [hok.out]; simp), fun _ => ?_⟩
    · exact results_srv Tryz.results14 _ _ (w.heap.size + 2) _ _ rfl rfl h5 rfl
    · rw [HV.out]
      exact ⟨G, _, _, _, _, rfl, O5, ⟨by have := hFG.1; show w.heap.size ≤ G; omega, fun i hi => by have := hFG'.2 i hi; omega⟩, by first | exact hcap | exact hcap', B5⟩
  have hfo : frOk f.id f.rm f.ln f.D = true := Classical.not_not.1 hfo0
  clear hfo0
  by_cases h30 : ¬ 3 < busy
  · have h3 : decide (3 < busy) = false := decide_eq_false h30
    refine region_class (QuS R w.heap.size q G cap a c cv X X busy nd rank now f af cf L H w) (by kernel_rfl) (by kernel_rfl) P.drew ?_
    repeat first
      | go_big_quiet_skip
      | (go_big_quiet_want
         apply Exists.intro
         refine ⟨fun u hu => ?_, ?_⟩
         · exact quietAt_val (hu.sv.took rfl rfl)
         simp only [Act.put, List.setIfInBounds_toArray, List.set_cons_zero, List.set_cons_succ]
         go_big_quiet_on)
      | (go_big_quiet_want
         apply Exists.intro
         refine ⟨fun u hu => ?_, ?_⟩
         · exact quietAt_val (frTookI (f := f) (af := af) (cf := cf) hu.frm rfl rfl)
         simp only [Act.put, List.setIfInBounds_toArray, List.set_cons_zero, List.set_cons_succ]
         go_big_quiet_on)
      | (go_big_quiet_want
         apply Exists.intro
         refine ⟨fun u hu => ?_, ?_⟩
         · apply quietAt_val
           have x0 := hu.sv.cell 0
           have x1 := hu.sv.cell 1
           have x2 := hu.sv.cell 2
           have x3 := hu.sv.cell 3
           go_simp
           rfl
         simp only [Act.put, List.setIfInBounds_toArray, List.set_cons_zero, List.set_cons_succ]
         go_big_quiet_on)
      | (go_big_quiet_want
         apply Exists.intro
         refine ⟨fun u hu => ?_, ?_⟩
         · apply quietAt_enter 46 #[frV f.id f.rm f.ln af f.D.length cf]
           · go_simp
           · refine (specFrameOk _ _ _ _ _ _ u hu.nums).mono ?_
             rintro e w2 ⟨he, b2⟩
             rw [hfo] at he
             exact ⟨he, hu.below b2⟩
         simp only [Act.put, List.setIfInBounds_toArray, List.set_cons_zero, List.set_cons_succ]
         go_big_quiet_on)
      | (go_big_quiet_want
         apply Exists.intro
         refine ⟨fun u hu => ?_, ?_⟩
         · apply quietAt_enter 47 #[frV f.id f.rm f.ln af f.D.length cf]
           · go_simp
           · refine (specRankOf _ _ _ _ _ _ u hu.nums).mono ?_
             rintro e w2 ⟨he, b2⟩
             exact ⟨he, hu.below b2⟩
         simp only [Act.put, List.setIfInBounds_toArray, List.set_cons_zero, List.set_cons_succ]
         go_big_quiet_on)
    refine wpQuiet_nil ?_
    intro W4 P4
    clear P h3 h30 hfo
    obtain ⟨ga, oa, al, cl, ha0, hcG, hfr, -⟩ := P4.src.2 j hj
    subst ha0
    go_upto_region 8 with fail
    refine wp_region_held (S := fun u => u.heap[w.heap.size]? = some (.cells (svC (some ⟨ga, oa, none⟩) X.length c busy nd rank now) 26 (0, 0)) ∧ u.heap[w.heap.size + 1]? = some (.cells (frC f af cf) 35 (0, 0)) ∧ u.cell? ⟨ga, oa + j, none⟩ = some (.slice al (nthB X j).length cl)) (by kernel_rfl) ?_
    have B0 : Below W4.heap.size W4 { W4 with drawn := W4.drawn + 1 } := (Below.refl _ _).drew
    replace P4 := P4.below B0
    replace hcG := (B0.cell (World.block_lt_of_cell? _ _ hcG)).trans hcG
    replace hfr := hfr.below B0
    generalize ({ W4 with drawn := W4.drawn + 1 } : World) = V at P4 hcG hfr ⊢
    clear B0
    have hS := And.intro P4.arg (And.intro P4.frm hcG)
    refine h_take 0 47 (.pointer (some ⟨w.heap.size, 0, none⟩)) rfl rfl (by kernel_rfl) (by kernel_rfl) (by kernel_rfl) (fun _ _ _ h => h) rfl (fun u hu => by go_simp) hS ?_
    refine h_take 1 48 (.slice (some ⟨ga, oa, none⟩) X.length c) rfl rfl (by kernel_rfl) (by kernel_rfl) (by kernel_rfl) (fun _ _ _ h => h) rfl (fun u hu => by have c0 := cell_of_row u _ 0 _ _ _ hu.1; go_simp) hS ?_
    refine h_take 2 49 (.int .i64 (j : Int)) rfl rfl (by kernel_rfl) (by kernel_rfl) (by kernel_rfl) (fun _ _ _ h => h) rfl (fun u hu => by go_simp) hS ?_
    refine h_take 3 50 (.pointer (some ⟨ga, oa + j, none⟩)) rfl rfl (by kernel_rfl) (by kernel_rfl) (by kernel_rfl) (fun _ _ _ h => h) rfl (fun u hu => by go_simp) hS ?_
    refine h_take 4 51 (.slice al (nthB X j).length cl) rfl rfl (by kernel_rfl) (by kernel_rfl) (by kernel_rfl) (fun _ _ _ h => h) rfl (fun u hu => by have c0 := hu.2.2; go_simp) hS ?_
    refine h_take 5 52 (frV f.id f.rm f.ln af f.D.length cf) rfl rfl (by kernel_rfl) (by kernel_rfl) (by kernel_rfl) (fun _ _ _ h => h) rfl (fun u hu => frTookI hu.2.1 rfl rfl) hS ?_
    simp only [Act.put, List.setIfInBounds_toArray, List.set_cons_zero, List.set_cons_succ]
    refine h_call 6 53 48 #[.slice al (nthB X j).length cl, frV f.id f.rm f.ln af f.D.length cf] rfl rfl (by kernel_rfl) rfl (by go_simp) ?_
    refine (show Calls _ _ _ _ (PutO (putV (nthB X j) f) V) from specPutIn al (nthB X j) cl f.id f.rm f.ln af f.D cf V hfr P4.nums).mono ?_
    rintro e w5 ⟨M, g5, c5, rfl, hM, OB, b⟩
    have OX : OwnX False V.heap.size w5.heap.size (putV (nthB X j) f).1 (.slice (some ⟨g5, 0, none⟩) (putV (nthB X j) f).1.length c5) w5 := ⟨M, _, c5, rfl, hM, OB, fun h => h.elim, OB.under⟩
    have hle := b.size
    have hzV : w.heap.size + 3 ≤ V.heap.size := (Array.getElem?_eq_some_iff.1 P4.res).1
    have hHj : ∀ i, i < X.length → H i ≤ V.heap.size := fun i hi => (P4.box.out i hi).2.1
    have hGV := P4.box.lt
    have hqV : q < V.heap.size := (Array.getElem?_eq_some_iff.1 P4.out).1
    have P5 := P4.below b
    have hcG5 := (b.cell (World.block_lt_of_cell? _ _ hcG)).trans hcG
    clear OB hM b hfr P4 hS hcG
    generalize hL5 : (putV (nthB X j) f).1 = L5 at *
    generalize hk5 : (putV (nthB X j) f).2 = k5 at *
    replace hL5 := Lib.hid hL5
    replace hk5 := Lib.hid hk5
    have hS := And.intro P5.arg (And.intro P5.frm hcG5)
    refine ⟨_, rfl, hS, ?_⟩
    simp only [Act.put, List.setIfInBounds_toArray, List.set_cons_zero, List.set_cons_succ]
    refine h_take 7 46 (.tuple #[.slice (some ⟨g5, 0, none⟩) L5.length c5, .int .i64 k5]) rfl rfl (by kernel_rfl) (by kernel_rfl) (by kernel_rfl) (fun _ _ _ h => h) rfl (fun u hu => by go_simp) hS ?_
    refine h_take 8 54 (.slice (some ⟨g5, 0, none⟩) L5.length c5) rfl rfl (by kernel_rfl) (by kernel_rfl) (by kernel_rfl) (fun _ _ _ h => h) rfl (fun u hu => by go_simp) hS ?_
    refine h_take 9 55 (.int .i64 k5) rfl rfl (by kernel_rfl) (by kernel_rfl) (by kernel_rfl) (fun _ _ _ h => h) rfl (fun u hu => by go_simp) hS ?_
    refine h_take 10 9 (.slice (some ⟨g5, 0, none⟩) L5.length c5) rfl rfl (by kernel_rfl) (by kernel_rfl) (by kernel_rfl) (fun _ _ _ h => h) rfl (fun u hu => by go_simp) hS ?_
    refine h_take 11 10 (.int .i64 k5) rfl rfl (by kernel_rfl) (by kernel_rfl) (by kernel_rfl) (fun _ _ _ h => h) rfl (fun u hu => by go_simp) hS ?_
    simp only [Act.put, List.setIfInBounds_toArray, List.set_cons_zero, List.set_cons_succ]
    refine wpAnyH_done (by kernel_rfl) ?_ _
    clear hS
    have c0 := cell_of_row w5 q 0 _ _ _ P5.out
    obtain ⟨cur, hcb, hcs, -⟩ := P5.box.row
    have hck : ∃ x, w5.cell? ⟨G, j, none⟩ = some x := by
      rw [cell_of_row w5 _ _ _ _ _ hcb, Array.getElem?_eq_getElem (by omega)]
      exact ⟨_, rfl⟩
    obtain ⟨x, hck⟩ := hck
    have f0 := frozen_of_row w5 G j _ _ hcb
    clear hcb hcs cur
    go_upto_region 10 with fail
    have O6 := (P5.box.put (i := j) (lo := V.heap.size) (hi := w5.heap.size) (X' := X.set j L5) (v := .slice (some ⟨g5, 0, none⟩) L5.length c5) (by omega) (fun i hi hne => by rw [nthB_set hj, if_neg hne]) (by rw [nthB_set hj, if_pos rfl]; exact OX) hle (Nat.le_refl _) (.inl hGV) (fun i hi _ => .inl (hHj i hi))).less (F' := fun i => i < X.length) (fun i hi => .inl hi)
    have m := mid_cell w5 G j (.slice (some ⟨g5, 0, none⟩) L5.length c5)
    have hlX : (X.set j L5).length = X.length := List.length_set
    have hGl := hFG.1
    have B6 := P5.bel.trans (m.below (B := w.heap.size) (by omega) P5.bel.size)
    have P6 : QuS R w.heap.size q G cap (some ⟨ga, oa, none⟩) c cv X (X.set j L5) busy nd rank now f af cf (fun i => if i = j then V.heap.size else L i) (fun i => if i = j then w5.heap.size else H i) w (w5.setCell ⟨G, j, none⟩ (.slice (some ⟨g5, 0, none⟩) L5.length c5)) := by
      refine ⟨(m.block _ (Array.getElem?_eq_some_iff.1 P5.arg).1 (by omega)).trans P5.arg, (m.block _ (Array.getElem?_eq_some_iff.1 P5.frm).1 (by omega)).trans P5.frm, (m.block _ (Array.getElem?_eq_some_iff.1 P5.res).1 (by omega)).trans P5.res, ?_, ?_, hd0.below B6, hn0.below B6, B6⟩
      · rw [hlX]; exact (m.block _ (Array.getElem?_eq_some_iff.1 P5.out).1 (by omega)).trans P5.out
      · rw [hlX]; exact O6
    have hFG' : FromB (w.heap.size + 3) G (X.set j L5).length (fun i => if i = j then V.heap.size else L i) := ⟨hFG.1, fun i hi => by
      rw [hlX] at hi
      dsimp only
      split
      · exact hzV
      · exact hFG.2 i hi⟩
    have hcap' : (X.set j L5).length ≤ cap := by rw [hlX]; exact hcap
    have HV : Hid (putS ⟨X, busy, nd, rank, now⟩ (j : Int) f = (⟨X.set j L5, busy, nd, rank, now⟩, k5)) := Lib.hid (by
      unfold putS
      rw [if_pos hok.out, if_pos ⟨by omega, by show (j : Int) < (X.length : Int); omega⟩, if_neg hq]
      show ((⟨X.set (j : Int).toNat (putV (nthB X (j : Int).toNat) f).1, busy, nd, rank, now⟩ : Srv), (putV (nthB X (j : Int).toNat) f).2) = _
      rw [Int.toNat_natCast, hL5.out, hk5.out])
    clear m O6 P5 OX hGV hHj hle hcG5 f0 c0 hck B6 hqV
    generalize w5.setCell _ _ = w6 at P6 ⊢
    clear hlX
    generalize X.set j L5 = X' at P6 hFG' HV hcap'
    have e0 := cell_of_row w6 (w.heap.size + 2) 0 _ _ _ P6.res
    have e1 := cell_of_row w6 (w.heap.size + 2) 1 _ _ _ P6.res
    have e2 := cell_of_row w6 (w.heap.size + 2) 2 _ _ _ P6.res
    have e3 := cell_of_row w6 (w.heap.size + 2) 3 _ _ _ P6.res
    have e4 := cell_of_row w6 (w.heap.size + 2) 4 _ _ _ P6.res
    have k0 := frozen_of_row w6 (w.heap.size + 2) 0 _ _ P6.res
    have k1 := frozen_of_row w6 (w.heap.size + 2) 1 _ _ P6.res
    have k2 := frozen_of_row w6 (w.heap.size + 2) 2 _ _ P6.res
    have k3 := frozen_of_row w6 (w.heap.size + 2) 3 _ _ P6.res
    have k4 := frozen_of_row w6 (w.heap.size + 2) 4 _ _ P6.res
    go_wp2_with (refine P6.so.take rfl rfl rfl ?_)
    clear e0 e1 e2 e3 e4 k0 k1 k2 k3 k4
    obtain ⟨h5, O5, B5⟩ := P6.fin rfl (by first | exact hFG | exact hFG') _ rfl
    refine bodyPost_ret (v := .tuple #[svV (some ⟨G, 0, none⟩) X'.length cv busy nd rank now, .int .i64 k5]) ?_ rfl ⟨fun h => absurd h (by rw [hok.out]; simp), fun _ => ?_⟩
    · exact results_srv Tryz.results14 _ _ (w.heap.size + 2) _ _ rfl rfl h5 rfl
    · rw [HV.out]
      exact ⟨G, _, _, _, _, rfl, O5, ⟨by have := hFG.1; show w.heap.size ≤ G; omega, fun i hi => by have := hFG'.2 i hi; omega⟩, by first | exact hcap | exact hcap', B5⟩
  have h3 : decide (3 < busy) = true := decide_eq_true (by omega)
  by_cases hn0' : ¬ nd = (j : Int)
  · have hn' : (nd == (j : Int)) = false := beq_eq_false_iff_ne.2 hn0'
    refine region_class (QuS R w.heap.size q G cap a c cv X X busy nd rank now f af cf L H w) (by kernel_rfl) (by kernel_rfl) P.drew ?_
    repeat first
      | go_big_quiet_skip
      | (go_big_quiet_want
         apply Exists.intro
         refine ⟨fun u hu => ?_, ?_⟩
         · exact quietAt_val (hu.sv.took rfl rfl)
         simp only [Act.put, List.setIfInBounds_toArray, List.set_cons_zero, List.set_cons_succ]
         go_big_quiet_on)
      | (go_big_quiet_want
         apply Exists.intro
         refine ⟨fun u hu => ?_, ?_⟩
         · exact quietAt_val (frTookI (f := f) (af := af) (cf := cf) hu.frm rfl rfl)
         simp only [Act.put, List.setIfInBounds_toArray, List.set_cons_zero, List.set_cons_succ]
         go_big_quiet_on)
      | (go_big_quiet_want
         apply Exists.intro
         refine ⟨fun u hu => ?_, ?_⟩
         · apply quietAt_val
           have x0 := hu.sv.cell 0
           have x1 := hu.sv.cell 1
           have x2 := hu.sv.cell 2
           have x3 := hu.sv.cell 3
           go_simp
           rfl
         simp only [Act.put, List.setIfInBounds_toArray, List.set_cons_zero, List.set_cons_succ]
         go_big_quiet_on)
      | (go_big_quiet_want
         apply Exists.intro
         refine ⟨fun u hu => ?_, ?_⟩
         · apply quietAt_enter 46 #[frV f.id f.rm f.ln af f.D.length cf]
           · go_simp
           · refine (specFrameOk _ _ _ _ _ _ u hu.nums).mono ?_
             rintro e w2 ⟨he, b2⟩
             rw [hfo] at he
             exact ⟨he, hu.below b2⟩
         simp only [Act.put, List.setIfInBounds_toArray, List.set_cons_zero, List.set_cons_succ]
         go_big_quiet_on)
      | (go_big_quiet_want
         apply Exists.intro
         refine ⟨fun u hu => ?_, ?_⟩
         · apply quietAt_enter 47 #[frV f.id f.rm f.ln af f.D.length cf]
           · go_simp
           · refine (specRankOf _ _ _ _ _ _ u hu.nums).mono ?_
             rintro e w2 ⟨he, b2⟩
             exact ⟨he, hu.below b2⟩
         simp only [Act.put, List.setIfInBounds_toArray, List.set_cons_zero, List.set_cons_succ]
         go_big_quiet_on)
    refine wpQuiet_nil ?_
    intro W4 P4
    clear P h3 h30 hn' hn0' hfo
    obtain ⟨ga, oa, al, cl, ha0, hcG, hfr, -⟩ := P4.src.2 j hj
    subst ha0
    go_upto_region 8 with fail
    refine wp_region_held (S := fun u => u.heap[w.heap.size]? = some (.cells (svC (some ⟨ga, oa, none⟩) X.length c busy nd rank now) 26 (0, 0)) ∧ u.heap[w.heap.size + 1]? = some (.cells (frC f af cf) 35 (0, 0)) ∧ u.cell? ⟨ga, oa + j, none⟩ = some (.slice al (nthB X j).length cl)) (by kernel_rfl) ?_
    have B0 : Below W4.heap.size W4 { W4 with drawn := W4.drawn + 1 } := (Below.refl _ _).drew
    replace P4 := P4.below B0
    replace hcG := (B0.cell (World.block_lt_of_cell? _ _ hcG)).trans hcG
    replace hfr := hfr.below B0
    generalize ({ W4 with drawn := W4.drawn + 1 } : World) = V at P4 hcG hfr ⊢
    clear B0
    have hS := And.intro P4.arg (And.intro P4.frm hcG)
    refine h_take 0 47 (.pointer (some ⟨w.heap.size, 0, none⟩)) rfl rfl (by kernel_rfl) (by kernel_rfl) (by kernel_rfl) (fun _ _ _ h => h) rfl (fun u hu => by go_simp) hS ?_
    refine h_take 1 48 (.slice (some ⟨ga, oa, none⟩) X.length c) rfl rfl (by kernel_rfl) (by kernel_rfl) (by kernel_rfl) (fun _ _ _ h => h) rfl (fun u hu => by have c0 := cell_of_row u _ 0 _ _ _ hu.1; go_simp) hS ?_
    refine h_take 2 49 (.int .i64 (j : Int)) rfl rfl (by kernel_rfl) (by kernel_rfl) (by kernel_rfl) (fun _ _ _ h => h) rfl (fun u hu => by go_simp) hS ?_
    refine h_take 3 50 (.pointer (some ⟨ga, oa + j, none⟩)) rfl rfl (by kernel_rfl) (by kernel_rfl) (by kernel_rfl) (fun _ _ _ h => h) rfl (fun u hu => by go_simp) hS ?_
    refine h_take 4 51 (.slice al (nthB X j).length cl) rfl rfl (by kernel_rfl) (by kernel_rfl) (by kernel_rfl) (fun _ _ _ h => h) rfl (fun u hu => by have c0 := hu.2.2; go_simp) hS ?_
    refine h_take 5 52 (frV f.id f.rm f.ln af f.D.length cf) rfl rfl (by kernel_rfl) (by kernel_rfl) (by kernel_rfl) (fun _ _ _ h => h) rfl (fun u hu => frTookI hu.2.1 rfl rfl) hS ?_
    simp only [Act.put, List.setIfInBounds_toArray, List.set_cons_zero, List.set_cons_succ]
    refine h_call 6 53 48 #[.slice al (nthB X j).length cl, frV f.id f.rm f.ln af f.D.length cf] rfl rfl (by kernel_rfl) rfl (by go_simp) ?_
    refine (show Calls _ _ _ _ (PutO (putV (nthB X j) f) V) from specPutIn al (nthB X j) cl f.id f.rm f.ln af f.D cf V hfr P4.nums).mono ?_
    rintro e w5 ⟨M, g5, c5, rfl, hM, OB, b⟩
    have OX : OwnX False V.heap.size w5.heap.size (putV (nthB X j) f).1 (.slice (some ⟨g5, 0, none⟩) (putV (nthB X j) f).1.length c5) w5 := ⟨M, _, c5, rfl, hM, OB, fun h => h.elim, OB.under⟩
    have hle := b.size
    have hzV : w.heap.size + 3 ≤ V.heap.size := (Array.getElem?_eq_some_iff.1 P4.res).1
    have hHj : ∀ i, i < X.length → H i ≤ V.heap.size := fun i hi => (P4.box.out i hi).2.1
    have hGV := P4.box.lt
    have hqV : q < V.heap.size := (Array.getElem?_eq_some_iff.1 P4.out).1
    have P5 := P4.below b
    have hcG5 := (b.cell (World.block_lt_of_cell? _ _ hcG)).trans hcG
    clear OB hM b hfr P4 hS hcG
    generalize hL5 : (putV (nthB X j) f).1 = L5 at *
    generalize hk5 : (putV (nthB X j) f).2 = k5 at *
    replace hL5 := Lib.hid hL5
    replace hk5 := Lib.hid hk5
    have hS := And.intro P5.arg (And.intro P5.frm hcG5)
    refine ⟨_, rfl, hS, ?_⟩
    simp only [Act.put, List.setIfInBounds_toArray, List.set_cons_zero, List.set_cons_succ]
    refine h_take 7 46 (.tuple #[.slice (some ⟨g5, 0, none⟩) L5.length c5, .int .i64 k5]) rfl rfl (by kernel_rfl) (by kernel_rfl) (by kernel_rfl) (fun _ _ _ h => h) rfl (fun u hu => by go_simp) hS ?_
    refine h_take 8 54 (.slice (some ⟨g5, 0, none⟩) L5.length c5) rfl rfl (by kernel_rfl) (by kernel_rfl) (by kernel_rfl) (fun _ _ _ h => h) rfl (fun u hu => by go_simp) hS ?_
    refine h_take 9 55 (.int .i64 k5) rfl rfl (by kernel_rfl) (by kernel_rfl) (by kernel_rfl) (fun _ _ _ h => h) rfl (fun u hu => by go_simp) hS ?_
    refine h_take 10 9 (.slice (some ⟨g5, 0, none⟩) L5.length c5) rfl rfl (by kernel_rfl) (by kernel_rfl) (by kernel_rfl) (fun _ _ _ h => h) rfl (fun u hu => by go_simp) hS ?_
    refine h_take 11 10 (.int .i64 k5) rfl rfl (by kernel_rfl) (by kernel_rfl) (by kernel_rfl) (fun _ _ _ h => h) rfl (fun u hu => by go_simp) hS ?_
    simp only [Act.put, List.setIfInBounds_toArray, List.set_cons_zero, List.set_cons_succ]
    refine wpAnyH_done (by kernel_rfl) ?_ _
    clear hS
    have c0 := cell_of_row w5 q 0 _ _ _ P5.out
    obtain ⟨cur, hcb, hcs, -⟩ := P5.box.row
    have hck : ∃ x, w5.cell? ⟨G, j, none⟩ = some x := by
      rw [cell_of_row w5 _ _ _ _ _ hcb, Array.getElem?_eq_getElem (by omega)]
      exact ⟨_, rfl⟩
    obtain ⟨x, hck⟩ := hck
    have f0 := frozen_of_row w5 G j _ _ hcb
    clear hcb hcs cur
    go_upto_region 10 with fail
    have O6 := (P5.box.put (i := j) (lo := V.heap.size) (hi := w5.heap.size) (X' := X.set j L5) (v := .slice (some ⟨g5, 0, none⟩) L5.length c5) (by omega) (fun i hi hne => by rw [nthB_set hj, if_neg hne]) (by rw [nthB_set hj, if_pos rfl]; exact OX) hle (Nat.le_refl _) (.inl hGV) (fun i hi _ => .inl (hHj i hi))).less (F' := fun i => i < X.length) (fun i hi => .inl hi)
    have m := mid_cell w5 G j (.slice (some ⟨g5, 0, none⟩) L5.length c5)
    have hlX : (X.set j L5).length = X.length := List.length_set
    have hGl := hFG.1
    have B6 := P5.bel.trans (m.below (B := w.heap.size) (by omega) P5.bel.size)
    have P6 : QuS R w.heap.size q G cap (some ⟨ga, oa, none⟩) c cv X (X.set j L5) busy nd rank now f af cf (fun i => if i = j then V.heap.size else L i) (fun i => if i = j then w5.heap.size else H i) w (w5.setCell ⟨G, j, none⟩ (.slice (some ⟨g5, 0, none⟩) L5.length c5)) := by
      refine ⟨(m.block _ (Array.getElem?_eq_some_iff.1 P5.arg).1 (by omega)).trans P5.arg, (m.block _ (Array.getElem?_eq_some_iff.1 P5.frm).1 (by omega)).trans P5.frm, (m.block _ (Array.getElem?_eq_some_iff.1 P5.res).1 (by omega)).trans P5.res, ?_, ?_, hd0.below B6, hn0.below B6, B6⟩
      · rw [hlX]; exact (m.block _ (Array.getElem?_eq_some_iff.1 P5.out).1 (by omega)).trans P5.out
      · rw [hlX]; exact O6
    have hFG' : FromB (w.heap.size + 3) G (X.set j L5).length (fun i => if i = j then V.heap.size else L i) := ⟨hFG.1, fun i hi => by
      rw [hlX] at hi
      dsimp only
      split
      · exact hzV
      · exact hFG.2 i hi⟩
    have hcap' : (X.set j L5).length ≤ cap := by rw [hlX]; exact hcap
    have HV : Hid (putS ⟨X, busy, nd, rank, now⟩ (j : Int) f = (⟨X.set j L5, busy, nd, rank, now⟩, k5)) := Lib.hid (by
      unfold putS
      rw [if_pos hok.out, if_pos ⟨by omega, by show (j : Int) < (X.length : Int); omega⟩, if_neg hq]
      show ((⟨X.set (j : Int).toNat (putV (nthB X (j : Int).toNat) f).1, busy, nd, rank, now⟩ : Srv), (putV (nthB X (j : Int).toNat) f).2) = _
      rw [Int.toNat_natCast, hL5.out, hk5.out])
    clear m O6 P5 OX hGV hHj hle hcG5 f0 c0 hck B6 hqV
    generalize w5.setCell _ _ = w6 at P6 ⊢
    clear hlX
    generalize X.set j L5 = X' at P6 hFG' HV hcap'
    have e0 := cell_of_row w6 (w.heap.size + 2) 0 _ _ _ P6.res
    have e1 := cell_of_row w6 (w.heap.size + 2) 1 _ _ _ P6.res
    have e2 := cell_of_row w6 (w.heap.size + 2) 2 _ _ _ P6.res
    have e3 := cell_of_row w6 (w.heap.size + 2) 3 _ _ _ P6.res
    have e4 := cell_of_row w6 (w.heap.size + 2) 4 _ _ _ P6.res
    have k0 := frozen_of_row w6 (w.heap.size + 2) 0 _ _ P6.res
    have k1 := frozen_of_row w6 (w.heap.size + 2) 1 _ _ P6.res
    have k2 := frozen_of_row w6 (w.heap.size + 2) 2 _ _ P6.res
    have k3 := frozen_of_row w6 (w.heap.size + 2) 3 _ _ P6.res
    have k4 := frozen_of_row w6 (w.heap.size + 2) 4 _ _ P6.res
    go_wp2_with (refine P6.so.take rfl rfl rfl ?_)
    clear e0 e1 e2 e3 e4 k0 k1 k2 k3 k4
    obtain ⟨h5, O5, B5⟩ := P6.fin rfl (by first | exact hFG | exact hFG') _ rfl
    refine bodyPost_ret (v := .tuple #[svV (some ⟨G, 0, none⟩) X'.length cv busy nd rank now, .int .i64 k5]) ?_ rfl ⟨fun h => absurd h (by rw [hok.out]; simp), fun _ => ?_⟩
    · exact results_srv Tryz.results14 _ _ (w.heap.size + 2) _ _ rfl rfl h5 rfl
    · rw [HV.out]
      exact ⟨G, _, _, _, _, rfl, O5, ⟨by have := hFG.1; show w.heap.size ≤ G; omega, fun i hi => by have := hFG'.2 i hi; omega⟩, by first | exact hcap | exact hcap', B5⟩
  · have hn' : (nd == (j : Int)) = true := by rw [Classical.not_not.1 hn0']; exact beq_self_eq_true _
    have hr' : (rank == rankV f.id f.rm f.ln f.D) = false := beq_eq_false_iff_ne.2 fun h => hq ⟨by omega, Classical.not_not.1 hn0', h⟩
    refine region_class (QuS R w.heap.size q G cap a c cv X X busy nd rank now f af cf L H w) (by kernel_rfl) (by kernel_rfl) P.drew ?_
    repeat first
      | go_big_quiet_skip
      | (go_big_quiet_want
         apply Exists.intro
         refine ⟨fun u hu => ?_, ?_⟩
         · exact quietAt_val (hu.sv.took rfl rfl)
         simp only [Act.put, List.setIfInBounds_toArray, List.set_cons_zero, List.set_cons_succ]
         go_big_quiet_on)
      | (go_big_quiet_want
         apply Exists.intro
         refine ⟨fun u hu => ?_, ?_⟩
         · exact quietAt_val (frTookI (f := f) (af := af) (cf := cf) hu.frm rfl rfl)
         simp only [Act.put, List.setIfInBounds_toArray, List.set_cons_zero, List.set_cons_succ]
         go_big_quiet_on)
      | (go_big_quiet_want
         apply Exists.intro
         refine ⟨fun u hu => ?_, ?_⟩
         · apply quietAt_val
           have x0 := hu.sv.cell 0
           have x1 := hu.sv.cell 1
           have x2 := hu.sv.cell 2
           have x3 := hu.sv.cell 3
           go_simp
           rfl
         simp only [Act.put, List.setIfInBounds_toArray, List.set_cons_zero, List.set_cons_succ]
         go_big_quiet_on)
      | (go_big_quiet_want
         apply Exists.intro
         refine ⟨fun u hu => ?_, ?_⟩
         · apply quietAt_enter 46 #[frV f.id f.rm f.ln af f.D.length cf]
           · go_simp
           · refine (specFrameOk _ _ _ _ _ _ u hu.nums).mono ?_
             rintro e w2 ⟨he, b2⟩
             rw [hfo] at he
             exact ⟨he, hu.below b2⟩
         simp only [Act.put, List.setIfInBounds_toArray, List.set_cons_zero, List.set_cons_succ]
         go_big_quiet_on)
      | (go_big_quiet_want
         apply Exists.intro
         refine ⟨fun u hu => ?_, ?_⟩
         · apply quietAt_enter 47 #[frV f.id f.rm f.ln af f.D.length cf]
           · go_simp
           · refine (specRankOf _ _ _ _ _ _ u hu.nums).mono ?_
             rintro e w2 ⟨he, b2⟩
             exact ⟨he, hu.below b2⟩
         simp only [Act.put, List.setIfInBounds_toArray, List.set_cons_zero, List.set_cons_succ]
         go_big_quiet_on)
    refine wpQuiet_nil ?_
    intro W4 P4
    clear P h3 h30 hn' hn0' hr' hfo
    obtain ⟨ga, oa, al, cl, ha0, hcG, hfr, -⟩ := P4.src.2 j hj
    subst ha0
    go_upto_region 8 with fail
    refine wp_region_held (S := fun u => u.heap[w.heap.size]? = some (.cells (svC (some ⟨ga, oa, none⟩) X.length c busy nd rank now) 26 (0, 0)) ∧ u.heap[w.heap.size + 1]? = some (.cells (frC f af cf) 35 (0, 0)) ∧ u.cell? ⟨ga, oa + j, none⟩ = some (.slice al (nthB X j).length cl)) (by kernel_rfl) ?_
    have B0 : Below W4.heap.size W4 { W4 with drawn := W4.drawn + 1 } := (Below.refl _ _).drew
    replace P4 := P4.below B0
    replace hcG := (B0.cell (World.block_lt_of_cell? _ _ hcG)).trans hcG
    replace hfr := hfr.below B0
    generalize ({ W4 with drawn := W4.drawn + 1 } : World) = V at P4 hcG hfr ⊢
    clear B0
    have hS := And.intro P4.arg (And.intro P4.frm hcG)
    refine h_take 0 47 (.pointer (some ⟨w.heap.size, 0, none⟩)) rfl rfl (by kernel_rfl) (by kernel_rfl) (by kernel_rfl) (fun _ _ _ h => h) rfl (fun u hu => by go_simp) hS ?_
    refine h_take 1 48 (.slice (some ⟨ga, oa, none⟩) X.length c) rfl rfl (by kernel_rfl) (by kernel_rfl) (by kernel_rfl) (fun _ _ _ h => h) rfl (fun u hu => by have c0 := cell_of_row u _ 0 _ _ _ hu.1; go_simp) hS ?_
    refine h_take 2 49 (.int .i64 (j : Int)) rfl rfl (by kernel_rfl) (by kernel_rfl) (by kernel_rfl) (fun _ _ _ h => h) rfl (fun u hu => by go_simp) hS ?_
    refine h_take 3 50 (.pointer (some ⟨ga, oa + j, none⟩)) rfl rfl (by kernel_rfl) (by kernel_rfl) (by kernel_rfl) (fun _ _ _ h => h) rfl (fun u hu => by go_simp) hS ?_
    refine h_take 4 51 (.slice al (nthB X j).length cl) rfl rfl (by kernel_rfl) (by kernel_rfl) (by kernel_rfl) (fun _ _ _ h => h) rfl (fun u hu => by have c0 := hu.2.2; go_simp) hS ?_
    refine h_take 5 52 (frV f.id f.rm f.ln af f.D.length cf) rfl rfl (by kernel_rfl) (by kernel_rfl) (by kernel_rfl) (fun _ _ _ h => h) rfl (fun u hu => frTookI hu.2.1 rfl rfl) hS ?_
    simp only [Act.put, List.setIfInBounds_toArray, List.set_cons_zero, List.set_cons_succ]
    refine h_call 6 53 48 #[.slice al (nthB X j).length cl, frV f.id f.rm f.ln af f.D.length cf] rfl rfl (by kernel_rfl) rfl (by go_simp) ?_
    refine (show Calls _ _ _ _ (PutO (putV (nthB X j) f) V) from specPutIn al (nthB X j) cl f.id f.rm f.ln af f.D cf V hfr P4.nums).mono ?_
    rintro e w5 ⟨M, g5, c5, rfl, hM, OB, b⟩
    have OX : OwnX False V.heap.size w5.heap.size (putV (nthB X j) f).1 (.slice (some ⟨g5, 0, none⟩) (putV (nthB X j) f).1.length c5) w5 := ⟨M, _, c5, rfl, hM, OB, fun h => h.elim, OB.under⟩
    have hle := b.size
    have hzV : w.heap.size + 3 ≤ V.heap.size := (Array.getElem?_eq_some_iff.1 P4.res).1
    have hHj : ∀ i, i < X.length → H i ≤ V.heap.size := fun i hi => (P4.box.out i hi).2.1
    have hGV := P4.box.lt
    have hqV : q < V.heap.size := (Array.getElem?_eq_some_iff.1 P4.out).1
    have P5 := P4.below b
    have hcG5 := (b.cell (World.block_lt_of_cell? _ _ hcG)).trans hcG
    clear OB hM b hfr P4 hS hcG
    generalize hL5 : (putV (nthB X j) f).1 = L5 at *
    generalize hk5 : (putV (nthB X j) f).2 = k5 at *
    replace hL5 := Lib.hid hL5
    replace hk5 := Lib.hid hk5
    have hS := And.intro P5.arg (And.intro P5.frm hcG5)
    refine ⟨_, rfl, hS, ?_⟩
    simp only [Act.put, List.setIfInBounds_toArray, List.set_cons_zero, List.set_cons_succ]
    refine h_take 7 46 (.tuple #[.slice (some ⟨g5, 0, none⟩) L5.length c5, .int .i64 k5]) rfl rfl (by kernel_rfl) (by kernel_rfl) (by kernel_rfl) (fun _ _ _ h => h) rfl (fun u hu => by go_simp) hS ?_
    refine h_take 8 54 (.slice (some ⟨g5, 0, none⟩) L5.length c5) rfl rfl (by kernel_rfl) (by kernel_rfl) (by kernel_rfl) (fun _ _ _ h => h) rfl (fun u hu => by go_simp) hS ?_
    refine h_take 9 55 (.int .i64 k5) rfl rfl (by kernel_rfl) (by kernel_rfl) (by kernel_rfl) (fun _ _ _ h => h) rfl (fun u hu => by go_simp) hS ?_
    refine h_take 10 9 (.slice (some ⟨g5, 0, none⟩) L5.length c5) rfl rfl (by kernel_rfl) (by kernel_rfl) (by kernel_rfl) (fun _ _ _ h => h) rfl (fun u hu => by go_simp) hS ?_
    refine h_take 11 10 (.int .i64 k5) rfl rfl (by kernel_rfl) (by kernel_rfl) (by kernel_rfl) (fun _ _ _ h => h) rfl (fun u hu => by go_simp) hS ?_
    simp only [Act.put, List.setIfInBounds_toArray, List.set_cons_zero, List.set_cons_succ]
    refine wpAnyH_done (by kernel_rfl) ?_ _
    clear hS
    have c0 := cell_of_row w5 q 0 _ _ _ P5.out
    obtain ⟨cur, hcb, hcs, -⟩ := P5.box.row
    have hck : ∃ x, w5.cell? ⟨G, j, none⟩ = some x := by
      rw [cell_of_row w5 _ _ _ _ _ hcb, Array.getElem?_eq_getElem (by omega)]
      exact ⟨_, rfl⟩
    obtain ⟨x, hck⟩ := hck
    have f0 := frozen_of_row w5 G j _ _ hcb
    clear hcb hcs cur
    go_upto_region 10 with fail
    have O6 := (P5.box.put (i := j) (lo := V.heap.size) (hi := w5.heap.size) (X' := X.set j L5) (v := .slice (some ⟨g5, 0, none⟩) L5.length c5) (by omega) (fun i hi hne => by rw [nthB_set hj, if_neg hne]) (by rw [nthB_set hj, if_pos rfl]; exact OX) hle (Nat.le_refl _) (.inl hGV) (fun i hi _ => .inl (hHj i hi))).less (F' := fun i => i < X.length) (fun i hi => .inl hi)
    have m := mid_cell w5 G j (.slice (some ⟨g5, 0, none⟩) L5.length c5)
    have hlX : (X.set j L5).length = X.length := List.length_set
    have hGl := hFG.1
    have B6 := P5.bel.trans (m.below (B := w.heap.size) (by omega) P5.bel.size)
    have P6 : QuS R w.heap.size q G cap (some ⟨ga, oa, none⟩) c cv X (X.set j L5) busy nd rank now f af cf (fun i => if i = j then V.heap.size else L i) (fun i => if i = j then w5.heap.size else H i) w (w5.setCell ⟨G, j, none⟩ (.slice (some ⟨g5, 0, none⟩) L5.length c5)) := by
      refine ⟨(m.block _ (Array.getElem?_eq_some_iff.1 P5.arg).1 (by omega)).trans P5.arg, (m.block _ (Array.getElem?_eq_some_iff.1 P5.frm).1 (by omega)).trans P5.frm, (m.block _ (Array.getElem?_eq_some_iff.1 P5.res).1 (by omega)).trans P5.res, ?_, ?_, hd0.below B6, hn0.below B6, B6⟩
      · rw [hlX]; exact (m.block _ (Array.getElem?_eq_some_iff.1 P5.out).1 (by omega)).trans P5.out
      · rw [hlX]; exact O6
    have hFG' : FromB (w.heap.size + 3) G (X.set j L5).length (fun i => if i = j then V.heap.size else L i) := ⟨hFG.1, fun i hi => by
      rw [hlX] at hi
      dsimp only
      split
      · exact hzV
      · exact hFG.2 i hi⟩
    have hcap' : (X.set j L5).length ≤ cap := by rw [hlX]; exact hcap
    have HV : Hid (putS ⟨X, busy, nd, rank, now⟩ (j : Int) f = (⟨X.set j L5, busy, nd, rank, now⟩, k5)) := Lib.hid (by
      unfold putS
      rw [if_pos hok.out, if_pos ⟨by omega, by show (j : Int) < (X.length : Int); omega⟩, if_neg hq]
      show ((⟨X.set (j : Int).toNat (putV (nthB X (j : Int).toNat) f).1, busy, nd, rank, now⟩ : Srv), (putV (nthB X (j : Int).toNat) f).2) = _
      rw [Int.toNat_natCast, hL5.out, hk5.out])
    clear m O6 P5 OX hGV hHj hle hcG5 f0 c0 hck B6 hqV
    generalize w5.setCell _ _ = w6 at P6 ⊢
    clear hlX
    generalize X.set j L5 = X' at P6 hFG' HV hcap'
    have e0 := cell_of_row w6 (w.heap.size + 2) 0 _ _ _ P6.res
    have e1 := cell_of_row w6 (w.heap.size + 2) 1 _ _ _ P6.res
    have e2 := cell_of_row w6 (w.heap.size + 2) 2 _ _ _ P6.res
    have e3 := cell_of_row w6 (w.heap.size + 2) 3 _ _ _ P6.res
    have e4 := cell_of_row w6 (w.heap.size + 2) 4 _ _ _ P6.res
    have k0 := frozen_of_row w6 (w.heap.size + 2) 0 _ _ P6.res
    have k1 := frozen_of_row w6 (w.heap.size + 2) 1 _ _ P6.res
    have k2 := frozen_of_row w6 (w.heap.size + 2) 2 _ _ P6.res
    have k3 := frozen_of_row w6 (w.heap.size + 2) 3 _ _ P6.res
    have k4 := frozen_of_row w6 (w.heap.size + 2) 4 _ _ P6.res
    go_wp2_with (refine P6.so.take rfl rfl rfl ?_)
    clear e0 e1 e2 e3 e4 k0 k1 k2 k3 k4
    obtain ⟨h5, O5, B5⟩ := P6.fin rfl (by first | exact hFG | exact hFG') _ rfl
    refine bodyPost_ret (v := .tuple #[svV (some ⟨G, 0, none⟩) X'.length cv busy nd rank now, .int .i64 k5]) ?_ rfl ⟨fun h => absurd h (by rw [hok.out]; simp), fun _ => ?_⟩
    · exact results_srv Tryz.results14 _ _ (w.heap.size + 2) _ _ rfl rfl h5 rfl
    · rw [HV.out]
      exact ⟨G, _, _, _, _, rfl, O5, ⟨by have := hFG.1; show w.heap.size ≤ G; omega, fun i hi => by have := hFG'.2 i hi; omega⟩, by first | exact hcap | exact hcap', B5⟩
theorem results_srv' {fn : Func} {p q : Tmp} (h : fn.results = #[.cell p 26, .tmp q]) (tmps : Array Value) (w : World) (g : Nat) (C : Array Value) (v : Value) (hp : tmps.getD p undef = .pointer (some ⟨g, 0, none⟩)) (hq : tmps.getD q undef = v)
    (hg : w.heap[g]? = some (.cells C 26 (0, 0))) (hC : C.size = 5) : (results fn tmps).run Tryz.prog w = .ok (.tuple #[.agg C, v]) w := results_srv h tmps w g C v hp hq hg hC
/-- What NewServer answers. -/
def newS (n : Int) : Srv := ⟨List.replicate n.toNat [], 0, 0, 0, 0⟩
theorem newS_len (n : Int) : (newS n).bx.length = n.toNat := List.length_replicate
theorem newS_nth (n : Int) (j : Nat) : nthB (newS n).bx j = [] := by
  unfold newS nthB
  rw [List.getD_eq_getElem?_getD, List.getElem?_replicate]
  split <;> rfl
set_option maxHeartbeats 4000000 in
/-- spec.NewServer. -/
theorem specNewServer (n : Int) (w : World) :
    Calls Tryz.prog 86 #[.int .i64 n] w fun e w' => (rng n 2 6 = false → e = .returned (.tuple #[svV none 0 0 0 0 0 0, .bool false]) ∧ Below w.heap.size w w') ∧ (rng n 2 6 = true → PmO (newS n) (.bool true) w e w') := by
  obtain ⟨HR, B⟩ := one_sv w (svC none 0 0 0 0 0 0) 26
  have hz : (w.alloc (.cells (svC none 0 0 0 0 0 0) 26)).heap.size = w.heap.size + 1 := by simp
  go_enter Tryz.func86, Tryz.ntmps86
  go_upto_region 1 with fail
  generalize w.alloc _ = W at HR B hz ⊢
  go_wp2_with fail
  refine (l1InR _ _ _ _).mono ?_
  rintro e w1 ⟨rfl, rfl⟩
  cases hr : rng n 2 6
  · have e0 := cell_of_row W w.heap.size 0 _ _ _ HR
    have e1 := cell_of_row W w.heap.size 1 _ _ _ HR
    have e2 := cell_of_row W w.heap.size 2 _ _ _ HR
    have e3 := cell_of_row W w.heap.size 3 _ _ _ HR
    have e4 := cell_of_row W w.heap.size 4 _ _ _ HR
    have k0 := frozen_of_row W w.heap.size 0 _ _ HR
    have k1 := frozen_of_row W w.heap.size 1 _ _ HR
    have k2 := frozen_of_row W w.heap.size 2 _ _ HR
    have k3 := frozen_of_row W w.heap.size 3 _ _ HR
    have k4 := frozen_of_row W w.heap.size 4 _ _ HR
    replace hr := Lib.hid hr
    go_wp2_with fail
    obtain ⟨h5, m⟩ := set5 HR (.slice none 0 0) (.int .i64 0) (.int .i64 0) (.int .i64 0) (.int .i64 0)
    clear e0 e1 e2 e3 e4 k0 k1 k2 k3 k4
    generalize World.setCell _ _ _ = w5 at h5 m ⊢
    refine bodyPost_ret (v := .tuple #[svV none 0 0 0 0 0 0, .bool false]) ?_ rfl ⟨fun _ => ⟨rfl, B.trans (m.below (by omega) B.size)⟩, fun h => absurd h (by rw [hr.out]; simp)⟩
    exact results_srv Tryz.results86 _ _ w.heap.size _ _ rfl rfl h5 rfl
  · have h26 := rng_iff.1 hr
    obtain ⟨k, rfl⟩ : ∃ k : Nat, n = (k : Int) := ⟨n.toNat, by omega⟩
    replace hr := Lib.hid hr
    have hmk := make_boxes k (by omega)
    go_upto_region 3 with fail
    have e0 := cell_of_row _ w.heap.size 0 _ _ _ HR
    have e1 := cell_of_row _ w.heap.size 1 _ _ _ HR
    have e2 := cell_of_row _ w.heap.size 2 _ _ _ HR
    have e3 := cell_of_row _ w.heap.size 3 _ _ _ HR
    have e4 := cell_of_row _ w.heap.size 4 _ _ _ HR
    have k0 := frozen_of_row _ w.heap.size 0 _ _ HR
    have k1 := frozen_of_row _ w.heap.size 1 _ _ HR
    have k2 := frozen_of_row _ w.heap.size 2 _ _ HR
    have k3 := frozen_of_row _ w.heap.size 3 _ _ HR
    have k4 := frozen_of_row _ w.heap.size 4 _ _ HR
    go_wp2_with fail
    clear e0 e1 e2 e3 e4 k0 k1 k2 k3 k4 hmk
    obtain ⟨h5, m⟩ := set5 HR (.slice (some ⟨w.heap.size + 1, 0, none⟩) k k) (.int .i64 0) (.int .i64 0) (.int .i64 0) (.int .i64 0)
    have hsz : (((((W.setCell ⟨w.heap.size, 0, none⟩ (.slice (some ⟨w.heap.size + 1, 0, none⟩) k k)).setCell ⟨w.heap.size, 1, none⟩ (.int .i64 0)).setCell ⟨w.heap.size, 2, none⟩ (.int .i64 0)).setCell ⟨w.heap.size, 3, none⟩ (.int .i64 0)).setCell ⟨w.heap.size, 4, none⟩ (.int .i64 0)).heap.size = w.heap.size + 1 := by simpa using hz
    generalize World.setCell _ _ _ = W5 at h5 m hsz ⊢
    have ba := below_more (Below.refl W5.heap.size W5) (.cells (madeCells #[.slice none 0 0] k) 64)
    have hG := heap_alloc_new W5 (.cells (madeCells #[.slice none 0 0] k) 64)
    have hza : (W5.alloc (.cells (madeCells #[.slice none 0 0] k) 64)).heap.size = w.heap.size + 2 := by simp; omega
    rw [hsz] at hG
    have B1 := Below.then2 (B.trans (m.below (B := w.heap.size) (Nat.le_refl _) B.size)) ba
    have h6 := blkV h5 ba
    have hl : (newS (k : Int)).bx.length = k := by rw [newS_len]; omega
    clear ba h5 m hsz HR B hz
    generalize W5.alloc _ = W6 at hG hza B1 h6 ⊢
    refine bodyPost_ret (v := .tuple #[svV (some ⟨w.heap.size + 1, 0, none⟩) k k 0 0 0 0, .bool true]) ?_ rfl ⟨fun h => absurd h (by rw [hr.out]; simp), fun _ => ⟨w.heap.size + 1, k, k, fun _ => w.heap.size + 1, fun _ => w.heap.size + 1, by rw [hl]; rfl, ⟨⟨_, hG, by simp [madeCells], fun j hj => ⟨.slice none 0 0, ?_, by rw [newS_nth]; exact OwnX.nil _ _ _ _⟩⟩, fun j hj => ⟨Nat.le_refl _, (show w.heap.size + 1 ≤ W6.heap.size by omega), .inr (Nat.le_refl _)⟩, fun i j hi hj hij => .inl (Nat.le_refl _)⟩, ⟨by omega, fun j hj => Nat.le_succ _⟩, by rw [hl]; exact Nat.le_refl _, B1⟩⟩
    · exact results_srv Tryz.results86 _ _ w.heap.size _ _ rfl rfl h6 rfl
    · rw [hl] at hj
      rw [← Array.getElem?_toList, toList_madeCells_one, List.getElem?_replicate, if_pos hj]
end Go.Proofs.YtnhmecabppaboaaGreat

/- A server that a call hands back: its boxes, none or in memory of the call's own; marks on it. -/

set_option linter.unusedVariables false
set_option linter.unusedSimpArgs false
set_option maxRecDepth 20000
namespace Go.Proofs.YtnhmecabppaboaaGreat
open Go.RowKit

structure AnsB (Q : Prop) (B : Nat) (a : Option Addr) (X : List (List Frm)) (L H : Nat → Nat) (w : World) : Prop where
  own : X = [] ∨ ∃ G cap, a = some ⟨G, 0, none⟩ ∧ BoxO Q G cap (fun j => j < X.length) X L H w
  low : (∀ G, a = some ⟨G, 0, none⟩ → B ≤ G) ∧ ∀ j, j < X.length → B ≤ L j
section
variable {Q : Prop} {Y : Nat → Prop} {B : Nat} {a : Option Addr} {X : List (List Frm)} {L H : Nat → Nat} {w w' : World}
theorem AnsB.kp (h : AnsB Q B a X L H w) (k : Kp Y w w') (hy : ∀ q, B ≤ q → q < w.heap.size → Y q) : AnsB Q B a X L H w' := by
  refine ⟨?_, h.low⟩
  rcases h.own with e | ⟨G, cap, ha, ho⟩
  · exact .inl e
  · exact .inr ⟨G, cap, ha, ho.kp k (hy G (h.low.1 G ha) ho.lt) fun j hj q h1 h2 => hy q (Nat.le_trans (h.low.2 j hj) h1) (Nat.lt_of_lt_of_le h2 (ho.out j hj).2.1)⟩
theorem AnsB.below (h : AnsB Q B a X L H w) (b : Below w.heap.size w w') : AnsB Q B a X L H w' := h.kp (Y := fun _ => True) (Kp.ofBelow b) fun _ _ _ => trivial
theorem AnsB.sep {lo hi : Nat} (h : AnsB Q B a X L H w) (m : Mid lo hi w w') (hs : hi ≤ B ∨ w.heap.size ≤ lo) : AnsB Q B a X L H w' :=
  h.kp (Y := fun q => q < lo ∨ hi ≤ q) ⟨m.size, fun q hq hl => m.block q hl hq, m.os, m.tape, m.output⟩ fun q h1 h2 => by show q < lo ∨ hi ≤ q; omega
/-- Something turns that is not theirs. -/
theorem AnsB.sep2 {lo hi E : Nat} (h : AnsB Q B a X L H w) (m : Mid lo hi w w') (hE : (∀ G, a = some ⟨G, 0, none⟩ → G < E) ∧ ∀ j, j < X.length → H j ≤ E) (hs : hi ≤ B ∨ E ≤ lo) : AnsB Q B a X L H w' := by
  refine ⟨?_, h.low⟩
  rcases h.own with e | ⟨G, cap, ha, ho⟩
  · exact .inl e
  · have h1 := h.low.1 G ha
    have h2 := hE.1 G ha
    exact .inr ⟨G, cap, ha, ho.kp (Y := fun q => q < lo ∨ hi ≤ q) ⟨m.size, fun q hq hl => m.block q hl hq, m.os, m.tape, m.output⟩ (by show G < lo ∨ hi ≤ G; omega) fun j hj q h3 h4 => by
      have := h.low.2 j hj
      have := hE.2 j hj
      show q < lo ∨ hi ≤ q
      omega⟩
theorem AnsB.top (h : AnsB Q B a X L H w) (hX : X ≠ [] ∨ a = none) : (∀ G, a = some ⟨G, 0, none⟩ → G < w.heap.size) ∧ ∀ j, j < X.length → H j ≤ w.heap.size := by
  rcases h.own with e | ⟨G, cap, ha, ho⟩
  · subst e
    rcases hX with hX | hX
    · exact absurd rfl hX
    · subst hX
      exact ⟨fun G hG => (by cases hG), fun j hj => absurd hj (Nat.not_lt_zero _)⟩
  · exact ⟨fun G' hG' => by rw [ha] at hG'; cases hG'; exact ho.lt, fun j hj => (ho.out j hj).2.1⟩
theorem AnsB.bxs (h : AnsB Q B a X L H w) (hm : X.length ≤ 2000000) (hs : ∀ j, j < X.length → (nthB X j).length ≤ 2000000) : Bxs Adr a X w := by
  rcases h.own with rfl | ⟨G, cap, rfl, ho⟩
  · exact Bxs.nil _ _
  · exact ho.bxs hm hs
theorem AnsB.nil (Q : Prop) (B : Nat) (L H : Nat → Nat) (w : World) : AnsB Q B none [] L H w := ⟨.inl rfl, fun G hG => (by cases hG), fun j hj => absurd hj (Nat.not_lt_zero _)⟩
end
/-- laws.markServer of a server that was handed back. -/
theorem markAns (B hi : Nat) (a : Option Addr) (X : List (List Frm)) (L H : Nat → Nat) (c : Nat) (busy node rank now : Int) (k0 : Int) (w : World) (HO : AnsB True B a X L H w) (hh : ∀ j, j < X.length → H j ≤ hi) (h : roomX X ≤ 1048577) (h0 : 0 ≤ k0) (h1 : k0 ≤ 80000000) :
    Calls Tryz.prog 23 #[svV a X.length c busy node rank now, .int .i64 k0] w fun e w' => e = .returned (.int .i64 (kB k0 X X.length)) ∧ AnsB True B a (mkB k0 X X.length) L H w' ∧ Mid B hi w w' := by
  have hlow := HO.low
  rcases HO.own with rfl | ⟨G, cap, rfl, HB⟩
  · obtain ⟨HC, b⟩ := one_sv w (svC a 0 c busy node rank now) 26
    go_enter Tryz.func23, Tryz.ntmps23
    go_upto_region 1 with fail
    generalize World.alloc _ _ = W at HC b ⊢
    have c0 := cell_of_row W _ 0 _ _ _ HC
    have hmk : ∀ u, Calls Tryz.prog 59 #[.slice a 0 c, .int .i64 k0] u fun e w' => e = .returned (.int .i64 k0) ∧ u = w' := fun u => by
      go_enter Tryz.func59, Tryz.ntmps59
      go_wp2_with fail
      go_loopw [1, 5] (fun q i wr => q = .int .i64 k0 ∧ i = .int .i64 0 ∧ u = wr) (fun _ i _ => 0)
      case atStart => exact ⟨rfl, rfl, rfl⟩
      case round =>
        obtain ⟨rfl, rfl, rfl⟩ := hrel
        go_wp2_with fail
        go_ret
        exact ⟨rfl, rfl⟩
    go_wp2_with fail
    refine (hmk _).mono ?_
    rintro e w2 ⟨rfl, rfl⟩
    clear c0 HC hmk
    go_wp2_with fail
    go_ret
    exact ⟨rfl, ⟨.inl rfl, hlow.1, fun j hj => absurd hj (Nat.not_lt_zero _)⟩, Mid.ofBelow b⟩
  · refine (markSrv G cap X L H c busy node rank now k0 w HB h h0 h1).mono ?_
    rintro e w' ⟨he, ho, k⟩
    refine ⟨he, ⟨.inr ⟨G, cap, rfl, ?_⟩, hlow.1, fun j hj => hlow.2 j (by rw [mkB_len] at hj; exact hj)⟩, ⟨k.os, k.tape, k.output, k.size, fun q hq hl => k.block q (fun j hj => ?_) hq⟩⟩
    · rw [mkB_len]; exact ho
    · have := hlow.2 j hj
      have := hh j hj
      omega
theorem roomX_small {X : List (List Frm)} (h : ∀ j, j < X.length → Lean16 (nthB X j)) : ∀ k, k ≤ X.length → sumX X k ≤ 144 * k
  | 0, _ => by rw [sumX_zero]; omega
  | k + 1, hk => by
    have h1 := roomX_small h k (by omega)
    have h2 := h k (by omega)
    have h3 := h2.room (nthB X k).length (Nat.le_refl _)
    have h4 := h2.1
    rw [sumX_succ X k (by omega)]
    omega
theorem boxes_lean {X : List (List Frm)} (h : boxesB X = true) : X.length ≤ 6 ∧ ∀ j, j < X.length → Lean16 (nthB X j) := by
  obtain ⟨h1, h2, h3⟩ := boxesB_iff.1 h
  exact ⟨h2, fun j hj => Lean16.box (h3 j hj)⟩
theorem put_lean (s : Srv) (node : Int) (f : Frm) : (putS s node f).1.bx.length ≤ 6 ∧ ∀ j, j < (putS s node f).1.bx.length → Lean16 (nthB (putS s node f).1.bx j) := by
  unfold putS
  split
  · rename_i h
    have hb := boxes_lean (srvB_iff.1 h).1
    split
    · rename_i hn
      split
      · exact hb
      · refine ⟨by show (s.bx.set _ _).length ≤ 6; rw [List.length_set]; exact hb.1, fun j hj => ?_⟩
        have hj' : j < s.bx.length := by
          have : (s.bx.set node.toNat (putV (nthB s.bx node.toNat) f).1).length = _ := List.length_set
          rw [← this]; exact hj
        show Lean16 (nthB (s.bx.set node.toNat (putV (nthB s.bx node.toNat) f).1) j)
        rw [nthB_set (by omega)]
        split
        · exact lean_put _ _
        · exact hb.2 j hj'
    · exact hb
  · exact ⟨Nat.zero_le _, fun j hj => absurd hj (Nat.not_lt_zero _)⟩
theorem put_len {s : Srv} (hs : srvB s = true) (node : Int) (f : Frm) : 2 ≤ (putS s node f).1.bx.length := by
  have h2 := (boxesB_iff.1 (srvB_iff.1 hs).1).1
  unfold putS
  rw [if_pos hs]
  split
  · split
    · exact h2
    · show 2 ≤ (s.bx.set _ _).length
      rw [List.length_set]; exact h2
  · exact h2
/-- What a call hands back beside a number. -/
def SaO (Q : Prop) (X : List (List Frm)) (busy node rank now : Int) (k : Value) (w : World) (e : Ending) (w' : World) : Prop :=
  ∃ a c L H, e = .returned (.tuple #[svV a X.length c busy node rank now, k]) ∧ AnsB Q w.heap.size a X L H w' ∧ (X ≠ [] ∨ a = none) ∧ Below w.heap.size w w'
theorem PuR.sa {s : Srv} {node : Int} {f : Frm} {w : World} {e : Ending} {w' : World} (h : PuR s node f w e w') : SaO True (putS s node f).1.bx (putS s node f).1.busy (putS s node f).1.node (putS s node f).1.rank (putS s node f).1.now (.int .i64 (putS s node f).2) w e w' := by
  cases hs : srvB s
  · obtain ⟨he, b⟩ := h.1 hs
    have e1 : putS s node f = (srZ, 3) := by unfold putS; rw [if_neg (by rw [hs]; simp)]
    rw [e1]
    exact ⟨none, 0, fun _ => 0, fun _ => 0, he, AnsB.nil _ _ _ _ _, .inr rfl, b⟩
  · obtain ⟨G, L, H, he, ho, hF, b⟩ := h.2 hs
    refine ⟨_, _, L, H, he, ⟨.inr ⟨G, _, rfl, ho⟩, fun G' hG' => (by cases hG'; exact hF.1), hF.2⟩, .inl fun h0 => ?_, b⟩
    have := put_len hs node f
    rw [h0] at this
    simp at this
theorem PmR.sa {s : Srv} {node : Int} {f : Frm} {w : World} {e : Ending} {w' : World} (h : PmR s node f w e w') : SaO False (putS s node f).1.bx (putS s node f).1.busy (putS s node f).1.node (putS s node f).1.rank (putS s node f).1.now (.int .i64 (putS s node f).2) w e w' := by
  cases hs : srvB s
  · obtain ⟨he, b⟩ := h.1 hs
    have e1 : putS s node f = (srZ, 3) := by unfold putS; rw [if_neg (by rw [hs]; simp)]
    rw [e1]
    exact ⟨none, 0, fun _ => 0, fun _ => 0, he, AnsB.nil _ _ _ _ _, .inr rfl, b⟩
  · obtain ⟨G, cap, c, L, H, he, ho, hF, -, b⟩ := h.2 hs
    refine ⟨_, _, L, H, he, ⟨.inr ⟨G, _, rfl, ho⟩, fun G' hG' => (by cases hG'; exact hF.1), hF.2⟩, .inl fun h0 => ?_, b⟩
    have := put_len hs node f
    rw [h0] at this
    simp at this
end Go.Proofs.YtnhmecabppaboaaGreat
