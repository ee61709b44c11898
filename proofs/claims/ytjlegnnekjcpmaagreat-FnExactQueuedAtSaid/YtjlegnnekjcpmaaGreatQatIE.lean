/- impl.QueuedAt. -/
import Derived.Test.YtjlegnnekjcpmaaGreatCpyBE
import Derived.Test.YtjlegnnekjcpmaaGreatQatPE
set_option linter.unusedVariables false
set_option linter.unusedSimpArgs false
set_option maxRecDepth 20000
namespace Go.Proofs.YtjlegnnekjcpmaaGreat
open Go.RowKit

/-- A slice of nodes that the call owns, or none. -/
def OwnNs (B hi : Nat) (a : Option Addr) (c : Nat) (N : List Nd) (w : World) : Prop := (a = none ∧ c = 0 ∧ N = []) ∨ ∃ G, a = some ⟨G, 0, none⟩ ∧ OwnN B G hi c N.length N w
def QatO (N : List Nd) (now k : Int) (w : World) (e : Ending) (w' : World) : Prop :=
  ∃ a c, e = .returned (.tuple #[buV a N.length c now, .int .i64 k]) ∧ OwnNs w.heap.size w'.heap.size a c N w' ∧ Below w.heap.size w w'
theorem rowN_range {B G hi cap k : Nat} {N : List Nd} {P : Nat → NdP} {J : Nat → NdJ} {L H : Nat → Nat} {MB MF : Nat → List (Frm × Value)} {cur : Array Value} {w : World} (h : RowN B G hi cap k N P J L H MB MF cur w) {j : Nat} (hj : j < k) : w.rangeAt G (j * 18) (ndC (nthN N j) (P j)).toList := fun i v hv => by
  rw [cell_of_row w G _ _ _ _ h.blk]; exact h.cel j hj i v hv
set_option maxHeartbeats 8000000 in
/-- impl.QueuedAt. -/
theorem implQueuedAt (R : NdP → Prop) (a : Option Addr) (N : List Nd) (c : Nat) (now node : Int) (f : Frm) (af : Option Addr) (cf : Nat) (w : World) (hd : Nds R a N w) (hn : Nums af f.D w) :
    Calls Tryz.prog 29 #[buV a N.length c now, .int .i64 node, frV f.id f.rm f.ln af f.D.length cf] w (QatO (qatN N now node f) (qatT N now) (qatK N now node f) w) := by
  have hm := hd.1
  have HQN : Hid (qatN N now node f = if busB N now = true then (if rng node 0 ((N.length : Int) - 1) = true then N.set node.toNat (queA (nthN N node.toNat) f).1 else N) else []) := Lib.hid rfl
  have HQT : Hid (qatT N now = if busB N now = true then now else 0) := Lib.hid rfl
  have HQK : Hid (qatK N now node f = if busB N now = true then (if rng node 0 ((N.length : Int) - 1) = true then (queA (nthN N node.toNat) f).2 else 3) else 3) := Lib.hid rfl
  obtain ⟨HC, HF, HR, B⟩ := three_made w (buC a N.length c now) (frC f af cf) #[.slice none 0 0, .int .i64 0] 29 50 29
  go_enter Tryz.func29, Tryz.ntmps29
  go_upto_region 1 with fail
  have hs3 : (((w.alloc (.cells (buC a N.length c now) 29)).alloc (.cells (frC f af cf) 50)).alloc (.cells #[.slice none 0 0, .int .i64 0] 29)).heap.size = w.heap.size + 3 := by simp
  generalize ((w.alloc (.cells (buC a N.length c now) 29)).alloc (.cells (frC f af cf) 50)).alloc (.cells #[.slice none 0 0, .int .i64 0] 29) = W at HC HF HR B hs3 ⊢
  have c0 := cell_of_row W _ 0 _ _ _ HC
  have c1 := cell_of_row W _ 1 _ _ _ HC
  go_wp2_with fail
  refine (implBusOk R a N c now _ (hd.below B)).mono ?_
  rintro e w1 ⟨rfl, b⟩
  replace HC := blkB HC b
  replace HF := blkB HF b
  replace HR := blkB HR b
  replace B := Below.then2 B b
  replace hs3 : w.heap.size + 3 ≤ w1.heap.size := by have := b.size; omega
  clear b c0 c1
  cases hok : busB N now
  · have d0 := cell_of_row w1 _ 0 _ _ _ HR
    have d1 := cell_of_row w1 _ 1 _ _ _ HR
    have f0 := frozen_of_row w1 (w.heap.size + 2) 0 _ _ HR
    have f1 := frozen_of_row w1 (w.heap.size + 2) 1 _ _ HR
    have hN : qatN N now node f = [] := by rw [HQN.out, hok]; rfl
    have hT : qatT N now = 0 := by rw [HQT.out, hok]; rfl
    have hK : qatK N now node f = 3 := by rw [HQK.out, hok]; rfl
    clear HQN HQT HQK hok
    go_wp2_with fail
    have m : Mid (w.heap.size + 2) (w.heap.size + 3) w1 ((w1.setCell ⟨w.heap.size + 2, 0, none⟩ (.slice none 0 0)).setCell ⟨w.heap.size + 2, 1, none⟩ (.int .i64 0)) := (mid_cell _ _ _ _).trans (mid_cell _ _ _ _)
    have hr3 := heap_setCell_same _ _ 1 _ _ (.int .i64 0) (heap_setCell_same w1 _ 0 _ _ (.slice none 0 0) HR)
    have B5 := B.trans (m.below (B := w.heap.size) (by omega) B.size)
    generalize (w1.setCell _ _).setCell _ _ = w5 at hr3 B5 ⊢
    refine bodyPost_ret (v := .tuple #[buV none 0 0 0, .int .i64 3]) ?_ rfl ?_
    · exact results_bus Tryz.results29 _ _ (w.heap.size + 2) _ _ rfl rfl hr3 rfl
    · rw [hN, hT, hK]
      exact ⟨none, 0, rfl, .inl ⟨rfl, rfl, rfl⟩, B5⟩
  · have hb6 := busB_iff.1 hok
    have c0 := cell_of_row w1 _ 0 _ _ _ HC
    have c1 := cell_of_row w1 _ 1 _ _ _ HC
    go_wp2_with fail
    refine (implCopiedBus R a N c now _ (hd.below B) hb6.2.2.2 hb6.2.1).mono ?_
    rintro e w2 ⟨G, rfl, O, b⟩
    have hw1 : w.heap.size + 3 ≤ w1.heap.size := hs3
    replace HC := blkB HC b
    replace HF := blkB HF b
    replace HR := blkB HR b
    replace B := Below.then2 B b
    replace hs3 : w.heap.size + 3 ≤ w2.heap.size := by have := b.size; omega
    clear b c0 c1
    have c0 := cell_of_row w2 _ 0 _ _ _ HC
    have c1 := cell_of_row w2 _ 1 _ _ _ HC
    have f0 := frozen_of_row w2 w.heap.size 0 _ _ HC
    have f1 := frozen_of_row w2 w.heap.size 1 _ _ HC
    go_upto_region 4 with fail
    have m : Mid w.heap.size (w.heap.size + 1) w2 ((w2.setCell ⟨w.heap.size, 0, none⟩ (.slice (some ⟨G, 0, none⟩) N.length N.length)).setCell ⟨w.heap.size, 1, none⟩ (.int .i64 now)) := (mid_cell _ _ _ _).trans (mid_cell _ _ _ _)
    replace HC := heap_setCell_same _ _ 1 _ _ (.int .i64 now) (heap_setCell_same w2 _ 0 _ _ (.slice (some ⟨G, 0, none⟩) N.length N.length) HC)
    replace HF := (m.block _ (Array.getElem?_eq_some_iff.1 HF).1 (by omega)).trans HF
    replace HR := (m.block _ (Array.getElem?_eq_some_iff.1 HR).1 (by omega)).trans HR
    replace O := O.sep m (.inr (by omega))
    have hsz := m.size
    replace B := B.trans (m.below (B := w.heap.size) (Nat.le_refl _) B.size)
    generalize (w2.setCell _ _).setCell _ _ = w3 at HC HF HR O hsz B ⊢
    replace HC : w3.heap[w.heap.size]? = some (.cells (buC (some ⟨G, 0, none⟩) N.length N.length now) 29 (0, 0)) := HC
    clear c0 c1 f0 f1 m
    have c0 := cell_of_row w3 _ 0 _ _ _ HC
    have c1 := cell_of_row w3 _ 1 _ _ _ HC
    have hwl : IntKind.i64.wrap ((N.length : Int) - 1) = (N.length : Int) - 1 := IntWalk.i64_in _ (by omega)
    go_wp2_with fail
    refine (implWithin _ _ _ _).mono ?_
    rintro e w4 ⟨rfl, rfl⟩
    cases hrg : rng node 0 ((N.length : Int) - 1)
    · have hN : qatN N now node f = N := by rw [HQN.out, if_pos hok, hrg]; rfl
      have hT : qatT N now = now := by rw [HQT.out, if_pos hok]
      have hK : qatK N now node f = 3 := by rw [HQK.out, if_pos hok, hrg]; rfl
      clear HQN HQT HQK hok
      have d0 := cell_of_row w3 _ 0 _ _ _ HR
      have d1 := cell_of_row w3 _ 1 _ _ _ HR
      have f0 := frozen_of_row w3 (w.heap.size + 2) 0 _ _ HR
      have f1 := frozen_of_row w3 (w.heap.size + 2) 1 _ _ HR
      go_wp2_with fail
      have m : Mid (w.heap.size + 2) (w.heap.size + 3) w3 ((w3.setCell ⟨w.heap.size + 2, 0, none⟩ (.slice (some ⟨G, 0, none⟩) N.length N.length)).setCell ⟨w.heap.size + 2, 1, none⟩ (.int .i64 now)) := (mid_cell _ _ _ _).trans (mid_cell _ _ _ _)
      have hr3 := heap_setCell_same _ _ 1 _ _ (.int .i64 now) (heap_setCell_same w3 _ 0 _ _ (.slice (some ⟨G, 0, none⟩) N.length N.length) HR)
      have B5 := B.trans (m.below (B := w.heap.size) (by omega) B.size)
      have O5 := O.sep m (.inr (by omega))
      have hz5 := m.size
      generalize (w3.setCell _ _).setCell _ _ = w5 at hr3 B5 O5 hz5 ⊢
      refine bodyPost_ret (v := .tuple #[buV (some ⟨G, 0, none⟩) N.length N.length now, .int .i64 3]) ?_ rfl ?_
      · exact results_bus Tryz.results29 _ _ (w.heap.size + 2) _ _ rfl rfl hr3 rfl
      · rw [hN, hT, hK]
        exact ⟨_, _, rfl, .inr ⟨G, rfl, (O5.low (by omega)).wide (by omega)⟩, B5⟩
    · have hnd := rng_iff.1 hrg
      obtain ⟨k, rfl⟩ : ∃ k : Nat, node = (k : Int) := ⟨node.toNat, by omega⟩
      have hk : k < N.length := by omega
      have htn : ((k : Nat) : Int).toNat = k := by omega
      have hN : qatN N now k f = N.set k (queA (nthN N k) f).1 := by rw [HQN.out, if_pos hok, if_pos hrg, htn]
      have hT : qatT N now = now := by rw [HQT.out, if_pos hok]
      have hK : qatK N now k f = (queA (nthN N k) f).2 := by rw [HQK.out, if_pos hok, if_pos hrg, htn]
      have hokk := hb6.2.2.2 _ (nthN_mem hk)
      clear HQN HQT HQK hok hrg htn
      have hwk : IntKind.i64.wrap (k : Int) = (k : Int) := IntWalk.i64_in _ (by omega)
      obtain ⟨P, J, L, H, MB, MF, cur, RW⟩ := O
      have hrn := rowN_range RW hk
      have hnm := (RW.mem k hk).ndm (by have := roomN_right hokk; omega)
      have hn3 := hn.below B
      have hz3 : w2.heap.size ≤ w3.heap.size := hsz
      generalize hqq : queA (nthN N k) f = qq at *
      obtain ⟨qn, kq⟩ := qq
      dsimp only at hN hK
      have HI := Lib.hid (fun (w : World) (h1 : NdM (nthN N k) (P k) w) (h3 : Nums af f.D w) => show Calls _ _ _ _ (QueO qn kq w) from (implQueued (nthN N k) (P k) f af cf w h1 h3).mono (fun e w' h => by rw [hqq] at h; exact h))
      clear hqq
      go_upto_region 6 with fail
      go_cut [8, 9] (fun s8 s9 wx => ∃ (gA : Nat) (p2 : NdP) (j : NdJ) (MB' MF' : List (Frm × Value)) (lo : Nat), s8 = .pointer (some ⟨gA, 0, none⟩) ∧ s9 = .int .i64 kq ∧ wx.heap[gA]? = some (.cells (ndC qn p2) 66 (0, 0)) ∧ NdI j lo wx.heap.size qn p2 MB' MF' wx ∧ w3.heap.size ≤ lo ∧ lo ≤ wx.heap.size ∧ Below w3.heap.size w3 wx)
      case first =>
        refine wp_region_held (S := fun u => u.heap[w.heap.size]? = some (.cells (buC (some ⟨G, 0, none⟩) N.length N.length now) 29 (0, 0)) ∧ u.heap[w.heap.size + 1]? = some (.cells (frC f af cf) 50 (0, 0)) ∧ u.rangeAt G (k * 18) (ndC (nthN N k) (P k)).toList) (by kernel_rfl) ?_
        have B0 : Below w3.heap.size w3 { w3 with drawn := w3.drawn + 1 } := (Below.refl _ _).drew
        replace HC := blkB HC B0
        replace HF := blkB HF B0
        replace hrn := rangeAt_below hrn B0
        replace hnm := hnm.below B0
        replace hn3 := hn3.below B0
        generalize ({ w3 with drawn := w3.drawn + 1 } : World) = V at HC HF hrn hnm hn3 B0 ⊢
        have hzV : w3.heap.size ≤ V.heap.size := B0.size
        refine h_take 0 25 (.pointer (some ⟨w.heap.size, 0, none⟩)) rfl rfl (by kernel_rfl) (by kernel_rfl) (by kernel_rfl) (fun _ _ _ h => h) rfl (fun u hu => by go_simp) ⟨HC, HF, hrn⟩ ?_
        refine h_take 1 26 (.slice (some ⟨G, 0, none⟩) N.length N.length) rfl rfl (by kernel_rfl) (by kernel_rfl) (by kernel_rfl) (fun _ _ _ h => h) rfl (fun u hu => by have c0 := cell_of_row u _ 0 _ _ _ hu.1; go_simp) ⟨HC, HF, hrn⟩ ?_
        refine h_take 2 27 (.int .i64 (k : Int)) rfl rfl (by kernel_rfl) (by kernel_rfl) (by kernel_rfl) (fun _ _ _ h => h) rfl (fun u hu => by go_simp) ⟨HC, HF, hrn⟩ ?_
        refine h_take 3 28 (.pointer (some ⟨G, k * 18, none⟩)) rfl rfl (by kernel_rfl) (by kernel_rfl) (by kernel_rfl) (fun _ _ _ h => h) rfl (fun u hu => by go_simp) ⟨HC, HF, hrn⟩ ?_
        refine h_take 4 29 (ndV (nthN N k) (P k)) rfl rfl (by kernel_rfl) (by kernel_rfl) (by kernel_rfl) (fun _ _ _ h => h) rfl (fun u hu => rng_took hu.2.2 rfl rfl) ⟨HC, HF, hrn⟩ ?_
        refine h_take 5 30 (frV f.id f.rm f.ln af f.D.length cf) rfl rfl (by kernel_rfl) (by kernel_rfl) (by kernel_rfl) (fun _ _ _ h => h) rfl (fun u hu => fr_tookI _ f af cf u hu.2.1 rfl rfl) ⟨HC, HF, hrn⟩ ?_
        simp only [Act.put, List.setIfInBounds_toArray, List.set_cons_zero, List.set_cons_succ]
        refine held_fork 6 10 (by kernel_rfl) (op_at rfl) (op_at rfl) rfl rfl ?qa ?qb
        case qa =>
          refine call_wp 35 #[ndV (nthN N k) (P k), frV f.id f.rm f.ln af f.D.length cf] (by go_simp) ?_
          refine (HI.out V hnm hn3).mono ?_
          rintro e w5 ⟨p2, j, MB', MF', rfl, I, b⟩
          have hlo := b.size
          replace HC := blkB HC b
          replace HF := blkB HF b
          replace hrn := rangeAt_below hrn b
          replace B0 := Below.then2 B0 b
          clear b
          refine ⟨_, rfl, ⟨HC, HF, hrn⟩, ?_⟩
          simp only [Act.put, List.setIfInBounds_toArray, List.set_cons_zero, List.set_cons_succ]
          refine h_take 7 24 (.tuple #[ndV qn p2, .int .i64 kq]) rfl rfl (by kernel_rfl) (by kernel_rfl) (by kernel_rfl) (fun _ _ _ h => h) rfl (fun u hu => by go_simp) ⟨HC, HF, hrn⟩ ?_
          simp only [Act.put, List.setIfInBounds_toArray, List.set_cons_zero, List.set_cons_succ]
          refine h_take 8 32 (ndV qn p2) rfl rfl (by kernel_rfl) (by kernel_rfl) (by kernel_rfl) (fun _ _ _ h => h) rfl (fun u hu => by go_simp) ⟨HC, HF, hrn⟩ ?_
          refine h_take 9 33 (.int .i64 kq) rfl rfl (by kernel_rfl) (by kernel_rfl) (by kernel_rfl) (fun _ _ _ h => h) rfl (fun u hu => by go_simp) ⟨HC, HF, hrn⟩ ?_
          simp only [Act.put, List.setIfInBounds_toArray, List.set_cons_zero, List.set_cons_succ]
          refine h_new 10 8 (.pointer (some ⟨w5.heap.size, 0, none⟩)) (w5.alloc (.cells ndZ 66)) rfl rfl (by kernel_rfl) rfl (by go_simp) ?_
          have HA := heap_alloc_new w5 (.cells ndZ 66)
          have b := below_more (Below.refl w5.heap.size w5) (.cells ndZ 66)
          replace HC := blkB HC b
          replace HF := blkB HF b
          replace hrn := rangeAt_below hrn b
          have hz5 := B0.size
          replace B0 := Below.then2 B0 b
          replace I := I.below b
          have hz6 := b.size
          clear b
          generalize w5.alloc _ = w6 at HA HC HF hrn B0 I hz6 ⊢
          refine ⟨⟨HC, HF, hrn⟩, ?_⟩
          simp only [Act.put, List.setIfInBounds_toArray, List.set_cons_zero, List.set_cons_succ]
          have m := mid_setRow w6 w5.heap.size (ndC qn p2)
          have HA2 : (w6.setRow w5.heap.size (ndC qn p2)).heap[w5.heap.size]? = some (.cells (ndC qn p2) 66 (0, 0)) := setRow_heap _ _ _ _ _ _ HA
          have hzA := m.size
          have hw5.heap.size : w3.heap.size ≤ w5.heap.size := by omega
          have BB : Below w3.heap.size w3 (w6.setRow w5.heap.size (ndC qn p2)) := B0.trans (m.below hw5.heap.size B0.size)
          replace HC := (m.block _ (Array.getElem?_eq_some_iff.1 HC).1 (by omega)).trans HC
          replace HF := (m.block _ (Array.getElem?_eq_some_iff.1 HF).1 (by omega)).trans HF
          replace hrn : (w6.setRow w5.heap.size (ndC qn p2)).rangeAt G (k * 18) (ndC (nthN N k) (P k)).toList := rangeAt_below (rowN_range RW hk) BB
          refine h_put 11 w5.heap.size (n := qn) (p := p2) rfl rfl (by kernel_rfl) rfl rfl rfl rfl HA rfl ⟨HC, HF, hrn⟩ ?_
          refine h_value 12 9 (.int .i64 kq) rfl rfl (by kernel_rfl) rfl (by go_simp) ⟨HC, HF, hrn⟩ ?_
          refine wpAnyH_done (by kernel_rfl) ?_ _
          simp only [Act.put, List.setIfInBounds_toArray, List.set_cons_zero, List.set_cons_succ]
          have I2 := (I.sep m (.inl (Nat.le_refl _))).wide (Nat.le_refl _) (Nat.le_trans hz6 hzA)
          go_wp2_with fail
          go_meet
          exact ⟨w5.heap.size, p2, j, MB', MF', V.heap.size, rfl, rfl, HA2, I2, hzV, by omega, BB⟩
        case qb =>
          refine value_wp (.pointer (some ⟨V.heap.size, 0, none⟩)) (V.alloc (.cells ndZ 66)) (by go_simp) ?_
          have HA := heap_alloc_new V (.cells ndZ 66)
          have b := below_more (Below.refl V.heap.size V) (.cells ndZ 66)
          have hzA0 : (V.alloc (.cells ndZ 66)).heap.size = V.heap.size + 1 := by simp
          replace HC := blkB HC b
          replace HF := blkB HF b
          replace hrn := rangeAt_below hrn b
          have hz5 := B0.size
          replace B0 := Below.then2 B0 b
          replace hnm := hnm.below b
          replace hn3 := hn3.below b
          clear b
          generalize V.alloc _ = V1 at HA HC HF hrn B0 hnm hn3 hzA0 ⊢
          refine ⟨⟨HC, HF, hrn⟩, ?_⟩
          simp only [Act.put, List.setIfInBounds_toArray, List.set_cons_zero, List.set_cons_succ]
          refine h_call 6 31 35 #[ndV (nthN N k) (P k), frV f.id f.rm f.ln af f.D.length cf] rfl rfl (by kernel_rfl) rfl (by go_simp) ?_
          refine (HI.out V1 hnm hn3).mono ?_
          rintro e w5 ⟨p2, j, MB', MF', rfl, I, b⟩
          have hlo := b.size
          replace HC := blkB HC b
          replace HF := blkB HF b
          replace hrn := rangeAt_below hrn b
          replace HA := blkB HA b
          replace B0 := Below.then2 B0 b
          clear b
          refine ⟨_, rfl, ⟨HC, HF, hrn⟩, ?_⟩
          simp only [Act.put, List.setIfInBounds_toArray, List.set_cons_zero, List.set_cons_succ]
          refine h_take 7 24 (.tuple #[ndV qn p2, .int .i64 kq]) rfl rfl (by kernel_rfl) (by kernel_rfl) (by kernel_rfl) (fun _ _ _ h => h) rfl (fun u hu => by go_simp) ⟨HC, HF, hrn⟩ ?_
          simp only [Act.put, List.setIfInBounds_toArray, List.set_cons_zero, List.set_cons_succ]
          refine h_take 8 32 (ndV qn p2) rfl rfl (by kernel_rfl) (by kernel_rfl) (by kernel_rfl) (fun _ _ _ h => h) rfl (fun u hu => by go_simp) ⟨HC, HF, hrn⟩ ?_
          refine h_take 9 33 (.int .i64 kq) rfl rfl (by kernel_rfl) (by kernel_rfl) (by kernel_rfl) (fun _ _ _ h => h) rfl (fun u hu => by go_simp) ⟨HC, HF, hrn⟩ ?_
          simp only [Act.put, List.setIfInBounds_toArray, List.set_cons_zero, List.set_cons_succ]
          have m := mid_setRow w5 V.heap.size (ndC qn p2)
          have HA2 : (w5.setRow V.heap.size (ndC qn p2)).heap[V.heap.size]? = some (.cells (ndC qn p2) 66 (0, 0)) := setRow_heap _ _ _ _ _ _ HA
          have hzA := m.size
          have hV.heap.size : w3.heap.size ≤ V.heap.size := by omega
          have BB : Below w3.heap.size w3 (w5.setRow V.heap.size (ndC qn p2)) := B0.trans (m.below hV.heap.size B0.size)
          replace HC := (m.block _ (Array.getElem?_eq_some_iff.1 HC).1 (by omega)).trans HC
          replace HF := (m.block _ (Array.getElem?_eq_some_iff.1 HF).1 (by omega)).trans HF
          replace hrn : (w5.setRow V.heap.size (ndC qn p2)).rangeAt G (k * 18) (ndC (nthN N k) (P k)).toList := rangeAt_below (rowN_range RW hk) BB
          refine h_put 11 V.heap.size (n := qn) (p := p2) rfl rfl (by kernel_rfl) rfl rfl rfl rfl HA rfl ⟨HC, HF, hrn⟩ ?_
          refine h_value 12 9 (.int .i64 kq) rfl rfl (by kernel_rfl) rfl (by go_simp) ⟨HC, HF, hrn⟩ ?_
          refine wpAnyH_done (by kernel_rfl) ?_ _
          simp only [Act.put, List.setIfInBounds_toArray, List.set_cons_zero, List.set_cons_succ]
          have I2 := (I.sep m (.inr (by omega))).wide (Nat.le_refl _) hzA
          go_wp2_with fail
          go_meet
          exact ⟨V.heap.size, p2, j, MB', MF', V1.heap.size, rfl, rfl, HA2, I2, by omega, by omega, BB⟩
      case rest =>
      obtain ⟨gA, p2, j, MB', MF', lo, rfl, rfl, HA, I, hl1, hl2, b⟩ := hcut
      generalize wc = w4 at *
      replace HC := blkB HC b
      replace HR := blkB HR b
      have O3 : OwnN w1.heap.size G w2.heap.size N.length N.length N w3 := ⟨P, J, L, H, MB, MF, cur, RW⟩
      have O4 := O3.below b
      replace B := Below.then2 B b
      have hb4 := b.size
      clear b HF hrn hnm hn3 RW O3
      have c0 := cell_of_row w4 _ 0 _ _ _ HC
      obtain ⟨cur4, hcur, hcs⟩ := O4.blk
      have hGt : w1.heap.size ≤ G ∧ G < w2.heap.size := by obtain ⟨P, J, L, H, MB, MF, cur, R4⟩ := O4; exact R4.top
      have hcb : k * 18 + 18 ≤ cur4.size := by rw [hcs]; omega
      go_wp2_with (first | (refine rng_take (row_range HA) rfl rfl rfl ?_) | (refine stay_store rfl ?_))
      refine ⟨row_put (n := qn) (p := p2) hcur hcb rfl rfl (by omega) rfl rfl ?_⟩
      obtain ⟨cur', k1, k2, k3, k4, k5⟩ := setCells_row G 66 (ndC qn p2).toList (k * 18) cur4 w4 hcur hcb
      have Q5 := (O4.ownQ.wide (hi' := w3.heap.size) hz3).put (N' := N.set k qn) hk (by rw [set_nth hk, if_pos rfl]) (fun i _ hne => by rw [set_nth hk, if_neg hne]) I hl1 hl2
      replace HC := (k5.block _ (Array.getElem?_eq_some_iff.1 HC).1 (by omega)).trans HC
      replace HR := (k5.block _ (Array.getElem?_eq_some_iff.1 HR).1 (by omega)).trans HR
      replace B := B.trans (k5.below (B := w.heap.size) (by omega) B.size)
      have hz5 : (w4.setCells G (k * 18) (ndC qn p2).toList).heap.size = w4.heap.size := size_cells _ _ _ _
      have O5 := Q5.own (k := N.length) (fun j hj => .inl hj) (Nat.le_refl _)
      clear k1 k2 k3 k4 k5 Q5 O4 hcur hcs hcb c0 I HA
      generalize w4.setCells _ _ _ = w5 at HC HR B hz5 O5 ⊢
      have c0 := cell_of_row w5 _ 0 _ _ _ HC
      have c1 := cell_of_row w5 _ 1 _ _ _ HC
      have d0 := cell_of_row w5 _ 0 _ _ _ HR
      have d1 := cell_of_row w5 _ 1 _ _ _ HR
      have f0 := frozen_of_row w5 (w.heap.size + 2) 0 _ _ HR
      have f1 := frozen_of_row w5 (w.heap.size + 2) 1 _ _ HR
      go_wp2_with fail
      have m : Mid (w.heap.size + 2) (w.heap.size + 3) w5 ((w5.setCell ⟨w.heap.size + 2, 0, none⟩ (.slice (some ⟨G, 0, none⟩) N.length N.length)).setCell ⟨w.heap.size + 2, 1, none⟩ (.int .i64 now)) := (mid_cell _ _ _ _).trans (mid_cell _ _ _ _)
      have hr3 := heap_setCell_same _ _ 1 _ _ (.int .i64 now) (heap_setCell_same w5 _ 0 _ _ (.slice (some ⟨G, 0, none⟩) N.length N.length) HR)
      have B6 := B.trans (m.below (B := w.heap.size) (by omega) B.size)
      have O6 := O5.sep m (.inr (by omega))
      have hz6 := m.size
      generalize (w5.setCell _ _).setCell _ _ = w6 at hr3 B6 O6 hz6 ⊢
      refine bodyPost_ret (v := .tuple #[buV (some ⟨G, 0, none⟩) N.length N.length now, .int .i64 kq]) ?_ rfl ?_
      · exact results_bus Tryz.results29 _ _ (w.heap.size + 2) _ _ rfl rfl hr3 rfl
      · rw [hN, hT, hK]
        refine ⟨some ⟨G, 0, none⟩, N.length, by rw [List.length_set], .inr ⟨G, rfl, ?_⟩, B6⟩
        rw [List.length_set]
        exact (O6.low (by omega)).wide (by omega)
end Go.Proofs.YtjlegnnekjcpmaaGreat

