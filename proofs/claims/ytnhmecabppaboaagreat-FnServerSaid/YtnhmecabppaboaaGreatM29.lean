/- What is drawn of servers: DrawServerPut. -/
import Derived.Test.YtnhmecabppaboaaGreatM28

set_option linter.unusedVariables false
set_option linter.unusedSimpArgs false
namespace Go.Proofs.YtnhmecabppaboaaGreat
open Go.RowKit

set_option maxHeartbeats 32000000 in
set_option maxRecDepth 20000 in
/-- spec.DrawServerPut. -/
theorem drawSvPut {B : Nat} {a : Option Addr} {len cap : Nat} (w : World) (cd : Code B a len w) (hB : B ≤ w.heap.size) :
    Calls Tryz.prog 12 #[.slice a len cap] w fun e w' => ∃ (X : List (List Frm)) (aX : Option Addr) (c : Nat) (busy nd rank now k : Int) (f : Frm) (af : Option Addr) (cf : Nat), e = .returned (.tuple #[svV aX X.length c busy nd rank now, .int .i64 k, frV f.id f.rm f.ln af f.D.length cf]) ∧ SvRd X aX w w' ∧ Nums af f.D w' := by
  obtain ⟨HR, HF, B0⟩ := two_made w (svC none 0 0 0 0 0 0) #[.int .i64 0, .bool false, .int .i64 0, .slice none 0 0] 26 35
  have hz : ((w.alloc (.cells (svC none 0 0 0 0 0 0) 26)).alloc (.cells #[.int .i64 0, .bool false, .int .i64 0, .slice none 0 0] 35)).heap.size = w.heap.size + 2 := by simp
  go_enter Tryz.func12, Tryz.ntmps12
  go_upto_region 1 with fail
  replace cd := cd.below B0 hB
  generalize (w.alloc _).alloc _ = W at HR HF B0 cd hz ⊢
  go_wp2_with fail
  refine (newAny (B := B) _ cd (by omega)).mono ?_
  rintro e w1 ⟨rfl, g1, s1⟩
  have b1 := below_new g1
  replace HR := blkV HR b1
  replace HF := blkV HF b1
  replace B0 := Below.then2 B0 b1
  have hp1 := s1.lt
  have hs1 := b1.size
  generalize hp : W.heap.size = p at s1 hp1 hs1 ⊢
  clear g1 b1 cd
  go_wp2_with fail
  refine (drawSvAny (B := B) (a := a) (len := len) (cap := cap) _ s1).mono ?_
  rintro e w2 ⟨s, o, n, c, busy, nd, rank, now, G, k, L, H, ho, rfl, D⟩
  replace HR := (D.grown.block _ (Array.getElem?_eq_some_iff.1 HR).1 (fun e => by cases e; omega)).trans HR
  replace HF := (D.grown.block _ (Array.getElem?_eq_some_iff.1 HF).1 (fun e => by cases e; omega)).trans HF
  have hs2 := D.grown.size
  replace B0 := B0.grown D.grown B0.size (fun k e => by cases e; omega)
  obtain ⟨HX, b⟩ := one_sv w2 (svC (some ⟨G, o, none⟩) n c busy nd rank now) 26
  have F : SvFp B p a len cap w1 w w2.heap.size s o n c busy nd rank now G k L H (w2.alloc (.cells (svC (some ⟨G, o, none⟩) n c busy nd rank now) 26)) := ⟨⟨D.below b, HX, blkV HR b, ⟨by omega, by omega, by omega⟩, Below.then2 B0 b⟩, blkV HF b, ⟨by omega, by omega, by omega⟩⟩
  have hb6 := (boxesB_iff.1 (srvB_iff.1 D.ok).1).2.1
  have h16 := Lib.hid (show ∀ j, j < s.bx.length → (nthB s.bx j).length ≤ 16 from fun j hj => (boxB_iff.1 ((boxesB_iff.1 (srvB_iff.1 D.ok).1).2.2 j hj)).1)
  have hbB := Lib.hid (show ∀ j, j < s.bx.length → boxB (nthB s.bx j) = true from (boxesB_iff.1 (srvB_iff.1 D.ok).1).2.2)
  clear D HX b HR HF B0 s1 hs2 hp1 hs1
  go_upto_region 3 with fail
  generalize w2.alloc _ = W3 at F ⊢
  generalize w2.heap.size = g at F ⊢
  clear hp hz
  have r0 := cell_of_row _ g 0 _ _ _ F.fs.row
  go_wp2_with fail
  refine (fromAny (B := B) (a := a) (len := len) (cap := cap) (-1) n _ (by omega) (by omega) (by omega) F.fs.d.st).mono ?_
  rintro e w3 ⟨kq, kq0, kq1, rfl, g3, s3⟩
  replace F := F.num g3 s3
  clear g3 s3 r0
  go_upto_region 4 with fail
  have r0 := cell_of_row _ g 0 _ _ _ F.fs.row
  have r1 := cell_of_row _ g 1 _ _ _ F.fs.row
  have r2 := cell_of_row _ g 2 _ _ _ F.fs.row
  by_cases hbz : 3 < busy
  · go_wp2_with fail
    refine (onceAny (B := B) (a := a) (len := len) (cap := cap) 3 _ (by omega) (by omega) F.fs.d.st).mono ?_
    rintro e w4 ⟨b, rfl, g4, s4⟩
    replace F := F.num g4 s4
    clear g4 s4 r0 r1 r2
    have r0 := cell_of_row _ g 0 _ _ _ F.fs.row
    have r1 := cell_of_row _ g 1 _ _ _ F.fs.row
    have r2 := cell_of_row _ g 2 _ _ _ F.fs.row
    cases b with
    | false =>
      go_upto_region 6 with fail
      refine wp_region_held (S := fun u => u.heap[g]? = some (.cells (svC (some ⟨G, o, none⟩) n c busy nd rank now) 26 (0, 0))) (by kernel_rfl) ?_
      have b5 : Below w4.heap.size w4 { w4 with drawn := w4.drawn + 1 } := (Below.refl w4.heap.size w4).drew
      replace F := F.below b5
      clear b5
      generalize ({ w4 with drawn := w4.drawn + 1 } : World) = V at F ⊢
      refine h_take 0 55 (svV (some ⟨G, o, none⟩) n c busy nd rank now) rfl rfl (by kernel_rfl) (by kernel_rfl) (by kernel_rfl) (fun _ _ _ h => h) rfl (fun u hu => sv_tookI hu rfl rfl) F.fs.row ?_
      refine h_take 1 56 (.int .i64 kq) rfl rfl (by kernel_rfl) (by kernel_rfl) (by kernel_rfl) (fun _ _ _ h => h) rfl (fun u hu => by go_simp) F.fs.row ?_
      refine h_take 2 57 (.pointer (some ⟨p, 0, none⟩)) rfl rfl (by kernel_rfl) (by kernel_rfl) (by kernel_rfl) (fun _ _ _ h => h) rfl (fun u hu => by go_simp) F.fs.row ?_
      try simp only [Act.put, List.setIfInBounds_toArray, List.set_cons_zero, List.set_cons_succ]
      refine h_call 3 58 41 #[.pointer (some ⟨p, 0, none⟩)] rfl rfl (by kernel_rfl) rfl (by go_simp) ?_
      have hV := F.fs.bel.size
      have hgV := (Array.getElem?_eq_some_iff.1 F.frm).1
      refine (drawAnyFr (B := B) (a := a) (len := len) (cap := cap) _ F.fs.d.st).mono ?_
      rintro e wa ⟨id, rm, ln, D, v, rfl, own, -, -, -, ga, sa⟩
      obtain ⟨av, cv, rfl, hN⟩ := own.nums
      replace F := F.num ga sa
      clear ga sa hN
      refine ⟨_, rfl, F.fs.row, ?_⟩
      try simp only [Act.put, List.setIfInBounds_toArray, List.set_cons_zero, List.set_cons_succ]
      have hne := F.fs.ne
      have hhi := F.hi
      have m5 := mid_setRowS wa w.heap.size (svC (some ⟨G, o, none⟩) n c busy nd rank now)
      have h5 := setRow_heap wa _ _ (svC (some ⟨G, o, none⟩) n c busy nd rank now) _ _ F.fs.res
      have r5 := (m5.block g (Array.getElem?_eq_some_iff.1 F.fs.row).1 (by omega)).trans F.fs.row
      have f5 := (m5.block _ (Array.getElem?_eq_some_iff.1 F.frm).1 (by omega)).trans F.frm
      generalize hw5 : wa.setRow w.heap.size (svC (some ⟨G, o, none⟩) n c busy nd rank now) = w5 at m5 h5 r5 f5 ⊢
      refine h_putS 4 w.heap.size rfl rfl (by kernel_rfl) rfl rfl rfl rfl F.fs.res rfl (by rw [hw5]; exact r5) ?_
      rw [hw5]
      clear hw5
      refine h_value 5 3 (.int .i64 kq) rfl rfl (by kernel_rfl) rfl (by go_simp) r5 ?_
      try simp only [Act.put, List.setIfInBounds_toArray, List.set_cons_zero, List.set_cons_succ]
      have m6 := mid_setRowS w5 (w.heap.size + 1) (frC ⟨id, rm, ln, D⟩ av cv)
      have h6 := setRow_heap w5 _ _ (frC ⟨id, rm, ln, D⟩ av cv) _ _ f5
      have r6 := (m6.block g (Array.getElem?_eq_some_iff.1 r5).1 (by omega)).trans r5
      have h56 := (m6.block _ (Array.getElem?_eq_some_iff.1 h5).1 (by omega)).trans h5
      refine h_putF 6 (w.heap.size + 1) (f := ⟨id, rm, ln, D⟩) (af := av) (cf := cv) rfl rfl (by kernel_rfl) rfl rfl rfl rfl f5 rfl r6 ?_
      have m := (m5.wide (Nat.le_refl _) (by omega : w.heap.size + 1 ≤ w.heap.size + 2)).trans (m6.wide (by omega) (Nat.le_refl _))
      generalize w5.setRow _ _ = w6 at m m6 h6 r6 h56 ⊢
      refine wpAnyH_done (by kernel_rfl) ?_ _
      go_wp2_with fail
      obtain ⟨X, hX, hrd, hnm⟩ := F.fin (f := ⟨id, rm, ln, D⟩) (af := av) (cf := cv) ho own (by omega) m
      subst hX
      refine bodyPost_ret (v := .tuple #[svV (some ⟨G, o, none⟩) X.length c busy nd rank now, .int .i64 kq, frV (⟨id, rm, ln, D⟩ : Frm).id (⟨id, rm, ln, D⟩ : Frm).rm (⟨id, rm, ln, D⟩ : Frm).ln av (⟨id, rm, ln, D⟩ : Frm).D.length cv]) ?_ rfl ?_
      · exact results_sf Tryz.results12 _ _ w.heap.size (w.heap.size + 1) _ _ _ rfl rfl rfl h56 rfl h6 rfl
      · first | exact ⟨X, some ⟨G, o, none⟩, c, busy, nd, rank, now, kq, ⟨id, rm, ln, D⟩, av, cv, rfl, hrd, hnm⟩ | exact ⟨X, some ⟨G, o, none⟩, c, busy, nd, rank, now, kq, ⟨id, rm, ln, D⟩, av, ⟨cv, rfl⟩, hrd, hnm⟩
    | true =>
      by_cases hin : 0 ≤ nd ∧ nd ≤ (n : Int) - 1
      · obtain ⟨q, rfl⟩ : ∃ q : Nat, nd = (q : Int) := ⟨nd.toNat, by omega⟩
        have hqn : q < n := by omega
        have hqI : (q : Int) < n := by omega
        have hdec : (decide (0 ≤ (q : Int)) && decide ((q : Int) ≤ (n : Int) - 1)) = true := by simp; omega
        obtain ⟨al, cl, hcell, hfirst⟩ := F.fs.d.box.first (j := o + q) (by omega) (h16.out _ (by omega))
        have hl16 := h16.out (o + q) (by omega)
        have hf8 : 0 < (nthB s.bx (o + q)).length → (nthF (nthB s.bx (o + q)) 0).D.length ≤ 1048576 := fun hp => by
          have h8 := frOk_max (rkF_ok ((boxB_iff.1 (hbB.out (o + q) (by omega))).2 0 hp).1)
          omega
        generalize nthB s.bx (o + q) = Lq at hcell hfirst hl16 hf8
        go_wp2_with fail
        refine (l1In _ _ _ _).mono ?_
        rintro e w' ⟨rfl, rfl⟩
        rw [hdec]
        by_cases hL : 0 < Lq.length
        · have hLI : (0 : Int) < Lq.length := by omega
          obtain ⟨gf, oF, ad, cf, rfl, hLg, hC⟩ := hfirst hL
          replace hf8 := hf8 hL
          go_upto_region 5 with fail
          have hW : ({ w4 with drawn := w4.drawn + 1 } : World).cell? ⟨G, o + q, none⟩ = some (.slice (some ⟨gf, oF, none⟩) Lq.length cl) := hcell
          have hD : FrC gf oF ad cf (nthF Lq 0) ({ w4 with drawn := w4.drawn + 1 } : World) := hC
          refine wp_region_held (S := fun u => u.heap[g]? = some (.cells (svC (some ⟨G, o, none⟩) n c busy (q : Int) rank now) 26 (0, 0)) ∧ Kp (fun q => w1.heap.size ≤ q) { w4 with drawn := w4.drawn + 1 } u) (by kernel_rfl) ?_
          have b5 : Below w4.heap.size w4 { w4 with drawn := w4.drawn + 1 } := (Below.refl w4.heap.size w4).drew
          replace F := F.below b5
          clear b5 hcell hC hfirst
          generalize ({ w4 with drawn := w4.drawn + 1 } : World) = V at F hW hD ⊢
          obtain ⟨⟨d0, d1, d2, d3⟩, hN⟩ := hD
          generalize nthF Lq 0 = f at d0 d1 d2 d3 hN hf8
          have kV : Kp (fun q => w1.heap.size ≤ q) V V := Kp.refl _ _
          have hGl : w1.heap.size ≤ G := Nat.le_of_lt F.fs.d.low.1
          have hgl : w1.heap.size ≤ gf := by have := F.fs.d.low.2 (o + q) (by omega); omega
          have hGs := World.block_lt_of_cell? V _ hW
          have hgs := World.block_lt_of_cell? V _ d0
          refine h_take 0 43 ((svV (some ⟨G, o, none⟩) n c busy (q : Int) rank now)) rfl rfl (by kernel_rfl) (by kernel_rfl) (by kernel_rfl) (fun _ _ _ h => h) rfl (fun u hu => by exact sv_tookI hu.1 rfl rfl) ⟨F.fs.row, kV⟩ ?_
          try simp only [Act.put, List.setIfInBounds_toArray, List.set_cons_zero, List.set_cons_succ]
          refine h_take 1 44 (.pointer (some ⟨g, 2, none⟩)) rfl rfl (by kernel_rfl) (by kernel_rfl) (by kernel_rfl) (fun _ _ _ h => h) rfl (fun u hu => by go_simp) ⟨F.fs.row, kV⟩ ?_
          try simp only [Act.put, List.setIfInBounds_toArray, List.set_cons_zero, List.set_cons_succ]
          refine h_take 2 45 (.int .i64 (q : Int)) rfl rfl (by kernel_rfl) (by kernel_rfl) (by kernel_rfl) (fun _ _ _ h => h) rfl (fun u hu => by have c0 := cell_of_row u g 2 _ _ _ hu.1; go_simp) ⟨F.fs.row, kV⟩ ?_
          try simp only [Act.put, List.setIfInBounds_toArray, List.set_cons_zero, List.set_cons_succ]
          refine h_take 3 46 (.pointer (some ⟨g, 0, none⟩)) rfl rfl (by kernel_rfl) (by kernel_rfl) (by kernel_rfl) (fun _ _ _ h => h) rfl (fun u hu => by go_simp) ⟨F.fs.row, kV⟩ ?_
          try simp only [Act.put, List.setIfInBounds_toArray, List.set_cons_zero, List.set_cons_succ]
          refine h_take 4 47 (.slice (some ⟨G, o, none⟩) n c) rfl rfl (by kernel_rfl) (by kernel_rfl) (by kernel_rfl) (fun _ _ _ h => h) rfl (fun u hu => by have c0 := cell_of_row u g 0 _ _ _ hu.1; go_simp) ⟨F.fs.row, kV⟩ ?_
          try simp only [Act.put, List.setIfInBounds_toArray, List.set_cons_zero, List.set_cons_succ]
          refine h_take 5 48 (.pointer (some ⟨g, 2, none⟩)) rfl rfl (by kernel_rfl) (by kernel_rfl) (by kernel_rfl) (fun _ _ _ h => h) rfl (fun u hu => by go_simp) ⟨F.fs.row, kV⟩ ?_
          try simp only [Act.put, List.setIfInBounds_toArray, List.set_cons_zero, List.set_cons_succ]
          refine h_take 6 49 (.int .i64 (q : Int)) rfl rfl (by kernel_rfl) (by kernel_rfl) (by kernel_rfl) (fun _ _ _ h => h) rfl (fun u hu => by have c0 := cell_of_row u g 2 _ _ _ hu.1; go_simp) ⟨F.fs.row, kV⟩ ?_
          try simp only [Act.put, List.setIfInBounds_toArray, List.set_cons_zero, List.set_cons_succ]
          refine h_take 7 50 (.pointer (some ⟨G, o + q, none⟩)) rfl rfl (by kernel_rfl) (by kernel_rfl) (by kernel_rfl) (fun _ _ _ h => h) rfl (fun u hu => by go_simp) ⟨F.fs.row, kV⟩ ?_
          try simp only [Act.put, List.setIfInBounds_toArray, List.set_cons_zero, List.set_cons_succ]
          refine h_take 8 51 (.slice (some ⟨gf, oF, none⟩) Lq.length cl) rfl rfl (by kernel_rfl) (by kernel_rfl) (by kernel_rfl) (fun _ _ _ h => h) rfl (fun u hu => by have c0 := (World.cell?_of_block (hu.2.block G hGl hGs)).trans hW; go_simp) ⟨F.fs.row, kV⟩ ?_
          try simp only [Act.put, List.setIfInBounds_toArray, List.set_cons_zero, List.set_cons_succ]
          refine h_take 9 52 (.pointer (some ⟨gf, oF, none⟩)) rfl rfl (by kernel_rfl) (by kernel_rfl) (by kernel_rfl) (fun _ _ _ h => h) rfl (fun u hu => by go_simp) ⟨F.fs.row, kV⟩ ?_
          try simp only [Act.put, List.setIfInBounds_toArray, List.set_cons_zero, List.set_cons_succ]
          refine h_take 10 53 (frV f.id f.rm f.ln ad f.D.length cf) rfl rfl (by kernel_rfl) (by kernel_rfl) (by kernel_rfl) (fun _ _ _ h => h) rfl (fun u hu => by have e0 := (World.cell?_of_block (hu.2.block gf hgl hgs)).trans d0; have e1 := (World.cell?_of_block (hu.2.block gf hgl hgs)).trans d1; have e2 := (World.cell?_of_block (hu.2.block gf hgl hgs)).trans d2; have e3 := (World.cell?_of_block (hu.2.block gf hgl hgs)).trans d3; go_simp) ⟨F.fs.row, kV⟩ ?_
          try simp only [Act.put, List.setIfInBounds_toArray, List.set_cons_zero, List.set_cons_succ]
          refine h_call 11 54 40 #[frV f.id f.rm f.ln ad f.D.length cf] rfl rfl (by kernel_rfl) rfl (by go_simp) ?_
          have hV := F.fs.bel.size
          have hgV := (Array.getElem?_eq_some_iff.1 F.frm).1
          refine (copyFrB f.id f.rm f.ln ad f.D cf _ hN hf8).mono ?_
          rintro e wa ⟨av, cv, rfl, own, ga⟩
          have ba := below_new ga
          replace kV := kV.trans (Kp.ofBelow (Y := fun q => w1.heap.size ≤ q) ba)
          replace F := F.below ba
          clear ga ba
          refine ⟨_, rfl, ⟨F.fs.row, kV⟩, ?_⟩
          try simp only [Act.put, List.setIfInBounds_toArray, List.set_cons_zero, List.set_cons_succ]
          have hne := F.fs.ne
          have hhi := F.hi
          have m5 := mid_setRowS wa w.heap.size (svC (some ⟨G, o, none⟩) n c busy (q : Int) rank now)
          have h5 := setRow_heap wa _ _ (svC (some ⟨G, o, none⟩) n c busy (q : Int) rank now) _ _ F.fs.res
          have r5 := (m5.block g (Array.getElem?_eq_some_iff.1 F.fs.row).1 (by omega)).trans F.fs.row
          have f5 := (m5.block _ (Array.getElem?_eq_some_iff.1 F.frm).1 (by omega)).trans F.frm
          have k5 : Kp (fun q => w1.heap.size ≤ q) V (wa.setRow w.heap.size (svC (some ⟨G, o, none⟩) n c busy (q : Int) rank now)) := kV.trans ⟨m5.size, fun q hq hl => m5.block q hl (by have : w1.heap.size ≤ q := hq; omega), m5.os, m5.tape, m5.output⟩
          generalize hw5 : wa.setRow w.heap.size (svC (some ⟨G, o, none⟩) n c busy (q : Int) rank now) = w5 at m5 h5 r5 f5 k5 ⊢
          refine h_putS 12 w.heap.size rfl rfl (by kernel_rfl) rfl rfl rfl rfl F.fs.res rfl (by rw [hw5]; exact ⟨r5, k5⟩) ?_
          rw [hw5]
          clear hw5
          refine h_value 13 3 (.int .i64 (q : Int)) rfl rfl (by kernel_rfl) rfl (by go_simp) ⟨r5, k5⟩ ?_
          try simp only [Act.put, List.setIfInBounds_toArray, List.set_cons_zero, List.set_cons_succ]
          have m6 := mid_setRowS w5 (w.heap.size + 1) (frC f av cv)
          have h6 := setRow_heap w5 _ _ (frC f av cv) _ _ f5
          have r6 := (m6.block g (Array.getElem?_eq_some_iff.1 r5).1 (by omega)).trans r5
          have h56 := (m6.block _ (Array.getElem?_eq_some_iff.1 h5).1 (by omega)).trans h5
          have k6 : Kp (fun q => w1.heap.size ≤ q) V (w5.setRow (w.heap.size + 1) (frC f av cv)) := k5.trans ⟨m6.size, fun q hq hl => m6.block q hl (by have : w1.heap.size ≤ q := hq; omega), m6.os, m6.tape, m6.output⟩
          refine h_putF 14 (w.heap.size + 1) (f := f) (af := av) (cf := cv) rfl rfl (by kernel_rfl) rfl rfl rfl rfl f5 rfl ⟨r6, k6⟩ ?_
          have m := (m5.wide (Nat.le_refl _) (by omega : w.heap.size + 1 ≤ w.heap.size + 2)).trans (m6.wide (by omega) (Nat.le_refl _))
          generalize w5.setRow _ _ = w6 at m m6 h6 r6 h56 ⊢
          refine wpAnyH_done (by kernel_rfl) ?_ _
          go_wp2_with fail
          obtain ⟨X, hX, hrd, hnm⟩ := F.fin (f := f) (af := av) (cf := cv) ho own (by omega) m
          subst hX
          refine bodyPost_ret (v := .tuple #[svV (some ⟨G, o, none⟩) X.length c busy (q : Int) rank now, .int .i64 (q : Int), frV f.id f.rm f.ln av f.D.length cv]) ?_ rfl ?_
          · exact results_sf Tryz.results12 _ _ w.heap.size (w.heap.size + 1) _ _ _ rfl rfl rfl h56 rfl h6 rfl
          · first | exact ⟨X, some ⟨G, o, none⟩, c, busy, (q : Int), rank, now, (q : Int), f, av, cv, rfl, hrd, hnm⟩ | exact ⟨X, some ⟨G, o, none⟩, c, busy, (q : Int), rank, now, (q : Int), f, av, ⟨cv, rfl⟩, hrd, hnm⟩
        · have hLI : ¬ (0 : Int) < Lq.length := by omega
          go_upto_region 6 with fail
          refine wp_region_held (S := fun u => u.heap[g]? = some (.cells (svC (some ⟨G, o, none⟩) n c busy (q : Int) rank now) 26 (0, 0))) (by kernel_rfl) ?_
          have b5 : Below w4.heap.size w4 { w4 with drawn := w4.drawn + 1 } := (Below.refl w4.heap.size w4).drew
          replace F := F.below b5
          clear b5
          generalize ({ w4 with drawn := w4.drawn + 1 } : World) = V at F ⊢
          refine h_take 0 55 (svV (some ⟨G, o, none⟩) n c busy (q : Int) rank now) rfl rfl (by kernel_rfl) (by kernel_rfl) (by kernel_rfl) (fun _ _ _ h => h) rfl (fun u hu => sv_tookI hu rfl rfl) F.fs.row ?_
          refine h_take 1 56 (.int .i64 kq) rfl rfl (by kernel_rfl) (by kernel_rfl) (by kernel_rfl) (fun _ _ _ h => h) rfl (fun u hu => by go_simp) F.fs.row ?_
          refine h_take 2 57 (.pointer (some ⟨p, 0, none⟩)) rfl rfl (by kernel_rfl) (by kernel_rfl) (by kernel_rfl) (fun _ _ _ h => h) rfl (fun u hu => by go_simp) F.fs.row ?_
          try simp only [Act.put, List.setIfInBounds_toArray, List.set_cons_zero, List.set_cons_succ]
          refine h_call 3 58 41 #[.pointer (some ⟨p, 0, none⟩)] rfl rfl (by kernel_rfl) rfl (by go_simp) ?_
          have hV := F.fs.bel.size
          have hgV := (Array.getElem?_eq_some_iff.1 F.frm).1
          refine (drawAnyFr (B := B) (a := a) (len := len) (cap := cap) _ F.fs.d.st).mono ?_
          rintro e wa ⟨id, rm, ln, D, v, rfl, own, -, -, -, ga, sa⟩
          obtain ⟨av, cv, rfl, hN⟩ := own.nums
          replace F := F.num ga sa
          clear ga sa hN
          refine ⟨_, rfl, F.fs.row, ?_⟩
          try simp only [Act.put, List.setIfInBounds_toArray, List.set_cons_zero, List.set_cons_succ]
          have hne := F.fs.ne
          have hhi := F.hi
          have m5 := mid_setRowS wa w.heap.size (svC (some ⟨G, o, none⟩) n c busy (q : Int) rank now)
          have h5 := setRow_heap wa _ _ (svC (some ⟨G, o, none⟩) n c busy (q : Int) rank now) _ _ F.fs.res
          have r5 := (m5.block g (Array.getElem?_eq_some_iff.1 F.fs.row).1 (by omega)).trans F.fs.row
          have f5 := (m5.block _ (Array.getElem?_eq_some_iff.1 F.frm).1 (by omega)).trans F.frm
          generalize hw5 : wa.setRow w.heap.size (svC (some ⟨G, o, none⟩) n c busy (q : Int) rank now) = w5 at m5 h5 r5 f5 ⊢
          refine h_putS 4 w.heap.size rfl rfl (by kernel_rfl) rfl rfl rfl rfl F.fs.res rfl (by rw [hw5]; exact r5) ?_
          rw [hw5]
          clear hw5
          refine h_value 5 3 (.int .i64 kq) rfl rfl (by kernel_rfl) rfl (by go_simp) r5 ?_
          try simp only [Act.put, List.setIfInBounds_toArray, List.set_cons_zero, List.set_cons_succ]
          have m6 := mid_setRowS w5 (w.heap.size + 1) (frC ⟨id, rm, ln, D⟩ av cv)
          have h6 := setRow_heap w5 _ _ (frC ⟨id, rm, ln, D⟩ av cv) _ _ f5
          have r6 := (m6.block g (Array.getElem?_eq_some_iff.1 r5).1 (by omega)).trans r5
          have h56 := (m6.block _ (Array.getElem?_eq_some_iff.1 h5).1 (by omega)).trans h5
          refine h_putF 6 (w.heap.size + 1) (f := ⟨id, rm, ln, D⟩) (af := av) (cf := cv) rfl rfl (by kernel_rfl) rfl rfl rfl rfl f5 rfl r6 ?_
          have m := (m5.wide (Nat.le_refl _) (by omega : w.heap.size + 1 ≤ w.heap.size + 2)).trans (m6.wide (by omega) (Nat.le_refl _))
          generalize w5.setRow _ _ = w6 at m m6 h6 r6 h56 ⊢
          refine wpAnyH_done (by kernel_rfl) ?_ _
          go_wp2_with fail
          obtain ⟨X, hX, hrd, hnm⟩ := F.fin (f := ⟨id, rm, ln, D⟩) (af := av) (cf := cv) ho own (by omega) m
          subst hX
          refine bodyPost_ret (v := .tuple #[svV (some ⟨G, o, none⟩) X.length c busy (q : Int) rank now, .int .i64 kq, frV (⟨id, rm, ln, D⟩ : Frm).id (⟨id, rm, ln, D⟩ : Frm).rm (⟨id, rm, ln, D⟩ : Frm).ln av (⟨id, rm, ln, D⟩ : Frm).D.length cv]) ?_ rfl ?_
          · exact results_sf Tryz.results12 _ _ w.heap.size (w.heap.size + 1) _ _ _ rfl rfl rfl h56 rfl h6 rfl
          · first | exact ⟨X, some ⟨G, o, none⟩, c, busy, (q : Int), rank, now, kq, ⟨id, rm, ln, D⟩, av, cv, rfl, hrd, hnm⟩ | exact ⟨X, some ⟨G, o, none⟩, c, busy, (q : Int), rank, now, kq, ⟨id, rm, ln, D⟩, av, ⟨cv, rfl⟩, hrd, hnm⟩
      · have hdec : (decide (0 ≤ nd) && decide (nd ≤ (n : Int) - 1)) = false := by
          rw [Bool.eq_false_iff]; intro h; simp at h; omega
        go_wp2_with fail
        refine (l1In _ _ _ _).mono ?_
        rintro e w' ⟨rfl, rfl⟩
        rw [hdec]
        go_upto_region 6 with fail
        refine wp_region_held (S := fun u => u.heap[g]? = some (.cells (svC (some ⟨G, o, none⟩) n c busy nd rank now) 26 (0, 0))) (by kernel_rfl) ?_
        have b5 : Below w4.heap.size w4 { w4 with drawn := w4.drawn + 1 } := (Below.refl w4.heap.size w4).drew
        replace F := F.below b5
        clear b5
        generalize ({ w4 with drawn := w4.drawn + 1 } : World) = V at F ⊢
        refine h_take 0 55 (svV (some ⟨G, o, none⟩) n c busy nd rank now) rfl rfl (by kernel_rfl) (by kernel_rfl) (by kernel_rfl) (fun _ _ _ h => h) rfl (fun u hu => sv_tookI hu rfl rfl) F.fs.row ?_
        refine h_take 1 56 (.int .i64 kq) rfl rfl (by kernel_rfl) (by kernel_rfl) (by kernel_rfl) (fun _ _ _ h => h) rfl (fun u hu => by go_simp) F.fs.row ?_
        refine h_take 2 57 (.pointer (some ⟨p, 0, none⟩)) rfl rfl (by kernel_rfl) (by kernel_rfl) (by kernel_rfl) (fun _ _ _ h => h) rfl (fun u hu => by go_simp) F.fs.row ?_
        try simp only [Act.put, List.setIfInBounds_toArray, List.set_cons_zero, List.set_cons_succ]
        refine h_call 3 58 41 #[.pointer (some ⟨p, 0, none⟩)] rfl rfl (by kernel_rfl) rfl (by go_simp) ?_
        have hV := F.fs.bel.size
        have hgV := (Array.getElem?_eq_some_iff.1 F.frm).1
        refine (drawAnyFr (B := B) (a := a) (len := len) (cap := cap) _ F.fs.d.st).mono ?_
        rintro e wa ⟨id, rm, ln, D, v, rfl, own, -, -, -, ga, sa⟩
        obtain ⟨av, cv, rfl, hN⟩ := own.nums
        replace F := F.num ga sa
        clear ga sa hN
        refine ⟨_, rfl, F.fs.row, ?_⟩
        try simp only [Act.put, List.setIfInBounds_toArray, List.set_cons_zero, List.set_cons_succ]
        have hne := F.fs.ne
        have hhi := F.hi
        have m5 := mid_setRowS wa w.heap.size (svC (some ⟨G, o, none⟩) n c busy nd rank now)
        have h5 := setRow_heap wa _ _ (svC (some ⟨G, o, none⟩) n c busy nd rank now) _ _ F.fs.res
        have r5 := (m5.block g (Array.getElem?_eq_some_iff.1 F.fs.row).1 (by omega)).trans F.fs.row
        have f5 := (m5.block _ (Array.getElem?_eq_some_iff.1 F.frm).1 (by omega)).trans F.frm
        generalize hw5 : wa.setRow w.heap.size (svC (some ⟨G, o, none⟩) n c busy nd rank now) = w5 at m5 h5 r5 f5 ⊢
        refine h_putS 4 w.heap.size rfl rfl (by kernel_rfl) rfl rfl rfl rfl F.fs.res rfl (by rw [hw5]; exact r5) ?_
        rw [hw5]
        clear hw5
        refine h_value 5 3 (.int .i64 kq) rfl rfl (by kernel_rfl) rfl (by go_simp) r5 ?_
        try simp only [Act.put, List.setIfInBounds_toArray, List.set_cons_zero, List.set_cons_succ]
        have m6 := mid_setRowS w5 (w.heap.size + 1) (frC ⟨id, rm, ln, D⟩ av cv)
        have h6 := setRow_heap w5 _ _ (frC ⟨id, rm, ln, D⟩ av cv) _ _ f5
        have r6 := (m6.block g (Array.getElem?_eq_some_iff.1 r5).1 (by omega)).trans r5
        have h56 := (m6.block _ (Array.getElem?_eq_some_iff.1 h5).1 (by omega)).trans h5
        refine h_putF 6 (w.heap.size + 1) (f := ⟨id, rm, ln, D⟩) (af := av) (cf := cv) rfl rfl (by kernel_rfl) rfl rfl rfl rfl f5 rfl r6 ?_
        have m := (m5.wide (Nat.le_refl _) (by omega : w.heap.size + 1 ≤ w.heap.size + 2)).trans (m6.wide (by omega) (Nat.le_refl _))
        generalize w5.setRow _ _ = w6 at m m6 h6 r6 h56 ⊢
        refine wpAnyH_done (by kernel_rfl) ?_ _
        go_wp2_with fail
        obtain ⟨X, hX, hrd, hnm⟩ := F.fin (f := ⟨id, rm, ln, D⟩) (af := av) (cf := cv) ho own (by omega) m
        subst hX
        refine bodyPost_ret (v := .tuple #[svV (some ⟨G, o, none⟩) X.length c busy nd rank now, .int .i64 kq, frV (⟨id, rm, ln, D⟩ : Frm).id (⟨id, rm, ln, D⟩ : Frm).rm (⟨id, rm, ln, D⟩ : Frm).ln av (⟨id, rm, ln, D⟩ : Frm).D.length cv]) ?_ rfl ?_
        · exact results_sf Tryz.results12 _ _ w.heap.size (w.heap.size + 1) _ _ _ rfl rfl rfl h56 rfl h6 rfl
        · first | exact ⟨X, some ⟨G, o, none⟩, c, busy, nd, rank, now, kq, ⟨id, rm, ln, D⟩, av, cv, rfl, hrd, hnm⟩ | exact ⟨X, some ⟨G, o, none⟩, c, busy, nd, rank, now, kq, ⟨id, rm, ln, D⟩, av, ⟨cv, rfl⟩, hrd, hnm⟩
  · 
    go_upto_region 6 with fail
    refine wp_region_held (S := fun u => u.heap[g]? = some (.cells (svC (some ⟨G, o, none⟩) n c busy nd rank now) 26 (0, 0))) (by kernel_rfl) ?_
    have b5 : Below w3.heap.size w3 { w3 with drawn := w3.drawn + 1 } := (Below.refl w3.heap.size w3).drew
    replace F := F.below b5
    clear b5
    generalize ({ w3 with drawn := w3.drawn + 1 } : World) = V at F ⊢
    refine h_take 0 55 (svV (some ⟨G, o, none⟩) n c busy nd rank now) rfl rfl (by kernel_rfl) (by kernel_rfl) (by kernel_rfl) (fun _ _ _ h => h) rfl (fun u hu => sv_tookI hu rfl rfl) F.fs.row ?_
    refine h_take 1 56 (.int .i64 kq) rfl rfl (by kernel_rfl) (by kernel_rfl) (by kernel_rfl) (fun _ _ _ h => h) rfl (fun u hu => by go_simp) F.fs.row ?_
    refine h_take 2 57 (.pointer (some ⟨p, 0, none⟩)) rfl rfl (by kernel_rfl) (by kernel_rfl) (by kernel_rfl) (fun _ _ _ h => h) rfl (fun u hu => by go_simp) F.fs.row ?_
    try simp only [Act.put, List.setIfInBounds_toArray, List.set_cons_zero, List.set_cons_succ]
    refine h_call 3 58 41 #[.pointer (some ⟨p, 0, none⟩)] rfl rfl (by kernel_rfl) rfl (by go_simp) ?_
    have hV := F.fs.bel.size
    have hgV := (Array.getElem?_eq_some_iff.1 F.frm).1
    refine (drawAnyFr (B := B) (a := a) (len := len) (cap := cap) _ F.fs.d.st).mono ?_
    rintro e wa ⟨id, rm, ln, D, v, rfl, own, -, -, -, ga, sa⟩
    obtain ⟨av, cv, rfl, hN⟩ := own.nums
    replace F := F.num ga sa
    clear ga sa hN
    refine ⟨_, rfl, F.fs.row, ?_⟩
    try simp only [Act.put, List.setIfInBounds_toArray, List.set_cons_zero, List.set_cons_succ]
    have hne := F.fs.ne
    have hhi := F.hi
    have m5 := mid_setRowS wa w.heap.size (svC (some ⟨G, o, none⟩) n c busy nd rank now)
    have h5 := setRow_heap wa _ _ (svC (some ⟨G, o, none⟩) n c busy nd rank now) _ _ F.fs.res
    have r5 := (m5.block g (Array.getElem?_eq_some_iff.1 F.fs.row).1 (by omega)).trans F.fs.row
    have f5 := (m5.block _ (Array.getElem?_eq_some_iff.1 F.frm).1 (by omega)).trans F.frm
    generalize hw5 : wa.setRow w.heap.size (svC (some ⟨G, o, none⟩) n c busy nd rank now) = w5 at m5 h5 r5 f5 ⊢
    refine h_putS 4 w.heap.size rfl rfl (by kernel_rfl) rfl rfl rfl rfl F.fs.res rfl (by rw [hw5]; exact r5) ?_
    rw [hw5]
    clear hw5
    refine h_value 5 3 (.int .i64 kq) rfl rfl (by kernel_rfl) rfl (by go_simp) r5 ?_
    try simp only [Act.put, List.setIfInBounds_toArray, List.set_cons_zero, List.set_cons_succ]
    have m6 := mid_setRowS w5 (w.heap.size + 1) (frC ⟨id, rm, ln, D⟩ av cv)
    have h6 := setRow_heap w5 _ _ (frC ⟨id, rm, ln, D⟩ av cv) _ _ f5
    have r6 := (m6.block g (Array.getElem?_eq_some_iff.1 r5).1 (by omega)).trans r5
    have h56 := (m6.block _ (Array.getElem?_eq_some_iff.1 h5).1 (by omega)).trans h5
    refine h_putF 6 (w.heap.size + 1) (f := ⟨id, rm, ln, D⟩) (af := av) (cf := cv) rfl rfl (by kernel_rfl) rfl rfl rfl rfl f5 rfl r6 ?_
    have m := (m5.wide (Nat.le_refl _) (by omega : w.heap.size + 1 ≤ w.heap.size + 2)).trans (m6.wide (by omega) (Nat.le_refl _))
    generalize w5.setRow _ _ = w6 at m m6 h6 r6 h56 ⊢
    refine wpAnyH_done (by kernel_rfl) ?_ _
    go_wp2_with fail
    obtain ⟨X, hX, hrd, hnm⟩ := F.fin (f := ⟨id, rm, ln, D⟩) (af := av) (cf := cv) ho own (by omega) m
    subst hX
    refine bodyPost_ret (v := .tuple #[svV (some ⟨G, o, none⟩) X.length c busy nd rank now, .int .i64 kq, frV (⟨id, rm, ln, D⟩ : Frm).id (⟨id, rm, ln, D⟩ : Frm).rm (⟨id, rm, ln, D⟩ : Frm).ln av (⟨id, rm, ln, D⟩ : Frm).D.length cv]) ?_ rfl ?_
    · exact results_sf Tryz.results12 _ _ w.heap.size (w.heap.size + 1) _ _ _ rfl rfl rfl h56 rfl h6 rfl
    · first | exact ⟨X, some ⟨G, o, none⟩, c, busy, nd, rank, now, kq, ⟨id, rm, ln, D⟩, av, cv, rfl, hrd, hnm⟩ | exact ⟨X, some ⟨G, o, none⟩, c, busy, nd, rank, now, kq, ⟨id, rm, ln, D⟩, av, ⟨cv, rfl⟩, hrd, hnm⟩
end Go.Proofs.YtnhmecabppaboaaGreat
