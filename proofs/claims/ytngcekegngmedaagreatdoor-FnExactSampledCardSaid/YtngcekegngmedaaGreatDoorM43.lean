/- The model's steps of a node: the copy, Sampled. -/
import Derived.Test.YtngcekegngmedaaGreatDoorM42
import Derived.Test.YtngcekegngmedaaGreatDoorM39

set_option linter.unusedVariables false
set_option linter.unusedSimpArgs false
set_option maxRecDepth 20000
namespace Go.Proofs.YtngcekegngmedaaGreatDoor
open Go.RowKit


set_option maxHeartbeats 16000000 in
/-- spec.Sampled. -/
theorem specSampled (n : Nd) (p : NdP) (l : Int) (w : World) (hm : NdM n p w) (hal : p.al = none → p.cl = 0) :
    Calls Tryz.prog 15 #[ndV n p, .int .i64 l] w (SampR (sampA n l) w) := by
  have X := N3.made (ndC n p) w
  go_enter Tryz.func15, Tryz.ntmps15
  go_upto_region 1 with fail
  generalize World.alloc _ _ = W at X ⊢
  generalize w.heap.size + 1 + 1 = gh at X ⊢
  generalize w.heap.size + 1 = gr at X ⊢
  generalize w.heap.size = g at X ⊢
  go_wp2_with (refine Nx.take ⟨X.blk, X.bel⟩ rfl rfl rfl ?_)
  refine (specNodeOk n p _ (hm.below X.bel)).mono ?_
  rintro e w2 ⟨rfl, b⟩
  replace X := X.below b
  clear b
  cases hok : nodeB n
  · have hA := Lib.hid (show sampA n l = (znd [], 0, zF) from if_neg (by rw [hok, Bool.false_and]; exact Bool.false_ne_true))
    clear hok
    go_wp2_with (first | (refine wpList_put (n := znd []) (p := zp none 0) X.res rfl rfl rfl rfl rfl ?_) | (refine wpList_tell (k := 0) (f := zF) (ad := none) (cd := 0) (X.fin (ndC (znd []) (zp none 0)) #[]).1 rfl rfl rfl rfl rfl ?_))
    obtain ⟨-, Z1, Z2, Z3⟩ := X.fin (ndC (znd []) (zp none 0)) (hpC 0 zF none 0)
    refine bodyPost_ret (v := .tuple #[ndV (znd []) (zp none 0), hpV 0 zF none 0]) ?_ rfl ?_
    · exact results_both Tryz.results15 _ _ gr gh _ _ rfl rfl Z1 Z2 rfl rfl
    · rw [hA.out]
      exact ⟨zp none 0, none, 0, rfl, NdM.new (Fls.nil none _) 0, Nums.nil _, Z3⟩
  · replace hok := Lib.hid hok
    go_wp2_with fail
    refine (l1In l 0 1 _).mono ?_
    rintro e w3 ⟨rfl, rfl⟩
    rw [show (decide ((0 : Int) ≤ l) && decide (l ≤ 1)) = rng l 0 1 from rfl]
    cases hr : rng l 0 1
    · have hA := Lib.hid (show sampA n l = (znd [], 0, zF) from if_neg (by rw [hr, Bool.and_false]; exact Bool.false_ne_true))
      clear hr
      go_wp2_with (first | (refine wpList_put (n := znd []) (p := zp none 0) X.res rfl rfl rfl rfl rfl ?_) | (refine wpList_tell (k := 0) (f := zF) (ad := none) (cd := 0) (X.fin (ndC (znd []) (zp none 0)) #[]).1 rfl rfl rfl rfl rfl ?_))
      obtain ⟨-, Z1, Z2, Z3⟩ := X.fin (ndC (znd []) (zp none 0)) (hpC 0 zF none 0)
      refine bodyPost_ret (v := .tuple #[ndV (znd []) (zp none 0), hpV 0 zF none 0]) ?_ rfl ?_
      · exact results_both Tryz.results15 _ _ gr gh _ _ rfl rfl Z1 Z2 rfl rfl
      · rw [hA.out]
        exact ⟨zp none 0, none, 0, rfl, NdM.new (Fls.nil none _) 0, Nums.nil _, Z3⟩
    · have hA := Lib.hid (show sampA n l = sampN n l from if_pos (by rw [hr, hok.out]; rfl))
      have hl : l = 0 ∨ l = 1 := by have := rng_iff.1 hr; omega
      clear hr
      obtain ⟨R, -⟩ := right_iff.1 hok.out
      have hbb := boxB_iff.1 R.box
      have hD : n.fr.D.length ≤ 1000 := by have := frOk_max (show frOk n.fr.id n.fr.rm n.fr.ln n.fr.D = true from R.fr); omega
      have hB8 : ∀ j, j < n.box.length → (nthF n.box j).D.length ≤ 1000 := fun j hj => by
        have hf : frB (nthF n.box j) = true := by
          cases h2 : frB (nthF n.box j) with
          | true => rfl
          | false => have h3 := rk_neg h2; have h4 := (hbb.2 j hj).1; omega
        have := frOk_max (show frOk _ _ _ _ = true from hf); omega
      have hF8 : ∀ j, j < n.fifo.length → (nthF n.fifo j).D.length ≤ 1000 := fun j hj => by
        have h3 := R.fifo
        simp only [fifoB, Bool.and_eq_true, List.all_eq_true] at h3
        have hf : frB (nthF n.fifo j) = true := h3.2 _ (by rw [nthF_eq hj]; exact List.getElem_mem hj)
        have := frOk_max (show frOk _ _ _ _ = true from hf); omega
      have h32 := fifo_32 R.fifo
      have h8 := R.flt.1
      have h16 := hbb.1
      clear R hbb
      go_wp2_with (refine Nx.take ⟨X.blk, X.bel⟩ rfl rfl rfl ?_)
      have hl2 := X.lt
      refine (specCopy n p _ (hm.below X.bel) hal hD (by omega) hB8 (by omega) hF8 (by omega)).mono ?_
      rintro e w4 ⟨p2, rfl, hc, b⟩
      replace X := X.below b
      clear b hB8 hF8
      have M4 := hc.1 w4 (Up.refl _ _)
      go_wp2_with fail
      refine (specSample n p2 l _ M4 hok.out hl).mono ?_
      rintro e w5 ⟨p5, ad5, cd5, rfl, hk5, b⟩
      have hl4 := X.lt
      replace X := X.below b
      have u45 : Up w2.heap.size w4 w5 := Up.ofBelow b
      clear b
      generalize hr6 : sampN n l = r at hk5 ⊢
      replace hr6 := Lib.hid hr6
      obtain ⟨n6, k6, f6⟩ := r
      dsimp only at hk5 ⊢
      go_wp2_with (first | (refine wpList_put (n := n6) (p := p5) X.res rfl rfl rfl rfl rfl ?_) | (refine wpList_tell (k := k6) (f := f6) (ad := ad5) (cd := cd5) (X.fin (ndC n6 p5) #[]).1 rfl rfl rfl rfl rfl ?_))
      have up2 := X.upFin (hi := w2.heap.size) (ndC n6 p5) (hpC k6 f6 ad5 cd5) hl2.2.1 hl2.2.2
      have up4 := X.upFin (hi := w4.heap.size) (ndC n6 p5) (hpC k6 f6 ad5 cd5) hl4.2.1 hl4.2.2
      obtain ⟨-, Z1, Z2, Z3⟩ := X.fin (ndC n6 p5) (hpC k6 f6 ad5 cd5)
      obtain ⟨M6, N6⟩ := hk5 _ up4 (hc.1 _ (u45.trans up2))
      refine bodyPost_ret (v := .tuple #[ndV n6 p5, hpV k6 f6 ad5 cd5]) ?_ rfl ?_
      · exact results_both Tryz.results15 _ _ gr gh _ _ rfl rfl Z1 Z2 rfl rfl
      · rw [hA.out, hr6.out]
        exact ⟨p5, ad5, cd5, rfl, M6, N6, Z3⟩
end Go.Proofs.YtngcekegngmedaaGreatDoor

/- The walk of laws.FnExactSampled. -/

set_option linter.unusedVariables false
set_option linter.unusedSimpArgs false
namespace Go.Proofs.YtngcekegngmedaaGreatDoor
open Go.RowKit

set_option maxHeartbeats 32000000 in
set_option maxRecDepth 20000 in
theorem walkFnExactSampled (n : Nd) (p : NdP) (l : Int) (w : World) (hm : NdM n p w) (hg : ErrHeld w) :
    Calls Tryz.prog 9 #[ndV n p, .int .i64 l] w fun e w' => e = .returned (.bool true) ∧ Below w.heap.size w w' := by
  have Y := Ny.made n p (Below.refl w.heap.size w)
  go_enter Tryz.func9, Tryz.ntmps9
  go_upto_region 1 with fail
  generalize w.alloc _ = W at Y ⊢
  generalize w.heap.size = ga at Y ⊢
  go_wp2_with (refine Y.take rfl rfl rfl ?_)
  refine (szNodeAny n p 1048576 _ (hm.below Y.bel) (by omega) (by omega)).mono ?_
  rintro e w1 ⟨hz | hz, b⟩
  case inr =>
    obtain ⟨hz, rfl⟩ := hz
    have hb := Below.then2 Y.bel b
    go_wp2_with fail
    go_ret
    exact ⟨rfl, hb⟩
  obtain ⟨hz, rfl⟩ := hz
  replace Y := Y.below b
  clear b
  have hs : roomN n ≤ 1048576 := by omega
  clear hz
  obtain ⟨hN, hf⟩ := sampA_room n l
  obtain ⟨N, k, f, hr⟩ : ∃ N k f, sampA n l = (N, k, f) := ⟨_, _, _, rfl⟩
  rw [hr] at hN hf
  dsimp only at hN hf
  have HS := Lib.hid (fun p w (h1 : NdM n p w) (h2 : p.al = none → p.cl = 0) => show Calls _ _ _ _ (SampRx N k f w) from (specSampled n p l w h1 h2).mono (fun e w' h => by rw [hr] at h; exact h))
  have HI := Lib.hid (fun p w (h1 : NdM n p w) (h2 : ErrHeld w) (h3 : NdA n p) => show Calls _ _ _ _ (SampOx N k f w) from (implSampled n p l w h1 h2 h3).mono (fun e w' h => by rw [hr] at h; exact h))
  clear hr
  have hN2 : roomN N ≤ 1048576 := by omega
  have hf2 : f.D.length ≤ 2000000 := by omega
  obtain ⟨K0, K1⟩ := k4N_bd (k := 1) (n := N) (by omega) (by omega) hN2
  have hk1 : ¬ k4N 1 N < 0 := by omega
  have hk1' : decide (k4N 1 N < 0) = false := decide_eq_false hk1
  obtain ⟨J0, J1⟩ := k4N_bd (k := 1) (n := n) (by omega) (by omega) hs
  have hj1 : ¬ k4N 1 n < 0 := by omega
  have hj1' : decide (k4N 1 n < 0) = false := decide_eq_false hj1
  have hk2 : ¬ k4N 1 N + (f.D.length : Int) < 0 := by omega
  have hk2' : decide (k4N 1 N + (f.D.length : Int) < 0) = false := decide_eq_false hk2
  go_wp2_with (refine Y.take rfl rfl rfl ?_)
  refine (toNodeOwn n p _ (hm.below Y.bel) hs).mono ?_
  rintro e w2 ⟨p1, _, _, _, _, _, rfl, O1, b⟩
  replace Y := Y.below b
  have M1 := O1.ndm hs
  have L1 := O1.flt.bare
  clear b O1
  go_wp2_with fail
  refine (HS.out p1 w2 M1 L1).mono ?_
  rintro e w3 ⟨p3, ad3, cd3, rfl, M3, N3, b⟩
  replace Y := Y.below b
  clear b M1 L1
  have A := Ans.made N p3 k f ad3 cd3 w3 Y.bel
  have b := ans_below N p3 k f ad3 cd3 w3 (Below.refl w3.heap.size w3) (Nat.le_refl _)
  have a1 := ans_node w3
  have a2 := ans_hap N p3 w3
  go_upto_region 6 with (first | (refine wpList_put (n := N) (p := p3) a1 rfl rfl rfl rfl rfl ?_) | (refine wpList_tell (k := k) (f := f) (ad := ad3) (cd := cd3) a2 rfl rfl rfl rfl rfl ?_))
  clear a1 a2
  replace Y := Y.below b
  replace M3 := M3.below b
  replace N3 := N3.below b
  clear b
  unfold ansW at Y M3 N3 A
  generalize World.setRow _ _ _ = W3 at Y M3 N3 A ⊢
  generalize w3.heap.size + 1 = gwh at A ⊢
  generalize w3.heap.size = gw at A ⊢
  have hw3 := A.bel.size
  have Q := Below.refl W3.heap.size W3
  go_wp2_with (refine Y.take rfl rfl rfl ?_)
  refine (toNodeOwn n p _ (hm.below Y.bel) hs).mono ?_
  rintro e w4 ⟨p4, _, _, _, XB, XF, rfl, O4, b⟩
  replace Q := b
  have Y4 := Y.below b
  obtain ⟨j4, I4⟩ := O4.ndI3 b.size
  have A4 := O4.nda
  clear b O4
  have b := below_more (Below.refl w4.heap.size w4) (.cells (ndC n p4) 32)
  have X := Nx.made n p4 Y4.bel
  go_upto_region 7 with (skip; refine wpList_lay (w := w4) (n := n) (p := p4) (C := ndZ) (by rfl) (by rfl) (by rfl) (by rfl) (by rfl) (by rfl) ?_)
  replace Q := Below.then2 Q b
  replace I4 := I4.below b
  clear b Y4
  have z4 : w4.heap.size < (w4.alloc (.cells (ndC n p4) 32)).heap.size := by simp
  generalize w4.alloc _ = W4 at Q I4 X z4 ⊢
  generalize w4.heap.size = gx at I4 X z4 ⊢
  have q4 := Q.size
  have hw4 : w.heap.size ≤ W4.heap.size := by omega
  go_wp2_with (refine X.take rfl rfl rfl ?_)
  refine (HI.out p4 _ (I4.ndm hs) (hg.below X.bel) A4).mono ?_
  rintro e w5 ⟨p5, ad5, cd5, j5, H5, CB, CF, rfl, F5, U5, l5, I5, b⟩
  have z5 := b.size
  have h5 : H5 ≤ w5.heap.size := by have h1 := I5.ok.l; omega
  clear A4
  replace Q := Below.then2 Q b
  replace X := X.below b
  replace I4 := I4.below b
  clear b
  have C := Ans.made N p5 k f ad5 cd5 w5 X.bel
  have b := ans_below N p5 k f ad5 cd5 w5 (Below.refl w5.heap.size w5) (Nat.le_refl _)
  have a1 := ans_node w5
  have a2 := ans_hap N p5 w5
  go_upto_region 8 with (first | (refine wpList_put (n := N) (p := p5) a1 rfl rfl rfl rfl rfl ?_) | (refine wpList_tell (k := k) (f := f) (ad := ad5) (cd := cd5) a2 rfl rfl rfl rfl rfl ?_))
  clear a1 a2
  replace Q := Below.then2 Q b
  replace X := X.below b
  replace I4 := I4.below b
  replace I5 := I5.below b
  replace F5 := F5.below' b
  clear b
  unfold ansW at Q X I4 I5 F5 C
  generalize World.setRow _ _ _ = W5 at Q X I4 I5 F5 C ⊢
  have e5 : w5.heap.size < w5.heap.size + 1 := Nat.lt_succ_self _
  generalize w5.heap.size + 1 = gih at C e5 ⊢
  generalize w5.heap.size = gi at *
  have AQ := A.below Q
  go_wp2_with (first | (refine C.takeN rfl rfl rfl ?_) | (refine AQ.takeN rfl rfl rfl ?_))
  refine (eqN N p5 p3 _ (I5.ndm hN2) (M3.below Q)).mono ?_
  rintro e w6 ⟨rfl, b⟩
  replace Q := Below.then2 Q b
  replace X := X.below b
  replace I4 := I4.below b
  replace I5 := I5.below b
  replace F5 := F5.below' b
  replace C := C.below b
  clear b AQ
  have AQ := A.below Q
  go_wp2_with (first | (refine C.takeH rfl rfl rfl ?_) | (refine AQ.takeH rfl rfl rfl ?_))
  refine (eqHp k f ad5 ad3 cd5 cd3 _ F5.nums2 (N3.below Q)).mono ?_
  rintro e w7 ⟨rfl, b⟩
  replace Q := Below.then2 Q b
  replace X := X.below b
  replace I4 := I4.below b
  replace I5 := I5.below b
  replace F5 := F5.below' b
  replace C := C.below b
  clear b AQ
  go_upto_region 10 with fail
  refine wp_region_held (S := fun u => Nx gx n p4 w u ∧ Ny ga n p w u) (by kernel_rfl) ?_
  have b : Below w7.heap.size w7 { w7 with drawn := w7.drawn + 1 } := (Below.refl w7.heap.size w7).drew
  replace Q := Below.then2 Q b
  replace X := X.below b
  replace I4 := I4.below b
  replace I5 := I5.below b
  replace F5 := F5.below' b
  replace C := C.below b
  clear b
  generalize ({ w7 with drawn := w7.drawn + 1 } : World) = w8 at *
  have YQ := Y.below Q
  refine wpAnyH_take (i := 0) (v := ndV n p4) rfl (by kernel_rfl) (by kernel_rfl) (by kernel_rfl) (fun _ _ _ h => h) (.inl ⟨rfl, fun u hu => hu.1.took rfl rfl⟩) ⟨X, YQ⟩ ?_
  refine wpAnyH_take (i := 1) (v := ndV n p) rfl (by kernel_rfl) (by kernel_rfl) (by kernel_rfl) (fun _ _ _ h => h) (.inl ⟨rfl, fun u hu => hu.2.took rfl rfl⟩) ⟨X, YQ⟩ ?_
  simp only [Act.put, List.setIfInBounds_toArray, List.set_cons_zero, List.set_cons_succ]
  refine held_call 2 53 #[ndV n p] rfl (by kernel_rfl) rfl (by go_simp) ?_
  refine (toNodeOwn n p _ (hm.below YQ.bel) hs).mono ?_
  rintro e w9 ⟨p9, _, _, _, _, _, rfl, O9, b⟩
  replace Q := Below.then2 Q b
  replace X := X.below b
  replace I4 := I4.below b
  replace I5 := I5.below b
  replace F5 := F5.below' b
  replace C := C.below b
  replace YQ := YQ.below b
  have M9 := O9.ndm hs
  clear b O9
  refine ⟨_, rfl, ⟨X, YQ⟩, ?_⟩
  simp only [Act.put, List.setIfInBounds_toArray, List.set_cons_zero, List.set_cons_succ]
  refine held_call 3 54 #[ndV n p4, ndV n p9] rfl (by kernel_rfl) rfl (by go_simp) ?_
  refine (eqN n p4 p9 _ (I4.ndm hs) M9).mono ?_
  rintro e w10 ⟨rfl, b⟩
  replace Q := Below.then2 Q b
  replace X := X.below b
  replace I4 := I4.below b
  replace I5 := I5.below b
  replace F5 := F5.below' b
  replace C := C.below b
  replace YQ := YQ.below b
  clear b M9
  refine ⟨_, rfl, ⟨X, YQ⟩, ?_⟩
  simp only [Act.put, List.setIfInBounds_toArray, List.set_cons_zero, List.set_cons_succ]
  refine held_value 4 (.bool false) rfl (by kernel_rfl) rfl (by go_simp) ⟨X, YQ⟩ ?_
  refine wpAnyH_done (by kernel_rfl) ?_ _
  clear YQ
  simp only [Act.put, List.setIfInBounds_toArray, List.set_cons_zero, List.set_cons_succ]
  have x4 := X.lt
  go_wp2_with (refine X.take rfl rfl rfl ?_)
  refine (markNodeI j4 W3.heap.size gx n p4 XB XF 1 _ I4 (by omega) hs (by omega) (by omega)).mono ?_
  rintro e w11 ⟨_, _, rfl, -, m⟩
  
  replace Q := Q.trans (m.below (Nat.le_refl _) Q.size)
  replace C := C.mid m hw3 (.inr ⟨by omega, by omega⟩)
  replace I5 := I5.sep m (.inr (by omega))
  replace F5 := F5.mid m (by omega)
  clear m X I4
  have AQ := A.below Q
  go_wp2_with (first | (refine C.takeN rfl rfl rfl ?_) | (refine AQ.takeN rfl rfl rfl ?_))
  refine (eqN N p5 p3 _ (I5.ndm hN2) (M3.below Q)).mono ?_
  rintro e w12 ⟨rfl, b⟩
  replace Q := Below.then2 Q b
  replace I5 := I5.below b
  replace F5 := F5.below' b
  replace C := C.below b
  clear b AQ
  have AQ := A.below Q
  go_wp2_with (first | (refine C.takeH rfl rfl rfl ?_) | (refine AQ.takeH rfl rfl rfl ?_))
  refine (eqHp k f ad5 ad3 cd5 cd3 _ F5.nums2 (N3.below Q)).mono ?_
  rintro e w13 ⟨rfl, b⟩
  replace Q := Below.then2 Q b
  replace I5 := I5.below b
  replace F5 := F5.below' b
  replace C := C.below b
  clear b AQ
  have c13 := C.lt
  go_wp2_with (refine C.takeN rfl rfl rfl ?_)
  refine (markNodeI j5 H5 gi N p5 CB CF 1 _ I5 (by omega) hN2 (by omega) (by omega)).mono ?_
  rintro e w14 ⟨_, _, rfl, I14, m⟩
  replace Q := Q.trans (m.below (by omega) Q.size)
  replace C := C.mid m (by omega) (.inr ⟨by omega, by omega⟩)
  replace F5 := F5.sep m U5 (.inl (Nat.le_refl _))
  clear m I5
  go_wp2_with (refine C.takeH rfl rfl rfl ?_)
  refine (markHp W4.heap.size k f ad5 cd5 (k4N 1 N) _ F5 hf2 K0 (by omega)).mono ?_
  rintro e w15 ⟨rfl, F15, gg⟩
  have m : Mid W4.heap.size H5 w14 w15 := (Mid.refl W4.heap.size H5 w14).grown gg (fun q hq => ⟨F5.low hq, U5 q hq⟩)
  replace Q := Q.trans (m.below (by omega) Q.size)
  replace C := C.mid m hw4 (.inr ⟨by omega, by omega⟩)
  replace I14 := I14.sep m (.inr (Nat.le_refl _))
  clear m gg F5
  have hm14 : roomN (markedN 1 N) ≤ 1048576 := by rw [room_marked]; exact hN2
  go_wp2_with (refine C.takeN rfl rfl rfl ?_)
  refine (heldNodeO N p5 1 _ (I14.ndm hm14) hN2 (by omega) (by omega)).mono ?_
  rintro e w16 ⟨rfl, b⟩
  replace Q := Below.then2 Q b
  replace C := C.below b
  replace I14 := I14.below b
  replace F15 := F15.below' b
  clear b
  go_wp2_with (refine C.takeH rfl rfl rfl ?_)
  refine (heldHp k f ad5 cd5 (k4N 1 N) _ F15.nums2 hf2 K0 (by omega)).mono ?_
  rintro e w17 ⟨rfl, b⟩
  replace Q := Below.then2 Q b
  replace C := C.below b
  replace I14 := I14.below b
  replace F15 := F15.below' b
  clear b
  have YQ := Y.below Q
  go_wp2_with (refine YQ.take rfl rfl rfl ?_)
  refine (toNodeOwn n p _ (hm.below YQ.bel) hs).mono ?_
  rintro e w18 ⟨p18, _, _, _, _, _, rfl, O18, b⟩
  replace Q := Below.then2 Q b
  replace C := C.below b
  replace I14 := I14.below b
  replace F15 := F15.below' b
  clear b YQ
  go_wp2_with fail
  refine (HI.out p18 _ (O18.ndm hs) (hg.below C.bel) O18.nda).mono ?_
  rintro e w19 ⟨p19, ad19, cd19, j19, H19, _, _, rfl, F19, -, -, O19, b⟩
  replace Q := Below.then2 Q b
  replace C := C.below b
  replace I14 := I14.below b
  replace F15 := F15.below' b
  clear b O18
  have D := Ans.made N p19 k f ad19 cd19 w19 C.bel
  have b := ans_below N p19 k f ad19 cd19 w19 (Below.refl w19.heap.size w19) (Nat.le_refl _)
  have a1 := ans_node w19
  have a2 := ans_hap N p19 w19
  go_upto_region 29 with (first | (refine wpList_put (n := N) (p := p19) a1 rfl rfl rfl rfl rfl ?_) | (refine wpList_tell (k := k) (f := f) (ad := ad19) (cd := cd19) a2 rfl rfl rfl rfl rfl ?_))
  clear a1 a2
  have M19 := (O19.ndm hN2).below b
  have N19 := F19.nums2.below b
  replace Q := Below.then2 Q b
  replace C := C.below b
  replace I14 := I14.below b
  replace F15 := F15.below' b
  clear b O19 F19
  unfold ansW at Q C I14 F15 D M19 N19
  generalize World.setRow _ _ _ = W19 at Q C I14 F15 D M19 N19 ⊢
  generalize w19.heap.size + 1 = gjh at D ⊢
  generalize w19.heap.size = gj at D ⊢
  have AQ := A.below Q
  go_wp2_with (first | (refine D.takeN rfl rfl rfl ?_) | (refine AQ.takeN rfl rfl rfl ?_))
  refine (eqN N p19 p3 _ M19 (M3.below Q)).mono ?_
  rintro e w20 ⟨rfl, b⟩
  replace Q := Below.then2 Q b
  replace C := C.below b
  replace D := D.below b
  replace N19 := N19.below b
  replace I14 := I14.below b
  replace F15 := F15.below' b
  clear b AQ M19
  have AQ := A.below Q
  go_wp2_with (first | (refine D.takeH rfl rfl rfl ?_) | (refine AQ.takeH rfl rfl rfl ?_))
  refine (eqHp k f ad19 ad3 cd19 cd3 _ N19 (N3.below Q)).mono ?_
  rintro e w21 ⟨rfl, b⟩
  replace Q := Below.then2 Q b
  replace C := C.below b
  replace I14 := I14.below b
  replace F15 := F15.below' b
  clear b AQ N19 D
  go_wp2_with (refine C.takeN rfl rfl rfl ?_)
  refine (heldNodeO N p5 1 _ (I14.ndm hm14) hN2 (by omega) (by omega)).mono ?_
  rintro e w22 ⟨rfl, b⟩
  replace C := C.below b
  replace F15 := F15.below' b
  clear b I14
  go_wp2_with (refine C.takeH rfl rfl rfl ?_)
  refine (heldHp k f ad5 cd5 (k4N 1 N) _ F15.nums2 hf2 K0 (by omega)).mono ?_
  rintro e w23 ⟨rfl, b⟩
  have hb := Below.then2 C.bel b
  clear b C F15
  go_wp2_with fail
  go_ret
  exact ⟨rfl, hb⟩
end Go.Proofs.YtngcekegngmedaaGreatDoor
