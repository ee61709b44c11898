/- The walk of laws.FnExactServerTick. -/
import Derived.Test.YtnhmecabppaboaaGreatM27
import Derived.Test.YtnhmecabppaboaaGreatM26
import Derived.Deep.DeepCutAuto
import Derived.Deep.CutRange
import Derived.Deep.AppendSrc

set_option linter.unusedVariables false
set_option linter.unusedSimpArgs false
namespace Go.Proofs.YtnhmecabppaboaaGreat
open Go.RowKit

theorem tik_both (s : Srv) : (if srvB s = true then tikS s else srZ) = forS s 1 := by
  cases h : srvB s with
  | true => rw [if_pos rfl, (tik_for h).1]
  | false => rw [if_neg (by simp)]; unfold forS; rw [if_neg (by simp [h])]
theorem tik_both2 (s : Srv) : (if srvB s = true then tikE s else []) = forE s 1 := by
  cases h : srvB s with
  | true => rw [if_pos rfl, (tik_for h).2]
  | false => rw [if_neg (by simp)]; unfold forE; rw [if_neg (by simp [h])]
set_option maxHeartbeats 32000000 in
set_option maxRecDepth 20000 in
theorem walkFnExactServerTick (a : Option Addr) (X : List (List Frm)) (c : Nat) (busy nd rank now : Int) (w : World) (hm : Bxs (fun _ _ _ => True) a X w) :
    Calls Tryz.prog 4 #[svV a X.length c busy nd rank now] w fun e w' => e = .returned (.bool true) ∧ Below w.heap.size w w' := by
  obtain ⟨HY, b⟩ := one_sv w (svC a X.length c busy nd rank now) 46
  go_enter Tryz.func4, Tryz.ntmps4
  go_upto_region 1 with fail
  generalize World.alloc _ _ = W at HY b ⊢
  generalize w.heap.size = ga at HY ⊢
  have B := b
  clear b
  go_wp2_with (refine svTakeL HY rfl rfl rfl ?_)
  refine (szSrvAny (fun _ _ _ => True) a X c busy nd rank now 1048576 _ (hm.below B) (by omega) (by omega)).mono ?_
  rintro e w1 ⟨hz | hz, b⟩
  case inr =>
    obtain ⟨hz, rfl⟩ := hz
    have hb := Below.then2 B b
    go_wp2_with fail
    go_ret
    exact ⟨rfl, hb⟩
  obtain ⟨hz, rfl⟩ := hz
  replace B := Below.then2 B b
  replace HY := blkV HY b
  clear b
  have hs : roomX X ≤ 1048576 := by omega
  have hXm : X.length ≤ 2000000 := by unfold roomX at hs; omega
  have hXs : ∀ j, j < X.length → (nthB X j).length ≤ 2000000 := fun j hj => by have := sumX_at X hj; unfold roomX at hs; omega
  have hkX := kB_eq 1 X X.length (Nat.le_refl _)
  have hkX2 : sumX X X.length ≤ 1048576 := by unfold roomX at hs; omega
  replace hXs := Lib.hid hXs
  have hl2 : ¬ (1048576 : Int) - roomX X < 0 := by omega
  have hj1 : ¬ kB 1 X X.length < 0 := by omega
  have hj1' : decide (kB 1 X X.length < 0) = false := decide_eq_false hj1
  clear hz hkX hkX2
  generalize (1048576 : Int) - roomX X = left at hl2 ⊢
  obtain ⟨⟨hQ6, hQl⟩, hN5, hNr⟩ := for_lean ⟨X, busy, nd, rank, now⟩ 1
  obtain ⟨QX, hQX⟩ : ∃ q, (forS ⟨X, busy, nd, rank, now⟩ 1).bx = q := ⟨_, rfl⟩
  obtain ⟨Qb, hQb⟩ : ∃ q, (forS ⟨X, busy, nd, rank, now⟩ 1).busy = q := ⟨_, rfl⟩
  obtain ⟨Qn, hQn⟩ : ∃ q, (forS ⟨X, busy, nd, rank, now⟩ 1).node = q := ⟨_, rfl⟩
  obtain ⟨Qr, hQr⟩ : ∃ q, (forS ⟨X, busy, nd, rank, now⟩ 1).rank = q := ⟨_, rfl⟩
  obtain ⟨QT, hQT⟩ : ∃ q, (forS ⟨X, busy, nd, rank, now⟩ 1).now = q := ⟨_, rfl⟩
  obtain ⟨QN, hQN⟩ : ∃ q, (forE ⟨X, busy, nd, rank, now⟩ 1) = q := ⟨_, rfl⟩
  have HS := Lib.hid (fun (a : Option Addr) (c : Nat) (w : World) (h1 : Bxs Adr a X w) => show Calls _ _ _ _ (MtR ⟨QX, Qb, Qn, Qr, QT⟩ QN w) from (specServerTick Adr a X c busy nd rank now w h1).mono (fun e w' h => by rw [tik_both, tik_both2] at h; rw [← hQX, ← hQb, ← hQn, ← hQr, ← hQT, ← hQN]; exact h))
  have HI := Lib.hid (fun (a : Option Addr) (c : Nat) (w : World) (h1 : Bxs Adr a X w) => show Calls _ _ _ _ (SeO QX Qb Qn Qr QT QN w) from (implServerTick Adr a X c busy nd rank now w h1).mono (fun e w' h => by have h := h.se; rw [hQX, hQb, hQn, hQr, hQT, hQN] at h; exact h))
  rw [hQX] at hQ6 hQl
  rw [hQN] at hN5 hNr
  clear hQX hQb hQn hQr hQT hQN
  have hQsum := roomX_small hQl QX.length (Nat.le_refl _)
  have hQm : QX.length ≤ 2000000 := by omega
  have hQr2 : roomX QX ≤ 1048577 := by unfold roomX; omega
  have hQs : ∀ j, j < QX.length → (nthB QX j).length ≤ 2000000 := fun j hj => by have := (hQl j hj).1; omega
  have hQmx : (mkB 1 QX QX.length).length ≤ 2000000 := by rw [mkB_len]; exact hQm
  have hQx2 : ∀ j, j < (mkB 1 QX QX.length).length → (nthB (mkB 1 QX QX.length) j).length ≤ 2000000 := fun j hj => by rw [mkB_len] at hj; rw [mkB_all hj, mkL_len]; exact hQs j hj
  have hkq := kB_eq 1 QX QX.length (Nat.le_refl _)
  have hk0 : 0 ≤ kB 1 QX QX.length := by omega
  have hk2 : kB 1 QX QX.length ≤ 100000000 := by omega
  have hk1 : ¬ kB 1 QX QX.length < 0 := by omega
  have hk1' : decide (kB 1 QX QX.length < 0) = false := decide_eq_false hk1
  have hNm : QN.length ≤ 2000000 := by omega
  have hNs : roomE QN QN.length ≤ 2000000 := by have := hNr QN.length; omega
  have hNl : QN.length ≤ maxLen := by unfold maxLen; omega
  have hNl2 : (mixE (kB 1 QX QX.length) QN QN.length).length ≤ maxLen := by rw [mixE_len]; exact hNl
  have hke : ¬ kE (kB 1 QX QX.length) QN QN.length < 0 := by unfold kE; omega
  have hke' : decide (kE (kB 1 QX QX.length) QN QN.length < 0) = false := decide_eq_false hke
  have hkk : (!(kE (kB 1 QX QX.length) QN QN.length == kE (kB 1 QX QX.length) QN QN.length)) = false := by simp
  clear hQsum hkq hQl hNr hN5 hQ6
  replace hQs := Lib.hid hQs
  replace hQx2 := Lib.hid hQx2
  go_wp2_with (refine svTakeL HY rfl rfl rfl ?_)
  refine (toSrv (fun _ _ _ => True) a X c busy nd rank now _ (hm.below B) hs).mono ?_
  rintro e w2 ⟨G1, L1, H1, rfl, O1, F1, b⟩
  replace B := Below.then2 B b
  replace HY := blkV HY b
  have P1 := O1.bxs hXm hXs.out
  clear b O1 F1
  go_wp2_with fail
  refine (HS.out _ _ _ P1).mono ?_
  rintro e w3 ⟨a1, c1, e1, d1, rfl, M1, E1, b⟩
  replace B := Below.then2 B b
  replace HY := blkV HY b
  clear b P1 HS
  obtain ⟨HA, b⟩ := one_sv w3 (svC a1 QX.length c1 Qb Qn Qr QT) 26
  replace M1 := M1.below b
  replace E1 := E1.below b
  replace B := Below.then2 B b
  replace HY := blkV HY b
  clear b
  dsimp only
  go_upto_region 6 with fail
  generalize w3.alloc _ = W3 at HA M1 E1 B HY ⊢
  have HY3 := HY
  generalize w3.heap.size = g4 at HA ⊢
  go_wp2_with (refine svTakeL HY rfl rfl rfl ?_)
  refine (toSrv (fun _ _ _ => True) a X c busy nd rank now _ (hm.below B) hs).mono ?_
  rintro e w4 ⟨G4, L4, H4, rfl, O4, F4, b⟩
  have Q := b
  replace HY := blkV HY b
  clear b
  have hH4 : Hid (∀ j, j < X.length → H4 j ≤ w4.heap.size) := Lib.hid fun j hj => (O4.out j hj).2.1
  have q4 := Q.size
  obtain ⟨XB, b⟩ := one_sv w4 (svC (some ⟨G4, 0, none⟩) X.length X.length busy nd rank now) 26
  have z4 : w4.heap.size < (w4.alloc (.cells (svC (some ⟨G4, 0, none⟩) X.length X.length busy nd rank now) 26)).heap.size := by simp
  replace O4 := O4.below b
  replace Q := Below.then2 Q b
  replace HY := blkV HY b
  clear b
  go_upto_region 7 with fail
  generalize w4.alloc _ = W4 at XB O4 Q HY z4 ⊢
  generalize w4.heap.size = gx at XB hH4 q4 z4 ⊢
  go_wp2_with (refine svTakeI XB rfl rfl rfl ?_)
  refine (HI.out _ _ _ (O4.bxs hXm hXs.out)).mono ?_
  rintro e w5 ⟨a5, c5, L5, H5, e5, d5, P5, LE5, HE5, rfl, A5, b⟩
  have hgw : W3.heap.size ≤ W4.heap.size := Q.size
  have hgG0 : W4.heap.size ≤ w5.heap.size := b.size
  have hT5 := A5.top
  replace Q := Below.then2 Q b
  replace XB := blkV XB b
  replace O4 := O4.below b
  replace HY := blkV HY b
  clear b
  obtain ⟨HG, b⟩ := one_sv w5 (svC a5 QX.length c5 Qb Qn Qr QT) 26
  have hgG := hgG0
  clear hgG0
  replace A5 := A5.below b
  replace Q := Below.then2 Q b
  replace XB := blkV XB b
  replace O4 := O4.below b
  replace HY := blkV HY b
  clear b
  go_upto_region 8 with fail
  generalize w5.alloc _ = W5 at HG A5 XB O4 Q HY ⊢
  generalize w5.heap.size = g7 at HG hgG hT5 ⊢
  replace hT5 := Lib.hid hT5
  have hT5m := Lib.hid (show TopE (mkB 1 QX QX.length) H5 e5 QN HE5 g7 from ⟨fun j hj => hT5.out.1 j (by rw [mkB_len] at hj; exact hj), hT5.out.2.1, hT5.out.2.2⟩)
  go_wp2_with (first | (refine svTakeI HG rfl rfl rfl ?_) | (refine svTakeI (blkV HA Q) rfl rfl rfl ?_))
  refine (eqSrv Adr Adr a5 a1 QX c5 c1 Qb Qn Qr QT _ (A5.bx.bxs hQm hQs.out) (M1.below Q)).mono ?_
  rintro e w6 ⟨rfl, b⟩
  replace Q := Below.then2 Q b
  replace XB := blkV XB b
  replace O4 := O4.below b
  replace HG := blkV HG b
  replace A5 := A5.below b
  replace HY := blkV HY b
  clear b
  go_wp2_with fail
  refine (eqEvs e5 e1 QN d5 d1 _ (A5.ev.evs hNl) (E1.below Q)).mono ?_
  rintro e w7 ⟨rfl, b⟩
  replace Q := Below.then2 Q b
  replace XB := blkV XB b
  replace O4 := O4.below b
  replace HG := blkV HG b
  replace A5 := A5.below b
  replace HY := blkV HY b
  clear b
  go_upto_region 10 with fail
  refine wp_region_held (S := fun u => u.heap[gx]? = some (.cells (svC (some ⟨G4, 0, none⟩) X.length X.length busy nd rank now) 26 (0, 0)) ∧ u.heap[ga]? = some (.cells (svC a X.length c busy nd rank now) 46 (0, 0))) (by kernel_rfl) ?_
  have b : Below w7.heap.size w7 { w7 with drawn := w7.drawn + 1 } := (Below.refl w7.heap.size w7).drew
  replace Q := Below.then2 Q b
  replace XB := blkV XB b
  replace O4 := O4.below b
  replace HG := blkV HG b
  replace A5 := A5.below b
  replace HY := blkV HY b
  clear b
  generalize ({ w7 with drawn := w7.drawn + 1 } : World) = w8 at *
  refine h_take 0 42 (svV (some ⟨G4, 0, none⟩) X.length X.length busy nd rank now) rfl rfl (by kernel_rfl) (by kernel_rfl) (by kernel_rfl) (fun _ _ _ h => h) rfl (fun u hu => sv_tookI hu.1 rfl rfl) ⟨XB, HY⟩ ?_
  refine h_take 1 43 (svV a X.length c busy nd rank now) rfl rfl (by kernel_rfl) (by kernel_rfl) (by kernel_rfl) (fun _ _ _ h => h) rfl (fun u hu => sv_tookL hu.2 rfl rfl) ⟨XB, HY⟩ ?_
  try simp only [Act.put, List.setIfInBounds_toArray, List.set_cons_zero, List.set_cons_succ]
  refine h_call 2 44 20 #[svV a X.length c busy nd rank now] rfl rfl (by kernel_rfl) rfl (by go_simp) ?_
  refine (toSrv (fun _ _ _ => True) a X c busy nd rank now _ (hm.below (Below.then2 B Q)) hs).mono ?_
  rintro e w9 ⟨G9, L9, H9, rfl, O9, F9, b⟩
  have M9 := O9.bxs hXm hXs.out
  replace Q := Below.then2 Q b
  replace XB := blkV XB b
  replace O4 := O4.below b
  replace HG := blkV HG b
  replace A5 := A5.below b
  replace HY := blkV HY b
  clear b
  clear O9
  refine ⟨_, rfl, ⟨XB, HY⟩, ?_⟩
  try simp only [Act.put, List.setIfInBounds_toArray, List.set_cons_zero, List.set_cons_succ]
  refine h_call 3 45 21 #[svV (some ⟨G4, 0, none⟩) X.length X.length busy nd rank now, svV (some ⟨G9, 0, none⟩) X.length X.length busy nd rank now] rfl rfl (by kernel_rfl) rfl (by go_simp) ?_
  refine (eqSrv Adr Adr _ _ X _ _ busy nd rank now _ (O4.bxs hXm hXs.out) M9).mono ?_
  rintro e w10 ⟨rfl, b⟩
  replace Q := Below.then2 Q b
  replace XB := blkV XB b
  replace O4 := O4.below b
  replace HG := blkV HG b
  replace A5 := A5.below b
  replace HY := blkV HY b
  clear b
  clear M9
  refine ⟨_, rfl, ⟨XB, HY⟩, ?_⟩
  try simp only [Act.put, List.setIfInBounds_toArray, List.set_cons_zero, List.set_cons_succ]
  refine h_value 4 46 (.bool false) rfl rfl (by kernel_rfl) rfl (by go_simp) ⟨XB, HY⟩ ?_
  refine wpAnyH_done (by kernel_rfl) ?_ _
  try simp only [Act.put, List.setIfInBounds_toArray, List.set_cons_zero, List.set_cons_succ]
  go_wp2_with (refine svTakeI XB rfl rfl rfl ?_)
  refine (markAns W3.heap.size gx (some ⟨G4, 0, none⟩) X L4 H4 X.length busy nd rank now 1 _ ⟨.inr ⟨G4, _, rfl, O4⟩, fun G hG => (by cases hG; exact F4.1), F4.2⟩ hH4.out (by omega) (by omega) (by omega)).mono ?_
  rintro e w11 ⟨rfl, -, m⟩
  replace Q := Q.trans (m.below (Nat.le_refl _) Q.size)
  replace HG := m.row HG (by omega)
  replace A5 := A5.sep m (by omega)
  replace HY := blkV HY3 Q
  clear m XB O4 F4
  go_wp2_with (first | (refine svTakeI HG rfl rfl rfl ?_) | (refine svTakeI (blkV HA Q) rfl rfl rfl ?_))
  refine (eqSrv Adr Adr a5 a1 QX c5 c1 Qb Qn Qr QT _ (A5.bx.bxs hQm hQs.out) (M1.below Q)).mono ?_
  rintro e w12 ⟨rfl, b⟩
  replace Q := Below.then2 Q b
  replace HG := blkV HG b
  replace A5 := A5.below b
  replace HY := blkV HY b
  clear b
  go_wp2_with fail
  refine (eqEvs e5 e1 QN d5 d1 _ (A5.ev.evs hNl) (E1.below Q)).mono ?_
  rintro e w13 ⟨rfl, b⟩
  replace Q := Below.then2 Q b
  replace HG := blkV HG b
  replace A5 := A5.below b
  replace HY := blkV HY b
  clear b
  go_wp2_with (refine svTakeI HG rfl rfl rfl ?_)
  refine (markAnsE W4.heap.size a5 QX L5 H5 e5 QN P5 LE5 HE5 c5 Qb Qn Qr QT 1 g7 _ A5 hT5.out hQr2 (by omega) (by omega)).mono ?_
  rintro e w14 ⟨rfl, A5, -, k⟩
  replace Q := below_kp Q k (Nat.le_refl _) hgw
  replace HG := (k.block g7 (.inr (Nat.le_refl _)) (Array.getElem?_eq_some_iff.1 HG).1).trans HG
  replace HY := blkV HY3 Q
  clear k
  go_wp2_with fail
  refine (markAnsEv W4.heap.size a5 (mkB 1 QX QX.length) L5 H5 e5 QN P5 LE5 HE5 d5 (kB 1 QX QX.length) g7 _ A5 hT5m.out hNm hNs hk0 hk2).mono ?_
  rintro e w15 ⟨rfl, A5, -, k⟩
  replace Q := below_kp Q k (Nat.le_refl _) hgw
  replace HG := (k.block g7 (.inr (Nat.le_refl _)) (Array.getElem?_eq_some_iff.1 HG).1).trans HG
  replace HY := blkV HY3 Q
  clear k
  go_wp2_with (refine svTakeI HG rfl rfl rfl ?_)
  refine (heldSrv Adr a5 QX c5 Qb Qn Qr QT 1 _ (by have h := A5.bx.bxs hQmx hQx2.out; exact h) hQr2 (by omega) (by omega)).mono ?_
  rintro e w16 ⟨rfl, b⟩
  replace Q := Below.then2 Q b
  replace HG := blkV HG b
  replace A5 := A5.below b
  replace HY := blkV HY b
  clear b
  go_wp2_with fail
  refine (heldEvents e5 QN d5 (kB 1 QX QX.length) _ (A5.ev.evs hNl2) hNm hNs hk0 hk2).mono ?_
  rintro e w17 ⟨rfl, b⟩
  replace Q := Below.then2 Q b
  replace HG := blkV HG b
  replace A5 := A5.below b
  replace HY := blkV HY b
  clear b
  go_wp2_with (refine svTakeL HY rfl rfl rfl ?_)
  refine (toSrv (fun _ _ _ => True) a X c busy nd rank now _ (hm.below (Below.then2 B Q)) hs).mono ?_
  rintro e w18 ⟨G9, L9, H9, rfl, O9, F9, b⟩
  have M9 := O9.bxs hXm hXs.out
  replace Q := Below.then2 Q b
  replace HG := blkV HG b
  replace A5 := A5.below b
  replace HY := blkV HY b
  clear b
  clear O9 F9 HY
  go_wp2_with fail
  refine (HI.out _ _ _ M9).mono ?_
  rintro e w19 ⟨a8, c8, L8, H8, e8, d8, P8, LE8, HE8, rfl, A8, b⟩
  replace Q := Below.then2 Q b
  replace HG := blkV HG b
  replace A5 := A5.below b
  clear b
  clear M9 HI
  obtain ⟨HH, b⟩ := one_sv w19 (svC a8 QX.length c8 Qb Qn Qr QT) 26
  replace A8 := A8.below b
  replace Q := Below.then2 Q b
  replace HG := blkV HG b
  replace A5 := A5.below b
  clear b
  go_upto_region 29 with fail
  generalize w19.alloc _ = W8 at HG HH A5 A8 Q ⊢
  generalize w19.heap.size = g8 at HH ⊢
  go_wp2_with (first | (refine svTakeI HH rfl rfl rfl ?_) | (refine svTakeI (blkV HA Q) rfl rfl rfl ?_))
  refine (eqSrv Adr Adr a8 a1 QX c8 c1 Qb Qn Qr QT _ (A8.bx.bxs hQm hQs.out) (M1.below Q)).mono ?_
  rintro e w20 ⟨rfl, b⟩
  replace A8 := A8.below b
  replace Q := Below.then2 Q b
  replace HG := blkV HG b
  replace A5 := A5.below b
  clear b
  go_wp2_with fail
  refine (eqEvs e8 e1 QN d8 d1 _ (A8.ev.evs hNl) (E1.below Q)).mono ?_
  rintro e w21 ⟨rfl, b⟩
  replace Q := Below.then2 Q b
  replace HG := blkV HG b
  replace A5 := A5.below b
  clear b
  clear A8 HH
  go_wp2_with (refine svTakeI HG rfl rfl rfl ?_)
  refine (heldSrv Adr a5 QX c5 Qb Qn Qr QT 1 _ (by have h := A5.bx.bxs hQmx hQx2.out; exact h) hQr2 (by omega) (by omega)).mono ?_
  rintro e w22 ⟨rfl, b⟩
  replace Q := Below.then2 Q b
  replace HG := blkV HG b
  replace A5 := A5.below b
  clear b
  go_wp2_with fail
  refine (heldEvents e5 QN d5 (kB 1 QX QX.length) _ (A5.ev.evs hNl2) hNm hNs hk0 hk2).mono ?_
  rintro e w23 ⟨rfl, b⟩
  replace Q := Below.then2 Q b
  replace HG := blkV HG b
  replace A5 := A5.below b
  clear b
  have hb := Below.then2 B Q
  go_wp2_with fail
  go_ret
  exact ⟨rfl, hb⟩
end Go.Proofs.YtnhmecabppaboaaGreat

/- spec.l14Run, spec.ServerFor. -/

set_option linter.unusedVariables false
set_option linter.unusedSimpArgs false
set_option maxRecDepth 20000
namespace Go.Proofs.YtnhmecabppaboaaGreat
open Go.RowKit

theorem underE : Tryz.prog.underlying 29 = some (.slice 43) := Tryz.underlying29
/-- Nothing is appended: all stays. -/
theorem append_empty {B k : Nat} {xs : List Value} {v : Value} {w : World} (h : w.ownsRow B 43 7 v k xs) (ae : Option Addr) (ce : Nat) (ty : TypeId) :
    (Builtin.append_ #[29, 29] ty #[v, .slice ae 0 ce]).run Tryz.prog w = .ok v w := by
  obtain ⟨i0, hi1, hz0, hz1, hz2⟩ := info_parts infoE
  rcases h.2 with ⟨rfl, rfl⟩ | ⟨g, cap, cur, rfl, hb, hg, hle, hm, hcs, htk⟩
  · cases ae <;> simp [Builtin.append_, run_underlying underE, sizeOf, typeInfo, hi1, Builtin.lenOf, Builtin.firstCells, loadCells, loadCellsFrom]
  · cases ae with
    | none =>
      have := run_append_room_src (P := Tryz.prog) (w := w) 29 29 ty 43 i0 underE hi1 g 0 k cap (.slice none 0 ce) 0 [] (Src.ofNil w underE ce) (by omega) (by simp) (by simp)
      simpa [World.setCells] using this
    | some ad =>
      have := run_append_room_src (P := Tryz.prog) (w := w) 29 29 ty 43 i0 underE hi1 g 0 k cap (.slice (some ad) 0 ce) 0 [] (Src.ofSlice w underE ad 0 ce [] (by simp) (by simp) (by simp)) (by omega) (by simp) (by simp)
      simpa [World.setCells] using this
/-- At most one event is appended, as it lies in another row. -/
theorem wpList_appT {ops : Array Oper} {rest : List Oper} {o : Oper} {a : Act} {w : World} {Q : Exit → Act → World → Prop} (hgd : o.guard = none) (s x : Operand)
    (ho : o.op = .call { callee := .builtin .append, args := #[s, x], argTypes := #[29, 29] })
    (B B2 : Nat) (N T : List Ev) (P PE : Nat → EvP) (L H LE HE : Nat → Nat) (v : Value) (ae : Option Addr) (ce : Nat) (hs : a.eval s = v) (h : RowE OwnE B N.length N P L H v w) (hx : a.eval x = .slice ae T.length ce)
    (hT : RowE OwnE B2 T.length T PE LE HE (.slice ae T.length ce) w) (hT1 : T.length ≤ 1) (hk : N.length ≤ 1000000) (hB : B ≤ B2) (hlo : ∀ j, j < N.length → H j ≤ B2) (hg : ∀ g, v.ownBlock = some g → g < B2) (hBw : B ≤ w.heap.size)
    (K : ∀ v' P' L' H' w', RowE OwnE B (N ++ T).length (N ++ T) P' L' H' v' w' → w.grownBy w' v.ownBlock → (v'.ownBlock = v.ownBlock ∨ v'.ownBlock = some w.heap.size) → wpList Tryz.prog ops Q rest (a.put o.dst v') w') : wpList Tryz.prog ops Q (o :: rest) a w := by
  refine wpList_go hgd ?_
  match T, hT1, hx, hT, K with
  | [], _, hx, hT, K =>
    refine value_wp v w (by simp [execOp, ho, resolve, invoke, builtin, hs, hx, append_empty h.own ae ce, Result.andThen]) ?_
    have := K v P L H w (by rw [List.append_nil]; exact h) ⟨rfl, rfl, rfl, Nat.le_refl _, fun _ _ _ => rfl⟩ (.inl rfl)
    exact this
  | [e], _, hx, hT, K =>
    rcases hT.own.2 with ⟨_, h0⟩ | ⟨g1, cap1, cur1, e1, hb1, hg1, _, _, _, htk⟩
    · exact absurd h0 (by simp)
    · simp only [Value.slice.injEq, true_and] at e1
      obtain ⟨rfl, rfl⟩ := e1
      have hev : nthE (N ++ [e]) N.length = e := by have := nthE_app2 (L := N) (M := [e]) (j := 0); rw [Nat.add_zero] at this; exact this
      have hfl : flatE [e] PE 1 = (evC e (PE 0).1 (PE 0).2).toList := by rw [flatE_succ]; rfl
      have hm := hT.mem 0 (by simp)
      have ho0 := hT.out 0 (by simp)
      have he0 : nthE [e] 0 = e := rfl
      rw [he0] at hm
      have h' := h.more (N' := N ++ [e]) fun j hj => nthE_app hj
      obtain ⟨i0, hi1, hz0, hz1, hz2⟩ := info_parts infoE
      have hcells := World.ownsRow.cells hT.own (g := g1) rfl
      obtain ⟨v', w', hrun, r1, r2, -, r4⟩ := run_append_own_at (P := Tryz.prog) w B 29 o.type 43 i0 (.agg evZC) 7 72 Tryz.underlying29 hi1 hz0 hz1 hz2 rfl (by decide) v N.length (flatE (N ++ [e]) P N.length) h'.own ⟨g1, 0, none⟩ 1 ce (evC e (PE 0).1 (PE 0).2).toList rfl
        (fun j u hu => hcells j u (by rw [show [e].length = 1 from rfl, hfl]; exact hu)) (fun u hu => (Array.all_eq_true_iff_forall_mem.1 (evC_one e (PE 0).1 (PE 0).2)) u (by simpa using hu)) (by unfold maxLen; omega) (by omega) hBw
      have hR := h'.app ownE_sep (p := PE 0) (lo := LE 0) (hi := HE 0) (by rw [hev]; exact hm) (by omega) ho0.2.1 ho0.2.2 (fun j hj => by have := hlo j hj; omega) (fun g hg' => by have := hg g hg'; omega) (by rw [hev]; exact r1) r2 r4
      rw [show N.length + 1 = (N ++ [e]).length by simp] at hR
      exact value_wp v' w' (by simp [execOp, ho, resolve, invoke, builtin, hs, hx, hrun, Result.andThen]) (K v' _ _ _ w' hR r2 r4)
/-- A whole server is stored. -/
theorem wpList_putS {ops : Array Oper} {rest : List Oper} {o : Oper} {a : Act} {w : World} {Q : Exit → Act → World → Prop} (g : Nat) {a2 : Option Addr} {len c2 : Nat} {busy node rank now : Int} {x y : Operand} {C : Array Value} (hgd : o.guard = none) (hd : o.dst = none)
    (ho : o.op = .store 26 x y) (hx : a.eval x = .pointer (some ⟨g, 0, none⟩)) (hy : a.eval y = svV a2 len c2 busy node rank now)
    (hg : w.heap[g]? = some (.cells C 26 (0, 0))) (hC : C.size = 5) (k : wpList Tryz.prog ops Q rest (a.put none undef) (w.setRow g (svC a2 len c2 busy node rank now))) : wpList Tryz.prog ops Q (o :: rest) a w := by
  refine wpList_go hgd (wp_store_row 26 x y ho g (svC a2 len c2 busy node rank now) hx hy 26 C hg (by kernel_rfl) (hC.trans rfl) (by simp [Value.oneCell']) ?_)
  rw [hd]
  exact k
theorem tunS_right {s : Srv} (h : srvB s = true) : ∀ k, srvB (tunS s k) = true
  | 0 => h
  | k + 1 => tikS_right (tunS_right h k)
theorem tunE_len (s : Srv) : ∀ k, (tunE s k).length ≤ k
  | 0 => Nat.le_refl _
  | k + 1 => by
    rw [tunE, List.length_append]
    have := tunE_len s k
    have := tikE_len (tunS s k)
    omega
theorem tikS_len (s : Srv) : (tikS s).bx.length = s.bx.length := by
  unfold tikS
  split
  · exact bitS_len s
  · rfl
theorem tunS_len (s : Srv) : ∀ k, (tunS s k).bx.length = s.bx.length
  | 0 => rfl
  | k + 1 => by rw [tunS, tikS_len, tunS_len s k]
/-- What the model's run answers: the same row of boxes, events in a row of its own. -/
def RunO (s : Srv) (n : Nat) (G cap c : Nat) (L H : Nat → Nat) (w : World) (e : Ending) (w' : World) : Prop :=
  ∃ L' H' ae ce PE LE HE, e = .returned (.tuple #[svV (some ⟨G, 0, none⟩) (tunS s n).bx.length c (tunS s n).busy (tunS s n).node (tunS s n).rank (tunS s n).now, .slice ae (tunE s n).length ce]) ∧ BoxO False G cap (fun j => j < (tunS s n).bx.length) (tunS s n).bx L' H' w' ∧ (∀ j, (L' j = L j ∧ H' j = H j) ∨ w.heap.size ≤ L' j) ∧ Kp (fun q => q ≠ G) w w' ∧ RowE OwnE w.heap.size (tunE s n).length (tunE s n) PE LE HE (.slice ae (tunE s n).length ce) w'
/-- Between two rounds. -/
structure Rnd (g G cap c : Nat) (s : Srv) (m : Nat) (L H : Nat → Nat) (w0 : World) (v : Value) (w : World) : Prop where
  mdl : ∃ L' H', Mdl g G cap c (tunS s m) L' H' w0 w ∧ (∀ j, (L' j = L j ∧ H' j = H j) ∨ g + 2 ≤ L' j) ∧ ∀ q, v.ownBlock = some q → ∀ j, j < (tunS s m).bx.length → q < L' j ∨ H' j ≤ q
  ev : ∃ P LE HE, RowE OwnE (g + 2) (tunE s m).length (tunE s m) P LE HE v w
set_option maxHeartbeats 32000000 in
/-- spec.l14Run. -/
theorem specRunS (G cap c : Nat) (s : Srv) (L H : Nat → Nat) (n : Nat) (w : World) (HO : BoxO False G cap (fun j => j < s.bx.length) s.bx L H w) (hcap : s.bx.length ≤ cap) (hr : srvB s = true) (hn : n ≤ 5000) :
    Calls Tryz.prog 37 #[svV (some ⟨G, 0, none⟩) s.bx.length c s.busy s.node s.rank s.now, .int .i64 n] w (RunO s n G cap c L H w) := by
  have hGlt := HO.lt
  have hHlt := fun j (hj : j < s.bx.length) => (HO.out j hj).2.1
  obtain ⟨HC, HR, B⟩ := two_made w (svC (some ⟨G, 0, none⟩) s.bx.length c s.busy s.node s.rank s.now) (svC none 0 0 0 0 0 0) 26 26
  have hz : ((w.alloc (.cells (svC (some ⟨G, 0, none⟩) s.bx.length c s.busy s.node s.rank s.now) 26)).alloc (.cells (svC none 0 0 0 0 0 0) 26)).heap.size = w.heap.size + 2 := by simp
  go_enter Tryz.func37, Tryz.ntmps37
  go_upto_region 1 with fail
  have S : Mdl w.heap.size G cap c s L H w ((w.alloc (.cells (svC (some ⟨G, 0, none⟩) s.bx.length c s.busy s.node s.rank s.now) 26)).alloc (.cells (svC none 0 0 0 0 0 0) 26)) := ⟨HC, HR, HO.below B, Kp.ofBelow B, rfl, hGlt, hcap, fun j hj => .inl (hHlt j hj)⟩
  clear HC HR B
  generalize (w.alloc (.cells (svC (some ⟨G, 0, none⟩) s.bx.length c s.busy s.node s.rank s.now) 26)).alloc (.cells (svC none 0 0 0 0 0 0) 26) = W at S hz ⊢
  go_upto_region 2 with fail
  have RE : RowE OwnE (w.heap.size + 2) 0 [] (fun _ => (none, 0)) (fun _ => 0) (fun _ => 0) (.slice (some ⟨W.heap.size, 0, none⟩) 0 0) (W.alloc (.cells #[] 43)) := ⟨World.ownsRow_made (base := w.heap.size + 2) (e := 43) (size := 7) W #[] 0 (by omega) (Nat.zero_le _) rfl, fun j hj => absurd hj (Nat.not_lt_zero _), fun j hj => absurd hj (Nat.not_lt_zero _), fun i j _ hj => absurd hj (Nat.not_lt_zero _), fun j hj => absurd hj (Nat.not_lt_zero _), fun g hg => by cases hg; simp⟩
  replace S := S.below (below_more (Below.refl W.heap.size W) (.cells #[] 43))
  generalize hWE : W.alloc _ = W1 at S RE ⊢
  clear hWE
  rw [hz] at RE
  have hv0 : ∀ q, (Value.slice (some ⟨w.heap.size + 2, 0, none⟩) 0 0).ownBlock = some q → ∀ j, j < s.bx.length → q < L j ∨ H j ≤ q := fun q hq j hj => by
    simp only [Value.ownBlock, Option.some.injEq] at hq
    have := hHlt j hj
    omega
  replace hr := Lib.hid hr
  have hmx := Lib.hid hn
  clear hz hGlt hHlt HO
  go_loopw [1, 6] (fun b v wr => ∃ m k : Nat, m + k = n ∧ b = .int .i64 k ∧ Rnd w.heap.size G cap c s m L H w v wr) (fun b _ _ => (intOf b).toNat)
  case atStart => exact ⟨0, n, by omega, rfl, ⟨L, H, S, fun j => .inl ⟨rfl, rfl⟩, hv0⟩, _, _, _, RE⟩
  case round =>
    clear S RE hv0
    obtain ⟨m, k, hmk, rfl, ⟨L1, H1, S, hLH, hvb⟩, P1, LE1, HE1, RE⟩ := hrel
    have hlow := S.low
    have hvl : ∀ q, u6.ownBlock = some q → w.heap.size + 2 ≤ q ∧ q < wr.heap.size := fun q hq => World.ownsRow.lt RE.own q hq
    by_cases hk : k = 0
    · subst hk
      obtain rfl : m = n := by omega
      obtain ⟨ae, ce, rfl⟩ := RE.is
      go_wp2_with (first | (refine svTakeI S.arg rfl rfl rfl ?_) | (refine wpList_putS (w.heap.size + 1) rfl rfl rfl rfl rfl S.res rfl ?_))
      have m5 := mid_setRowS wr (w.heap.size + 1) (svC (some ⟨G, 0, none⟩) (tunS s m).bx.length c (tunS s m).busy (tunS s m).node (tunS s m).rank (tunS s m).now)
      have h5 := setRow_heap wr _ _ (svC (some ⟨G, 0, none⟩) (tunS s m).bx.length c (tunS s m).busy (tunS s m).node (tunS s m).rank (tunS s m).now) _ _ S.res
      generalize wr.setRow _ _ = w5 at m5 h5 ⊢
      refine bodyPost_ret (v := .tuple #[svV (some ⟨G, 0, none⟩) (tunS s m).bx.length c (tunS s m).busy (tunS s m).node (tunS s m).rank (tunS s m).now, .slice ae (tunE s m).length ce]) ?_ rfl ?_
      · exact results_srE Tryz.results37 _ _ (w.heap.size + 1) _ _ rfl rfl h5 rfl
      · refine ⟨L1, H1, ae, ce, P1, LE1, HE1, rfl, S.box.kp (Y := fun q => q ≠ w.heap.size + 1) ⟨m5.size, fun q hq hl => m5.block q hl (by omega), m5.os, m5.tape, m5.output⟩ (by show G ≠ w.heap.size + 1; omega) (fun j hj q h1 h2 => by
          show q ≠ w.heap.size + 1
          have := hlow.2.2.2 j hj
          omega), fun j => (hLH j).imp id fun h => by omega, S.kp.mid m5 (by omega), (RE.sep ownE_sep m5 (fun q hq => .inr (by have := hvl q hq; omega)) (fun j hj => .inr (by have := (RE.out j hj).1; omega))).lower (by omega)⟩
    · have hk1 : 0 < k := Nat.pos_of_ne_zero hk
      have hk2 : decide (0 < k) = true := decide_eq_true hk1
      have hT := specTickS G cap c (tunS s m) L1 H1 wr S.box hlow.2.2.1 (tunS_right hr.out m)
      go_wp2_with (refine svTakeI S.arg rfl rfl rfl ?_)
      refine hT.mono ?_
      rintro e w3 ⟨L2, H2, ae, ce, PE, LE, HE, rfl, O3, hLH2, K3, RE2⟩
      have hT1 := tikE_len (tunS s m)
      have hNl := tunE_len s m
      have hl2 := Lib.hid (tikS_len (tunS s m))
      have e1 := Lib.hid (show tunS s (m + 1) = tikS (tunS s m) from rfl)
      have e2 := Lib.hid (show tunE s (m + 1) = tunE s m ++ tikE (tunS s m) from rfl)
      have HA := S.arg
      have HR := S.res
      have hglt := (Array.getElem?_eq_some_iff.1 HA).1
      have hrlt := (Array.getElem?_eq_some_iff.1 HR).1
      have m3 : Mid G (G + 1) wr w3 := ⟨K3.os, K3.tape, K3.output, K3.size, fun q hl hc => K3.block q (by show q ≠ G; omega) hl⟩
      have hKP := S.kp.trans K3
      have hRo := fun j hj => RE.out j hj
      replace HA := (m3.block _ hglt (by omega)).trans HA
      replace HR := (m3.block _ hrlt (by omega)).trans HR
      replace RE := RE.sep ownE_sep m3 (fun q hq => .inr (by have := hvl q hq; omega)) (fun j hj => .inr (by have := (hRo j hj).1; omega))
      have hsz3 := m3.size
      clear S hT m3 K3
      generalize tikS (tunS s m) = s2 at *
      generalize tikE (tunS s m) = N2 at *
      obtain ⟨HX, b⟩ := one_sv w3 (svC (some ⟨G, 0, none⟩) s2.bx.length c s2.busy s2.node s2.rank s2.now) 26
      have hO3 := fun j hj => O3.out j hj
      replace HA := blkV HA b
      replace HR := blkV HR b
      replace RE := RE.below ownE_sep b
      replace RE2 := RE2.below ownE_sep b
      replace O3 := O3.below b
      replace hKP := hKP.trans (Kp.ofBelow b)
      have hsz4 := b.size
      have hgx : w3.heap.size < (w3.alloc (.cells (svC (some ⟨G, 0, none⟩) s2.bx.length c s2.busy s2.node s2.rank s2.now) 26)).heap.size := by simp
      clear b
      go_upto_region 5 with fail
      generalize w3.alloc _ = W3 at HX HA HR RE RE2 O3 hKP hsz4 hgx ⊢
      go_upto_region 6 with (first | (refine svTakeI HX rfl rfl rfl ?_) | (refine wpList_putS w.heap.size rfl rfl rfl rfl rfl HA rfl ?_))
      have m4 := mid_setRowS W3 w.heap.size (svC (some ⟨G, 0, none⟩) s2.bx.length c s2.busy s2.node s2.rank s2.now)
      have HA4 := setRow_heap W3 _ _ (svC (some ⟨G, 0, none⟩) s2.bx.length c s2.busy s2.node s2.rank s2.now) _ _ HA
      have hgl := (Array.getElem?_eq_some_iff.1 HA).1
      have hrl := (Array.getElem?_eq_some_iff.1 HR).1
      replace HR := (m4.block _ hrl (by omega)).trans HR
      replace RE := RE.sep ownE_sep m4 (fun q hq => .inr (by have := hvl q hq; omega)) (fun j hj => .inr (by have := (hRo j hj).1; omega))
      replace RE2 := RE2.sep ownE_sep m4 (fun q hq => .inr (by have := (World.ownsRow.lt RE2.own q hq).1; omega)) (fun j hj => .inr (by have := (RE2.out j hj).1; omega))
      have hin := Lib.hid (show ∀ j, j < s2.bx.length → H2 j ≤ w.heap.size ∨ w.heap.size + 2 ≤ L2 j from fun j hj => by
        rcases hLH2 j with ⟨e3, e4⟩ | h
        · rw [e3, e4]; exact hlow.2.2.2 j (by have := hl2.out; omega)
        · right; omega)
      replace O3 := O3.kp (w' := W3.setRow w.heap.size (svC (some ⟨G, 0, none⟩) s2.bx.length c s2.busy s2.node s2.rank s2.now)) (Y := fun q => q ≠ w.heap.size) ⟨m4.size, fun q hq hl => m4.block q hl (by omega), m4.os, m4.tape, m4.output⟩ (by show G ≠ w.heap.size; omega) (fun j hj q h1 h2 => by
        show q ≠ w.heap.size
        have := hin.out j hj
        omega)
      replace hKP := hKP.mid m4 (Nat.le_refl _)
      have hsz5 := m4.size
      clear m4 HA HX
      generalize W3.setRow _ _ = W4 at HA4 HR RE RE2 O3 hKP hsz5 ⊢
      have hvw : ∀ q, u6.ownBlock = some q → q < wr.heap.size := fun q hq => (hvl q hq).2
      have hHo : ∀ j, j < (tunE s m).length → HE1 j ≤ wr.heap.size := fun j hj => (hRo j hj).2.2
      have hm1 : (tunE s m).length ≤ 1000000 := by have := hmx.out; omega
      have hBw : w.heap.size + 2 ≤ W4.heap.size := by omega
      have hB2 : w.heap.size + 2 ≤ wr.heap.size := by omega
      go_wp2_with (refine wpList_appT rfl (.tmp 20) (.tmp 21) rfl (w.heap.size + 2) wr.heap.size (tunE s m) N2 P1 PE LE1 HE1 LE HE u6 ae ce rfl RE rfl RE2 hT1 hm1 hB2 hHo hvw hBw ?_; intro v' P' L' H' w5 R5 g5 r4)
      have hog : ∀ q, u6.ownBlock = some q → w.heap.size + 2 ≤ q ∧ q < wr.heap.size := hvl
      have hYb : ∀ q, q < w.heap.size + 2 → some q ≠ u6.ownBlock := fun q hq e => by have := hog q e.symm; omega
      replace HA4 := (g5.block _ (Array.getElem?_eq_some_iff.1 HA4).1 (hYb _ (by omega))).trans HA4
      replace HR := (g5.block _ (Array.getElem?_eq_some_iff.1 HR).1 (hYb _ (by omega))).trans HR
      have hap : ∀ q, u6.ownBlock = some q → ∀ j, j < s2.bx.length → q < L2 j ∨ H2 j ≤ q := fun q hq j hj => by
        rcases hLH2 j with ⟨e3, e4⟩ | h
        · rw [e3, e4]; exact hvb q hq j (by have := hl2.out; omega)
        · left; have := hog q hq; omega
      have O5 := O3.kp (w' := w5) (Y := fun q => some q ≠ u6.ownBlock) ⟨g5.size, fun q hq hl => g5.block q hl hq, g5.os, g5.tape, g5.output⟩ (hYb G (by omega)) (fun j hj q h1 h2 e => by
        have := hap q e.symm j hj
        omega)
      have hKP5 : Kp (fun q => q ≠ G) w w5 := ⟨Nat.le_trans hKP.size g5.size, fun q hq hl => (g5.block q (Nat.lt_of_lt_of_le hl hKP.size) (hYb q (by omega))).trans (hKP.block q hq hl), g5.os.trans hKP.os, g5.tape.trans hKP.tape, g5.output.trans hKP.output⟩
      clear O3 hKP RE RE2
      go_roundw
      case rel =>
        refine ⟨m + 1, k - 1, by omega, by go_num, ⟨L2, H2, ⟨by rw [e1.out]; exact HA4, HR, by rw [e1.out]; exact O5, hKP5, rfl, hlow.2.1, by rw [e1.out, hl2.out]; exact hlow.2.2.1, by rw [e1.out]; exact hin.out⟩, fun j => ?_, fun q hq j hj => ?_⟩, P', L', H', by rw [e2.out]; exact R5⟩
        · rcases hLH2 j with ⟨e3, e4⟩ | h
          · rw [e3, e4]; exact hLH j
          · right; omega
        · rw [e1.out] at hj
          rcases r4 with e | e
          · rw [e] at hq; exact hap q hq j hj
          · rw [e] at hq
            cases hq
            right
            have := (hO3 j hj).2.1
            omega
      case measure => simp [intOf]; omega
set_option maxHeartbeats 32000000 in
/-- spec.ServerFor. -/
theorem specServerFor (R : Option Addr → Nat → Nat → Prop) (a : Option Addr) (X : List (List Frm)) (c : Nat) (busy nd rank now bits : Int) (w : World) (hd : Bxs R a X w) :
    Calls Tryz.prog 9 #[svV a X.length c busy nd rank now, .int .i64 bits] w (MtR (forS ⟨X, busy, nd, rank, now⟩ bits) (forE ⟨X, busy, nd, rank, now⟩ bits) w) := by
  obtain ⟨HC, HR, B⟩ := two_made w (svC a X.length c busy nd rank now) (svC none 0 0 0 0 0 0) 26 26
  have hz : ((w.alloc (.cells (svC a X.length c busy nd rank now) 26)).alloc (.cells (svC none 0 0 0 0 0 0) 26)).heap.size = w.heap.size + 2 := by simp
  have hF0 := Lib.hid (show forS ⟨X, busy, nd, rank, now⟩ bits = (if srvB ⟨X, busy, nd, rank, now⟩ = true then runS ⟨X, busy, nd, rank, now⟩ (forK ⟨X, busy, nd, rank, now⟩ bits) else srZ) from rfl)
  have hE0 := Lib.hid (show forE ⟨X, busy, nd, rank, now⟩ bits = (if srvB ⟨X, busy, nd, rank, now⟩ = true then runF ⟨X, busy, nd, rank, now⟩ (forK ⟨X, busy, nd, rank, now⟩ bits) else []) from rfl)
  generalize hs2 : forS ⟨X, busy, nd, rank, now⟩ bits = s2 at hF0 ⊢
  generalize hN2 : forE ⟨X, busy, nd, rank, now⟩ bits = N2 at hE0 ⊢
  clear hs2 hN2
  go_enter Tryz.func9, Tryz.ntmps9
  go_upto_region 1 with fail
  replace hd := hd.below B
  generalize (w.alloc (.cells (svC a X.length c busy nd rank now) 26)).alloc (.cells (svC none 0 0 0 0 0 0) 26) = W at HC HR B hz hd ⊢
  go_wp2_with (refine svTakeI HC rfl rfl rfl ?_)
  refine (specServerOk R a X c busy nd rank now _ hd).mono ?_
  rintro e w1 ⟨rfl, b⟩
  replace HC := blkW HC b
  replace HR := blkW HR b
  replace B := Below.then2 B b
  replace hd := hd.below b
  have hz1 : w.heap.size + 2 ≤ w1.heap.size := by have := b.size; omega
  clear b hz
  cases hok : srvB ⟨X, busy, nd, rank, now⟩
  · have bA := below_more (Below.refl w1.heap.size w1) (.cells #[] 43)
    replace HR := blkW HR bA
    replace B := Below.then2 B bA
    replace hok := Lib.hid hok
    go_wp2_with (refine wpList_putS (w.heap.size + 1) rfl rfl rfl rfl rfl HR rfl ?_)
    have m := mid_setRowS (w1.alloc (.cells #[] 43)) (w.heap.size + 1) (svC none 0 0 0 0 0 0)
    have h5 := setRow_heap _ _ _ (svC none 0 0 0 0 0 0) _ _ HR
    generalize World.setRow _ _ _ = w5 at m h5 ⊢
    refine bodyPost_ret (v := .tuple #[svV none 0 0 0 0 0 0, .slice (some ⟨w1.heap.size, 0, none⟩) 0 0]) ?_ rfl ?_
    · exact results_srE Tryz.results9 _ _ (w.heap.size + 1) _ _ rfl rfl h5 rfl
    · obtain rfl : s2 = srZ := by rw [hF0.out, hok.out]; rfl
      obtain rfl : N2 = [] := by rw [hE0.out, hok.out]; rfl
      exact ⟨none, 0, some ⟨w1.heap.size, 0, none⟩, 0, rfl, Bxs.nil _ _, ⟨by simp, fun j hj => absurd hj (Nat.not_lt_zero _)⟩, B.trans (m.below (by omega) B.size)⟩
  · have hS := srvB_iff.1 hok
    have hbx : boxesB X = true := hS.1
    have hF1 := Lib.hid (show s2 = runS ⟨X, busy, nd, rank, now⟩ (forK ⟨X, busy, nd, rank, now⟩ bits) by rw [hF0.out, if_pos hok])
    have hE1 := Lib.hid (show N2 = runF ⟨X, busy, nd, rank, now⟩ (forK ⟨X, busy, nd, rank, now⟩ bits) by rw [hE0.out, if_pos hok])
    have htr := Lib.hid (fun n => tun_run (s := ⟨X, busy, nd, rank, now⟩) hS.2.2.2.2.1 n)
    replace hS := Lib.hid hS
    replace hok := Lib.hid hok
    clear hF0 hE0
    go_wp2_with fail
    refine (l1InR bits 0 5000 _).mono ?_
    rintro e w1' ⟨he, rfl⟩
    cases hin : rng bits 0 5000 with
    | false =>
      rw [hin] at he
      subst he
      have hk0 : forK ⟨X, busy, nd, rank, now⟩ bits = 0 := by
        unfold forK
        rw [if_neg]
        intro h
        rw [rng_iff.2 h] at hin
        cases hin
      have hs2 := Lib.hid (show s2 = ⟨X, busy, nd, rank, now⟩ by rw [hF1.out, hk0]; rfl)
      have hN2 := Lib.hid (show N2 = [] by rw [hE1.out, hk0]; rfl)
      clear hin hk0 hF1 hE1 htr
      go_wp2_with (refine svTakeI HC rfl rfl rfl ?_)
      refine (specCopySrv R a X c busy nd rank now _ hd hbx).mono ?_
      rintro e w2 ⟨G, cap, cc, L, H, rfl, O, hF, hcap, b⟩
      dsimp only at O hF hcap
      replace HR := blkW HR b
      replace B := Below.then2 B b
      have bA := below_more (Below.refl w2.heap.size w2) (.cells #[] 43)
      have hw2 : w1.heap.size ≤ w2.heap.size := b.size
      replace HR := blkW HR bA
      replace B := Below.then2 B bA
      replace O := O.below bA
      have hG := hF.1
      clear b bA HC hd
      go_wp2_with (refine wpList_putS (w.heap.size + 1) rfl rfl rfl rfl rfl HR rfl ?_)
      have m := mid_setRowS (w2.alloc (.cells #[] 43)) (w.heap.size + 1) (svC (some ⟨G, 0, none⟩) X.length cc busy nd rank now)
      have h5 := setRow_heap _ _ _ (svC (some ⟨G, 0, none⟩) X.length cc busy nd rank now) _ _ HR
      generalize World.setRow _ _ _ = w5 at m h5 ⊢
      refine bodyPost_ret (v := .tuple #[svV (some ⟨G, 0, none⟩) X.length cc busy nd rank now, .slice (some ⟨w2.heap.size, 0, none⟩) 0 0]) ?_ rfl ?_
      · exact results_srE Tryz.results9 _ _ (w.heap.size + 1) _ _ rfl rfl h5 rfl
      · have e1 := hs2.out
        have e2 := hN2.out
        subst e1
        subst e2
        have O5 := O.kp (w' := w5) (Y := fun q => q ≠ w.heap.size + 1) ⟨m.size, fun q hq hl => m.block q hl (by omega), m.os, m.tape, m.output⟩ (by show G ≠ w.heap.size + 1; omega) (fun j hj q h1 h2 => by
          show q ≠ w.heap.size + 1
          have h4 := hF.2 j hj
          omega)
        exact ⟨some ⟨G, 0, none⟩, cc, some ⟨w2.heap.size, 0, none⟩, 0, rfl, O5.bxs (by have := (boxesB_iff.1 hbx).2.1; omega) (fun j hj => by have := (box_small hbx hj).1; omega), ⟨by simp, fun j hj => absurd hj (Nat.not_lt_zero _)⟩, B.trans (m.below (by omega) B.size)⟩
    | true =>
      rw [hin] at he
      subst he
      have hin2 := rng_iff.1 hin
      obtain ⟨n, rfl⟩ := Int.eq_ofNat_of_zero_le hin2.1
      have hn5 : n ≤ 5000 := by omega
      have hk0 : forK ⟨X, busy, nd, rank, now⟩ (n : Int) = sK ⟨X, busy, nd, rank, now⟩ n := by
        unfold forK
        rw [if_pos hin2, Int.toNat_natCast]
      have hs2 := Lib.hid (show tunS ⟨X, busy, nd, rank, now⟩ n = s2 by rw [hF1.out, hk0, (htr.out n).1])
      have hN2 := Lib.hid (show tunE ⟨X, busy, nd, rank, now⟩ n = N2 by rw [hE1.out, hk0, (htr.out n).2])
      have hr3 := Lib.hid (show srvB s2 = true by rw [← hs2.out]; exact tunS_right hok.out n)
      have hl3 := Lib.hid (show s2.bx.length = X.length by rw [← hs2.out]; exact tunS_len _ n)
      have hE3 := Lib.hid (show N2.length ≤ 5000 by rw [← hN2.out]; exact Nat.le_trans (tunE_len _ n) hn5)
      have HS := Lib.hid (fun G cap c L H w h1 h2 => specRunS G cap c ⟨X, busy, nd, rank, now⟩ L H n w h1 h2 hok.out hn5)
      clear hin hin2 hk0 hF1 hE1 htr
      go_wp2_with (refine svTakeI HC rfl rfl rfl ?_)
      refine (specCopySrv R a X c busy nd rank now _ hd hbx).mono ?_
      rintro e w2 ⟨G, cap, cc, L, H, rfl, O, hF, hcap, b⟩
      dsimp only at O hF hcap
      replace HR := blkW HR b
      have hG := hF.1
      have hsz := b.size
      clear HC hd
      go_wp2_with fail
      refine (HS.out G cap cc L H w2 O hcap).mono ?_
      rintro e w3 ⟨L', H', ae, ce, PE, LE, HE, rfl, O3, hLH, K3, RE⟩
      have e1 := hs2.out
      have e2 := hN2.out
      rw [e1] at O3
      rw [e2] at RE
      rw [e1, e2]
      clear e1 e2 hs2 hN2 HS O
      replace HR := (K3.block (w.heap.size + 1) (by show w.heap.size + 1 ≠ G; omega) (Array.getElem?_eq_some_iff.1 HR).1).trans HR
      have bg : Below w.heap.size w w3 := (Below.then2 B b).trans ⟨K3.os, K3.tape, K3.output, K3.size, fun k hk => K3.block k (by show k ≠ G; omega) (by have := B.size; omega)⟩
      go_wp2_with (refine wpList_putS (w.heap.size + 1) rfl rfl rfl rfl rfl HR rfl ?_)
      have m := mid_setRowS w3 (w.heap.size + 1) (svC (some ⟨G, 0, none⟩) s2.bx.length cc s2.busy s2.node s2.rank s2.now)
      have h5 := setRow_heap _ _ _ (svC (some ⟨G, 0, none⟩) s2.bx.length cc s2.busy s2.node s2.rank s2.now) _ _ HR
      generalize World.setRow _ _ _ = w5 at m h5 ⊢
      have hb3 := (srvB_iff.1 hr3.out).1
      have O5 := O3.kp (w' := w5) (Y := fun q => q ≠ w.heap.size + 1) ⟨m.size, fun q hq hl => m.block q hl (by omega), m.os, m.tape, m.output⟩ (by show G ≠ w.heap.size + 1; omega) (fun j hj q h1 h2 => by
        show q ≠ w.heap.size + 1
        have h4 := hF.2 j (by have := hl3.out; omega)
        rcases hLH j with ⟨e, -⟩ | e <;> omega)
      have RE5 := RE.sep ownE_sep m (fun q hq => .inr (by have := (World.ownsRow.lt RE.own q hq).1; omega)) (fun j hj => .inr (by have := (RE.out j hj).1; omega))
      refine bodyPost_ret (v := .tuple #[svV (some ⟨G, 0, none⟩) s2.bx.length cc s2.busy s2.node s2.rank s2.now, .slice ae N2.length ce]) ?_ rfl ?_
      · exact results_srE Tryz.results9 _ _ (w.heap.size + 1) _ _ rfl rfl h5 rfl
      · exact ⟨some ⟨G, 0, none⟩, cc, ae, ce, rfl, O5.bxs (by have := (boxesB_iff.1 hb3).2.1; omega) (fun j hj => by have := (box_small hb3 hj).1; omega), RE5.evo.evs (Nat.le_trans hE3.out (by decide)), bg.trans (m.below (by omega) bg.size)⟩
end Go.Proofs.YtnhmecabppaboaaGreat

/- The walk of laws.FnExactServerFor. -/

set_option linter.unusedVariables false
set_option linter.unusedSimpArgs false
namespace Go.Proofs.YtnhmecabppaboaaGreat
open Go.RowKit

set_option maxHeartbeats 32000000 in
set_option maxRecDepth 20000 in
theorem walkFnExactServerFor (a : Option Addr) (X : List (List Frm)) (c : Nat) (busy nd rank now : Int) (bits : Int) (w : World) (hm : Bxs (fun _ _ _ => True) a X w) :
    Calls Tryz.prog 5 #[svV a X.length c busy nd rank now, .int .i64 bits] w fun e w' => e = .returned (.bool true) ∧ Below w.heap.size w w' := by
  obtain ⟨HY, b⟩ := one_sv w (svC a X.length c busy nd rank now) 46
  go_enter Tryz.func5, Tryz.ntmps5
  go_upto_region 1 with fail
  generalize World.alloc _ _ = W at HY b ⊢
  generalize w.heap.size = ga at HY ⊢
  have B := b
  clear b
  go_wp2_with (refine svTakeL HY rfl rfl rfl ?_)
  refine (szSrvAny (fun _ _ _ => True) a X c busy nd rank now 1048576 _ (hm.below B) (by omega) (by omega)).mono ?_
  rintro e w1 ⟨hz | hz, b⟩
  case inr =>
    obtain ⟨hz, rfl⟩ := hz
    have hb := Below.then2 B b
    go_wp2_with fail
    go_ret
    exact ⟨rfl, hb⟩
  obtain ⟨hz, rfl⟩ := hz
  replace B := Below.then2 B b
  replace HY := blkV HY b
  clear b
  have hs : roomX X ≤ 1048576 := by omega
  have hXm : X.length ≤ 2000000 := by unfold roomX at hs; omega
  have hXs : ∀ j, j < X.length → (nthB X j).length ≤ 2000000 := fun j hj => by have := sumX_at X hj; unfold roomX at hs; omega
  have hkX := kB_eq 1 X X.length (Nat.le_refl _)
  have hkX2 : sumX X X.length ≤ 1048576 := by unfold roomX at hs; omega
  replace hXs := Lib.hid hXs
  have hl2 : ¬ (1048576 : Int) - roomX X < 0 := by omega
  have hj1 : ¬ kB 1 X X.length < 0 := by omega
  have hj1' : decide (kB 1 X X.length < 0) = false := decide_eq_false hj1
  clear hz hkX hkX2
  generalize (1048576 : Int) - roomX X = left at hl2 ⊢
  obtain ⟨⟨hQ6, hQl⟩, hN5, hNr⟩ := for_lean ⟨X, busy, nd, rank, now⟩ bits
  obtain ⟨QX, hQX⟩ : ∃ q, (forS ⟨X, busy, nd, rank, now⟩ bits).bx = q := ⟨_, rfl⟩
  obtain ⟨Qb, hQb⟩ : ∃ q, (forS ⟨X, busy, nd, rank, now⟩ bits).busy = q := ⟨_, rfl⟩
  obtain ⟨Qn, hQn⟩ : ∃ q, (forS ⟨X, busy, nd, rank, now⟩ bits).node = q := ⟨_, rfl⟩
  obtain ⟨Qr, hQr⟩ : ∃ q, (forS ⟨X, busy, nd, rank, now⟩ bits).rank = q := ⟨_, rfl⟩
  obtain ⟨QT, hQT⟩ : ∃ q, (forS ⟨X, busy, nd, rank, now⟩ bits).now = q := ⟨_, rfl⟩
  obtain ⟨QN, hQN⟩ : ∃ q, (forE ⟨X, busy, nd, rank, now⟩ bits) = q := ⟨_, rfl⟩
  have HS := Lib.hid (fun (a : Option Addr) (c : Nat) (w : World) (h1 : Bxs Adr a X w) => show Calls _ _ _ _ (MtR ⟨QX, Qb, Qn, Qr, QT⟩ QN w) from (specServerFor Adr a X c busy nd rank now bits w h1).mono (fun e w' h => by rw [← hQX, ← hQb, ← hQn, ← hQr, ← hQT, ← hQN]; exact h))
  have HI := Lib.hid (fun (a : Option Addr) (c : Nat) (w : World) (h1 : Bxs Adr a X w) => show Calls _ _ _ _ (SeO QX Qb Qn Qr QT QN w) from (implServerFor Adr a X c busy nd rank now bits w h1).mono (fun e w' h => by have h := h.se; rw [hQX, hQb, hQn, hQr, hQT, hQN] at h; exact h))
  rw [hQX] at hQ6 hQl
  rw [hQN] at hN5 hNr
  clear hQX hQb hQn hQr hQT hQN
  have hQsum := roomX_small hQl QX.length (Nat.le_refl _)
  have hQm : QX.length ≤ 2000000 := by omega
  have hQr2 : roomX QX ≤ 1048577 := by unfold roomX; omega
  have hQs : ∀ j, j < QX.length → (nthB QX j).length ≤ 2000000 := fun j hj => by have := (hQl j hj).1; omega
  have hQmx : (mkB 1 QX QX.length).length ≤ 2000000 := by rw [mkB_len]; exact hQm
  have hQx2 : ∀ j, j < (mkB 1 QX QX.length).length → (nthB (mkB 1 QX QX.length) j).length ≤ 2000000 := fun j hj => by rw [mkB_len] at hj; rw [mkB_all hj, mkL_len]; exact hQs j hj
  have hkq := kB_eq 1 QX QX.length (Nat.le_refl _)
  have hk0 : 0 ≤ kB 1 QX QX.length := by omega
  have hk2 : kB 1 QX QX.length ≤ 100000000 := by omega
  have hk1 : ¬ kB 1 QX QX.length < 0 := by omega
  have hk1' : decide (kB 1 QX QX.length < 0) = false := decide_eq_false hk1
  have hNm : QN.length ≤ 2000000 := by omega
  have hNs : roomE QN QN.length ≤ 2000000 := by have := hNr QN.length; omega
  have hNl : QN.length ≤ maxLen := by unfold maxLen; omega
  have hNl2 : (mixE (kB 1 QX QX.length) QN QN.length).length ≤ maxLen := by rw [mixE_len]; exact hNl
  have hke : ¬ kE (kB 1 QX QX.length) QN QN.length < 0 := by unfold kE; omega
  have hke' : decide (kE (kB 1 QX QX.length) QN QN.length < 0) = false := decide_eq_false hke
  have hkk : (!(kE (kB 1 QX QX.length) QN QN.length == kE (kB 1 QX QX.length) QN QN.length)) = false := by simp
  clear hQsum hkq hQl hNr hN5 hQ6
  replace hQs := Lib.hid hQs
  replace hQx2 := Lib.hid hQx2
  go_wp2_with (refine svTakeL HY rfl rfl rfl ?_)
  refine (toSrv (fun _ _ _ => True) a X c busy nd rank now _ (hm.below B) hs).mono ?_
  rintro e w2 ⟨G1, L1, H1, rfl, O1, F1, b⟩
  replace B := Below.then2 B b
  replace HY := blkV HY b
  have P1 := O1.bxs hXm hXs.out
  clear b O1 F1
  go_wp2_with fail
  refine (HS.out _ _ _ P1).mono ?_
  rintro e w3 ⟨a1, c1, e1, d1, rfl, M1, E1, b⟩
  replace B := Below.then2 B b
  replace HY := blkV HY b
  clear b P1 HS
  obtain ⟨HA, b⟩ := one_sv w3 (svC a1 QX.length c1 Qb Qn Qr QT) 26
  replace M1 := M1.below b
  replace E1 := E1.below b
  replace B := Below.then2 B b
  replace HY := blkV HY b
  clear b
  dsimp only
  go_upto_region 6 with fail
  generalize w3.alloc _ = W3 at HA M1 E1 B HY ⊢
  have HY3 := HY
  generalize w3.heap.size = g4 at HA ⊢
  go_wp2_with (refine svTakeL HY rfl rfl rfl ?_)
  refine (toSrv (fun _ _ _ => True) a X c busy nd rank now _ (hm.below B) hs).mono ?_
  rintro e w4 ⟨G4, L4, H4, rfl, O4, F4, b⟩
  have Q := b
  replace HY := blkV HY b
  clear b
  have hH4 : Hid (∀ j, j < X.length → H4 j ≤ w4.heap.size) := Lib.hid fun j hj => (O4.out j hj).2.1
  have q4 := Q.size
  obtain ⟨XB, b⟩ := one_sv w4 (svC (some ⟨G4, 0, none⟩) X.length X.length busy nd rank now) 26
  have z4 : w4.heap.size < (w4.alloc (.cells (svC (some ⟨G4, 0, none⟩) X.length X.length busy nd rank now) 26)).heap.size := by simp
  replace O4 := O4.below b
  replace Q := Below.then2 Q b
  replace HY := blkV HY b
  clear b
  go_upto_region 7 with fail
  generalize w4.alloc _ = W4 at XB O4 Q HY z4 ⊢
  generalize w4.heap.size = gx at XB hH4 q4 z4 ⊢
  go_wp2_with (refine svTakeI XB rfl rfl rfl ?_)
  refine (HI.out _ _ _ (O4.bxs hXm hXs.out)).mono ?_
  rintro e w5 ⟨a5, c5, L5, H5, e5, d5, P5, LE5, HE5, rfl, A5, b⟩
  have hgw : W3.heap.size ≤ W4.heap.size := Q.size
  have hgG0 : W4.heap.size ≤ w5.heap.size := b.size
  have hT5 := A5.top
  replace Q := Below.then2 Q b
  replace XB := blkV XB b
  replace O4 := O4.below b
  replace HY := blkV HY b
  clear b
  obtain ⟨HG, b⟩ := one_sv w5 (svC a5 QX.length c5 Qb Qn Qr QT) 26
  have hgG := hgG0
  clear hgG0
  replace A5 := A5.below b
  replace Q := Below.then2 Q b
  replace XB := blkV XB b
  replace O4 := O4.below b
  replace HY := blkV HY b
  clear b
  go_upto_region 8 with fail
  generalize w5.alloc _ = W5 at HG A5 XB O4 Q HY ⊢
  generalize w5.heap.size = g7 at HG hgG hT5 ⊢
  replace hT5 := Lib.hid hT5
  have hT5m := Lib.hid (show TopE (mkB 1 QX QX.length) H5 e5 QN HE5 g7 from ⟨fun j hj => hT5.out.1 j (by rw [mkB_len] at hj; exact hj), hT5.out.2.1, hT5.out.2.2⟩)
  go_wp2_with (first | (refine svTakeI HG rfl rfl rfl ?_) | (refine svTakeI (blkV HA Q) rfl rfl rfl ?_))
  refine (eqSrv Adr Adr a5 a1 QX c5 c1 Qb Qn Qr QT _ (A5.bx.bxs hQm hQs.out) (M1.below Q)).mono ?_
  rintro e w6 ⟨rfl, b⟩
  replace Q := Below.then2 Q b
  replace XB := blkV XB b
  replace O4 := O4.below b
  replace HG := blkV HG b
  replace A5 := A5.below b
  replace HY := blkV HY b
  clear b
  go_wp2_with fail
  refine (eqEvs e5 e1 QN d5 d1 _ (A5.ev.evs hNl) (E1.below Q)).mono ?_
  rintro e w7 ⟨rfl, b⟩
  replace Q := Below.then2 Q b
  replace XB := blkV XB b
  replace O4 := O4.below b
  replace HG := blkV HG b
  replace A5 := A5.below b
  replace HY := blkV HY b
  clear b
  go_upto_region 10 with fail
  refine wp_region_held (S := fun u => u.heap[gx]? = some (.cells (svC (some ⟨G4, 0, none⟩) X.length X.length busy nd rank now) 26 (0, 0)) ∧ u.heap[ga]? = some (.cells (svC a X.length c busy nd rank now) 46 (0, 0))) (by kernel_rfl) ?_
  have b : Below w7.heap.size w7 { w7 with drawn := w7.drawn + 1 } := (Below.refl w7.heap.size w7).drew
  replace Q := Below.then2 Q b
  replace XB := blkV XB b
  replace O4 := O4.below b
  replace HG := blkV HG b
  replace A5 := A5.below b
  replace HY := blkV HY b
  clear b
  generalize ({ w7 with drawn := w7.drawn + 1 } : World) = w8 at *
  refine h_take 0 46 (svV (some ⟨G4, 0, none⟩) X.length X.length busy nd rank now) rfl rfl (by kernel_rfl) (by kernel_rfl) (by kernel_rfl) (fun _ _ _ h => h) rfl (fun u hu => sv_tookI hu.1 rfl rfl) ⟨XB, HY⟩ ?_
  refine h_take 1 47 (svV a X.length c busy nd rank now) rfl rfl (by kernel_rfl) (by kernel_rfl) (by kernel_rfl) (fun _ _ _ h => h) rfl (fun u hu => sv_tookL hu.2 rfl rfl) ⟨XB, HY⟩ ?_
  try simp only [Act.put, List.setIfInBounds_toArray, List.set_cons_zero, List.set_cons_succ]
  refine h_call 2 48 20 #[svV a X.length c busy nd rank now] rfl rfl (by kernel_rfl) rfl (by go_simp) ?_
  refine (toSrv (fun _ _ _ => True) a X c busy nd rank now _ (hm.below (Below.then2 B Q)) hs).mono ?_
  rintro e w9 ⟨G9, L9, H9, rfl, O9, F9, b⟩
  have M9 := O9.bxs hXm hXs.out
  replace Q := Below.then2 Q b
  replace XB := blkV XB b
  replace O4 := O4.below b
  replace HG := blkV HG b
  replace A5 := A5.below b
  replace HY := blkV HY b
  clear b
  clear O9
  refine ⟨_, rfl, ⟨XB, HY⟩, ?_⟩
  try simp only [Act.put, List.setIfInBounds_toArray, List.set_cons_zero, List.set_cons_succ]
  refine h_call 3 49 21 #[svV (some ⟨G4, 0, none⟩) X.length X.length busy nd rank now, svV (some ⟨G9, 0, none⟩) X.length X.length busy nd rank now] rfl rfl (by kernel_rfl) rfl (by go_simp) ?_
  refine (eqSrv Adr Adr _ _ X _ _ busy nd rank now _ (O4.bxs hXm hXs.out) M9).mono ?_
  rintro e w10 ⟨rfl, b⟩
  replace Q := Below.then2 Q b
  replace XB := blkV XB b
  replace O4 := O4.below b
  replace HG := blkV HG b
  replace A5 := A5.below b
  replace HY := blkV HY b
  clear b
  clear M9
  refine ⟨_, rfl, ⟨XB, HY⟩, ?_⟩
  try simp only [Act.put, List.setIfInBounds_toArray, List.set_cons_zero, List.set_cons_succ]
  refine h_value 4 50 (.bool false) rfl rfl (by kernel_rfl) rfl (by go_simp) ⟨XB, HY⟩ ?_
  refine wpAnyH_done (by kernel_rfl) ?_ _
  try simp only [Act.put, List.setIfInBounds_toArray, List.set_cons_zero, List.set_cons_succ]
  go_wp2_with (refine svTakeI XB rfl rfl rfl ?_)
  refine (markAns W3.heap.size gx (some ⟨G4, 0, none⟩) X L4 H4 X.length busy nd rank now 1 _ ⟨.inr ⟨G4, _, rfl, O4⟩, fun G hG => (by cases hG; exact F4.1), F4.2⟩ hH4.out (by omega) (by omega) (by omega)).mono ?_
  rintro e w11 ⟨rfl, -, m⟩
  replace Q := Q.trans (m.below (Nat.le_refl _) Q.size)
  replace HG := m.row HG (by omega)
  replace A5 := A5.sep m (by omega)
  replace HY := blkV HY3 Q
  clear m XB O4 F4
  go_wp2_with (first | (refine svTakeI HG rfl rfl rfl ?_) | (refine svTakeI (blkV HA Q) rfl rfl rfl ?_))
  refine (eqSrv Adr Adr a5 a1 QX c5 c1 Qb Qn Qr QT _ (A5.bx.bxs hQm hQs.out) (M1.below Q)).mono ?_
  rintro e w12 ⟨rfl, b⟩
  replace Q := Below.then2 Q b
  replace HG := blkV HG b
  replace A5 := A5.below b
  replace HY := blkV HY b
  clear b
  go_wp2_with fail
  refine (eqEvs e5 e1 QN d5 d1 _ (A5.ev.evs hNl) (E1.below Q)).mono ?_
  rintro e w13 ⟨rfl, b⟩
  replace Q := Below.then2 Q b
  replace HG := blkV HG b
  replace A5 := A5.below b
  replace HY := blkV HY b
  clear b
  go_wp2_with (refine svTakeI HG rfl rfl rfl ?_)
  refine (markAnsE W4.heap.size a5 QX L5 H5 e5 QN P5 LE5 HE5 c5 Qb Qn Qr QT 1 g7 _ A5 hT5.out hQr2 (by omega) (by omega)).mono ?_
  rintro e w14 ⟨rfl, A5, -, k⟩
  replace Q := below_kp Q k (Nat.le_refl _) hgw
  replace HG := (k.block g7 (.inr (Nat.le_refl _)) (Array.getElem?_eq_some_iff.1 HG).1).trans HG
  replace HY := blkV HY3 Q
  clear k
  go_wp2_with fail
  refine (markAnsEv W4.heap.size a5 (mkB 1 QX QX.length) L5 H5 e5 QN P5 LE5 HE5 d5 (kB 1 QX QX.length) g7 _ A5 hT5m.out hNm hNs hk0 hk2).mono ?_
  rintro e w15 ⟨rfl, A5, -, k⟩
  replace Q := below_kp Q k (Nat.le_refl _) hgw
  replace HG := (k.block g7 (.inr (Nat.le_refl _)) (Array.getElem?_eq_some_iff.1 HG).1).trans HG
  replace HY := blkV HY3 Q
  clear k
  go_wp2_with (refine svTakeI HG rfl rfl rfl ?_)
  refine (heldSrv Adr a5 QX c5 Qb Qn Qr QT 1 _ (by have h := A5.bx.bxs hQmx hQx2.out; exact h) hQr2 (by omega) (by omega)).mono ?_
  rintro e w16 ⟨rfl, b⟩
  replace Q := Below.then2 Q b
  replace HG := blkV HG b
  replace A5 := A5.below b
  replace HY := blkV HY b
  clear b
  go_wp2_with fail
  refine (heldEvents e5 QN d5 (kB 1 QX QX.length) _ (A5.ev.evs hNl2) hNm hNs hk0 hk2).mono ?_
  rintro e w17 ⟨rfl, b⟩
  replace Q := Below.then2 Q b
  replace HG := blkV HG b
  replace A5 := A5.below b
  replace HY := blkV HY b
  clear b
  go_wp2_with (refine svTakeL HY rfl rfl rfl ?_)
  refine (toSrv (fun _ _ _ => True) a X c busy nd rank now _ (hm.below (Below.then2 B Q)) hs).mono ?_
  rintro e w18 ⟨G9, L9, H9, rfl, O9, F9, b⟩
  have M9 := O9.bxs hXm hXs.out
  replace Q := Below.then2 Q b
  replace HG := blkV HG b
  replace A5 := A5.below b
  replace HY := blkV HY b
  clear b
  clear O9 F9 HY
  go_wp2_with fail
  refine (HI.out _ _ _ M9).mono ?_
  rintro e w19 ⟨a8, c8, L8, H8, e8, d8, P8, LE8, HE8, rfl, A8, b⟩
  replace Q := Below.then2 Q b
  replace HG := blkV HG b
  replace A5 := A5.below b
  clear b
  clear M9 HI
  obtain ⟨HH, b⟩ := one_sv w19 (svC a8 QX.length c8 Qb Qn Qr QT) 26
  replace A8 := A8.below b
  replace Q := Below.then2 Q b
  replace HG := blkV HG b
  replace A5 := A5.below b
  clear b
  go_upto_region 29 with fail
  generalize w19.alloc _ = W8 at HG HH A5 A8 Q ⊢
  generalize w19.heap.size = g8 at HH ⊢
  go_wp2_with (first | (refine svTakeI HH rfl rfl rfl ?_) | (refine svTakeI (blkV HA Q) rfl rfl rfl ?_))
  refine (eqSrv Adr Adr a8 a1 QX c8 c1 Qb Qn Qr QT _ (A8.bx.bxs hQm hQs.out) (M1.below Q)).mono ?_
  rintro e w20 ⟨rfl, b⟩
  replace A8 := A8.below b
  replace Q := Below.then2 Q b
  replace HG := blkV HG b
  replace A5 := A5.below b
  clear b
  go_wp2_with fail
  refine (eqEvs e8 e1 QN d8 d1 _ (A8.ev.evs hNl) (E1.below Q)).mono ?_
  rintro e w21 ⟨rfl, b⟩
  replace Q := Below.then2 Q b
  replace HG := blkV HG b
  replace A5 := A5.below b
  clear b
  clear A8 HH
  go_wp2_with (refine svTakeI HG rfl rfl rfl ?_)
  refine (heldSrv Adr a5 QX c5 Qb Qn Qr QT 1 _ (by have h := A5.bx.bxs hQmx hQx2.out; exact h) hQr2 (by omega) (by omega)).mono ?_
  rintro e w22 ⟨rfl, b⟩
  replace Q := Below.then2 Q b
  replace HG := blkV HG b
  replace A5 := A5.below b
  clear b
  go_wp2_with fail
  refine (heldEvents e5 QN d5 (kB 1 QX QX.length) _ (A5.ev.evs hNl2) hNm hNs hk0 hk2).mono ?_
  rintro e w23 ⟨rfl, b⟩
  replace Q := Below.then2 Q b
  replace HG := blkV HG b
  replace A5 := A5.below b
  clear b
  have hb := Below.then2 B Q
  go_wp2_with fail
  go_ret
  exact ⟨rfl, hb⟩
end Go.Proofs.YtnhmecabppaboaaGreat
