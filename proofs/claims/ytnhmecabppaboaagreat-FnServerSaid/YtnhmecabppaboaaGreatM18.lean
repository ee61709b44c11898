/- Contracts of BoxOk, of the program and of the model: not more than 16, each one right, their ranks rise. -/
import Derived.Test.YtnhmecabppaboaaGreatM3

set_option linter.unusedVariables false
set_option linter.unusedSimpArgs false
namespace Go.Proofs.YtnhmecabppaboaaGreat
open Go.RowKit

/-- impl.BoxOk. -/
theorem implBoxOk (a : Option Addr) (L : List Frm) (c : Nat) (w : World) (hd : Frs a L w) :
    Calls Tryz.prog 77 #[.slice a L.length c] w fun e w' => e = .returned (.bool (boxB L)) ∧ Below w.heap.size w w' := by
  have hm := hd.1
  unfold maxLen at hm
  go_enter Tryz.func77, Tryz.ntmps77
  by_cases h16 : 16 < L.length
  · have HV := Lib.hid (boxB_long h16)
    go_wp2_with fail
    go_ret
    exact ⟨by rw [HV.out]; rfl, Below.refl _ _⟩
  go_wp2_with fail
  go_loopw [3, 12] (fun l i wr => ∃ k : Nat, k ≤ L.length ∧ i = .int .i64 k ∧ l = .int .i64 (lastR L k) ∧ Rise L k ∧ Below w.heap.size w wr) (fun _ i _ => L.length - (intOf i).toNat)
  case atStart => exact ⟨0, Nat.zero_le _, rfl, rfl, Rise.zero L, Below.refl _ _⟩
  case round =>
    obtain ⟨k, hk, rfl, rfl, hr, bw⟩ := hrel
    by_cases hlt : k < L.length
    · obtain ⟨g, o, ad, ca, rfl, ⟨c0, c1, c2, c3⟩, hn⟩ := (hd.below bw).2 k hlt
      have hY := Lib.hid (fun h => hr.succ (k := k) h)
      have hN := Lib.hid (fun h => Rise.stop (L := L) (k := k) hlt h)
      have hls : lastR L (k + 1) = rkF (nthF L k) := rfl
      have hrk : rkF (nthF L k) = rankV (nthF L k).id (nthF L k).rm (nthF L k).ln (nthF L k).D := rfl
      generalize lastR L k = l at *
      generalize hq : rkF (nthF L k) = r at *
      clear hq
      generalize nthF L k = f at *
      obtain ⟨id, rm, ln, D⟩ := f
      simp only at c0 c1 c2 c3 hn hrk
      replace hrk := Lib.hid hrk
      go_upto_region 7 with fail
      have kb : Below wr.heap.size wr (wr.alloc (.cells #[.int .i64 id, .bool rm, .int .i64 ln, .slice ad D.length ca] 35)) := (Below.refl _ _).alloc (Nat.le_refl _) _
      have X := Four.made (.int .i64 id) (.bool rm) (.int .i64 ln) (.slice ad D.length ca) 35 (Below.refl wr.heap.size wr)
      replace hn := hn.below kb
      replace bw := Below.then2 bw kb
      clear kb c0 c1 c2 c3
      generalize wr.alloc (.cells #[.int .i64 id, .bool rm, .int .i64 ln, .slice ad D.length ca] 35) = W1 at *
      generalize wr.heap.size = gb at *
      obtain ⟨⟨x0, x1, x2, x3⟩, -⟩ := X
      go_wp2_with fail
      refine (implRankOf _ _ _ _ _ _ _ hn).mono ?_
      rintro e w2 ⟨he, b2⟩
      rw [← hrk.out] at he
      subst he
      replace bw := Below.then2 bw b2
      clear b2 x0 x1 x2 x3 hn hrk
      by_cases hle : r ≤ l
      · have HV := Lib.hid (boxB_no (L := L) fun h => hN.out hle h.2)
        go_wp2_with fail
        go_ret
        exact ⟨by rw [HV.out]; rfl, bw⟩
      · have hle' : l < r := by omega
        go_wp2_with fail
        go_roundw
        case rel => exact ⟨k + 1, by omega, by go_num, by rw [hls], hY.out hle', bw⟩
        case measure => simp [intOf]; omega
    · obtain rfl : k = L.length := by omega
      have HV := Lib.hid (boxB_yes (L := L) (by omega) hr)
      clear hr
      go_wp2_with fail
      go_ret
      exact ⟨by rw [HV.out]; rfl, bw⟩
set_option maxHeartbeats 8000000 in
set_option maxRecDepth 20000 in
/-- spec.BoxOk. -/
theorem specBoxOk (a : Option Addr) (L : List Frm) (c : Nat) (w : World) (hd : Frs a L w) :
    Calls Tryz.prog 53 #[.slice a L.length c] w fun e w' => e = .returned (.bool (boxB L)) ∧ Below w.heap.size w w' := by
  have hm := hd.1
  unfold maxLen at hm
  go_enter Tryz.func53, Tryz.ntmps53
  go_wp2_with fail
  go_loopw [3] (fun i wr => ∃ k : Nat, k ≤ L.length ∧ i = .int .i64 k ∧ Rise L k ∧ Below w.heap.size w wr) (fun i _ => L.length - (intOf i).toNat)
  case atStart => exact ⟨0, Nat.zero_le _, rfl, Rise.zero L, Below.refl _ _⟩
  case round =>
    obtain ⟨k, hk, rfl, hr, bw⟩ := hrel
    by_cases hlt : k < L.length
    · obtain ⟨g, o, ad, ca, rfl, fa⟩ := (hd.below bw).2 k hlt
      cases hok' : frOk (nthF L k).id (nthF L k).rm (nthF L k).ln (nthF L k).D with
      | false =>
        have HV := Lib.hid (boxB_no (L := L) fun h => by have h1 := (h.2 k hlt).1; unfold rkF at h1; rw [rankV_no hok'] at h1; omega)
        generalize nthF L k = f at *
        obtain ⟨id, rm, ln, D⟩ := f
        have hok : frOk id rm ln D = false := hok'
        clear hok' hr
        go_upto_region 4 with fail
        refine region_class (fun u => FrC g (o + k * 4) ad ca ⟨id, rm, ln, D⟩ u ∧ Below w.heap.size w u) (by kernel_rfl) (by kernel_rfl) ⟨fa.drew, bw.drew⟩ ?_
        clear fa bw
        repeat first
          | go_big_quiet_skip
          | (go_big_quiet_want
             apply Exists.intro
             refine ⟨fun u hu => ?_, ?_⟩
             · apply quietAt_val
               obtain ⟨⟨⟨a0, a1, a2, a3⟩, _⟩, _⟩ := hu
               go_simp
               rfl
             simp only [Act.put, List.setIfInBounds_toArray, List.set_cons_zero, List.set_cons_succ]
             go_big_quiet_on)
          | (go_big_quiet_want
             apply Exists.intro
             refine ⟨fun u hu => ?_, ?_⟩
             · apply quietAt_enter 46 #[frV id rm ln ad D.length ca]
               · go_simp
               · refine (specFrameOk id rm ln ad D ca u hu.1.2).mono ?_
                 rintro e w2 ⟨rfl, b2⟩
                 rw [hok]
                 exact ⟨rfl, hu.1.below b2, Below.then2 hu.2 b2⟩
             simp only [Act.put, List.setIfInBounds_toArray, List.set_cons_zero, List.set_cons_succ]
             go_big_quiet_on)
        refine wpQuiet_nil ?_
        intro W2 L2
        have bw := L2.2
        clear L2 hok
        go_wp2_with fail
        go_ret
        exact ⟨by rw [HV.out]; rfl, bw⟩
      | true =>
        have hr0 : 0 ≤ rkF (nthF L k) := by
          have h1 := rankV_le (nthF L k).id (nthF L k).rm (nthF L k).ln (nthF L k).D
          have h2 : ¬ rankV (nthF L k).id (nthF L k).rm (nthF L k).ln (nthF L k).D < 0 := fun h => by rw [rankV_neg.1 h] at hok'; cases hok'
          unfold rkF; omega
        by_cases hz : k = 0
        · have HV := Lib.hid (hr.succ (show lastR L k < rkF (nthF L k) by subst hz; simp only [lastR]; omega))
          have hk0 : decide (0 < k) = false := by simp [hz]
          clear hz
          generalize nthF L k = f at *
          obtain ⟨id, rm, ln, D⟩ := f
          have hok : frOk id rm ln D = true := hok'
          clear hok' hr hr0
          go_upto_region 4 with fail
          refine region_class (fun u => FrC g (o + k * 4) ad ca ⟨id, rm, ln, D⟩ u ∧ Below w.heap.size w u) (by kernel_rfl) (by kernel_rfl) ⟨fa.drew, bw.drew⟩ ?_
          clear fa bw
          repeat first
            | go_big_quiet_skip
            | (go_big_quiet_want
               apply Exists.intro
               refine ⟨fun u hu => ?_, ?_⟩
               · apply quietAt_val
                 obtain ⟨⟨⟨a0, a1, a2, a3⟩, _⟩, _⟩ := hu
                 go_simp
                 rfl
               simp only [Act.put, List.setIfInBounds_toArray, List.set_cons_zero, List.set_cons_succ]
               go_big_quiet_on)
            | (go_big_quiet_want
               apply Exists.intro
               refine ⟨fun u hu => ?_, ?_⟩
               · apply quietAt_enter 46 #[frV id rm ln ad D.length ca]
                 · go_simp
                 · refine (specFrameOk id rm ln ad D ca u hu.1.2).mono ?_
                   rintro e w2 ⟨rfl, b2⟩
                   rw [hok]
                   exact ⟨rfl, hu.1.below b2, Below.then2 hu.2 b2⟩
               simp only [Act.put, List.setIfInBounds_toArray, List.set_cons_zero, List.set_cons_succ]
               go_big_quiet_on)
          refine wpQuiet_nil ?_
          intro W2 L2
          have bw := L2.2
          clear L2 hok
          go_wp2_with fail
          go_roundw
          case rel => exact ⟨k + 1, by omega, by go_num, HV.out, bw⟩
          case measure => simp [intOf]; omega
        · obtain ⟨j, rfl⟩ : ∃ j, k = j + 1 := ⟨k - 1, by omega⟩
          clear hz
          obtain ⟨g2, o2, ad', ca', e2, fb⟩ := (hd.below bw).2 j (by omega)
          cases e2
          have hls : lastR L (j + 1) = rkF (nthF L j) := rfl
          by_cases hle : rkF (nthF L (j + 1)) ≤ rkF (nthF L j)
          · have HV := Lib.hid (boxB_no (L := L) fun h => Rise.stop hlt (by rw [hls]; exact hle) h.2)
            have hj := hlt
            unfold rkF at hle
            clear hr hr0 hls
            generalize nthF L (j + 1) = f at *
            generalize nthF L j = f' at *
            obtain ⟨id, rm, ln, D⟩ := f
            obtain ⟨id', rm', ln', D'⟩ := f'
            have hok : frOk id rm ln D = true := hok'
            clear hok'
            simp only at hle
            generalize hR : rankV id rm ln D = r at hle
            generalize hR' : rankV id' rm' ln' D' = r' at hle
            generalize hkj : j + 1 = k at *
            have hk1 : (k : Int) - 1 = (j : Int) := by omega
            have hk0 : decide (0 < k) = true := by simp; omega
            have hjl : (j : Int) < (L.length : Int) := by omega
            have hwj : IntKind.i64.wrap (j : Int) = (j : Int) := IntWalk.i64_in _ (by omega)
            go_upto_region 4 with fail
            refine region_class (fun u => FrC g (o + k * 4) ad ca ⟨id, rm, ln, D⟩ u ∧ FrC g (o + j * 4) ad' ca' ⟨id', rm', ln', D'⟩ u ∧ Below w.heap.size w u) (by kernel_rfl) (by kernel_rfl) ⟨fa.drew, fb.drew, bw.drew⟩ ?_
            clear fa bw fb
            repeat first
              | go_big_quiet_skip
              | (go_big_quiet_want
                 apply Exists.intro
                 refine ⟨fun u hu => ?_, ?_⟩
                 · apply quietAt_val
                   obtain ⟨⟨⟨a0, a1, a2, a3⟩, _⟩, ⟨⟨b0, b1, b2, b3⟩, _⟩, _⟩ := hu
                   go_simp
                   rfl
                 simp only [Act.put, List.setIfInBounds_toArray, List.set_cons_zero, List.set_cons_succ]
                 go_big_quiet_on)
              | (go_big_quiet_want
                 apply Exists.intro
                 refine ⟨fun u hu => ?_, ?_⟩
                 · apply quietAt_enter 46 #[frV id rm ln ad D.length ca]
                   · go_simp
                   · refine (specFrameOk id rm ln ad D ca u hu.1.2).mono ?_
                     rintro e w2 ⟨rfl, b2⟩
                     rw [hok]
                     exact ⟨rfl, hu.1.below b2, hu.2.1.below b2, Below.then2 hu.2.2 b2⟩
                 simp only [Act.put, List.setIfInBounds_toArray, List.set_cons_zero, List.set_cons_succ]
                 go_big_quiet_on)
              | (go_big_quiet_want
                 apply Exists.intro
                 refine ⟨fun u hu => ?_, ?_⟩
                 · apply quietAt_enter 47 #[frV id rm ln ad D.length ca]
                   · go_simp
                   · refine (specRankOf id rm ln ad D ca u hu.1.2).mono ?_
                     rintro e w2 ⟨rfl, b2⟩
                     rw [hR]
                     exact ⟨rfl, hu.1.below b2, hu.2.1.below b2, Below.then2 hu.2.2 b2⟩
                 simp only [Act.put, List.setIfInBounds_toArray, List.set_cons_zero, List.set_cons_succ]
                 go_big_quiet_on)
              | (go_big_quiet_want
                 apply Exists.intro
                 refine ⟨fun u hu => ?_, ?_⟩
                 · apply quietAt_enter 47 #[frV id' rm' ln' ad' D'.length ca']
                   · go_simp
                   · refine (specRankOf id' rm' ln' ad' D' ca' u hu.2.1.2).mono ?_
                     rintro e w2 ⟨rfl, b2⟩
                     rw [hR']
                     exact ⟨rfl, hu.1.below b2, hu.2.1.below b2, Below.then2 hu.2.2 b2⟩
                 simp only [Act.put, List.setIfInBounds_toArray, List.set_cons_zero, List.set_cons_succ]
                 go_big_quiet_on)
            refine wpQuiet_nil ?_
            intro W2 L2
            have bw := L2.2.2
            clear L2 hok hR hR'
            go_wp2_with fail
            go_ret
            exact ⟨by rw [HV.out]; rfl, bw⟩
          · have HV := Lib.hid (hr.succ (show lastR L (j + 1) < rkF (nthF L (j + 1)) by rw [hls]; omega))
            have hj := hlt
            unfold rkF at hle
            clear hr hr0 hls
            generalize nthF L (j + 1) = f at *
            generalize nthF L j = f' at *
            obtain ⟨id, rm, ln, D⟩ := f
            obtain ⟨id', rm', ln', D'⟩ := f'
            have hok : frOk id rm ln D = true := hok'
            clear hok'
            simp only at hle
            generalize hR : rankV id rm ln D = r at hle
            generalize hR' : rankV id' rm' ln' D' = r' at hle
            generalize hkj : j + 1 = k at *
            have hk1 : (k : Int) - 1 = (j : Int) := by omega
            have hk0 : decide (0 < k) = true := by simp; omega
            have hjl : (j : Int) < (L.length : Int) := by omega
            have hwj : IntKind.i64.wrap (j : Int) = (j : Int) := IntWalk.i64_in _ (by omega)
            go_upto_region 4 with fail
            refine region_class (fun u => FrC g (o + k * 4) ad ca ⟨id, rm, ln, D⟩ u ∧ FrC g (o + j * 4) ad' ca' ⟨id', rm', ln', D'⟩ u ∧ Below w.heap.size w u) (by kernel_rfl) (by kernel_rfl) ⟨fa.drew, fb.drew, bw.drew⟩ ?_
            clear fa bw fb
            repeat first
              | go_big_quiet_skip
              | (go_big_quiet_want
                 apply Exists.intro
                 refine ⟨fun u hu => ?_, ?_⟩
                 · apply quietAt_val
                   obtain ⟨⟨⟨a0, a1, a2, a3⟩, _⟩, ⟨⟨b0, b1, b2, b3⟩, _⟩, _⟩ := hu
                   go_simp
                   rfl
                 simp only [Act.put, List.setIfInBounds_toArray, List.set_cons_zero, List.set_cons_succ]
                 go_big_quiet_on)
              | (go_big_quiet_want
                 apply Exists.intro
                 refine ⟨fun u hu => ?_, ?_⟩
                 · apply quietAt_enter 46 #[frV id rm ln ad D.length ca]
                   · go_simp
                   · refine (specFrameOk id rm ln ad D ca u hu.1.2).mono ?_
                     rintro e w2 ⟨rfl, b2⟩
                     rw [hok]
                     exact ⟨rfl, hu.1.below b2, hu.2.1.below b2, Below.then2 hu.2.2 b2⟩
                 simp only [Act.put, List.setIfInBounds_toArray, List.set_cons_zero, List.set_cons_succ]
                 go_big_quiet_on)
              | (go_big_quiet_want
                 apply Exists.intro
                 refine ⟨fun u hu => ?_, ?_⟩
                 · apply quietAt_enter 47 #[frV id rm ln ad D.length ca]
                   · go_simp
                   · refine (specRankOf id rm ln ad D ca u hu.1.2).mono ?_
                     rintro e w2 ⟨rfl, b2⟩
                     rw [hR]
                     exact ⟨rfl, hu.1.below b2, hu.2.1.below b2, Below.then2 hu.2.2 b2⟩
                 simp only [Act.put, List.setIfInBounds_toArray, List.set_cons_zero, List.set_cons_succ]
                 go_big_quiet_on)
              | (go_big_quiet_want
                 apply Exists.intro
                 refine ⟨fun u hu => ?_, ?_⟩
                 · apply quietAt_enter 47 #[frV id' rm' ln' ad' D'.length ca']
                   · go_simp
                   · refine (specRankOf id' rm' ln' ad' D' ca' u hu.2.1.2).mono ?_
                     rintro e w2 ⟨rfl, b2⟩
                     rw [hR']
                     exact ⟨rfl, hu.1.below b2, hu.2.1.below b2, Below.then2 hu.2.2 b2⟩
                 simp only [Act.put, List.setIfInBounds_toArray, List.set_cons_zero, List.set_cons_succ]
                 go_big_quiet_on)
            refine wpQuiet_nil ?_
            intro W2 L2
            have bw := L2.2.2
            clear L2 hok hR hR'
            go_wp2_with fail
            go_roundw
            case rel => exact ⟨k + 1, by omega, by go_num, HV.out, bw⟩
            case measure => simp [intOf]; omega
    · obtain rfl : k = L.length := by omega
      by_cases h16 : L.length ≤ 16
      · have HV := Lib.hid (boxB_yes (L := L) h16 hr)
        clear hr
        go_wp2_with fail
        go_ret
        exact ⟨by rw [HV.out]; simp; omega, bw⟩
      · have HV := Lib.hid (boxB_long (L := L) (by omega))
        clear hr
        go_wp2_with fail
        go_ret
        exact ⟨by rw [HV.out]; simp; omega, bw⟩
end Go.Proofs.YtnhmecabppaboaaGreat
