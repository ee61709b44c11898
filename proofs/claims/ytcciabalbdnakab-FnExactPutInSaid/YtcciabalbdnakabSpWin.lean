/- spec.WinnerOf: the first one of the least rank. -/
import Derived.Test.YtcciabalbdnakabFrs
import Derived.Deep.CutRange
namespace Go.Proofs.Ytcciabalbdnakab
open Go.RowKit

def rkF (f : Frm) : Int := rankV f.id f.rm f.ln f.D
/-- Who wins among the first k. -/
def winN (L : List Frm) : Nat → Option Nat
  | 0 => none
  | k + 1 => match winN L k with
    | none => if 0 ≤ rkF (nthF L k) then some k else none
    | some b => if 0 ≤ rkF (nthF L k) ∧ rkF (nthF L k) < rkF (nthF L b) then some k else some b
def winI : Option Nat → Int
  | none => -1
  | some b => b
theorem winN_lt {L : List Frm} : ∀ {k b : Nat}, winN L k = some b → b < k ∧ 0 ≤ rkF (nthF L b) := by
  intro k
  induction k with
  | zero => intro b h; simp [winN] at h
  | succ k ih =>
    intro b h
    simp only [winN] at h
    split at h
    · split at h
      · cases h; exact ⟨by omega, by assumption⟩
      · cases h
    · split at h
      · rename_i hc; cases h; exact ⟨by omega, hc.1⟩
      · rename_i hb _; cases h; have := ih hb; exact ⟨by omega, this.2⟩
theorem winN_none {L : List Frm} {k : Nat} (h : winN L k = none) (r : 0 ≤ rkF (nthF L k)) : winN L (k + 1) = some k := by simp [winN, h, r]
theorem winN_low {L : List Frm} {k : Nat} (r : rkF (nthF L k) < 0) : winN L (k + 1) = winN L k := by
  simp only [winN]
  split
  · rename_i h; rw [if_neg (by omega), h]
  · rename_i h; rw [if_neg (by omega), h]
theorem winN_less {L : List Frm} {k b : Nat} (h : winN L k = some b) (r : 0 ≤ rkF (nthF L k)) (q : rkF (nthF L k) < rkF (nthF L b)) : winN L (k + 1) = some k := by simp [winN, h, r, q]
theorem winN_more {L : List Frm} {k b : Nat} (h : winN L k = some b) (q : ¬ rkF (nthF L k) < rkF (nthF L b)) : winN L (k + 1) = some b := by simp [winN, h, q]

set_option maxHeartbeats 8000000 in
set_option maxRecDepth 20000 in
/-- spec.WinnerOf. -/
theorem specWinnerOf (a : Option Addr) (L : List Frm) (c : Nat) (w : World) (hd : Frs a L w) :
    Calls Try.prog 19 #[.slice a L.length c] w fun e w' => e = .returned (.int .i64 (winI (winN L L.length))) ∧ Below w.heap.size w w' := by
  have hm := hd.1
  unfold maxLen at hm
  go_enter Try.func19, Try.ntmps19
  go_wp2_with fail
  go_loopw [3, 4] (fun x i wr => ∃ k : Nat, k ≤ L.length ∧ i = .int .i64 k ∧ x = .int .i64 (winI (winN L k)) ∧ Below w.heap.size w wr) (fun _ i _ => L.length - (intOf i).toNat)
  case atStart => exact ⟨0, Nat.zero_le _, rfl, rfl, Below.refl _ _⟩
  case round =>
    obtain ⟨k, hk, rfl, rfl, bw⟩ := hrel
    by_cases hlt : k < L.length
    · obtain ⟨g, o, ad, ca, rfl, fa⟩ := (hd.below bw).2 k hlt
      by_cases hr : rkF (nthF L k) < 0
      · have HV := Lib.hid (winN_low hr)
        replace hr := Int.not_le.2 hr
        unfold rkF at hr
        generalize nthF L k = f at *
        obtain ⟨id, rm, ln, D⟩ := f
        simp only at hr
        generalize hR : rankV id rm ln D = r at hr
        generalize hwb : winI (winN L k) = x at *
        generalize winN L k = wk at *
        go_upto_region 5 with fail
        refine region_class (fun u => FrC g (o + k * 4) ad ca ⟨id, rm, ln, D⟩ u ∧ Below w.heap.size w u) (by kernel_rfl) (by kernel_rfl) ⟨fa.drew, bw.drew⟩ ?_
        clear fa bw
        repeat first
          | go_big_quiet_skip
          | (go_big_quiet_want
             apply Exists.intro
             refine ⟨fun u hu => ?_, ?_⟩
             · apply quietAt_val
               obtain ⟨⟨⟨a0, a1, a2, a3⟩, _⟩, _⟩ := hu
               go_simp
               rfl
             simp only [Act.put, List.setIfInBounds_toArray, List.set_cons_zero, List.set_cons_succ]
             go_big_quiet_on)
          | (go_big_quiet_want
             apply Exists.intro
             refine ⟨fun u hu => ?_, ?_⟩
             · apply quietAt_enter 17 #[frV id rm ln ad D.length ca]
               · go_simp
               · refine (specRankOf id rm ln ad D ca u hu.1.2).mono ?_
                 rintro e w2 ⟨rfl, b2⟩
                 rw [hR]
                 exact ⟨rfl, hu.1.below b2, Below.then2 hu.2 b2⟩
             simp only [Act.put, List.setIfInBounds_toArray, List.set_cons_zero, List.set_cons_succ]
             go_big_quiet_on)
        refine wpQuiet_nil ?_
        intro W2 L2
        have bw := L2.2
        clear L2 hr hR
        go_wp2_with fail
        go_roundw
        case rel => exact ⟨k + 1, by omega, by go_num, by rw [HV.out, hwb], bw⟩
        case measure => simp [intOf]; omega
      · replace hr := Int.not_lt.1 hr
        cases hw : winN L k with
        | none =>
          have HV := Lib.hid (winN_none hw (by omega))
          clear hw
          rw [show winI none = -1 from rfl]
          unfold rkF at hr
          generalize nthF L k = f at *
          obtain ⟨id, rm, ln, D⟩ := f
          simp only at hr
          generalize hR : rankV id rm ln D = r at hr
          go_upto_region 5 with fail
          refine region_class (fun u => FrC g (o + k * 4) ad ca ⟨id, rm, ln, D⟩ u ∧ Below w.heap.size w u) (by kernel_rfl) (by kernel_rfl) ⟨fa.drew, bw.drew⟩ ?_
          clear fa bw
          repeat first
            | go_big_quiet_skip
            | (go_big_quiet_want
               apply Exists.intro
               refine ⟨fun u hu => ?_, ?_⟩
               · apply quietAt_val
                 obtain ⟨⟨⟨a0, a1, a2, a3⟩, _⟩, _⟩ := hu
                 go_simp
                 rfl
               simp only [Act.put, List.setIfInBounds_toArray, List.set_cons_zero, List.set_cons_succ]
               go_big_quiet_on)
            | (go_big_quiet_want
               apply Exists.intro
               refine ⟨fun u hu => ?_, ?_⟩
               · apply quietAt_enter 17 #[frV id rm ln ad D.length ca]
                 · go_simp
                 · refine (specRankOf id rm ln ad D ca u hu.1.2).mono ?_
                   rintro e w2 ⟨rfl, b2⟩
                   rw [hR]
                   exact ⟨rfl, hu.1.below b2, Below.then2 hu.2 b2⟩
               simp only [Act.put, List.setIfInBounds_toArray, List.set_cons_zero, List.set_cons_succ]
               go_big_quiet_on)
          refine wpQuiet_nil ?_
          intro W2 L2
          have bw := L2.2
          clear L2 hr hR
          go_wp2_with fail
          go_roundw
          case rel => exact ⟨k + 1, by omega, by go_num, by rw [HV.out]; rfl, bw⟩
          case measure => simp [intOf]; omega
        | some b =>
          have hbk := winN_lt hw
          obtain ⟨g2, o2, ad', ca', e2, fb⟩ := (hd.below bw).2 b (by omega)
          cases e2
          rw [show winI (some b) = (b : Int) from rfl]
          have hb0 : ¬ ((b : Int) < 0) := by omega
          by_cases hq : rkF (nthF L k) < rkF (nthF L b)
          · have HV := Lib.hid (winN_less hw (by omega) hq)
            clear hw
            have hbl : b < L.length := by omega
            clear hbk
            unfold rkF at hr hq
            generalize nthF L k = f at *
            generalize nthF L b = f' at *
            obtain ⟨id, rm, ln, D⟩ := f
            obtain ⟨id', rm', ln', D'⟩ := f'
            simp only at hr hq
            generalize hR : rankV id rm ln D = r at hr hq
            generalize hR' : rankV id' rm' ln' D' = r' at hq
            go_upto_region 5 with fail
            refine region_class (fun u => FrC g (o + k * 4) ad ca ⟨id, rm, ln, D⟩ u ∧ FrC g (o + b * 4) ad' ca' ⟨id', rm', ln', D'⟩ u ∧ Below w.heap.size w u) (by kernel_rfl) (by kernel_rfl) ⟨fa.drew, fb.drew, bw.drew⟩ ?_
            clear fa bw fb
            repeat first
              | go_big_quiet_skip
              | (go_big_quiet_want
                 apply Exists.intro
                 refine ⟨fun u hu => ?_, ?_⟩
                 · apply quietAt_val
                   obtain ⟨⟨⟨a0, a1, a2, a3⟩, _⟩, ⟨⟨b0, b1, b2, b3⟩, _⟩, _⟩ := hu
                   go_simp
                   rfl
                 simp only [Act.put, List.setIfInBounds_toArray, List.set_cons_zero, List.set_cons_succ]
                 go_big_quiet_on)
              | (go_big_quiet_want
                 apply Exists.intro
                 refine ⟨fun u hu => ?_, ?_⟩
                 · apply quietAt_enter 17 #[frV id rm ln ad D.length ca]
                   · go_simp
                   · refine (specRankOf id rm ln ad D ca u hu.1.2).mono ?_
                     rintro e w2 ⟨rfl, b2⟩
                     rw [hR]
                     exact ⟨rfl, hu.1.below b2, hu.2.1.below b2, Below.then2 hu.2.2 b2⟩
                 simp only [Act.put, List.setIfInBounds_toArray, List.set_cons_zero, List.set_cons_succ]
                 go_big_quiet_on)
              | (go_big_quiet_want
                 apply Exists.intro
                 refine ⟨fun u hu => ?_, ?_⟩
                 · apply quietAt_enter 17 #[frV id' rm' ln' ad' D'.length ca']
                   · go_simp
                   · refine (specRankOf id' rm' ln' ad' D' ca' u hu.2.1.2).mono ?_
                     rintro e w2 ⟨rfl, b2⟩
                     rw [hR']
                     exact ⟨rfl, hu.1.below b2, hu.2.1.below b2, Below.then2 hu.2.2 b2⟩
                 simp only [Act.put, List.setIfInBounds_toArray, List.set_cons_zero, List.set_cons_succ]
                 go_big_quiet_on)
            refine wpQuiet_nil ?_
            intro W2 L2
            have bw := L2.2.2
            clear L2 hr hR hq hR'
            go_wp2_with fail
            go_roundw
            case rel => exact ⟨k + 1, by omega, by go_num, by rw [HV.out]; rfl, bw⟩
            case measure => simp [intOf]; omega
          · have HV := Lib.hid (winN_more hw hq)
            clear hw
            have hbl : b < L.length := by omega
            clear hbk
            unfold rkF at hr hq
            generalize nthF L k = f at *
            generalize nthF L b = f' at *
            obtain ⟨id, rm, ln, D⟩ := f
            obtain ⟨id', rm', ln', D'⟩ := f'
            simp only at hr hq
            generalize hR : rankV id rm ln D = r at hr hq
            generalize hR' : rankV id' rm' ln' D' = r' at hq
            go_upto_region 5 with fail
            refine region_class (fun u => FrC g (o + k * 4) ad ca ⟨id, rm, ln, D⟩ u ∧ FrC g (o + b * 4) ad' ca' ⟨id', rm', ln', D'⟩ u ∧ Below w.heap.size w u) (by kernel_rfl) (by kernel_rfl) ⟨fa.drew, fb.drew, bw.drew⟩ ?_
            clear fa bw fb
            repeat first
              | go_big_quiet_skip
              | (go_big_quiet_want
                 apply Exists.intro
                 refine ⟨fun u hu => ?_, ?_⟩
                 · apply quietAt_val
                   obtain ⟨⟨⟨a0, a1, a2, a3⟩, _⟩, ⟨⟨b0, b1, b2, b3⟩, _⟩, _⟩ := hu
                   go_simp
                   rfl
                 simp only [Act.put, List.setIfInBounds_toArray, List.set_cons_zero, List.set_cons_succ]
                 go_big_quiet_on)
              | (go_big_quiet_want
                 apply Exists.intro
                 refine ⟨fun u hu => ?_, ?_⟩
                 · apply quietAt_enter 17 #[frV id rm ln ad D.length ca]
                   · go_simp
                   · refine (specRankOf id rm ln ad D ca u hu.1.2).mono ?_
                     rintro e w2 ⟨rfl, b2⟩
                     rw [hR]
                     exact ⟨rfl, hu.1.below b2, hu.2.1.below b2, Below.then2 hu.2.2 b2⟩
                 simp only [Act.put, List.setIfInBounds_toArray, List.set_cons_zero, List.set_cons_succ]
                 go_big_quiet_on)
              | (go_big_quiet_want
                 apply Exists.intro
                 refine ⟨fun u hu => ?_, ?_⟩
                 · apply quietAt_enter 17 #[frV id' rm' ln' ad' D'.length ca']
                   · go_simp
                   · refine (specRankOf id' rm' ln' ad' D' ca' u hu.2.1.2).mono ?_
                     rintro e w2 ⟨rfl, b2⟩
                     rw [hR']
                     exact ⟨rfl, hu.1.below b2, hu.2.1.below b2, Below.then2 hu.2.2 b2⟩
                 simp only [Act.put, List.setIfInBounds_toArray, List.set_cons_zero, List.set_cons_succ]
                 go_big_quiet_on)
            refine wpQuiet_nil ?_
            intro W2 L2
            have bw := L2.2.2
            clear L2 hr hR hq hR'
            go_wp2_with fail
            go_roundw
            case rel => exact ⟨k + 1, by omega, by go_num, by rw [HV.out]; rfl, bw⟩
            case measure => simp [intOf]; omega
    · obtain rfl : k = L.length := by omega
      go_wp2_with fail
      go_ret
      exact ⟨rfl, bw⟩
end Go.Proofs.Ytcciabalbdnakab
