/- laws.likeFrames of two lists that hold the same. -/
import Derived.Test.YtcciabalbdnakabFrs
import Derived.Test.YtcciabalbdnakabSpSame
set_option linter.unusedVariables false
set_option linter.unusedSimpArgs false
set_option maxRecDepth 20000
namespace Go.Proofs.Ytcciabalbdnakab
open Go.RowKit

set_option maxHeartbeats 2000000 in
/-- laws.likeFrames, of two lists that hold the same. -/
theorem likeFrs (a b : Option Addr) (L : List Frm) (c c' : Nat) (w : World) (ha : Frs a L w) (hb : Frs b L w) :
    Calls Try.prog 31 #[.slice a L.length c, .slice b L.length c'] w fun e w' => e = .returned (.bool true) ∧ Below w.heap.size w w' := by
  have hm := ha.1
  unfold maxLen at hm
  go_enter Try.func31, Try.ntmps31
  go_wp2_with fail
  go_loopw [5] (fun i wr => ∃ k : Nat, k ≤ L.length ∧ i = .int .i64 k ∧ Below w.heap.size w wr) (fun i _ => L.length - (intOf i).toNat)
  case atStart => exact ⟨0, Nat.zero_le _, rfl, Below.refl _ _⟩
  case round =>
    obtain ⟨k, hk, rfl, bw⟩ := hrel
    by_cases hlt : k < L.length
    · obtain ⟨g, o, ad, ca, rfl, fa⟩ := (ha.below bw).2 k hlt
      obtain ⟨g', o', ad', cb, rfl, fb⟩ := (hb.below bw).2 k hlt
      generalize nthF L k = f at *
      obtain ⟨id, rm, ln, D⟩ := f
      go_upto_region 6 with fail
      refine region_class (fun u => FrC g (o + k * 4) ad ca ⟨id, rm, ln, D⟩ u ∧ FrC g' (o' + k * 4) ad' cb ⟨id, rm, ln, D⟩ u ∧ Below w.heap.size w u) (by kernel_rfl) (by kernel_rfl) ⟨fa.drew, fb.drew, bw.drew⟩ ?_
      clear fa fb bw
      repeat first
        | go_big_quiet_skip
        | (go_big_quiet_want
           apply Exists.intro
           refine ⟨fun u hu => ?_, ?_⟩
           · apply quietAt_val
             obtain ⟨⟨⟨a0, a1, a2, a3⟩, _⟩, ⟨⟨b0, b1, b2, b3⟩, _⟩, _⟩ := hu
             go_simp
             rfl
           simp only [Act.put, List.setIfInBounds_toArray, List.set_cons_zero, List.set_cons_succ]
           go_big_quiet_on)
        | (go_big_quiet_want
           apply Exists.intro
           refine ⟨fun u hu => ?_, ?_⟩
           · apply quietAt_enter 66 #[frV id rm ln ad D.length ca, frV id rm ln ad' D.length cb]
             · go_simp
             · refine (specSame id rm ln ad D ca id rm ln ad' D cb u hu.1.2 hu.2.1.2).mono ?_
               rintro e w2 ⟨rfl, b2⟩
               rw [sameFr_yes rfl rfl rfl rfl]
               exact ⟨rfl, hu.1.below b2, hu.2.1.below b2, Below.then2 hu.2.2 b2⟩
           simp only [Act.put, List.setIfInBounds_toArray, List.set_cons_zero, List.set_cons_succ]
           go_big_quiet_on)
      refine wpQuiet_nil ?_
      intro W2 L2
      have bw := L2.2.2
      clear L2
      go_wp2_with fail
      go_roundw
      case rel => exact ⟨k + 1, by omega, by go_num, bw⟩
      case measure => simp [intOf]; omega
    · go_wp2_with fail
      go_ret
      exact ⟨rfl, bw⟩
end Go.Proofs.Ytcciabalbdnakab
