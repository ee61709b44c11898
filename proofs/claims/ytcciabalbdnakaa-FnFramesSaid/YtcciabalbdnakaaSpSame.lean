/- Contract of the model's SameFrame: at every two frames whose data can be read it answers sameFr of them. -/
import Derived.Test.YtcciabalbdnakaaEq
set_option maxRecDepth 20000
namespace Go.Proofs.Ytcciabalbdnakaa
open Go.RowKit

/-- Are two frames alike? -/
def sameFr (i0 : Int) (r0 : Bool) (l0 : Int) (D0 : List Int) (i1 : Int) (r1 : Bool) (l1 : Int) (D1 : List Int) : Bool := decide (i0 = i1) && decide (r0 = r1) && decide (l0 = l1) && decide (D0 = D1)
theorem sameFr_no {i0 : Int} {r0 : Bool} {l0 : Int} {D0 : List Int} {i1 : Int} {r1 : Bool} {l1 : Int} {D1 : List Int} (h : i0 ≠ i1 ∨ r0 ≠ r1 ∨ l0 ≠ l1 ∨ D0 ≠ D1) : sameFr i0 r0 l0 D0 i1 r1 l1 D1 = false := by
  simp only [sameFr, Bool.and_eq_false_iff, decide_eq_false_iff_not]; rcases h with h | h | h | h <;> simp [h]
theorem sameFr_yes {i0 : Int} {r0 : Bool} {l0 : Int} {D0 : List Int} {i1 : Int} {r1 : Bool} {l1 : Int} {D1 : List Int} (h0 : i0 = i1) (h1 : r0 = r1) (h2 : l0 = l1) (h3 : D0 = D1) : sameFr i0 r0 l0 D0 i1 r1 l1 D1 = true := by
  simp [sameFr, h0, h1, h2, h3]

theorem specSame (i0 : Int) (r0 : Bool) (l0 : Int) (a0 : Option Addr) (D0 : List Int) (c0 : Nat) (i1 : Int) (r1 : Bool) (l1 : Int) (a1 : Option Addr) (D1 : List Int) (c1 : Nat) (w : World) (h0 : Nums a0 D0 w) (h1 : Nums a1 D1 w) :
    Calls Try.prog 19 #[frV i0 r0 l0 a0 D0.length c0, frV i1 r1 l1 a1 D1.length c1] w fun e w' => e = .returned (.bool (sameFr i0 r0 l0 D0 i1 r1 l1 D1)) ∧ Below w.heap.size w w' := by
  have hm := h0.1
  have hm' := h1.1
  unfold maxLen at hm hm'
  go_enter Try.func19, Try.ntmps19
  have fa := Four.made (.int .i64 i0) (.bool r0) (.int .i64 l0) (.slice a0 D0.length c0) 26 (Below.refl w.heap.size w)
  have fb := Four.made (.int .i64 i1) (.bool r1) (.int .i64 l1) (.slice a1 D1.length c1) 26 fa.2
  replace fa := fa.alloc (.cells #[.int .i64 i1, .bool r1, .int .i64 l1, .slice a1 D1.length c1] 26)
  go_upto_region 1 with fail
  generalize hW : (w.alloc (.cells #[.int .i64 i0, .bool r0, .int .i64 l0, .slice a0 D0.length c0] 26)).alloc (.cells #[.int .i64 i1, .bool r1, .int .i64 l1, .slice a1 D1.length c1] 26) = W at fa fb ⊢
  have hga : (w.alloc (.cells #[.int .i64 i0, .bool r0, .int .i64 l0, .slice a0 D0.length c0] 26)).heap.size = w.heap.size + 1 := by simp
  rw [hga] at fb
  clear hga hW
  replace h0 := h0.below fa.2
  replace h1 := h1.below fa.2
  obtain ⟨⟨p0, p1, p2, p3⟩, pb⟩ := fa
  obtain ⟨⟨q0, q1, q2, q3⟩, _⟩ := fb
  generalize w.heap.size + 1 = gb at q0 q1 q2 q3 ⊢
  generalize hga : w.heap.size = ga at p0 p1 p2 p3 ⊢
  go_wp2
  all_goals first
    | (have hq := ‹((D0.length : Int) != (D1.length : Int)) = true›; go_ret; exact ⟨ret_bool (sameFr_no (.inr (.inr (.inr fun e => by rw [e] at hq; simp at hq)))).symm, pb⟩)
    | (go_ret; exact ⟨ret_bool (sameFr_no (by first | exact .inl (by assumption) | exact .inr (.inl (by assumption)) | exact .inr (.inr (.inl (by assumption))))).symm, pb⟩)
    | skip
  rename_i e0 e1 e2 hq _ _
  have HL := Lib.hid (show D0.length = D1.length by simp at hq; omega)
  have HE := Lib.hid (And.intro e0 (And.intro e1 e2))
  have hlen : D0.length = D1.length := HL.out
  subst e0 e1 e2
  clear hq HE
  go_loopw [5] (fun i wr => ∃ k n : Nat, k ≤ D0.length ∧ i = .int .i64 k ∧ wr = W.drewN n ∧ ∀ j, j < k → nth D0 j = nth D1 j) (fun i _ => D0.length - (intOf i).toNat)
  case atStart => exact ⟨0, 0, Nat.zero_le _, rfl, rfl, fun j hj => absurd hj (by omega)⟩
  case round =>
    obtain ⟨k, n, hk, rfl, rfl, hr⟩ := hrel
    by_cases hlt : k < D0.length
    · obtain ⟨bl, o, rfl, hc⟩ := h0.2.2 k hlt
      obtain ⟨bl', o', rfl, hc'⟩ := h1.2.2 k (by omega)
      have hki : (k : Int) < D0.length := by omega
      have hki' : (k : Int) < D1.length := by omega
      generalize hv' : nth D0 k = v at hc
      have hv := Lib.hid hv'
      generalize hu' : nth D1 k = u at hc'
      have hu := Lib.hid hu'
      clear hv' hu' hlen
      by_cases hvu : v = u
      · have hq : (v != u) = false := by simp [hvu]
        go_wp2
        go_quiet (fail)
        go_wp2
        go_roundw
        case rel => exact ⟨k + 1, n + nq, by omega, by go_num, by first | rfl | exact World.drewN_drewN _ _ _, fun j hj => by
          by_cases e : j = k
          · rw [e, hv.out, hu.out, hvu]
          · exact hr j (by omega)⟩
        case measure => simp [intOf]; omega
      · have hq : (v != u) = true := by simp [hvu]
        have HN : Hid (D0 ≠ D1) := ne_nth (j := k) (by rw [hv.out, hu.out]; exact hvu)
        clear hvu
        go_wp2
        go_quiet (fail)
        go_wp2
        go_ret
        exact ⟨ret_bool (sameFr_no (.inr (.inr (.inr HN.out)))).symm, pb.os, pb.tape, pb.output, pb.size, pb.block⟩
    · clear hlen
      go_wp2
      go_ret
      exact ⟨ret_bool (sameFr_yes rfl rfl rfl (ext_nth HL.out fun j hj => hr j (by omega))).symm, pb.os, pb.tape, pb.output, pb.size, pb.block⟩
end Go.Proofs.Ytcciabalbdnakaa
