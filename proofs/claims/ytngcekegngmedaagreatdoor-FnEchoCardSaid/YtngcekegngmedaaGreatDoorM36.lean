/- Contract of the program's SameFrame: at every two frames whose data can be read it answers sameFr of them. -/
import Derived.Test.YtngcekegngmedaaGreatDoorM3

set_option maxRecDepth 20000
namespace Go.Proofs.YtngcekegngmedaaGreatDoor
open Go.RowKit

set_option maxHeartbeats 8000000 in
theorem implSame (i0 : Int) (r0 : Bool) (l0 : Int) (a0 : Option Addr) (D0 : List Int) (c0 : Nat) (i1 : Int) (r1 : Bool) (l1 : Int) (a1 : Option Addr) (D1 : List Int) (c1 : Nat) (w : World) (h0 : Nums a0 D0 w) (h1 : Nums a1 D1 w) :
    Calls Tryz.prog 17 #[frV i0 r0 l0 a0 D0.length c0, frV i1 r1 l1 a1 D1.length c1] w fun e w' => e = .returned (.bool (sameFr i0 r0 l0 D0 i1 r1 l1 D1)) ∧ Below w.heap.size w w' := by
  go_enter Tryz.func17, Tryz.ntmps17
  have fa := Four.made (.int .i64 i0) (.bool r0) (.int .i64 l0) (.slice a0 D0.length c0) 26 (Below.refl w.heap.size w)
  have fb := Four.made (.int .i64 i1) (.bool r1) (.int .i64 l1) (.slice a1 D1.length c1) 26 fa.2
  replace fa := fa.alloc (.cells #[.int .i64 i1, .bool r1, .int .i64 l1, .slice a1 D1.length c1] 26)
  go_wp2_with fail
  generalize hW : (w.alloc (.cells #[.int .i64 i0, .bool r0, .int .i64 l0, .slice a0 D0.length c0] 26)).alloc (.cells #[.int .i64 i1, .bool r1, .int .i64 l1, .slice a1 D1.length c1] 26) = W at fa fb ⊢
  have hga : (w.alloc (.cells #[.int .i64 i0, .bool r0, .int .i64 l0, .slice a0 D0.length c0] 26)).heap.size = w.heap.size + 1 := by simp
  rw [hga] at fb
  clear hga hW
  obtain ⟨⟨p0, p1, p2, p3⟩, pb⟩ := fa
  obtain ⟨⟨q0, q1, q2, q3⟩, _⟩ := fb
  generalize w.heap.size + 1 = gb at q0 q1 q2 q3 ⊢
  generalize hga : w.heap.size = ga at p0 p1 p2 p3 ⊢
  have na := World.new_ne W _ p0
  have nb := World.new_ne W _ q0
  go_cut [5, 6] (fun s5 s6 wx => ∃ g1 g2, s5 = .pointer (some ⟨g1, 0, none⟩) ∧ s6 = .pointer (some ⟨g2, 0, none⟩) ∧ Four g1 (.int .i64 i0) (.bool r0) (.int .i64 l0) (.slice a0 D0.length c0) w wx ∧ Four g2 (.int .i64 i1) (.bool r1) (.int .i64 l1) (.slice a1 D1.length c1) w wx)
  case first =>
    go_region_held3 (fun w' => w'.cell? ⟨ga, 0, none⟩ = some (.int .i64 i0) ∧ w'.cell? ⟨ga, 1, none⟩ = some (.bool r0) ∧ w'.cell? ⟨ga, 2, none⟩ = some (.int .i64 l0) ∧ w'.cell? ⟨ga, 3, none⟩ = some (.slice a0 D0.length c0) ∧
        w'.cell? ⟨gb, 0, none⟩ = some (.int .i64 i1) ∧ w'.cell? ⟨gb, 1, none⟩ = some (.bool r1) ∧ w'.cell? ⟨gb, 2, none⟩ = some (.int .i64 l1) ∧ w'.cell? ⟨gb, 3, none⟩ = some (.slice a1 D1.length c1)) (repeat (first | assumption | exact ⟨p0, p1, p2, p3, q0, q1, q2, q3⟩ | refine keep8d ?_ | refine keep8a ?_ _))
      (first | (go_at_call 87; refine (headedOfX _ _ _ _ _ _ _).mono ?_; rintro e w' ⟨rfl, rfl⟩))
    all_goals
      go_wp2_with fail
      go_meet
      refine ⟨_, _, rfl, rfl, ?_, ?_⟩
    all_goals (repeat first
      | exact pb
      | refine Four.drew ?_
      | (refine Four.made_at _ _ _ _ _ ?hg ?_; case hg => (simp; done))
      | refine Four.alloc ?_ _
      | refine below_more ?_ _)
  case rest =>
    obtain ⟨g1, g2, rfl, rfl, f1, f2⟩ := hcut
    replace h0 := h0.below f1.2
    replace h1 := h1.below f1.2
    obtain ⟨⟨s0, s1, s2, s3⟩, sb⟩ := f1
    obtain ⟨⟨t0, t1, t2, t3⟩, _⟩ := f2
    clear p0 p1 p2 p3 q0 q1 q2 q3 na nb pb
    go_wp2_with (first
      | (go_at_call 88; refine (equalInts _ _ _ _ _ _ _ h0 h1).mono ?_; rintro e w' ⟨rfl, nd, rfl⟩))
    all_goals (go_ret; exact ⟨ret_bool (by simp [sameFr, *]), by first | exact sb | exact ⟨sb.os, sb.tape, sb.output, sb.size, sb.block⟩⟩)
end Go.Proofs.YtngcekegngmedaaGreatDoor
