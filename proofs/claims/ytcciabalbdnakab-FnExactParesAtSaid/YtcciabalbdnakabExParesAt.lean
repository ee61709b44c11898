/- Proved: at every argument the program's ParesAt answers as the model's does (laws.FnExactParesAt answers true at every argument), and the arguments stay as they were. No condition. -/
import Derived.Test.YtcciabalbdnakabPares
import Derived.Test.YtcciabalbdnakabOpenF
import Derived.Test.YtcciabalbdnakabEq
import Derived.Deep.RegionWith
import Derived.Deep.CutRange
import Derived.Test.YtcciabalbdnakabRows
import Derived.WalkKit
import Derived.WalkSpells
import Derived.ProofKit
import Derived.OpenShut
import Derived.ShutString
import Derived.ChangeOld
import Derived.Below
namespace Go.Proofs.Ytcciabalbdnakab.exParesAt
open Go.ChangeShapes Go.WideShapes Go.ChangeAt Go.RowKit
set_option linter.unusedVariables false

theorem own : ownKnob Try.prog.godebug = none := by kernel_rfl
theorem laidOut : laidOutB Try.prog = true := by kernel_rfl

set_option maxHeartbeats 4000000 in
theorem walkFnExactParesAt (i0 : Int) (r0 : Bool) (l0 : Int) (a0 : Option Addr) (D0 : List Int) (c0 : Nat) (i1 : Int) (r1 : Bool) (l1 : Int) (a1 : Option Addr) (D1 : List Int) (c1 : Nat) (w : World) (hd0 : Nums a0 D0 w) (hd1 : Nums a1 D1 w) :
    Calls Try.prog 6 #[frV i0 r0 l0 a0 D0.length c0, frV i1 r1 l1 a1 D1.length c1] w fun e w' => e = .returned (.bool true) ∧ Below w.heap.size w w' := by
  go_enter Try.func6, Try.ntmps6
  have f0 := Four.made (.int .i64 i0) (.bool r0) (.int .i64 l0) (.slice a0 D0.length c0) 35 (Below.refl w.heap.size w)
  have f1 := Four.made (.int .i64 i1) (.bool r1) (.int .i64 l1) (.slice a1 D1.length c1) 35 f0.2
  have hg1 : (w.alloc (.cells #[.int .i64 i0, .bool r0, .int .i64 l0, .slice a0 D0.length c0] 35)).heap.size = w.heap.size + 1 := by simp
  rw [hg1] at f1
  clear hg1
  replace f0 := f0.alloc (.cells #[.int .i64 i1, .bool r1, .int .i64 l1, .slice a1 D1.length c1] 35)
  have m0 := hd0.1
  by_cases g0 : 1048576 < D0.length
  · have _ := m0
    obtain ⟨⟨f0_0, f0_1, f0_2, f0_3⟩, _⟩ := id f0
    have f0_n := World.new_ne _ _ f0_0
    obtain ⟨⟨f1_0, f1_1, f1_2, f1_3⟩, _⟩ := id f1
    have f1_n := World.new_ne _ _ f1_0
    go_wp2_with fail
    clear f0_0 f0_1 f0_2 f0_3 f0_n f1_0 f1_1 f1_2 f1_3 f1_n
    refine (szFrameBig _ _ _ _ _ _ _ m0 g0).mono ?_
    rintro e w' ⟨rfl, bb⟩
    have ee : Below w.heap.size w w' := (by first | exact bb | exact below_from bb | exact below_from (below_from bb))
    replace f0 := f0.below bb
    replace f1 := f1.below bb
    obtain ⟨⟨f0_0, f0_1, f0_2, f0_3⟩, _⟩ := id f0
    have f0_n := World.new_ne _ _ f0_0
    obtain ⟨⟨f1_0, f1_1, f1_2, f1_3⟩, _⟩ := id f1
    have f1_n := World.new_ne _ _ f1_0
    go_wp2_with fail
    clear f0_0 f0_1 f0_2 f0_3 f0_n f1_0 f1_1 f1_2 f1_3 f1_n
    go_ret
    exact ⟨rfl, ee⟩
  obtain ⟨⟨f0_0, f0_1, f0_2, f0_3⟩, _⟩ := id f0
  have f0_n := World.new_ne _ _ f0_0
  obtain ⟨⟨f1_0, f1_1, f1_2, f1_3⟩, _⟩ := id f1
  have f1_n := World.new_ne _ _ f1_0
  go_wp2_with fail
  clear f0_0 f0_1 f0_2 f0_3 f0_n f1_0 f1_1 f1_2 f1_3 f1_n
  refine (szFrameOk _ _ _ _ _ _ _ _ (by omega) (by omega)).mono ?_
  rintro e w1 ⟨rfl, bb⟩
  have ee : Below w.heap.size w w1 := (by first | exact bb | exact below_from bb | exact below_from (below_from bb))
  replace hd0 := hd0.below ee
  replace hd1 := hd1.below ee
  replace f0 := f0.below bb
  replace f1 := f1.below bb
  have b1 := ee
  clear ee bb
  have m1 := hd1.1
  by_cases g1 : 1048576 < D0.length + D1.length
  · have _ := m1
    obtain ⟨⟨f0_0, f0_1, f0_2, f0_3⟩, _⟩ := id f0
    have f0_n := World.new_ne _ _ f0_0
    obtain ⟨⟨f1_0, f1_1, f1_2, f1_3⟩, _⟩ := id f1
    have f1_n := World.new_ne _ _ f1_0
    go_wp2_with fail
    clear f0_0 f0_1 f0_2 f0_3 f0_n f1_0 f1_1 f1_2 f1_3 f1_n
    refine (szFrameOver _ _ _ _ _ _ (1048576 - (D0.length : Int)) _ m1 (by omega) (by omega) (by omega)).mono ?_
    rintro e w' ⟨rfl, bb⟩
    have ee : Below w1.heap.size w1 w' := (by first | exact bb | exact below_from bb | exact below_from (below_from bb))
    replace f0 := f0.below ee
    replace f1 := f1.below ee
    obtain ⟨⟨f0_0, f0_1, f0_2, f0_3⟩, _⟩ := id f0
    have f0_n := World.new_ne _ _ f0_0
    obtain ⟨⟨f1_0, f1_1, f1_2, f1_3⟩, _⟩ := id f1
    have f1_n := World.new_ne _ _ f1_0
    go_wp2_with fail
    clear f0_0 f0_1 f0_2 f0_3 f0_n f1_0 f1_1 f1_2 f1_3 f1_n
    go_ret
    exact ⟨rfl, Below.then2 b1 ee⟩
  obtain ⟨⟨f0_0, f0_1, f0_2, f0_3⟩, _⟩ := id f0
  have f0_n := World.new_ne _ _ f0_0
  obtain ⟨⟨f1_0, f1_1, f1_2, f1_3⟩, _⟩ := id f1
  have f1_n := World.new_ne _ _ f1_0
  go_wp2_with fail
  clear f0_0 f0_1 f0_2 f0_3 f0_n f1_0 f1_1 f1_2 f1_3 f1_n
  refine (szFrameOk _ _ _ _ _ _ _ _ (by omega) (by omega)).mono ?_
  rintro e w2 ⟨rfl, bb⟩
  have ee : Below w1.heap.size w1 w2 := (by first | exact bb | exact below_from bb | exact below_from (below_from bb))
  replace hd0 := hd0.below ee
  replace hd1 := hd1.below ee
  replace f0 := f0.below ee
  replace f1 := f1.below ee
  replace b1 := Below.then2 b1 ee
  clear ee bb
  obtain ⟨⟨f0_0, f0_1, f0_2, f0_3⟩, _⟩ := id f0
  obtain ⟨⟨f1_0, f1_1, f1_2, f1_3⟩, _⟩ := id f1
  go_wp2_with fail
  go_region_held3 (fun w' => w'.cell? ⟨w.heap.size, 0, none⟩ = some (.int .i64 i0) ∧ w'.cell? ⟨w.heap.size, 1, none⟩ = some (.bool r0) ∧ w'.cell? ⟨w.heap.size, 2, none⟩ = some (.int .i64 l0) ∧ w'.cell? ⟨w.heap.size, 3, none⟩ = some (.slice a0 D0.length c0) ∧ w'.cell? ⟨(w.heap.size + 1), 0, none⟩ = some (.int .i64 i1) ∧ w'.cell? ⟨(w.heap.size + 1), 1, none⟩ = some (.bool r1) ∧ w'.cell? ⟨(w.heap.size + 1), 2, none⟩ = some (.int .i64 l1) ∧ w'.cell? ⟨(w.heap.size + 1), 3, none⟩ = some (.slice a1 D1.length c1)) (first | assumption | exact ⟨f0_0, f0_1, f0_2, f0_3, f1_0, f1_1, f1_2, f1_3⟩ | exact keep8b (by assumption) bc | exact keep8b (by assumption) bb | exact keep8b (by assumption) ba)
    (first | (go_at_call_of 22 (Value.slice a0 D0.length c0); refine (toFr i0 r0 l0 a0 D0 c0 _ hd0.drew (by omega)).mono ?_; rintro e wba ⟨pu0, rfl, u0, ba⟩; have hda := hd1.drew.below ba)
           | (go_at_call_of 22 (Value.slice a1 D1.length c1); refine (toFr i1 r1 l1 a1 D1 c1 _ hda (by omega)).mono ?_; rintro e wbb ⟨pu1, rfl, u1, bb⟩; have u0b := u0.below bb)
           | (go_at_call 16; refine (specParesAt _ _ _ _ _ _ _ _ _ _ _ _ _ u0b u1).mono ?_; rintro e wbc ⟨rfl, bc⟩))
  clear f0_0 f0_1 f0_2 f0_3 f1_0 f1_1 f1_2 f1_3
  have ee := Below.then2 (Below.then2 (below_of_drew ba) bb) bc
  replace hd0 := hd0.below ee
  replace hd1 := hd1.below ee
  replace f0 := f0.below ee
  replace f1 := f1.below ee
  replace b1 := Below.then2 b1 ee
  clear ee ba bb bc hda u0 u1 u0b
  obtain ⟨⟨f0_0, f0_1, f0_2, f0_3⟩, _⟩ := id f0
  have f0_n := World.new_ne _ _ f0_0
  obtain ⟨⟨f1_0, f1_1, f1_2, f1_3⟩, _⟩ := id f1
  have f1_n := World.new_ne _ _ f1_0
  go_wp2_with fail
  clear f0_0 f0_1 f0_2 f0_3 f0_n f1_0 f1_1 f1_2 f1_3 f1_n
  refine (toFr _ _ _ _ _ _ _ (by first | exact hd0 | exact hd0.alloc _ | exact (hd0.alloc _).alloc _) (by omega)).mono ?_
  rintro e w3 ⟨px0, rfl, x0, bb⟩
  have ee : Below wbc.heap.size wbc w3 := (by first | exact bb | exact below_from bb | exact below_from (below_from bb))
  replace hd0 := hd0.below ee
  replace hd1 := hd1.below ee
  replace f0 := f0.below ee
  replace f1 := f1.below ee
  replace b1 := Below.then2 b1 ee
  clear ee bb
  have fx0 := Four.made (.int .i64 i0) (.bool r0) (.int .i64 l0) (.slice px0 D0.length D0.length) 26 b1
  replace hd0 := hd0.alloc (.cells #[.int .i64 i0, .bool r0, .int .i64 l0, .slice px0 D0.length D0.length] 26)
  replace hd1 := hd1.alloc (.cells #[.int .i64 i0, .bool r0, .int .i64 l0, .slice px0 D0.length D0.length] 26)
  replace x0 := x0.alloc (.cells #[.int .i64 i0, .bool r0, .int .i64 l0, .slice px0 D0.length D0.length] 26)
  replace f0 := f0.alloc (.cells #[.int .i64 i0, .bool r0, .int .i64 l0, .slice px0 D0.length D0.length] 26)
  replace f1 := f1.alloc (.cells #[.int .i64 i0, .bool r0, .int .i64 l0, .slice px0 D0.length D0.length] 26)
  replace b1 := below_more b1 (.cells #[.int .i64 i0, .bool r0, .int .i64 l0, .slice px0 D0.length D0.length] 26)
  go_upto_region 10 with fail
  generalize w3.alloc (.cells #[.int .i64 i0, .bool r0, .int .i64 l0, .slice px0 D0.length D0.length] 26) = v0 at hd0 hd1 x0 f0 f1 fx0 b1 ⊢
  obtain ⟨⟨f0_0, f0_1, f0_2, f0_3⟩, _⟩ := id f0
  have f0_n := World.new_ne _ _ f0_0
  obtain ⟨⟨f1_0, f1_1, f1_2, f1_3⟩, _⟩ := id f1
  have f1_n := World.new_ne _ _ f1_0
  obtain ⟨⟨fx0_0, fx0_1, fx0_2, fx0_3⟩, _⟩ := id fx0
  have fx0_n := World.new_ne _ _ fx0_0
  go_wp2_with fail
  clear f0_0 f0_1 f0_2 f0_3 f0_n f1_0 f1_1 f1_2 f1_3 f1_n fx0_0 fx0_1 fx0_2 fx0_3 fx0_n
  refine (toFr _ _ _ _ _ _ _ (by first | exact hd1 | exact hd1.alloc _ | exact (hd1.alloc _).alloc _) (by omega)).mono ?_
  rintro e w4 ⟨px1, rfl, x1, bb⟩
  have ee : Below v0.heap.size v0 w4 := (by first | exact bb | exact below_from bb | exact below_from (below_from bb))
  replace hd0 := hd0.below ee
  replace hd1 := hd1.below ee
  replace x0 := x0.below ee
  replace f0 := f0.below ee
  replace f1 := f1.below ee
  replace fx0 := fx0.below ee
  replace b1 := Below.then2 b1 ee
  clear ee bb
  have fx1 := Four.made (.int .i64 i1) (.bool r1) (.int .i64 l1) (.slice px1 D1.length D1.length) 26 b1
  replace hd0 := hd0.alloc (.cells #[.int .i64 i1, .bool r1, .int .i64 l1, .slice px1 D1.length D1.length] 26)
  replace hd1 := hd1.alloc (.cells #[.int .i64 i1, .bool r1, .int .i64 l1, .slice px1 D1.length D1.length] 26)
  replace x0 := x0.alloc (.cells #[.int .i64 i1, .bool r1, .int .i64 l1, .slice px1 D1.length D1.length] 26)
  replace x1 := x1.alloc (.cells #[.int .i64 i1, .bool r1, .int .i64 l1, .slice px1 D1.length D1.length] 26)
  replace f0 := f0.alloc (.cells #[.int .i64 i1, .bool r1, .int .i64 l1, .slice px1 D1.length D1.length] 26)
  replace f1 := f1.alloc (.cells #[.int .i64 i1, .bool r1, .int .i64 l1, .slice px1 D1.length D1.length] 26)
  replace fx0 := fx0.alloc (.cells #[.int .i64 i1, .bool r1, .int .i64 l1, .slice px1 D1.length D1.length] 26)
  replace b1 := below_more b1 (.cells #[.int .i64 i1, .bool r1, .int .i64 l1, .slice px1 D1.length D1.length] 26)
  go_upto_region 11 with fail
  generalize w4.alloc (.cells #[.int .i64 i1, .bool r1, .int .i64 l1, .slice px1 D1.length D1.length] 26) = v1 at hd0 hd1 x0 x1 f0 f1 fx0 fx1 b1 ⊢
  obtain ⟨⟨f0_0, f0_1, f0_2, f0_3⟩, _⟩ := id f0
  have f0_n := World.new_ne _ _ f0_0
  obtain ⟨⟨f1_0, f1_1, f1_2, f1_3⟩, _⟩ := id f1
  have f1_n := World.new_ne _ _ f1_0
  obtain ⟨⟨fx0_0, fx0_1, fx0_2, fx0_3⟩, _⟩ := id fx0
  have fx0_n := World.new_ne _ _ fx0_0
  obtain ⟨⟨fx1_0, fx1_1, fx1_2, fx1_3⟩, _⟩ := id fx1
  have fx1_n := World.new_ne _ _ fx1_0
  go_wp2_with fail
  clear f0_0 f0_1 f0_2 f0_3 f0_n f1_0 f1_1 f1_2 f1_3 f1_n fx0_0 fx0_1 fx0_2 fx0_3 fx0_n fx1_0 fx1_1 fx1_2 fx1_3 fx1_n
  refine (implParesAt _ _ _ _ _ _ _ _ _ _ _ _ _ (by first | exact x0 | exact x0.alloc _ | exact (x0.alloc _).alloc _) (by first | exact x1 | exact x1.alloc _ | exact (x1.alloc _).alloc _)).mono ?_
  rintro e w5 ⟨rfl, bb⟩
  have ee : Below v1.heap.size v1 w5 := (by first | exact bb | exact below_from bb | exact below_from (below_from bb))
  replace hd0 := hd0.below ee
  replace hd1 := hd1.below ee
  replace x0 := x0.below ee
  replace x1 := x1.below ee
  replace f0 := f0.below ee
  replace f1 := f1.below ee
  replace fx0 := fx0.below ee
  replace fx1 := fx1.below ee
  replace b1 := Below.then2 b1 ee
  clear ee bb
  obtain ⟨⟨f0_0, f0_1, f0_2, f0_3⟩, _⟩ := id f0
  obtain ⟨⟨f1_0, f1_1, f1_2, f1_3⟩, _⟩ := id f1
  obtain ⟨⟨fx0_0, fx0_1, fx0_2, fx0_3⟩, _⟩ := id fx0
  obtain ⟨⟨fx1_0, fx1_1, fx1_2, fx1_3⟩, _⟩ := id fx1
  go_wp2_with fail
  go_region_held3 (fun w' => w'.cell? ⟨w3.heap.size, 0, none⟩ = some (.int .i64 i0) ∧ w'.cell? ⟨w3.heap.size, 1, none⟩ = some (.bool r0) ∧ w'.cell? ⟨w3.heap.size, 2, none⟩ = some (.int .i64 l0) ∧ w'.cell? ⟨w3.heap.size, 3, none⟩ = some (.slice px0 D0.length D0.length) ∧ w'.cell? ⟨w.heap.size, 0, none⟩ = some (.int .i64 i0) ∧ w'.cell? ⟨w.heap.size, 1, none⟩ = some (.bool r0) ∧ w'.cell? ⟨w.heap.size, 2, none⟩ = some (.int .i64 l0) ∧ w'.cell? ⟨w.heap.size, 3, none⟩ = some (.slice a0 D0.length c0)) (first | assumption | exact ⟨fx0_0, fx0_1, fx0_2, fx0_3, f0_0, f0_1, f0_2, f0_3⟩ | exact keep8b (by assumption) be0 | exact keep8b (by assumption) bd0)
    (first | (go_at_call_of 22 (Value.slice a0 D0.length c0); refine (toFr i0 r0 l0 a0 D0 c0 _ hd0.drew (by omega)).mono ?_; rintro e wbd0 ⟨py0, rfl, uy0, bd0⟩; have xx0 := x0.drew.below bd0)
           | (go_at_call 23; refine (eqFr _ _ _ _ _ _ _ _ _ xx0 uy0).mono ?_; rintro e wbe0 ⟨rfl, be0⟩))
  clear f0_0 f0_1 f0_2 f0_3 f1_0 f1_1 f1_2 f1_3 fx0_0 fx0_1 fx0_2 fx0_3 fx1_0 fx1_1 fx1_2 fx1_3
  have ee := Below.then2 (below_of_drew bd0) be0
  replace hd0 := hd0.below ee
  replace hd1 := hd1.below ee
  replace x0 := x0.below ee
  replace x1 := x1.below ee
  replace f0 := f0.below ee
  replace f1 := f1.below ee
  replace fx0 := fx0.below ee
  replace fx1 := fx1.below ee
  replace b1 := Below.then2 b1 ee
  clear ee bd0 be0 xx0 uy0
  obtain ⟨⟨f0_0, f0_1, f0_2, f0_3⟩, _⟩ := id f0
  obtain ⟨⟨f1_0, f1_1, f1_2, f1_3⟩, _⟩ := id f1
  obtain ⟨⟨fx0_0, fx0_1, fx0_2, fx0_3⟩, _⟩ := id fx0
  obtain ⟨⟨fx1_0, fx1_1, fx1_2, fx1_3⟩, _⟩ := id fx1
  go_wp2_with fail
  go_region_held3 (fun w' => w'.cell? ⟨w4.heap.size, 0, none⟩ = some (.int .i64 i1) ∧ w'.cell? ⟨w4.heap.size, 1, none⟩ = some (.bool r1) ∧ w'.cell? ⟨w4.heap.size, 2, none⟩ = some (.int .i64 l1) ∧ w'.cell? ⟨w4.heap.size, 3, none⟩ = some (.slice px1 D1.length D1.length) ∧ w'.cell? ⟨(w.heap.size + 1), 0, none⟩ = some (.int .i64 i1) ∧ w'.cell? ⟨(w.heap.size + 1), 1, none⟩ = some (.bool r1) ∧ w'.cell? ⟨(w.heap.size + 1), 2, none⟩ = some (.int .i64 l1) ∧ w'.cell? ⟨(w.heap.size + 1), 3, none⟩ = some (.slice a1 D1.length c1)) (first | assumption | exact ⟨fx1_0, fx1_1, fx1_2, fx1_3, f1_0, f1_1, f1_2, f1_3⟩ | exact keep8b (by assumption) be1 | exact keep8b (by assumption) bd1)
    (first | (go_at_call_of 22 (Value.slice a1 D1.length c1); refine (toFr i1 r1 l1 a1 D1 c1 _ hd1.drew (by omega)).mono ?_; rintro e wbd1 ⟨py1, rfl, uy1, bd1⟩; have xx1 := x1.drew.below bd1)
           | (go_at_call 23; refine (eqFr _ _ _ _ _ _ _ _ _ xx1 uy1).mono ?_; rintro e wbe1 ⟨rfl, be1⟩))
  clear f0_0 f0_1 f0_2 f0_3 f1_0 f1_1 f1_2 f1_3 fx0_0 fx0_1 fx0_2 fx0_3 fx1_0 fx1_1 fx1_2 fx1_3
  have ee := Below.then2 (below_of_drew bd1) be1
  replace hd0 := hd0.below ee
  replace hd1 := hd1.below ee
  replace x0 := x0.below ee
  replace x1 := x1.below ee
  replace f0 := f0.below ee
  replace f1 := f1.below ee
  replace fx0 := fx0.below ee
  replace fx1 := fx1.below ee
  replace b1 := Below.then2 b1 ee
  clear ee bd1 be1 xx1 uy1
  go_wp2_with fail
  go_ret
  exact ⟨rfl, b1⟩

/-! ### The row's step of FnExactParesAt. -/
set_option maxRecDepth 100000 in
theorem liftedFnExactParesAt (os : Os) (started : os.Started) (H : Type) (enc : TypeId × Value → H) :
    ReturnsInHanded {} Try.checked os 6 .any (Rows.fnExactParesAtSpec.pre6 enc Try.prog Try.f6 Rows.fnExactParesAtRow.domain false) (Rows.fnExactParesAtSpec.post enc Try.prog Try.f6 false true false false) := by
  refine returnsInHanded_of_change (C := Try.checked) own started (by kernel_rfl) Try.func6
    (ChangeSpec.witness6 (enc := enc) (C := Try.checked) false ⟨#[], #[.agg #[.int .i64 0, .bool false, .int .i64 0, .slice none 0 0], .agg #[.int .i64 0, .bool false, .int .i64 0, .slice none 0 0]], []⟩ 8 (by kernel_rfl) (by kernel_rfl) (by kernel_rfl) (by kernel_rfl)) ?_
  intro W base args ds gs before hval0 hW hcnd _
  have hval : ∀ (j : Nat) t v, Try.f6.params[j]? = some t → args[j]? = some v → Value.okWide Try.prog W .any base t v := hval0
  have hW' := hW
  obtain ⟨p, q, hA0, hV, rfl, hfz, hnd⟩ := hW
  have hA : DataW.TrodAll enc Try.prog W 0 (fun _ => true) true Try.f6.params.toList args.toList ds p := hA0
  rw [Try.params6] at hA hval
  obtain ⟨v0, vs0, d0, ds0, p0, q0, hargs, rfl, rfl, h0, r0⟩ := trodAll_cons hA
  obtain ⟨v1, vs1, d1, ds1, p1, q1, rfl, rfl, rfl, h1, r1⟩ := trodAll_cons r0
  obtain ⟨rfl, rfl, rfl⟩ := trodAll_nil r1
  obtain rfl : args = #[v0, v1] := by cases args; simp_all
  obtain ⟨rfl, rfl⟩ := trodVars_none hV
  have k0 := h0
  have lt0 : ∀ x ∈ p0, x.block < W.heap.size := by obtain ⟨m, hm⟩ := k0; exact DataW.trod_lt m _ _ _ hm
  obtain ⟨i0, r0, l0, a0, D0, c0, rfl, n0, -, -⟩ := frame_open (hval 0 35 v0 rfl rfl) h0
  have k1 := h1
  have lt1 : ∀ x ∈ p1, x.block < W.heap.size := by obtain ⟨m, hm⟩ := k1; exact DataW.trod_lt m _ _ _ hm
  obtain ⟨i1, r1, l1, a1, D1, c1, rfl, n1, -, -⟩ := frame_open (hval 1 35 v1 rfl rfl) h1
  clear hA0 hval0
  refine (walkFnExactParesAt _ _ _ _ _ _ _ _ _ _ _ _ W n0 n1).mono fun e W' ⟨he, bel⟩ => ?_
  subst he
  exact ⟨_, rfl, _, _, _, [], _, [], hW', trodAll_mk1 (shut_bool Try.underlying4 _), (trodAll_cons_mk (Below.trod laidOut (by kernel_rfl) (of_decide_eq_true (by kernel_rfl)) k0 bel lt0) (trodAll_cons_mk (Below.trod laidOut (by kernel_rfl) (of_decide_eq_true (by kernel_rfl)) k1 bel lt1) trodAll_mk0)), rfl, bel.frame _, fun h => by cases h⟩

theorem fnExactParesAt_holds : Rows.FnExactParesAtSaid :=
  OpenClaim.holds_of_wide 6 Try.f6 rfl rfl rfl rfl rfl rfl rfl ⟨rfl, rfl, rfl, rfl, rfl⟩ rfl rfl rfl rfl rfl (by kernel_rfl) Try.func6 (by kernel_rfl)
    (of_decide_eq_true (by kernel_rfl)) (by unfold Func.isWrapper; first | (rw [if_pos (by decide +kernel)]; kernel_rfl) | (rw [if_neg (by decide +kernel)]; exact ⟨rfl, rfl⟩))
    (fun os started H enc _ => liftedFnExactParesAt os started H enc)
#print axioms fnExactParesAt_holds
end Go.Proofs.Ytcciabalbdnakab.exParesAt
