/- The exact laws' own small functions over frames: szFrame, toFrame, eqFrame. -/
import Derived.Test.YthhhhfpgmolcmabLift
namespace Go.Proofs.Ythhhhfpgmolcmab
open Go.RowKit

theorem below_drewn4 {B : Nat} {a w : World} (h : Below B a w) (n : Nat) : Below B a (w.drewN n) := ⟨h.os, h.tape, h.output, h.size, h.block⟩

theorem Nums.made_at {a : Option Addr} {D : List Int} {w : World} (hd : Nums a D w) {g : Nat} (w1 : World) (T : TypeId) (hg : g = w1.heap.size) :
    Nums (some ⟨g, 0, none⟩) D (w1.alloc (.cells (irow D.length fun j => nth D j) T)) := by
  subst hg; exact hd.made w1 T
/-- laws.szFrame. -/
theorem szFrameBig (id : Int) (rm : Bool) (ln : Int) (a : Option Addr) (n c : Nat) (w : World) (hn : n ≤ maxLen) (h : 1048576 < n) :
    Calls Try.prog 15 #[frV id rm ln a n c, .int .i64 1048576] w fun e w' => e = .returned (.int .i64 (-1)) ∧ Below w.heap.size w w' := by
  go_enter Try.func15, Try.ntmps15
  go_wp2_with fail
  refine (szIntsBig _ _ _ _ hn h).mono ?_
  rintro e w' ⟨rfl, rfl⟩
  go_wp2
  go_ret
  exact ⟨rfl, (Below.refl _ _).alloc (Nat.le_refl _) _⟩
theorem szFrameOver (id : Int) (rm : Bool) (ln : Int) (a : Option Addr) (n c : Nat) (left : Int) (w : World) (hn : n ≤ maxLen) (h : left < n) (h0 : 0 ≤ left) (hl : left ≤ 1048576) :
    Calls Try.prog 15 #[frV id rm ln a n c, .int .i64 left] w fun e w' => e = .returned (.int .i64 (-1)) ∧ Below w.heap.size w w' := by
  go_enter Try.func15, Try.ntmps15
  go_wp2_with fail
  refine (szIntsOver _ _ _ _ _ hn h h0 hl).mono ?_
  rintro e w' ⟨rfl, rfl⟩
  go_wp2
  go_ret
  exact ⟨rfl, (Below.refl _ _).alloc (Nat.le_refl _) _⟩
theorem szFrameOk (id : Int) (rm : Bool) (ln : Int) (a : Option Addr) (n c : Nat) (left : Int) (w : World) (h : (n : Int) ≤ left) (hl : left ≤ 1048576) :
    Calls Try.prog 15 #[frV id rm ln a n c, .int .i64 left] w fun e w' => e = .returned (.int .i64 (left - n)) ∧ Below w.heap.size w w' := by
  go_enter Try.func15, Try.ntmps15
  go_wp2_with fail
  refine (szIntsOk _ _ _ _ _ h hl).mono ?_
  rintro e w' ⟨rfl, rfl⟩
  go_wp2
  go_ret
  exact ⟨rfl, (Below.refl _ _).alloc (Nat.le_refl _) _⟩

/-- laws.toFrame. -/
theorem toFr (id : Int) (rm : Bool) (ln : Int) (a : Option Addr) (D : List Int) (c : Nat) (w : World) (hd : Nums a D w) (h : D.length ≤ 1048576) :
    Calls Try.prog 16 #[frV id rm ln a D.length c] w fun e w' =>
      ∃ a', e = .returned (frV id rm ln a' D.length D.length) ∧ Nums a' D w' ∧ Below w.heap.size w w' := by
  go_enter Try.func16, Try.ntmps16
  go_wp2_with fail
  refine (toInts _ _ _ _ (hd.below ?_) h).mono ?_
  · exact (((Below.refl _ _).alloc (Nat.le_refl _) _).alloc (by simp) _).alloc (by simp; omega) _
  rintro e w' ⟨rfl, rfl⟩
  go_wp2
  refine bodyPost_ret (v := frV id rm ln (some ⟨w.heap.size + 1 + 1 + 1, 0, none⟩) D.length D.length) (by simp [results, Try.results16, go_sem]) rfl ⟨_, rfl, hd.made_at _ _ (by simp), ?_⟩
  exact ((((Below.refl _ _).alloc (Nat.le_refl _) _).alloc (by simp) _).alloc (by simp; omega) _).alloc (by simp; omega) _

/-- laws.eqFrame, of two frames that hold the same. -/
theorem eqFr (id : Int) (rm : Bool) (ln : Int) (a b : Option Addr) (D : List Int) (c c' : Nat) (w : World) (ha : Nums a D w) (hb : Nums b D w) :
    Calls Try.prog 17 #[frV id rm ln a D.length c, frV id rm ln b D.length c'] w fun e w' => e = .returned (.bool true) ∧ Below w.heap.size w w' := by
  go_enter Try.func17, Try.ntmps17
  go_wp2_with fail
  have hB : Below w.heap.size w ((w.alloc (.cells #[.int .i64 id, .bool rm, .int .i64 ln, .slice a D.length c] 26)).alloc (.cells #[.int .i64 id, .bool rm, .int .i64 ln, .slice b D.length c'] 26)) :=
    ((Below.refl _ _).alloc (Nat.le_refl _) _).alloc (by simp) _
  refine (eqInts _ _ _ _ _ _ (ha.below hB) (hb.below hB)).mono ?_
  rintro e w' ⟨rfl, n, rfl⟩
  go_wp2
  go_ret
  exact ⟨rfl, below_drewn4 hB n⟩
end Go.Proofs.Ythhhhfpgmolcmab
