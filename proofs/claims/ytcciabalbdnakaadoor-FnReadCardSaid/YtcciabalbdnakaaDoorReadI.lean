/- Contract of ReadFrame, of the program. -/
import Derived.Test.YtcciabalbdnakaaDoorFrameI
import Derived.Test.YtcciabalbdnakaaDoorAs
import Derived.RegionTactic
import Derived.ChangeAlike
import Derived.BigRegion
set_option linter.unusedVariables false
set_option linter.unusedSimpArgs false
set_option maxRecDepth 20000
namespace Go.Proofs.YtcciabalbdnakaaDoor
open Go.RowKit

/-- What errors.As looks at is held. -/
def ErrHeld (w : World) : Prop := w.cell? ⟨0, 0, none⟩ = some (.iface 101 (.agg #[.pointer (some ⟨1, 47, none⟩)]))
theorem ErrHeld.below {w w' : World} (h : ErrHeld w) (b : Below w.heap.size w w') : ErrHeld w' := (b.cell (World.block_lt_of_cell? w _ h)).trans h
theorem ErrHeld.alloc {w : World} (h : ErrHeld w) (o : Obj) : ErrHeld (w.alloc o) := h.below ((Below.refl _ _).alloc (Nat.le_refl _) _)
theorem ErrHeld.drew {w : World} (h : ErrHeld w) : ErrHeld w.drew := h

set_option maxHeartbeats 4000000 in
/-- impl.ReadFrame. -/
theorem implRead (s : ByteArray) (w : World) (hs : s.size ≤ maxLen) (hg : ErrHeld w) :
    Calls Tryd.prog 9 #[.string s] w (ReadR s w) := by
  go_enter Tryd.func9, Tryd.ntmps9
  go_wp2_with fail
  refine (implFrameIn _ _ hs).mono ?_
  rintro e w1 ⟨v, x, rfl, HO, b1, h⟩
  replace hg := (hg.alloc _).below b1
  have R : Bx w.heap.size (.int .i64 0) (.bool false) (.int .i64 0) (.slice none 0 0) w1 := (b1.block w.heap.size (by simp)).trans (Bx.made w _ _ _ _)
  replace HO : OwnI w.heap.size (rdD s) v w1 := HO.mono (by simp)
  replace b1 : Below w.heap.size w w1 := below_from b1
  have hlt := R.lt
  generalize hgr : w.heap.size = r at R hlt ⊢
  obtain ⟨av, cv, rfl, -⟩ := HO.nums
  generalize (rdD s).length = nd at HO
  go_upto_region 2 with fail
  generalize hid : rdId s = id
  generalize hrm : rdRm s = rm
  generalize hln : rdLn s = ln
  have HID := Lib.hid hid
  have HRM := Lib.hid hrm
  have HLN := Lib.hid hln
  clear hid hrm hln
  have ka : Below w1.heap.size w1 (w1.alloc (.cells #[.int .i64 id, .bool rm, .int .i64 ln, .slice av nd cv] 26)) := (Below.refl _ _).alloc (Nat.le_refl _) _
  have B := Bx.made w1 (.int .i64 id) (.bool rm) (.int .i64 ln) (.slice av nd cv)
  replace R : Bx r _ _ _ _ _ := (ka.block r hlt).trans R
  replace HO := HO.kept (grown_of_below ka) (Classical.em _)
  replace hg := hg.below ka
  have hrf : r ≠ w1.heap.size := by omega
  have hfl := b1.size
  replace b1 := b1.trans (ka.mono b1.size)
  clear ka hlt
  generalize w1.alloc (.cells #[.int .i64 id, .bool rm, .int .i64 ln, .slice av nd cv] 26) = W at *
  generalize w1.heap.size = f at *
  clear w1
  go_upto_region 3 with fail
  have kb : Below W.heap.size W (W.alloc (.cells #[.int .i64 0] 58)) := (Below.refl _ _).alloc (Nat.le_refl _) _
  have ht0 : (W.alloc (.cells #[.int .i64 0] 58)).cell? ⟨W.heap.size, 0, none⟩ = some (.int .i64 0) := by rw [World.cell?_alloc_at _ _ _ _ rfl]; rfl
  have hf0 : (W.alloc (.cells #[.int .i64 0] 58)).frozen? ⟨W.heap.size, 0, none⟩ = false := by simp
  have hrt : r ≠ W.heap.size := by have := R.lt; omega
  have hft : f ≠ W.heap.size := by have := B.lt; omega
  replace R : Bx r _ _ _ _ _ := (kb.block r R.lt).trans R
  replace B : Bx f _ _ _ _ _ := (kb.block f B.lt).trans B
  replace HO := HO.kept (grown_of_below kb) (Classical.em _)
  replace hg := hg.below kb
  have htl := b1.size
  replace b1 := b1.trans (kb.mono b1.size)
  clear kb
  generalize W.alloc (.cells #[.int .i64 0] 58) = W1 at *
  generalize W.heap.size = t at *
  clear W
  rcases h with ⟨HC, rfl⟩ | ⟨HC, rfl⟩
  · have HCC := Lib.hid HC
    clear HC
    go_wp2_with fail
    refine (as_nil _ _).mono ?_
    rintro e w2 ⟨rfl, rfl⟩
    have x0 := B.c0
    have x1 := B.c1
    have x2 := B.c2
    have x3 := B.c3
    have c0 := R.c0
    have c1 := R.c1
    have c2 := R.c2
    have c3 := R.c3
    have q0 := R.free 0
    have q1 := R.free 1
    have q2 := R.free 2
    have q3 := R.free 3
    go_wp2_with fail
    have HB2 := R.set (z0 := .int .i64 id) (z1 := .bool rm) (z2 := .int .i64 ln) (z3 := .slice av nd cv)
    have HL2 := Below.set4 b1 (Nat.le_of_eq hgr) (.int .i64 id) (.bool rm) (.int .i64 ln) (.slice av nd cv)
    have HO2 := HO.kept (grown_trans (grown_trans (grown_trans (grown_set W1 r 0 (.int .i64 id)) (grown_set _ r 1 (.bool rm))) (grown_set _ r 2 (.int .i64 ln))) (grown_set _ r 3 (.slice av nd cv))) (.inr (HO.ne_box R))
    generalize (((W1.setCell ⟨r, 0, none⟩ (.int .i64 id)).setCell ⟨r, 1, none⟩ (.bool rm)).setCell ⟨r, 2, none⟩ (.int .i64 ln)).setCell ⟨r, 3, none⟩ (.slice av nd cv) = Wx at HB2 HL2 HO2 ⊢
    have z0 := HB2.c0
    have z1 := HB2.c1
    have z2 := HB2.c2
    have z3 := HB2.c3
    refine bodyPost_ret (v := .tuple #[.agg #[.int .i64 id, .bool rm, .int .i64 ln, .slice av nd cv], .int .i64 0]) (by simp [results, Tryd.results9, go_sem, z0, z1, z2, z3]) rfl ⟨_, ?_, HO2, HL2⟩
    rw [HID.out, HRM.out, HLN.out, HCC.out]
  · have HCC := Lib.hid HC
    have HZ := rd_not HC
    generalize hk : rdCode s = k
    have HK := Lib.hid hk
    clear HC hk
    go_wp2_with fail
    refine (as_hit k ⟨t, 0, none⟩ (.int .i64 0) _ hg ht0 hf0).mono ?_
    rintro e w2 ⟨rfl, W2, k2, rfl⟩
    have ht2 : W2.cell? ⟨t, 0, none⟩ = some (.int .i64 0) := (k2.cell (World.block_lt_of_cell? W1 _ ht0)).trans ht0
    replace R : Bx r _ _ _ _ (W2.setCell ⟨t, 0, none⟩ (.int .i64 k)) := (Below.heap_setCell W2 ⟨t, 0, none⟩ _ r hrt).trans ((k2.block r R.lt).trans R)
    have ht3 : (W2.setCell ⟨t, 0, none⟩ (.int .i64 k)).cell? ⟨t, 0, none⟩ = some (.int .i64 k) := World.cell?_setCell_same W2 _ _ ht2
    replace b1 := (b1.trans (k2.mono b1.size)).setCell (p := ⟨t, 0, none⟩) htl (.int .i64 k)
    clear HO B hg ht0 hf0 ht2 k2
    generalize W2.setCell ⟨t, 0, none⟩ (.int .i64 k) = W3 at *
    have c0 := R.c0
    have c1 := R.c1
    have c2 := R.c2
    have c3 := R.c3
    have q0 := R.free 0
    have q1 := R.free 1
    have q2 := R.free 2
    have q3 := R.free 3
    go_wp2_with fail
    go_region
    all_goals
      go_wp2_with fail
      have HB2 : Bx r (.int .i64 0) (.bool false) (.int .i64 0) (.slice none 0 0) ((((W3.setCell ⟨r, 0, none⟩ (.int .i64 0)).setCell ⟨r, 1, none⟩ (.bool false)).setCell ⟨r, 2, none⟩ (.int .i64 0)).setCell ⟨r, 3, none⟩ (.slice none 0 0)).drew := R.set
      have HL2 := (Below.set4 b1 (Nat.le_of_eq hgr) (.int .i64 0) (.bool false) (.int .i64 0) (.slice none 0 0)).drew
      generalize ((((W3.setCell ⟨r, 0, none⟩ (.int .i64 0)).setCell ⟨r, 1, none⟩ (.bool false)).setCell ⟨r, 2, none⟩ (.int .i64 0)).setCell ⟨r, 3, none⟩ (.slice none 0 0)).drew = Wx at HB2 HL2 ⊢
      have z0 := HB2.c0
      have z1 := HB2.c1
      have z2 := HB2.c2
      have z3 := HB2.c3
      refine bodyPost_ret (v := .tuple #[.agg #[.int .i64 0, .bool false, .int .i64 0, .slice none 0 0], .int .i64 k]) (by simp [results, Tryd.results9, go_sem, z0, z1, z2, z3]) rfl ⟨.slice none 0 0, ?_, ?_, HL2⟩
      · rw [HZ.1, HZ.2.1, HZ.2.2.1, HK.out]
      · rw [HZ.2.2.2]; exact OwnI.nil _ _
end Go.Proofs.YtcciabalbdnakaaDoor
