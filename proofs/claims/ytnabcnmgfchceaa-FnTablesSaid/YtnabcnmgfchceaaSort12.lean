/- slices.Sort of at most 12 numbers (the library's insertion sort, walked), slices.Sorted. -/
import Derived.Test.YtnabcnmgfchceaaHeld
import Derived.Test.YtnabcnmgfchceaaFrM
import Derived.WalkKit
set_option linter.unusedVariables false
set_option linter.unusedSimpArgs false
set_option maxRecDepth 20000
namespace Go.Proofs.Ytnabcnmgfchceaa
open Go.RowKit

/-- The pairs up to place i are in order but those whose latter is place j. -/
def OrdBut (X : List Int) (i j : Nat) : Prop := ∀ p q, p < q → q ≤ i → q ≠ j → nth X p ≤ nth X q
def OrdTo (X : List Int) (i : Nat) : Prop := ∀ p q, p < q → q < i → nth X p ≤ nth X q
/-- Places p and p + 1 change. -/
def swapL (X : List Int) (p : Nat) : List Int := (X.set (p + 1) (nth X p)).set p (nth X (p + 1))
theorem swapL_len (X : List Int) (p : Nat) : (swapL X p).length = X.length := by simp [swapL]
theorem swapL_at {X : List Int} {p : Nat} (h : p + 1 < X.length) (q : Nat) : nth (swapL X p) q = if q = p then nth X (p + 1) else if q = p + 1 then nth X p else nth X q := by
  simp only [swapL, nth, List.getD_eq_getElem?_getD]
  rw [List.getElem?_set, List.getElem?_set]
  by_cases h1 : q = p
  · subst h1
    simp [show q < X.length by omega]
  · rw [if_neg (fun e => h1 e.symm), if_neg h1]
    by_cases h2 : q = p + 1
    · subst h2
      simp [h]
    · rw [if_neg (fun e => h2 e.symm), if_neg h2]
theorem nth_get {X : List Int} {p : Nat} (h : p < X.length) : nth X p = X[p] := by simp [nth, List.getD_eq_getElem?_getD, h]
theorem swapL_perm {X : List Int} {p : Nat} (h : p + 1 < X.length) : (swapL X p).Perm X := by
  rw [swapL, nth_get h, nth_get (show p < X.length by omega)]
  exact List.set_set_perm h (by omega)
theorem OrdBut.start {X : List Int} {i : Nat} (h : OrdTo X i) : OrdBut X i i := fun p q h1 h2 h3 => h p q h1 (by omega)
theorem OrdBut.stop0 {X : List Int} {i : Nat} (h : OrdBut X i 0) : OrdTo X (i + 1) := fun p q h1 h2 => h p q h1 (by omega) (by omega)
theorem OrdBut.stop {X : List Int} {i p : Nat} (h : OrdBut X i (p + 1)) (hp : p + 1 ≤ i) (hl : ¬ nth X (p + 1) < nth X p) : OrdTo X (i + 1) := fun a q h1 h2 => by
  by_cases e : q = p + 1
  · subst e
    by_cases e2 : a = p
    · subst e2; omega
    · have := h a p (by omega) (by omega) (by omega)
      omega
  · exact h a q h1 (by omega) e
theorem OrdBut.step {X : List Int} {i p : Nat} (h : OrdBut X i (p + 1)) (hp : p + 1 ≤ i) (hi : i < X.length) (hl : nth X (p + 1) < nth X p) : OrdBut (swapL X p) i p := fun a q h1 h2 h3 => by
  rw [swapL_at (by omega), swapL_at (by omega), if_neg h3]
  by_cases e : q = p + 1
  · rw [if_pos e]
    by_cases e2 : a = p
    · rw [if_pos e2]; omega
    · rw [if_neg e2, if_neg (by omega)]
      exact h a p (by omega) (by omega) (by omega)
  · rw [if_neg e]
    by_cases e2 : a = p
    · rw [if_pos e2]
      exact h (p + 1) q (by omega) h2 e
    · rw [if_neg e2]
      by_cases e3 : a = p + 1
      · rw [if_pos e3]
        exact h p q (by omega) h2 e
      · rw [if_neg e3]
        exact h a q h1 h2 e

/-- Block G holds the numbers X, from place 0 on. -/
structure RowI (G : Nat) (X : List Int) (cur : Array Value) (w : World) : Prop where
  blk : w.heap[G]? = some (.cells cur 2 (0, 0))
  le : X.length ≤ cur.size
  fr : ∀ j, j < X.length → cur[j]? = some (.int .i64 (nth X j))
section
variable {G : Nat} {X : List Int} {cur : Array Value} {w w' : World}
theorem RowI.lt (h : RowI G X cur w) : G < w.heap.size := (Array.getElem?_eq_some_iff.1 h.blk).1
theorem RowI.cell (h : RowI G X cur w) {j : Nat} (hj : j < X.length) : w.cell? ⟨G, j, none⟩ = some (.int .i64 (nth X j)) := (cell_of_row w G j _ _ _ h.blk).trans (h.fr j hj)
theorem RowI.free (h : RowI G X cur w) (j : Nat) : w.frozen? ⟨G, j, none⟩ = false := frozen_of_row w G j _ _ h.blk
theorem RowI.swap (h : RowI G X cur w) {p : Nat} (hp : p + 1 < X.length) : ∃ cur', cur'.size = cur.size ∧ RowI G (swapL X p) cur' ((w.setCell ⟨G, p + 1, none⟩ (.int .i64 (nth X p))).setCell ⟨G, p, none⟩ (.int .i64 (nth X (p + 1)))) := by
  have hl := h.le
  refine ⟨_, ?_, heap_setCell_same _ _ _ _ _ _ (heap_setCell_same _ _ _ _ _ _ h.blk), by simp [swapL_len]; omega, fun j hj => ?_⟩
  · simp
  · rw [swapL_len] at hj
    rw [swapL_at hp]
    by_cases e : j = p
    · subst e
      simp [Array.getElem?_setIfInBounds, show j < cur.size by omega]
    · by_cases e2 : j = p + 1
      · subst e2
        simp [Array.getElem?_setIfInBounds, show p + 1 < cur.size by omega]
      · rw [if_neg e, if_neg e2]
        simp only [Array.getElem?_setIfInBounds]
        rw [if_neg (by omega), if_neg (by omega)]
        exact h.fr j hj
end

theorem isNaN (x : Int) (w : World) : Calls Try.prog 81 #[.int .i64 x] w fun e w' => e = .returned (.bool false) ∧ w = w' := by
  have hb : (!(x == x)) = false := by simp
  go_enter Try.func81, Try.ntmps81
  go_wp2_with fail
  go_ret
  exact ⟨rfl, rfl⟩
theorem cmpLess (x y : Int) (w : World) : Calls Try.prog 71 #[.int .i64 x, .int .i64 y] w fun e w' => e = .returned (.bool (decide (x < y))) ∧ w = w' := by
  go_enter Try.func71, Try.ntmps71
  go_wp2_with fail
  refine (isNaN _ _).mono ?_
  rintro e w1 ⟨rfl, rfl⟩
  go_wp2_with fail
  go_ret
  exact ⟨rfl, rfl⟩
set_option maxHeartbeats 1000000 in
/-- slices.insertionSortOrdered, from 0 on. -/
theorem insSort (G c : Nat) (X : List Int) (cur : Array Value) (w : World) (h : RowI G X cur w) (hm : X.length ≤ 1000000) :
    Calls Try.prog 65 #[.slice (some ⟨G, 0, none⟩) X.length c, .int .i64 0, .int .i64 X.length] w fun e w' => e = .returned (.tuple #[]) ∧
      ∃ Y cur', Y.Perm X ∧ cur'.size = cur.size ∧ OrdTo Y X.length ∧ RowI G Y cur' w' ∧ w.grownBy w' (some G) := by
  go_enter Try.func65, Try.ntmps65
  go_wp2_with fail
  go_loopw [6] (fun i wr => ∃ (k : Nat) (Y : List Int) (cur' : Array Value), 1 ≤ k ∧ (k ≤ X.length ∨ k = 1) ∧ i = .int .i64 k ∧ Y.Perm X ∧ cur'.size = cur.size ∧ OrdTo Y k ∧ RowI G Y cur' wr ∧ w.grownBy wr (some G)) (fun i _ => X.length - (intOf i).toNat)
  case atStart => exact ⟨1, X, cur, Nat.le_refl _, .inr rfl, rfl, List.Perm.refl _, rfl, fun p q h1 h2 => by omega, h, grown_refl _ _⟩
  case round =>
    obtain ⟨k, Y, cur1, hk1, hk, rfl, hp, hs, ho, R, g⟩ := hrel
    have hlen := hp.length_eq
    by_cases hlt : k < X.length
    · go_wp2_with fail
      go_loopw [7] (fun i wr2 => ∃ (j : Nat) (Z : List Int) (cur' : Array Value), j ≤ k ∧ i = .int .i64 j ∧ Z.Perm X ∧ cur'.size = cur.size ∧ OrdBut Z k j ∧ RowI G Z cur' wr2 ∧ w.grownBy wr2 (some G)) (fun i _ => (intOf i).toNat)
      case atStart => exact ⟨k, Y, cur1, Nat.le_refl _, rfl, hp, hs, OrdBut.start ho, R, g⟩
      case round =>
        clear R g ho hp hs hlen
        obtain ⟨j, Z, cur2, hj, rfl, hp, hs, ho, R, g⟩ := hrel
        have hlen := hp.length_eq
        replace hp := Lib.hid hp
        replace hs := Lib.hid hs
        by_cases h0 : j = 0
        · subst h0
          have ho2 := Lib.hid (OrdBut.stop0 ho)
          clear ho
          go_wp2_with fail
          go_quiet (fail)
          have R2 : RowI G Z cur2 (wr.drewN nq) := ⟨R.blk, R.le, R.fr⟩
          have g2 := grown_trans g (grown_drewN wr nq (some G))
          clear R g
          generalize wr.drewN nq = w3 at *
          go_wp2_with fail
          go_roundw
          case rel => exact ⟨k + 1, Z, cur2, by omega, .inl (by omega), by go_num, hp.out, hs.out, ho2.out, R2, g2⟩
          case measure => simp [intOf]; omega
        · obtain ⟨p, hjp⟩ : ∃ p, j = p + 1 := ⟨j - 1, by omega⟩
          have hpos : 0 < j := by omega
          have hi2 : (j : Int) - 1 = (p : Int) := by omega
          have hi1 : IntKind.i64.wrap (p : Int) = (p : Int) := IntWalk.i64_in _ (by omega)
          have hi3 : IntKind.i64.wrap ((j : Int) - 1) = (p : Int) := by rw [hi2]; exact hi1
          have hpl : p < X.length := by omega
          have hjl : j < X.length := by omega
          have hb1 := Lib.hid (show nth Z j = nth Z (p + 1) by rw [hjp])
          have hZ1 : j < Z.length := by omega
          have hZ0 : p < Z.length := by omega
          replace hjp := Lib.hid hjp
          clear h0
          go_wp2_with fail
          refine region_class (fun u => RowI G Z cur2 u ∧ w.grownBy u (some G)) (by kernel_rfl) (by kernel_rfl) ⟨⟨R.blk, R.le, R.fr⟩, grown_drew g⟩ ?_
          clear R g
          repeat first
            | go_big_quiet_skip
            | (go_big_quiet_want
               apply Exists.intro
               refine ⟨fun u hu => ?_, ?_⟩
               · apply quietAt_val
                 have hc1 := hu.1.cell hZ1
                 have hc0 := hu.1.cell hZ0
                 go_simp
                 rfl
               simp only [Act.put, List.setIfInBounds_toArray, List.set_cons_zero, List.set_cons_succ]
               go_big_quiet_on)
            | (go_big_quiet_want
               apply Exists.intro
               refine ⟨fun u hu => ?_, ?_⟩
               · apply quietAt_enter 71 #[.int .i64 (nth Z j), .int .i64 (nth Z p)]
                 · go_simp
                 · refine (cmpLess (nth Z j) (nth Z p) u).mono ?_
                   rintro e w2 ⟨rfl, rfl⟩
                   exact ⟨rfl, hu⟩
               simp only [Act.put, List.setIfInBounds_toArray, List.set_cons_zero, List.set_cons_succ]
               go_big_quiet_on)
          refine wpQuiet_nil ?_
          intro W2 L2
          obtain ⟨R, g⟩ := L2
          by_cases hl : nth Z j < nth Z p
          · have hst := Lib.hid (show OrdBut (swapL Z p) k p from by
              have hl' := hl
              rw [hb1.out] at hl'
              have ho' := ho
              rw [hjp.out] at ho'
              exact ho'.step (by have := hjp.out; omega) (by omega) hl')
            have hpm := Lib.hid ((swapL_perm (X := Z) (p := p) (by have := hjp.out; omega)).trans hp.out)
            have hsw := Lib.hid (show ∃ cur', cur'.size = cur2.size ∧ RowI G (swapL Z p) cur' ((W2.setCell ⟨G, j, none⟩ (.int .i64 (nth Z p))).setCell ⟨G, p, none⟩ (.int .i64 (nth Z j))) from by
              rw [hb1.out, hjp.out]
              exact R.swap (p := p) (by have := hjp.out; omega))
            have gsw := Lib.hid (show w.grownBy ((W2.setCell ⟨G, j, none⟩ (.int .i64 (nth Z p))).setCell ⟨G, p, none⟩ (.int .i64 (nth Z j))) (some G) from grown_trans g (grown_trans (grown_set _ _ _ _) (grown_set _ _ _ _)))
            have hpk : p < j := by have := hjp.out; omega
            have hc1 := R.cell hZ1
            have hc0 := R.cell hZ0
            have z1 := R.free j
            have z0 := R.free p
            clear ho hp
            go_wp2_with fail
            go_region
            all_goals
              go_wp2_with fail
              obtain ⟨cur3, e3, R3⟩ := hsw.out
              go_roundw
              case rel => exact ⟨p, swapL Z p, cur3, by omega, by go_num, hpm.out, e3.trans hs.out, hst.out, ⟨R3.blk, R3.le, R3.fr⟩, gsw.out.os, gsw.out.tape, gsw.out.output, gsw.out.size, gsw.out.block⟩
              case measure => simp [intOf]; omega
          · have ho2 := Lib.hid (show OrdTo Z (k + 1) from by
              rw [hb1.out] at hl
              rw [hjp.out] at ho
              exact ho.stop (by have := hjp.out; omega) hl)
            clear ho
            go_wp2_with fail
            go_roundw
            case rel => exact ⟨k + 1, Z, cur2, by omega, .inl (by omega), by go_num, hp.out, hs.out, ho2.out, R, g⟩
            case measure => simp [intOf]; omega
    · have e : k = X.length ∨ X.length = 0 := by omega
      have ho2 : OrdTo Y X.length := fun p q h1 h2 => ho p q h1 (by omega)
      clear ho
      replace hp := Lib.hid hp
      replace hs := Lib.hid hs
      replace ho2 := Lib.hid ho2
      go_wp2_with fail
      go_end0
      exact ⟨rfl, Y, cur1, hp.out, hs.out, ho2.out, R, g⟩
end Go.Proofs.Ytnabcnmgfchceaa

