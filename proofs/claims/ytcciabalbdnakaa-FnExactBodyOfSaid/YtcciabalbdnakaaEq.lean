/- slices.Equal over []int64; cells that stay in a region that makes blocks. -/
import Derived.Test.YtcciabalbdnakaaLift
import Derived.Deep.RegionHeld3
import Derived.Deep.CutRange
import Derived.Deep.DeepCutAuto
set_option maxRecDepth 20000
namespace Go.Proofs.Ytcciabalbdnakaa
open Go.RowKit

theorem ext_nth {D E : List Int} (hl : D.length = E.length) (h : ∀ j, j < D.length → nth D j = nth E j) : D = E := by
  apply List.ext_getElem hl
  intro j h1 h2
  have := h j h1
  simpa [nth, List.getD_eq_getElem?_getD, List.getElem?_eq_getElem h1, List.getElem?_eq_getElem h2] using this
theorem ne_nth {D E : List Int} {j : Nat} (h : nth D j ≠ nth E j) : D ≠ E := fun e => h (by rw [e])

/-- slices.Equal over []int64. -/
theorem equalInts (a b : Option Addr) (D E : List Int) (c c' : Nat) (w : World) (ha : Nums a D w) (hb : Nums b E w) :
    Calls Try.prog 44 #[.slice a D.length c, .slice b E.length c'] w fun e w' => e = .returned (.bool (decide (D = E))) ∧ ∃ n, w' = w.drewN n := by
  have hm := ha.1
  have hm' := hb.1
  unfold maxLen at hm hm'
  by_cases hl : D.length = E.length
  · have hn : ((D.length : Int) != (E.length : Int)) = false := by simp [hl]
    go_enter Try.func44, Try.ntmps44
    go_wp2
    clear hn
    go_loopw [5, 13] (fun _ i wr => ∃ k n : Nat, k ≤ D.length ∧ i = .int .i64 k ∧ wr = w.drewN n ∧ ∀ j, j < k → nth D j = nth E j) (fun _ i _ => D.length - (intOf i).toNat)
    case atStart => exact ⟨0, 0, Nat.zero_le _, rfl, rfl, fun j hj => absurd hj (by omega)⟩
    case round =>
      obtain ⟨k, n, hk, rfl, rfl, hr⟩ := hrel
      by_cases hlt : k < D.length
      · obtain ⟨bl, o, rfl, hc⟩ := ha.2.2 k hlt
        obtain ⟨bl', o', rfl, hc'⟩ := hb.2.2 k (by omega)
        have hki : (k : Int) < D.length := by omega
        have hki' : (k : Int) < E.length := by omega
        generalize hv' : nth D k = v at hc
        have hv := Lib.hid hv'
        generalize hu' : nth E k = u at hc'
        have hu := Lib.hid hu'
        clear hv' hu'
        have HL := Lib.hid hl
        clear hl
        by_cases hvu : v = u
        · have hq : (v != u) = false := by simp [hvu]
          go_wp2
          go_quiet (fail)
          go_wp2
          go_roundw
          case rel => exact ⟨k + 1, n + nq, by omega, by go_num, by first | rfl | exact World.drewN_drewN _ _ _, fun j hj => by
            by_cases e : j = k
            · rw [e, hv.out, hu.out, hvu]
            · exact hr j (by omega)⟩
          case measure => simp [intOf]; omega
        · have hq : (v != u) = true := by simp [hvu]
          have HN : Hid (D ≠ E) := ne_nth (j := k) (by rw [hv.out, hu.out]; exact hvu)
          clear hvu
          go_wp2
          go_quiet (fail)
          go_wp2
          go_ret
          exact ⟨ret_bool (decide_eq_false HN.out).symm, n + nq, by first | rfl | exact World.drewN_drewN _ _ _⟩
      · have hke : ¬ (k : Int) < E.length := by omega
        have HL := Lib.hid hl
        clear hl
        go_wp2
        go_ret
        exact ⟨ret_bool (decide_eq_true (ext_nth HL.out fun j hj => hr j (by omega))).symm, n, rfl⟩
  · have hn : ((D.length : Int) != (E.length : Int)) = true := by simp; omega
    have HN : Hid (D ≠ E) := fun e => hl (by rw [e])
    clear hl
    go_enter Try.func44, Try.ntmps44
    go_wp2
    go_ret
    exact ⟨ret_bool (decide_eq_false HN.out).symm, 0, rfl⟩

/-- Eight cells that are there stay behind a new block, and behind a draw. -/
theorem keep8a {g0 g1 : Nat} {x0 x1 x2 x3 x4 x5 x6 x7 : Value} {w : World} (h : w.cell? ⟨g0, 0, none⟩ = some x0 ∧ w.cell? ⟨g0, 1, none⟩ = some x1 ∧ w.cell? ⟨g0, 2, none⟩ = some x2 ∧ w.cell? ⟨g0, 3, none⟩ = some x3 ∧ w.cell? ⟨g1, 0, none⟩ = some x4 ∧ w.cell? ⟨g1, 1, none⟩ = some x5 ∧ w.cell? ⟨g1, 2, none⟩ = some x6 ∧ w.cell? ⟨g1, 3, none⟩ = some x7) (o : Obj) :
    (w.alloc o).cell? ⟨g0, 0, none⟩ = some x0 ∧ (w.alloc o).cell? ⟨g0, 1, none⟩ = some x1 ∧ (w.alloc o).cell? ⟨g0, 2, none⟩ = some x2 ∧ (w.alloc o).cell? ⟨g0, 3, none⟩ = some x3 ∧ (w.alloc o).cell? ⟨g1, 0, none⟩ = some x4 ∧ (w.alloc o).cell? ⟨g1, 1, none⟩ = some x5 ∧ (w.alloc o).cell? ⟨g1, 2, none⟩ = some x6 ∧ (w.alloc o).cell? ⟨g1, 3, none⟩ = some x7 := by
  have n0 : g0 < w.heap.size := World.block_lt_of_cell? w _ h.1
  have n1 : g1 < w.heap.size := World.block_lt_of_cell? w _ h.2.2.2.2.1
  have b : Below w.heap.size w (w.alloc o) := (Below.refl _ _).alloc (Nat.le_refl _) _
  exact ⟨(b.cell n0).trans h.1, (b.cell n0).trans h.2.1, (b.cell n0).trans h.2.2.1, (b.cell n0).trans h.2.2.2.1, (b.cell n1).trans h.2.2.2.2.1, (b.cell n1).trans h.2.2.2.2.2.1, (b.cell n1).trans h.2.2.2.2.2.2.1, (b.cell n1).trans h.2.2.2.2.2.2.2⟩
theorem keep8d {g0 g1 : Nat} {x0 x1 x2 x3 x4 x5 x6 x7 : Value} {w : World} (h : w.cell? ⟨g0, 0, none⟩ = some x0 ∧ w.cell? ⟨g0, 1, none⟩ = some x1 ∧ w.cell? ⟨g0, 2, none⟩ = some x2 ∧ w.cell? ⟨g0, 3, none⟩ = some x3 ∧ w.cell? ⟨g1, 0, none⟩ = some x4 ∧ w.cell? ⟨g1, 1, none⟩ = some x5 ∧ w.cell? ⟨g1, 2, none⟩ = some x6 ∧ w.cell? ⟨g1, 3, none⟩ = some x7) :
    w.drew.cell? ⟨g0, 0, none⟩ = some x0 ∧ w.drew.cell? ⟨g0, 1, none⟩ = some x1 ∧ w.drew.cell? ⟨g0, 2, none⟩ = some x2 ∧ w.drew.cell? ⟨g0, 3, none⟩ = some x3 ∧ w.drew.cell? ⟨g1, 0, none⟩ = some x4 ∧ w.drew.cell? ⟨g1, 1, none⟩ = some x5 ∧ w.drew.cell? ⟨g1, 2, none⟩ = some x6 ∧ w.drew.cell? ⟨g1, 3, none⟩ = some x7 := h

theorem keep8b {g0 g1 : Nat} {x0 x1 x2 x3 x4 x5 x6 x7 : Value} {w w' : World} (h : w.cell? ⟨g0, 0, none⟩ = some x0 ∧ w.cell? ⟨g0, 1, none⟩ = some x1 ∧ w.cell? ⟨g0, 2, none⟩ = some x2 ∧ w.cell? ⟨g0, 3, none⟩ = some x3 ∧ w.cell? ⟨g1, 0, none⟩ = some x4 ∧ w.cell? ⟨g1, 1, none⟩ = some x5 ∧ w.cell? ⟨g1, 2, none⟩ = some x6 ∧ w.cell? ⟨g1, 3, none⟩ = some x7) (b : Below w.heap.size w w') :
    w'.cell? ⟨g0, 0, none⟩ = some x0 ∧ w'.cell? ⟨g0, 1, none⟩ = some x1 ∧ w'.cell? ⟨g0, 2, none⟩ = some x2 ∧ w'.cell? ⟨g0, 3, none⟩ = some x3 ∧ w'.cell? ⟨g1, 0, none⟩ = some x4 ∧ w'.cell? ⟨g1, 1, none⟩ = some x5 ∧ w'.cell? ⟨g1, 2, none⟩ = some x6 ∧ w'.cell? ⟨g1, 3, none⟩ = some x7 := by
  have n0 : g0 < w.heap.size := World.block_lt_of_cell? w _ h.1
  have n1 : g1 < w.heap.size := World.block_lt_of_cell? w _ h.2.2.2.2.1
  exact ⟨(b.cell n0).trans h.1, (b.cell n0).trans h.2.1, (b.cell n0).trans h.2.2.1, (b.cell n0).trans h.2.2.2.1, (b.cell n1).trans h.2.2.2.2.1, (b.cell n1).trans h.2.2.2.2.2.1, (b.cell n1).trans h.2.2.2.2.2.2.1, (b.cell n1).trans h.2.2.2.2.2.2.2⟩
end Go.Proofs.Ytcciabalbdnakaa
