/- The model's steps of a node: the small ones. -/
import Derived.Test.YtngcekegngmedaaGreatDoorM38
import Derived.Test.YtngcekegngmedaaGreatDoorM12
import Derived.Test.YtngcekegngmedaaGreatDoorM15
import Derived.Test.YtngcekegngmedaaGreatDoorM32

set_option linter.unusedVariables false
set_option linter.unusedSimpArgs false
set_option maxRecDepth 20000
namespace Go.Proofs.YtngcekegngmedaaGreatDoor
open Go.RowKit


theorem specHappen (k : Int) (w : World) : Calls Tryz.prog 158 #[.int .i64 k] w fun e w' => e = .returned (hpV k zF none 0) ∧ Below w.heap.size w w' := by
  have HB := heap_alloc_new w (.cells hpZ 36)
  have hb : Below w.heap.size w (w.alloc (.cells hpZ 36)) := below_more (Below.refl _ _) _
  go_enter Tryz.func158, Tryz.ntmps158
  go_upto_region 1 with fail
  generalize hg : w.heap.size = g at *
  generalize w.alloc _ = W at HB hb ⊢
  go_wp2_with (refine wpList_tell (k := k) (f := zF) (ad := none) (cd := 0) HB rfl rfl rfl rfl rfl ?_)
  refine bodyPost_ret (v := hpV k zF none 0) ?_ rfl ⟨rfl, by rw [hg]; exact below_setRow hb (Nat.le_refl _) _⟩
  exact results_cell_row Tryz.results158 _ _ g 36 _ (0, 0) _ rfl (setRow_heap _ _ _ _ _ _ HB) Tryz.underlying36 rfl (by kernel_rfl)
theorem specText (l : Int) (w : World) (hl : l = 0 ∨ l = 1) : Calls Tryz.prog 248 #[.int .i64 l] w fun e w' => e = .returned (.string (bitS l)) ∧ w = w' := by
  go_enter Tryz.func248, Tryz.ntmps248
  rcases hl with rfl | rfl
  · go_wp2_with fail
    go_ret
    exact ⟨rfl, rfl⟩
  · go_wp2_with fail
    go_ret
    exact ⟨rfl, rfl⟩

set_option maxHeartbeats 4000000 in
/-- spec.l12Begin. -/
theorem specBegin (n : Nd) (p : NdP) (tx : Bool) (w : World) :
    Calls Tryz.prog 159 #[ndV n p, .bool tx] w fun e w' => e = .returned (ndV (begN n tx) p) ∧ Below w.heap.size w w' := by
  have X := N2.made2 (ndC n p) w
  go_enter Tryz.func159, Tryz.ntmps159
  go_upto_region 1 with fail
  generalize World.alloc _ _ = W at X ⊢
  generalize w.heap.size + 1 = gr at X ⊢
  generalize w.heap.size = g at X ⊢
  have c0 : W.cell? ⟨g, 0, none⟩ = some (.int .i64 n.ph) := X.cell 0
  have c1 : W.cell? ⟨g, 1, none⟩ = some (.bool n.tx) := X.cell 1
  have c3 : W.cell? ⟨g, 3, none⟩ = some (.bool n.bad) := X.cell 3
  have c8 : W.cell? ⟨g, 8, none⟩ = some (.string n.got) := X.cell 8
  have c9 : W.cell? ⟨g, 9, none⟩ = some (.int .i64 n.run) := X.cell 9
  have c10 : W.cell? ⟨g, 10, none⟩ = some (.int .i64 n.last) := X.cell 10
  have c12 : W.cell? ⟨g, 12, none⟩ = some (.int .i64 n.left) := X.cell 12
  have f0 := X.free 0
  have f8 := X.free 8
  have f9 := X.free 9
  have f10 := X.free 10
  have f12 := X.free 12
  have f1 := X.free 1
  have f3 := X.free 3
  go_upto_region 8 with fail
  clear c0 c1 c3 c8 c9 c10 c12 f0 f8 f9 f10 f12 f1 f3
  replace X : N2 g gr (ndC ({ n with ph := 1, got := ⟨#[48]⟩, run := 1, last := 0 }) p) w _ := ((((X.set 0 (.int .i64 1)).set 8 (.string ⟨#[48]⟩)).set 9 (.int .i64 1)).set 10 (.int .i64 0))
  replace X : N2 g gr (ndC (begN n tx) p) w _ := (((X.set 12 (.int .i64 0)).set 1 (.bool tx)).set 3 (.bool false))
  generalize World.setCell _ _ _ = W1 at X ⊢
  go_wp2_with (first | (refine Nx.take ⟨X.blk, X.bel⟩ rfl rfl rfl ?_) | (refine wpList_put X.res rfl rfl rfl rfl rfl ?_))
  refine bodyPost_ret (v := ndV (begN n tx) p) ?_ rfl ⟨rfl, (X.fin _).2.2⟩
  exact results_one Tryz.results159 _ _ gr _ rfl (X.fin (ndC (begN n tx) p)).1 rfl

set_option maxHeartbeats 8000000 in
/-- spec.l12Hear. -/
theorem specHear (n : Nd) (p : NdP) (l : Int) (w : World) (hl : l = 0 ∨ l = 1) (hr : 0 ≤ n.run ∧ n.run ≤ 11) (hs : n.got.size ≤ 98) :
    Calls Tryz.prog 212 #[ndV n p, .int .i64 l] w fun e w' => e = .returned (ndV (hearN n l) p) ∧ Below w.heap.size w w' := by
  have hz : (n.got ++ bitS l).size = n.got.size + 1 := by rw [ByteArray.size_append, bitS_size]
  have hsz : ¬ 9223372036854775807 < n.got.size + (bitS l).size := by rw [bitS_size]; omega
  have hrw : IntKind.i64.wrap (n.run + 1) = n.run + 1 := IntWalk.i64_in _ (by omega)
  have HT := Lib.hid (fun w => specText l w hl)
  replace hl := Lib.hid hl
  by_cases h : l = n.last
  · have h' : (l == n.last) = true := beq_iff_eq.2 h
    rw [show hearN n l = { n with got := n.got ++ bitS l, run := n.run + 1, last := l } from by unfold hearN; rw [if_pos h]]
    clear h
    generalize bitS l = t at *
    generalize hgt : n.got ++ t = gt at *
    have X := N2.made2 (ndC n p) w
    go_enter Tryz.func212, Tryz.ntmps212
    go_upto_region 1 with fail
    generalize World.alloc _ _ = W at X ⊢
    generalize w.heap.size + 1 = gr at X ⊢
    generalize w.heap.size = g at X ⊢
    have c8 : W.cell? ⟨g, 8, none⟩ = some (.string n.got) := X.cell 8
    have f8 := X.free 8
    go_region_law (first
      | (go_simp
         go_at_call 248
         refine (HT.out _).mono ?_
         rintro e w2 ⟨rfl, rfl⟩))
    all_goals
      clear c8 f8
      replace X : N2 g gr (ndC { n with got := gt } p) w _ := (X.set 8 (.string gt)).drew
      generalize World.drew _ = W2 at X ⊢
      have c9 : W2.cell? ⟨g, 9, none⟩ = some (.int .i64 n.run) := X.cell 9
      have c10 : W2.cell? ⟨g, 10, none⟩ = some (.int .i64 n.last) := X.cell 10
      have f9 := X.free 9
      have f10 := X.free 10
      go_upto_region 6 with fail
      clear c9 c10 f9 f10
      replace X : N2 g gr (ndC ({ n with got := gt, run := n.run + 1, last := l }) p) w _ := ((X.set 9 (.int .i64 (n.run + 1))).set 10 (.int .i64 l))
      generalize World.setCell _ _ _ = W3 at X ⊢
      go_wp2_with (first | (refine Nx.take ⟨X.blk, X.bel⟩ rfl rfl rfl ?_) | (refine wpList_put X.res rfl rfl rfl rfl rfl ?_))
      refine bodyPost_ret (v := ndV ({ n with got := gt, run := n.run + 1, last := l }) p) ?_ rfl ⟨rfl, (X.fin _).2.2⟩
      exact results_one Tryz.results212 _ _ gr _ rfl (X.fin (ndC ({ n with got := gt, run := n.run + 1, last := l }) p)).1 rfl
  · have h' : (l == n.last) = false := beq_eq_false_iff_ne.2 h
    rw [show hearN n l = { n with got := n.got ++ bitS l, run := 1, last := l } from by unfold hearN; rw [if_neg h]]
    clear h
    generalize bitS l = t at *
    generalize hgt : n.got ++ t = gt at *
    have X := N2.made2 (ndC n p) w
    go_enter Tryz.func212, Tryz.ntmps212
    go_upto_region 1 with fail
    generalize World.alloc _ _ = W at X ⊢
    generalize w.heap.size + 1 = gr at X ⊢
    generalize w.heap.size = g at X ⊢
    have c8 : W.cell? ⟨g, 8, none⟩ = some (.string n.got) := X.cell 8
    have f8 := X.free 8
    go_region_law (first
      | (go_simp
         go_at_call 248
         refine (HT.out _).mono ?_
         rintro e w2 ⟨rfl, rfl⟩))
    all_goals
      clear c8 f8
      replace X : N2 g gr (ndC { n with got := gt } p) w _ := (X.set 8 (.string gt)).drew
      generalize World.drew _ = W2 at X ⊢
      have c9 : W2.cell? ⟨g, 9, none⟩ = some (.int .i64 n.run) := X.cell 9
      have c10 : W2.cell? ⟨g, 10, none⟩ = some (.int .i64 n.last) := X.cell 10
      have f9 := X.free 9
      have f10 := X.free 10
      go_upto_region 6 with fail
      clear c9 c10 f9 f10
      replace X : N2 g gr (ndC ({ n with got := gt, run := 1, last := l }) p) w _ := ((X.set 9 (.int .i64 1)).set 10 (.int .i64 l))
      generalize World.setCell _ _ _ = W3 at X ⊢
      go_wp2_with (first | (refine Nx.take ⟨X.blk, X.bel⟩ rfl rfl rfl ?_) | (refine wpList_put X.res rfl rfl rfl rfl rfl ?_))
      refine bodyPost_ret (v := ndV ({ n with got := gt, run := 1, last := l }) p) ?_ rfl ⟨rfl, (X.fin _).2.2⟩
      exact results_one Tryz.results212 _ _ gr _ rfl (X.fin (ndC ({ n with got := gt, run := 1, last := l }) p)).1 rfl

set_option maxHeartbeats 16000000 in
/-- spec.l12Whole. -/
theorem specWhole (n : Nd) (p : NdP) (w : World) (hs : n.got.size ≤ maxLen) :
    Calls Tryz.prog 211 #[ndV n p] w fun e w' => e = .returned (ndV (wholeN n) p) ∧ Below w.heap.size w w' := by
  have hdef : wholeB n.got = (decide (0 ≤ needV n.got) && decide (needV n.got ≤ n.got.size)) := rfl
  by_cases h1 : needV n.got < 0
  · have hw : wholeB n.got = false := by rw [hdef, decide_eq_false (by omega)]; rfl
    have d1 : decide (needV n.got < 0) = true := decide_eq_true h1
    rw [show wholeN n = n from by unfold wholeN; rw [if_neg (fun k => by rw [hw] at k; exact absurd k.1 (by decide))]]
    clear hdef hw h1
    have hm' := Lib.hid hs
    have HN := Lib.hid (fun w => specNeed n.got w hs)
    have X := N2.made2 (ndC n p) w
    go_enter Tryz.func211, Tryz.ntmps211
    go_upto_region 1 with fail
    generalize World.alloc _ _ = W at X ⊢
    generalize w.heap.size + 1 = gr at X ⊢
    generalize w.heap.size = g at X ⊢
    have c8 : W.cell? ⟨g, 8, none⟩ = some (.string n.got) := X.cell 8
    have c9 : W.cell? ⟨g, 9, none⟩ = some (.int .i64 n.run) := X.cell 9
    go_wp2_with fail
    refine (HN.out _).mono ?_
    rintro e w2 ⟨rfl, rfl⟩
    generalize needV n.got = q at *
    go_upto_region 3 with fail
    clear c8 c9
    go_wp2_with (first | (refine Nx.take ⟨X.blk, X.bel⟩ rfl rfl rfl ?_) | (refine wpList_put X.res rfl rfl rfl rfl rfl ?_))
    refine bodyPost_ret (v := ndV (n) p) ?_ rfl ⟨rfl, (X.fin _).2.2⟩
    exact results_one Tryz.results211 _ _ gr _ rfl (X.fin (ndC (n) p)).1 rfl
  · have d1 : decide (needV n.got < 0) = false := decide_eq_false h1
    by_cases h2 : (n.got.size : Int) < needV n.got
    · have hw : wholeB n.got = false := by rw [hdef, decide_eq_false (show ¬ needV n.got ≤ n.got.size by omega), Bool.and_false]
      have d2 : decide ((n.got.size : Int) < needV n.got) = true := decide_eq_true h2
      rw [show wholeN n = n from by unfold wholeN; rw [if_neg (fun k => by rw [hw] at k; exact absurd k.1 (by decide))]]
      clear hdef hw h1 h2
      have hm' := Lib.hid hs
      have HN := Lib.hid (fun w => specNeed n.got w hs)
      have X := N2.made2 (ndC n p) w
      go_enter Tryz.func211, Tryz.ntmps211
      go_upto_region 1 with fail
      generalize World.alloc _ _ = W at X ⊢
      generalize w.heap.size + 1 = gr at X ⊢
      generalize w.heap.size = g at X ⊢
      have c8 : W.cell? ⟨g, 8, none⟩ = some (.string n.got) := X.cell 8
      have c9 : W.cell? ⟨g, 9, none⟩ = some (.int .i64 n.run) := X.cell 9
      go_wp2_with fail
      refine (HN.out _).mono ?_
      rintro e w2 ⟨rfl, rfl⟩
      generalize needV n.got = q at *
      go_upto_region 3 with fail
      clear c8 c9
      go_wp2_with (first | (refine Nx.take ⟨X.blk, X.bel⟩ rfl rfl rfl ?_) | (refine wpList_put X.res rfl rfl rfl rfl rfl ?_))
      refine bodyPost_ret (v := ndV (n) p) ?_ rfl ⟨rfl, (X.fin _).2.2⟩
      exact results_one Tryz.results211 _ _ gr _ rfl (X.fin (ndC (n) p)).1 rfl
    · have hw : wholeB n.got = true := by rw [hdef, decide_eq_true (show 0 ≤ needV n.got by omega), decide_eq_true (show needV n.got ≤ n.got.size by omega)]; rfl
      have d2 : decide ((n.got.size : Int) < needV n.got) = false := decide_eq_false h2
      clear hdef h1 h2
      by_cases h5 : n.run = 5
      · have d5 : (n.run == 5) = true := beq_iff_eq.2 h5
        rw [show wholeN n = n from by unfold wholeN; rw [if_neg (fun k => k.2 h5)]]
        clear hw h5
        have hm' := Lib.hid hs
        have HN := Lib.hid (fun w => specNeed n.got w hs)
        have X := N2.made2 (ndC n p) w
        go_enter Tryz.func211, Tryz.ntmps211
        go_upto_region 1 with fail
        generalize World.alloc _ _ = W at X ⊢
        generalize w.heap.size + 1 = gr at X ⊢
        generalize w.heap.size = g at X ⊢
        have c8 : W.cell? ⟨g, 8, none⟩ = some (.string n.got) := X.cell 8
        have c9 : W.cell? ⟨g, 9, none⟩ = some (.int .i64 n.run) := X.cell 9
        go_wp2_with fail
        refine (HN.out _).mono ?_
        rintro e w2 ⟨rfl, rfl⟩
        generalize needV n.got = q at *
        go_upto_region 3 with fail
        clear c8 c9
        go_wp2_with (first | (refine Nx.take ⟨X.blk, X.bel⟩ rfl rfl rfl ?_) | (refine wpList_put X.res rfl rfl rfl rfl rfl ?_))
        refine bodyPost_ret (v := ndV (n) p) ?_ rfl ⟨rfl, (X.fin _).2.2⟩
        exact results_one Tryz.results211 _ _ gr _ rfl (X.fin (ndC (n) p)).1 rfl
      · have d5 : (n.run == 5) = false := beq_eq_false_iff_ne.2 h5
        rcases (Bool.eq_false_or_eq_true n.tx).symm with ht | ht
        · by_cases hc : rdCode n.got = 0
          · have hc' : (rdCode n.got != 0) = false := by rw [hc]; rfl
            rw [show wholeN n = { n with ph := 2, pos := 0, left := 0, bad := false } from by unfold wholeN; rw [if_pos ⟨hw, h5⟩]; rw [ht, decide_eq_false (fun k => k hc)]; rfl]
            clear hw h5
            replace ht := Lib.hid ht
            have hm' := Lib.hid hs
            have HN := Lib.hid (fun w => specNeed n.got w hs)
            have X := N2.made2 (ndC n p) w
            go_enter Tryz.func211, Tryz.ntmps211
            go_upto_region 1 with fail
            generalize World.alloc _ _ = W at X ⊢
            generalize w.heap.size + 1 = gr at X ⊢
            generalize w.heap.size = g at X ⊢
            have c8 : W.cell? ⟨g, 8, none⟩ = some (.string n.got) := X.cell 8
            have c9 : W.cell? ⟨g, 9, none⟩ = some (.int .i64 n.run) := X.cell 9
            go_wp2_with fail
            refine (HN.out _).mono ?_
            rintro e w2 ⟨rfl, rfl⟩
            generalize needV n.got = q at *
            go_wp2_with fail
            refine (specRead n.got _ hm'.out).mono ?_
            rintro e w7 ⟨v, rfl, O, b⟩
            obtain ⟨av, cv, rfl, -⟩ := O.nums
            replace X := X.below b
            clear b c8 c9 O
            have bb := below_more (Below.refl w7.heap.size w7) (.cells #[.int .i64 (rdId n.got), .bool (rdRm n.got), .int .i64 (rdLn n.got), .slice av (rdD n.got).length cv] 26)
            replace X := X.below bb
            clear bb
            go_upto_region 5 with fail
            generalize w7.alloc _ = W8 at X ⊢
            have c0 : W8.cell? ⟨g, 0, none⟩ = some (.int .i64 n.ph) := X.cell 0
            have c1 : W8.cell? ⟨g, 1, none⟩ = some (.bool n.tx) := X.cell 1
            have c3 : W8.cell? ⟨g, 3, none⟩ = some (.bool n.bad) := X.cell 3
            have c11 : W8.cell? ⟨g, 11, none⟩ = some (.int .i64 n.pos) := X.cell 11
            have c12 : W8.cell? ⟨g, 12, none⟩ = some (.int .i64 n.left) := X.cell 12
            have f0 := X.free 0
            have f3 := X.free 3
            have f11 := X.free 11
            have f12 := X.free 12
            rw [ht.out] at c1
            go_upto_region 9 with fail
            clear c0 c1 c3 c11 c12 f0 f3 f11 f12
            replace X : N2 g gr (ndC ({ n with ph := 2, pos := 0, left := 0, bad := false }) p) w _ := ((((X.set 0 (.int .i64 2)).set 11 (.int .i64 0)).set 12 (.int .i64 0)).set 3 (.bool false))
            generalize World.setCell _ _ _ = W9 at X ⊢
            go_wp2_with (first | (refine Nx.take ⟨X.blk, X.bel⟩ rfl rfl rfl ?_) | (refine wpList_put X.res rfl rfl rfl rfl rfl ?_))
            refine bodyPost_ret (v := ndV ({ n with ph := 2, pos := 0, left := 0, bad := false }) p) ?_ rfl ⟨rfl, (X.fin _).2.2⟩
            exact results_one Tryz.results211 _ _ gr _ rfl (X.fin (ndC ({ n with ph := 2, pos := 0, left := 0, bad := false }) p)).1 rfl
          · have hc' : (rdCode n.got != 0) = true := bne_iff_ne.2 hc
            rw [show wholeN n = { n with ph := 2, pos := 0, left := 0, bad := true } from by unfold wholeN; rw [if_pos ⟨hw, h5⟩]; rw [ht, decide_eq_true hc]; rfl]
            clear hw h5
            replace ht := Lib.hid ht
            have hm' := Lib.hid hs
            have HN := Lib.hid (fun w => specNeed n.got w hs)
            have X := N2.made2 (ndC n p) w
            go_enter Tryz.func211, Tryz.ntmps211
            go_upto_region 1 with fail
            generalize World.alloc _ _ = W at X ⊢
            generalize w.heap.size + 1 = gr at X ⊢
            generalize w.heap.size = g at X ⊢
            have c8 : W.cell? ⟨g, 8, none⟩ = some (.string n.got) := X.cell 8
            have c9 : W.cell? ⟨g, 9, none⟩ = some (.int .i64 n.run) := X.cell 9
            go_wp2_with fail
            refine (HN.out _).mono ?_
            rintro e w2 ⟨rfl, rfl⟩
            generalize needV n.got = q at *
            go_wp2_with fail
            refine (specRead n.got _ hm'.out).mono ?_
            rintro e w7 ⟨v, rfl, O, b⟩
            obtain ⟨av, cv, rfl, -⟩ := O.nums
            replace X := X.below b
            clear b c8 c9 O
            have bb := below_more (Below.refl w7.heap.size w7) (.cells #[.int .i64 (rdId n.got), .bool (rdRm n.got), .int .i64 (rdLn n.got), .slice av (rdD n.got).length cv] 26)
            replace X := X.below bb
            clear bb
            go_upto_region 5 with fail
            generalize w7.alloc _ = W8 at X ⊢
            have c0 : W8.cell? ⟨g, 0, none⟩ = some (.int .i64 n.ph) := X.cell 0
            have c1 : W8.cell? ⟨g, 1, none⟩ = some (.bool n.tx) := X.cell 1
            have c3 : W8.cell? ⟨g, 3, none⟩ = some (.bool n.bad) := X.cell 3
            have c11 : W8.cell? ⟨g, 11, none⟩ = some (.int .i64 n.pos) := X.cell 11
            have c12 : W8.cell? ⟨g, 12, none⟩ = some (.int .i64 n.left) := X.cell 12
            have f0 := X.free 0
            have f3 := X.free 3
            have f11 := X.free 11
            have f12 := X.free 12
            rw [ht.out] at c1
            go_upto_region 9 with fail
            clear c0 c1 c3 c11 c12 f0 f3 f11 f12
            replace X : N2 g gr (ndC ({ n with ph := 2, pos := 0, left := 0, bad := true }) p) w _ := ((((X.set 0 (.int .i64 2)).set 11 (.int .i64 0)).set 12 (.int .i64 0)).set 3 (.bool true))
            generalize World.setCell _ _ _ = W9 at X ⊢
            go_wp2_with (first | (refine Nx.take ⟨X.blk, X.bel⟩ rfl rfl rfl ?_) | (refine wpList_put X.res rfl rfl rfl rfl rfl ?_))
            refine bodyPost_ret (v := ndV ({ n with ph := 2, pos := 0, left := 0, bad := true }) p) ?_ rfl ⟨rfl, (X.fin _).2.2⟩
            exact results_one Tryz.results211 _ _ gr _ rfl (X.fin (ndC ({ n with ph := 2, pos := 0, left := 0, bad := true }) p)).1 rfl
        · rw [show wholeN n = { n with ph := 2, pos := 0, left := 0, bad := false } from by unfold wholeN; rw [if_pos ⟨hw, h5⟩]; rw [ht]; rfl]
          clear hw h5
          replace ht := Lib.hid ht
          have hm' := Lib.hid hs
          have HN := Lib.hid (fun w => specNeed n.got w hs)
          have X := N2.made2 (ndC n p) w
          go_enter Tryz.func211, Tryz.ntmps211
          go_upto_region 1 with fail
          generalize World.alloc _ _ = W at X ⊢
          generalize w.heap.size + 1 = gr at X ⊢
          generalize w.heap.size = g at X ⊢
          have c8 : W.cell? ⟨g, 8, none⟩ = some (.string n.got) := X.cell 8
          have c9 : W.cell? ⟨g, 9, none⟩ = some (.int .i64 n.run) := X.cell 9
          go_wp2_with fail
          refine (HN.out _).mono ?_
          rintro e w2 ⟨rfl, rfl⟩
          generalize needV n.got = q at *
          go_wp2_with fail
          refine (specRead n.got _ hm'.out).mono ?_
          rintro e w7 ⟨v, rfl, O, b⟩
          obtain ⟨av, cv, rfl, -⟩ := O.nums
          replace X := X.below b
          clear b c8 c9 O
          have bb := below_more (Below.refl w7.heap.size w7) (.cells #[.int .i64 (rdId n.got), .bool (rdRm n.got), .int .i64 (rdLn n.got), .slice av (rdD n.got).length cv] 26)
          replace X := X.below bb
          clear bb
          go_upto_region 5 with fail
          generalize w7.alloc _ = W8 at X ⊢
          have c0 : W8.cell? ⟨g, 0, none⟩ = some (.int .i64 n.ph) := X.cell 0
          have c1 : W8.cell? ⟨g, 1, none⟩ = some (.bool n.tx) := X.cell 1
          have c3 : W8.cell? ⟨g, 3, none⟩ = some (.bool n.bad) := X.cell 3
          have c11 : W8.cell? ⟨g, 11, none⟩ = some (.int .i64 n.pos) := X.cell 11
          have c12 : W8.cell? ⟨g, 12, none⟩ = some (.int .i64 n.left) := X.cell 12
          have f0 := X.free 0
          have f3 := X.free 3
          have f11 := X.free 11
          have f12 := X.free 12
          rw [ht.out] at c1
          go_upto_region 9 with fail
          clear c0 c1 c3 c11 c12 f0 f3 f11 f12
          replace X : N2 g gr (ndC ({ n with ph := 2, pos := 0, left := 0, bad := false }) p) w _ := ((((X.set 0 (.int .i64 2)).set 11 (.int .i64 0)).set 12 (.int .i64 0)).set 3 (.bool false))
          generalize World.setCell _ _ _ = W9 at X ⊢
          go_wp2_with (first | (refine Nx.take ⟨X.blk, X.bel⟩ rfl rfl rfl ?_) | (refine wpList_put X.res rfl rfl rfl rfl rfl ?_))
          refine bodyPost_ret (v := ndV ({ n with ph := 2, pos := 0, left := 0, bad := false }) p) ?_ rfl ⟨rfl, (X.fin _).2.2⟩
          exact results_one Tryz.results211 _ _ gr _ rfl (X.fin (ndC ({ n with ph := 2, pos := 0, left := 0, bad := false }) p)).1 rfl

set_option maxHeartbeats 8000000 in
/-- spec.l12Less. -/
theorem specLess (n : Nd) (p : NdP) (w : World) (hl0 : 0 ≤ n.left ∧ n.left ≤ 128) :
    Calls Tryz.prog 216 #[ndV n p] w fun e w' => e = .returned (.tuple #[ndV { n with left := lessV n.left } p, .bool (decide (lessV n.left = 0))]) ∧ Below w.heap.size w w' := by
  have hw : IntKind.i64.wrap (n.left - 1) = n.left - 1 := IntWalk.i64_in _ (by omega)
  by_cases hx : 0 < n.left - 1
  · have e1 : lessV n.left = n.left - 1 := if_pos hx
    have d0 : (n.left - 1 == 0) = false := beq_eq_false_iff_ne.2 (by omega)
    have e2 : decide (lessV n.left = 0) = false := decide_eq_false (by omega)
    rw [e2, e1]
    have hx2 := Lib.hid hx
    clear e1 e2 hx
    have X := N2.made2 (ndC n p) w
    go_enter Tryz.func216, Tryz.ntmps216
    go_upto_region 1 with fail
    generalize World.alloc _ _ = W at X ⊢
    generalize w.heap.size + 1 = gr at X ⊢
    generalize w.heap.size = g at X ⊢
    have c12 : W.cell? ⟨g, 12, none⟩ = some (.int .i64 n.left) := X.cell 12
    have f12 := X.free 12
    go_wp2_with fail
    refine (maxGt _ _ _ hx2.out).mono ?_
    rintro e w2 ⟨rfl, rfl⟩
    go_upto_region 2 with fail
    clear c12 f12
    replace X : N2 g gr (ndC ({ n with left := n.left - 1 }) p) w _ := (X.set 12 (.int .i64 (n.left - 1)))
    generalize World.setCell _ _ _ = W1 at X ⊢
    refine wp_region_held (S := fun u => Nx g ({ n with left := n.left - 1 }) p w u) (by kernel_rfl) ?_
    replace X : N2 g gr (ndC ({ n with left := n.left - 1 }) p) w { W1 with drawn := W1.drawn + 1 } := X.drew
    generalize ({ W1 with drawn := W1.drawn + 1 } : World) = V at X ⊢
    have Y : Nx g ({ n with left := n.left - 1 }) p w V := ⟨X.blk, X.bel⟩
    refine take_at 0 _ (ndV ({ n with left := n.left - 1 }) p) rfl rfl (by kernel_rfl) (by kernel_rfl) (by kernel_rfl) (fun _ _ _ h => h) (.inl ⟨rfl, fun u hu => hu.took rfl rfl⟩) Y ?_
    simp only [Act.put, List.setIfInBounds_toArray, List.set_cons_zero, List.set_cons_succ]
    refine take_at 1 _ (.pointer (some ⟨g, 12, none⟩)) rfl rfl (by kernel_rfl) (by kernel_rfl) (by kernel_rfl) (fun _ _ _ h => h) (.inl ⟨rfl, fun u hu => by go_simp⟩) Y ?_
    simp only [Act.put, List.setIfInBounds_toArray, List.set_cons_zero, List.set_cons_succ]
    refine take_at 2 _ (.int .i64 (n.left - 1)) rfl rfl (by kernel_rfl) (by kernel_rfl) (by kernel_rfl) (fun _ _ _ h => h) (.inl ⟨rfl, fun u hu => by have d : u.cell? ⟨g, 12, none⟩ = some (.int .i64 (n.left - 1)) := hu.cells.2.2.2.2.2.2.2.2.2.2.2.2.1; go_simp⟩) Y ?_
    simp only [Act.put, List.setIfInBounds_toArray, List.set_cons_zero, List.set_cons_succ]
    refine take_at 3 _ (.bool false) rfl rfl (by kernel_rfl) (by kernel_rfl) (by kernel_rfl) (fun _ _ _ h => h) (.inl ⟨rfl, fun u hu => by go_simp⟩) Y ?_
    simp only [Act.put, List.setIfInBounds_toArray, List.set_cons_zero, List.set_cons_succ]
    refine held_row 4 gr (ndC ({ n with left := n.left - 1 }) p) rfl (by kernel_rfl) rfl rfl rfl rfl rfl X.res (by kernel_rfl) rfl (ndC_one _ _) ⟨(setRow_other V gr g _ (Ne.symm X.nr)).trans X.blk, below_setRow X.bel X.hr _⟩ ?_
    refine value_at 5 _ (.bool false) rfl rfl (by kernel_rfl) rfl (by go_simp) ⟨(setRow_other V gr g _ (Ne.symm X.nr)).trans X.blk, below_setRow X.bel X.hr _⟩ ?_
    simp only [Act.put, List.setIfInBounds_toArray, List.set_cons_zero, List.set_cons_succ]
    refine wpAnyH_done (by kernel_rfl) ?_ _
    obtain ⟨Z1, -, Z3⟩ := X.fin (ndC ({ n with left := n.left - 1 }) p)
    go_wp2_with fail
    refine bodyPost_ret (v := .tuple #[ndV ({ n with left := n.left - 1 }) p, .bool false]) ?_ rfl ⟨rfl, Z3⟩
    exact results_node Tryz.results216 _ _ gr _ _ rfl rfl Z1 rfl
  · have e1 : lessV n.left = 0 := if_neg hx
    have e2 : decide (lessV n.left = 0) = true := decide_eq_true e1
    rw [e2, e1]
    have hx2 := Lib.hid hx
    clear e1 e2 hx
    have X := N2.made2 (ndC n p) w
    go_enter Tryz.func216, Tryz.ntmps216
    go_upto_region 1 with fail
    generalize World.alloc _ _ = W at X ⊢
    generalize w.heap.size + 1 = gr at X ⊢
    generalize w.heap.size = g at X ⊢
    have c12 : W.cell? ⟨g, 12, none⟩ = some (.int .i64 n.left) := X.cell 12
    have f12 := X.free 12
    go_wp2_with fail
    refine (maxLe (n.left - 1) 0 _ (by have := hx2.out; omega)).mono ?_
    rintro e w2 ⟨rfl, rfl⟩
    go_upto_region 2 with fail
    clear c12 f12
    replace X : N2 g gr (ndC ({ n with left := 0 }) p) w _ := (X.set 12 (.int .i64 (0)))
    generalize World.setCell _ _ _ = W1 at X ⊢
    refine wp_region_held (S := fun u => Nx g ({ n with left := 0 }) p w u) (by kernel_rfl) ?_
    replace X : N2 g gr (ndC ({ n with left := 0 }) p) w { W1 with drawn := W1.drawn + 1 } := X.drew
    generalize ({ W1 with drawn := W1.drawn + 1 } : World) = V at X ⊢
    have Y : Nx g ({ n with left := 0 }) p w V := ⟨X.blk, X.bel⟩
    refine take_at 0 _ (ndV ({ n with left := 0 }) p) rfl rfl (by kernel_rfl) (by kernel_rfl) (by kernel_rfl) (fun _ _ _ h => h) (.inl ⟨rfl, fun u hu => hu.took rfl rfl⟩) Y ?_
    simp only [Act.put, List.setIfInBounds_toArray, List.set_cons_zero, List.set_cons_succ]
    refine take_at 1 _ (.pointer (some ⟨g, 12, none⟩)) rfl rfl (by kernel_rfl) (by kernel_rfl) (by kernel_rfl) (fun _ _ _ h => h) (.inl ⟨rfl, fun u hu => by go_simp⟩) Y ?_
    simp only [Act.put, List.setIfInBounds_toArray, List.set_cons_zero, List.set_cons_succ]
    refine take_at 2 _ (.int .i64 (0)) rfl rfl (by kernel_rfl) (by kernel_rfl) (by kernel_rfl) (fun _ _ _ h => h) (.inl ⟨rfl, fun u hu => by have d : u.cell? ⟨g, 12, none⟩ = some (.int .i64 (0)) := hu.cells.2.2.2.2.2.2.2.2.2.2.2.2.1; go_simp⟩) Y ?_
    simp only [Act.put, List.setIfInBounds_toArray, List.set_cons_zero, List.set_cons_succ]
    refine take_at 3 _ (.bool true) rfl rfl (by kernel_rfl) (by kernel_rfl) (by kernel_rfl) (fun _ _ _ h => h) (.inl ⟨rfl, fun u hu => by go_simp⟩) Y ?_
    simp only [Act.put, List.setIfInBounds_toArray, List.set_cons_zero, List.set_cons_succ]
    refine held_row 4 gr (ndC ({ n with left := 0 }) p) rfl (by kernel_rfl) rfl rfl rfl rfl rfl X.res (by kernel_rfl) rfl (ndC_one _ _) ⟨(setRow_other V gr g _ (Ne.symm X.nr)).trans X.blk, below_setRow X.bel X.hr _⟩ ?_
    refine value_at 5 _ (.bool true) rfl rfl (by kernel_rfl) rfl (by go_simp) ⟨(setRow_other V gr g _ (Ne.symm X.nr)).trans X.blk, below_setRow X.bel X.hr _⟩ ?_
    simp only [Act.put, List.setIfInBounds_toArray, List.set_cons_zero, List.set_cons_succ]
    refine wpAnyH_done (by kernel_rfl) ?_ _
    obtain ⟨Z1, -, Z3⟩ := X.fin (ndC ({ n with left := 0 }) p)
    go_wp2_with fail
    refine bodyPost_ret (v := .tuple #[ndV ({ n with left := 0 }) p, .bool true]) ?_ rfl ⟨rfl, Z3⟩
    exact results_node Tryz.results216 _ _ gr _ _ rfl rfl Z1 rfl
end Go.Proofs.YtngcekegngmedaaGreatDoor
