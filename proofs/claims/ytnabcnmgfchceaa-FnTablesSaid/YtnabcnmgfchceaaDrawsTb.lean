/- What is drawn of tables: DrawCodeOf, DrawHigherOf, DrawCostOf; laws.likeInts. -/
import Derived.Test.YtnabcnmgfchceaaDrawTb
import Derived.Test.YtnabcnmgfchceaaMin
set_option linter.unusedVariables false
set_option linter.unusedSimpArgs false
set_option maxRecDepth 20000
namespace Go.Proofs.Ytnabcnmgfchceaa
open Go.RowKit

/-- spec.DrawCodeOf. -/
theorem drawCodeOf {B : Nat} {a : Option Addr} {len cap : Nat} (w : World) (cd : Code B a len w) (hB : B ≤ w.heap.size) :
    Calls Try.prog 9 #[.slice a len cap] w fun e w' => ∃ (T : List Ms) (at_ : Option Addr) (c : Nat), e = .returned (.slice at_ T.length c) ∧ Tbl at_ T w' ∧ T.length ≤ 13 ∧ Below w.heap.size w w' := by
  go_enter Try.func9, Try.ntmps9
  go_wp2_with fail
  refine (newAny (B := B) w cd hB).mono ?_
  rintro e w1 ⟨rfl, g1, s1⟩
  have b1 := below_new g1
  clear g1
  generalize hp : w.heap.size = p at s1 ⊢
  replace hp := Lib.hid hp
  go_wp2_with fail
  refine (drawAnyTable (B := B) (a := a) (len := len) (cap := cap) w1 s1).mono ?_
  rintro e w2 ⟨n, v, rfl, F, h0, h13⟩
  have hlow : w.heap.size ≤ w1.heap.size := b1.size
  have b := b1.grown F.grown b1.size (fun q e => by cases e; exact Nat.le_of_eq hp.out)
  obtain ⟨av, cv, rfl⟩ := F.own.is
  obtain ⟨T, rfl, hT⟩ := F.own.tbl (by omega)
  clear s1 b1
  go_wp2_with fail
  go_ret
  exact ⟨T, _, _, rfl, hT, h13, by have := hp.out; subst this; exact b⟩
/-- spec.l15DrawAt. -/
theorem drawAt {B p : Nat} {a : Option Addr} {len cap : Nat} (w : World) (st : St B p a len cap w) :
    Calls Try.prog 34 #[.pointer (some ⟨p, 0, none⟩)] w fun e w' => ∃ (n : Nat) (v : Value) (i : Int), e = .returned (.tuple #[v, .int .i64 i]) ∧ TS w B p a len cap n v w' ∧ n ≤ 13 := by
  go_enter Try.func34, Try.ntmps34
  go_wp2_with fail
  refine (drawAnyTable (B := B) (a := a) (len := len) (cap := cap) w st).mono ?_
  rintro e w2 ⟨n, v, rfl, F, h0, h13⟩
  obtain ⟨av, cv, rfl⟩ := F.own.is
  go_wp2_with fail
  refine (onceAny (B := B) (a := a) (len := len) (cap := cap) 10 _ (by omega) (by omega) F.st).mono ?_
  rintro e w3 ⟨bb, rfl, gX, sX⟩
  replace F := F.step gX sX
  clear gX sX
  cases bb with
  | true =>
    go_wp2_with fail
    refine (fromAny (B := B) (a := a) (len := len) (cap := cap) (-1) n _ (by omega) (by omega) (by omega) F.st).mono ?_
    rintro e w4 ⟨i, i0, i1, rfl, gX, sX⟩
    replace F := F.step gX sX
    clear gX sX
    go_wp2_with fail
    go_ret2
    exact ⟨n, _, i, rfl, F, h13⟩
  | false =>
    by_cases hn : (1 : Int) < n
    · go_wp2_with fail
      refine (maxGt _ _ _ hn).mono ?_
      rintro e w4 ⟨rfl, rfl⟩
      go_wp2_with fail
      refine (belowPos (B := B) (a := a) (len := len) (cap := cap) (n : Int) _ (by omega) (by omega) F.st).mono ?_
      rintro e w5 ⟨i, i0, i1, rfl, gX, sX⟩
      replace F := F.step gX sX
      clear gX sX
      go_wp2_with fail
      go_ret2
      exact ⟨n, _, i, rfl, F, h13⟩
    · go_wp2_with fail
      refine (maxLe _ _ _ (by omega)).mono ?_
      rintro e w4 ⟨rfl, rfl⟩
      go_wp2_with fail
      refine (belowPos (B := B) (a := a) (len := len) (cap := cap) 1 _ (by omega) (by omega) F.st).mono ?_
      rintro e w5 ⟨i, i0, i1, rfl, gX, sX⟩
      replace F := F.step gX sX
      clear gX sX
      go_wp2_with fail
      go_ret2
      exact ⟨n, _, i, rfl, F, h13⟩
/-- spec.DrawHigherOf. -/
theorem drawHigherOf {B : Nat} {a : Option Addr} {len cap : Nat} (w : World) (cd : Code B a len w) (hB : B ≤ w.heap.size) :
    Calls Try.prog 11 #[.slice a len cap] w fun e w' => ∃ (T : List Ms) (at_ : Option Addr) (c : Nat) (i : Int), e = .returned (.tuple #[.slice at_ T.length c, .int .i64 i]) ∧ Tbl at_ T w' ∧ T.length ≤ 13 ∧ Below w.heap.size w w' := by
  go_enter Try.func11, Try.ntmps11
  go_wp2_with fail
  refine (newAny (B := B) w cd hB).mono ?_
  rintro e w1 ⟨rfl, g1, s1⟩
  have b1 := below_new g1
  clear g1
  generalize hp : w.heap.size = p at s1 ⊢
  replace hp := Lib.hid hp
  go_wp2_with fail
  refine (drawAt (B := B) (a := a) (len := len) (cap := cap) w1 s1).mono ?_
  rintro e w2 ⟨n, v, i, rfl, F, h13⟩
  have hlow : w.heap.size ≤ w1.heap.size := b1.size
  have b := b1.grown F.grown b1.size (fun q e => by cases e; exact Nat.le_of_eq hp.out)
  obtain ⟨av, cv, rfl⟩ := F.own.is
  obtain ⟨T, rfl, hT⟩ := F.own.tbl (by omega)
  clear s1 b1
  go_wp2_with fail
  go_ret2
  exact ⟨T, _, _, i, rfl, hT, h13, by have := hp.out; subst this; exact b⟩
/-- spec.DrawCostOf. -/
theorem drawCostOf {B : Nat} {a : Option Addr} {len cap : Nat} (w : World) (cd : Code B a len w) (hB : B ≤ w.heap.size) :
    Calls Try.prog 13 #[.slice a len cap] w fun e w' => ∃ m : Ms, e = .returned (mgV m) ∧ (Lit.int .i64 m.sz).wf = true ∧ Below w.heap.size w w' := by
  have hmade := heap_alloc_new w (.cells (mgC ⟨0, 0, 0, 0, 0, 0⟩) 32)
  have ba := below_more (Below.refl w.heap.size w) (.cells (mgC ⟨0, 0, 0, 0, 0, 0⟩) 32)
  have cda : Code B a len (w.alloc (.cells (mgC ⟨0, 0, 0, 0, 0, 0⟩) 32)) := cd.below (ba.mono hB) (Nat.le_refl _)
  have hBa : B ≤ (w.alloc (.cells (mgC ⟨0, 0, 0, 0, 0, 0⟩) 32)).heap.size := Nat.le_trans hB ba.size
  go_enter Try.func13, Try.ntmps13
  go_upto_region 1 with fail
  generalize w.alloc (.cells (mgC ⟨0, 0, 0, 0, 0, 0⟩) 32) = W at hmade ba cda hBa ⊢
  have hgr : w.heap.size ≤ w.heap.size := Nat.le_refl _
  generalize hgg : w.heap.size = gr at hmade ba hgr ⊢
  have hrl := (Array.getElem?_eq_some_iff.1 hmade).1
  go_wp2_with fail
  refine (newAny (B := B) W cda hBa).mono ?_
  rintro e w1 ⟨rfl, g1, s1⟩
  have HR := blk_grown hmade g1 (by simp)
  have b := ba.grown g1 (by omega) (fun q e => by cases e)
  generalize hp : W.heap.size = p at s1 ⊢
  have hpr : gr < p := by omega
  clear g1 hmade ba cda hBa hp
  go_wp2_with fail
  refine (belowPos (B := B) (a := a) (len := len) (cap := cap) 9 _ (by omega) (by omega) s1).mono ?_
  rintro e w2 ⟨y, y0, y1, rfl, gX, sX⟩
  replace HR := blk_grown HR gX (by simp; omega)
  replace b := b.grown gX (by have := b.size; omega) (fun q e => by cases e; omega)
  have hpw := sX.lt
  have HM := heap_alloc_new w2 (.cells (mgC ⟨0, y, 0, 0, 0, 0⟩) 32)
  have gA := World.grownBy_alloc w2 (.cells (mgC ⟨0, y, 0, 0, 0, 0⟩) 32) none
  replace HR := blk_grown HR gA (by simp)
  replace b := b.grown gA (by omega) (fun q e => by cases e)
  have s3 := sX.alloc (.cells (mgC ⟨0, y, 0, 0, 0, 0⟩) 32)
  clear gX sX gA s1
  go_upto_region 3 with fail
  generalize w2.alloc _ = W2 at HM HR b s3 ⊢
  generalize w2.heap.size = gm at HM hpw ⊢
  go_wp2_with fail
  refine (onceAny (B := B) (a := a) (len := len) (cap := cap) 6 _ (by omega) (by omega) s3).mono ?_
  rintro e w4 ⟨bb, rfl, gX, sX⟩
  replace HR := blk_grown HR gX (by simp; omega)
  replace HM := blk_grown HM gX (by simp; omega)
  replace b := b.grown gX (by have := b.size; omega) (fun q e => by cases e; omega)
  clear gX s3
  cases bb with
  | false =>
    have hwf : (Lit.int .i64 y).wf = true := Go.WalkArith.wf_i64 ⟨by omega, by omega⟩
    have hbl := b.size
    go_upto_region 5 with fail
    have c0 := cell_of_row w4 gm 0 _ _ _ HM
    have c1 := cell_of_row w4 gm 1 _ _ _ HM
    have c2 := cell_of_row w4 gm 2 _ _ _ HM
    have c3 := cell_of_row w4 gm 3 _ _ _ HM
    have c4 := cell_of_row w4 gm 4 _ _ _ HM
    have c5 := cell_of_row w4 gm 5 _ _ _ HM
    have r0 := cell_of_row w4 gr 0 _ _ _ HR
    have r1 := cell_of_row w4 gr 1 _ _ _ HR
    have r2 := cell_of_row w4 gr 2 _ _ _ HR
    have r3 := cell_of_row w4 gr 3 _ _ _ HR
    have r4 := cell_of_row w4 gr 4 _ _ _ HR
    have r5 := cell_of_row w4 gr 5 _ _ _ HR
    have z0 := frozen_of_row w4 gr 0 _ _ HR
    have z1 := frozen_of_row w4 gr 1 _ _ HR
    have z2 := frozen_of_row w4 gr 2 _ _ HR
    have z3 := frozen_of_row w4 gr 3 _ _ HR
    have z4 := frozen_of_row w4 gr 4 _ _ HR
    have z5 := frozen_of_row w4 gr 5 _ _ HR
    simp at c0 c1 c2 c3 c4 c5
    go_wp2_with fail
    have h6 := heap_setCell_same _ gr 5 _ _ (.int .i64 0) (heap_setCell_same _ gr 4 _ _ (.int .i64 0) (heap_setCell_same _ gr 3 _ _ (.int .i64 0) (heap_setCell_same _ gr 2 _ _ (.int .i64 0) (heap_setCell_same _ gr 1 _ _ (.int .i64 y) (heap_setCell_same _ gr 0 _ _ (.int .i64 0) HR)))))
    have b6 := (((((b.setCell (p := ⟨gr, 0, none⟩) hgr (.int .i64 0)).setCell (p := ⟨gr, 1, none⟩) hgr (.int .i64 y)).setCell (p := ⟨gr, 2, none⟩) hgr (.int .i64 0)).setCell (p := ⟨gr, 3, none⟩) hgr (.int .i64 0)).setCell (p := ⟨gr, 4, none⟩) hgr (.int .i64 0)).setCell (p := ⟨gr, 5, none⟩) hgr (.int .i64 0)
    generalize World.setCell _ _ _ = w7 at h6 b6 ⊢
    have e0 := cell_of_row w7 gr 0 _ _ _ h6
    have e1 := cell_of_row w7 gr 1 _ _ _ h6
    have e2 := cell_of_row w7 gr 2 _ _ _ h6
    have e3 := cell_of_row w7 gr 3 _ _ _ h6
    have e4 := cell_of_row w7 gr 4 _ _ _ h6
    have e5 := cell_of_row w7 gr 5 _ _ _ h6
    simp at e0 e1 e2 e3 e4 e5
    exact bodyPost_ret (v := mgV ⟨0, y, 0, 0, 0, 0⟩) (by simp [results, Try.results13, go_sem, e0, e1, e2, e3, e4, e5]) rfl ⟨_, rfl, hwf, by rw [hgg]; exact b6⟩
  | true =>
    go_wp2_with fail
    refine (numAny (B := B) (a := a) (len := len) (cap := cap) 8 _ (by omega) (by omega) sX).mono ?_
    rintro e w6 ⟨n, n0, n1, rfl, gX, sY⟩
    replace HR := blk_grown HR gX (by simp; omega)
    replace HM := blk_grown HM gX (by simp; omega)
    replace b := b.grown gX (by have := b.size; omega) (fun q e => by cases e; omega)
    have hwf : (Lit.int .i64 n).wf = true := Go.WalkArith.wf_i64 ⟨by omega, by omega⟩
    have d1 := cell_of_row w6 gm 1 _ _ _ HM
    have e1 := frozen_of_row w6 gm 1 _ _ HM
    clear gX sX sY
    go_upto_region 5 with fail
    replace HR := blk_grown HR (grown_set w6 gm 1 (.int .i64 n)) (by simp; omega)
    replace HM := heap_setCell_same w6 gm 1 _ _ (.int .i64 n) HM
    replace b := b.setCell (p := ⟨gm, 1, none⟩) (by show gr ≤ gm; omega) (.int .i64 n)
    clear d1 e1
    generalize World.setCell _ _ _ = w5 at HR HM b ⊢
    have hbl := b.size
    have c0 := cell_of_row w5 gm 0 _ _ _ HM
    have c1 := cell_of_row w5 gm 1 _ _ _ HM
    have c2 := cell_of_row w5 gm 2 _ _ _ HM
    have c3 := cell_of_row w5 gm 3 _ _ _ HM
    have c4 := cell_of_row w5 gm 4 _ _ _ HM
    have c5 := cell_of_row w5 gm 5 _ _ _ HM
    have r0 := cell_of_row w5 gr 0 _ _ _ HR
    have r1 := cell_of_row w5 gr 1 _ _ _ HR
    have r2 := cell_of_row w5 gr 2 _ _ _ HR
    have r3 := cell_of_row w5 gr 3 _ _ _ HR
    have r4 := cell_of_row w5 gr 4 _ _ _ HR
    have r5 := cell_of_row w5 gr 5 _ _ _ HR
    have z0 := frozen_of_row w5 gr 0 _ _ HR
    have z1 := frozen_of_row w5 gr 1 _ _ HR
    have z2 := frozen_of_row w5 gr 2 _ _ HR
    have z3 := frozen_of_row w5 gr 3 _ _ HR
    have z4 := frozen_of_row w5 gr 4 _ _ HR
    have z5 := frozen_of_row w5 gr 5 _ _ HR
    simp at c0 c1 c2 c3 c4 c5
    go_wp2_with fail
    have h6 := heap_setCell_same _ gr 5 _ _ (.int .i64 0) (heap_setCell_same _ gr 4 _ _ (.int .i64 0) (heap_setCell_same _ gr 3 _ _ (.int .i64 0) (heap_setCell_same _ gr 2 _ _ (.int .i64 0) (heap_setCell_same _ gr 1 _ _ (.int .i64 n) (heap_setCell_same _ gr 0 _ _ (.int .i64 0) HR)))))
    have b6 := (((((b.setCell (p := ⟨gr, 0, none⟩) hgr (.int .i64 0)).setCell (p := ⟨gr, 1, none⟩) hgr (.int .i64 n)).setCell (p := ⟨gr, 2, none⟩) hgr (.int .i64 0)).setCell (p := ⟨gr, 3, none⟩) hgr (.int .i64 0)).setCell (p := ⟨gr, 4, none⟩) hgr (.int .i64 0)).setCell (p := ⟨gr, 5, none⟩) hgr (.int .i64 0)
    generalize World.setCell _ _ _ = w7 at h6 b6 ⊢
    have e0 := cell_of_row w7 gr 0 _ _ _ h6
    have e1 := cell_of_row w7 gr 1 _ _ _ h6
    have e2 := cell_of_row w7 gr 2 _ _ _ h6
    have e3 := cell_of_row w7 gr 3 _ _ _ h6
    have e4 := cell_of_row w7 gr 4 _ _ _ h6
    have e5 := cell_of_row w7 gr 5 _ _ _ h6
    simp at e0 e1 e2 e3 e4 e5
    exact bodyPost_ret (v := mgV ⟨0, n, 0, 0, 0, 0⟩) (by simp [results, Try.results13, go_sem, e0, e1, e2, e3, e4, e5]) rfl ⟨_, rfl, hwf, by rw [hgg]; exact b6⟩
/-- laws.likeInts, of two lists that hold the same. -/
theorem likeIn (a b : Option Addr) (D : List Int) (c c' : Nat) (w : World) (ha : Nums a D w) (hb : Nums b D w) :
    Calls Try.prog 15 #[.slice a D.length c, .slice b D.length c'] w fun e w' => e = .returned (.bool true) ∧ ∃ n, w' = w.drewN n := by
  have hm := ha.1
  unfold maxLen at hm
  go_enter Try.func15, Try.ntmps15
  go_wp2
  go_loopw [5] (fun i wr => ∃ (k n : Nat), k ≤ D.length ∧ i = .int .i64 k ∧ wr = w.drewN n) (fun i _ => D.length - (intOf i).toNat)
  case atStart => exact ⟨0, 0, Nat.zero_le _, rfl, rfl⟩
  case round =>
    obtain ⟨k, n, hk, rfl, rfl⟩ := hrel
    by_cases hlt : k < D.length
    · obtain ⟨bl, o, rfl, hc⟩ := ha.2.2 k hlt
      obtain ⟨bl', o', rfl, hc'⟩ := hb.2.2 k hlt
      have hki : (k : Int) < D.length := by omega
      generalize nth D k = v at hc hc'
      go_wp2
      go_quiet (fail)
      go_wp2
      go_roundw
      case rel => exact ⟨k + 1, _, by omega, by go_num, rfl⟩
      case measure => simp [intOf]; omega
    · go_wp2
      go_ret
      exact ⟨rfl, n, rfl⟩
end Go.Proofs.Ytnabcnmgfchceaa

