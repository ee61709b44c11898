/- impl.copiedFrame, impl.copiedFrames: each frame in the answer's own row, its data in a row of its own. -/
import Derived.Test.YtnhmecabppaboaaGreatM14
import Derived.Laws.CopyOwn
import Derived.Deep.CutRange

set_option linter.unusedVariables false
set_option linter.unusedSimpArgs false
set_option maxRecDepth 20000
namespace Go.Proofs.YtnhmecabppaboaaGreat
open Go.RowKit

theorem nums_row {D : List Int} {w : World} {g B : Nat} (hw : ∀ x ∈ D, (Lit.int .i64 x).wf = true) (hm : D.length ≤ maxLen) (hB : B ≤ g) (hg : w.heap[g]? = some (.cells (D.map (Value.int .i64)).toArray 2 (0, 0))) :
    OwnI B D (.slice (some ⟨g, 0, none⟩) D.length D.length) w := by
  refine ⟨⟨by simp, .inr ⟨g, D.length, _, rfl, hB, hg, Nat.le_refl _, hm, by simp, ?_⟩⟩, hw⟩
  simp [List.take_of_length_le]
theorem splice_all {L cs : List Value} (h : cs.length = L.length) : splice L 0 cs = cs := by simp [splice, h]

set_option maxHeartbeats 1000000 in
/-- impl.copiedFrame. -/
theorem copiedFr (id : Int) (rm : Bool) (ln : Int) (a : Option Addr) (D : List Int) (c : Nat) (w : World) (hd : Nums a D w) (h : D.length ≤ 1048576) :
    Calls Tryz.prog 87 #[frV id rm ln a D.length c] w fun e w' =>
      ∃ a', e = .returned (frV id rm ln a' D.length D.length) ∧ OwnI w.heap.size D (.slice a' D.length D.length) w' ∧ Below w.heap.size w w' := by
  have hmk := make_ints D.length h
  go_enter Tryz.func87, Tryz.ntmps87
  have k0 := World.grownBy_alloc w (.cells #[.int .i64 id, .bool rm, .int .i64 ln, .slice a D.length c] 35) none
  have B0 := Bx.made w (.int .i64 id) (.bool rm) (.int .i64 ln) (.slice a D.length c)
  have k1 := World.grownBy_alloc (w.alloc (.cells #[.int .i64 id, .bool rm, .int .i64 ln, .slice a D.length c] 35)) (.cells #[.int .i64 0, .bool false, .int .i64 0, .slice none 0 0] 35) none
  have R0 := Bx.made (w.alloc (.cells #[.int .i64 id, .bool rm, .int .i64 ln, .slice a D.length c] 35)) (.int .i64 0) (.bool false) (.int .i64 0) (.slice none 0 0)
  replace B0 := B0.kept k1 (by simp)
  have G := grown_trans k0 k1
  clear k0 k1
  go_upto_region 1 with fail
  have hsz : (w.alloc (.cells #[.int .i64 id, .bool rm, .int .i64 ln, .slice a D.length c] 35)).heap.size = w.heap.size + 1 := by simp
  rw [hsz] at R0
  clear hsz
  generalize (w.alloc (.cells #[.int .i64 id, .bool rm, .int .i64 ln, .slice a D.length c] 35)).alloc (.cells #[.int .i64 0, .bool false, .int .i64 0, .slice none 0 0] 35) = W at G B0 R0 ⊢
  have hne : w.heap.size ≠ w.heap.size + 1 := by omega
  have hlow : w.heap.size ≤ w.heap.size + 1 := by omega
  generalize w.heap.size + 1 = gr at R0 hne hlow ⊢
  have hd2 := hd.below (below_new G)
  have hlt := G.size
  have hbW : w.heap.size < W.heap.size ∧ gr < W.heap.size := ⟨B0.lt, R0.lt⟩
  have c3 := B0.c3
  go_upto_region 2 with fail
  clear hmk c3
  have hg := heap_alloc_new W (.cells (irow D.length fun _ => 0) 2)
  have b3 : Below W.heap.size W (W.alloc (.cells (irow D.length fun _ => 0) 2)) := (Below.refl _ _).alloc (Nat.le_refl _) _
  replace B0 := B0.kept (grown_at b3) (by simp)
  replace R0 := R0.kept (grown_at b3) (by simp)
  have hd3 := hd2.below b3
  have b4 : Below W.heap.size (W.alloc (.cells (irow D.length fun _ => 0) 2)) (W.alloc (.cells (irow D.length fun _ => 0) 2)) := Below.refl _ _
  have G3 := grown_none G (World.grownBy_alloc W (.cells (irow D.length fun _ => 0) 2) none)
  clear hd2 b3 G hd
  generalize W.alloc (.cells (irow D.length fun _ => 0) 2) = W3 at *
  generalize W.heap.size = g at *
  have c3 := B0.c3
  obtain ⟨cs, hcs⟩ : ∃ cs, cs = D.map (Value.int .i64) := ⟨_, rfl⟩
  have hcl : cs.length = D.length := by rw [hcs]; simp
  have HC := Lib.hid hcs
  have hsrc := Lib.hid (show 0 < cs.length → (∃ ad, a = some ad ∧ ∀ j v, cs[j]? = some v → W3.cell? (ad.add j) = some v) by
    intro h0
    obtain ⟨b, o, rfl, _⟩ := hd3.2.2 0 (by omega)
    refine ⟨_, rfl, fun j v hv => ?_⟩
    have hj : j < D.length := by
      have := (List.getElem?_eq_some_iff.1 hv).1
      omega
    obtain ⟨b', o', e, hc⟩ := hd3.2.2 j hj
    cases e
    have hadd : (⟨b, o, none⟩ : Addr).add j = ⟨b, o + j, none⟩ := by unfold Addr.add; split <;> simp_all
    rw [hadd, hc, ← hv, hcs]
    simp [nth, List.getD_eq_getElem?_getD, List.getElem?_eq_getElem hj])
  have hone : ∀ v ∈ cs, v.oneCell' = true := by
    intro u hu
    rw [hcs] at hu
    obtain ⟨z, _, rfl⟩ := List.mem_map.1 hu
    rfl
  have hone' := Lib.hid hone
  clear hone hcs
  go_wp2_with (refine wpList_copy_splice rfl _ _ 33 33 rfl 2 Tryz.underlying33 (by kernel_rfl) (some ⟨g, 0, none⟩) a D.length D.length D.length c rfl rfl g 0 (irow D.length fun _ => 0).toList 2 (by simpa using hg) cs ?c1 (fun h0 => ⟨rfl, hsrc.out h0⟩) ?c2 hone'.out g W3 b4 (Nat.le_refl _) ?_)
  case c1 => rw [hcl]; exact (Nat.min_self _).symm
  case c2 => rw [hcl]; simp [irow]
  intro w2 hg2 b2
  have hg3 := hg2.out
  rw [splice_all (by rw [hcl]; simp [irow]), HC.out] at hg3
  have own : OwnI w.heap.size D (.slice (some ⟨g, 0, none⟩) D.length D.length) w2 := nums_row hd3.2.1 hd3.1 (by omega) hg3
  clear hg2 hg3 HC hsrc hone'
  replace G := (below_new G3).trans (b2.mono (show w.heap.size ≤ g by omega))
  replace B0 : Bx _ _ _ _ _ w2 := (b2.block _ hbW.1).trans B0
  replace R0 : Bx _ _ _ _ _ w2 := (b2.block _ hbW.2).trans R0
  clear b2 b4 c3 hd3 hg G3
  have c3 := B0.c3
  have f3 := B0.free 3
  go_upto_region 4 with fail
  have kk := grown_set w2 w.heap.size 3 (.slice (some ⟨g, 0, none⟩) D.length D.length)
  replace own := own.kept kk (.inr (own.ne_box B0))
  replace G := G.setCell (p := ⟨w.heap.size, 3, none⟩) (Nat.le_refl _) (.slice (some ⟨g, 0, none⟩) D.length D.length)
  replace B0 := B0.set3 (.slice (some ⟨g, 0, none⟩) D.length D.length)
  replace R0 := R0.kept kk (by simp; omega)
  clear kk c3 f3
  generalize w2.setCell ⟨w.heap.size, 3, none⟩ (.slice (some ⟨g, 0, none⟩) D.length D.length) = W4 at own G B0 R0 ⊢
  have r0 := B0.c0
  have r1 := B0.c1
  have r2 := B0.c2
  have r3 := B0.c3
  have y0 := R0.c0
  have y1 := R0.c1
  have y2 := R0.c2
  have y3 := R0.c3
  have q0 := R0.free 0
  have q1 := R0.free 1
  have q2 := R0.free 2
  have q3 := R0.free 3
  go_wp2_with fail
  have k : W4.grownBy ((((W4.setCell ⟨gr, 0, none⟩ (.int .i64 id)).setCell ⟨gr, 1, none⟩ (.bool rm)).setCell ⟨gr, 2, none⟩ (.int .i64 ln)).setCell ⟨gr, 3, none⟩ (.slice (some ⟨g, 0, none⟩) D.length D.length)) (some gr) :=
    grown_trans (grown_trans (grown_trans (grown_set _ _ _ _) (grown_set _ _ _ _)) (grown_set _ _ _ _)) (grown_set _ _ _ _)
  have dR := (((R0.set0 (.int .i64 id)).set1 (.bool rm)).set2 (.int .i64 ln)).set3 (.slice (some ⟨g, 0, none⟩) D.length D.length)
  have dO := own.kept k (.inr (own.ne_box R0))
  have dG := G.grown k G.size (fun q e => by cases e; exact hlow)
  generalize (((W4.setCell ⟨gr, 0, none⟩ (.int .i64 id)).setCell ⟨gr, 1, none⟩ (.bool rm)).setCell ⟨gr, 2, none⟩ (.int .i64 ln)).setCell ⟨gr, 3, none⟩ (.slice (some ⟨g, 0, none⟩) D.length D.length) = Wx at dR dO dG ⊢
  have z0 := dR.c0
  have z1 := dR.c1
  have z2 := dR.c2
  have z3 := dR.c3
  exact bodyPost_ret (v := frV id rm ln (some ⟨g, 0, none⟩) D.length D.length) (by simp [results, Tryz.results87, go_sem, z0, z1, z2, z3]) rfl ⟨_, rfl, dO, dG⟩
/-- impl.copiedFrames. -/
theorem copiedFramesB (a : Option Addr) (L : List Frm) (c : Nat) (w : World) (hd : Frs a L w) (h : L.length ≤ 1048576) (hs8 : ∀ j, j < L.length → (nthF L j).D.length ≤ 1048576) :
    Calls Tryz.prog 67 #[.slice a L.length c] w (GotF L w) := by
  have hmk := make_frames L.length (by omega)
  go_enter Tryz.func67, Tryz.ntmps67
  go_wp2_with fail
  clear hmk
  go_loopw [11] (fun i wr => ∃ (k : Nat) (cur : Array Value), k ≤ L.length ∧ i = .int .i64 k ∧ RowF w.heap.size L.length k L cur wr ∧ FarC k cur ∧ Below w.heap.size w wr) (fun i _ => L.length - (intOf i).toNat)
  case atStart => exact ⟨0, _, Nat.zero_le _, rfl, ⟨heap_alloc_new _ _, by simp [madeCells], fun j hj => absurd hj (by omega)⟩, fun i j hi => absurd hi (by omega), (Below.refl _ _).alloc (Nat.le_refl _) _⟩
  case round =>
    obtain ⟨k, cur, hk, rfl, R, FC, b⟩ := hrel
    by_cases hlt : k < L.length
    · obtain ⟨g, o, ad, cc, rfl, ⟨c0, c1, c2, c3⟩, hn⟩ := (hd.below b).2 k hlt
      have hs := hs8 k hlt
      have hf0 : nthF L k = ⟨(nthF L k).id, (nthF L k).rm, (nthF L k).ln, (nthF L k).D⟩ := rfl
      generalize (nthF L k).id = id at *
      generalize (nthF L k).rm = rm at *
      generalize (nthF L k).ln = ln at *
      generalize (nthF L k).D = D at *
      have hf := Lib.hid hf0
      clear hf0
      go_upto_region 5 with fail
      have kb : Below wr.heap.size wr (wr.alloc (.cells #[.int .i64 id, .bool rm, .int .i64 ln, .slice ad D.length cc] 35)) := (Below.refl _ _).alloc (Nat.le_refl _) _
      have X := Bx.made wr (.int .i64 id) (.bool rm) (.int .i64 ln) (.slice ad D.length cc)
      replace R := R.below kb
      replace hn := hn.below kb
      replace b := Below.then2 b kb
      clear kb c0 c1 c2 c3
      generalize wr.alloc (.cells #[.int .i64 id, .bool rm, .int .i64 ln, .slice ad D.length cc] 35) = W1 at *
      generalize wr.heap.size = gb at *
      have x0 := X.c0
      have x1 := X.c1
      have x2 := X.c2
      have x3 := X.c3
      go_wp2_with fail
      refine (copiedFr _ _ _ _ _ _ _ hn hs).mono ?_
      rintro e w2 ⟨a', rfl, ho, b2⟩
      have hsep := Lib.hid (R.sep fun q hq => (ho.1.lt q hq).1)
      have ho' := ho.mono (B' := w.heap.size + 1) R.lt
      replace R := R.below b2
      replace b := Below.then2 b b2
      clear b2 hn ho x0 x1 x2 x3 X
      obtain ⟨x0, x1, x2, x3, y0, y1, y2, y3⟩ := R.cells hlt
      have z0 := R.free (k * 4)
      have z1 := R.free (k * 4 + 1)
      have z2 := R.free (k * 4 + 2)
      have z3 := R.free (k * 4 + 3)
      go_wp2_with fail
      go_roundw
      case rel =>
        obtain ⟨cur', R', r1, r2⟩ := R.put hlt hf.out ho'
        exact ⟨k + 1, cur', by omega, by go_num, R', FC.put r1 r2 hsep.out, (((b.setCell (Nat.le_refl _) _).setCell (Nat.le_refl _) _).setCell (Nat.le_refl _) _).setCell (Nat.le_refl _) _⟩
      case measure => simp [intOf]; omega
    · obtain rfl : k = L.length := by omega
      obtain ⟨M, hM, hO, hF⟩ := R.own rfl FC hd.1 (Nat.le_refl _)
      go_wp2_with fail
      go_ret
      exact ⟨M, _, _, rfl, hM, hO, hF, b⟩
theorem copiedFrames (a : Option Addr) (L : List Frm) (c : Nat) (w : World) (hd : Frs a L w) (h : L.length ≤ 1000000) (hs8 : ∀ j, j < L.length → (nthF L j).D.length ≤ 1048576) :
    Calls Tryz.prog 67 #[.slice a L.length c] w (GotF L w) := copiedFramesB a L c w hd (by omega) hs8
end Go.Proofs.YtnhmecabppaboaaGreat
