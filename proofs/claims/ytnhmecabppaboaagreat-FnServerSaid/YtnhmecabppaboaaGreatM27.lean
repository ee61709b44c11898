/- The model's server, bit by bit: spec.l14Tick. -/
import Derived.Test.YtnhmecabppaboaaGreatM24
import Derived.Test.YtnhmecabppaboaaGreatM25
import Derived.Test.YtnhmecabppaboaaGreatM26
import Derived.Test.YtnhmecabppaboaaGreatM3
import Derived.Test.YtnhmecabppaboaaGreatM19

set_option linter.unusedVariables false
set_option linter.unusedSimpArgs false
namespace Go.Proofs.YtnhmecabppaboaaGreat
open Go.RowKit

/-- What stands while the model ticks: the argument's block, the result's, the boxes of the caller's own. -/
structure Mdl (g G cap c : Nat) (s : Srv) (L H : Nat → Nat) (w0 w : World) : Prop where
  arg : w.heap[g]? = some (.cells (svC (some ⟨G, 0, none⟩) s.bx.length c s.busy s.node s.rank s.now) 26 (0, 0))
  res : w.heap[g + 1]? = some (.cells (svC none 0 0 0 0 0 0) 26 (0, 0))
  box : BoxO False G cap (fun j => j < s.bx.length) s.bx L H w
  kp : Kp (fun q => q ≠ G) w0 w
  low : w0.heap.size = g ∧ G < g ∧ s.bx.length ≤ cap ∧ ∀ j, j < s.bx.length → H j ≤ g ∨ g + 2 ≤ L j
theorem Kp.mid {Y : Nat → Prop} {a b c : World} {lo hi : Nat} (k : Kp Y a b) (m : Mid lo hi b c) (h : a.heap.size ≤ lo) : Kp Y a c :=
  ⟨Nat.le_trans k.size m.size, fun q hq hl => (m.block q (Nat.lt_of_lt_of_le hl k.size) (by omega)).trans (k.block q hq hl), m.os.trans k.os, m.tape.trans k.tape, m.output.trans k.output⟩
section
variable {g G cap c : Nat} {s : Srv} {L H : Nat → Nat} {w0 w w' : World}
theorem Mdl.below (h : Mdl g G cap c s L H w0 w) (b : Below w.heap.size w w') : Mdl g G cap c s L H w0 w' :=
  ⟨blkW h.arg b, blkW h.res b, h.box.below b, h.kp.trans (Kp.ofBelow b), h.low⟩
theorem Mdl.cell (h : Mdl g G cap c s L H w0 w) (j : Nat) : w.cell? ⟨g, j, none⟩ = (svC (some ⟨G, 0, none⟩) s.bx.length c s.busy s.node s.rank s.now)[j]? := cell_of_row w g j _ _ _ h.arg
theorem Mdl.free (h : Mdl g G cap c s L H w0 w) (j : Nat) : w.frozen? ⟨g, j, none⟩ = false := frozen_of_row w g j _ _ h.arg
theorem Mdl.set (h : Mdl g G cap c s L H w0 w) (k : Nat) (x : Value) {busy node rank now : Int} (he : (svC (some ⟨G, 0, none⟩) s.bx.length c s.busy s.node s.rank s.now).setIfInBounds k x = svC (some ⟨G, 0, none⟩) s.bx.length c busy node rank now) : Mdl g G cap c ⟨s.bx, busy, node, rank, now⟩ L H w0 (w.setCell ⟨g, k, none⟩ x) := by
  have m := mid_cell w g k x
  have hl := h.low
  refine ⟨by rw [← he]; exact heap_setCell_same _ _ _ _ _ _ h.arg, (m.block (g + 1) (Array.getElem?_eq_some_iff.1 h.res).1 (by omega)).trans h.res, h.box.kp (Y := fun q => q ≠ g) ⟨m.size, fun q hq hl => m.block q hl (by omega), m.os, m.tape, m.output⟩ (by show G ≠ g; omega) (fun j hj q h1 h2 => by
    show q ≠ g
    have := hl.2.2.2 j hj
    omega), h.kp.mid m (by omega), hl⟩
/-- Something turns above, where no box of the caller's lies. -/
theorem Mdl.up {hi : Nat} (h : Mdl g G cap c s L H w0 w) (m : Mid (g + 2) hi w w') (hH : ∀ j, j < s.bx.length → H j ≤ g) : Mdl g G cap c s L H w0 w' := by
  have hl := h.low
  refine ⟨(m.block g (Array.getElem?_eq_some_iff.1 h.arg).1 (by omega)).trans h.arg, (m.block (g + 1) (Array.getElem?_eq_some_iff.1 h.res).1 (by omega)).trans h.res, h.box.kp (Y := fun q => q < g + 2) ⟨m.size, fun q hq hl => m.block q hl (.inl hq), m.os, m.tape, m.output⟩ (by show G < g + 2; omega) (fun j hj q h1 h2 => by
    show q < g + 2
    have := hH j hj
    omega), h.kp.mid m (by omega), hl⟩
/-- The end: the server is laid in the result's block. -/
theorem Mdl.fin (h : Mdl g G cap c s L H w0 w) : ∀ w5, w5 = (((((w.setCell ⟨g + 1, 0, none⟩ (.slice (some ⟨G, 0, none⟩) s.bx.length c)).setCell ⟨g + 1, 1, none⟩ (.int .i64 s.busy)).setCell ⟨g + 1, 2, none⟩ (.int .i64 s.node)).setCell ⟨g + 1, 3, none⟩ (.int .i64 s.rank)).setCell ⟨g + 1, 4, none⟩ (.int .i64 s.now)) →
    w5.heap[g + 1]? = some (.cells (svC (some ⟨G, 0, none⟩) s.bx.length c s.busy s.node s.rank s.now) 26 (0, 0)) ∧ BoxO False G cap (fun j => j < s.bx.length) s.bx L H w5 ∧ Kp (fun q => q ≠ G) w0 w5 ∧ Mid (g + 1) (g + 2) w w5 := by
  rintro w5 rfl
  obtain ⟨h5, m⟩ := set5 h.res (.slice (some ⟨G, 0, none⟩) s.bx.length c) (.int .i64 s.busy) (.int .i64 s.node) (.int .i64 s.rank) (.int .i64 s.now)
  have hl := h.low
  exact ⟨h5, h.box.kp (Y := fun q => q ≠ g + 1) ⟨m.size, fun q hq hl => m.block q hl (by omega), m.os, m.tape, m.output⟩ (by show G ≠ g + 1; omega) (fun j hj q h1 h2 => by
    show q ≠ g + 1
    have := hl.2.2.2 j hj
    omega), h.kp.mid m (by omega), m⟩
end
theorem midc {w w' : World} {q o lo hi : Nat} {v : Value} (c : w.cell? ⟨q, o, none⟩ = some v) (m : Mid lo hi w w') (hq : q < lo) : w'.cell? ⟨q, o, none⟩ = some v :=
  (World.cell?_of_block (a := ⟨q, o, none⟩) (m.block q (World.block_lt_of_cell? w _ c) (.inl hq))).trans c
/-- What the tell of the model reads. -/
abbrev R25 (g G n c jn : Nat) (now : Int) (gx o lb cl y : Nat) (f : Frm) (ad : Option Addr) (cc : Nat) (u : World) : Prop :=
  ((u.cell? ⟨g, 0, none⟩ = some (.slice (some ⟨G, 0, none⟩) n c) ∧ u.cell? ⟨g, 2, none⟩ = some (.int .i64 (jn : Int))) ∧ u.cell? ⟨g, 4, none⟩ = some (.int .i64 now)) ∧ u.cell? ⟨G, jn, none⟩ = some (.slice (some ⟨gx, o, none⟩) lb cl) ∧ (u.cell? ⟨gx, y, none⟩ = some (.int .i64 f.id) ∧ u.cell? ⟨gx, y + 1, none⟩ = some (.bool f.rm) ∧ u.cell? ⟨gx, y + 2, none⟩ = some (.int .i64 f.ln) ∧ u.cell? ⟨gx, y + 3, none⟩ = some (.slice ad f.D.length cc))
theorem R25.mid {g G n c jn gx o lb cl y cc lo hi : Nat} {now : Int} {f : Frm} {ad : Option Addr} {w w' : World} (h : R25 g G n c jn now gx o lb cl y f ad cc w) (m : Mid lo hi w w') (h1 : g < lo) (h2 : G < lo) (h3 : gx < lo) : R25 g G n c jn now gx o lb cl y f ad cc w' := by
  obtain ⟨⟨⟨a0, a1⟩, a2⟩, a3, a4, a5, a6, a7⟩ := h
  exact ⟨⟨⟨midc a0 m h1, midc a1 m h1⟩, midc a2 m h1⟩, midc a3 m h2, midc a4 m h3, midc a5 m h3, midc a6 m h3, midc a7 m h3⟩
theorem R25.below {g G n c jn gx o lb cl y cc : Nat} {now : Int} {f : Frm} {ad : Option Addr} {w w' : World} (h : R25 g G n c jn now gx o lb cl y f ad cc w) (b : Below w.heap.size w w') : R25 g G n c jn now gx o lb cl y f ad cc w' := by
  obtain ⟨⟨⟨a0, a1⟩, a2⟩, a3, a4, a5, a6, a7⟩ := h
  exact ⟨⟨⟨(b.cell (World.block_lt_of_cell? _ _ a0)).trans a0, (b.cell (World.block_lt_of_cell? _ _ a1)).trans a1⟩, (b.cell (World.block_lt_of_cell? _ _ a2)).trans a2⟩, (b.cell (World.block_lt_of_cell? _ _ a3)).trans a3, (b.cell (World.block_lt_of_cell? _ _ a4)).trans a4, (b.cell (World.block_lt_of_cell? _ _ a5)).trans a5, (b.cell (World.block_lt_of_cell? _ _ a6)).trans a6, (b.cell (World.block_lt_of_cell? _ _ a7)).trans a7⟩
theorem wpList_go {ops : Array Oper} {rest : List Oper} {p : Oper} {a : Act} {w : World} {Q : Exit → Act → World → Prop} (hgd : p.guard = none) (h : p.wp Tryz.prog a w (wpList Tryz.prog ops Q rest) Q) : wpList Tryz.prog ops Q (p :: rest) a w := by
  unfold wpList
  rw [if_pos (by simp [Region.wanted, hgd])]
  exact .inl h
/-- The answer. -/
def TikO (s : Srv) (G cap c : Nat) (L H : Nat → Nat) (w : World) (e : Ending) (w' : World) : Prop :=
  ∃ L' H' ae ce PE LE HE, e = .returned (.tuple #[svV (some ⟨G, 0, none⟩) (tikS s).bx.length c (tikS s).busy (tikS s).node (tikS s).rank (tikS s).now, .slice ae (tikE s).length ce]) ∧ BoxO False G cap (fun j => j < (tikS s).bx.length) (tikS s).bx L' H' w' ∧ (∀ j, (L' j = L j ∧ H' j = H j) ∨ w.heap.size ≤ L' j) ∧ Kp (fun q => q ≠ G) w w' ∧ RowE OwnE w.heap.size (tikE s).length (tikE s) PE LE HE (.slice ae (tikE s).length ce) w'
set_option maxHeartbeats 64000000 in
set_option maxRecDepth 20000 in
/-- spec.l14Tick. -/
theorem specTickS (G cap c : Nat) (s : Srv) (L H : Nat → Nat) (w : World) (HO : BoxO False G cap (fun j => j < s.bx.length) s.bx L H w) (hcap : s.bx.length ≤ cap) (hr : srvB s = true) :
    Calls Tryz.prog 38 #[svV (some ⟨G, 0, none⟩) s.bx.length c s.busy s.node s.rank s.now] w (TikO s G cap c L H w) := by
  obtain ⟨hb, hb1, hb2, hb3, hb4, hb5⟩ := srvB_iff.1 hr
  have hl6 := (boxesB_iff.1 hb).2.1
  have hGlt := HO.lt
  have hHlt := fun j (hj : j < s.bx.length) => (HO.out j hj).2.1
  obtain ⟨HC, HR, B⟩ := two_made w (svC (some ⟨G, 0, none⟩) s.bx.length c s.busy s.node s.rank s.now) (svC none 0 0 0 0 0 0) 26 26
  have hz : ((w.alloc (.cells (svC (some ⟨G, 0, none⟩) s.bx.length c s.busy s.node s.rank s.now) 26)).alloc (.cells (svC none 0 0 0 0 0 0) 26)).heap.size = w.heap.size + 2 := by simp
  go_enter Tryz.func38, Tryz.ntmps38
  go_upto_region 1 with fail
  have S : Mdl w.heap.size G cap c s L H w ((w.alloc (.cells (svC (some ⟨G, 0, none⟩) s.bx.length c s.busy s.node s.rank s.now) 26)).alloc (.cells (svC none 0 0 0 0 0 0) 26)) := ⟨HC, HR, HO.below B, Kp.ofBelow B, rfl, hGlt, hcap, fun j hj => .inl (hHlt j hj)⟩
  clear HC HR B
  generalize (w.alloc (.cells (svC (some ⟨G, 0, none⟩) s.bx.length c s.busy s.node s.rank s.now) 26)).alloc (.cells (svC none 0 0 0 0 0 0) 26) = W at S hz ⊢
  go_upto_region 2 with fail
  have RE : RowE OwnE w.heap.size 0 [] (fun _ => (none, 0)) (fun _ => 0) (fun _ => 0) (.slice (some ⟨W.heap.size, 0, none⟩) 0 0) (W.alloc (.cells #[] 43)) := ⟨World.ownsRow_made (base := w.heap.size) (e := 43) (size := 7) W #[] 0 (by omega) (Nat.zero_le _) rfl, fun j hj => absurd hj (Nat.not_lt_zero _), fun j hj => absurd hj (Nat.not_lt_zero _), fun i j _ hj => absurd hj (Nat.not_lt_zero _), fun j hj => absurd hj (Nat.not_lt_zero _), fun g hg => by cases hg; simp⟩
  replace S := S.below (below_more (Below.refl W.heap.size W) (.cells #[] 43))
  have hzE : W.heap.size < (W.alloc (.cells #[] 43)).heap.size := by simp
  generalize hWE : W.alloc _ = W1 at S RE hzE ⊢
  clear hWE
  generalize hgE : W.heap.size = gE at *
  clear hgE
  subst hz
  have hvn : ∀ q, (Value.slice (some ⟨w.heap.size + 2, 0, none⟩) 0 0).ownBlock = some q → w.heap.size + 2 ≤ q := fun q hq => by simp [Value.ownBlock] at hq; omega
  have c4 := S.cell 4
  by_cases hn : s.now < 100000
  · have hnd : decide (100000 ≤ s.now) = false := decide_eq_false (by omega)
    have hnd' : decide (s.now ≥ 100000) = false := decide_eq_false (by omega)
    have hTS : Hid (tikS s = bitS s ∧ tikE s = bitE s) := Lib.hid ⟨if_pos hn, if_pos hn⟩
    go_upto_region 4 with fail
    clear c4 hnd hnd'
    have c1 := S.cell 1
    by_cases h0 : s.busy = 0
    · have hd0 : decide (s.busy = 0) = true := decide_eq_true h0
      have ht : Hid (setS s = begS s) := Lib.hid (setS_free h0)
      have hd0b : (s.busy == 0) = true := by rw [h0]; rfl
      replace h0 := Lib.hid h0
      go_wp2_with fail
      clear c1 hd0 hd0b
      have b0 := below_more (below_more (Below.refl W1.heap.size W1) (.cells #[] 35)) (.cells #[] 2)
      have R0 : RowOf W1.heap.size (.slice (some ⟨W1.heap.size, 0, none⟩) 0 0) [] ((W1.alloc (.cells #[] 35)).alloc (.cells #[] 2)) :=
        RowOf.below (World.ownsRow_made (base := W1.heap.size) (e := 35) (size := 4) W1 #[] 0 (Nat.le_refl _) (Nat.zero_le _) rfl) (below_more (Below.refl _ _) _)
      have I0 : OwnI W1.heap.size [] (.slice (some ⟨W1.heap.size + 1, 0, none⟩) 0 0) ((W1.alloc (.cells #[] 35)).alloc (.cells #[] 2)) :=
        ⟨by
          have := World.ownsRow_made (base := W1.heap.size) (e := 2) (size := 1) (W1.alloc (.cells #[] 35)) #[] 0 (by simp) (Nat.zero_le _) rfl
          simpa using this, fun z hz => by cases hz⟩
      generalize (W1.alloc (.cells #[] 35)).alloc (.cells #[] 2) = W2 at b0 R0 I0 ⊢
      generalize Value.slice (some ⟨W1.heap.size, 0, none⟩) 0 0 = v50 at R0 ⊢
      generalize Value.slice (some ⟨W1.heap.size + 1, 0, none⟩) 0 0 = v60 at I0 ⊢
      go_loopw [5, 6, 7, 21, 22, 23, 24, 25, 26, 27, 28, 29, 30, 31, 32, 33, 34, 35, 36, 37, 38, 39, 40, 41, 42, 43, 44, 45, 46, 47, 48] (fun v5 v6 i _ _ _ _ _ _ _ _ _ _ _ _ _ _ _ _ _ _ _ _ _ _ _ _ _ _ _ _ wr => ∃ (k : Nat) (M : List (Frm × Value)), k ≤ s.bx.length ∧ i = .int .i64 k ∧ (M.map fun m => m.1) = firF s.bx k ∧ OwnI W1.heap.size ((firK s.bx k).map fun x => (x.1 : Int)) v6 wr ∧ RowOf W1.heap.size v5 M wr ∧ (∀ u, Kp (fun q => q ≠ w.heap.size) W1 u → Dat M u) ∧ Below W1.heap.size W1 wr) (fun _ _ i _ _ _ _ _ _ _ _ _ _ _ _ _ _ _ _ _ _ _ _ _ _ _ _ _ _ _ _ _ => s.bx.length - (intOf i).toNat)
      case atStart => exact ⟨0, [], Nat.zero_le _, rfl, rfl, I0, R0, fun u hu m hm => (by cases hm), b0⟩
      case round =>
        clear I0 R0 b0
        obtain ⟨k, M, hk, rfl, hM, OI, RO, hD, b⟩ := hrel
        by_cases hlt : k < s.bx.length
        · obtain ⟨cur, hcb, hcs, hcm⟩ := S.box.row
          obtain ⟨vX, hvX, hox⟩ := hcm k hlt
          obtain ⟨al, cl, rfl, hfr, hA⟩ := hox.is (by have := (box_small hb hlt).1; omega)
          have hcG0 : W1.cell? ⟨G, k, none⟩ = some (.slice al (nthB s.bx k).length cl) := by rw [cell_of_row W1 G _ _ _ _ hcb]; exact hvX
          clear hcm hcb hcs hvX
          have hcG := (b.cell (p := ⟨G, k, none⟩) (World.block_lt_of_cell? W1 _ hcG0)).trans hcG0
          have c0 := (S.below b).cell 0
          obtain ⟨Z, hZ⟩ : ∃ Z, Z = nthB s.bx k := ⟨_, rfl⟩
          rw [← hZ] at hcG hfr hA hox
          clear hcG0
          have hfl := firK_len s.bx k
          have hMl : M.length ≤ 6 := by
            have e : M.length = (firK s.bx k).length := by rw [← firF_len, ← hM]; simp
            omega
          have hwk : IntKind.i64.wrap ((k : Int) + 1) = ((k + 1 : Nat) : Int) := by rw [IntWalk.i64_in _ (by omega)]; omega
          by_cases hz : Z.length = 0
          · have hK : firK s.bx (k + 1) = firK s.bx k := firK_no (by rw [← hZ]; exact hz)
            have hF : firF s.bx (k + 1) = firF s.bx k := by unfold firF; rw [hK]
            rw [← hK] at OI
            rw [← hF] at hM
            have hd0 : decide (0 < Z.length) = false := decide_eq_false (by omega)
            have hd0' : decide ((0 : Int) < (Z.length : Int)) = false := decide_eq_false (by omega)
            replace hM := Lib.hid hM
            replace hD := Lib.hid hD
            clear hK hF hZ hfl hMl hz hox
            go_wp2_with fail
            go_roundw
            case rel => exact ⟨k + 1, M, by omega, by go_num, hM.out, OI, RO, hD.out, b⟩
            case measure => simp [intOf]; omega
          · obtain ⟨gx, o, ad, cc, rfl, hc0⟩ := hfr.2 0 (by omega)
            have hK : firK s.bx (k + 1) = firK s.bx k ++ [(k, nthF Z 0)] := by rw [hZ]; exact firK_yes (by rw [← hZ]; exact hz)
            have hKI : Hid (((firK s.bx (k + 1)).map fun x => (x.1 : Int)) = ((firK s.bx k).map fun x => (x.1 : Int)) ++ [(k : Int)]) := Lib.hid (by rw [hK, List.map_append]; rfl)
            have hKF : Hid (firF s.bx (k + 1) = firF s.bx k ++ [nthF Z 0]) := Lib.hid (by unfold firF; rw [hK, List.map_append]; rfl)
            have hDl : ((firK s.bx k).map fun x => (x.1 : Int)).length ≤ 6 := by rw [List.length_map]; omega
            have hd0 : decide (0 < Z.length) = true := decide_eq_true (by omega)
            have hd0' : decide ((0 : Int) < (Z.length : Int)) = true := decide_eq_true (by omega)
            have hwf : (Lit.int .i64 (k : Int)).wf = true := Go.WalkArith.wf_i64 ⟨by omega, by omega⟩
            rw [Nat.zero_mul, Nat.add_zero] at hc0
            have hnu : Hid (∀ u, Kp (fun q => q ≠ w.heap.size) W1 u → Nums ad (nthF Z 0).D u) := Lib.hid fun u hu => box_dat hox (by rw [hZ]; have := (box_small hb hlt).1; omega) (by omega) hc0 hu (fun q h1 h2 => by have := S.low.2.2.2 k hlt; show q ≠ w.heap.size; omega)
            clear hox
            replace hD := Lib.hid hD
            generalize nthF Z 0 = f at *
            generalize ((firK s.bx k).map fun x => (x.1 : Int)) = DD at *
            obtain ⟨⟨d0, d1, d2, d3⟩, -⟩ := hc0.below b
            replace hM := Lib.hid hM
            replace hwf := Lib.hid hwf
            have hzp : 0 < Z.length := by omega
            clear hK hZ hfl hfr hA hc0
            have bF := below_more (Below.refl wr.heap.size wr) (.cells (frC f ad cc) 35)
            have gF := heap_alloc_new wr (.cells (frC f ad cc) 35)
            have RO1 := RO.below bF
            replace OI := OI.below' bF
            replace b := Below.then2 b bF
            go_upto_region 11 with fail
            go_wp2_with (refine wpList_go rfl (wp_appF u5 f ad cc wr.heap.size 1 rfl rfl RO1 (by omega) rfl gF b.size ?_))
            intro v5 w5 RO2 gr
            have hne := rows_ne OI.1 RO1 (by decide)
            replace OI : OwnI W1.heap.size DD u6 w5 := ⟨row_other OI.1 gr (fun q e => hne q e), OI.2⟩
            replace b := b.grown gr b.size (fun q hq => (World.ownsRow.lt RO1 q hq).1)
            clear RO RO1 hne gr gF bF d0 d1 d2 d3 hcG c0
            have gI := heap_alloc_new w5 (.cells #[.int .i64 (k : Int)] 2)
            have bI := below_more (Below.refl w5.heap.size w5) (.cells #[.int .i64 (k : Int)] 2)
            replace RO2 := RO2.below bI
            replace OI := OI.below' bI
            replace b := Below.then2 b bI
            clear bI
            go_wp2_with (refine wpList_go rfl (wp_appI u6 (k : Int) w5.heap.size 1 rfl rfl OI (by omega) rfl gI hwf.out b.size ?_))
            intro v6 w6 OI2 gr
            have hne := rows_ne RO2 OI.1 (by decide)
            replace RO2 : RowOf W1.heap.size v5 (M ++ [(f, .slice ad f.D.length cc)]) w6 := row_other RO2 gr (fun q e => hne q e)
            replace b := b.grown gr b.size (fun q hq => (World.ownsRow.lt OI.1 q hq).1)
            clear hne gr gI OI
            go_wp2_with fail
            go_roundw
            case rel => exact ⟨k + 1, M ++ [(f, .slice ad f.D.length cc)], by omega, by go_num, by rw [hKF.out, List.map_append, hM.out]; rfl, by rw [hKI.out]; exact OI2, RO2, fun u hu m hm => by
              rcases List.mem_append.1 hm with hm | hm
              · exact hD.out u hu m hm
              · rw [List.mem_singleton.1 hm]; exact ⟨ad, cc, rfl, hnu.out u hu⟩, b⟩
            case measure => simp [intOf]; omega
        · obtain rfl : k = s.bx.length := by omega
          have hMl : M.length = (firF s.bx s.bx.length).length := by rw [← hM]; simp
          have hfl := firK_len s.bx s.bx.length
          have hl6' : (firF s.bx s.bx.length).length ≤ 6 := by rw [firF_len]; omega
          obtain ⟨a3, c3, rfl, hF3⟩ := row_frs RO (fun m hm => hD _ (Kp.ofBelow b) m hm) (by omega)
          rw [hM] at hF3
          rw [hMl]
          replace hD := Lib.hid hD
          replace hM := Lib.hid hM
          have hflat : Hid (RowOf W1.heap.size (.slice a3 M.length c3) M wr) := Lib.hid RO
          clear RO
          replace hMl := Lib.hid hMl
          have Sr := S.below b
          have REr := RE.below ownE_sep b
          have c0 := Sr.cell 0
          go_wp2_with fail
          refine (specWinnerOf a3 (firF s.bx s.bx.length) c3 _ hF3).mono ?_
          rintro e w2 ⟨he, b2⟩
          clear c0
          replace Sr := Sr.below b2
          replace REr := REr.below ownE_sep b2
          have hwn : IntKind.i64.wrap (s.now + 1) = s.now + 1 := IntWalk.i64_in _ (by omega)
          cases hw : winX s.bx
          · have he : e = .returned (.int .i64 (-1)) := by rw [he]; unfold winX at hw; rw [hw]; rfl
            subst he
            have hB : begS s = s := by unfold begS; rw [hw]
            have hT : Hid (tikS s = ⟨s.bx, s.busy, s.node, s.rank, s.now + 1⟩ ∧ tikE s = []) := Lib.hid (by
              have h0 := h0.out
              rw [hTS.out.1, hTS.out.2]
              unfold bitS bitE
              rw [ht.out, hB]
              dsimp only
              rw [if_neg (by omega : ¬ 0 < s.busy), if_neg (fun h => by omega : ¬ (0 < s.busy ∧ s.busy - 1 = 3))]
              exact ⟨rfl, rfl⟩)
            have hd1 : decide (0 < s.busy) = false := decide_eq_false (by have := h0.out; omega)
            clear hw hF3 hTS OI
            have c1 := Sr.cell 1
            have c4 := Sr.cell 4
            have f4 := Sr.free 4
            go_upto_region 30 with fail
            clear c1 c4 f4
            have S5 := Sr.set 4 (.int .i64 (s.now + 1)) (busy := s.busy) (node := s.node) (rank := s.rank) (now := s.now + 1) rfl
            have RE5 := REr.sep ownE_sep (mid_cell w2 w.heap.size 4 (.int .i64 (s.now + 1))) (fun q hq => .inr (by have := hvn q hq; omega)) (fun j hj => absurd hj (Nat.not_lt_zero _))
            generalize World.setCell _ _ _ = w9 at S5 RE5 ⊢

            have c0 := S5.cell 0
            have c1 := S5.cell 1
            have c2 := S5.cell 2
            have c3 := S5.cell 3
            have c4 := S5.cell 4
            have e0 := cell_of_row w9 (w.heap.size + 1) 0 _ _ _ S5.res
            have e1 := cell_of_row w9 (w.heap.size + 1) 1 _ _ _ S5.res
            have e2 := cell_of_row w9 (w.heap.size + 1) 2 _ _ _ S5.res
            have e3 := cell_of_row w9 (w.heap.size + 1) 3 _ _ _ S5.res
            have e4 := cell_of_row w9 (w.heap.size + 1) 4 _ _ _ S5.res
            have k0 := frozen_of_row w9 (w.heap.size + 1) 0 _ _ S5.res
            have k1 := frozen_of_row w9 (w.heap.size + 1) 1 _ _ S5.res
            have k2 := frozen_of_row w9 (w.heap.size + 1) 2 _ _ S5.res
            have k3 := frozen_of_row w9 (w.heap.size + 1) 3 _ _ S5.res
            have k4 := frozen_of_row w9 (w.heap.size + 1) 4 _ _ S5.res
            go_wp2_with fail
            clear c0 c1 c2 c3 c4 e0 e1 e2 e3 e4 k0 k1 k2 k3 k4
            obtain ⟨h5, O5, K5, m5⟩ := S5.fin _ rfl
            have RE6 := RE5.sep ownE_sep m5 (fun q hq => .inr (hvn q hq)) (fun j hj => absurd hj (Nat.not_lt_zero _))
            generalize World.setCell _ _ _ = w5 at h5 O5 K5 RE6 ⊢
            refine bodyPost_ret (v := .tuple #[svV (some ⟨G, 0, none⟩) s.bx.length c (s.busy) (s.node) (s.rank) (s.now + 1), .slice (some ⟨w.heap.size + 2, 0, none⟩) 0 0]) (results_srE Tryz.results38 _ _ (w.heap.size + 1) _ _ rfl rfl h5 rfl) rfl ?_
            unfold TikO
            rw [hT.out.1, hT.out.2]
            exact ⟨_, _, _, _, _, _, _, rfl, O5, fun j => .inl ⟨rfl, rfl⟩, K5, RE6⟩
          · rename_i q
            have he : e = .returned (.int .i64 (q : Int)) := by rw [he]; unfold winX at hw; rw [hw]; rfl
            subst he
            have hq := (winN_lt hw).1
            have hq2 := hq
            rw [firF_len] at hq2
            have hB : begS s = ⟨s.bx, lengthV (nthF (firF s.bx s.bx.length) q).id (nthF (firF s.bx s.bx.length) q).rm (nthF (firF s.bx s.bx.length) q).ln (nthF (firF s.bx s.bx.length) q).D + 3, ((nthK (firK s.bx s.bx.length) q).1 : Int), rkF (nthF (firF s.bx s.bx.length) q), s.now⟩ := by unfold begS; rw [hw]
            obtain ⟨a2, c2, rfl, hN2⟩ := OI.nums
            obtain ⟨g2, o2, rfl, hk2⟩ := hN2.2.2 q (by rw [List.length_map]; exact hq2)
            have hg2 := OI.low (k := g2) rfl
            have hnk : nth ((firK s.bx s.bx.length).map fun x => (x.1 : Int)) q = ((nthK (firK s.bx s.bx.length) q).1 : Int) := by
              simp [nth, nthK, List.getD_eq_getElem?_getD, hq2]
            rw [hnk] at hk2
            have bw2 := Below.then2 b b2
            obtain ⟨g3, cap3, ad, cc, e3, hg3, hcs, hnum⟩ := row_frK hflat.out hD.out (Kp.ofBelow b) hM.out hq
            cases e3
            generalize nthF (firF s.bx s.bx.length) q = f at *
            generalize (nthK (firK s.bx s.bx.length) q).1 = nq at *
            have h44 : 44 ≤ lengthV f.id f.rm f.ln f.D + 3 := by
              have h1 := (begS_right hr h0.out).2
              rw [hB] at h1
              have h2 := lengthV_wf f.id f.rm f.ln f.D
              dsimp only at h1
              omega
            have hT : Hid (tikS s = ⟨s.bx, lengthV f.id f.rm f.ln f.D + 3 - 1, (nq : Int), rkF f, s.now + 1⟩ ∧ tikE s = []) := Lib.hid (by
              rw [hTS.out.1, hTS.out.2]
              unfold bitS bitE
              rw [ht.out, hB]
              dsimp only
              rw [if_pos (by omega : 0 < lengthV f.id f.rm f.ln f.D + 3), if_neg (by omega : ¬ lengthV f.id f.rm f.ln f.D + 3 - 1 = 3), if_neg (fun h => by omega : ¬ (0 < lengthV f.id f.rm f.ln f.D + 3 ∧ lengthV f.id f.rm f.ln f.D + 3 - 1 = 3))]
              exact ⟨rfl, rfl⟩)
            replace hk2 := (b2.cell (World.block_lt_of_cell? _ _ hk2)).trans hk2
            replace hcs := And.intro ((b2.cell (World.block_lt_of_cell? _ _ hcs.1)).trans hcs.1) (And.intro ((b2.cell (World.block_lt_of_cell? _ _ hcs.2.1)).trans hcs.2.1) (And.intro ((b2.cell (World.block_lt_of_cell? _ _ hcs.2.2.1)).trans hcs.2.2.1) ((b2.cell (World.block_lt_of_cell? _ _ hcs.2.2.2)).trans hcs.2.2.2)))
            have kp2 : Kp (fun q => q ≠ w.heap.size) W1 w2 := Kp.ofBelow bw2
            have hq3 : q < (firF s.bx s.bx.length).length := hq
            have hC := And.intro hk2 hcs
            have hzW : w.heap.size + 2 < W1.heap.size := hzE
            clear hF3 hN2 OI hnk hflat hD hM bw2 hcs hk2 hB hTS hw
            obtain ⟨hk2, d0, d1, d2, d3⟩ := hC
            have f0 := Sr.free 2
            have c0 := Sr.cell 2
            go_upto_region 16 with fail
            clear f0 c0
            have hC : C5 g2 (o2 + q) g3 (q * 4) nq f ad cc w2 := ⟨hk2, d0, d1, d2, d3⟩
            replace Sr := Sr.set 2 (.int .i64 (nq : Int)) (busy := s.busy) (node := (nq : Int)) (rank := s.rank) (now := s.now) rfl
            replace REr := REr.sep ownE_sep (mid_cell w2 w.heap.size 2 (.int .i64 (nq : Int))) (fun q hq => .inr (by have := hvn q hq; omega)) (fun j hj => absurd hj (Nat.not_lt_zero _))
            replace kp2 := kp2.trans (kp_cell w2 w.heap.size 2 (.int .i64 (nq : Int)))
            replace hC := set5c (p := w.heap.size) (g2 := g2) (g3 := g3) (x := o2 + q) (y := q * 4) hC 2 (.int .i64 (nq : Int)) (by omega) (by omega)
            clear hk2 d0 d1 d2 d3
            generalize World.setCell _ _ _ = w6 at Sr REr kp2 hC ⊢
            obtain ⟨hk2, d0, d1, d2, d3⟩ := hC
            go_wp2_with fail
            refine (specRankOf f.id f.rm f.ln ad f.D cc _ (hnum _ kp2)).mono ?_
            rintro e w7 ⟨rfl, b7⟩
            have hC : C5 g2 (o2 + q) g3 (q * 4) nq f ad cc w6 := ⟨hk2, d0, d1, d2, d3⟩
            replace hC := cells5 (g2 := g2) (g3 := g3) (x := o2 + q) (y := q * 4) hC b7
            replace Sr := Sr.below b7
            replace REr := REr.below ownE_sep b7
            replace kp2 := kp2.trans (Kp.ofBelow b7)
            clear hk2 d0 d1 d2 d3
            have f0 := Sr.free 3
            have c0 := Sr.cell 3
            go_upto_region 17 with fail
            clear f0 c0 b7
            replace Sr := Sr.set 3 (.int .i64 (rankV f.id f.rm f.ln f.D)) (busy := s.busy) (node := (nq : Int)) (rank := rankV f.id f.rm f.ln f.D) (now := s.now) rfl
            replace REr := REr.sep ownE_sep (mid_cell w7 w.heap.size 3 (.int .i64 (rankV f.id f.rm f.ln f.D))) (fun q hq => .inr (by have := hvn q hq; omega)) (fun j hj => absurd hj (Nat.not_lt_zero _))
            replace kp2 := kp2.trans (kp_cell w7 w.heap.size 3 (.int .i64 (rankV f.id f.rm f.ln f.D)))
            replace hC := set5c (p := w.heap.size) (g2 := g2) (g3 := g3) (x := o2 + q) (y := q * 4) hC 3 (.int .i64 (rankV f.id f.rm f.ln f.D)) (by omega) (by omega)
            generalize World.setCell _ _ _ = w8 at Sr REr kp2 hC ⊢
            obtain ⟨-, d0, d1, d2, d3⟩ := hC
            go_wp2_with fail
            refine (specLengthOf f.id f.rm f.ln ad f.D cc _ (hnum _ kp2)).mono ?_
            rintro e wa ⟨rfl, b7⟩
            replace Sr := Sr.below b7
            replace REr := REr.below ownE_sep b7
            have hl := lengthV_wf f.id f.rm f.ln f.D
            have hwl : IntKind.i64.wrap (lengthV f.id f.rm f.ln f.D + 3) = lengthV f.id f.rm f.ln f.D + 3 := IntWalk.i64_in _ (by omega)
            have hwm : IntKind.i64.wrap (lengthV f.id f.rm f.ln f.D + 3 - 1) = lengthV f.id f.rm f.ln f.D + 3 - 1 := IntWalk.i64_in _ (by omega)
            clear kp2 d0 d1 d2 d3 b7 hl
            have f0 := Sr.free 1
            have c0 := Sr.cell 1
            go_upto_region 18 with fail
            clear f0 c0 hwl
            replace Sr := Sr.set 1 (.int .i64 (lengthV f.id f.rm f.ln f.D + 3)) (busy := lengthV f.id f.rm f.ln f.D + 3) (node := (nq : Int)) (rank := rankV f.id f.rm f.ln f.D) (now := s.now) rfl
            replace REr := REr.sep ownE_sep (mid_cell wa w.heap.size 1 (.int .i64 (lengthV f.id f.rm f.ln f.D + 3))) (fun q hq => .inr (by have := hvn q hq; omega)) (fun j hj => absurd hj (Nat.not_lt_zero _))
            generalize World.setCell _ _ _ = wb at Sr REr ⊢
            have hd1 : decide (0 < lengthV f.id f.rm f.ln f.D + 3) = true := decide_eq_true (by omega)
            have f0 := Sr.free 1
            have c0 := Sr.cell 1
            go_upto_region 20 with fail
            clear f0 c0 hd1
            replace Sr := Sr.set 1 (.int .i64 (lengthV f.id f.rm f.ln f.D + 3 - 1)) (busy := lengthV f.id f.rm f.ln f.D + 3 - 1) (node := (nq : Int)) (rank := rankV f.id f.rm f.ln f.D) (now := s.now) rfl
            replace REr := REr.sep ownE_sep (mid_cell wb w.heap.size 1 (.int .i64 (lengthV f.id f.rm f.ln f.D + 3 - 1))) (fun q hq => .inr (by have := hvn q hq; omega)) (fun j hj => absurd hj (Nat.not_lt_zero _))
            generalize World.setCell _ _ _ = wc at Sr REr ⊢
            have hd3 : decide (lengthV f.id f.rm f.ln f.D + 3 - 1 = 3) = false := decide_eq_false (by omega)
            have hd3b : (lengthV f.id f.rm f.ln f.D + 3 - 1 == 3) = false := by rw [beq_eq_false_iff_ne]; omega
            have c1 := Sr.cell 1
            have c4 := Sr.cell 4
            have f4 := Sr.free 4
            go_upto_region 30 with fail
            clear c1 c4 f4
            have S5 := Sr.set 4 (.int .i64 (s.now + 1)) (busy := lengthV f.id f.rm f.ln f.D + 3 - 1) (node := (nq : Int)) (rank := rankV f.id f.rm f.ln f.D) (now := s.now + 1) rfl
            have RE5 := REr.sep ownE_sep (mid_cell wc w.heap.size 4 (.int .i64 (s.now + 1))) (fun q hq => .inr (by have := hvn q hq; omega)) (fun j hj => absurd hj (Nat.not_lt_zero _))
            generalize World.setCell _ _ _ = w9 at S5 RE5 ⊢

            have c0 := S5.cell 0
            have c1 := S5.cell 1
            have c2 := S5.cell 2
            have c3 := S5.cell 3
            have c4 := S5.cell 4
            have e0 := cell_of_row w9 (w.heap.size + 1) 0 _ _ _ S5.res
            have e1 := cell_of_row w9 (w.heap.size + 1) 1 _ _ _ S5.res
            have e2 := cell_of_row w9 (w.heap.size + 1) 2 _ _ _ S5.res
            have e3 := cell_of_row w9 (w.heap.size + 1) 3 _ _ _ S5.res
            have e4 := cell_of_row w9 (w.heap.size + 1) 4 _ _ _ S5.res
            have k0 := frozen_of_row w9 (w.heap.size + 1) 0 _ _ S5.res
            have k1 := frozen_of_row w9 (w.heap.size + 1) 1 _ _ S5.res
            have k2 := frozen_of_row w9 (w.heap.size + 1) 2 _ _ S5.res
            have k3 := frozen_of_row w9 (w.heap.size + 1) 3 _ _ S5.res
            have k4 := frozen_of_row w9 (w.heap.size + 1) 4 _ _ S5.res
            go_wp2_with fail
            clear c0 c1 c2 c3 c4 e0 e1 e2 e3 e4 k0 k1 k2 k3 k4
            obtain ⟨h5, O5, K5, m5⟩ := S5.fin _ rfl
            have RE6 := RE5.sep ownE_sep m5 (fun q hq => .inr (hvn q hq)) (fun j hj => absurd hj (Nat.not_lt_zero _))
            generalize World.setCell _ _ _ = w5 at h5 O5 K5 RE6 ⊢
            refine bodyPost_ret (v := .tuple #[svV (some ⟨G, 0, none⟩) s.bx.length c (lengthV f.id f.rm f.ln f.D + 3 - 1) ((nq : Int)) (rankV f.id f.rm f.ln f.D) (s.now + 1), .slice (some ⟨w.heap.size + 2, 0, none⟩) 0 0]) (results_srE Tryz.results38 _ _ (w.heap.size + 1) _ _ rfl rfl h5 rfl) rfl ?_
            unfold TikO
            rw [hT.out.1, hT.out.2]
            exact ⟨_, _, _, _, _, _, _, rfl, O5, fun j => .inl ⟨rfl, rfl⟩, K5, RE6⟩
    · have hd0 : decide (s.busy = 0) = false := decide_eq_false h0
      have hd0b : (s.busy == 0) = false := by rw [beq_eq_false_iff_ne]; exact h0
      have ht : Hid (setS s = s) := Lib.hid (setS_busy h0)
      have hp : 0 < s.busy := by omega
      have hd1 : decide (0 < s.busy) = true := decide_eq_true hp
      have hwb : IntKind.i64.wrap (s.busy - 1) = s.busy - 1 := IntWalk.i64_in _ (by omega)
      have hwn : IntKind.i64.wrap (s.now + 1) = s.now + 1 := IntWalk.i64_in _ (by omega)
      have f1 := S.free 1
      go_upto_region 20 with fail
      clear f1 c1 hd0 hd0b hd1 hwb
      replace S : Mdl w.heap.size G cap c (lowS s) L H w (W1.setCell ⟨w.heap.size, 1, none⟩ (.int .i64 (s.busy - 1))) := S.set 1 (.int .i64 (s.busy - 1)) (busy := s.busy - 1) (node := s.node) (rank := s.rank) (now := s.now) rfl
      replace RE := RE.sep ownE_sep (mid_cell W1 w.heap.size 1 (.int .i64 (s.busy - 1))) (fun q hq => .inr (by have := hvn q hq; omega)) (fun j hj => absurd hj (Nat.not_lt_zero _))
      generalize World.setCell _ _ _ = w2 at S RE ⊢
      have hS : srvB (lowS s) = srvB (lowS s) := rfl
      clear hS
      by_cases h33 : s.busy - 1 = 3
      · have hT : Hid (tikS s = ⟨(endS (lowS s)).bx, s.busy - 1, 0, 0, s.now + 1⟩ ∧ tikE s = [endE (lowS s)]) := Lib.hid (by
          rw [hTS.out.1, hTS.out.2]
          unfold bitS bitE
          rw [ht.out]
          dsimp only
          rw [if_pos hp, if_pos h33, if_pos ⟨hp, h33⟩]
          exact ⟨rfl, rfl⟩)
        have hd3 : decide (s.busy - 1 = 3) = true := decide_eq_true h33
        have hd3b : (s.busy - 1 == 3) = true := by rw [h33]; rfl
        have c1 : w2.cell? ⟨w.heap.size, 1, none⟩ = some (.int .i64 (s.busy - 1)) := S.cell 1
        have hs := (sndB_high (s := s) (by omega)).1 hb5
        replace h33 := Lib.hid h33
        clear hTS ht
        go_upto_region 21 with fail
        clear c1 hd3 hd3b
        obtain ⟨jn, hjn⟩ : ∃ jn : Nat, s.node = (jn : Int) := ⟨s.node.toNat, by omega⟩
        have hjt : s.node.toNat = jn := by omega
        rw [hjt] at hs
        have hj : jn < s.bx.length := by omega
        have hbx := boxB_iff.1 ((boxesB_iff.1 hb).2.2 jn hj)
        have hpos := pos_at (r := s.rank) hbx.2
        have hmt := hasB_pos hbx.2 hpos
        rw [hs.2.2] at hmt
        obtain ⟨hpl, hpr⟩ := metB_yes.1 hmt
        have hrk : Hid (∀ j, j < (nthB s.bx jn).length → ((rkF (nthF (nthB s.bx jn) j) = s.rank) ↔ j = posN (nthB s.bx jn) s.rank (nthB s.bx jn).length)) := Lib.hid fun j hj' => by
          constructor
          · intro e
            rcases Nat.lt_trichotomy j (posN (nthB s.bx jn) s.rank (nthB s.bx jn).length) with h | h | h
            · have := hbx.2.lt h hpl
              omega
            · exact h
            · have := hbx.2.lt h hj'
              omega
          · intro e; rw [e]; exact hpr
        have h16 := (box_small hb hj).1
        have hsh := Lib.hid (box_small hb hj).2
        have hEE : Hid (endE (lowS s) = ⟨s.now, jn, 1, nthF (nthB s.bx jn) (posN (nthB s.bx jn) s.rank (nthB s.bx jn).length)⟩) := Lib.hid (by unfold endE lowS frmR; dsimp only; rw [hjt])
        have hES : Hid ((endS (lowS s)).bx = s.bx.set jn (outV (nthB s.bx jn) s.rank)) := Lib.hid (by unfold endS lowS; dsimp only; rw [hjt])
        clear hpos hmt hpr hbx
        generalize hLL : nthB s.bx jn = LL at *
        generalize hpp : posN LL s.rank LL.length = pp at *
        replace hLL := Lib.hid hLL
        replace hpp := Lib.hid hpp
        replace hs := Lib.hid hs
        have hzW : w.heap.size + 2 < w2.heap.size := by
          have := (World.ownsRow.lt RE.own (w.heap.size + 2) rfl).2
          omega
        have hnode : s.node = (jn : Int) := hjn
        replace hjn := Lib.hid hjn
        go_wp2_with fail
        go_loopw [4, 9, 81, 82, 83, 84, 85, 86, 87, 88, 89, 90, 91, 92, 93, 94, 95, 96, 97, 98, 99, 100, 101, 102, 103, 104, 105, 106, 107, 108, 109, 110, 111, 112, 113, 114, 115, 116, 117, 118, 119, 120, 121, 122] (fun v4 i _ _ _ _ _ _ _ _ _ _ _ _ _ _ _ _ _ _ _ _ _ _ _ _ _ _ _ _ _ _ _ _ _ _ _ _ _ _ _ _ _ _ wr => ∃ (j : Nat) (N : List Ev) (P : Nat → EvP) (LE HE : Nat → Nat), j ≤ LL.length ∧ i = .int .i64 j ∧ N = (if pp < j then [endE (lowS s)] else []) ∧ RowE OwnE w.heap.size N.length N P LE HE v4 wr ∧ (∀ q, v4.ownBlock = some q → w.heap.size + 2 ≤ q) ∧ (∀ i, i < N.length → w.heap.size + 2 ≤ LE i) ∧ Mdl w.heap.size G cap c (lowS s) L H w wr ∧ w2.heap.size ≤ wr.heap.size) (fun _ i _ _ _ _ _ _ _ _ _ _ _ _ _ _ _ _ _ _ _ _ _ _ _ _ _ _ _ _ _ _ _ _ _ _ _ _ _ _ _ _ _ _ _ => LL.length - (intOf i).toNat)
        case atStart => exact ⟨0, [], _, _, _, Nat.zero_le _, rfl, by rw [if_neg (Nat.not_lt_zero _)], RE, hvn, fun i hi => absurd hi (Nat.not_lt_zero _), S, Nat.le_refl _⟩
        case round =>
          clear S RE hvn
          obtain ⟨j, N, P, LE, HE, hjl, rfl, hN, RE, hvn, hLn, S, hws⟩ := hrel
          have hwj : IntKind.i64.wrap ((j : Int) + 1) = ((j + 1 : Nat) : Int) := by rw [IntWalk.i64_in _ (by omega)]; omega
          have c0 := S.cell 0
          have c2 : wr.cell? ⟨w.heap.size, 2, none⟩ = some (.int .i64 (jn : Int)) := by rw [← hnode]; exact S.cell 2
          obtain ⟨cur, hcb, hcs, hcm⟩ := S.box.row
          obtain ⟨vX, hvX, hox⟩ := hcm jn hj
          have hcG : wr.cell? ⟨G, jn, none⟩ = some vX := by rw [cell_of_row wr G _ _ _ _ hcb]; exact hvX
          clear hcm hcb hcs hvX
          have hox' : OwnX False (L jn) (H jn) LL vX wr := by rw [← hLL.out]; exact hox
          clear hox
          obtain ⟨al, cl, rfl, hfr, hA⟩ := hox'.is (by omega)
          by_cases hlt : j < LL.length
          · have hdl : decide ((j : Int) < (LL.length : Int)) = true := decide_eq_true (by omega)
            obtain ⟨gx, o, ad, cc, rfl, hc0⟩ := hfr.2 j hlt
            have c3 : wr.cell? ⟨w.heap.size, 3, none⟩ = some (.int .i64 s.rank) := S.cell 3
            have c4 : wr.cell? ⟨w.heap.size, 4, none⟩ = some (.int .i64 s.now) := S.cell 4
            have hD8 := hsh.out j hlt
            have hri := hrk.out j hlt
            have hgx : gx < w.heap.size + 2 := by
              obtain ⟨M', a', c', e, -, -, -, hu⟩ := hox'
              cases e
              have h1 := hu.1 gx rfl
              have h2 := hHlt jn hj
              omega
            generalize hfj : nthF LL j = f at hc0 hD8 hri
            replace hfj := Lib.hid hfj
            have c0 : wr.cell? ⟨w.heap.size, 0, none⟩ = some (.slice (some ⟨G, 0, none⟩) s.bx.length c) := S.cell 0
            go_upto_region 24 with fail
            refine region_class (fun u => Below wr.heap.size wr u) (by kernel_rfl) (by kernel_rfl) ((Below.refl _ _).drew) ?_
            repeat first
              | go_big_quiet_skip
              | (go_big_quiet_want
                 apply Exists.intro
                 refine ⟨fun u hu => ?_, ?_⟩
                 · apply quietAt_val
                   have x0 := (hu.cell (World.block_lt_of_cell? _ _ c0)).trans c0
                   have x2 := (hu.cell (World.block_lt_of_cell? _ _ c2)).trans c2
                   have x3 := (hu.cell (World.block_lt_of_cell? _ _ c3)).trans c3
                   have xG := (hu.cell (World.block_lt_of_cell? _ _ hcG)).trans hcG
                   obtain ⟨⟨y0, y1, y2, y3⟩, -⟩ := hc0.below hu
                   go_simp
                   rfl
                 simp only [Act.put, List.setIfInBounds_toArray, List.set_cons_zero, List.set_cons_succ]
                 go_big_quiet_on)
              | (go_big_quiet_want
                 apply Exists.intro
                 refine ⟨fun u hu => ?_, ?_⟩
                 · apply quietAt_enter 47 #[frV f.id f.rm f.ln ad f.D.length cc]
                   · go_simp
                   · refine (specRankOf f.id f.rm f.ln ad f.D cc u (hc0.below hu).2).mono ?_
                     rintro e w2 ⟨rfl, b2⟩
                     exact ⟨rfl, Below.then2 hu b2⟩
                 simp only [Act.put, List.setIfInBounds_toArray, List.set_cons_zero, List.set_cons_succ]
                 go_big_quiet_on)
            refine wpQuiet_nil ?_
            intro V bV
            replace S := S.below bV
            replace RE := RE.below ownE_sep bV
            replace hc0 := hc0.below bV
            replace c0 := (bV.cell (World.block_lt_of_cell? _ _ c0)).trans c0
            replace c2 := (bV.cell (World.block_lt_of_cell? _ _ c2)).trans c2
            replace c4 := (bV.cell (World.block_lt_of_cell? _ _ c4)).trans c4
            replace hcG := (bV.cell (World.block_lt_of_cell? _ _ hcG)).trans hcG
            have hwV : w2.heap.size ≤ V.heap.size := Nat.le_trans hws bV.size
            clear c3 bV hws hfr hox' hA
            by_cases hjp : j = pp
            · have hde : decide (rankV f.id f.rm f.ln f.D = s.rank) = true := decide_eq_true (hri.2 hjp)
              have hdb : (rankV f.id f.rm f.ln f.D == s.rank) = true := by rw [show rankV f.id f.rm f.ln f.D = s.rank from hri.2 hjp]; exact beq_self_eq_true _
              replace hri := Lib.hid hri
              go_upto_region 25 with fail
              have hN0 : N = [] := by rw [hN, if_neg (by omega)]
              subst hN0
              have hEv : Hid (endE (lowS s) = ⟨s.now, jn, 1, f⟩) := Lib.hid (by rw [hEE.out, ← hjp, hfj.out])
              clear hde hdb hN hLn
              replace hjp := Lib.hid hjp
              refine wp_region_held (S := fun u => R25 w.heap.size G s.bx.length c jn s.now gx o LL.length cl (o + j * 4) f ad cc u) (by kernel_rfl) ?_
              have b0 : Below V.heap.size V { V with drawn := V.drawn + 1 } := (Below.refl _ _).drew
              have hC : R25 w.heap.size G s.bx.length c jn s.now gx o LL.length cl (o + j * 4) f ad cc V := ⟨⟨⟨c0, c2⟩, c4⟩, hcG, hc0.1⟩
              have hnu := hc0.2
              clear c0 c2 c4 hcG hc0
              replace S := S.below b0
              replace RE := RE.below ownE_sep b0
              replace hC := hC.below b0
              replace hnu := hnu.below b0
              have hwV2 : w2.heap.size ≤ ({ V with drawn := V.drawn + 1 } : World).heap.size := Nat.le_trans hwV b0.size
              clear hwV
              generalize ({ V with drawn := V.drawn + 1 } : World) = V2 at S RE hC hnu hwV2 ⊢
              clear b0
              have hul : ∀ q, u4.ownBlock = some q → q < V2.heap.size := fun q hq => (World.ownsRow.lt RE.own q hq).2
              refine h_take 0 105 (u4) rfl rfl (by kernel_rfl) (by kernel_rfl) (by kernel_rfl) (fun _ _ _ h => h) rfl (fun u hu => by go_simp) hC ?_
              refine h_take 1 106 (.pointer (some ⟨w.heap.size, 4, none⟩)) rfl rfl (by kernel_rfl) (by kernel_rfl) (by kernel_rfl) (fun _ _ _ h => h) rfl (fun u hu => by go_simp) hC ?_
              refine h_take 2 107 (.int .i64 s.now) rfl rfl (by kernel_rfl) (by kernel_rfl) (by kernel_rfl) (fun _ _ _ h => h) rfl (fun u hu => by have x := hu.1.2; go_simp) hC ?_
              simp only [Act.put, List.setIfInBounds_toArray, List.set_cons_zero, List.set_cons_succ]
              refine h_take 3 108 (.pointer (some ⟨w.heap.size, 2, none⟩)) rfl rfl (by kernel_rfl) (by kernel_rfl) (by kernel_rfl) (fun _ _ _ h => h) rfl (fun u hu => by go_simp) hC ?_
              refine h_take 4 109 (.int .i64 (jn : Int)) rfl rfl (by kernel_rfl) (by kernel_rfl) (by kernel_rfl) (fun _ _ _ h => h) rfl (fun u hu => by have x := hu.1.1.2; go_simp) hC ?_
              refine h_take 5 110 (.pointer (some ⟨w.heap.size, 0, none⟩)) rfl rfl (by kernel_rfl) (by kernel_rfl) (by kernel_rfl) (fun _ _ _ h => h) rfl (fun u hu => by go_simp) hC ?_
              simp only [Act.put, List.setIfInBounds_toArray, List.set_cons_zero, List.set_cons_succ]
              refine h_take 6 111 (.slice (some ⟨G, 0, none⟩) s.bx.length c) rfl rfl (by kernel_rfl) (by kernel_rfl) (by kernel_rfl) (fun _ _ _ h => h) rfl (fun u hu => by have x := hu.1.1.1; go_simp) hC ?_
              refine h_take 7 112 (.pointer (some ⟨w.heap.size, 2, none⟩)) rfl rfl (by kernel_rfl) (by kernel_rfl) (by kernel_rfl) (fun _ _ _ h => h) rfl (fun u hu => by go_simp) hC ?_
              refine h_take 8 113 (.int .i64 (jn : Int)) rfl rfl (by kernel_rfl) (by kernel_rfl) (by kernel_rfl) (fun _ _ _ h => h) rfl (fun u hu => by have x := hu.1.1.2; go_simp) hC ?_
              simp only [Act.put, List.setIfInBounds_toArray, List.set_cons_zero, List.set_cons_succ]
              refine h_take 9 114 (.pointer (some ⟨G, jn, none⟩)) rfl rfl (by kernel_rfl) (by kernel_rfl) (by kernel_rfl) (fun _ _ _ h => h) rfl (fun u hu => by go_simp) hC ?_
              refine h_take 10 115 (.slice (some ⟨gx, o, none⟩) LL.length cl) rfl rfl (by kernel_rfl) (by kernel_rfl) (by kernel_rfl) (fun _ _ _ h => h) rfl (fun u hu => by have x := hu.2.1; go_simp) hC ?_
              refine h_take 11 116 (.int .i64 (j : Int)) rfl rfl (by kernel_rfl) (by kernel_rfl) (by kernel_rfl) (fun _ _ _ h => h) rfl (fun u hu => by go_simp) hC ?_
              simp only [Act.put, List.setIfInBounds_toArray, List.set_cons_zero, List.set_cons_succ]
              refine h_take 12 117 (.pointer (some ⟨gx, o + j * 4, none⟩)) rfl rfl (by kernel_rfl) (by kernel_rfl) (by kernel_rfl) (fun _ _ _ h => h) rfl (fun u hu => by go_simp) hC ?_
              refine h_take 13 118 (frV f.id f.rm f.ln ad f.D.length cc) rfl rfl (by kernel_rfl) (by kernel_rfl) (by kernel_rfl) (fun _ _ _ h => h) rfl (fun u hu => by obtain ⟨-, -, q0, q1, q2, q3⟩ := hu; go_simp) hC ?_
              simp only [Act.put, List.setIfInBounds_toArray, List.set_cons_zero, List.set_cons_succ]
              refine h_call 14 119 40 #[frV f.id f.rm f.ln ad f.D.length cc] rfl rfl (by kernel_rfl) rfl (by go_simp) ?_
              refine (copyFr f.id f.rm f.ln ad f.D cc V2 hnu (by omega)).mono ?_
              rintro e w5 ⟨av, cv, rfl, hO, gr⟩
              have b5 : Below V2.heap.size V2 w5 := (Below.refl _ _).grown gr (Nat.le_refl _) (fun q hq => by cases hq)
              have hub : ∀ q, (Value.slice av f.D.length cv).ownBlock = some q → q < w5.heap.size := fun q hq => (hO.1.lt q hq).2
              have hle5 := b5.size
              replace S := S.below b5
              replace RE := RE.below ownE_sep b5
              replace hC := hC.below b5
              clear hnu gr b5
              refine ⟨_, rfl, hC, ?_⟩
              simp only [Act.put, List.setIfInBounds_toArray, List.set_cons_zero, List.set_cons_succ]
              refine h_take 15 120 (.agg #[.int .i64 s.now, .int .i64 (jn : Int), .int .i64 1, .int .i64 f.id, .bool f.rm, .int .i64 f.ln, .slice av f.D.length cv]) rfl rfl (by kernel_rfl) (by kernel_rfl) (by kernel_rfl) (fun _ _ _ h => h) rfl (fun u hu => by go_simp) hC ?_
              simp only [Act.put, List.setIfInBounds_toArray, List.set_cons_zero, List.set_cons_succ]
              refine h_new 16 121 (.slice (some ⟨w5.heap.size, 0, none⟩) 1 1) (w5.alloc (.cells #[.int .i64 s.now, .int .i64 (jn : Int), .int .i64 1, .int .i64 f.id, .bool f.rm, .int .i64 f.ln, .slice av f.D.length cv] 43)) rfl rfl (by kernel_rfl) rfl (by go_simp) ?_
              have HT := heap_alloc_new w5 (.cells #[.int .i64 s.now, .int .i64 (jn : Int), .int .i64 1, .int .i64 f.id, .bool f.rm, .int .i64 f.ln, .slice av f.D.length cv] 43)
              have bA := below_more (Below.refl w5.heap.size w5) (.cells #[.int .i64 s.now, .int .i64 (jn : Int), .int .i64 1, .int .i64 f.id, .bool f.rm, .int .i64 f.ln, .slice av f.D.length cv] 43)
              have hM2 : OwnE V2.heap.size w5.heap.size (⟨s.now, jn, 1, f⟩ : Ev) (av, cv) (w5.alloc (.cells #[.int .i64 s.now, .int .i64 (jn : Int), .int .i64 1, .int .i64 f.id, .bool f.rm, .int .i64 f.ln, .slice av f.D.length cv] 43)) := ⟨hO.below' bA, hub⟩
              have hleA := bA.size
              replace S := S.below bA
              replace RE := RE.below ownE_sep bA
              replace hC := hC.below bA
              clear bA hO hub
              generalize w5.alloc _ = w6 at HT S RE hM2 hleA hC ⊢
              refine ⟨hC, ?_⟩
              simp only [Act.put, List.setIfInBounds_toArray, List.set_cons_zero, List.set_cons_succ]
              have RE1 := RE.more (N' := [(⟨s.now, jn, 1, f⟩ : Ev)]) (fun j hj => absurd hj (Nat.not_lt_zero _))
              refine held_appE2 ownE_sep 17 122 u4 (av, cv) V2.heap.size w5.heap.size w5.heap.size 1 rfl rfl (by kernel_rfl) rfl rfl rfl RE1 (by simp) rfl HT hM2 (by omega) hle5 hleA (fun j hj => absurd hj (Nat.not_lt_zero _)) hul (by omega) ?_
              intro v4 w7 RE4 gr r4
              have m7 : Mid (w.heap.size + 2) w7.heap.size w6 w7 := ⟨gr.os, gr.tape, gr.output, gr.size, fun k hk hx => gr.block k hk (fun e => by have := hvn k e.symm; have := gr.size; omega)⟩
              have S7 := S.up m7 hHlt
              replace hC := hC.mid m7 (by omega) (by omega) hgx
              have hle7 := gr.size
              have hvn4 : ∀ q, v4.ownBlock = some q → w.heap.size + 2 ≤ q := fun q hq => by
                rcases r4 with e | e
                · rw [e] at hq; exact hvn q hq
                · rw [e] at hq; cases hq; omega
              refine ⟨hC, ?_⟩
              simp only [Act.put, List.setIfInBounds_toArray, List.set_cons_zero, List.set_cons_succ]
              refine h_value 18 4 v4 rfl rfl (by kernel_rfl) rfl (by go_simp) hC ?_
              simp only [Act.put, List.setIfInBounds_toArray, List.set_cons_zero, List.set_cons_succ]
              refine wpAnyH_done (by kernel_rfl) ?_ _
              clear hC S RE RE1 HT hM2 gr r4 m7
              go_wp2_with fail
              go_roundw
              case rel => exact ⟨j + 1, [⟨s.now, jn, 1, f⟩], _, _, _, by omega, by go_num, by rw [if_pos (by have := hjp.out; omega), hEv.out], RE4, hvn4, fun i hi => by
                obtain rfl : i = 0 := by simpa using hi
                show w.heap.size + 2 ≤ if 0 = 0 then V2.heap.size else LE 0
                rw [if_pos rfl]; omega, S7, by omega⟩
              case measure => simp [intOf]; omega
            · have hde : decide (rankV f.id f.rm f.ln f.D = s.rank) = false := decide_eq_false (fun e => hjp (hri.1 e))
              have hdb : (rankV f.id f.rm f.ln f.D == s.rank) = false := by rw [beq_eq_false_iff_ne]; exact fun e => hjp (hri.1 e)
              replace hri := Lib.hid hri
              have hN2 : N = if pp < j + 1 then [endE (lowS s)] else [] := by
                rw [hN]
                by_cases h : pp < j
                · rw [if_pos h, if_pos (by omega)]
                · rw [if_neg h, if_neg (by omega)]
              replace hN := Lib.hid hN
              replace hN2 := Lib.hid hN2
              go_wp2_with fail
              go_roundw
              case rel => exact ⟨j + 1, N, P, LE, HE, by omega, by go_num, hN2.out, RE, hvn, hLn, S, hwV⟩
              case measure => simp [intOf]; omega
          · obtain rfl : j = LL.length := by omega
            have hdl : decide ((LL.length : Int) < (LL.length : Int)) = false := decide_eq_false (by omega)
            rw [if_pos hpl] at hN
            have c3 : wr.cell? ⟨w.heap.size, 3, none⟩ = some (.int .i64 s.rank) := S.cell 3
            have c0 : wr.cell? ⟨w.heap.size, 0, none⟩ = some (.slice (some ⟨G, 0, none⟩) s.bx.length c) := S.cell 0
            go_upto_region 26 with fail
            replace hN := Lib.hid hN
            refine wp_region_held (S := fun u => (u.cell? ⟨w.heap.size, 0, none⟩ = some (.slice (some ⟨G, 0, none⟩) s.bx.length c) ∧ u.cell? ⟨w.heap.size, 2, none⟩ = some (.int .i64 (jn : Int))) ∧ u.cell? ⟨w.heap.size, 3, none⟩ = some (.int .i64 s.rank)) (by kernel_rfl) ?_
            have b0 : Below wr.heap.size wr { wr with drawn := wr.drawn + 1 } := (Below.refl _ _).drew
            replace S := S.below b0
            replace RE := RE.below ownE_sep b0
            replace hfr := hfr.below b0
            replace c0 := (b0.cell (World.block_lt_of_cell? _ _ c0)).trans c0
            replace c2 := (b0.cell (World.block_lt_of_cell? _ _ c2)).trans c2
            replace c3 := (b0.cell (World.block_lt_of_cell? _ _ c3)).trans c3
            replace hcG := (b0.cell (World.block_lt_of_cell? _ _ hcG)).trans hcG
            have hwV2 : w2.heap.size ≤ ({ wr with drawn := wr.drawn + 1 } : World).heap.size := Nat.le_trans hws b0.size
            clear hws hox'
            generalize ({ wr with drawn := wr.drawn + 1 } : World) = V at S RE hfr c0 c2 c3 hcG hwV2 ⊢
            clear b0
            have hC := And.intro (And.intro c0 c2) c3
            clear c0 c2 c3
            refine h_take 0 123 (.pointer (some ⟨w.heap.size, 0, none⟩)) rfl rfl (by kernel_rfl) (by kernel_rfl) (by kernel_rfl) (fun _ _ _ h => h) rfl (fun u hu => by go_simp) hC ?_
            refine h_take 1 124 (.slice (some ⟨G, 0, none⟩) s.bx.length c) rfl rfl (by kernel_rfl) (by kernel_rfl) (by kernel_rfl) (fun _ _ _ h => h) rfl (fun u hu => by have x := hu.1.1; go_simp) hC ?_
            refine h_take 2 125 (.pointer (some ⟨w.heap.size, 2, none⟩)) rfl rfl (by kernel_rfl) (by kernel_rfl) (by kernel_rfl) (fun _ _ _ h => h) rfl (fun u hu => by go_simp) hC ?_
            simp only [Act.put, List.setIfInBounds_toArray, List.set_cons_zero, List.set_cons_succ]
            refine h_take 3 126 (.int .i64 (jn : Int)) rfl rfl (by kernel_rfl) (by kernel_rfl) (by kernel_rfl) (fun _ _ _ h => h) rfl (fun u hu => by have x := hu.1.2; go_simp) hC ?_
            refine h_take 4 127 (.pointer (some ⟨w.heap.size, 0, none⟩)) rfl rfl (by kernel_rfl) (by kernel_rfl) (by kernel_rfl) (fun _ _ _ h => h) rfl (fun u hu => by go_simp) hC ?_
            refine h_take 5 128 (.slice (some ⟨G, 0, none⟩) s.bx.length c) rfl rfl (by kernel_rfl) (by kernel_rfl) (by kernel_rfl) (fun _ _ _ h => h) rfl (fun u hu => by have x := hu.1.1; go_simp) hC ?_
            simp only [Act.put, List.setIfInBounds_toArray, List.set_cons_zero, List.set_cons_succ]
            refine h_take 6 129 (.pointer (some ⟨w.heap.size, 2, none⟩)) rfl rfl (by kernel_rfl) (by kernel_rfl) (by kernel_rfl) (fun _ _ _ h => h) rfl (fun u hu => by go_simp) hC ?_
            refine h_take 7 130 (.int .i64 (jn : Int)) rfl rfl (by kernel_rfl) (by kernel_rfl) (by kernel_rfl) (fun _ _ _ h => h) rfl (fun u hu => by have x := hu.1.2; go_simp) hC ?_
            refine h_take 8 131 (.pointer (some ⟨G, jn, none⟩)) rfl rfl (by kernel_rfl) (by kernel_rfl) (by kernel_rfl) (fun _ _ _ h => h) rfl (fun u hu => by go_simp) hC ?_
            simp only [Act.put, List.setIfInBounds_toArray, List.set_cons_zero, List.set_cons_succ]
            refine h_take 10 133 (.pointer (some ⟨w.heap.size, 3, none⟩)) rfl rfl (by kernel_rfl) (by kernel_rfl) (by kernel_rfl) (fun _ _ _ h => h) rfl (fun u hu => by go_simp) hC ?_
            refine h_take 11 134 (.int .i64 s.rank) rfl rfl (by kernel_rfl) (by kernel_rfl) (by kernel_rfl) (fun _ _ _ h => h) rfl (fun u hu => by have x := hu.2; go_simp) hC ?_
            simp only [Act.put, List.setIfInBounds_toArray, List.set_cons_zero, List.set_cons_succ]
            refine h_value 9 132 (.slice al LL.length cl) rfl rfl (by kernel_rfl) rfl (by go_simp) hC ?_
            simp only [Act.put, List.setIfInBounds_toArray, List.set_cons_zero, List.set_cons_succ]
            refine h_call 12 135 73 #[.slice al LL.length cl, .int .i64 s.rank] rfl rfl (by kernel_rfl) rfl (by go_simp) ?_
            refine (specTakenOut al LL cl s.rank V hfr).mono ?_
            intro e w5 G3
            obtain ⟨a5, c5, rfl, OX, b⟩ := OwnX.goto G3
            have hle := b.size
            have hGV := S.box.lt
            have hHV : ∀ j, j < s.bx.length → H j ≤ V.heap.size := fun j hj => (S.box.out j hj).2.1
            have S5 := S.below b
            have RE5 := RE.below ownE_sep b
            clear G3 hfr hA S RE
            replace hC := And.intro (And.intro ((b.cell (World.block_lt_of_cell? _ _ hC.1.1)).trans hC.1.1) ((b.cell (World.block_lt_of_cell? _ _ hC.1.2)).trans hC.1.2)) ((b.cell (World.block_lt_of_cell? _ _ hC.2)).trans hC.2)
            clear b hcG
            refine ⟨_, rfl, hC, ?_⟩
            simp only [Act.put, List.setIfInBounds_toArray, List.set_cons_zero, List.set_cons_succ]
            refine h_value 13 136 (.pointer (some ⟨G, jn, none⟩)) rfl rfl (by kernel_rfl) rfl (by go_simp) hC ?_
            simp only [Act.put, List.setIfInBounds_toArray, List.set_cons_zero, List.set_cons_succ]
            obtain ⟨cur, hcb, hcs, -⟩ := S5.box.row
            have hck : ∃ x, w5.cell? ⟨G, jn, none⟩ = some x := by
              rw [cell_of_row w5 _ _ _ _ _ hcb, Array.getElem?_eq_getElem (by omega)]
              exact ⟨_, rfl⟩
            obtain ⟨x, hck⟩ := hck
            have f0 := frozen_of_row w5 G jn _ _ hcb
            generalize hL5 : outV LL s.rank = L5 at *
            replace hL5 := Lib.hid hL5
            refine h_store 14 (w5.setCell ⟨G, jn, none⟩ (.slice a5 L5.length c5)) rfl rfl (by kernel_rfl) rfl (by go_simp) ?_
            have m := mid_cell w5 G jn (.slice a5 L5.length c5)
            have O6 := (BoxO.put (X := s.bx) S5.box (i := jn) (lo := V.heap.size) (hi := w5.heap.size) (X' := s.bx.set jn L5) (v := .slice a5 L5.length c5) (Nat.lt_of_lt_of_le hj hcap) (fun i hi hne => by rw [nthB_set hj, if_neg hne]) (by rw [nthB_set hj, if_pos rfl]; exact OX) hle (Nat.le_refl _) (.inl hGV) (fun i hi _ => .inl (hHV i hi))).less (F' := fun i => i < s.bx.length) (fun i hi => .inl hi)
            have hlX : (s.bx.set jn L5).length = s.bx.length := List.length_set
            have S6 : Mdl w.heap.size G cap c ⟨s.bx.set jn L5, s.busy - 1, s.node, s.rank, s.now⟩ (fun i => if i = jn then V.heap.size else L i) (fun i => if i = jn then w5.heap.size else H i) w (w5.setCell ⟨G, jn, none⟩ (.slice a5 L5.length c5)) := by
              refine ⟨by dsimp only; rw [hlX]; exact (m.block w.heap.size (Array.getElem?_eq_some_iff.1 S5.arg).1 (by omega)).trans S5.arg, (m.block (w.heap.size + 1) (Array.getElem?_eq_some_iff.1 S5.res).1 (by omega)).trans S5.res, by dsimp only; rw [hlX]; exact O6, S5.kp.trans (kp_cell w5 G jn _), rfl, hGlt, by dsimp only; rw [hlX]; exact hcap, fun i hi => ?_⟩
              replace hi : i < s.bx.length := by have h2 : i < (s.bx.set jn L5).length := hi; rw [hlX] at h2; exact h2
              show (if i = jn then w5.heap.size else H i) ≤ w.heap.size ∨ w.heap.size + 2 ≤ (if i = jn then V.heap.size else L i)
              by_cases e : i = jn
              · rw [if_pos e, if_pos e]; exact .inr (by omega)
              · rw [if_neg e, if_neg e]; exact .inl (hHlt i hi)
            have RE6 := RE5.sep ownE_sep m (fun q hq => .inr (by have := hvn q hq; omega)) (fun i hi => .inr (by have := hLn i hi; omega))
            have hVg : w.heap.size ≤ V.heap.size := by omega
            replace hC := And.intro (And.intro (cell_kp hC.1.1 (kp_cell w5 G jn (.slice a5 L5.length c5)) (by omega)) (cell_kp hC.1.2 (kp_cell w5 G jn (.slice a5 L5.length c5)) (by omega))) (cell_kp hC.2 (kp_cell w5 G jn (.slice a5 L5.length c5)) (by omega))
            refine ⟨hC, ?_⟩
            refine wpAnyH_done (by kernel_rfl) ?_ _
            clear hC S5 O6 RE5 m OX hck f0 hcb hcs hHV hGV
            generalize w5.setCell _ _ = w6 at S6 RE6 ⊢
            have f2 := S6.free 2
            have c2 := S6.cell 2
            go_upto_region 28 with fail
            clear f2 c2
            have S7 := S6.set 2 (.int .i64 0) (busy := s.busy - 1) (node := 0) (rank := s.rank) (now := s.now) rfl
            have RE7 := RE6.sep ownE_sep (mid_cell w6 w.heap.size 2 (.int .i64 0)) (fun q hq => .inr (by have := hvn q hq; omega)) (fun i hi => .inr (by have := hLn i hi; omega))
            clear S6 RE6
            generalize World.setCell _ _ _ = w7 at S7 RE7 ⊢
            have f3 := S7.free 3
            have c3 := S7.cell 3
            go_upto_region 29 with fail
            clear f3 c3
            have S8 := S7.set 3 (.int .i64 0) (busy := s.busy - 1) (node := 0) (rank := 0) (now := s.now) rfl
            have RE8 := RE7.sep ownE_sep (mid_cell w7 w.heap.size 3 (.int .i64 0)) (fun q hq => .inr (by have := hvn q hq; omega)) (fun i hi => .inr (by have := hLn i hi; omega))
            clear S7 RE7
            generalize World.setCell _ _ _ = w8 at S8 RE8 ⊢
            obtain ⟨av, cv, rfl⟩ := RE8.is
            have hT2 : Hid (tikS s = ⟨s.bx.set jn L5, s.busy - 1, 0, 0, s.now + 1⟩ ∧ tikE s = N) := Lib.hid ⟨by rw [hT.out.1, hES.out], by rw [hT.out.2, hN.out]⟩
            clear hT
            dsimp only at S8
            clear hlX hES
            generalize s.bx.set jn L5 = X' at S8 hT2
            have c1 := S8.cell 1
            have c4 := S8.cell 4
            have f4 := S8.free 4
            go_upto_region 30 with fail
            clear c1 c4 f4
            have S5 := S8.set 4 (.int .i64 (s.now + 1)) (busy := s.busy - 1) (node := 0) (rank := 0) (now := s.now + 1) rfl
            have RE5 := RE8.sep ownE_sep (mid_cell w8 w.heap.size 4 (.int .i64 (s.now + 1))) (fun q hq => .inr (by have := hvn q hq; omega)) (fun i hi => .inr (by have := hLn i hi; omega))
            generalize World.setCell _ _ _ = w9 at S5 RE5 ⊢

            have c0 := S5.cell 0
            have c1 := S5.cell 1
            have c2 := S5.cell 2
            have c3 := S5.cell 3
            have c4 := S5.cell 4
            have e0 := cell_of_row w9 (w.heap.size + 1) 0 _ _ _ S5.res
            have e1 := cell_of_row w9 (w.heap.size + 1) 1 _ _ _ S5.res
            have e2 := cell_of_row w9 (w.heap.size + 1) 2 _ _ _ S5.res
            have e3 := cell_of_row w9 (w.heap.size + 1) 3 _ _ _ S5.res
            have e4 := cell_of_row w9 (w.heap.size + 1) 4 _ _ _ S5.res
            have k0 := frozen_of_row w9 (w.heap.size + 1) 0 _ _ S5.res
            have k1 := frozen_of_row w9 (w.heap.size + 1) 1 _ _ S5.res
            have k2 := frozen_of_row w9 (w.heap.size + 1) 2 _ _ S5.res
            have k3 := frozen_of_row w9 (w.heap.size + 1) 3 _ _ S5.res
            have k4 := frozen_of_row w9 (w.heap.size + 1) 4 _ _ S5.res
            go_wp2_with fail
            clear c0 c1 c2 c3 c4 e0 e1 e2 e3 e4 k0 k1 k2 k3 k4
            obtain ⟨h5, O5, K5, m5⟩ := S5.fin _ rfl
            have RE6 := RE5.sep ownE_sep m5 (fun q hq => .inr (hvn q hq)) (fun i hi => .inr (by have := hLn i hi; omega))
            generalize World.setCell _ _ _ = w5 at h5 O5 K5 RE6 ⊢
            refine bodyPost_ret (v := .tuple #[svV (some ⟨G, 0, none⟩) X'.length c (s.busy - 1) 0 0 (s.now + 1), .slice av N.length cv]) (results_srE Tryz.results38 _ _ (w.heap.size + 1) _ _ rfl rfl h5 rfl) rfl ?_
            unfold TikO
            rw [hT2.out.1, hT2.out.2]
            exact ⟨_, _, _, _, _, _, _, rfl, O5, fun i => by
              by_cases e : i = jn
              · right; show w.heap.size ≤ if i = jn then V.heap.size else L i; rw [if_pos e]; exact hVg
              · left; exact ⟨if_neg e, if_neg e⟩, K5, RE6⟩
      · have hT : Hid (tikS s = ⟨s.bx, s.busy - 1, s.node, s.rank, s.now + 1⟩ ∧ tikE s = []) := Lib.hid (by
          rw [hTS.out.1, hTS.out.2]
          unfold bitS bitE
          rw [ht.out]
          dsimp only
          rw [if_pos hp, if_neg h33, if_neg (fun h => h33 h.2 : ¬ (0 < s.busy ∧ s.busy - 1 = 3))]
          exact ⟨rfl, rfl⟩)
        have hd3 : decide (s.busy - 1 = 3) = false := decide_eq_false h33
        have hd3b : (s.busy - 1 == 3) = false := by rw [beq_eq_false_iff_ne]; exact h33
        replace h33 := Lib.hid h33
        clear hTS ht
        have c1 : w2.cell? ⟨w.heap.size, 1, none⟩ = some (.int .i64 (s.busy - 1)) := S.cell 1
        have c4 : w2.cell? ⟨w.heap.size, 4, none⟩ = some (.int .i64 s.now) := S.cell 4
        have f4 := S.free 4
        go_upto_region 30 with fail
        clear c1 c4 f4
        have S5 := S.set 4 (.int .i64 (s.now + 1)) (busy := s.busy - 1) (node := s.node) (rank := s.rank) (now := s.now + 1) rfl
        have RE5 := RE.sep ownE_sep (mid_cell w2 w.heap.size 4 (.int .i64 (s.now + 1))) (fun q hq => .inr (by have := hvn q hq; omega)) (fun j hj => absurd hj (Nat.not_lt_zero _))
        generalize World.setCell _ _ _ = w9 at S5 RE5 ⊢

        have c0 := S5.cell 0
        have c1 := S5.cell 1
        have c2 := S5.cell 2
        have c3 := S5.cell 3
        have c4 := S5.cell 4
        have e0 := cell_of_row w9 (w.heap.size + 1) 0 _ _ _ S5.res
        have e1 := cell_of_row w9 (w.heap.size + 1) 1 _ _ _ S5.res
        have e2 := cell_of_row w9 (w.heap.size + 1) 2 _ _ _ S5.res
        have e3 := cell_of_row w9 (w.heap.size + 1) 3 _ _ _ S5.res
        have e4 := cell_of_row w9 (w.heap.size + 1) 4 _ _ _ S5.res
        have k0 := frozen_of_row w9 (w.heap.size + 1) 0 _ _ S5.res
        have k1 := frozen_of_row w9 (w.heap.size + 1) 1 _ _ S5.res
        have k2 := frozen_of_row w9 (w.heap.size + 1) 2 _ _ S5.res
        have k3 := frozen_of_row w9 (w.heap.size + 1) 3 _ _ S5.res
        have k4 := frozen_of_row w9 (w.heap.size + 1) 4 _ _ S5.res
        go_wp2_with fail
        clear c0 c1 c2 c3 c4 e0 e1 e2 e3 e4 k0 k1 k2 k3 k4
        obtain ⟨h5, O5, K5, m5⟩ := S5.fin _ rfl
        have RE6 := RE5.sep ownE_sep m5 (fun q hq => .inr (hvn q hq)) (fun j hj => absurd hj (Nat.not_lt_zero _))
        generalize World.setCell _ _ _ = w5 at h5 O5 K5 RE6 ⊢
        refine bodyPost_ret (v := .tuple #[svV (some ⟨G, 0, none⟩) s.bx.length c (s.busy - 1) (s.node) (s.rank) (s.now + 1), .slice (some ⟨w.heap.size + 2, 0, none⟩) 0 0]) (results_srE Tryz.results38 _ _ (w.heap.size + 1) _ _ rfl rfl h5 rfl) rfl ?_
        unfold TikO
        rw [hT.out.1, hT.out.2]
        exact ⟨_, _, _, _, _, _, _, rfl, O5, fun j => .inl ⟨rfl, rfl⟩, K5, RE6⟩
  · have hnd : decide (100000 ≤ s.now) = true := decide_eq_true (by omega)
    have hnd' : decide (s.now ≥ 100000) = true := decide_eq_true (by omega)
    have hTS : Hid (tikS s = s ∧ tikE s = []) := Lib.hid ⟨if_neg hn, if_neg hn⟩
    have c0 := S.cell 0
    have c1 := S.cell 1
    have c2 := S.cell 2
    have c3 := S.cell 3
    have c4 := S.cell 4
    have e0 := cell_of_row W1 (w.heap.size + 1) 0 _ _ _ S.res
    have e1 := cell_of_row W1 (w.heap.size + 1) 1 _ _ _ S.res
    have e2 := cell_of_row W1 (w.heap.size + 1) 2 _ _ _ S.res
    have e3 := cell_of_row W1 (w.heap.size + 1) 3 _ _ _ S.res
    have e4 := cell_of_row W1 (w.heap.size + 1) 4 _ _ _ S.res
    have k0 := frozen_of_row W1 (w.heap.size + 1) 0 _ _ S.res
    have k1 := frozen_of_row W1 (w.heap.size + 1) 1 _ _ S.res
    have k2 := frozen_of_row W1 (w.heap.size + 1) 2 _ _ S.res
    have k3 := frozen_of_row W1 (w.heap.size + 1) 3 _ _ S.res
    have k4 := frozen_of_row W1 (w.heap.size + 1) 4 _ _ S.res
    go_wp2_with fail
    clear c0 c1 c2 c3 c4 e0 e1 e2 e3 e4 k0 k1 k2 k3 k4
    obtain ⟨h5, O5, K5, m5⟩ := S.fin _ rfl
    have RE5 := RE.sep ownE_sep m5 (fun q hq => .inr (hvn q hq)) (fun j hj => absurd hj (Nat.not_lt_zero _))
    generalize World.setCell _ _ _ = w5 at h5 O5 K5 RE5 ⊢
    refine bodyPost_ret (v := .tuple #[svV (some ⟨G, 0, none⟩) s.bx.length c s.busy s.node s.rank s.now, .slice (some ⟨w.heap.size + 2, 0, none⟩) 0 0]) (results_srE Tryz.results38 _ _ (w.heap.size + 1) _ _ rfl rfl h5 rfl) rfl ?_
    unfold TikO
    rw [hTS.out.1, hTS.out.2]
    exact ⟨_, _, _, _, _, _, _, rfl, O5, fun j => .inl ⟨rfl, rfl⟩, K5, RE5⟩
end Go.Proofs.YtnhmecabppaboaaGreat

/- spec.ServerTick. -/

set_option linter.unusedVariables false
set_option linter.unusedSimpArgs false
namespace Go.Proofs.YtnhmecabppaboaaGreat
open Go.RowKit

/-- What the model answers: a server and events that can be read. -/
def MtR (s : Srv) (N : List Ev) (w : World) (e : Ending) (w' : World) : Prop :=
  ∃ a c ae ce, e = .returned (.tuple #[svV a s.bx.length c s.busy s.node s.rank s.now, .slice ae N.length ce]) ∧ Bxs Adr a s.bx w' ∧ Evs ae N w' ∧ Below w.heap.size w w'
theorem tikS_right {s : Srv} (h : srvB s = true) : srvB (tikS s) = true := by
  unfold tikS
  split
  · exact bitS_right h (by assumption)
  · exact h
theorem tikE_len (s : Srv) : (tikE s).length ≤ 1 := by
  unfold tikE
  split
  · exact bitE_len s
  · simp
set_option maxHeartbeats 32000000 in
set_option maxRecDepth 20000 in
/-- spec.ServerTick. -/
theorem specServerTick (R : Option Addr → Nat → Nat → Prop) (a : Option Addr) (X : List (List Frm)) (c : Nat) (busy nd rank now : Int) (w : World) (hd : Bxs R a X w) :
    Calls Tryz.prog 11 #[svV a X.length c busy nd rank now] w (MtR (if srvB ⟨X, busy, nd, rank, now⟩ = true then tikS ⟨X, busy, nd, rank, now⟩ else srZ) (if srvB ⟨X, busy, nd, rank, now⟩ = true then tikE ⟨X, busy, nd, rank, now⟩ else []) w) := by
  obtain ⟨HC, HR, B⟩ := two_made w (svC a X.length c busy nd rank now) (svC none 0 0 0 0 0 0) 26 26
  have hz : ((w.alloc (.cells (svC a X.length c busy nd rank now) 26)).alloc (.cells (svC none 0 0 0 0 0 0) 26)).heap.size = w.heap.size + 2 := by simp
  generalize hs2 : (if srvB ⟨X, busy, nd, rank, now⟩ = true then tikS ⟨X, busy, nd, rank, now⟩ else srZ) = s2
  generalize hN2 : (if srvB ⟨X, busy, nd, rank, now⟩ = true then tikE ⟨X, busy, nd, rank, now⟩ else []) = N2
  replace hs2 := Lib.hid hs2
  replace hN2 := Lib.hid hN2
  go_enter Tryz.func11, Tryz.ntmps11
  go_upto_region 1 with fail
  replace hd := hd.below B
  generalize (w.alloc (.cells (svC a X.length c busy nd rank now) 26)).alloc (.cells (svC none 0 0 0 0 0 0) 26) = W at HC HR B hz hd ⊢
  have S0 : Sv w.heap.size a X.length c busy nd rank now w W := ⟨HC, B⟩
  go_wp2_with (refine S0.take rfl rfl rfl ?_)
  refine (specServerOk R a X c busy nd rank now _ hd).mono ?_
  rintro e w1 ⟨rfl, b⟩
  replace HC := blkW HC b
  replace HR := blkW HR b
  replace B := Below.then2 B b
  replace hd := hd.below b
  have hz1 : w.heap.size + 2 ≤ w1.heap.size := by have := b.size; omega
  clear b S0 hz
  cases hok : srvB ⟨X, busy, nd, rank, now⟩
  · have bA := below_more (Below.refl w1.heap.size w1) (.cells #[] 43)
    replace HR := blkW HR bA
    replace B := Below.then2 B bA
    have e0 := cell_of_row (w1.alloc (.cells #[] 43)) (w.heap.size + 1) 0 _ _ _ HR
    have e1 := cell_of_row (w1.alloc (.cells #[] 43)) (w.heap.size + 1) 1 _ _ _ HR
    have e2 := cell_of_row (w1.alloc (.cells #[] 43)) (w.heap.size + 1) 2 _ _ _ HR
    have e3 := cell_of_row (w1.alloc (.cells #[] 43)) (w.heap.size + 1) 3 _ _ _ HR
    have e4 := cell_of_row (w1.alloc (.cells #[] 43)) (w.heap.size + 1) 4 _ _ _ HR
    have k0 := frozen_of_row (w1.alloc (.cells #[] 43)) (w.heap.size + 1) 0 _ _ HR
    have k1 := frozen_of_row (w1.alloc (.cells #[] 43)) (w.heap.size + 1) 1 _ _ HR
    have k2 := frozen_of_row (w1.alloc (.cells #[] 43)) (w.heap.size + 1) 2 _ _ HR
    have k3 := frozen_of_row (w1.alloc (.cells #[] 43)) (w.heap.size + 1) 3 _ _ HR
    have k4 := frozen_of_row (w1.alloc (.cells #[] 43)) (w.heap.size + 1) 4 _ _ HR
    replace hok := Lib.hid hok
    go_wp2_with fail
    obtain ⟨h5, m⟩ := set5 HR (.slice none 0 0) (.int .i64 0) (.int .i64 0) (.int .i64 0) (.int .i64 0)
    clear e0 e1 e2 e3 e4 k0 k1 k2 k3 k4
    generalize World.setCell _ _ _ = w5 at h5 m ⊢
    refine bodyPost_ret (v := .tuple #[svV none 0 0 0 0 0 0, .slice (some ⟨w1.heap.size, 0, none⟩) 0 0]) ?_ rfl ?_
    · exact results_srE Tryz.results11 _ _ (w.heap.size + 1) _ _ rfl rfl h5 rfl
    · obtain rfl : srZ = s2 := by rw [← hs2.out, hok.out]; rfl
      obtain rfl : [] = N2 := by rw [← hN2.out, hok.out]; rfl
      exact ⟨none, 0, some ⟨w1.heap.size, 0, none⟩, 0, rfl, Bxs.nil _ _, ⟨by simp, fun j hj => absurd hj (Nat.not_lt_zero _)⟩, B.trans (m.below (by omega) B.size)⟩
  · have hS := srvB_iff.1 hok
    have hbx : boxesB X = true := hS.1
    replace hS := Lib.hid hS
    replace hok := Lib.hid hok
    have S1 : Sv w.heap.size a X.length c busy nd rank now w w1 := ⟨HC, B⟩
    go_wp2_with (refine S1.take rfl rfl rfl ?_)
    refine (specCopySrv R a X c busy nd rank now _ hd hbx).mono ?_
    rintro e w2 ⟨G, cap, cc, L, H, rfl, O, hF, hcap, b⟩
    dsimp only at O hF hcap
    replace HR := blkW HR b
    clear S1 HC hd
    go_wp2_with fail
    refine (specTickS G cap cc ⟨X, busy, nd, rank, now⟩ L H w2 O hcap hok.out).mono ?_
    rintro e w3 ⟨L', H', ae, ce, PE, LE, HE, rfl, O3, hLH, K3, RE⟩
    obtain rfl : tikS ⟨X, busy, nd, rank, now⟩ = s2 := by rw [← hs2.out, if_pos hok.out]
    obtain rfl : tikE ⟨X, busy, nd, rank, now⟩ = N2 := by rw [← hN2.out, if_pos hok.out]
    have hr3 := tikS_right hok.out
    have hE1 := tikE_len ⟨X, busy, nd, rank, now⟩
    have hlen : Hid ((tikS ⟨X, busy, nd, rank, now⟩).bx.length = X.length) := Lib.hid (by
      unfold tikS
      split
      · exact bitS_len _
      · rfl)
    clear hs2 hN2 hok
    generalize tikS ⟨X, busy, nd, rank, now⟩ = s' at *
    generalize tikE ⟨X, busy, nd, rank, now⟩ = N' at *
    have hG := hF.1
    have hsz := b.size
    replace HR := (K3.block (w.heap.size + 1) (by show w.heap.size + 1 ≠ G; omega) (Array.getElem?_eq_some_iff.1 HR).1).trans HR
    have bg : Below w.heap.size w w3 := (Below.then2 B b).trans ⟨K3.os, K3.tape, K3.output, K3.size, fun k hk => K3.block k (by show k ≠ G; omega) (by have := B.size; omega)⟩
    have e0 := cell_of_row w3 (w.heap.size + 1) 0 _ _ _ HR
    have e1 := cell_of_row w3 (w.heap.size + 1) 1 _ _ _ HR
    have e2 := cell_of_row w3 (w.heap.size + 1) 2 _ _ _ HR
    have e3 := cell_of_row w3 (w.heap.size + 1) 3 _ _ _ HR
    have e4 := cell_of_row w3 (w.heap.size + 1) 4 _ _ _ HR
    have k0 := frozen_of_row w3 (w.heap.size + 1) 0 _ _ HR
    have k1 := frozen_of_row w3 (w.heap.size + 1) 1 _ _ HR
    have k2 := frozen_of_row w3 (w.heap.size + 1) 2 _ _ HR
    have k3 := frozen_of_row w3 (w.heap.size + 1) 3 _ _ HR
    have k4 := frozen_of_row w3 (w.heap.size + 1) 4 _ _ HR
    go_wp2_with fail
    obtain ⟨h5, m⟩ := set5 HR (.slice (some ⟨G, 0, none⟩) s'.bx.length cc) (.int .i64 s'.busy) (.int .i64 s'.node) (.int .i64 s'.rank) (.int .i64 s'.now)
    clear e0 e1 e2 e3 e4 k0 k1 k2 k3 k4
    generalize World.setCell _ _ _ = w5 at h5 m ⊢
    have hb3 := (srvB_iff.1 hr3).1
    have O5 := O3.kp (w' := w5) (Y := fun q => q ≠ w.heap.size + 1) ⟨m.size, fun q hq hl => m.block q hl (by omega), m.os, m.tape, m.output⟩ (by show G ≠ w.heap.size + 1; omega) (fun j hj q h1 h2 => by
      show q ≠ w.heap.size + 1
      have h4 := hF.2 j (by have := hlen.out; omega)
      rcases hLH j with ⟨e, -⟩ | e <;> omega)
    have RE5 := RE.sep ownE_sep m (fun q hq => .inr (by have := (World.ownsRow.lt RE.own q hq).1; omega)) (fun j hj => .inr (by have := (RE.out j hj).1; omega))
    refine bodyPost_ret (v := .tuple #[svV (some ⟨G, 0, none⟩) s'.bx.length cc s'.busy s'.node s'.rank s'.now, .slice ae N'.length ce]) ?_ rfl ?_
    · exact results_srE Tryz.results11 _ _ (w.heap.size + 1) _ _ rfl rfl h5 rfl
    · exact ⟨some ⟨G, 0, none⟩, cc, ae, ce, rfl, O5.bxs (by have := (boxesB_iff.1 hb3).2.1; omega) (fun j hj => by have := (box_small hb3 hj).1; omega), RE5.evo.evs (Nat.le_trans hE1 (by decide)), bg.trans (m.below (by omega) bg.size)⟩
end Go.Proofs.YtnhmecabppaboaaGreat

/- What a run of the server hands back, held for the exact laws: boxes and events in memory of the call's own, apart from one another; marks on both; how great they are. -/

set_option linter.unusedVariables false
set_option linter.unusedSimpArgs false
set_option maxRecDepth 20000
namespace Go.Proofs.YtnhmecabppaboaaGreat
open Go.RowKit

structure AnsE (B : Nat) (a : Option Addr) (X : List (List Frm)) (L H : Nat → Nat) (ae : Option Addr) (N : List Ev) (P : Nat → EvP) (LE HE : Nat → Nat) (w : World) : Prop where
  bx : AnsB True B a X L H w
  ev : EvO ae N P LE HE w
  low : (∀ g, ae = some ⟨g, 0, none⟩ → B ≤ g) ∧ ∀ j, j < N.length → B ≤ LE j
  be : ∀ i, i < X.length → ∀ j, j < N.length → H i ≤ LE j ∨ HE j ≤ L i
  ge : ∀ G, a = some ⟨G, 0, none⟩ → ∀ j, j < N.length → G < LE j ∨ HE j ≤ G
  pv : ∀ g, ae = some ⟨g, 0, none⟩ → (∀ G, a = some ⟨G, 0, none⟩ → G ≠ g) ∧ ∀ j, j < X.length → g < L j ∨ H j ≤ g
  gl : ∀ g, ae = some ⟨g, 0, none⟩ → g < w.heap.size
/-- They lie below block T. -/
def TopE (X : List (List Frm)) (H : Nat → Nat) (ae : Option Addr) (N : List Ev) (HE : Nat → Nat) (T : Nat) : Prop := (∀ j, j < X.length → H j ≤ T) ∧ (∀ j, j < N.length → HE j ≤ T) ∧ ∀ g, ae = some ⟨g, 0, none⟩ → g < T
section
variable {B : Nat} {a : Option Addr} {X : List (List Frm)} {L H : Nat → Nat} {ae : Option Addr} {N : List Ev} {P : Nat → EvP} {LE HE : Nat → Nat} {w w' : World}
theorem AnsE.kp (h : AnsE B a X L H ae N P LE HE w) (k : Kp (fun q => B ≤ q) w w') : AnsE B a X L H ae N P LE HE w' :=
  ⟨h.bx.kp k fun q h1 _ => h1, h.ev.kp k fun q hq => ⟨fun g hg e => hq (by have := h.low.1 g hg; show B ≤ q; omega), fun j hj => .inl (by have := h.low.2 j hj; have hq' : ¬ B ≤ q := hq; omega)⟩, h.low, h.be, h.ge, h.pv, fun g hg => Nat.lt_of_lt_of_le (h.gl g hg) k.size⟩
theorem AnsE.top (h : AnsE B a X L H ae N P LE HE w) : TopE X H ae N HE w.heap.size := ⟨fun j hj => by
  rcases h.bx.own with rfl | ⟨G, cap, ha, hb⟩
  · exact absurd hj (Nat.not_lt_zero _)
  · exact (hb.out j hj).2.1, fun j hj => (h.ev.out j hj).2.1, h.gl⟩
theorem AnsE.below (h : AnsE B a X L H ae N P LE HE w) (b : Below w.heap.size w w') : AnsE B a X L H ae N P LE HE w' := h.kp (Kp.ofBelow b)
theorem AnsE.sep {lo hi : Nat} (h : AnsE B a X L H ae N P LE HE w) (m : Mid lo hi w w') (hs : hi ≤ B) : AnsE B a X L H ae N P LE HE w' :=
  h.kp ⟨m.size, fun q hq hl => m.block q hl (.inr (Nat.le_trans hs hq)), m.os, m.tape, m.output⟩
theorem AnsE.nil (B : Nat) (L H : Nat → Nat) (P : Nat → EvP) (LE HE : Nat → Nat) (w : World) : AnsE B none [] L H none [] P LE HE w :=
  ⟨AnsB.nil _ _ _ _ _, EvO.nil _ _ _ _ _, ⟨fun g hg => (by cases hg), fun j hj => absurd hj (Nat.not_lt_zero _)⟩, fun i hi => absurd hi (Nat.not_lt_zero _), fun G hG => (by cases hG), fun g hg => (by cases hg), fun g hg => (by cases hg)⟩
/-- Blocks between two numbers turn; what lies below stays. -/
theorem below_kp {n B T : Nat} {w0 w w' : World} (b : Below n w0 w) (k : Kp (fun q => q < B ∨ T ≤ q) w w') (hn : n ≤ w0.heap.size) (h : n ≤ B) : Below n w0 w' :=
  ⟨k.os.trans b.os, k.tape.trans b.tape, k.output.trans b.output, Nat.le_trans b.size k.size, fun q hq => (k.block q (.inl (Nat.lt_of_lt_of_le hq h)) (Nat.lt_of_lt_of_le hq (Nat.le_trans hn b.size))).trans (b.block q hq)⟩
end
/-- laws.markServer of what a run handed back. -/
theorem markAnsE (B : Nat) (a : Option Addr) (X : List (List Frm)) (L H : Nat → Nat) (ae : Option Addr) (N : List Ev) (P : Nat → EvP) (LE HE : Nat → Nat) (c : Nat) (busy node rank now : Int) (k0 : Int) (T : Nat) (w : World) (HO : AnsE B a X L H ae N P LE HE w) (hT : TopE X H ae N HE T) (h : roomX X ≤ 1048577) (h0 : 0 ≤ k0) (h1 : k0 ≤ 80000000) :
    Calls Tryz.prog 23 #[svV a X.length c busy node rank now, .int .i64 k0] w fun e w' => e = .returned (.int .i64 (kB k0 X X.length)) ∧ AnsE B a (mkB k0 X X.length) L H ae N P LE HE w' ∧ TopE X H ae N HE T ∧ Kp (fun q => q < B ∨ T ≤ q) w w' := by
  rcases HO.bx.own with rfl | ⟨G, cap, rfl, HB⟩
  · refine (markAns B B a [] L H c busy node rank now k0 w HO.bx (fun j hj => absurd hj (Nat.not_lt_zero _)) h h0 h1).mono ?_
    rintro e w' ⟨he, ho, m⟩
    refine ⟨he, ⟨ho, HO.ev.kp (Y := fun _ => True) ⟨m.size, fun q _ hl => m.block q hl (by omega), m.os, m.tape, m.output⟩ (fun q hq => absurd trivial hq), HO.low, fun i hi => absurd hi (Nat.not_lt_zero _), HO.ge, fun g hg => ⟨(HO.pv g hg).1, fun j hj => absurd hj (Nat.not_lt_zero _)⟩, fun g hg => Nat.lt_of_lt_of_le (HO.gl g hg) m.size⟩, hT, ⟨m.size, fun q hq hl => m.block q hl (by omega), m.os, m.tape, m.output⟩⟩
  · refine (markSrv G cap X L H c busy node rank now k0 w HB h h0 h1).mono ?_
    rintro e w' ⟨he, ho, k⟩
    refine ⟨he, ⟨⟨.inr ⟨G, cap, rfl, by rw [mkB_len]; exact ho⟩, HO.bx.low.1, fun j hj => HO.bx.low.2 j (by rw [mkB_len] at hj; exact hj)⟩, HO.ev.kp k (fun q hq => ⟨fun g hg e => hq ?_, fun j hj => ?_⟩), HO.low, fun i hi => HO.be i (by rw [mkB_len] at hi; exact hi), HO.ge, fun g hg => ⟨(HO.pv g hg).1, fun j hj => (HO.pv g hg).2 j (by rw [mkB_len] at hj; exact hj)⟩, fun g hg => Nat.lt_of_lt_of_le (HO.gl g hg) k.size⟩, hT, ⟨k.size, fun q hq hl => k.block q (fun j hj => by have := HO.bx.low.2 j hj; have := hT.1 j hj; show q < L j ∨ H j ≤ q; omega) hl, k.os, k.tape, k.output⟩⟩
    · subst e
      exact fun j hj => (HO.pv q hg).2 j hj
    · by_cases hc : q < LE j ∨ HE j ≤ q
      · exact hc
      · exfalso
        apply hq
        intro i hi
        have h2 := HO.be i hi j hj
        show q < L i ∨ H i ≤ q
        omega
/-- laws.markEventS of what a run handed back. -/
theorem markAnsEv (B : Nat) (a : Option Addr) (X : List (List Frm)) (L H : Nat → Nat) (ae : Option Addr) (N : List Ev) (P : Nat → EvP) (LE HE : Nat → Nat) (c : Nat) (k0 : Int) (T : Nat) (w : World) (HO : AnsE B a X L H ae N P LE HE w) (hT : TopE X H ae N HE T) (hm : N.length ≤ 2000000) (hs : roomE N N.length ≤ 2000000) (h0 : 0 ≤ k0) (h1 : k0 ≤ 100000000) :
    Calls Tryz.prog 24 #[.slice ae N.length c, .int .i64 k0] w fun e w' => e = .returned (.int .i64 (kE k0 N N.length)) ∧ AnsE B a X L H ae (mixE k0 N N.length) P LE HE w' ∧ TopE X H ae N HE T ∧ Kp (fun q => q < B ∨ T ≤ q) w w' := by
  refine (markEvents ae N P LE HE c k0 w HO.ev hm hs h0 h1).mono ?_
  rintro e w' ⟨he, ho, k⟩
  refine ⟨he, ⟨⟨?_, HO.bx.low⟩, ho, ⟨HO.low.1, fun j hj => HO.low.2 j (by rw [mixE_len] at hj; exact hj)⟩, fun i hi j hj => HO.be i hi j (by rw [mixE_len] at hj; exact hj), fun G hG j hj => HO.ge G hG j (by rw [mixE_len] at hj; exact hj), HO.pv, fun g hg => Nat.lt_of_lt_of_le (HO.gl g hg) k.size⟩, hT, ⟨k.size, fun q hq hl => k.block q ⟨fun g hg e => by have := HO.low.1 g hg; have := hT.2.2 g hg; omega, fun j hj => by have := HO.low.2 j hj; have := hT.2.1 j hj; show q < LE j ∨ HE j ≤ q; omega⟩ hl, k.os, k.tape, k.output⟩⟩
  rcases HO.bx.own with e | ⟨G, cap, ha, hb⟩
  · exact .inl e
  · refine .inr ⟨G, cap, ha, hb.kp k ⟨fun g hg => (HO.pv g hg).1 G ha, fun j hj => HO.ge G ha j hj⟩ fun j hj q h1 h2 => ⟨fun g hg e => ?_, fun i hi => ?_⟩⟩
    · have := (HO.pv g hg).2 j hj
      omega
    · have := HO.be j hj i hi
      omega

/-! ### How great they are. -/
theorem nthF_small {L : List Frm} (h : Lean16 L) (j : Nat) : (nthF L j).D.length ≤ 8 := by
  by_cases hj : j < L.length
  · rw [nthF_eq hj]; exact h.2 _ (List.getElem_mem hj)
  · rw [nthF, List.getD_eq_getElem?_getD, List.getElem?_eq_none (by omega)]; exact Nat.zero_le _
theorem nthB_lean {X : List (List Frm)} (h : boxesB X = true) (j : Nat) : Lean16 (nthB X j) := by
  by_cases hj : j < X.length
  · exact Lean16.box ((boxesB_iff.1 h).2.2 j hj)
  · rw [nthB, List.getD_eq_getElem?_getD, List.getElem?_eq_none (by omega)]; exact Lean16.nil
theorem bitE_small {s : Srv} (h : boxesB s.bx = true) : ∀ e ∈ bitE s, e.fr.D.length ≤ 8 := by
  intro e he
  unfold bitE at he
  split at he
  · rw [List.mem_singleton] at he
    subst he
    show (frmR (nthB (lowS (setS s)).bx _) _).D.length ≤ 8
    have e1 : (lowS (setS s)).bx = s.bx := (setS_bx s).1
    rw [e1]
    exact nthF_small (nthB_lean h _) _
  · cases he
theorem runF_small {s : Srv} (h : srvB s = true) : ∀ k : Nat, s.now + k ≤ 100000 → ∀ e ∈ runF s k, e.fr.D.length ≤ 8
  | 0, _ => fun e he => by cases he
  | k + 1, hk => fun e he => by
    rw [runF] at he
    rcases List.mem_append.1 he with he | he
    · exact runF_small h k (by omega) e he
    · exact bitE_small (srvB_iff.1 (runS_right h k (by omega))).1 e he
theorem roomE_small {N : List Ev} (h : ∀ e ∈ N, e.fr.D.length ≤ 8) : ∀ k, roomE N k ≤ 8 * N.length := by
  intro k
  have : ∀ M : List Ev, (∀ e ∈ M, e.fr.D.length ≤ 8) → (M.map fun e => e.fr.D.length).sum ≤ 8 * M.length := by
    intro M
    induction M with
    | nil => intro _; simp
    | cons m M ih =>
      intro hM
      have h1 := hM m (by simp)
      have h2 := ih fun e he => hM e (by simp [he])
      simp only [List.map_cons, List.sum_cons, List.length_cons]
      omega
  have h2 := this (N.take k) fun e he => h e (List.mem_of_mem_take he)
  have h3 : (N.take k).length ≤ N.length := by simp; omega
  unfold roomE
  omega
theorem for_lean (s : Srv) (bits : Int) : ((forS s bits).bx.length ≤ 6 ∧ ∀ j, j < (forS s bits).bx.length → Lean16 (nthB (forS s bits).bx j)) ∧ (forE s bits).length ≤ 5000 ∧ ∀ k, roomE (forE s bits) k ≤ 8 * (forE s bits).length := by
  cases h : srvB s with
  | false =>
    have e1 : forS s bits = srZ := by unfold forS; rw [if_neg (by rw [h]; simp)]
    have e2 : forE s bits = [] := by unfold forE; rw [if_neg (by rw [h]; simp)]
    rw [e1, e2]
    exact ⟨⟨Nat.zero_le _, fun j hj => absurd hj (Nat.not_lt_zero _)⟩, Nat.zero_le _, roomE_small fun e he => by cases he⟩
  | true =>
    have hk := forK_le bits (srvB_iff.1 h).2.2.2.2.1
    have e1 : forS s bits = runS s (forK s bits) := by unfold forS; rw [if_pos h]
    have e2 : forE s bits = runF s (forK s bits) := by unfold forE; rw [if_pos h]
    rw [e1, e2]
    refine ⟨boxes_lean (srvB_iff.1 (runS_right h _ hk.2)).1, Nat.le_trans (runF_len s _) hk.1, roomE_small (runF_small h _ hk.2)⟩
/-- What the program's run hands back. -/
def SeO (X : List (List Frm)) (busy node rank now : Int) (N : List Ev) (w : World) (e : Ending) (w' : World) : Prop :=
  ∃ a c L H ae ce P LE HE, e = .returned (.tuple #[svV a X.length c busy node rank now, .slice ae N.length ce]) ∧ AnsE w.heap.size a X L H ae N P LE HE w' ∧ Below w.heap.size w w'
theorem SfR.se {s : Srv} {bits : Int} {w : World} {e : Ending} {w' : World} (h : SfR s bits w e w') : SeO (forS s bits).bx (forS s bits).busy (forS s bits).node (forS s bits).rank (forS s bits).now (forE s bits) w e w' := by
  cases hs : srvB s
  · obtain ⟨he, b⟩ := h.1 hs
    have e1 : forS s bits = srZ := by unfold forS; rw [if_neg (by rw [hs]; simp)]
    have e2 : forE s bits = [] := by unfold forE; rw [if_neg (by rw [hs]; simp)]
    rw [e1, e2]
    exact ⟨none, 0, fun _ => 0, fun _ => 0, none, 0, fun _ => (none, 0), fun _ => 0, fun _ => 0, he, AnsE.nil _ _ _ _ _ _ _, b⟩
  · obtain ⟨p, G, L, H, ae, ce, P, LE, HE, he, ix, ob, oe, b⟩ := h.2 hs
    refine ⟨_, _, L, H, ae, ce, P, LE, HE, he, ⟨⟨.inr ⟨G, _, rfl, ob⟩, fun G' hG' => by cases hG'; exact ix.low.2.1, ix.low.2.2⟩, oe.evo, ⟨fun g hg => ?_, fun j hj => (oe.out j hj).1⟩, fun i hi j hj => ix.be i hi j hj, fun G' hG' j hj => by cases hG'; exact ix.Ge j hj, fun g hg => ?_, fun g hg => ?_⟩, b⟩
    · have hb : (Value.slice ae (forE s bits).length ce).ownBlock = some g := by rw [hg]; rfl
      exact (World.ownsRow.lt oe.own g hb).1
    · have hb : (Value.slice ae (forE s bits).length ce).ownBlock = some g := by rw [hg]; rfl
      obtain ⟨h1, h2, h3⟩ := ix.pv g hb
      exact ⟨fun G' hG' e => by cases hG'; exact h2 e.symm, h3⟩
    · have hb : (Value.slice ae (forE s bits).length ce).ownBlock = some g := by rw [hg]; rfl
      exact (World.ownsRow.lt oe.own g hb).2
end Go.Proofs.YtnhmecabppaboaaGreat
