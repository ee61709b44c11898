/- The service on its way: who begins. -/
import Derived.Test.YtnhmecabppaboaaGreatM21
import Derived.Test.YtnhmecabppaboaaGreatM22
import Derived.Test.YtnhmecabppaboaaGreatM17
import Derived.Test.YtnhmecabppaboaaGreatM10
import Derived.Test.YtnhmecabppaboaaGreatM1

set_option linter.unusedVariables false
set_option linter.unusedSimpArgs false
namespace Go.Proofs.YtnhmecabppaboaaGreat
open Go.RowKit

/-- 'append' of one number to a row of the call's own. -/
theorem wp_appI {B : Nat} {D : List Int} {oi : Oper} {a : Act} {w : World} {Kc : Act → World → Prop} {Q : Exit → Act → World → Prop} {s x : Operand} (v : Value) (y : Int) (g1 c1 : Nat)
    (ho : oi.op = .call { callee := .builtin .append, args := #[s, x], argTypes := #[33, 33] })
    (hs : a.eval s = v) (h : OwnI B D v w) (hk : D.length ≤ 1000000) (hx : a.eval x = .slice (some ⟨g1, 0, none⟩) 1 c1) (hg1 : w.heap[g1]? = some (.cells #[.int .i64 y] 2 (0, 0))) (hy : (Lit.int .i64 y).wf = true) (hBw : B ≤ w.heap.size)
    (K : ∀ v' w', OwnI B (D ++ [y]) v' w' → w.grownBy w' v.ownBlock → Kc (a.put oi.dst v') w') : oi.wp Tryz.prog a w Kc Q := by
  obtain ⟨i0, hi1, hz0, hz1, hz2⟩ := info_parts info64
  obtain ⟨v', w', hrun, r1, r2, -, r4⟩ := run_append_own_at (P := Tryz.prog) w B 33 oi.type 2 i0 (.int .i64 0) 1 8 Tryz.underlying33 hi1 hz0 hz1 hz2 rfl (by decide) v D.length (D.map (Value.int .i64)) h.1 ⟨g1, 0, none⟩ 1 c1 [.int .i64 y] rfl
    (fun j u hu => by rw [show (⟨g1, 0, none⟩ : Addr).add j = ⟨g1, j, none⟩ by unfold Addr.add; split <;> simp_all, cell_of_row w g1 _ _ _ _ hg1, ← Array.getElem?_toList]; exact hu) (fun u hu => by rw [List.mem_singleton.1 hu]; rfl) (by unfold maxLen; omega) (by omega) hBw
  exact value_wp v' w' (by simp [execOp, ho, resolve, invoke, builtin, hs, hx, hrun, Result.andThen]) (K v' w' ⟨by rw [List.length_append, List.map_append]; exact r1, fun z hz => by
    rcases List.mem_append.1 hz with hz | hz
    · exact h.2 z hz
    · rw [List.mem_singleton.1 hz]; exact hy⟩ r2)
/-- 'append' of one frame, as it lies, to a row of the call's own. -/
theorem wp_appF {B : Nat} {M : List (Frm × Value)} {oi : Oper} {a : Act} {w : World} {Kc : Act → World → Prop} {Q : Exit → Act → World → Prop} {s x : Operand} (v : Value) (f : Frm) (ad : Option Addr) (cc g1 c1 : Nat)
    (ho : oi.op = .call { callee := .builtin .append, args := #[s, x], argTypes := #[64, 64] })
    (hs : a.eval s = v) (h : RowOf B v M w) (hk : M.length ≤ 1000000) (hx : a.eval x = .slice (some ⟨g1, 0, none⟩) 1 c1) (hg1 : w.heap[g1]? = some (.cells (frC f ad cc) 35 (0, 0))) (hBw : B ≤ w.heap.size)
    (K : ∀ v' w', RowOf B v' (M ++ [(f, .slice ad f.D.length cc)]) w' → w.grownBy w' v.ownBlock → Kc (a.put oi.dst v') w') : oi.wp Tryz.prog a w Kc Q := by
  obtain ⟨i0, hi1, hz0, hz1, hz2⟩ := info_parts infoF
  obtain ⟨v', w', hrun, r1, r2, -, r4⟩ := run_append_own_at (P := Tryz.prog) w B 64 oi.type 35 i0 (.agg #[.int .i64 0, .bool false, .int .i64 0, .slice none 0 0]) 4 48 Tryz.underlying64 hi1 hz0 hz1 hz2 rfl (by decide) v M.length (flatF M) h ⟨g1, 0, none⟩ 1 c1 (frC f ad cc).toList rfl
    (fun j u hu => by rw [show (⟨g1, 0, none⟩ : Addr).add j = ⟨g1, j, none⟩ by unfold Addr.add; split <;> simp_all, cell_of_row w g1 _ _ _ _ hg1, ← Array.getElem?_toList]; exact hu) (fun u hu => by simp at hu; rcases hu with rfl | rfl | rfl | rfl <;> rfl) (by unfold maxLen; omega) (by omega) hBw
  exact value_wp v' w' (by simp [execOp, ho, resolve, invoke, builtin, hs, hx, hrun, Result.andThen]) (K v' w' (by unfold RowOf; rw [flatF_append, List.length_append]; exact r1) r2)
theorem RowOf.below {B : Nat} {M : List (Frm × Value)} {v : Value} {w w' : World} (h : RowOf B v M w) (b : Below w.heap.size w w') : RowOf B v M w' := ownsRow_mid h (Mid.ofBelow (lo := w.heap.size) (hi := w.heap.size) b) (fun g hg => .inl (World.ownsRow.lt h g hg).2)
theorem row_other {B : Nat} {T : TypeId} {sz n : Nat} {v : Value} {xs : List Value} {w w' : World} {r : Option Nat} (h : w.ownsRow B T sz v n xs) (k : w.grownBy w' r) (hne : ∀ g, v.ownBlock = some g → r ≠ some g) : w'.ownsRow B T sz v n xs := by
  refine ⟨h.1, ?_⟩
  rcases h.2 with e | ⟨g, cap, cur, e, hb, hg, q⟩
  · exact .inl e
  · exact .inr ⟨g, cap, cur, e, hb, (k.block g (Array.getElem?_eq_some_iff.1 hg).1 (fun e2 => hne g (by rw [e]; rfl) e2.symm)).trans hg, q⟩
theorem rows_ne {B B' : Nat} {T T' : TypeId} {sz sz' n n' : Nat} {v v' : Value} {xs xs' : List Value} {w : World} (h : w.ownsRow B T sz v n xs) (h' : w.ownsRow B' T' sz' v' n' xs') (hT : T ≠ T') : ∀ g, v.ownBlock = some g → v'.ownBlock ≠ some g := by
  intro g hg
  rcases h.2 with ⟨e1, _⟩ | ⟨g', cap, cur, e1, hb, hg', _⟩
  · rw [e1] at hg; cases hg
  · rw [e1] at hg
    cases hg
    exact row_ne h' hg' (fun e => hT e.symm)
theorem cell_kp {Y : Nat → Prop} {w u : World} {b o : Nat} {v : Value} (h : w.cell? ⟨b, o, none⟩ = some v) (k : Kp Y w u) (hy : Y b) : u.cell? ⟨b, o, none⟩ = some v := (World.cell?_of_block (a := ⟨b, o, none⟩) (k.block b hy (World.block_lt_of_cell? w _ h))).trans h
theorem box_dat {Y : Nat → Prop} {Q : Prop} {lo hi g o cl cc : Nat} {Z : List Frm} {ad : Option Addr} {w u : World} (hox : OwnX Q lo hi Z (.slice (some ⟨g, o, none⟩) Z.length cl) w) (hl : Z.length ≤ 2000000) (h0 : 0 < Z.length) (hc : FrC g o ad cc (nthF Z 0) w) (k : Kp Y w u) (hy : ∀ q, lo ≤ q → q < hi → Y q) : Nums ad (nthF Z 0).D u := by
  obtain ⟨a', c', e, hf, -⟩ := (hox.kp k hy).is hl
  cases e
  obtain ⟨g', o', ad', cc', e', hc'⟩ := hf.2 0 h0
  cases e'
  rw [Nat.zero_mul, Nat.add_zero] at hc'
  obtain ⟨M, a2, c2, e2, hM, ho, -, hu⟩ := hox
  cases e2
  have h3 := cell_kp hc.1.2.2.2 k (hy g (ho.1.lt g rfl).1 (hu.1 g rfl))
  have := h3.symm.trans hc'.1.2.2.2
  simp only [Option.some.injEq, Value.slice.injEq] at this
  rw [this.1]
  exact hc'.2
/-- One frame of a row of the call's own: where its cells lie, and that its data stand. -/
theorem row_frK {B : Nat} {M : List (Frm × Value)} {v : Value} {w w0 : World} {Y : Nat → Prop} (h : RowOf B v M w) (hd : ∀ u, Kp Y w0 u → Dat M u) (k : Kp Y w0 w) {L : List Frm} (hL : (M.map fun m => m.1) = L) {j : Nat} (hj : j < L.length) :
    ∃ g cap ad cc, v = .slice (some ⟨g, 0, none⟩) M.length cap ∧ B ≤ g ∧ (w.cell? ⟨g, j * 4, none⟩ = some (.int .i64 (nthF L j).id) ∧ w.cell? ⟨g, j * 4 + 1, none⟩ = some (.bool (nthF L j).rm) ∧ w.cell? ⟨g, j * 4 + 2, none⟩ = some (.int .i64 (nthF L j).ln) ∧ w.cell? ⟨g, j * 4 + 3, none⟩ = some (.slice ad (nthF L j).D.length cc)) ∧ ∀ u, Kp Y w0 u → Nums ad (nthF L j).D u := by
  subst hL
  have hj' : j < M.length := by simpa using hj
  rcases h.2 with ⟨rfl, hn⟩ | ⟨g, cap, cur, rfl, hrest⟩
  · omega
  · have e : nthF (M.map fun m => m.1) j = M[j].1 := by simp [nthF, List.getD_eq_getElem?_getD, hj']
    rw [e]
    obtain ⟨ad, c, hv, hn⟩ := hd w k M[j] (List.getElem_mem hj')
    obtain ⟨f0, f1, f2, f3⟩ := flatF_at M j hj'
    rw [hv] at f3
    refine ⟨g, cap, ad, c, rfl, hrest.1, ⟨?_, ?_, ?_, ?_⟩, fun u hu => ?_⟩
    · rw [World.ownsRow.cellAt h _ (by omega)]; exact f0
    · rw [World.ownsRow.cellAt h _ (by omega)]; exact f1
    · rw [World.ownsRow.cellAt h _ (by omega)]; exact f2
    · rw [World.ownsRow.cellAt h _ (by omega)]; exact f3
    · obtain ⟨ad', c', hv', hn'⟩ := hd u hu M[j] (List.getElem_mem hj')
      rw [hv] at hv'
      cases hv'
      exact hn'
abbrev C5 (g2 x g3 y : Nat) (nq : Nat) (f : Frm) (ad : Option Addr) (cc : Nat) (u : World) : Prop := u.cell? ⟨g2, x, none⟩ = some (.int .i64 (nq : Int)) ∧ u.cell? ⟨g3, y, none⟩ = some (.int .i64 f.id) ∧ u.cell? ⟨g3, y + 1, none⟩ = some (.bool f.rm) ∧ u.cell? ⟨g3, y + 2, none⟩ = some (.int .i64 f.ln) ∧ u.cell? ⟨g3, y + 3, none⟩ = some (.slice ad f.D.length cc)
theorem cells5 {g2 x g3 y nq : Nat} {f : Frm} {ad : Option Addr} {cc : Nat} {w w' : World} (h : C5 g2 x g3 y nq f ad cc w) (b : Below w.heap.size w w') : C5 g2 x g3 y nq f ad cc w' := by
  obtain ⟨h0, h1, h2, h3, h4⟩ := h
  exact ⟨(b.cell (World.block_lt_of_cell? _ _ h0)).trans h0, (b.cell (World.block_lt_of_cell? _ _ h1)).trans h1, (b.cell (World.block_lt_of_cell? _ _ h2)).trans h2, (b.cell (World.block_lt_of_cell? _ _ h3)).trans h3, (b.cell (World.block_lt_of_cell? _ _ h4)).trans h4⟩
theorem kp_cell (w : World) (p k : Nat) (x : Value) : Kp (fun q => q ≠ p) w (w.setCell ⟨p, k, none⟩ x) := by
  have m := mid_cell w p k x
  exact ⟨m.size, fun q hq hl => m.block q hl (by omega), m.os, m.tape, m.output⟩
theorem set5c {g2 x g3 y nq : Nat} {f : Frm} {ad : Option Addr} {cc p : Nat} {w : World} (h : C5 g2 x g3 y nq f ad cc w) (k : Nat) (v : Value) (h2 : g2 ≠ p) (h3 : g3 ≠ p) : C5 g2 x g3 y nq f ad cc (w.setCell ⟨p, k, none⟩ v) := by
  have kp := kp_cell w p k v
  obtain ⟨c0, c1, c2, c3, c4⟩ := h
  exact ⟨cell_kp c0 kp h2, cell_kp c1 kp h3, cell_kp c2 kp h3, cell_kp c3 kp h3, cell_kp c4 kp h3⟩
set_option maxHeartbeats 32000000 in
set_option maxRecDepth 20000 in
/-- (*service).begin. -/
theorem svcBegin (B p G : Nat) (s : Srv) (L H : Nat → Nat) (N : List Ev) (v : Value) (P : Nat → EvP) (LE HE : Nat → Nat) (w0 : World) (w : World) (hS : Svc B p G s L H N v P LE HE w0 w) (hb : boxesB s.bx = true) :
    Calls Tryz.prog 68 #[.pointer (some ⟨p, 0, none⟩)] w fun e w' => e = .returned (.tuple #[]) ∧ Svc B p G (begS s) L H N v P LE HE w0 w' := by
  have hl6 := (boxesB_iff.1 hb).2.1
  have c0 := hS.cell 0
  replace hb := Lib.hid hb
  go_enter Tryz.func68, Tryz.ntmps68
  go_wp2_with fail
  clear c0
  go_loopw [2, 3, 13] (fun v2 v3 i wr => ∃ (k : Nat) (M : List (Frm × Value)), k ≤ s.bx.length ∧ i = .int .i64 k ∧ (M.map fun m => m.1) = firF s.bx k ∧ OwnI w.heap.size ((firK s.bx k).map fun x => (x.1 : Int)) v2 wr ∧ RowOf w.heap.size v3 M wr ∧ (∀ u, Kp (fun q => q ≠ p) w u → Dat M u) ∧ Below w.heap.size w wr) (fun _ _ i _ => s.bx.length - (intOf i).toNat)
  case atStart => exact ⟨0, [], Nat.zero_le _, rfl, rfl, OwnI.nil _ _, ⟨rfl, .inl ⟨rfl, rfl⟩⟩, fun u hu m hm => (by cases hm), Below.refl _ _⟩
  case round =>
    obtain ⟨k, M, hk, rfl, hM, OI, RO, hD, b⟩ := hrel
    by_cases hlt : k < s.bx.length
    · obtain ⟨cur, hcb, hcs, hcm⟩ := hS.box.row
      obtain ⟨vX, hvX, hox⟩ := hcm k hlt
      obtain ⟨al, cl, rfl, hfr, hA⟩ := hox.is (by have := (box_small hb.out hlt).1; omega)
      have hcG0 : w.cell? ⟨G, k, none⟩ = some (.slice al (nthB s.bx k).length cl) := by rw [cell_of_row w G _ _ _ _ hcb]; exact hvX
      clear hcm hcb hcs hvX
      have hcG := (b.cell (p := ⟨G, k, none⟩) (World.block_lt_of_cell? w _ hcG0)).trans hcG0
      obtain ⟨Z, hZ⟩ : ∃ Z, Z = nthB s.bx k := ⟨_, rfl⟩
      rw [← hZ] at hcG hfr hA hox
      clear hcG0
      have hfl := firK_len s.bx k
      have hMl : M.length ≤ 6 := by
        have e : M.length = (firK s.bx k).length := by rw [← firF_len, ← hM]; simp
        omega
      by_cases hz : Z.length = 0
      · have hK : firK s.bx (k + 1) = firK s.bx k := firK_no (by rw [← hZ]; exact hz)
        have hF : firF s.bx (k + 1) = firF s.bx k := by unfold firF; rw [hK]
        rw [← hK] at OI
        rw [← hF] at hM
        have hd0 : decide (0 < Z.length) = false := decide_eq_false (by omega)
        have hd0' : decide ((0 : Int) < (Z.length : Int)) = false := decide_eq_false (by omega)
        replace hM := Lib.hid hM
        replace hD := Lib.hid hD
        clear hK hF hZ hfl hMl hz hox
        go_wp2_with fail
        go_roundw
        case rel => exact ⟨k + 1, M, by omega, by go_num, hM.out, OI, RO, hD.out, b⟩
        case measure => simp [intOf]; omega
      · obtain ⟨g, o, ad, cc, rfl, hc0⟩ := hfr.2 0 (by omega)
        have hZ8 : (nthF Z 0).D.length ≤ 8 := by rw [hZ]; exact (box_small hb.out hlt).2 0 (by rw [← hZ]; omega)
        have hK : firK s.bx (k + 1) = firK s.bx k ++ [(k, nthF Z 0)] := by rw [hZ]; exact firK_yes (by rw [← hZ]; exact hz)
        have hKI : Hid (((firK s.bx (k + 1)).map fun x => (x.1 : Int)) = ((firK s.bx k).map fun x => (x.1 : Int)) ++ [(k : Int)]) := Lib.hid (by rw [hK, List.map_append]; rfl)
        have hKF : Hid (firF s.bx (k + 1) = firF s.bx k ++ [nthF Z 0]) := Lib.hid (by unfold firF; rw [hK, List.map_append]; rfl)
        have hDl : ((firK s.bx k).map fun x => (x.1 : Int)).length ≤ 6 := by rw [List.length_map]; omega
        have hd0 : decide (0 < Z.length) = true := decide_eq_true (by omega)
        have hd0' : decide ((0 : Int) < (Z.length : Int)) = true := decide_eq_true (by omega)
        have hwk : (Lit.int .i64 (k : Int)).wf = true := Go.WalkArith.wf_i64 ⟨by omega, by omega⟩
        rw [Nat.zero_mul, Nat.add_zero] at hc0
        have hnu : Hid (∀ u, Kp (fun q => q ≠ p) w u → Nums ad (nthF Z 0).D u) := Lib.hid fun u hu => box_dat hox (by rw [hZ]; have := (box_small hb.out hlt).1; omega) (by omega) hc0 hu (fun q h1 h2 => by have := hS.ix.pb k hlt; show q ≠ p; omega)
        clear hox
        replace hD := Lib.hid hD
        generalize nthF Z 0 = f at *
        generalize ((firK s.bx k).map fun x => (x.1 : Int)) = DD at *
        have hgw : g < w.heap.size := World.block_lt_of_cell? w _ hc0.1.1
        replace hM := Lib.hid hM
        replace hwk := Lib.hid hwk
        replace hz : 0 < Z.length := by omega
        clear hK hZ hfl hfr hA
        go_upto_region 6 with fail
        refine wp_region_held (S := fun u => FrC g o ad cc f u) (by kernel_rfl) ?_
        have b0 : Below wr.heap.size wr { wr with drawn := wr.drawn + 1 } := (Below.refl _ _).drew
        replace OI := OI.below' b0
        replace RO := RO.below b0
        replace b := Below.then2 b b0
        generalize ({ wr with drawn := wr.drawn + 1 } : World) = V at OI RO b ⊢
        clear b0 hcG
        refine h_take 0 21 (u2) rfl rfl (by kernel_rfl) (by kernel_rfl) (by kernel_rfl) (fun _ _ _ h => h) rfl (fun u hu => by go_simp) (hc0.below b) ?_
        refine h_take 1 22 (.int .i64 (k : Int)) rfl rfl (by kernel_rfl) (by kernel_rfl) (by kernel_rfl) (fun _ _ _ h => h) rfl (fun u hu => by go_simp) (hc0.below b) ?_
        refine h_take 4 25 (u3) rfl rfl (by kernel_rfl) (by kernel_rfl) (by kernel_rfl) (fun _ _ _ h => h) rfl (fun u hu => by go_simp) (hc0.below b) ?_
        refine h_take 5 26 (.slice (some ⟨g, o, none⟩) Z.length cl) rfl rfl (by kernel_rfl) (by kernel_rfl) (by kernel_rfl) (fun _ _ _ h => h) rfl (fun u hu => by go_simp) (hc0.below b) ?_
        simp only [Act.put, List.setIfInBounds_toArray, List.set_cons_zero, List.set_cons_succ]
        refine h_take 6 27 (.pointer (some ⟨g, o, none⟩)) rfl rfl (by kernel_rfl) (by kernel_rfl) (by kernel_rfl) (fun _ _ _ h => h) rfl (fun u hu => by go_simp) (hc0.below b) ?_
        refine h_take 7 28 (frV f.id f.rm f.ln ad f.D.length cc) rfl rfl (by kernel_rfl) (by kernel_rfl) (by kernel_rfl) (fun _ _ _ h => h) rfl (fun u hu => by obtain ⟨⟨q0, q1, q2, q3⟩, -⟩ := hu; go_simp) (hc0.below b) ?_
        simp only [Act.put, List.setIfInBounds_toArray, List.set_cons_zero, List.set_cons_succ]
        refine held_fork 2 8 (by kernel_rfl) (op_at rfl) (op_at rfl) rfl rfl ?px1 ?py2
        case px1 =>
          refine value_wp (.slice (some ⟨V.heap.size, 0, none⟩) 1 1) (V.alloc (.cells #[.int .i64 (k : Int)] 2)) (by go_simp) ?_
          have ga4 := heap_alloc_new V (.cells #[.int .i64 (k : Int)] 2)
          have b0 := below_more (Below.refl V.heap.size V) (.cells #[.int .i64 (k : Int)] 2)
          replace OI := OI.below' b0
          replace RO := RO.below b0
          replace b := Below.then2 b b0
          clear b0
          generalize V.heap.size = ga4n at ga4 ⊢
          generalize V.alloc _ = wq3 at ga4 OI RO b ⊢
          refine ⟨(hc0.below b), ?_⟩
          simp only [Act.put, List.setIfInBounds_toArray, List.set_cons_zero, List.set_cons_succ]
          refine held_fork 3 8 (by kernel_rfl) (op_at rfl) (op_at rfl) rfl rfl ?px5 ?py6
          case px5 =>
            refine wp_appI u2 (k : Int) ga4n 1 rfl rfl OI (by omega) rfl ga4 hwk.out b.size ?_
            intro va8 wq7 OI2 gr
            have hne := rows_ne RO OI.1 (by decide)
            replace RO : RowOf w.heap.size u3 M wq7 := row_other RO gr (fun q e => hne q e)
            replace b := b.grown gr b.size (fun q hq => (World.ownsRow.lt OI.1 q hq).1)
            clear OI hne gr
            have OI := OI2
            clear OI2
            refine ⟨(hc0.below b), ?_⟩
            simp only [Act.put, List.setIfInBounds_toArray, List.set_cons_zero, List.set_cons_succ]
            refine held_op 8 (op_at rfl) (by kernel_rfl) rfl (value_wp (.slice (some ⟨wq7.heap.size, 0, none⟩) 1 1) (wq7.alloc (.cells (frC f ad cc) 35)) (by go_simp) ?_)
            have gf10 := heap_alloc_new wq7 (.cells (frC f ad cc) 35)
            have b0 := below_more (Below.refl wq7.heap.size wq7) (.cells (frC f ad cc) 35)
            replace OI := OI.below' b0
            replace RO := RO.below b0
            replace b := Below.then2 b b0
            clear b0
            generalize wq7.heap.size = gf10n at gf10 ⊢
            generalize wq7.alloc _ = wq9 at gf10 OI RO b ⊢
            refine ⟨(hc0.below b), ?_⟩
            simp only [Act.put, List.setIfInBounds_toArray, List.set_cons_zero, List.set_cons_succ]
            refine held_op 9 (op_at rfl) (by kernel_rfl) rfl (wp_appF u3 f ad cc gf10n 1 rfl rfl RO (by omega) rfl gf10 b.size ?_)
            intro vf12 wq11 RO2 gr
            have hne := rows_ne OI.1 RO (by decide)
            replace OI : OwnI w.heap.size (DD ++ [(k : Int)]) va8 wq11 := ⟨row_other OI.1 gr (fun q e => hne q e), OI.2⟩
            replace b := b.grown gr b.size (fun q hq => (World.ownsRow.lt RO q hq).1)
            clear RO hne gr
            have RO := RO2
            clear RO2
            refine ⟨(hc0.below b), ?_⟩
            simp only [Act.put, List.setIfInBounds_toArray, List.set_cons_zero, List.set_cons_succ]
            refine h_take 10 2 (va8) rfl rfl (by kernel_rfl) (by kernel_rfl) (by kernel_rfl) (fun _ _ _ h => h) rfl (fun u hu => by go_simp) (hc0.below b) ?_
            refine h_take 11 3 (vf12) rfl rfl (by kernel_rfl) (by kernel_rfl) (by kernel_rfl) (fun _ _ _ h => h) rfl (fun u hu => by go_simp) (hc0.below b) ?_
            simp only [Act.put, List.setIfInBounds_toArray, List.set_cons_zero, List.set_cons_succ]
            refine wpAnyH_done (by kernel_rfl) ?_ _
            go_wp2_with fail
            go_roundw
            case rel => exact ⟨k + 1, M ++ [(f, .slice ad f.D.length cc)], by omega, by go_num, by rw [hKF.out, List.map_append, hM.out]; rfl, by rw [hKI.out]; exact OI, RO, fun u hu m hm => by
              rcases List.mem_append.1 hm with hm | hm
              · exact hD.out u hu m hm
              · rw [List.mem_singleton.1 hm]; exact ⟨ad, cc, rfl, hnu.out u hu⟩, b⟩
            case measure => simp [intOf]; omega
          case py6 =>
            refine value_wp (.slice (some ⟨wq3.heap.size, 0, none⟩) 1 1) (wq3.alloc (.cells (frC f ad cc) 35)) (by go_simp) ?_
            have gf14 := heap_alloc_new wq3 (.cells (frC f ad cc) 35)
            have b0 := below_more (Below.refl wq3.heap.size wq3) (.cells (frC f ad cc) 35)
            replace OI := OI.below' b0
            replace RO := RO.below b0
            replace b := Below.then2 b b0
            replace ga4 := blkW ga4 b0
            clear b0
            generalize wq3.heap.size = gf14n at gf14 ⊢
            generalize wq3.alloc _ = wq13 at gf14 OI RO b ga4 ⊢
            refine ⟨(hc0.below b), ?_⟩
            simp only [Act.put, List.setIfInBounds_toArray, List.set_cons_zero, List.set_cons_succ]
            refine held_op 3 (op_at rfl) (by kernel_rfl) rfl (wp_appI u2 (k : Int) ga4n 1 rfl rfl OI (by omega) rfl ga4 hwk.out b.size ?_)
            intro va16 wq15 OI2 gr
            have hne := rows_ne RO OI.1 (by decide)
            replace RO : RowOf w.heap.size u3 M wq15 := row_other RO gr (fun q e => hne q e)
            replace b := b.grown gr b.size (fun q hq => (World.ownsRow.lt OI.1 q hq).1)
            replace gf14 := (gr.block _ (Array.getElem?_eq_some_iff.1 gf14).1 (fun e => row_ne OI.1 gf14 (by decide) e.symm)).trans gf14
            clear OI hne gr
            have OI := OI2
            clear OI2
            refine ⟨(hc0.below b), ?_⟩
            simp only [Act.put, List.setIfInBounds_toArray, List.set_cons_zero, List.set_cons_succ]
            refine held_op 9 (op_at rfl) (by kernel_rfl) rfl (wp_appF u3 f ad cc gf14n 1 rfl rfl RO (by omega) rfl gf14 b.size ?_)
            intro vf18 wq17 RO2 gr
            have hne := rows_ne OI.1 RO (by decide)
            replace OI : OwnI w.heap.size (DD ++ [(k : Int)]) va16 wq17 := ⟨row_other OI.1 gr (fun q e => hne q e), OI.2⟩
            replace b := b.grown gr b.size (fun q hq => (World.ownsRow.lt RO q hq).1)
            clear RO hne gr
            have RO := RO2
            clear RO2
            refine ⟨(hc0.below b), ?_⟩
            simp only [Act.put, List.setIfInBounds_toArray, List.set_cons_zero, List.set_cons_succ]
            refine h_take 10 2 (va16) rfl rfl (by kernel_rfl) (by kernel_rfl) (by kernel_rfl) (fun _ _ _ h => h) rfl (fun u hu => by go_simp) (hc0.below b) ?_
            refine h_take 11 3 (vf18) rfl rfl (by kernel_rfl) (by kernel_rfl) (by kernel_rfl) (fun _ _ _ h => h) rfl (fun u hu => by go_simp) (hc0.below b) ?_
            simp only [Act.put, List.setIfInBounds_toArray, List.set_cons_zero, List.set_cons_succ]
            refine wpAnyH_done (by kernel_rfl) ?_ _
            go_wp2_with fail
            go_roundw
            case rel => exact ⟨k + 1, M ++ [(f, .slice ad f.D.length cc)], by omega, by go_num, by rw [hKF.out, List.map_append, hM.out]; rfl, by rw [hKI.out]; exact OI, RO, fun u hu m hm => by
              rcases List.mem_append.1 hm with hm | hm
              · exact hD.out u hu m hm
              · rw [List.mem_singleton.1 hm]; exact ⟨ad, cc, rfl, hnu.out u hu⟩, b⟩
            case measure => simp [intOf]; omega
        case py2 =>
          refine value_wp (.slice (some ⟨V.heap.size, 0, none⟩) 1 1) (V.alloc (.cells (frC f ad cc) 35)) (by go_simp) ?_
          have gf20 := heap_alloc_new V (.cells (frC f ad cc) 35)
          have b0 := below_more (Below.refl V.heap.size V) (.cells (frC f ad cc) 35)
          replace OI := OI.below' b0
          replace RO := RO.below b0
          replace b := Below.then2 b b0
          clear b0
          generalize V.heap.size = gf20n at gf20 ⊢
          generalize V.alloc _ = wq19 at gf20 OI RO b ⊢
          refine ⟨(hc0.below b), ?_⟩
          simp only [Act.put, List.setIfInBounds_toArray, List.set_cons_zero, List.set_cons_succ]
          refine held_op 2 (op_at rfl) (by kernel_rfl) rfl (value_wp (.slice (some ⟨wq19.heap.size, 0, none⟩) 1 1) (wq19.alloc (.cells #[.int .i64 (k : Int)] 2)) (by go_simp) ?_)
          have ga22 := heap_alloc_new wq19 (.cells #[.int .i64 (k : Int)] 2)
          have b0 := below_more (Below.refl wq19.heap.size wq19) (.cells #[.int .i64 (k : Int)] 2)
          replace OI := OI.below' b0
          replace RO := RO.below b0
          replace b := Below.then2 b b0
          replace gf20 := blkW gf20 b0
          clear b0
          generalize wq19.heap.size = ga22n at ga22 ⊢
          generalize wq19.alloc _ = wq21 at ga22 OI RO b gf20 ⊢
          refine ⟨(hc0.below b), ?_⟩
          simp only [Act.put, List.setIfInBounds_toArray, List.set_cons_zero, List.set_cons_succ]
          refine held_op 3 (op_at rfl) (by kernel_rfl) rfl (wp_appI u2 (k : Int) ga22n 1 rfl rfl OI (by omega) rfl ga22 hwk.out b.size ?_)
          intro va24 wq23 OI2 gr
          have hne := rows_ne RO OI.1 (by decide)
          replace RO : RowOf w.heap.size u3 M wq23 := row_other RO gr (fun q e => hne q e)
          replace b := b.grown gr b.size (fun q hq => (World.ownsRow.lt OI.1 q hq).1)
          replace gf20 := (gr.block _ (Array.getElem?_eq_some_iff.1 gf20).1 (fun e => row_ne OI.1 gf20 (by decide) e.symm)).trans gf20
          clear OI hne gr
          have OI := OI2
          clear OI2
          refine ⟨(hc0.below b), ?_⟩
          simp only [Act.put, List.setIfInBounds_toArray, List.set_cons_zero, List.set_cons_succ]
          refine held_op 9 (op_at rfl) (by kernel_rfl) rfl (wp_appF u3 f ad cc gf20n 1 rfl rfl RO (by omega) rfl gf20 b.size ?_)
          intro vf26 wq25 RO2 gr
          have hne := rows_ne OI.1 RO (by decide)
          replace OI : OwnI w.heap.size (DD ++ [(k : Int)]) va24 wq25 := ⟨row_other OI.1 gr (fun q e => hne q e), OI.2⟩
          replace b := b.grown gr b.size (fun q hq => (World.ownsRow.lt RO q hq).1)
          clear RO hne gr
          have RO := RO2
          clear RO2
          refine ⟨(hc0.below b), ?_⟩
          simp only [Act.put, List.setIfInBounds_toArray, List.set_cons_zero, List.set_cons_succ]
          refine h_take 10 2 (va24) rfl rfl (by kernel_rfl) (by kernel_rfl) (by kernel_rfl) (fun _ _ _ h => h) rfl (fun u hu => by go_simp) (hc0.below b) ?_
          refine h_take 11 3 (vf26) rfl rfl (by kernel_rfl) (by kernel_rfl) (by kernel_rfl) (fun _ _ _ h => h) rfl (fun u hu => by go_simp) (hc0.below b) ?_
          simp only [Act.put, List.setIfInBounds_toArray, List.set_cons_zero, List.set_cons_succ]
          refine wpAnyH_done (by kernel_rfl) ?_ _
          go_wp2_with fail
          go_roundw
          case rel => exact ⟨k + 1, M ++ [(f, .slice ad f.D.length cc)], by omega, by go_num, by rw [hKF.out, List.map_append, hM.out]; rfl, by rw [hKI.out]; exact OI, RO, fun u hu m hm => by
            rcases List.mem_append.1 hm with hm | hm
            · exact hD.out u hu m hm
            · rw [List.mem_singleton.1 hm]; exact ⟨ad, cc, rfl, hnu.out u hu⟩, b⟩
          case measure => simp [intOf]; omega
    · obtain rfl : k = s.bx.length := by omega
      have hMl : M.length = (firF s.bx s.bx.length).length := by rw [← hM]; simp
      have hfl := firK_len s.bx s.bx.length
      have hl6' : (firF s.bx s.bx.length).length ≤ 6 := by rw [firF_len]; omega
      obtain ⟨a3, c3, rfl, hF3⟩ := row_frs RO (fun m hm => hD _ (Kp.ofBelow b) m hm) (by omega)
      rw [hM] at hF3
      rw [hMl]
      replace hD := Lib.hid hD
      replace hM := Lib.hid hM
      have hflat : Hid (RowOf w.heap.size (.slice a3 M.length c3) M wr) := Lib.hid RO
      clear RO
      replace hMl := Lib.hid hMl
      go_wp2_with fail
      refine (implWinnerOf a3 (firF s.bx s.bx.length) c3 _ hF3 (by omega)).mono ?_
      rintro e w2 ⟨he, b2⟩
      cases hw : winX s.bx
      · have he : e = .returned (.int .i64 (-1)) := by rw [he]; unfold winX at hw; rw [hw]; rfl
        subst he
        have hB : Hid (begS s = s) := Lib.hid (by unfold begS; rw [hw])
        have S2 := (hS.below b).below b2
        clear hw hF3
        go_wp2_with fail
        refine bodyPost_ret (results_none rfl _ _ _) rfl ?_
        exact ⟨rfl, by rw [hB.out]; exact S2⟩
      · rename_i q
        have he : e = .returned (.int .i64 (q : Int)) := by rw [he]; unfold winX at hw; rw [hw]; rfl
        subst he
        have hq := (winN_lt hw).1
        have hq2 := hq
        rw [firF_len] at hq2
        have hB : Hid (begS s = ⟨s.bx, lengthV (nthF (firF s.bx s.bx.length) q).id (nthF (firF s.bx s.bx.length) q).rm (nthF (firF s.bx s.bx.length) q).ln (nthF (firF s.bx s.bx.length) q).D + 3, ((nthK (firK s.bx s.bx.length) q).1 : Int), rkF (nthF (firF s.bx s.bx.length) q), s.now⟩) := Lib.hid (by unfold begS; rw [hw])
        obtain ⟨a2, c2, rfl, hN2⟩ := OI.nums
        obtain ⟨g2, o2, rfl, hk2⟩ := hN2.2.2 q (by rw [List.length_map]; exact hq2)
        have hg2 := OI.low (k := g2) rfl
        have hnk : nth ((firK s.bx s.bx.length).map fun x => (x.1 : Int)) q = ((nthK (firK s.bx s.bx.length) q).1 : Int) := by
          simp [nth, nthK, List.getD_eq_getElem?_getD, hq2]
        rw [hnk] at hk2
        have bw2 := Below.then2 b b2
        obtain ⟨g3, cap3, ad, cc, e3, hg3, hcs, hnum⟩ := row_frK hflat.out hD.out (Kp.ofBelow b) hM.out hq
        cases e3
        generalize hfq : nthF (firF s.bx s.bx.length) q = f at *
        replace hfq := Lib.hid hfq
        generalize hnq : (nthK (firK s.bx s.bx.length) q).1 = nq at *
        replace hnq := Lib.hid hnq
        replace hk2 := (b2.cell (World.block_lt_of_cell? _ _ hk2)).trans hk2
        replace hcs := And.intro ((b2.cell (World.block_lt_of_cell? _ _ hcs.1)).trans hcs.1) (And.intro ((b2.cell (World.block_lt_of_cell? _ _ hcs.2.1)).trans hcs.2.1) (And.intro ((b2.cell (World.block_lt_of_cell? _ _ hcs.2.2.1)).trans hcs.2.2.1) ((b2.cell (World.block_lt_of_cell? _ _ hcs.2.2.2)).trans hcs.2.2.2)))
        have hpw := hS.lt
        have S2 := (hS.below b).below b2
        have kp2 : Kp (fun q => q ≠ p) w w2 := Kp.ofBelow bw2
        have hq3 : q < (firF s.bx s.bx.length).length := hq
        rw [firF_len] at hMl
        clear hF3 hN2 OI hnk hflat hD hM bw2
        go_upto_region 10 with fail
        refine wp_region_held (S := fun u => u.cell? ⟨g2, o2 + q, none⟩ = some (.int .i64 (nq : Int)) ∧ u.cell? ⟨g3, q * 4, none⟩ = some (.int .i64 f.id) ∧ u.cell? ⟨g3, q * 4 + 1, none⟩ = some (.bool f.rm) ∧ u.cell? ⟨g3, q * 4 + 2, none⟩ = some (.int .i64 f.ln) ∧ u.cell? ⟨g3, q * 4 + 3, none⟩ = some (.slice ad f.D.length cc)) (by kernel_rfl) ?_
        have b0 : Below w2.heap.size w2 { w2 with drawn := w2.drawn + 1 } := (Below.refl _ _).drew
        replace S2 := S2.below b0
        replace kp2 := kp2.trans (Kp.ofBelow b0)
        replace hk2 := (b0.cell (World.block_lt_of_cell? _ _ hk2)).trans hk2
        replace hcs := And.intro ((b0.cell (World.block_lt_of_cell? _ _ hcs.1)).trans hcs.1) (And.intro ((b0.cell (World.block_lt_of_cell? _ _ hcs.2.1)).trans hcs.2.1) (And.intro ((b0.cell (World.block_lt_of_cell? _ _ hcs.2.2.1)).trans hcs.2.2.1) ((b0.cell (World.block_lt_of_cell? _ _ hcs.2.2.2)).trans hcs.2.2.2)))
        generalize ({ w2 with drawn := w2.drawn + 1 } : World) = V at S2 kp2 hk2 hcs ⊢
        clear b0
        have hC := And.intro hk2 hcs
        clear hk2 hcs
        refine h_take 0 36 (.pointer (some ⟨p, 0, none⟩)) rfl rfl (by kernel_rfl) (by kernel_rfl) (by kernel_rfl) (fun _ _ _ h => h) rfl (fun u hu => by go_simp) hC ?_
        refine h_take 1 37 (.pointer (some ⟨p, 0, none⟩)) rfl rfl (by kernel_rfl) (by kernel_rfl) (by kernel_rfl) (fun _ _ _ h => h) rfl (fun u hu => by go_simp) hC ?_
        refine h_take 2 38 (.slice (some ⟨g2, o2, none⟩) (firK s.bx s.bx.length).length c2) rfl rfl (by kernel_rfl) (by kernel_rfl) (by kernel_rfl) (fun _ _ _ h => h) rfl (fun u hu => by go_simp) hC ?_
        refine h_take 3 39 (.int .i64 (q : Int)) rfl rfl (by kernel_rfl) (by kernel_rfl) (by kernel_rfl) (fun _ _ _ h => h) rfl (fun u hu => by go_simp) hC ?_
        simp only [Act.put, List.setIfInBounds_toArray, List.set_cons_zero, List.set_cons_succ]
        refine h_take 4 40 (.pointer (some ⟨g2, o2 + q, none⟩)) rfl rfl (by kernel_rfl) (by kernel_rfl) (by kernel_rfl) (fun _ _ _ h => h) rfl (fun u hu => by go_simp) hC ?_
        refine h_take 5 41 (.int .i64 (nq : Int)) rfl rfl (by kernel_rfl) (by kernel_rfl) (by kernel_rfl) (fun _ _ _ h => h) rfl (fun u hu => by have c := hu.1; go_simp) hC ?_
        simp only [Act.put, List.setIfInBounds_toArray, List.set_cons_zero, List.set_cons_succ]
        refine h_take 6 42 (.slice (some ⟨g3, 0, none⟩) (firF s.bx s.bx.length).length c3) rfl rfl (by kernel_rfl) (by kernel_rfl) (by kernel_rfl) (fun _ _ _ h => h) rfl (fun u hu => by go_simp) hC ?_
        refine h_take 7 43 (.int .i64 (q : Int)) rfl rfl (by kernel_rfl) (by kernel_rfl) (by kernel_rfl) (fun _ _ _ h => h) rfl (fun u hu => by go_simp) hC ?_
        simp only [Act.put, List.setIfInBounds_toArray, List.set_cons_zero, List.set_cons_succ]
        refine h_take 8 44 (.pointer (some ⟨g3, q * 4, none⟩)) rfl rfl (by kernel_rfl) (by kernel_rfl) (by kernel_rfl) (fun _ _ _ h => h) rfl (fun u hu => by go_simp) hC ?_
        refine h_take 9 45 (frV f.id f.rm f.ln ad f.D.length cc) rfl rfl (by kernel_rfl) (by kernel_rfl) (by kernel_rfl) (fun _ _ _ h => h) rfl (fun u hu => by obtain ⟨-, q0, q1, q2, q3⟩ := hu; go_simp) hC ?_
        simp only [Act.put, List.setIfInBounds_toArray, List.set_cons_zero, List.set_cons_succ]
        refine h_call 10 46 44 #[frV f.id f.rm f.ln ad f.D.length cc] rfl rfl (by kernel_rfl) rfl (by go_simp) ?_
        refine (implRankOf f.id f.rm f.ln ad f.D cc V (hnum V kp2)).mono ?_
        rintro e w5 ⟨rfl, b5⟩
        replace S2 := S2.below b5
        replace kp2 := kp2.trans (Kp.ofBelow b5)
        replace hC := cells5 (g2 := g2) (g3 := g3) (x := o2 + q) (y := q * 4) hC b5
        clear b5
        refine ⟨_, rfl, hC, ?_⟩
        simp only [Act.put, List.setIfInBounds_toArray, List.set_cons_zero, List.set_cons_succ]
        refine h_take 11 47 (.pointer (some ⟨p, 0, none⟩)) rfl rfl (by kernel_rfl) (by kernel_rfl) (by kernel_rfl) (fun _ _ _ h => h) rfl (fun u hu => by go_simp) hC ?_
        refine h_take 12 48 (.pointer (some ⟨p, 0, none⟩)) rfl rfl (by kernel_rfl) (by kernel_rfl) (by kernel_rfl) (fun _ _ _ h => h) rfl (fun u hu => by go_simp) hC ?_
        refine h_take 13 49 (.pointer (some ⟨p, 2, none⟩)) rfl rfl (by kernel_rfl) (by kernel_rfl) (by kernel_rfl) (fun _ _ _ h => h) rfl (fun u hu => by go_simp) hC ?_
        simp only [Act.put, List.setIfInBounds_toArray, List.set_cons_zero, List.set_cons_succ]
        have f0 := S2.free 2
        have c0 := S2.cell 2
        refine h_store 14 (w5.setCell ⟨p, 2, none⟩ (.int .i64 (nq : Int))) rfl rfl (by kernel_rfl) rfl (by go_simp) ?_
        replace S2 := S2.set 2 (.int .i64 (nq : Int)) (busy := s.busy) (node := (nq : Int)) (rank := s.rank) (now := s.now) rfl
        replace kp2 := kp2.trans (kp_cell w5 p 2 (.int .i64 (nq : Int)))
        replace hC := set5c (p := p) (g2 := g2) (g3 := g3) (x := o2 + q) (y := q * 4) hC 2 (.int .i64 (nq : Int)) (by omega) (by omega)
        clear f0 c0
        refine ⟨hC, ?_⟩
        generalize w5.setCell _ _ = w6 at S2 kp2 hC ⊢
        refine h_take 15 50 (.pointer (some ⟨p, 0, none⟩)) rfl rfl (by kernel_rfl) (by kernel_rfl) (by kernel_rfl) (fun _ _ _ h => h) rfl (fun u hu => by go_simp) hC ?_
        refine h_take 16 51 (.pointer (some ⟨p, 0, none⟩)) rfl rfl (by kernel_rfl) (by kernel_rfl) (by kernel_rfl) (fun _ _ _ h => h) rfl (fun u hu => by go_simp) hC ?_
        refine h_take 17 52 (.pointer (some ⟨p, 3, none⟩)) rfl rfl (by kernel_rfl) (by kernel_rfl) (by kernel_rfl) (fun _ _ _ h => h) rfl (fun u hu => by go_simp) hC ?_
        simp only [Act.put, List.setIfInBounds_toArray, List.set_cons_zero, List.set_cons_succ]
        have f0 := S2.free 3
        have c0 := S2.cell 3
        refine h_store 18 (w6.setCell ⟨p, 3, none⟩ (.int .i64 (rankV f.id f.rm f.ln f.D))) rfl rfl (by kernel_rfl) rfl (by go_simp) ?_
        replace S2 := S2.set 3 (.int .i64 (rankV f.id f.rm f.ln f.D)) (busy := s.busy) (node := (nq : Int)) (rank := rankV f.id f.rm f.ln f.D) (now := s.now) rfl
        replace kp2 := kp2.trans (kp_cell w6 p 3 (.int .i64 (rankV f.id f.rm f.ln f.D)))
        replace hC := set5c (p := p) (g2 := g2) (g3 := g3) (x := o2 + q) (y := q * 4) hC 3 (.int .i64 (rankV f.id f.rm f.ln f.D)) (by omega) (by omega)
        clear f0 c0
        refine ⟨hC, ?_⟩
        generalize w6.setCell _ _ = w7 at S2 kp2 hC ⊢
        refine wpAnyH_done (by kernel_rfl) ?_ _
        obtain ⟨-, d0, d1, d2, d3⟩ := hC
        go_wp2_with fail
        refine (implLengthOf f.id f.rm f.ln ad f.D cc _ (hnum _ kp2)).mono ?_
        rintro e w8 ⟨rfl, b8⟩
        replace S2 := S2.below b8
        have hl := lengthV_wf f.id f.rm f.ln f.D
        have hwl : IntKind.i64.wrap (lengthV f.id f.rm f.ln f.D + 3) = lengthV f.id f.rm f.ln f.D + 3 := IntWalk.i64_in _ (by omega)
        clear kp2 d0 d1 d2 d3 b8
        have f0 := S2.free 1
        have c0 := S2.cell 1
        go_wp2_with fail
        have S9 := S2.set 1 (.int .i64 (lengthV f.id f.rm f.ln f.D + 3)) (busy := lengthV f.id f.rm f.ln f.D + 3) (node := (nq : Int)) (rank := rankV f.id f.rm f.ln f.D) (now := s.now) rfl
        go_end0
        rw [hB.out]
        exact ⟨rfl, S9⟩
end Go.Proofs.YtnhmecabppaboaaGreat

/- The service on its way: one bit. -/

set_option linter.unusedVariables false
set_option linter.unusedSimpArgs false
namespace Go.Proofs.YtnhmecabppaboaaGreat
open Go.RowKit

set_option maxHeartbeats 32000000 in
set_option maxRecDepth 20000 in
/-- (*service).bit. -/
theorem svcBit (B p G : Nat) (s : Srv) (L H : Nat → Nat) (N : List Ev) (v : Value) (P : Nat → EvP) (LE HE : Nat → Nat) (w0 : World) (w : World) (hS : Svc B p G s L H N v P LE HE w0 w) (hr : srvB s = true) (hn : s.now < 100000) (hN : N.length ≤ 900000) :
    Calls Tryz.prog 34 #[.pointer (some ⟨p, 0, none⟩)] w fun e w' => e = .returned (.tuple #[]) ∧ ∃ L' H' v' P' LE' HE', Svc B p G (bitS s) L' H' (N ++ bitE s) v' P' LE' HE' w0 w' := by
  have hb0 := (srvB_iff.1 hr).1
  have hset : Hid (srvB (setS s) = true) := Lib.hid (by
    by_cases h0 : s.busy = 0
    · rw [setS_free h0]; exact (begS_right hr h0).1
    · rw [setS_busy h0]; exact hr)
  have hnow := (setS_bx s).2
  have hX : Hid (bitS s = (⟨(if 0 < (setS s).busy then (if (setS s).busy - 1 = 3 then endS (lowS (setS s)) else lowS (setS s)) else setS s).bx, (if 0 < (setS s).busy then (if (setS s).busy - 1 = 3 then endS (lowS (setS s)) else lowS (setS s)) else setS s).busy, (if 0 < (setS s).busy then (if (setS s).busy - 1 = 3 then endS (lowS (setS s)) else lowS (setS s)) else setS s).node, (if 0 < (setS s).busy then (if (setS s).busy - 1 = 3 then endS (lowS (setS s)) else lowS (setS s)) else setS s).rank, s.now + 1⟩ : Srv)) := Lib.hid (by have h := bitS_now s; unfold bitS at h ⊢; dsimp only at h ⊢; rw [h])
  have hE : Hid (bitE s = if 0 < (setS s).busy ∧ (setS s).busy - 1 = 3 then [endE (lowS (setS s))] else []) := Lib.hid rfl
  have hwn : IntKind.i64.wrap (s.now + 1) = s.now + 1 := IntWalk.i64_in _ (by have := (srvB_iff.1 hr).2.2.2.1; omega)
  have c1 := hS.cell 1
  by_cases h0 : s.busy = 0
  · have ht : setS s = begS s := setS_free h0
    have hd0 : decide (s.busy = 0) = true := decide_eq_true h0
    go_enter Tryz.func34, Tryz.ntmps34
    go_wp2_with fail
    clear c1
    refine (svcBegin B p G s L H N v P LE HE w0 w hS hb0).mono ?_
    rintro e w1 ⟨rfl, S⟩
    clear hd0 hS
    rw [← ht] at S
    clear ht h0 hr
    generalize hts : setS s = t at *
    replace hts := Lib.hid hts
    obtain ⟨hb, h1, h2, h3, h4, h5⟩ := srvB_iff.1 hset.out
    have c1 := S.cell 1
    by_cases hp : 0 < t.busy
    · have hd1 : decide (0 < t.busy) = true := decide_eq_true hp
      have hwb : IntKind.i64.wrap (t.busy - 1) = t.busy - 1 := IntWalk.i64_in _ (by omega)
      have f1 := S.free 1
      go_upto_region 4 with fail
      have S1 : Svc B p G (lowS t) L H N v P LE HE w0 (w1.setCell ⟨p, 1, none⟩ (.int .i64 (t.busy - 1))) := S.set 1 (.int .i64 (t.busy - 1)) (busy := t.busy - 1) (node := t.node) (rank := t.rank) (now := t.now) rfl
      clear c1 f1 S hd1 hwb
      generalize w1.setCell _ _ = w2 at S1 ⊢
      have c1 : w2.cell? ⟨p, 1, none⟩ = some (.int .i64 (t.busy - 1)) := S1.cell 1
      by_cases h33 : t.busy - 1 = 3
      · have hXX : Hid (bitS s = (⟨(endS (lowS t)).bx, (endS (lowS t)).busy, (endS (lowS t)).node, (endS (lowS t)).rank, s.now + 1⟩ : Srv) ∧ bitE s = [endE (lowS t)]) := Lib.hid (by rw [hX.out, hE.out, if_pos hp, if_pos h33, if_pos ⟨hp, h33⟩]; exact ⟨rfl, rfl⟩)
        have hd3 : decide (t.busy - 1 = 3) = true := decide_eq_true h33
        have hs := (sndB_high (s := t) (by omega)).1 h5
        go_wp2_with fail
        clear c1 hd3
        have hjn : (lowS t).node = ((t.node.toNat : Nat) : Int) := by show t.node = _; omega
        refine (svcEnd B p G (lowS t) L H N v P LE HE w0 t.node.toNat hjn w2 S1 hb (by show t.node.toNat < t.bx.length; omega) hs.2.2 hN).mono ?_
        rintro e w3 ⟨rfl, L3, H3, v3, P3, LE3, HE3, S3⟩
        clear S1
        have c4 : w3.cell? ⟨p, 4, none⟩ = some (.int .i64 s.now) := by rw [← hnow]; exact S3.cell 4
        have f4 := S3.free 4
        go_wp2_with fail
        have S4 := S3.set 4 (.int .i64 (s.now + 1)) (busy := (endS (lowS t)).busy) (node := (endS (lowS t)).node) (rank := (endS (lowS t)).rank) (now := s.now + 1) rfl
        go_end0
        rw [hXX.out.1, hXX.out.2]
        exact ⟨rfl, _, _, _, _, _, _, S4⟩
      · have hXX : Hid (bitS s = (⟨(lowS t).bx, (lowS t).busy, (lowS t).node, (lowS t).rank, s.now + 1⟩ : Srv) ∧ bitE s = []) := Lib.hid (by rw [hX.out, hE.out, if_pos hp, if_neg h33, if_neg (fun (h : 0 < t.busy ∧ t.busy - 1 = 3) => h33 h.2)]; exact ⟨rfl, rfl⟩)
        have hd3 : decide (t.busy - 1 = 3) = false := decide_eq_false h33
        have c4 : w2.cell? ⟨p, 4, none⟩ = some (.int .i64 s.now) := by rw [← hnow]; exact S1.cell 4
        have f4 := S1.free 4
        go_wp2_with fail
        have S4 := S1.set 4 (.int .i64 (s.now + 1)) (busy := (lowS t).busy) (node := (lowS t).node) (rank := (lowS t).rank) (now := s.now + 1) rfl
        go_end0
        rw [hXX.out.1, hXX.out.2, List.append_nil]
        exact ⟨rfl, _, _, _, _, _, _, S4⟩
    · have hXX : Hid (bitS s = (⟨t.bx, t.busy, t.node, t.rank, s.now + 1⟩ : Srv) ∧ bitE s = []) := Lib.hid (by rw [hX.out, hE.out, if_neg hp, if_neg (fun (h : 0 < t.busy ∧ t.busy - 1 = 3) => hp h.1)]; exact ⟨rfl, rfl⟩)
      have hd1 : decide (0 < t.busy) = false := decide_eq_false hp
      have c4 : w1.cell? ⟨p, 4, none⟩ = some (.int .i64 s.now) := by rw [← hnow]; exact S.cell 4
      have f4 := S.free 4
      go_wp2_with fail
      have S4 := S.set 4 (.int .i64 (s.now + 1)) (busy := t.busy) (node := t.node) (rank := t.rank) (now := s.now + 1) rfl
      go_end0
      rw [hXX.out.1, hXX.out.2, List.append_nil]
      exact ⟨rfl, _, _, _, _, _, _, S4⟩
  · have ht : setS s = s := setS_busy h0
    have hd0 : decide (s.busy = 0) = false := decide_eq_false h0
    go_enter Tryz.func34, Tryz.ntmps34
    go_upto_region 2 with fail
    have S := hS
    clear hS c1 hd0
    rw [← ht] at S
    clear ht h0 hr
    generalize hts : setS s = t at *
    replace hts := Lib.hid hts
    generalize w = w1 at S ⊢
    obtain ⟨hb, h1, h2, h3, h4, h5⟩ := srvB_iff.1 hset.out
    have c1 := S.cell 1
    by_cases hp : 0 < t.busy
    · have hd1 : decide (0 < t.busy) = true := decide_eq_true hp
      have hwb : IntKind.i64.wrap (t.busy - 1) = t.busy - 1 := IntWalk.i64_in _ (by omega)
      have f1 := S.free 1
      go_upto_region 4 with fail
      have S1 : Svc B p G (lowS t) L H N v P LE HE w0 (w1.setCell ⟨p, 1, none⟩ (.int .i64 (t.busy - 1))) := S.set 1 (.int .i64 (t.busy - 1)) (busy := t.busy - 1) (node := t.node) (rank := t.rank) (now := t.now) rfl
      clear c1 f1 S hd1 hwb
      generalize w1.setCell _ _ = w2 at S1 ⊢
      have c1 : w2.cell? ⟨p, 1, none⟩ = some (.int .i64 (t.busy - 1)) := S1.cell 1
      by_cases h33 : t.busy - 1 = 3
      · have hXX : Hid (bitS s = (⟨(endS (lowS t)).bx, (endS (lowS t)).busy, (endS (lowS t)).node, (endS (lowS t)).rank, s.now + 1⟩ : Srv) ∧ bitE s = [endE (lowS t)]) := Lib.hid (by rw [hX.out, hE.out, if_pos hp, if_pos h33, if_pos ⟨hp, h33⟩]; exact ⟨rfl, rfl⟩)
        have hd3 : decide (t.busy - 1 = 3) = true := decide_eq_true h33
        have hs := (sndB_high (s := t) (by omega)).1 h5
        go_wp2_with fail
        clear c1 hd3
        have hjn : (lowS t).node = ((t.node.toNat : Nat) : Int) := by show t.node = _; omega
        refine (svcEnd B p G (lowS t) L H N v P LE HE w0 t.node.toNat hjn w2 S1 hb (by show t.node.toNat < t.bx.length; omega) hs.2.2 hN).mono ?_
        rintro e w3 ⟨rfl, L3, H3, v3, P3, LE3, HE3, S3⟩
        clear S1
        have c4 : w3.cell? ⟨p, 4, none⟩ = some (.int .i64 s.now) := by rw [← hnow]; exact S3.cell 4
        have f4 := S3.free 4
        go_wp2_with fail
        have S4 := S3.set 4 (.int .i64 (s.now + 1)) (busy := (endS (lowS t)).busy) (node := (endS (lowS t)).node) (rank := (endS (lowS t)).rank) (now := s.now + 1) rfl
        go_end0
        rw [hXX.out.1, hXX.out.2]
        exact ⟨rfl, _, _, _, _, _, _, S4⟩
      · have hXX : Hid (bitS s = (⟨(lowS t).bx, (lowS t).busy, (lowS t).node, (lowS t).rank, s.now + 1⟩ : Srv) ∧ bitE s = []) := Lib.hid (by rw [hX.out, hE.out, if_pos hp, if_neg h33, if_neg (fun (h : 0 < t.busy ∧ t.busy - 1 = 3) => h33 h.2)]; exact ⟨rfl, rfl⟩)
        have hd3 : decide (t.busy - 1 = 3) = false := decide_eq_false h33
        have c4 : w2.cell? ⟨p, 4, none⟩ = some (.int .i64 s.now) := by rw [← hnow]; exact S1.cell 4
        have f4 := S1.free 4
        go_wp2_with fail
        have S4 := S1.set 4 (.int .i64 (s.now + 1)) (busy := (lowS t).busy) (node := (lowS t).node) (rank := (lowS t).rank) (now := s.now + 1) rfl
        go_end0
        rw [hXX.out.1, hXX.out.2, List.append_nil]
        exact ⟨rfl, _, _, _, _, _, _, S4⟩
    · have hXX : Hid (bitS s = (⟨t.bx, t.busy, t.node, t.rank, s.now + 1⟩ : Srv) ∧ bitE s = []) := Lib.hid (by rw [hX.out, hE.out, if_neg hp, if_neg (fun (h : 0 < t.busy ∧ t.busy - 1 = 3) => hp h.1)]; exact ⟨rfl, rfl⟩)
      have hd1 : decide (0 < t.busy) = false := decide_eq_false hp
      have c4 : w1.cell? ⟨p, 4, none⟩ = some (.int .i64 s.now) := by rw [← hnow]; exact S.cell 4
      have f4 := S.free 4
      go_wp2_with fail
      have S4 := S.set 4 (.int .i64 (s.now + 1)) (busy := t.busy) (node := t.node) (rank := t.rank) (now := s.now + 1) rfl
      go_end0
      rw [hXX.out.1, hXX.out.2, List.append_nil]
      exact ⟨rfl, _, _, _, _, _, _, S4⟩
end Go.Proofs.YtnhmecabppaboaaGreat

/- impl.ServerFor, impl.ServerTick. -/

set_option linter.unusedVariables false
set_option linter.unusedSimpArgs false
namespace Go.Proofs.YtnhmecabppaboaaGreat
open Go.RowKit

/-- What a run answers: a server of the call's own and its events. -/
def SfO (s : Srv) (N : List Ev) (w : World) (e : Ending) (w' : World) : Prop :=
  ∃ p G L H a c P LE HE, e = .returned (.tuple #[svV (some ⟨G, 0, none⟩) s.bx.length s.bx.length s.busy s.node s.rank s.now, .slice a N.length c]) ∧ SvcI w.heap.size p G s.bx.length N.length L H LE HE (.slice a N.length c) ∧ BoxO True G s.bx.length (fun j => j < s.bx.length) s.bx L H w' ∧ RowE OwnE w.heap.size N.length N P LE HE (.slice a N.length c) w' ∧ Below w.heap.size w w'
def SfZ (w : World) (e : Ending) (w' : World) : Prop := e = .returned (.tuple #[svV none 0 0 0 0 0 0, .slice none 0 0]) ∧ Below w.heap.size w w'
def SfR (s : Srv) (bits : Int) (w : World) (e : Ending) (w' : World) : Prop := (srvB s = false → SfZ w e w') ∧ (srvB s = true → SfO (forS s bits) (forE s bits) w e w')
theorem results_srE {fn : Func} {p q : Tmp} (h : fn.results = #[.cell p 26, .tmp q]) (tmps : Array Value) (w : World) (g : Nat) (C : Array Value) (v : Value) (hp : tmps.getD p undef = .pointer (some ⟨g, 0, none⟩)) (hq : tmps.getD q undef = v)
    (hg : w.heap[g]? = some (.cells C 26 (0, 0))) (hC : C.size = 5) : (results fn tmps).run Tryz.prog w = .ok (.tuple #[.agg C, v]) w := by
  have hp' : tmps[p]?.getD undef = .pointer (some ⟨g, 0, none⟩) := by simpa using hp
  have hq' : tmps[q]?.getD undef = v := by simpa using hq
  have hl := run_loadVar_row (P := Tryz.prog) w g 26 26 C (0, 0) _ hg Tryz.underlying26 rfl (by rw [hC]; kernel_rfl)
  simp [results, h, hp', hq', asAddr, hl]
/-- A service of a server of the call's own, newly made. -/
theorem Svc.start {B G : Nat} {s : Srv} {L H : Nat → Nat} {w1 w2 : World} (ho : BoxO True G s.bx.length (fun j => j < s.bx.length) s.bx L H w2) (hF : FromB B G s.bx.length L) (b : Below B w1 w2) (hB : B ≤ w1.heap.size) :
    Svc B w2.heap.size G s L H [] (.slice none 0 0) (fun _ => (none, 0)) (fun _ => 0) (fun _ => 0) w1 (w2.alloc (.cells (seC G s.bx.length s.busy s.node s.rank s.now (.slice none 0 0)) 61)) := by
  have b2 : Below w2.heap.size w2 (w2.alloc (.cells (seC G s.bx.length s.busy s.node s.rank s.now (.slice none 0 0)) 61)) := below_more (Below.refl _ _) _
  have hz := b.size
  have hG := ho.lt
  refine ⟨⟨⟨by omega, hF⟩, by omega, fun j hj => .inr (ho.out j hj).2.1, fun j hj => absurd hj (Nat.not_lt_zero _), fun g hg => (by cases hg), fun i hi j hj => absurd hj (Nat.not_lt_zero _), fun j hj => absurd hj (Nat.not_lt_zero _)⟩, heap_alloc_new _ _, ho.below b2, RowE.nil _ _ _ _ _ _ _, b.trans (b2.mono (by omega)), hB⟩
theorem RowE.lower {M : Nat → Nat → Ev → EvP → World → Prop} {B B' k : Nat} {N : List Ev} {P : Nat → EvP} {L H : Nat → Nat} {v : Value} {w : World} (h : RowE M B k N P L H v w) (hB : B' ≤ B) : RowE M B' k N P L H v w := by
  refine ⟨⟨h.own.1, ?_⟩, h.mem, fun j hj => ⟨Nat.le_trans hB (h.out j hj).1, (h.out j hj).2⟩, h.far, h.apart, h.lt⟩
  rcases h.own.2 with e | ⟨g, cap, cur, e, hb, r⟩
  · exact .inl e
  · exact .inr ⟨g, cap, cur, e, Nat.le_trans hB hb, r⟩
/-- A block below turns: the boxes and the events stand. -/
theorem Svc.fin {B B' p G g : Nat} {s : Srv} {L H : Nat → Nat} {N : List Ev} {v : Value} {P : Nat → EvP} {LE HE : Nat → Nat} {w0 w w' : World} (h : Svc B p G s L H N v P LE HE w0 w) (m : Mid g (g + 1) w w') (hg : g < B) (hB : B' ≤ B) :
    SvcI B' p G s.bx.length N.length L H LE HE v ∧ BoxO True G s.bx.length (fun j => j < s.bx.length) s.bx L H w' ∧ RowE OwnE B' N.length N P LE HE v w' := by
  have ix := h.ix
  refine ⟨⟨⟨Nat.le_trans hB ix.low.1, Nat.le_trans hB ix.low.2.1, fun j hj => Nat.le_trans hB (ix.low.2.2 j hj)⟩, ix.pG, ix.pb, ix.pe, ix.pv, ix.be, ix.Ge⟩, h.box.kp (Y := fun q => q ≠ g) ⟨m.size, fun q hq hl => m.block q hl (by omega), m.os, m.tape, m.output⟩ (by show G ≠ g; have := ix.low.2.1; omega) (fun j hj q h1 h2 => by
    show q ≠ g
    have := ix.low.2.2 j hj
    omega), (h.ev.sep ownE_sep m (fun q hq => .inr (by have := (World.ownsRow.lt h.ev.own q hq).1; omega)) (fun j hj => .inr (by have := (h.ev.out j hj).1; omega))).lower hB⟩
set_option maxHeartbeats 32000000 in
set_option maxRecDepth 20000 in
/-- impl.ServerFor. -/
theorem implServerFor (R : Option Addr → Nat → Nat → Prop) (a : Option Addr) (X : List (List Frm)) (c : Nat) (busy nd rank now bits : Int) (w : World) (hd : Bxs R a X w) :
    Calls Tryz.prog 8 #[svV a X.length c busy nd rank now, .int .i64 bits] w (SfR ⟨X, busy, nd, rank, now⟩ bits w) := by
  have hm := hd.1
  obtain ⟨HC, HR, B⟩ := two_made w (svC a X.length c busy nd rank now) (svC none 0 0 0 0 0 0) 26 26
  have hz : ((w.alloc (.cells (svC a X.length c busy nd rank now) 26)).alloc (.cells (svC none 0 0 0 0 0 0) 26)).heap.size = w.heap.size + 2 := by simp
  go_enter Tryz.func8, Tryz.ntmps8
  go_upto_region 1 with fail
  replace hd := hd.below B
  generalize (w.alloc (.cells (svC a X.length c busy nd rank now) 26)).alloc (.cells (svC none 0 0 0 0 0 0) 26) = W at HC HR B hz hd ⊢
  have S0 : Sv w.heap.size a X.length c busy nd rank now w W := ⟨HC, B⟩
  go_wp2_with (refine S0.take rfl rfl rfl ?_)
  refine (implServerOk R a X c busy nd rank now _ hd).mono ?_
  rintro e w1 ⟨rfl, b⟩
  replace HC := blkV HC b
  replace HR := blkV HR b
  replace B := Below.then2 B b
  replace hd := hd.below b
  have hz1 : w.heap.size + 2 ≤ w1.heap.size := by have := b.size; omega
  clear b S0 hz
  cases hok : srvB ⟨X, busy, nd, rank, now⟩
  · have e0 := cell_of_row w1 (w.heap.size + 1) 0 _ _ _ HR
    have e1 := cell_of_row w1 (w.heap.size + 1) 1 _ _ _ HR
    have e2 := cell_of_row w1 (w.heap.size + 1) 2 _ _ _ HR
    have e3 := cell_of_row w1 (w.heap.size + 1) 3 _ _ _ HR
    have e4 := cell_of_row w1 (w.heap.size + 1) 4 _ _ _ HR
    have k0 := frozen_of_row w1 (w.heap.size + 1) 0 _ _ HR
    have k1 := frozen_of_row w1 (w.heap.size + 1) 1 _ _ HR
    have k2 := frozen_of_row w1 (w.heap.size + 1) 2 _ _ HR
    have k3 := frozen_of_row w1 (w.heap.size + 1) 3 _ _ HR
    have k4 := frozen_of_row w1 (w.heap.size + 1) 4 _ _ HR
    replace hok := Lib.hid hok
    go_wp2_with fail
    obtain ⟨h5, m⟩ := set5 HR (.slice none 0 0) (.int .i64 0) (.int .i64 0) (.int .i64 0) (.int .i64 0)
    clear e0 e1 e2 e3 e4 k0 k1 k2 k3 k4
    generalize World.setCell _ _ _ = w5 at h5 m ⊢
    refine bodyPost_ret (v := .tuple #[svV none 0 0 0 0 0 0, .slice none 0 0]) ?_ rfl ⟨fun _ => ⟨rfl, B.trans (m.below (by omega) B.size)⟩, fun h => absurd h (by rw [hok.out]; simp)⟩
    exact results_srE Tryz.results8 _ _ (w.heap.size + 1) _ _ rfl rfl h5 rfl
  have hS := srvB_iff.1 hok
  have hbx : boxesB X = true := hS.1
  have hnow : 0 ≤ now ∧ now ≤ 100000 := ⟨hS.2.2.2.1, hS.2.2.2.2.1⟩
  replace hS := Lib.hid hS
  have hFS : Hid (forS ⟨X, busy, nd, rank, now⟩ bits = runS ⟨X, busy, nd, rank, now⟩ (forK ⟨X, busy, nd, rank, now⟩ bits) ∧ forE ⟨X, busy, nd, rank, now⟩ bits = runF ⟨X, busy, nd, rank, now⟩ (forK ⟨X, busy, nd, rank, now⟩ bits)) := Lib.hid ⟨if_pos hok, if_pos hok⟩
  replace hok := Lib.hid hok
  have S1 : Sv w.heap.size a X.length c busy nd rank now w w1 := ⟨HC, B⟩
  go_wp2_with (refine S1.take rfl rfl rfl ?_)
  refine (implCopiedServer R a X c busy nd rank now _ hd hbx).mono ?_
  rintro e w2 ⟨G, L, H, rfl, O, hF, b⟩
  dsimp only at O hF
  go_upto_region 4 with fail
  have S2 := Svc.start (s := ⟨X, busy, nd, rank, now⟩) O hF b (Nat.le_refl _)
  dsimp only at S2
  have hp1 : w1.heap.size ≤ w2.heap.size := b.size
  clear O hF b S1 hd
  generalize w2.alloc _ = W3 at S2 ⊢
  generalize w2.heap.size = p at S2 hp1 ⊢
  go_wp2_with fail
  refine (implWithin _ _ _ _).mono ?_
  rintro e u ⟨rfl, rfl⟩
  by_cases hr : 0 ≤ bits ∧ bits ≤ 5000
  · have hrt : rng bits 0 5000 = true := rng_iff.2 hr
    have hK : forK ⟨X, busy, nd, rank, now⟩ bits = (min bits (100000 - now)).toNat := by
      unfold forK sK
      rw [if_pos hr, Int.toNat_of_nonneg hr.1]
    have hKm : ((forK ⟨X, busy, nd, rank, now⟩ bits : Nat) : Int) = min bits (100000 - now) := by rw [hK]; exact Int.toNat_of_nonneg (by omega)
    have hK2 : forK ⟨X, busy, nd, rank, now⟩ bits ≤ 5000 ∧ now + forK ⟨X, busy, nd, rank, now⟩ bits ≤ 100000 := by omega
    generalize forK ⟨X, busy, nd, rank, now⟩ bits = K at *
    clear hK
    rw [hrt]
    have x4 := cell_of_row W3 w.heap.size 4 _ _ _ ((S2.bel.block _ (by omega) |>.trans HC) : W3.heap[w.heap.size]? = _)
    have hwr : IntKind.i64.wrap (100000 - now) = 100000 - now := IntWalk.i64_in _ (by omega)
    go_wp2_with fail
    rw [← hKm]
    clear x4 hwr hKm hrt
    go_loopw [22, 23, 24, 25, 26] (fun i _ _ _ _ wr => ∃ (k : Nat) (L : Nat → Nat) (H : Nat → Nat) (v : Value) (P : Nat → EvP) (LE : Nat → Nat) (HE : Nat → Nat), k ≤ K ∧ i = .int .i64 k ∧ Svc w1.heap.size p G (runS ⟨X, busy, nd, rank, now⟩ k) L H (runF ⟨X, busy, nd, rank, now⟩ k) v P LE HE w1 wr) (fun i _ _ _ _ _ => K - (intOf i).toNat)
    case atStart => exact ⟨0, _, _, _, _, _, _, Nat.zero_le _, rfl, S2⟩
    case round =>
      clear S2
      obtain ⟨k, L, H, v, P, LE, HE, hk, rfl, S⟩ := hrel
      have hwk : IntKind.i64.wrap ((k : Int) + 1) = ((k + 1 : Nat) : Int) := by rw [IntWalk.i64_in _ (by omega)]; omega
      by_cases hlt : k < K
      · have hlt2 : decide ((k : Int) < (K : Int)) = true := decide_eq_true (by omega)
        go_wp2_with fail
        refine (svcBit w1.heap.size p G (runS ⟨X, busy, nd, rank, now⟩ k) L H (runF ⟨X, busy, nd, rank, now⟩ k) v P LE HE w1 _ S (runS_right hok.out k (by show now + (k : Int) ≤ 100000; omega)) (by rw [runS_now]; show now + (k : Int) < 100000; omega) (by have := runF_len ⟨X, busy, nd, rank, now⟩ k; omega)).mono ?_
        rintro e w4 ⟨rfl, L', H', v', P', LE', HE', S'⟩
        go_wp2_with fail
        go_roundw
        case rel => exact ⟨k + 1, _, _, _, _, _, _, by omega, by go_num, S'⟩
        case measure => simp [intOf]; omega
      · obtain rfl : k = K := by omega
        have hlt2 : decide ((k : Int) < (k : Int)) = false := decide_eq_false (by omega)
        go_upto_region 9 with fail
        generalize hs' : runS ⟨X, busy, nd, rank, now⟩ k = s' at *
        generalize hN' : runF ⟨X, busy, nd, rank, now⟩ k = N' at *
        have hgw : w.heap.size + 1 < w1.heap.size := by omega
        have HRr := (S.bel.block (w.heap.size + 1) hgw).trans HR
        replace hs' := Lib.hid hs'
        replace hN' := Lib.hid hN'
        refine wp_region_held (S := fun u => u.heap[p]? = some (.cells (seC G s'.bx.length s'.busy s'.node s'.rank s'.now v) 61 (0, 0))) (by kernel_rfl) ?_
        have b0 : Below wr.heap.size wr { wr with drawn := wr.drawn + 1 } := (Below.refl _ _).drew
        replace S := S.below b0
        replace HRr := blkV HRr b0
        generalize ({ wr with drawn := wr.drawn + 1 } : World) = V at S HRr ⊢
        clear b0
        have hC := S.blk
        have hpg : p ≠ w.heap.size + 1 := by omega
        refine h_take 0 27 (.pointer (some ⟨p, 0, none⟩)) rfl rfl (by kernel_rfl) (by kernel_rfl) (by kernel_rfl) (fun _ _ _ h => h) rfl (fun u hu => by go_simp) hC ?_
        refine h_take 1 28 (.pointer (some ⟨p, 0, none⟩)) rfl rfl (by kernel_rfl) (by kernel_rfl) (by kernel_rfl) (fun _ _ _ h => h) rfl (fun u hu => by go_simp) hC ?_
        refine h_take 2 29 (.pointer (some ⟨p, 0, none⟩)) rfl rfl (by kernel_rfl) (by kernel_rfl) (by kernel_rfl) (fun _ _ _ h => h) rfl (fun u hu => by go_simp) hC ?_
        simp only [Act.put, List.setIfInBounds_toArray, List.set_cons_zero, List.set_cons_succ]
        refine h_take 3 30 (svV (some ⟨G, 0, none⟩) s'.bx.length s'.bx.length s'.busy s'.node s'.rank s'.now) rfl rfl (by kernel_rfl) (by kernel_rfl) (by kernel_rfl) (fun _ _ _ h => h) rfl (fun u hu => by have q0 := cell_of_row u p 0 _ _ _ hu; have q1 := cell_of_row u p 1 _ _ _ hu; have q2 := cell_of_row u p 2 _ _ _ hu; have q3 := cell_of_row u p 3 _ _ _ hu; have q4 := cell_of_row u p 4 _ _ _ hu; go_simp) hC ?_
        refine h_take 4 31 (.pointer (some ⟨p, 0, none⟩)) rfl rfl (by kernel_rfl) (by kernel_rfl) (by kernel_rfl) (fun _ _ _ h => h) rfl (fun u hu => by go_simp) hC ?_
        refine h_take 5 32 (.pointer (some ⟨p, 0, none⟩)) rfl rfl (by kernel_rfl) (by kernel_rfl) (by kernel_rfl) (fun _ _ _ h => h) rfl (fun u hu => by go_simp) hC ?_
        simp only [Act.put, List.setIfInBounds_toArray, List.set_cons_zero, List.set_cons_succ]
        refine h_take 6 33 (.pointer (some ⟨p, 5, none⟩)) rfl rfl (by kernel_rfl) (by kernel_rfl) (by kernel_rfl) (fun _ _ _ h => h) rfl (fun u hu => by go_simp) hC ?_
        refine h_take 7 34 (v) rfl rfl (by kernel_rfl) (by kernel_rfl) (by kernel_rfl) (fun _ _ _ h => h) rfl (fun u hu => by have q5 := cell_of_row u p 5 _ _ _ hu; go_simp) hC ?_
        simp only [Act.put, List.setIfInBounds_toArray, List.set_cons_zero, List.set_cons_succ]
        have e0 := cell_of_row V (w.heap.size + 1) 0 _ _ _ HRr
        have e1 := cell_of_row V (w.heap.size + 1) 1 _ _ _ HRr
        have e2 := cell_of_row V (w.heap.size + 1) 2 _ _ _ HRr
        have e3 := cell_of_row V (w.heap.size + 1) 3 _ _ _ HRr
        have e4 := cell_of_row V (w.heap.size + 1) 4 _ _ _ HRr
        have k0 := frozen_of_row V (w.heap.size + 1) 0 _ _ HRr
        have k1 := frozen_of_row V (w.heap.size + 1) 1 _ _ HRr
        have k2 := frozen_of_row V (w.heap.size + 1) 2 _ _ HRr
        have k3 := frozen_of_row V (w.heap.size + 1) 3 _ _ HRr
        have k4 := frozen_of_row V (w.heap.size + 1) 4 _ _ HRr
        refine h_store 8 (((((V.setCell ⟨w.heap.size + 1, 0, none⟩ (.slice (some ⟨G, 0, none⟩) s'.bx.length s'.bx.length)).setCell ⟨w.heap.size + 1, 1, none⟩ (.int .i64 s'.busy)).setCell ⟨w.heap.size + 1, 2, none⟩ (.int .i64 s'.node)).setCell ⟨w.heap.size + 1, 3, none⟩ (.int .i64 s'.rank)).setCell ⟨w.heap.size + 1, 4, none⟩ (.int .i64 s'.now)) rfl rfl (by kernel_rfl) rfl (by go_simp) ?_
        clear e0 e1 e2 e3 e4 k0 k1 k2 k3 k4
        obtain ⟨h5, m⟩ := set5 HRr (.slice (some ⟨G, 0, none⟩) s'.bx.length s'.bx.length) (.int .i64 s'.busy) (.int .i64 s'.node) (.int .i64 s'.rank) (.int .i64 s'.now)
        generalize World.setCell _ _ _ = w5 at h5 m ⊢
        have hC5 := (m.block p S.lt (by omega)).trans hC
        refine ⟨hC5, ?_⟩
        refine h_value 9 5 v rfl rfl (by kernel_rfl) rfl (by go_simp) hC5 ?_
        simp only [Act.put, List.setIfInBounds_toArray, List.set_cons_zero, List.set_cons_succ]
        refine wpAnyH_done (by kernel_rfl) ?_ _
        obtain ⟨ix, OB, OE⟩ := S.fin m hgw (Nat.le_of_lt (Nat.lt_of_le_of_lt (Nat.le_succ _) hgw))
        have bel : Below w.heap.size w w5 := (B.trans (S.bel.mono (by omega))).trans (m.below (by omega) (B.trans (S.bel.mono (by omega))).size)
        obtain ⟨av, cv, rfl⟩ := S.is
        clear hC hC5 S m HRr HR HC B
        go_wp2_with fail
        refine bodyPost_ret (v := .tuple #[svV (some ⟨G, 0, none⟩) s'.bx.length s'.bx.length s'.busy s'.node s'.rank s'.now, .slice av N'.length cv]) ?_ rfl ⟨fun h => absurd h (by rw [hok.out]; simp), fun _ => ?_⟩
        · exact results_srE Tryz.results8 _ _ (w.heap.size + 1) _ _ rfl rfl h5 rfl
        · rw [hFS.out.1, hFS.out.2]
          exact ⟨p, G, _, _, av, cv, _, _, _, rfl, ix, OB, OE, bel⟩
  · have hrt : rng bits 0 5000 = false := by
      cases h : rng bits 0 5000
      · rfl
      · exact absurd (rng_iff.1 h) hr
    have hK : forK ⟨X, busy, nd, rank, now⟩ bits = 0 := if_neg hr
    rw [hrt]
    go_upto_region 9 with fail
    obtain ⟨v, P, LE, HE, S⟩ : ∃ v P LE HE, Svc w1.heap.size p G (runS ⟨X, busy, nd, rank, now⟩ (forK ⟨X, busy, nd, rank, now⟩ bits)) L H (runF ⟨X, busy, nd, rank, now⟩ (forK ⟨X, busy, nd, rank, now⟩ bits)) v P LE HE w1 W3 := ⟨_, _, _, _, by rw [hK]; exact S2⟩
    clear S2
    clear hK hrt
    generalize hkk : forK ⟨X, busy, nd, rank, now⟩ bits = k at *
    clear hkk
    generalize hs' : runS ⟨X, busy, nd, rank, now⟩ k = s' at *
    generalize hN' : runF ⟨X, busy, nd, rank, now⟩ k = N' at *
    generalize W3 = wr at S ⊢
    have hgw : w.heap.size + 1 < w1.heap.size := by omega
    have HRr := (S.bel.block (w.heap.size + 1) hgw).trans HR
    replace hs' := Lib.hid hs'
    replace hN' := Lib.hid hN'
    refine wp_region_held (S := fun u => u.heap[p]? = some (.cells (seC G s'.bx.length s'.busy s'.node s'.rank s'.now v) 61 (0, 0))) (by kernel_rfl) ?_
    have b0 : Below wr.heap.size wr { wr with drawn := wr.drawn + 1 } := (Below.refl _ _).drew
    replace S := S.below b0
    replace HRr := blkV HRr b0
    generalize ({ wr with drawn := wr.drawn + 1 } : World) = V at S HRr ⊢
    clear b0
    have hC := S.blk
    have hpg : p ≠ w.heap.size + 1 := by omega
    refine h_take 0 27 (.pointer (some ⟨p, 0, none⟩)) rfl rfl (by kernel_rfl) (by kernel_rfl) (by kernel_rfl) (fun _ _ _ h => h) rfl (fun u hu => by go_simp) hC ?_
    refine h_take 1 28 (.pointer (some ⟨p, 0, none⟩)) rfl rfl (by kernel_rfl) (by kernel_rfl) (by kernel_rfl) (fun _ _ _ h => h) rfl (fun u hu => by go_simp) hC ?_
    refine h_take 2 29 (.pointer (some ⟨p, 0, none⟩)) rfl rfl (by kernel_rfl) (by kernel_rfl) (by kernel_rfl) (fun _ _ _ h => h) rfl (fun u hu => by go_simp) hC ?_
    simp only [Act.put, List.setIfInBounds_toArray, List.set_cons_zero, List.set_cons_succ]
    refine h_take 3 30 (svV (some ⟨G, 0, none⟩) s'.bx.length s'.bx.length s'.busy s'.node s'.rank s'.now) rfl rfl (by kernel_rfl) (by kernel_rfl) (by kernel_rfl) (fun _ _ _ h => h) rfl (fun u hu => by have q0 := cell_of_row u p 0 _ _ _ hu; have q1 := cell_of_row u p 1 _ _ _ hu; have q2 := cell_of_row u p 2 _ _ _ hu; have q3 := cell_of_row u p 3 _ _ _ hu; have q4 := cell_of_row u p 4 _ _ _ hu; go_simp) hC ?_
    refine h_take 4 31 (.pointer (some ⟨p, 0, none⟩)) rfl rfl (by kernel_rfl) (by kernel_rfl) (by kernel_rfl) (fun _ _ _ h => h) rfl (fun u hu => by go_simp) hC ?_
    refine h_take 5 32 (.pointer (some ⟨p, 0, none⟩)) rfl rfl (by kernel_rfl) (by kernel_rfl) (by kernel_rfl) (fun _ _ _ h => h) rfl (fun u hu => by go_simp) hC ?_
    simp only [Act.put, List.setIfInBounds_toArray, List.set_cons_zero, List.set_cons_succ]
    refine h_take 6 33 (.pointer (some ⟨p, 5, none⟩)) rfl rfl (by kernel_rfl) (by kernel_rfl) (by kernel_rfl) (fun _ _ _ h => h) rfl (fun u hu => by go_simp) hC ?_
    refine h_take 7 34 (v) rfl rfl (by kernel_rfl) (by kernel_rfl) (by kernel_rfl) (fun _ _ _ h => h) rfl (fun u hu => by have q5 := cell_of_row u p 5 _ _ _ hu; go_simp) hC ?_
    simp only [Act.put, List.setIfInBounds_toArray, List.set_cons_zero, List.set_cons_succ]
    have e0 := cell_of_row V (w.heap.size + 1) 0 _ _ _ HRr
    have e1 := cell_of_row V (w.heap.size + 1) 1 _ _ _ HRr
    have e2 := cell_of_row V (w.heap.size + 1) 2 _ _ _ HRr
    have e3 := cell_of_row V (w.heap.size + 1) 3 _ _ _ HRr
    have e4 := cell_of_row V (w.heap.size + 1) 4 _ _ _ HRr
    have k0 := frozen_of_row V (w.heap.size + 1) 0 _ _ HRr
    have k1 := frozen_of_row V (w.heap.size + 1) 1 _ _ HRr
    have k2 := frozen_of_row V (w.heap.size + 1) 2 _ _ HRr
    have k3 := frozen_of_row V (w.heap.size + 1) 3 _ _ HRr
    have k4 := frozen_of_row V (w.heap.size + 1) 4 _ _ HRr
    refine h_store 8 (((((V.setCell ⟨w.heap.size + 1, 0, none⟩ (.slice (some ⟨G, 0, none⟩) s'.bx.length s'.bx.length)).setCell ⟨w.heap.size + 1, 1, none⟩ (.int .i64 s'.busy)).setCell ⟨w.heap.size + 1, 2, none⟩ (.int .i64 s'.node)).setCell ⟨w.heap.size + 1, 3, none⟩ (.int .i64 s'.rank)).setCell ⟨w.heap.size + 1, 4, none⟩ (.int .i64 s'.now)) rfl rfl (by kernel_rfl) rfl (by go_simp) ?_
    clear e0 e1 e2 e3 e4 k0 k1 k2 k3 k4
    obtain ⟨h5, m⟩ := set5 HRr (.slice (some ⟨G, 0, none⟩) s'.bx.length s'.bx.length) (.int .i64 s'.busy) (.int .i64 s'.node) (.int .i64 s'.rank) (.int .i64 s'.now)
    generalize World.setCell _ _ _ = w5 at h5 m ⊢
    have hC5 := (m.block p S.lt (by omega)).trans hC
    refine ⟨hC5, ?_⟩
    refine h_value 9 5 v rfl rfl (by kernel_rfl) rfl (by go_simp) hC5 ?_
    simp only [Act.put, List.setIfInBounds_toArray, List.set_cons_zero, List.set_cons_succ]
    refine wpAnyH_done (by kernel_rfl) ?_ _
    obtain ⟨ix, OB, OE⟩ := S.fin m hgw (Nat.le_of_lt (Nat.lt_of_le_of_lt (Nat.le_succ _) hgw))
    have bel : Below w.heap.size w w5 := (B.trans (S.bel.mono (by omega))).trans (m.below (by omega) (B.trans (S.bel.mono (by omega))).size)
    obtain ⟨av, cv, rfl⟩ := S.is
    clear hC hC5 S m HRr HR HC B
    go_wp2_with fail
    refine bodyPost_ret (v := .tuple #[svV (some ⟨G, 0, none⟩) s'.bx.length s'.bx.length s'.busy s'.node s'.rank s'.now, .slice av N'.length cv]) ?_ rfl ⟨fun h => absurd h (by rw [hok.out]; simp), fun _ => ?_⟩
    · exact results_srE Tryz.results8 _ _ (w.heap.size + 1) _ _ rfl rfl h5 rfl
    · rw [hFS.out.1, hFS.out.2]
      exact ⟨p, G, _, _, av, cv, _, _, _, rfl, ix, OB, OE, bel⟩
end Go.Proofs.YtnhmecabppaboaaGreat

/- impl.ServerTick. -/

set_option linter.unusedVariables false
set_option linter.unusedSimpArgs false
namespace Go.Proofs.YtnhmecabppaboaaGreat
open Go.RowKit

theorem SfO.fin {s : Srv} {N : List Ev} {w W w' w5 : World} {e : Ending} {g : Nat} (h : SfO s N W e w') (b : Below w.heap.size w W) (m : Mid g (g + 1) w' w5) (hg : g < W.heap.size) (hw : w.heap.size ≤ g) : SfO s N w e w5 := by
  obtain ⟨p, G, L, H, a, c, P, LE, HE, he, ix, OB, OE, bel⟩ := h
  have hB : w.heap.size ≤ W.heap.size := by omega
  refine ⟨p, G, L, H, a, c, P, LE, HE, he, ⟨⟨Nat.le_trans hB ix.low.1, Nat.le_trans hB ix.low.2.1, fun j hj => Nat.le_trans hB (ix.low.2.2 j hj)⟩, ix.pG, ix.pb, ix.pe, ix.pv, ix.be, ix.Ge⟩, OB.kp (Y := fun q => q ≠ g) ⟨m.size, fun q hq hl => m.block q hl (by omega), m.os, m.tape, m.output⟩ (by show G ≠ g; have := ix.low.2.1; omega) (fun j hj q h1 h2 => by
    show q ≠ g
    have := ix.low.2.2 j hj
    omega), (OE.sep ownE_sep m (fun q hq => .inr (by have := (World.ownsRow.lt OE.own q hq).1; omega)) (fun j hj => .inr (by have := (OE.out j hj).1; omega))).lower hB, ?_⟩
  have b2 := Below.then2 b bel
  exact b2.trans (m.below hw b2.size)
/-- A tick is a run of one bit. -/
theorem tik_for {s : Srv} (h : srvB s = true) : forS s 1 = tikS s ∧ forE s 1 = tikE s := by
  have hn := (srvB_iff.1 h).2.2.2
  have e : forK s 1 = if s.now < 100000 then 1 else 0 := by
    unfold forK sK
    rw [if_pos (by omega)]
    split <;> simp <;> omega
  unfold forS forE tikS tikE
  rw [if_pos h, if_pos h, e]
  by_cases hl : s.now < 100000
  · rw [if_pos hl, if_pos hl, if_pos hl]; exact ⟨rfl, rfl⟩
  · rw [if_neg hl, if_neg hl, if_neg hl]; exact ⟨rfl, rfl⟩
set_option maxHeartbeats 32000000 in
set_option maxRecDepth 20000 in
/-- impl.ServerTick. -/
theorem implServerTick (R : Option Addr → Nat → Nat → Prop) (a : Option Addr) (X : List (List Frm)) (c : Nat) (busy nd rank now : Int) (w : World) (hd : Bxs R a X w) :
    Calls Tryz.prog 10 #[svV a X.length c busy nd rank now] w (SfR ⟨X, busy, nd, rank, now⟩ 1 w) := by
  obtain ⟨HC, HR, B⟩ := two_made w (svC a X.length c busy nd rank now) (svC none 0 0 0 0 0 0) 26 26
  have hz : ((w.alloc (.cells (svC a X.length c busy nd rank now) 26)).alloc (.cells (svC none 0 0 0 0 0 0) 26)).heap.size = w.heap.size + 2 := by simp
  go_enter Tryz.func10, Tryz.ntmps10
  go_upto_region 1 with fail
  replace hd := hd.below B
  generalize (w.alloc (.cells (svC a X.length c busy nd rank now) 26)).alloc (.cells (svC none 0 0 0 0 0 0) 26) = W at HC HR B hz hd ⊢
  have S0 : Sv w.heap.size a X.length c busy nd rank now w W := ⟨HC, B⟩
  go_wp2_with (refine S0.take rfl rfl rfl ?_)
  refine (implServerFor R a X c busy nd rank now 1 _ hd).mono ?_
  rintro e w1 ⟨hz0, ho0⟩
  cases hok : srvB ⟨X, busy, nd, rank, now⟩
  · have hz1 := hz0 hok
    clear hz0 ho0
    obtain ⟨rfl, b⟩ := hz1
    replace HR := blkV HR b
    replace B := Below.then2 B b
    clear HC S0 b hd
    have e0 := cell_of_row w1 (w.heap.size + 1) 0 _ _ _ HR
    have e1 := cell_of_row w1 (w.heap.size + 1) 1 _ _ _ HR
    have e2 := cell_of_row w1 (w.heap.size + 1) 2 _ _ _ HR
    have e3 := cell_of_row w1 (w.heap.size + 1) 3 _ _ _ HR
    have e4 := cell_of_row w1 (w.heap.size + 1) 4 _ _ _ HR
    have k0 := frozen_of_row w1 (w.heap.size + 1) 0 _ _ HR
    have k1 := frozen_of_row w1 (w.heap.size + 1) 1 _ _ HR
    have k2 := frozen_of_row w1 (w.heap.size + 1) 2 _ _ HR
    have k3 := frozen_of_row w1 (w.heap.size + 1) 3 _ _ HR
    have k4 := frozen_of_row w1 (w.heap.size + 1) 4 _ _ HR
    replace hok := Lib.hid hok
    go_wp2_with fail
    obtain ⟨h5, m⟩ := set5 HR (.slice none 0 0) (.int .i64 0) (.int .i64 0) (.int .i64 0) (.int .i64 0)
    clear e0 e1 e2 e3 e4 k0 k1 k2 k3 k4
    generalize World.setCell _ _ _ = w5 at h5 m ⊢
    refine bodyPost_ret (v := .tuple #[svV none 0 0 0 0 0 0, .slice none 0 0]) ?_ rfl ⟨fun _ => ⟨rfl, B.trans (m.below (by omega) B.size)⟩, fun h => absurd h (by rw [hok.out]; simp)⟩
    exact results_srE Tryz.results10 _ _ (w.heap.size + 1) _ _ rfl rfl h5 rfl
  · have ho := ho0 hok
    clear hz0 ho0
    have ho1 := ho
    obtain ⟨p, G, L, H, av, cv, P, LE, HE, rfl, -, -, -, b⟩ := ho1
    generalize hs' : forS ⟨X, busy, nd, rank, now⟩ 1 = s' at *
    generalize hN' : forE ⟨X, busy, nd, rank, now⟩ 1 = N' at *
    replace hs' := Lib.hid hs'
    replace hN' := Lib.hid hN'
    replace HR := blkV HR b
    clear HC S0 hd b
    have e0 := cell_of_row w1 (w.heap.size + 1) 0 _ _ _ HR
    have e1 := cell_of_row w1 (w.heap.size + 1) 1 _ _ _ HR
    have e2 := cell_of_row w1 (w.heap.size + 1) 2 _ _ _ HR
    have e3 := cell_of_row w1 (w.heap.size + 1) 3 _ _ _ HR
    have e4 := cell_of_row w1 (w.heap.size + 1) 4 _ _ _ HR
    have k0 := frozen_of_row w1 (w.heap.size + 1) 0 _ _ HR
    have k1 := frozen_of_row w1 (w.heap.size + 1) 1 _ _ HR
    have k2 := frozen_of_row w1 (w.heap.size + 1) 2 _ _ HR
    have k3 := frozen_of_row w1 (w.heap.size + 1) 3 _ _ HR
    have k4 := frozen_of_row w1 (w.heap.size + 1) 4 _ _ HR
    replace hok := Lib.hid hok
    replace ho := Lib.hid ho
    go_wp2_with fail
    obtain ⟨h5, m⟩ := set5 HR (.slice (some ⟨G, 0, none⟩) s'.bx.length s'.bx.length) (.int .i64 s'.busy) (.int .i64 s'.node) (.int .i64 s'.rank) (.int .i64 s'.now)
    clear e0 e1 e2 e3 e4 k0 k1 k2 k3 k4
    generalize World.setCell _ _ _ = w5 at h5 m ⊢
    refine bodyPost_ret (v := .tuple #[svV (some ⟨G, 0, none⟩) s'.bx.length s'.bx.length s'.busy s'.node s'.rank s'.now, .slice av N'.length cv]) ?_ rfl ⟨fun h => absurd h (by rw [hok.out]; simp), fun _ => ?_⟩
    · exact results_srE Tryz.results10 _ _ (w.heap.size + 1) _ _ rfl rfl h5 rfl
    · rw [hs'.out, hN'.out]
      exact ho.out.fin B m (by omega) (by omega)
end Go.Proofs.YtnhmecabppaboaaGreat
