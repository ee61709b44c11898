/- spec.l14Run, spec.ServerFor. -/
import Derived.Test.YtnhmecabppaboaaGreatM27
import Derived.Test.YtnhmecabppaboaaGreatM26
import Derived.Deep.AppendSrc
import Derived.Test.YtnhmecabppaboaaGreatM13
import Derived.Test.YtnhmecabppaboaaGreatM10

set_option linter.unusedVariables false
set_option linter.unusedSimpArgs false
set_option maxRecDepth 20000
namespace Go.Proofs.YtnhmecabppaboaaGreat
open Go.RowKit

theorem underE : Tryz.prog.underlying 29 = some (.slice 43) := Tryz.underlying29
/-- Nothing is appended: all stays. -/
theorem append_empty {B k : Nat} {xs : List Value} {v : Value} {w : World} (h : w.ownsRow B 43 7 v k xs) (ae : Option Addr) (ce : Nat) (ty : TypeId) :
    (Builtin.append_ #[29, 29] ty #[v, .slice ae 0 ce]).run Tryz.prog w = .ok v w := by
  obtain ⟨i0, hi1, hz0, hz1, hz2⟩ := info_parts infoE
  rcases h.2 with ⟨rfl, rfl⟩ | ⟨g, cap, cur, rfl, hb, hg, hle, hm, hcs, htk⟩
  · cases ae <;> simp [Builtin.append_, run_underlying underE, sizeOf, typeInfo, hi1, Builtin.lenOf, Builtin.firstCells, loadCells, loadCellsFrom]
  · cases ae with
    | none =>
      have := run_append_room_src (P := Tryz.prog) (w := w) 29 29 ty 43 i0 underE hi1 g 0 k cap (.slice none 0 ce) 0 [] (Src.ofNil w underE ce) (by omega) (by simp) (by simp)
      simpa [World.setCells] using this
    | some ad =>
      have := run_append_room_src (P := Tryz.prog) (w := w) 29 29 ty 43 i0 underE hi1 g 0 k cap (.slice (some ad) 0 ce) 0 [] (Src.ofSlice w underE ad 0 ce [] (by simp) (by simp) (by simp)) (by omega) (by simp) (by simp)
      simpa [World.setCells] using this
/-- At most one event is appended, as it lies in another row. -/
theorem wpList_appT {ops : Array Oper} {rest : List Oper} {o : Oper} {a : Act} {w : World} {Q : Exit → Act → World → Prop} (hgd : o.guard = none) (s x : Operand)
    (ho : o.op = .call { callee := .builtin .append, args := #[s, x], argTypes := #[29, 29] })
    (B B2 : Nat) (N T : List Ev) (P PE : Nat → EvP) (L H LE HE : Nat → Nat) (v : Value) (ae : Option Addr) (ce : Nat) (hs : a.eval s = v) (h : RowE OwnE B N.length N P L H v w) (hx : a.eval x = .slice ae T.length ce)
    (hT : RowE OwnE B2 T.length T PE LE HE (.slice ae T.length ce) w) (hT1 : T.length ≤ 1) (hk : N.length ≤ 1000000) (hB : B ≤ B2) (hlo : ∀ j, j < N.length → H j ≤ B2) (hg : ∀ g, v.ownBlock = some g → g < B2) (hBw : B ≤ w.heap.size)
    (K : ∀ v' P' L' H' w', RowE OwnE B (N ++ T).length (N ++ T) P' L' H' v' w' → w.grownBy w' v.ownBlock → (v'.ownBlock = v.ownBlock ∨ v'.ownBlock = some w.heap.size) → wpList Tryz.prog ops Q rest (a.put o.dst v') w') : wpList Tryz.prog ops Q (o :: rest) a w := by
  refine wpList_go hgd ?_
  match T, hT1, hx, hT, K with
  | [], _, hx, hT, K =>
    refine value_wp v w (by simp [execOp, ho, resolve, invoke, builtin, hs, hx, append_empty h.own ae ce, Result.andThen]) ?_
    have := K v P L H w (by rw [List.append_nil]; exact h) ⟨rfl, rfl, rfl, Nat.le_refl _, fun _ _ _ => rfl⟩ (.inl rfl)
    exact this
  | [e], _, hx, hT, K =>
    rcases hT.own.2 with ⟨_, h0⟩ | ⟨g1, cap1, cur1, e1, hb1, hg1, _, _, _, htk⟩
    · exact absurd h0 (by simp)
    · simp only [Value.slice.injEq, true_and] at e1
      obtain ⟨rfl, rfl⟩ := e1
      have hev : nthE (N ++ [e]) N.length = e := by have := nthE_app2 (L := N) (M := [e]) (j := 0); rw [Nat.add_zero] at this; exact this
      have hfl : flatE [e] PE 1 = (evC e (PE 0).1 (PE 0).2).toList := by rw [flatE_succ]; rfl
      have hm := hT.mem 0 (by simp)
      have ho0 := hT.out 0 (by simp)
      have he0 : nthE [e] 0 = e := rfl
      rw [he0] at hm
      have h' := h.more (N' := N ++ [e]) fun j hj => nthE_app hj
      obtain ⟨i0, hi1, hz0, hz1, hz2⟩ := info_parts infoE
      have hcells := World.ownsRow.cells hT.own (g := g1) rfl
      obtain ⟨v', w', hrun, r1, r2, -, r4⟩ := run_append_own_at (P := Tryz.prog) w B 29 o.type 43 i0 (.agg evZC) 7 72 Tryz.underlying29 hi1 hz0 hz1 hz2 rfl (by decide) v N.length (flatE (N ++ [e]) P N.length) h'.own ⟨g1, 0, none⟩ 1 ce (evC e (PE 0).1 (PE 0).2).toList rfl
        (fun j u hu => hcells j u (by rw [show [e].length = 1 from rfl, hfl]; exact hu)) (fun u hu => (Array.all_eq_true_iff_forall_mem.1 (evC_one e (PE 0).1 (PE 0).2)) u (by simpa using hu)) (by unfold maxLen; omega) (by omega) hBw
      have hR := h'.app ownE_sep (p := PE 0) (lo := LE 0) (hi := HE 0) (by rw [hev]; exact hm) (by omega) ho0.2.1 ho0.2.2 (fun j hj => by have := hlo j hj; omega) (fun g hg' => by have := hg g hg'; omega) (by rw [hev]; exact r1) r2 r4
      rw [show N.length + 1 = (N ++ [e]).length by simp] at hR
      exact value_wp v' w' (by simp [execOp, ho, resolve, invoke, builtin, hs, hx, hrun, Result.andThen]) (K v' _ _ _ w' hR r2 r4)
/-- A whole server is stored. -/
theorem wpList_putS {ops : Array Oper} {rest : List Oper} {o : Oper} {a : Act} {w : World} {Q : Exit → Act → World → Prop} (g : Nat) {a2 : Option Addr} {len c2 : Nat} {busy node rank now : Int} {x y : Operand} {C : Array Value} (hgd : o.guard = none) (hd : o.dst = none)
    (ho : o.op = .store 26 x y) (hx : a.eval x = .pointer (some ⟨g, 0, none⟩)) (hy : a.eval y = svV a2 len c2 busy node rank now)
    (hg : w.heap[g]? = some (.cells C 26 (0, 0))) (hC : C.size = 5) (k : wpList Tryz.prog ops Q rest (a.put none undef) (w.setRow g (svC a2 len c2 busy node rank now))) : wpList Tryz.prog ops Q (o :: rest) a w := by
  refine wpList_go hgd (wp_store_row 26 x y ho g (svC a2 len c2 busy node rank now) hx hy 26 C hg (by kernel_rfl) (hC.trans rfl) (by simp [Value.oneCell']) ?_)
  rw [hd]
  exact k
theorem tunS_right {s : Srv} (h : srvB s = true) : ∀ k, srvB (tunS s k) = true
  | 0 => h
  | k + 1 => tikS_right (tunS_right h k)
theorem tunE_len (s : Srv) : ∀ k, (tunE s k).length ≤ k
  | 0 => Nat.le_refl _
  | k + 1 => by
    rw [tunE, List.length_append]
    have := tunE_len s k
    have := tikE_len (tunS s k)
    omega
theorem tikS_len (s : Srv) : (tikS s).bx.length = s.bx.length := by
  unfold tikS
  split
  · exact bitS_len s
  · rfl
theorem tunS_len (s : Srv) : ∀ k, (tunS s k).bx.length = s.bx.length
  | 0 => rfl
  | k + 1 => by rw [tunS, tikS_len, tunS_len s k]
/-- What the model's run answers: the same row of boxes, events in a row of its own. -/
def RunO (s : Srv) (n : Nat) (G cap c : Nat) (L H : Nat → Nat) (w : World) (e : Ending) (w' : World) : Prop :=
  ∃ L' H' ae ce PE LE HE, e = .returned (.tuple #[svV (some ⟨G, 0, none⟩) (tunS s n).bx.length c (tunS s n).busy (tunS s n).node (tunS s n).rank (tunS s n).now, .slice ae (tunE s n).length ce]) ∧ BoxO False G cap (fun j => j < (tunS s n).bx.length) (tunS s n).bx L' H' w' ∧ (∀ j, (L' j = L j ∧ H' j = H j) ∨ w.heap.size ≤ L' j) ∧ Kp (fun q => q ≠ G) w w' ∧ RowE OwnE w.heap.size (tunE s n).length (tunE s n) PE LE HE (.slice ae (tunE s n).length ce) w'
/-- Between two rounds. -/
structure Rnd (g G cap c : Nat) (s : Srv) (m : Nat) (L H : Nat → Nat) (w0 : World) (v : Value) (w : World) : Prop where
  mdl : ∃ L' H', Mdl g G cap c (tunS s m) L' H' w0 w ∧ (∀ j, (L' j = L j ∧ H' j = H j) ∨ g + 2 ≤ L' j) ∧ ∀ q, v.ownBlock = some q → ∀ j, j < (tunS s m).bx.length → q < L' j ∨ H' j ≤ q
  ev : ∃ P LE HE, RowE OwnE (g + 2) (tunE s m).length (tunE s m) P LE HE v w
set_option maxHeartbeats 32000000 in
/-- spec.l14Run. -/
theorem specRunS (G cap c : Nat) (s : Srv) (L H : Nat → Nat) (n : Nat) (w : World) (HO : BoxO False G cap (fun j => j < s.bx.length) s.bx L H w) (hcap : s.bx.length ≤ cap) (hr : srvB s = true) (hn : n ≤ 5000) :
    Calls Tryz.prog 37 #[svV (some ⟨G, 0, none⟩) s.bx.length c s.busy s.node s.rank s.now, .int .i64 n] w (RunO s n G cap c L H w) := by
  have hGlt := HO.lt
  have hHlt := fun j (hj : j < s.bx.length) => (HO.out j hj).2.1
  obtain ⟨HC, HR, B⟩ := two_made w (svC (some ⟨G, 0, none⟩) s.bx.length c s.busy s.node s.rank s.now) (svC none 0 0 0 0 0 0) 26 26
  have hz : ((w.alloc (.cells (svC (some ⟨G, 0, none⟩) s.bx.length c s.busy s.node s.rank s.now) 26)).alloc (.cells (svC none 0 0 0 0 0 0) 26)).heap.size = w.heap.size + 2 := by simp
  go_enter Tryz.func37, Tryz.ntmps37
  go_upto_region 1 with fail
  have S : Mdl w.heap.size G cap c s L H w ((w.alloc (.cells (svC (some ⟨G, 0, none⟩) s.bx.length c s.busy s.node s.rank s.now) 26)).alloc (.cells (svC none 0 0 0 0 0 0) 26)) := ⟨HC, HR, HO.below B, Kp.ofBelow B, rfl, hGlt, hcap, fun j hj => .inl (hHlt j hj)⟩
  clear HC HR B
  generalize (w.alloc (.cells (svC (some ⟨G, 0, none⟩) s.bx.length c s.busy s.node s.rank s.now) 26)).alloc (.cells (svC none 0 0 0 0 0 0) 26) = W at S hz ⊢
  go_upto_region 2 with fail
  have RE : RowE OwnE (w.heap.size + 2) 0 [] (fun _ => (none, 0)) (fun _ => 0) (fun _ => 0) (.slice (some ⟨W.heap.size, 0, none⟩) 0 0) (W.alloc (.cells #[] 43)) := ⟨World.ownsRow_made (base := w.heap.size + 2) (e := 43) (size := 7) W #[] 0 (by omega) (Nat.zero_le _) rfl, fun j hj => absurd hj (Nat.not_lt_zero _), fun j hj => absurd hj (Nat.not_lt_zero _), fun i j _ hj => absurd hj (Nat.not_lt_zero _), fun j hj => absurd hj (Nat.not_lt_zero _), fun g hg => by cases hg; simp⟩
  replace S := S.below (below_more (Below.refl W.heap.size W) (.cells #[] 43))
  generalize hWE : W.alloc _ = W1 at S RE ⊢
  clear hWE
  rw [hz] at RE
  have hv0 : ∀ q, (Value.slice (some ⟨w.heap.size + 2, 0, none⟩) 0 0).ownBlock = some q → ∀ j, j < s.bx.length → q < L j ∨ H j ≤ q := fun q hq j hj => by
    simp only [Value.ownBlock, Option.some.injEq] at hq
    have := hHlt j hj
    omega
  replace hr := Lib.hid hr
  have hmx := Lib.hid hn
  clear hz hGlt hHlt HO
  go_loopw [1, 6] (fun b v wr => ∃ m k : Nat, m + k = n ∧ b = .int .i64 k ∧ Rnd w.heap.size G cap c s m L H w v wr) (fun b _ _ => (intOf b).toNat)
  case atStart => exact ⟨0, n, by omega, rfl, ⟨L, H, S, fun j => .inl ⟨rfl, rfl⟩, hv0⟩, _, _, _, RE⟩
  case round =>
    clear S RE hv0
    obtain ⟨m, k, hmk, rfl, ⟨L1, H1, S, hLH, hvb⟩, P1, LE1, HE1, RE⟩ := hrel
    have hlow := S.low
    have hvl : ∀ q, u6.ownBlock = some q → w.heap.size + 2 ≤ q ∧ q < wr.heap.size := fun q hq => World.ownsRow.lt RE.own q hq
    by_cases hk : k = 0
    · subst hk
      obtain rfl : m = n := by omega
      obtain ⟨ae, ce, rfl⟩ := RE.is
      go_wp2_with (first | (refine svTakeI S.arg rfl rfl rfl ?_) | (refine wpList_putS (w.heap.size + 1) rfl rfl rfl rfl rfl S.res rfl ?_))
      have m5 := mid_setRowS wr (w.heap.size + 1) (svC (some ⟨G, 0, none⟩) (tunS s m).bx.length c (tunS s m).busy (tunS s m).node (tunS s m).rank (tunS s m).now)
      have h5 := setRow_heap wr _ _ (svC (some ⟨G, 0, none⟩) (tunS s m).bx.length c (tunS s m).busy (tunS s m).node (tunS s m).rank (tunS s m).now) _ _ S.res
      generalize wr.setRow _ _ = w5 at m5 h5 ⊢
      refine bodyPost_ret (v := .tuple #[svV (some ⟨G, 0, none⟩) (tunS s m).bx.length c (tunS s m).busy (tunS s m).node (tunS s m).rank (tunS s m).now, .slice ae (tunE s m).length ce]) ?_ rfl ?_
      · exact results_srE Tryz.results37 _ _ (w.heap.size + 1) _ _ rfl rfl h5 rfl
      · refine ⟨L1, H1, ae, ce, P1, LE1, HE1, rfl, S.box.kp (Y := fun q => q ≠ w.heap.size + 1) ⟨m5.size, fun q hq hl => m5.block q hl (by omega), m5.os, m5.tape, m5.output⟩ (by show G ≠ w.heap.size + 1; omega) (fun j hj q h1 h2 => by
          show q ≠ w.heap.size + 1
          have := hlow.2.2.2 j hj
          omega), fun j => (hLH j).imp id fun h => by omega, S.kp.mid m5 (by omega), (RE.sep ownE_sep m5 (fun q hq => .inr (by have := hvl q hq; omega)) (fun j hj => .inr (by have := (RE.out j hj).1; omega))).lower (by omega)⟩
    · have hk1 : 0 < k := Nat.pos_of_ne_zero hk
      have hk2 : decide (0 < k) = true := decide_eq_true hk1
      have hT := specTickS G cap c (tunS s m) L1 H1 wr S.box hlow.2.2.1 (tunS_right hr.out m)
      go_wp2_with (refine svTakeI S.arg rfl rfl rfl ?_)
      refine hT.mono ?_
      rintro e w3 ⟨L2, H2, ae, ce, PE, LE, HE, rfl, O3, hLH2, K3, RE2⟩
      have hT1 := tikE_len (tunS s m)
      have hNl := tunE_len s m
      have hl2 := Lib.hid (tikS_len (tunS s m))
      have e1 := Lib.hid (show tunS s (m + 1) = tikS (tunS s m) from rfl)
      have e2 := Lib.hid (show tunE s (m + 1) = tunE s m ++ tikE (tunS s m) from rfl)
      have HA := S.arg
      have HR := S.res
      have hglt := (Array.getElem?_eq_some_iff.1 HA).1
      have hrlt := (Array.getElem?_eq_some_iff.1 HR).1
      have m3 : Mid G (G + 1) wr w3 := ⟨K3.os, K3.tape, K3.output, K3.size, fun q hl hc => K3.block q (by show q ≠ G; omega) hl⟩
      have hKP := S.kp.trans K3
      have hRo := fun j hj => RE.out j hj
      replace HA := (m3.block _ hglt (by omega)).trans HA
      replace HR := (m3.block _ hrlt (by omega)).trans HR
      replace RE := RE.sep ownE_sep m3 (fun q hq => .inr (by have := hvl q hq; omega)) (fun j hj => .inr (by have := (hRo j hj).1; omega))
      have hsz3 := m3.size
      clear S hT m3 K3
      generalize tikS (tunS s m) = s2 at *
      generalize tikE (tunS s m) = N2 at *
      obtain ⟨HX, b⟩ := one_sv w3 (svC (some ⟨G, 0, none⟩) s2.bx.length c s2.busy s2.node s2.rank s2.now) 26
      have hO3 := fun j hj => O3.out j hj
      replace HA := blkV HA b
      replace HR := blkV HR b
      replace RE := RE.below ownE_sep b
      replace RE2 := RE2.below ownE_sep b
      replace O3 := O3.below b
      replace hKP := hKP.trans (Kp.ofBelow b)
      have hsz4 := b.size
      have hgx : w3.heap.size < (w3.alloc (.cells (svC (some ⟨G, 0, none⟩) s2.bx.length c s2.busy s2.node s2.rank s2.now) 26)).heap.size := by simp
      clear b
      go_upto_region 5 with fail
      generalize w3.alloc _ = W3 at HX HA HR RE RE2 O3 hKP hsz4 hgx ⊢
      go_upto_region 6 with (first | (refine svTakeI HX rfl rfl rfl ?_) | (refine wpList_putS w.heap.size rfl rfl rfl rfl rfl HA rfl ?_))
      have m4 := mid_setRowS W3 w.heap.size (svC (some ⟨G, 0, none⟩) s2.bx.length c s2.busy s2.node s2.rank s2.now)
      have HA4 := setRow_heap W3 _ _ (svC (some ⟨G, 0, none⟩) s2.bx.length c s2.busy s2.node s2.rank s2.now) _ _ HA
      have hgl := (Array.getElem?_eq_some_iff.1 HA).1
      have hrl := (Array.getElem?_eq_some_iff.1 HR).1
      replace HR := (m4.block _ hrl (by omega)).trans HR
      replace RE := RE.sep ownE_sep m4 (fun q hq => .inr (by have := hvl q hq; omega)) (fun j hj => .inr (by have := (hRo j hj).1; omega))
      replace RE2 := RE2.sep ownE_sep m4 (fun q hq => .inr (by have := (World.ownsRow.lt RE2.own q hq).1; omega)) (fun j hj => .inr (by have := (RE2.out j hj).1; omega))
      have hin := Lib.hid (show ∀ j, j < s2.bx.length → H2 j ≤ w.heap.size ∨ w.heap.size + 2 ≤ L2 j from fun j hj => by
        rcases hLH2 j with ⟨e3, e4⟩ | h
        · rw [e3, e4]; exact hlow.2.2.2 j (by have := hl2.out; omega)
        · right; omega)
      replace O3 := O3.kp (w' := W3.setRow w.heap.size (svC (some ⟨G, 0, none⟩) s2.bx.length c s2.busy s2.node s2.rank s2.now)) (Y := fun q => q ≠ w.heap.size) ⟨m4.size, fun q hq hl => m4.block q hl (by omega), m4.os, m4.tape, m4.output⟩ (by show G ≠ w.heap.size; omega) (fun j hj q h1 h2 => by
        show q ≠ w.heap.size
        have := hin.out j hj
        omega)
      replace hKP := hKP.mid m4 (Nat.le_refl _)
      have hsz5 := m4.size
      clear m4 HA HX
      generalize W3.setRow _ _ = W4 at HA4 HR RE RE2 O3 hKP hsz5 ⊢
      have hvw : ∀ q, u6.ownBlock = some q → q < wr.heap.size := fun q hq => (hvl q hq).2
      have hHo : ∀ j, j < (tunE s m).length → HE1 j ≤ wr.heap.size := fun j hj => (hRo j hj).2.2
      have hm1 : (tunE s m).length ≤ 1000000 := by have := hmx.out; omega
      have hBw : w.heap.size + 2 ≤ W4.heap.size := by omega
      have hB2 : w.heap.size + 2 ≤ wr.heap.size := by omega
      go_wp2_with (refine wpList_appT rfl (.tmp 20) (.tmp 21) rfl (w.heap.size + 2) wr.heap.size (tunE s m) N2 P1 PE LE1 HE1 LE HE u6 ae ce rfl RE rfl RE2 hT1 hm1 hB2 hHo hvw hBw ?_; intro v' P' L' H' w5 R5 g5 r4)
      have hog : ∀ q, u6.ownBlock = some q → w.heap.size + 2 ≤ q ∧ q < wr.heap.size := hvl
      have hYb : ∀ q, q < w.heap.size + 2 → some q ≠ u6.ownBlock := fun q hq e => by have := hog q e.symm; omega
      replace HA4 := (g5.block _ (Array.getElem?_eq_some_iff.1 HA4).1 (hYb _ (by omega))).trans HA4
      replace HR := (g5.block _ (Array.getElem?_eq_some_iff.1 HR).1 (hYb _ (by omega))).trans HR
      have hap : ∀ q, u6.ownBlock = some q → ∀ j, j < s2.bx.length → q < L2 j ∨ H2 j ≤ q := fun q hq j hj => by
        rcases hLH2 j with ⟨e3, e4⟩ | h
        · rw [e3, e4]; exact hvb q hq j (by have := hl2.out; omega)
        · left; have := hog q hq; omega
      have O5 := O3.kp (w' := w5) (Y := fun q => some q ≠ u6.ownBlock) ⟨g5.size, fun q hq hl => g5.block q hl hq, g5.os, g5.tape, g5.output⟩ (hYb G (by omega)) (fun j hj q h1 h2 e => by
        have := hap q e.symm j hj
        omega)
      have hKP5 : Kp (fun q => q ≠ G) w w5 := ⟨Nat.le_trans hKP.size g5.size, fun q hq hl => (g5.block q (Nat.lt_of_lt_of_le hl hKP.size) (hYb q (by omega))).trans (hKP.block q hq hl), g5.os.trans hKP.os, g5.tape.trans hKP.tape, g5.output.trans hKP.output⟩
      clear O3 hKP RE RE2
      go_roundw
      case rel =>
        refine ⟨m + 1, k - 1, by omega, by go_num, ⟨L2, H2, ⟨by rw [e1.out]; exact HA4, HR, by rw [e1.out]; exact O5, hKP5, rfl, hlow.2.1, by rw [e1.out, hl2.out]; exact hlow.2.2.1, by rw [e1.out]; exact hin.out⟩, fun j => ?_, fun q hq j hj => ?_⟩, P', L', H', by rw [e2.out]; exact R5⟩
        · rcases hLH2 j with ⟨e3, e4⟩ | h
          · rw [e3, e4]; exact hLH j
          · right; omega
        · rw [e1.out] at hj
          rcases r4 with e | e
          · rw [e] at hq; exact hap q hq j hj
          · rw [e] at hq
            cases hq
            right
            have := (hO3 j hj).2.1
            omega
      case measure => simp [intOf]; omega
set_option maxHeartbeats 32000000 in
/-- spec.ServerFor. -/
theorem specServerFor (R : Option Addr → Nat → Nat → Prop) (a : Option Addr) (X : List (List Frm)) (c : Nat) (busy nd rank now bits : Int) (w : World) (hd : Bxs R a X w) :
    Calls Tryz.prog 9 #[svV a X.length c busy nd rank now, .int .i64 bits] w (MtR (forS ⟨X, busy, nd, rank, now⟩ bits) (forE ⟨X, busy, nd, rank, now⟩ bits) w) := by
  obtain ⟨HC, HR, B⟩ := two_made w (svC a X.length c busy nd rank now) (svC none 0 0 0 0 0 0) 26 26
  have hz : ((w.alloc (.cells (svC a X.length c busy nd rank now) 26)).alloc (.cells (svC none 0 0 0 0 0 0) 26)).heap.size = w.heap.size + 2 := by simp
  have hF0 := Lib.hid (show forS ⟨X, busy, nd, rank, now⟩ bits = (if srvB ⟨X, busy, nd, rank, now⟩ = true then runS ⟨X, busy, nd, rank, now⟩ (forK ⟨X, busy, nd, rank, now⟩ bits) else srZ) from rfl)
  have hE0 := Lib.hid (show forE ⟨X, busy, nd, rank, now⟩ bits = (if srvB ⟨X, busy, nd, rank, now⟩ = true then runF ⟨X, busy, nd, rank, now⟩ (forK ⟨X, busy, nd, rank, now⟩ bits) else []) from rfl)
  generalize hs2 : forS ⟨X, busy, nd, rank, now⟩ bits = s2 at hF0 ⊢
  generalize hN2 : forE ⟨X, busy, nd, rank, now⟩ bits = N2 at hE0 ⊢
  clear hs2 hN2
  go_enter Tryz.func9, Tryz.ntmps9
  go_upto_region 1 with fail
  replace hd := hd.below B
  generalize (w.alloc (.cells (svC a X.length c busy nd rank now) 26)).alloc (.cells (svC none 0 0 0 0 0 0) 26) = W at HC HR B hz hd ⊢
  go_wp2_with (refine svTakeI HC rfl rfl rfl ?_)
  refine (specServerOk R a X c busy nd rank now _ hd).mono ?_
  rintro e w1 ⟨rfl, b⟩
  replace HC := blkW HC b
  replace HR := blkW HR b
  replace B := Below.then2 B b
  replace hd := hd.below b
  have hz1 : w.heap.size + 2 ≤ w1.heap.size := by have := b.size; omega
  clear b hz
  cases hok : srvB ⟨X, busy, nd, rank, now⟩
  · have bA := below_more (Below.refl w1.heap.size w1) (.cells #[] 43)
    replace HR := blkW HR bA
    replace B := Below.then2 B bA
    replace hok := Lib.hid hok
    go_wp2_with (refine wpList_putS (w.heap.size + 1) rfl rfl rfl rfl rfl HR rfl ?_)
    have m := mid_setRowS (w1.alloc (.cells #[] 43)) (w.heap.size + 1) (svC none 0 0 0 0 0 0)
    have h5 := setRow_heap _ _ _ (svC none 0 0 0 0 0 0) _ _ HR
    generalize World.setRow _ _ _ = w5 at m h5 ⊢
    refine bodyPost_ret (v := .tuple #[svV none 0 0 0 0 0 0, .slice (some ⟨w1.heap.size, 0, none⟩) 0 0]) ?_ rfl ?_
    · exact results_srE Tryz.results9 _ _ (w.heap.size + 1) _ _ rfl rfl h5 rfl
    · obtain rfl : s2 = srZ := by rw [hF0.out, hok.out]; rfl
      obtain rfl : N2 = [] := by rw [hE0.out, hok.out]; rfl
      exact ⟨none, 0, some ⟨w1.heap.size, 0, none⟩, 0, rfl, Bxs.nil _ _, ⟨by simp, fun j hj => absurd hj (Nat.not_lt_zero _)⟩, B.trans (m.below (by omega) B.size)⟩
  · have hS := srvB_iff.1 hok
    have hbx : boxesB X = true := hS.1
    have hF1 := Lib.hid (show s2 = runS ⟨X, busy, nd, rank, now⟩ (forK ⟨X, busy, nd, rank, now⟩ bits) by rw [hF0.out, if_pos hok])
    have hE1 := Lib.hid (show N2 = runF ⟨X, busy, nd, rank, now⟩ (forK ⟨X, busy, nd, rank, now⟩ bits) by rw [hE0.out, if_pos hok])
    have htr := Lib.hid (fun n => tun_run (s := ⟨X, busy, nd, rank, now⟩) hS.2.2.2.2.1 n)
    replace hS := Lib.hid hS
    replace hok := Lib.hid hok
    clear hF0 hE0
    go_wp2_with fail
    refine (l1InR bits 0 5000 _).mono ?_
    rintro e w1' ⟨he, rfl⟩
    cases hin : rng bits 0 5000 with
    | false =>
      rw [hin] at he
      subst he
      have hk0 : forK ⟨X, busy, nd, rank, now⟩ bits = 0 := by
        unfold forK
        rw [if_neg]
        intro h
        rw [rng_iff.2 h] at hin
        cases hin
      have hs2 := Lib.hid (show s2 = ⟨X, busy, nd, rank, now⟩ by rw [hF1.out, hk0]; rfl)
      have hN2 := Lib.hid (show N2 = [] by rw [hE1.out, hk0]; rfl)
      clear hin hk0 hF1 hE1 htr
      go_wp2_with (refine svTakeI HC rfl rfl rfl ?_)
      refine (specCopySrv R a X c busy nd rank now _ hd hbx).mono ?_
      rintro e w2 ⟨G, cap, cc, L, H, rfl, O, hF, hcap, b⟩
      dsimp only at O hF hcap
      replace HR := blkW HR b
      replace B := Below.then2 B b
      have bA := below_more (Below.refl w2.heap.size w2) (.cells #[] 43)
      have hw2 : w1.heap.size ≤ w2.heap.size := b.size
      replace HR := blkW HR bA
      replace B := Below.then2 B bA
      replace O := O.below bA
      have hG := hF.1
      clear b bA HC hd
      go_wp2_with (refine wpList_putS (w.heap.size + 1) rfl rfl rfl rfl rfl HR rfl ?_)
      have m := mid_setRowS (w2.alloc (.cells #[] 43)) (w.heap.size + 1) (svC (some ⟨G, 0, none⟩) X.length cc busy nd rank now)
      have h5 := setRow_heap _ _ _ (svC (some ⟨G, 0, none⟩) X.length cc busy nd rank now) _ _ HR
      generalize World.setRow _ _ _ = w5 at m h5 ⊢
      refine bodyPost_ret (v := .tuple #[svV (some ⟨G, 0, none⟩) X.length cc busy nd rank now, .slice (some ⟨w2.heap.size, 0, none⟩) 0 0]) ?_ rfl ?_
      · exact results_srE Tryz.results9 _ _ (w.heap.size + 1) _ _ rfl rfl h5 rfl
      · have e1 := hs2.out
        have e2 := hN2.out
        subst e1
        subst e2
        have O5 := O.kp (w' := w5) (Y := fun q => q ≠ w.heap.size + 1) ⟨m.size, fun q hq hl => m.block q hl (by omega), m.os, m.tape, m.output⟩ (by show G ≠ w.heap.size + 1; omega) (fun j hj q h1 h2 => by
          show q ≠ w.heap.size + 1
          have h4 := hF.2 j hj
          omega)
        exact ⟨some ⟨G, 0, none⟩, cc, some ⟨w2.heap.size, 0, none⟩, 0, rfl, O5.bxs (by have := (boxesB_iff.1 hbx).2.1; omega) (fun j hj => by have := (box_small hbx hj).1; omega), ⟨by simp, fun j hj => absurd hj (Nat.not_lt_zero _)⟩, B.trans (m.below (by omega) B.size)⟩
    | true =>
      rw [hin] at he
      subst he
      have hin2 := rng_iff.1 hin
      obtain ⟨n, rfl⟩ := Int.eq_ofNat_of_zero_le hin2.1
      have hn5 : n ≤ 5000 := by omega
      have hk0 : forK ⟨X, busy, nd, rank, now⟩ (n : Int) = sK ⟨X, busy, nd, rank, now⟩ n := by
        unfold forK
        rw [if_pos hin2, Int.toNat_natCast]
      have hs2 := Lib.hid (show tunS ⟨X, busy, nd, rank, now⟩ n = s2 by rw [hF1.out, hk0, (htr.out n).1])
      have hN2 := Lib.hid (show tunE ⟨X, busy, nd, rank, now⟩ n = N2 by rw [hE1.out, hk0, (htr.out n).2])
      have hr3 := Lib.hid (show srvB s2 = true by rw [← hs2.out]; exact tunS_right hok.out n)
      have hl3 := Lib.hid (show s2.bx.length = X.length by rw [← hs2.out]; exact tunS_len _ n)
      have hE3 := Lib.hid (show N2.length ≤ 5000 by rw [← hN2.out]; exact Nat.le_trans (tunE_len _ n) hn5)
      have HS := Lib.hid (fun G cap c L H w h1 h2 => specRunS G cap c ⟨X, busy, nd, rank, now⟩ L H n w h1 h2 hok.out hn5)
      clear hin hin2 hk0 hF1 hE1 htr
      go_wp2_with (refine svTakeI HC rfl rfl rfl ?_)
      refine (specCopySrv R a X c busy nd rank now _ hd hbx).mono ?_
      rintro e w2 ⟨G, cap, cc, L, H, rfl, O, hF, hcap, b⟩
      dsimp only at O hF hcap
      replace HR := blkW HR b
      have hG := hF.1
      have hsz := b.size
      clear HC hd
      go_wp2_with fail
      refine (HS.out G cap cc L H w2 O hcap).mono ?_
      rintro e w3 ⟨L', H', ae, ce, PE, LE, HE, rfl, O3, hLH, K3, RE⟩
      have e1 := hs2.out
      have e2 := hN2.out
      rw [e1] at O3
      rw [e2] at RE
      rw [e1, e2]
      clear e1 e2 hs2 hN2 HS O
      replace HR := (K3.block (w.heap.size + 1) (by show w.heap.size + 1 ≠ G; omega) (Array.getElem?_eq_some_iff.1 HR).1).trans HR
      have bg : Below w.heap.size w w3 := (Below.then2 B b).trans ⟨K3.os, K3.tape, K3.output, K3.size, fun k hk => K3.block k (by show k ≠ G; omega) (by have := B.size; omega)⟩
      go_wp2_with (refine wpList_putS (w.heap.size + 1) rfl rfl rfl rfl rfl HR rfl ?_)
      have m := mid_setRowS w3 (w.heap.size + 1) (svC (some ⟨G, 0, none⟩) s2.bx.length cc s2.busy s2.node s2.rank s2.now)
      have h5 := setRow_heap _ _ _ (svC (some ⟨G, 0, none⟩) s2.bx.length cc s2.busy s2.node s2.rank s2.now) _ _ HR
      generalize World.setRow _ _ _ = w5 at m h5 ⊢
      have hb3 := (srvB_iff.1 hr3.out).1
      have O5 := O3.kp (w' := w5) (Y := fun q => q ≠ w.heap.size + 1) ⟨m.size, fun q hq hl => m.block q hl (by omega), m.os, m.tape, m.output⟩ (by show G ≠ w.heap.size + 1; omega) (fun j hj q h1 h2 => by
        show q ≠ w.heap.size + 1
        have h4 := hF.2 j (by have := hl3.out; omega)
        rcases hLH j with ⟨e, -⟩ | e <;> omega)
      have RE5 := RE.sep ownE_sep m (fun q hq => .inr (by have := (World.ownsRow.lt RE.own q hq).1; omega)) (fun j hj => .inr (by have := (RE.out j hj).1; omega))
      refine bodyPost_ret (v := .tuple #[svV (some ⟨G, 0, none⟩) s2.bx.length cc s2.busy s2.node s2.rank s2.now, .slice ae N2.length ce]) ?_ rfl ?_
      · exact results_srE Tryz.results9 _ _ (w.heap.size + 1) _ _ rfl rfl h5 rfl
      · exact ⟨some ⟨G, 0, none⟩, cc, ae, ce, rfl, O5.bxs (by have := (boxesB_iff.1 hb3).2.1; omega) (fun j hj => by have := (box_small hb3 hj).1; omega), RE5.evo.evs (Nat.le_trans hE3.out (by decide)), bg.trans (m.below (by omega) bg.size)⟩
end Go.Proofs.YtnhmecabppaboaaGreat

/- A region that draws its order and ends in a store into what it has read: S holds ahead of operation z (the store), which waits for every load. Draws of servers: what stands meanwhile. -/

set_option linter.unusedVariables false
set_option linter.unusedSimpArgs false
set_option maxRecDepth 20000
namespace Go.Proofs.YtnhmecabppaboaaGreat
open Go.RowKit

section
variable {P : Program} {md : Region.Mode} {ops : Array Oper} {Q : Exit → Act → World → Prop} {S T : World → Prop} {z fuel : Nat} {listed : Array Bool} {a : Act} {w : World} {oi : Oper}
/-- Whatever order is picked from here on; S holds behind every operation but z. -/
def AnyU (P : Program) (md : Region.Mode) (ops : Array Oper) (Q : Exit → Act → World → Prop) (S : World → Prop) (z : Nat) : Nat → Array Bool → Act → World → Prop
  | 0, listed, a, w => Region.ready md ops listed = [] ∧ Q .normal a w
  | fuel + 1, listed, a, w => (Region.ready md ops listed = [] → Q .normal a w) ∧ ∀ i ∈ Region.ready md ops listed, wpOp P ops Q i (fun a' w' => ((listed.setIfInBounds i true).getD z true = false → S w') ∧ AnyU P md ops Q S z fuel (listed.setIfInBounds i true) a' w') a w
theorem AnyU.any : ∀ (fuel : Nat) (listed : Array Bool) (a : Act) (w : World), AnyU P md ops Q S z fuel listed a w → wpAny P md ops Q fuel listed a w
  | 0, _, _, _, h => h
  | fuel + 1, _, _, _, h => ⟨h.1, fun i hi => wpOp_mono (fun a' w' h' => AnyU.any fuel _ a' w' h'.2) (h.2 i hi)⟩
/-- Operation z waits for i. -/
def waitsFor (md : Region.Mode) (ops : Array Oper) (z i : Nat) : Bool := ((ops[z]?.map fun o => o.after.toList.any fun e => Region.binds md e && e.on == i)).getD false
theorem waits_not {i j : Nat} (hz : waitsFor md ops z i = true) (hr : (Region.ready md ops listed).contains i = true) (hj : j ∈ Region.ready md ops listed) : j ≠ z := by
  rintro rfl
  obtain ⟨hjun, oj, hoj, hall⟩ := mem_ready.1 hj
  unfold waitsFor at hz
  rw [hoj] at hz
  simp only [Option.map_some, Option.getD_some, List.any_eq_true, Bool.and_eq_true, beq_iff_eq] at hz
  obtain ⟨e, he, hb, heq⟩ := hz
  have h1 := hall e (by simpa using he) hb
  have h0 := (mem_ready.1 (show i ∈ Region.ready md ops listed by simpa using hr)).1
  rw [heq] at h1
  rcases Nat.lt_or_ge i listed.size with h' | h'
  · simp [h'] at h0 h1; rw [h0] at h1; cases h1
  · simp [Array.getElem?_eq_none h'] at h1
theorem unl {i : Nat} (h : (listed.setIfInBounds i true).getD z true = false) : listed.getD z true = false := by
  by_cases hi : i = z
  · subst hi
    exfalso
    by_cases hl : i < listed.size
    · simp [Array.getD, hl] at h
    · simp [Array.getD, hl] at h
  · rw [getD_set_ne true hi] at h; exact h
/-- An operation that yields its value in every world that meets T may come first: T is S, and z waits for it; or T is every world's. -/
theorem anyU_first {i : Nat} {v : Value} (k : Bool) (hi : ops[i]? = some oi) (hiz : i ≠ z) (hsel : ∀ (j : Nat) (o : Oper) cs b, ops[j]? = some o → o.op ≠ .select cs b)
    (hQ : ∀ c a w, Q (.panic c) (a.put oi.dst v) w → Q (.panic c) a w) (hT : k = true → (∀ w, S w → T w) ∧ waitsFor md ops z i = true) (hT2 : k = false → ∀ w, T w) :
    ∀ (fuel : Nat) (listed : Array Bool) (a : Act) (w : World),
      (∀ j oj, ops[j]? = some oj → j ≠ i → listed.getD j true = false → (∀ e ∈ oj.after, Region.binds md e = true → e.on ≠ i) → oi.apart ops oj = true) →
      i ∈ Region.ready md ops listed → YieldsIf P ops T oi v a → (k = true → listed.getD z true = false) → (listed.getD z true = false → S w) →
      AnyU P md ops Q S z fuel (listed.setIfInBounds i true) (a.put oi.dst v) w → AnyU P md ops Q S z (fuel + 1) listed a w := by
  intro fuel
  induction fuel with
  | zero =>
    intro listed a w _ hr hy hu hS H
    have hw : T w := by
      cases k with
      | true => exact (hT rfl).1 w (hS (hu rfl))
      | false => exact hT2 rfl w
    refine ⟨fun h => (by rw [h] at hr; cases hr), fun j hj => ?_⟩
    by_cases hji : j = i
    · subst hji; exact hy.wpOp hi hw ⟨fun h => hS (unl h), H⟩
    · have := ready_mono hj hji
      rw [H.1] at this
      cases this
  | succ fuel ih =>
    intro listed a w hfree hr hy hu hS H
    have hw : T w := by
      cases k with
      | true => exact (hT rfl).1 w (hS (hu rfl))
      | false => exact hT2 rfl w
    refine ⟨fun h => (by rw [h] at hr; cases hr), fun j hj => ?_⟩
    by_cases hji : j = i
    · subst hji; exact hy.wpOp hi hw ⟨fun h => hS (unl h), H⟩
    · have h1 := H.2 j (ready_mono hj hji)
      obtain ⟨hjun, oj, hoj, hall⟩ := mem_ready.1 hj
      have hnot : ∀ e ∈ oj.after, Region.binds md e = true → e.on ≠ i := fun e he hb heq => by
        have h1 := hall e he hb
        have h0 := (mem_ready.1 hr).1
        rw [heq] at h1
        rcases Nat.lt_or_ge i listed.size with h' | h'
        · simp [h'] at h0 h1; rw [h0] at h1; cases h1
        · simp [Array.getElem?_eq_none h'] at h1
      have h2 := wpOp_putIf hoj (hfree j oj hoj hji hjun hnot) (fun cs b => hsel i oi cs b hi) (fun cs b => hsel j oj cs b hoj) hQ hy h1
      have hfree' : ∀ k ok, ops[k]? = some ok → k ≠ i → (listed.setIfInBounds j true).getD k true = false →
          (∀ e ∈ ok.after, Region.binds md e = true → e.on ≠ i) → oi.apart ops ok = true := fun k ok hk hki hun hno => by
        refine hfree k ok hk hki ?_ hno
        by_cases hjk : j = k
        · subst hjk; exact hjun
        · rw [getD_set_ne true hjk] at hun; exact hun
      have hu' : k = true → (listed.setIfInBounds j true).getD z true = false := fun hk => by
        rw [getD_set_ne true (waits_not (hT hk).2 (by simpa using hr) hj)]
        exact hu hk
      have hback : (listed.setIfInBounds j true).getD z true = false → ((listed.setIfInBounds i true).setIfInBounds j true).getD z true = false := fun h => by
        rw [← Array.setIfInBounds_comm _ _ hji, getD_set_ne true hiz]
        exact h
      refine wpOp_mono (fun a' w' h3 => ⟨fun h => h3.2.1 (hback h), ih (listed.setIfInBounds j true) a' w' hfree' (ready_mono hr (Ne.symm hji)) h3.1 hu' (fun h => h3.2.1 (hback h)) ?_⟩) h2
      rw [Array.setIfInBounds_comm _ _ hji]
      exact h3.2.2
/-- What only reads (under S; z waits for it) is taken first. -/
theorem u_take (i d : Nat) (v : Value) (hi : ops.toList[i]? = some oi) (hd : oi.dst = some d) (hs : Region.noSelect ops = true) (hf : Region.free md ops listed i = true) (hr : (Region.ready md ops listed).contains i = true)
    (hiz : Nat.beq i z = false) (hz : waitsFor md ops z i = true) (hu : listed.getD z true = false)
    (hQ : ∀ c a w, Q (.panic c) (a.put (some d) v) w → Q (.panic c) a w) (hw : Region.wanted oi (yielded ops a.tmps) = true) (hx : ∀ u, S u → (execOp a.eval oi).run P u = .ok (.value v) u) (hS : S w)
    (h : AnyU P md ops Q S z fuel (listed.setIfInBounds i true) (a.put (some d) v) w) : AnyU P md ops Q S z (fuel + 1) listed a w :=
  anyU_first (T := S) true (op_at hi) (fun e => by subst e; simp at hiz) (Region.noSelect_spec hs) (by rw [hd]; exact hQ) (fun _ => ⟨fun _ h => h, hz⟩) (fun h => nomatch h) fuel listed a w (Region.free_spec (op_at hi) hf) (by simpa using hr) (.inl ⟨hw, hx⟩) (fun _ => hu) (fun _ => hS) (by rw [hd]; exact h)
/-- What yields in every world. -/
theorem u_pure (i d : Nat) (v : Value) (hi : ops.toList[i]? = some oi) (hd : oi.dst = some d) (hs : Region.noSelect ops = true) (hf : Region.free md ops listed i = true) (hr : (Region.ready md ops listed).contains i = true)
    (hiz : Nat.beq i z = false)
    (hQ : ∀ c a w, Q (.panic c) (a.put (some d) v) w → Q (.panic c) a w) (hw : Region.wanted oi (yielded ops a.tmps) = true) (hx : ∀ u, (execOp a.eval oi).run P u = .ok (.value v) u) (hS : listed.getD z true = false → S w)
    (h : AnyU P md ops Q S z fuel (listed.setIfInBounds i true) (a.put (some d) v) w) : AnyU P md ops Q S z (fuel + 1) listed a w :=
  anyU_first (T := fun _ => True) false (op_at hi) (fun e => by subst e; simp at hiz) (Region.noSelect_spec hs) (by rw [hd]; exact hQ) (fun h => nomatch h) (fun _ _ => trivial) fuel listed a w (Region.free_spec (op_at hi) hf) (by simpa using hr) (.inl ⟨hw, fun u _ => hx u⟩) (fun h => nomatch h) hS (by rw [hd]; exact h)
theorem u_op (i : Nat) (hi : ops[i]? = some oi) (hr : Region.ready md ops listed = [i]) (hw : Region.wanted oi (yielded ops a.tmps) = true)
    (h : oi.wp P a w (fun a' w' => ((listed.setIfInBounds i true).getD z true = false → S w') ∧ AnyU P md ops Q S z fuel (listed.setIfInBounds i true) a' w') Q) : AnyU P md ops Q S z (fuel + 1) listed a w := by
  refine ⟨fun h0 => (by rw [hr] at h0; cases h0), fun j hj => ?_⟩
  rw [hr] at hj
  obtain rfl : j = i := by simpa using hj
  unfold wpOp
  simp only [hi]
  rw [if_pos hw]
  exact .inl h
theorem u_call (i d : Nat) (f : FuncId) (args : Array Value) (hi : ops.toList[i]? = some oi) (hd : oi.dst = some d) (hr : Region.ready md ops listed = [i]) (hw : Region.wanted oi (yielded ops a.tmps) = true) (hx : (execOp a.eval oi).run P w = .ok (.enter f args) w)
    (h : Calls P f args w fun e w' => ∃ v, e = .returned v ∧ S w' ∧ AnyU P md ops Q S z fuel (listed.setIfInBounds i true) (a.put (some d) v) w') : AnyU P md ops Q S z (fuel + 1) listed a w := by
  refine u_op i (op_at hi) hr hw (call_wp f args hx (h.mono ?_))
  rintro e w' ⟨v, rfl, hS, h⟩
  rw [hd]
  exact ⟨v, rfl, fun _ => hS, h⟩
theorem u_done (hr : Region.ready md ops listed = []) (h : Q .normal a w) : ∀ fuel, AnyU P md ops Q S z fuel listed a w
  | 0 => ⟨hr, h⟩
  | _ + 1 => ⟨fun _ => h, by rw [hr]; simp⟩
theorem region_u (S : World → Prop) (z : Nat) {id : Nat} (hm : P.follows .mixedOrders = true) (h : AnyU P .any ops Q S z ops.size (Array.replicate ops.size false) a { w with drawn := w.drawn + 1 }) : (Code.region id ops true).wp P Q a w :=
  wp_region_any hm (AnyU.any _ _ _ _ h)
end
/-- The store of a server, the region's last operation. -/
theorem u_putS {md : Region.Mode} {ops : Array Oper} {Q : Exit → Act → World → Prop} {S : World → Prop} (z g : Nat) {oi : Oper} {fuel : Nat} {listed : Array Bool} {a : Act} {w : World} {a2 : Option Addr} {len c2 : Nat} {busy node rank now : Int} {x y : Operand} {C : Array Value}
    (hi : ops.toList[z]? = some oi) (hd : oi.dst = none) (hr : Region.ready md ops listed = [z]) (hu : (listed.setIfInBounds z true).getD z true = true) (hw : Region.wanted oi (yielded ops a.tmps) = true) (ho : oi.op = .store 26 x y) (hx : a.eval x = .pointer (some ⟨g, 0, none⟩)) (hy : a.eval y = svV a2 len c2 busy node rank now)
    (hg : w.heap[g]? = some (.cells C 26 (0, 0))) (hC : C.size = 5)
    (k : AnyU Tryz.prog md ops Q S z fuel (listed.setIfInBounds z true) a (w.setRow g (svC a2 len c2 busy node rank now))) : AnyU Tryz.prog md ops Q S z (fuel + 1) listed a w := by
  refine u_op z (op_at hi) hr hw (wp_store_row 26 x y ho g (svC a2 len c2 busy node rank now) hx hy 26 C hg (by kernel_rfl) (hC.trans rfl) (by simp [Value.oneCell']) ⟨fun h => (by rw [hu] at h; cases h), ?_⟩)
  rw [hd]
  exact k
end Go.Proofs.YtnhmecabppaboaaGreat

/- What is drawn of servers: l14Draw. -/

set_option linter.unusedVariables false
set_option linter.unusedSimpArgs false
namespace Go.Proofs.YtnhmecabppaboaaGreat
open Go.RowKit

/-- A server that has been drawn: its boxes lie above what stood at the start; nothing of that but the cursor has been written. -/
structure SvDr (B p : Nat) (a : Option Addr) (len cap : Nat) (w0 : World) (s : Srv) (G k : Nat) (L H : Nat → Nat) (w : World) : Prop where
  ok : srvB s = true
  st : St B p a len cap w
  grown : w0.grownBy w (some p)
  box : BoxO False G k (fun j => j < s.bx.length) s.bx L H w
  room : s.bx.length ≤ k
  low : w0.heap.size < G ∧ ∀ j, j < s.bx.length → w0.heap.size < L j
  pw : p < w0.heap.size
section
variable {B p : Nat} {a : Option Addr} {len cap : Nat} {w0 : World} {s : Srv} {G k : Nat} {L H : Nat → Nat} {w w' : World}
theorem grown_below {w w' : World} (b : Below w.heap.size w w') : w.grownBy w' none := ⟨b.os, b.tape, b.output, b.size, fun i hi _ => b.block i hi⟩
theorem SvDr.num (h : SvDr B p a len cap w0 s G k L H w) (g : w.grownBy w' (some p)) (st : St B p a len cap w') : SvDr B p a len cap w0 s G k L H w' :=
  ⟨h.ok, st, grown_trans h.grown g, h.box.kp (Y := fun q => q ≠ p) ⟨g.size, fun q hq hl => g.block q hl (fun e => hq (by cases e; rfl)), g.os, g.tape, g.output⟩ (by have := h.low.1; have := h.pw; show G ≠ p; omega) (fun j hj q h1 h2 => by have := h.low.2 j hj; have := h.pw; show q ≠ p; omega), h.room, h.low, h.pw⟩
theorem SvDr.below (h : SvDr B p a len cap w0 s G k L H w) (b : Below w.heap.size w w') : SvDr B p a len cap w0 s G k L H w' :=
  h.num (grown_some (grown_below b) _) (h.st.below b)
/-- Block g is written, that is none of it. -/
theorem SvDr.row {g : Nat} (h : SvDr B p a len cap w0 s G k L H w) (m : Mid g (g + 1) w w') (hg : w0.heap.size ≤ g) (hG : g ≠ G) (hf : ∀ j, j < s.bx.length → g < L j ∨ H j ≤ g) : SvDr B p a len cap w0 s G k L H w' :=
  ⟨h.ok, h.st.step (r := some g) ⟨m.os, m.tape, m.output, m.size, fun i hi hr => m.block i hi (by have : i ≠ g := fun e => hr (by rw [e]); omega)⟩ (fun k e => by cases e; have := h.pw; omega),
    ⟨m.os.trans h.grown.os, m.tape.trans h.grown.tape, m.output.trans h.grown.output, Nat.le_trans h.grown.size m.size, fun i hi hr => (m.block i (Nat.lt_of_lt_of_le hi h.grown.size) (by omega)).trans (h.grown.block i hi hr)⟩,
    h.box.kp (Y := fun q => q ≠ g) ⟨m.size, fun q hq hl => m.block q hl (by have : q ≠ g := hq; omega), m.os, m.tape, m.output⟩ hG.symm (fun j hj q h1 h2 => by have := hf j hj; show q ≠ g; omega), h.room, h.low, h.pw⟩
end
/-- Between two rounds of l14Draw. -/
structure SvLp (B p : Nat) (a : Option Addr) (len cap : Nat) (w0 : World) (g : Nat) (s : Srv) (G k c : Nat) (L H : Nat → Nat) (w : World) : Prop where
  d : SvDr B p a len cap w0 s G k L H w
  row : w.heap[g]? = some (.cells (svC (some ⟨G, 0, none⟩) s.bx.length c s.busy s.node s.rank s.now) 26 (0, 0))
  res : w.heap[w0.heap.size]? = some (.cells (svC none 0 0 0 0 0 0) 26 (0, 0))
  sep : g ≠ G ∧ ∀ j, j < s.bx.length → g < L j ∨ H j ≤ g
  lt : w0.heap.size < g
section
variable {B p : Nat} {a : Option Addr} {len cap : Nat} {w0 : World} {g : Nat} {s : Srv} {G k c : Nat} {L H : Nat → Nat} {w w' : World}
theorem SvLp.num (h : SvLp B p a len cap w0 g s G k c L H w) (e : w.grownBy w' (some p)) (st : St B p a len cap w') : SvLp B p a len cap w0 g s G k c L H w' := by
  have hp := h.d.pw
  have hl := h.lt
  exact ⟨h.d.num e st, (e.block g (Array.getElem?_eq_some_iff.1 h.row).1 (fun e => by cases e; omega)).trans h.row, (e.block _ (Array.getElem?_eq_some_iff.1 h.res).1 (fun e => by cases e; omega)).trans h.res, h.sep, h.lt⟩
theorem SvLp.below (h : SvLp B p a len cap w0 g s G k c L H w) (b : Below w.heap.size w w') : SvLp B p a len cap w0 g s G k c L H w' :=
  ⟨h.d.below b, blkV h.row b, blkV h.res b, h.sep, h.lt⟩
theorem SvLp.cell (h : SvLp B p a len cap w0 g s G k c L H w) (j : Nat) : w.cell? ⟨g, j, none⟩ = (svC (some ⟨G, 0, none⟩) s.bx.length c s.busy s.node s.rank s.now)[j]? := cell_of_row w g j _ _ _ h.row
end
/-- What l14Draw answers. -/
def SvAns (B p : Nat) (a : Option Addr) (len cap : Nat) (w : World) (e : Ending) (w' : World) : Prop :=
  ∃ (s : Srv) (G k c : Nat) (L H : Nat → Nat), e = .returned (svV (some ⟨G, 0, none⟩) s.bx.length c s.busy s.node s.rank s.now) ∧ SvDr B p a len cap w s G k L H w'
theorem results_sv1 {fn : Func} {q : Tmp} (h : fn.results = #[.cell q 26]) (tmps : Array Value) (w : World) (g : Nat) (C : Array Value) (hp : tmps.getD q undef = .pointer (some ⟨g, 0, none⟩))
    (hg : w.heap[g]? = some (.cells C 26 (0, 0))) (hC : C.size = 5) : (results fn tmps).run Tryz.prog w = .ok (.agg C) w := by
  have hp' : tmps[q]?.getD undef = .pointer (some ⟨g, 0, none⟩) := by simpa using hp
  have hl := run_loadVar_row (P := Tryz.prog) w g 26 26 C (0, 0) _ hg Tryz.underlying26 rfl (by rw [hC]; kernel_rfl)
  simp [results, h, hp', asAddr, hl]
set_option maxHeartbeats 32000000 in
set_option maxRecDepth 20000 in
/-- spec.l14Draw. -/
theorem drawSv {B p : Nat} {a : Option Addr} {len cap : Nat} (w : World) (st : St B p a len cap w) :
    Calls Tryz.prog 63 #[.pointer (some ⟨p, 0, none⟩)] w (SvAns B p a len cap w) := by
  have hp := st.lt
  obtain ⟨HR, B0⟩ := one_sv w (svC none 0 0 0 0 0 0) 26
  have hz : (w.alloc (.cells (svC none 0 0 0 0 0 0) 26)).heap.size = w.heap.size + 1 := by simp
  go_enter Tryz.func63, Tryz.ntmps63
  go_upto_region 1 with fail
  have g0 := grown_some (grown_below B0) (some p)
  replace st := st.below B0
  generalize w.alloc _ = W at HR g0 st hz ⊢
  clear B0
  go_wp2_with fail
  refine (belowPos (B := B) (a := a) (len := len) (cap := cap) 3 _ (by omega) (by omega) st).mono ?_
  rintro e w1 ⟨x, x0, x1, rfl, g1, s1⟩
  replace HR := (g1.block _ (Array.getElem?_eq_some_iff.1 HR).1 (fun e => by cases e; omega)).trans HR
  replace g0 := grown_trans g0 g1
  have hs1 := g1.size
  clear st g1
  go_wp2_with fail
  refine (specNewServer (2 + x) w1).mono ?_
  rintro e w2 ⟨-, hN⟩
  obtain ⟨G, k, c, L, H, rfl, O, F, hk, b⟩ := hN (rng_iff.2 ⟨by omega, by omega⟩)
  have hok : srvB (newS (2 + x)) = true := newS_box ⟨by omega, by omega⟩
  generalize newS (2 + x) = s at O F hk hok ⊢
  have D : SvDr B p a len cap w s G k L H w2 := ⟨hok, s1.below b, grown_trans g0 (grown_some (grown_below b) _), O, hk, ⟨by have := F.1; omega, fun j hj => by have := F.2 j hj; omega⟩, hp⟩
  replace HR := blkV HR b
  have hG := O.lt
  have hH := fun j hj => (O.out j hj).2.1
  have hs2 := b.size
  clear O F hk hok g0 s1 b hN
  obtain ⟨HX, b⟩ := one_sv w2 (svC (some ⟨G, 0, none⟩) s.bx.length c s.busy s.node s.rank s.now) 26
  have Lp : SvLp B p a len cap w w2.heap.size s G k c L H (w2.alloc (.cells (svC (some ⟨G, 0, none⟩) s.bx.length c s.busy s.node s.rank s.now) 26)) :=
    ⟨D.below b, HX, blkV HR b, ⟨by omega, fun j hj => .inr (hH j hj)⟩, by omega⟩
  clear D HX b HR hG hH hs1
  go_upto_region 2 with fail
  generalize w2.alloc _ = W3 at Lp ⊢
  generalize w2.heap.size = g at Lp ⊢
  clear hs2
  go_wp2_with fail
  refine (belowPos (B := B) (a := a) (len := len) (cap := cap) 7 _ (by omega) (by omega) Lp.d.st).mono ?_
  rintro e w4 ⟨n, n0, n1, rfl, g4, s4⟩
  replace Lp := Lp.num g4 s4
  clear g4 s4
  go_wp2_with fail
  go_loopw [5] (fun n wr => ∃ (m : Nat) (s : Srv) (G k c : Nat) (L H : Nat → Nat), n = .int .i64 (m : Int) ∧ m ≤ 6 ∧ SvLp B p a len cap w g s G k c L H wr) (fun n _ => (intOf n).toNat)
  case atStart => exact ⟨n.toNat, s, G, k, c, L, H, by rw [Int.toNat_of_nonneg n0], by omega, Lp⟩
  case round =>
    clear Lp n0 n1
    obtain ⟨m, s1, G1, k1, c1, L1, H1, rfl, hm, Lp⟩ := hrel
    by_cases hm0 : m = 0
    · subst hm0
      go_wp2_with (first | (refine svTakeI Lp.row rfl rfl rfl ?_) | (refine wpList_putS w.heap.size rfl rfl rfl rfl rfl Lp.res rfl ?_))
      have m5 := mid_setRowS wr w.heap.size (svC (some ⟨G1, 0, none⟩) s1.bx.length c1 s1.busy s1.node s1.rank s1.now)
      have h5 := setRow_heap wr _ _ (svC (some ⟨G1, 0, none⟩) s1.bx.length c1 s1.busy s1.node s1.rank s1.now) _ _ Lp.res
      have D5 := Lp.d.row m5 (Nat.le_refl _) (by have := Lp.d.low.1; omega) (fun j hj => .inl (Lp.d.low.2 j hj))
      generalize wr.setRow _ _ = w5 at m5 h5 D5 ⊢
      refine bodyPost_ret (v := svV (some ⟨G1, 0, none⟩) s1.bx.length c1 s1.busy s1.node s1.rank s1.now) ?_ rfl ?_
      · exact results_sv1 Tryz.results63 _ _ w.heap.size _ rfl h5 rfl
      · exact ⟨s1, G1, k1, c1, L1, H1, rfl, D5⟩
    · have hmp : (0 : Int) < m := by omega
      obtain ⟨hb1, hb2, hb3⟩ := boxesB_iff.1 (srvB_iff.1 Lp.d.ok).1
      have hb16 := Lib.hid (show ∀ j, j < s1.bx.length → (nthB s1.bx j).length ≤ 2000000 from fun j hj => by have := (boxB_iff.1 (hb3 j hj)).1; omega)
      clear hb3
      go_upto_region 5 with fail
      refine region_u (fun u => u.heap[g]? = some (.cells (svC (some ⟨G1, 0, none⟩) s1.bx.length c1 s1.busy s1.node s1.rank s1.now) 26 (0, 0))) 12 (by kernel_rfl) ?_
      have b5 : Below wr.heap.size wr { wr with drawn := wr.drawn + 1 } := (Below.refl wr.heap.size wr).drew
      replace Lp := Lp.below b5
      clear b5
      generalize ({ wr with drawn := wr.drawn + 1 } : World) = W5 at Lp ⊢
      refine u_take 0 20 (svV (some ⟨G1, 0, none⟩) s1.bx.length c1 s1.busy s1.node s1.rank s1.now) rfl rfl (by kernel_rfl) (by kernel_rfl) (by kernel_rfl) (by kernel_rfl) (by kernel_rfl) (by kernel_rfl) (fun _ _ _ h => h) rfl (fun u hu => by exact sv_tookI hu rfl rfl) Lp.row ?_
      try simp only [Act.put, List.setIfInBounds_toArray, List.set_cons_zero, List.set_cons_succ]
      refine u_pure 1 21 (.pointer (some ⟨p, 0, none⟩)) rfl rfl (by kernel_rfl) (by kernel_rfl) (by kernel_rfl) (by kernel_rfl) (fun _ _ _ h => h) rfl (fun u => by go_simp) (fun _ => Lp.row) ?_
      try simp only [Act.put, List.setIfInBounds_toArray, List.set_cons_zero, List.set_cons_succ]
      refine u_pure 2 22 (.pointer (some ⟨g, 0, none⟩)) rfl rfl (by kernel_rfl) (by kernel_rfl) (by kernel_rfl) (by kernel_rfl) (fun _ _ _ h => h) rfl (fun u => by go_simp) (fun _ => Lp.row) ?_
      try simp only [Act.put, List.setIfInBounds_toArray, List.set_cons_zero, List.set_cons_succ]
      refine u_take 3 23 (.slice (some ⟨G1, 0, none⟩) s1.bx.length c1) rfl rfl (by kernel_rfl) (by kernel_rfl) (by kernel_rfl) (by kernel_rfl) (by kernel_rfl) (by kernel_rfl) (fun _ _ _ h => h) rfl (fun u hu => by have c0 := cell_of_row u g 0 _ _ _ hu; go_simp) Lp.row ?_
      try simp only [Act.put, List.setIfInBounds_toArray, List.set_cons_zero, List.set_cons_succ]
      refine u_pure 4 24 (.int .i64 s1.bx.length) rfl rfl (by kernel_rfl) (by kernel_rfl) (by kernel_rfl) (by kernel_rfl) (fun _ _ _ h => h) rfl (fun u => by go_simp) (fun _ => Lp.row) ?_
      try simp only [Act.put, List.setIfInBounds_toArray, List.set_cons_zero, List.set_cons_succ]
      refine u_pure 6 26 (.pointer (some ⟨p, 0, none⟩)) rfl rfl (by kernel_rfl) (by kernel_rfl) (by kernel_rfl) (by kernel_rfl) (fun _ _ _ h => h) rfl (fun u => by go_simp) (fun _ => Lp.row) ?_
      try simp only [Act.put, List.setIfInBounds_toArray, List.set_cons_zero, List.set_cons_succ]
      refine u_call 5 25 31 #[.pointer (some ⟨p, 0, none⟩), .int .i64 s1.bx.length] rfl rfl (by kernel_rfl) rfl (by go_simp) ?_
      refine (belowPos (B := B) (a := a) (len := len) (cap := cap) s1.bx.length _ (by omega) (by omega) Lp.d.st).mono ?_
      rintro e w5 ⟨y, y0, y1, rfl, g5, s5⟩
      replace Lp := Lp.num g5 s5
      clear g5 s5
      refine ⟨_, rfl, Lp.row, ?_⟩
      try simp only [Act.put, List.setIfInBounds_toArray, List.set_cons_zero, List.set_cons_succ]
      refine u_call 7 27 75 #[.pointer (some ⟨p, 0, none⟩)] rfl rfl (by kernel_rfl) rfl (by go_simp) ?_
      refine (drawRight (B := B) (a := a) (len := len) (cap := cap) _ Lp.d.st).mono ?_
      rintro e w6 ⟨id, rm, ln, D, v, rfl, own, hfr, g6, s6⟩
      obtain ⟨av, cv, rfl, hN⟩ := own.nums
      replace Lp := Lp.num g6 s6
      clear g6 s6 own
      refine ⟨_, rfl, Lp.row, ?_⟩
      try simp only [Act.put, List.setIfInBounds_toArray, List.set_cons_zero, List.set_cons_succ]
      refine u_call 8 28 14 #[svV (some ⟨G1, 0, none⟩) s1.bx.length c1 s1.busy s1.node s1.rank s1.now, .int .i64 y, frV id rm ln av D.length cv] rfl rfl (by kernel_rfl) rfl (by go_simp) ?_
      refine (specServerPut Adr (some ⟨G1, 0, none⟩) s1.bx c1 s1.busy s1.node s1.rank s1.now y ⟨id, rm, ln, D⟩ av cv _ (Lp.d.box.bxs (by omega) hb16.out) hN).mono ?_
      rintro e w7 ⟨-, hP⟩
      obtain ⟨G2, k2, c2, L2, H2, rfl, O, F, hk2, b⟩ := hP Lp.d.ok
      have hok := putS_right y ⟨id, rm, ln, D⟩ Lp.d.ok
      generalize (putS ⟨s1.bx, s1.busy, s1.node, s1.rank, s1.now⟩ y ⟨id, rm, ln, D⟩).2 = code at *
      generalize hs2 : (putS ⟨s1.bx, s1.busy, s1.node, s1.rank, s1.now⟩ y ⟨id, rm, ln, D⟩).1 = s2 at *
      have row7 := blkV Lp.row b
      have hglt := (Array.getElem?_eq_some_iff.1 Lp.row).1
      have res7 := blkV Lp.res b
      have D7 : SvDr B p a len cap w s2 G2 k2 L2 H2 w7 := ⟨hok, Lp.d.st.below b, grown_trans Lp.d.grown (grown_some (grown_below b) _), O, hk2, ⟨by have := F.1; have := Lp.lt; omega, fun j hj => by have := F.2 j hj; have := Lp.lt; omega⟩, hp⟩
      have hlt := Lp.lt
      have hsep : g ≠ G2 ∧ ∀ j, j < s2.bx.length → g < L2 j := ⟨by have := F.1; omega, fun j hj => by have := F.2 j hj; omega⟩
      refine ⟨_, rfl, row7, ?_⟩
      try simp only [Act.put, List.setIfInBounds_toArray, List.set_cons_zero, List.set_cons_succ]
      refine u_pure 9 19 (.tuple #[svV (some ⟨G2, 0, none⟩) s2.bx.length c2 s2.busy s2.node s2.rank s2.now, .int .i64 code]) rfl rfl (by kernel_rfl) (by kernel_rfl) (by kernel_rfl) (by kernel_rfl) (fun _ _ _ h => h) rfl (fun u => by go_simp) (fun _ => row7) ?_
      try simp only [Act.put, List.setIfInBounds_toArray, List.set_cons_zero, List.set_cons_succ]
      refine u_pure 10 29 (svV (some ⟨G2, 0, none⟩) s2.bx.length c2 s2.busy s2.node s2.rank s2.now) rfl rfl (by kernel_rfl) (by kernel_rfl) (by kernel_rfl) (by kernel_rfl) (fun _ _ _ h => h) rfl (fun u => by go_simp) (fun _ => row7) ?_
      try simp only [Act.put, List.setIfInBounds_toArray, List.set_cons_zero, List.set_cons_succ]
      refine u_pure 11 30 (.int .i64 code) rfl rfl (by kernel_rfl) (by kernel_rfl) (by kernel_rfl) (by kernel_rfl) (fun _ _ _ h => h) rfl (fun u => by go_simp) (fun _ => row7) ?_
      try simp only [Act.put, List.setIfInBounds_toArray, List.set_cons_zero, List.set_cons_succ]
      refine u_putS 12 g rfl rfl (by kernel_rfl) (by kernel_rfl) rfl rfl rfl rfl row7 rfl ?_
      have m8 := mid_setRowS w7 g (svC (some ⟨G2, 0, none⟩) s2.bx.length c2 s2.busy s2.node s2.rank s2.now)
      have h8 := setRow_heap w7 _ _ (svC (some ⟨G2, 0, none⟩) s2.bx.length c2 s2.busy s2.node s2.rank s2.now) _ _ row7
      have Lp2 : SvLp B p a len cap w g s2 G2 k2 c2 L2 H2 (w7.setRow g (svC (some ⟨G2, 0, none⟩) s2.bx.length c2 s2.busy s2.node s2.rank s2.now)) :=
        ⟨D7.row m8 (by omega) hsep.1 (fun j hj => .inl (hsep.2 j hj)), h8, (m8.block _ (Array.getElem?_eq_some_iff.1 res7).1 (by omega)).trans res7, ⟨hsep.1, fun j hj => .inl (hsep.2 j hj)⟩, hlt⟩
      clear Lp row7 res7 D7 hsep m8 h8 O F hok b hP hN hfr hb1 hb2 hb16 hs2
      generalize w7.setRow _ _ = W8 at Lp2 ⊢
      refine u_done (by kernel_rfl) ?_ _
      go_upto_region 6 with fail
      refine region_u (fun u => u.heap[g]? = some (.cells (svC (some ⟨G2, 0, none⟩) s2.bx.length c2 s2.busy s2.node s2.rank s2.now) 26 (0, 0))) 7 (by kernel_rfl) ?_
      have b5 : Below W8.heap.size W8 { W8 with drawn := W8.drawn + 1 } := (Below.refl W8.heap.size W8).drew
      replace Lp2 := Lp2.below b5
      clear b5
      generalize ({ W8 with drawn := W8.drawn + 1 } : World) = W9 at Lp2 ⊢
      refine u_take 0 32 (svV (some ⟨G2, 0, none⟩) s2.bx.length c2 s2.busy s2.node s2.rank s2.now) rfl rfl (by kernel_rfl) (by kernel_rfl) (by kernel_rfl) (by kernel_rfl) (by kernel_rfl) (by kernel_rfl) (fun _ _ _ h => h) rfl (fun u hu => by exact sv_tookI hu rfl rfl) Lp2.row ?_
      try simp only [Act.put, List.setIfInBounds_toArray, List.set_cons_zero, List.set_cons_succ]
      refine u_pure 1 33 (.pointer (some ⟨p, 0, none⟩)) rfl rfl (by kernel_rfl) (by kernel_rfl) (by kernel_rfl) (by kernel_rfl) (fun _ _ _ h => h) rfl (fun u => by go_simp) (fun _ => Lp2.row) ?_
      try simp only [Act.put, List.setIfInBounds_toArray, List.set_cons_zero, List.set_cons_succ]
      refine u_call 2 34 31 #[.pointer (some ⟨p, 0, none⟩), .int .i64 120] rfl rfl (by kernel_rfl) rfl (by go_simp) ?_
      refine (belowPos (B := B) (a := a) (len := len) (cap := cap) 120 _ (by omega) (by omega) Lp2.d.st).mono ?_
      rintro e w10 ⟨y2, y20, y21, rfl, g5, s5⟩
      replace Lp2 := Lp2.num g5 s5
      clear g5 s5
      obtain ⟨yn, rfl⟩ : ∃ yn : Nat, y2 = (yn : Int) := ⟨y2.toNat, by rw [Int.toNat_of_nonneg y20]⟩
      refine ⟨_, rfl, Lp2.row, ?_⟩
      try simp only [Act.put, List.setIfInBounds_toArray, List.set_cons_zero, List.set_cons_succ]
      refine u_call 3 35 37 #[svV (some ⟨G2, 0, none⟩) s2.bx.length c2 s2.busy s2.node s2.rank s2.now, .int .i64 (yn : Int)] rfl rfl (by kernel_rfl) rfl (by go_simp) ?_
      refine (specRunS G2 k2 c2 s2 L2 H2 yn _ Lp2.d.box Lp2.d.room Lp2.d.ok (by omega)).mono ?_
      rintro e w11 ⟨L3, H3, ae, ce, PE, LE, HE, rfl, O3, hLH, K3, -⟩
      have hok3 := tunS_right Lp2.d.ok yn
      have hl3 := tunS_len s2 yn
      have hgG := Lp2.sep.1
      have hlt2 := Lp2.lt
      have hlow := Lp2.d.low
      have hsz := Lp2.d.grown.size
      have hgl := (Array.getElem?_eq_some_iff.1 Lp2.row).1
      have hrl := (Array.getElem?_eq_some_iff.1 Lp2.res).1
      have row11 := (K3.block g hgG hgl).trans Lp2.row
      have res11 := (K3.block w.heap.size (by show w.heap.size ≠ G2; omega) hrl).trans Lp2.res
      have g11 : w10.grownBy w11 (some G2) := ⟨K3.os, K3.tape, K3.output, K3.size, fun i hi hr => K3.block i (fun e => hr (by rw [e])) hi⟩
      have D11 : SvDr B p a len cap w (tunS s2 yn) G2 k2 L3 H3 w11 := ⟨hok3, Lp2.d.st.step g11 (fun k e => by cases e; omega),
        ⟨K3.os.trans Lp2.d.grown.os, K3.tape.trans Lp2.d.grown.tape, K3.output.trans Lp2.d.grown.output, Nat.le_trans hsz K3.size, fun i hi hr => (K3.block i (by show i ≠ G2; omega) (by omega)).trans (Lp2.d.grown.block i hi hr)⟩,
        O3, by rw [hl3]; exact Lp2.d.room, ⟨hlow.1, fun j hj => by
          rcases hLH j with ⟨e, _⟩ | h
          · rw [e]; exact hlow.2 j (by omega)
          · omega⟩, hp⟩
      have hsep3 : ∀ j, j < (tunS s2 yn).bx.length → g < L3 j ∨ H3 j ≤ g := fun j hj => by
        rcases hLH j with ⟨e, e'⟩ | h
        · rw [e, e']; exact Lp2.sep.2 j (by omega)
        · left; omega
      clear Lp2 O3 hLH K3 hok3 hl3 hlow g11
      generalize tunS s2 yn = s3 at D11 hsep3 ⊢
      refine ⟨_, rfl, row11, ?_⟩
      try simp only [Act.put, List.setIfInBounds_toArray, List.set_cons_zero, List.set_cons_succ]
      refine u_pure 4 31 (.tuple #[svV (some ⟨G2, 0, none⟩) s3.bx.length c2 s3.busy s3.node s3.rank s3.now, .slice ae (tunE s2 yn).length ce]) rfl rfl (by kernel_rfl) (by kernel_rfl) (by kernel_rfl) (by kernel_rfl) (fun _ _ _ h => h) rfl (fun u => by go_simp) (fun _ => row11) ?_
      try simp only [Act.put, List.setIfInBounds_toArray, List.set_cons_zero, List.set_cons_succ]
      refine u_pure 5 36 (svV (some ⟨G2, 0, none⟩) s3.bx.length c2 s3.busy s3.node s3.rank s3.now) rfl rfl (by kernel_rfl) (by kernel_rfl) (by kernel_rfl) (by kernel_rfl) (fun _ _ _ h => h) rfl (fun u => by go_simp) (fun _ => row11) ?_
      try simp only [Act.put, List.setIfInBounds_toArray, List.set_cons_zero, List.set_cons_succ]
      refine u_pure 6 37 (.slice ae (tunE s2 yn).length ce) rfl rfl (by kernel_rfl) (by kernel_rfl) (by kernel_rfl) (by kernel_rfl) (fun _ _ _ h => h) rfl (fun u => by go_simp) (fun _ => row11) ?_
      try simp only [Act.put, List.setIfInBounds_toArray, List.set_cons_zero, List.set_cons_succ]
      refine u_putS 7 g rfl rfl (by kernel_rfl) (by kernel_rfl) rfl rfl rfl rfl row11 rfl ?_
      have m12 := mid_setRowS w11 g (svC (some ⟨G2, 0, none⟩) s3.bx.length c2 s3.busy s3.node s3.rank s3.now)
      have h12 := setRow_heap w11 _ _ (svC (some ⟨G2, 0, none⟩) s3.bx.length c2 s3.busy s3.node s3.rank s3.now) _ _ row11
      have Lp3 : SvLp B p a len cap w g s3 G2 k2 c2 L3 H3 (w11.setRow g (svC (some ⟨G2, 0, none⟩) s3.bx.length c2 s3.busy s3.node s3.rank s3.now)) :=
        ⟨D11.row m12 (by omega) hgG hsep3, h12, (m12.block _ (Array.getElem?_eq_some_iff.1 res11).1 (by omega)).trans res11, ⟨hgG, hsep3⟩, hlt2⟩
      clear row11 res11 D11 hsep3 m12 h12
      generalize w11.setRow _ _ = W12 at Lp3 ⊢
      refine u_done (by kernel_rfl) ?_ _
      go_wp2_with fail
      go_roundw
      case rel => exact ⟨m - 1, s3, G2, k2, c2, L3, H3, by go_num, by omega, Lp3⟩
      case measure => simp [intOf]; omega
/-- A server that has been drawn, of numbers of any kind; its boxes from the first or from the second on. -/
structure SvAt (B p : Nat) (a : Option Addr) (len cap : Nat) (w0 : World) (g : Nat) (s : Srv) (o n c : Nat) (busy nd rank now : Int) (G k : Nat) (L H : Nat → Nat) (w : World) : Prop where
  d : SvDr B p a len cap w0 s G k L H w
  row : w.heap[g]? = some (.cells (svC (some ⟨G, o, none⟩) n c busy nd rank now) 26 (0, 0))
  res : w.heap[w0.heap.size]? = some (.cells (svC none 0 0 0 0 0 0) 26 (0, 0))
  sep : g ≠ G ∧ ∀ j, j < s.bx.length → g < L j ∨ H j ≤ g
  lt : w0.heap.size < g
section
variable {B p : Nat} {a : Option Addr} {len cap : Nat} {w0 : World} {g : Nat} {s : Srv} {o n c G k : Nat} {busy nd rank now : Int} {L H : Nat → Nat} {w w' : World}
theorem SvAt.num (h : SvAt B p a len cap w0 g s o n c busy nd rank now G k L H w) (e : w.grownBy w' (some p)) (st : St B p a len cap w') : SvAt B p a len cap w0 g s o n c busy nd rank now G k L H w' := by
  have hp := h.d.pw
  have hl := h.lt
  exact ⟨h.d.num e st, (e.block g (Array.getElem?_eq_some_iff.1 h.row).1 (fun e => by cases e; omega)).trans h.row, (e.block _ (Array.getElem?_eq_some_iff.1 h.res).1 (fun e => by cases e; omega)).trans h.res, h.sep, h.lt⟩
theorem SvAt.below (h : SvAt B p a len cap w0 g s o n c busy nd rank now G k L H w) (b : Below w.heap.size w w') : SvAt B p a len cap w0 g s o n c busy nd rank now G k L H w' :=
  ⟨h.d.below b, blkV h.row b, blkV h.res b, h.sep, h.lt⟩
/-- Another row in the same block. -/
theorem SvAt.put {o' n' c' : Nat} {busy' nd' rank' now' : Int} (h : SvAt B p a len cap w0 g s o n c busy nd rank now G k L H w) (m : Mid g (g + 1) w w')
    (hr : w'.heap[g]? = some (.cells (svC (some ⟨G, o', none⟩) n' c' busy' nd' rank' now') 26 (0, 0))) : SvAt B p a len cap w0 g s o' n' c' busy' nd' rank' now' G k L H w' :=
  ⟨h.d.row m (Nat.le_of_lt h.lt) h.sep.1 h.sep.2, hr, (m.block _ (Array.getElem?_eq_some_iff.1 h.res).1 (by have := h.lt; omega)).trans h.res, h.sep, h.lt⟩
end
/-- What l14DrawAny answers. -/
def SvAny (B p : Nat) (a : Option Addr) (len cap : Nat) (w : World) (e : Ending) (w' : World) : Prop :=
  ∃ (s : Srv) (o n c : Nat) (busy nd rank now : Int) (G k : Nat) (L H : Nat → Nat), o + n ≤ s.bx.length ∧ e = .returned (svV (some ⟨G, o, none⟩) n c busy nd rank now) ∧ SvDr B p a len cap w s G k L H w'
set_option maxHeartbeats 32000000 in
set_option maxRecDepth 20000 in
/-- spec.l14DrawAny. -/
theorem drawSvAny {B p : Nat} {a : Option Addr} {len cap : Nat} (w : World) (st : St B p a len cap w) :
    Calls Tryz.prog 28 #[.pointer (some ⟨p, 0, none⟩)] w (SvAny B p a len cap w) := by
  have hp := st.lt
  obtain ⟨HR, B0⟩ := one_sv w (svC none 0 0 0 0 0 0) 26
  have hz : (w.alloc (.cells (svC none 0 0 0 0 0 0) 26)).heap.size = w.heap.size + 1 := by simp
  go_enter Tryz.func28, Tryz.ntmps28
  go_upto_region 1 with fail
  have g0 := grown_some (grown_below B0) (some p)
  replace st := st.below B0
  generalize w.alloc _ = W at HR g0 st hz ⊢
  clear B0
  go_wp2_with fail
  refine (drawSv (B := B) (a := a) (len := len) (cap := cap) _ st).mono ?_
  rintro e w1 ⟨s, G, k, c, L, H, rfl, D1⟩
  replace HR := (D1.grown.block _ (Array.getElem?_eq_some_iff.1 HR).1 (fun e => by cases e; omega)).trans HR
  have hlow := D1.low
  have hH := fun j hj => (D1.box.out j hj).2.1
  have hG := D1.box.lt
  have hs1 := D1.grown.size
  have D : SvDr B p a len cap w s G k L H w1 := ⟨D1.ok, D1.st, grown_trans g0 D1.grown, D1.box, D1.room, ⟨by omega, fun j hj => by have := hlow.2 j hj; omega⟩, hp⟩
  clear D1 g0 st
  obtain ⟨HX, b⟩ := one_sv w1 (svC (some ⟨G, 0, none⟩) s.bx.length c s.busy s.node s.rank s.now) 26
  have A : SvAt B p a len cap w w1.heap.size s 0 s.bx.length c s.busy s.node s.rank s.now G k L H (w1.alloc (.cells (svC (some ⟨G, 0, none⟩) s.bx.length c s.busy s.node s.rank s.now) 26)) :=
    ⟨D.below b, HX, blkV HR b, ⟨by omega, fun j hj => .inr (hH j hj)⟩, by omega⟩
  clear D HX b HR hG hH hs1 hlow
  go_upto_region 2 with fail
  generalize w1.alloc _ = W3 at A ⊢
  generalize w1.heap.size = g at A ⊢
  clear hz
  go_wp2_with fail
  refine (onceAny (B := B) (a := a) (len := len) (cap := cap) 6 _ (by omega) (by omega) A.d.st).mono ?_
  rintro e w2 ⟨b, rfl, g3, s3⟩
  replace A := A.num g3 s3
  clear g3 s3
  go_upto_if 7 with fail
  go_cut [] (fun wx => ∃ (o n c : Nat) (busy nd rank now : Int), o + n ≤ s.bx.length ∧ SvAt B p a len cap w g s o n c busy nd rank now G k L H wx)
  case first =>
    cases b with
    | false =>
      go_wp2_with fail
      go_meet
      exact ⟨0, s.bx.length, c, s.busy, s.node, s.rank, s.now, by omega, A⟩
    | true =>
      go_wp2_with fail
      refine (belowPos (B := B) (a := a) (len := len) (cap := cap) 5 _ (by omega) (by omega) A.d.st).mono ?_
      rintro e w3 ⟨x, x0, x1, rfl, g3, s3⟩
      replace A := A.num g3 s3
      clear g3 s3
      have hx : x = 0 ∨ x = 1 ∨ x = 2 ∨ x = 3 ∨ x = 4 := by omega
      rcases hx with rfl | rfl | rfl | rfl | rfl
      · go_wp2_with fail
        refine (numAny (B := B) (a := a) (len := len) (cap := cap) 100000 _ (by omega) (by omega) A.d.st).mono ?_
        rintro e w4 ⟨n, n0, n1, rfl, g4, s4⟩
        replace A := A.num g4 s4
        clear g4 s4
        have c0 := cell_of_row _ g 4 _ _ _ A.row
        have f0 := frozen_of_row _ g 4 _ _ A.row
        go_wp2_with fail
        go_meet
        exact ⟨0, s.bx.length, c, s.busy, s.node, s.rank, n, by omega, A.put (mid_cell w4 g 4 (.int .i64 n)) (heap_setCell_same w4 g 4 _ _ (.int .i64 n) A.row)⟩
      · go_wp2_with fail
        refine (numAny (B := B) (a := a) (len := len) (cap := cap) 200 _ (by omega) (by omega) A.d.st).mono ?_
        rintro e w4 ⟨n, n0, n1, rfl, g4, s4⟩
        replace A := A.num g4 s4
        clear g4 s4
        have c0 := cell_of_row _ g 1 _ _ _ A.row
        have f0 := frozen_of_row _ g 1 _ _ A.row
        go_wp2_with fail
        go_meet
        exact ⟨0, s.bx.length, c, n, s.node, s.rank, s.now, by omega, A.put (mid_cell w4 g 1 (.int .i64 n)) (heap_setCell_same w4 g 1 _ _ (.int .i64 n) A.row)⟩
      · go_wp2_with fail
        refine (fromAny (B := B) (a := a) (len := len) (cap := cap) (-1) 4 _ (by omega) (by omega) (by omega) A.d.st).mono ?_
        rintro e w4 ⟨n, n0, n1, rfl, g4, s4⟩
        replace A := A.num g4 s4
        clear g4 s4
        have c0 := cell_of_row _ g 2 _ _ _ A.row
        have f0 := frozen_of_row _ g 2 _ _ A.row
        go_wp2_with fail
        go_meet
        exact ⟨0, s.bx.length, c, s.busy, n, s.rank, s.now, by omega, A.put (mid_cell w4 g 2 (.int .i64 n)) (heap_setCell_same w4 g 2 _ _ (.int .i64 n) A.row)⟩
      · go_wp2_with fail
        refine (belowPos (B := B) (a := a) (len := len) (cap := cap) 5 _ (by omega) (by omega) A.d.st).mono ?_
        rintro e w4 ⟨n, n0, n1, rfl, g4, s4⟩
        replace A := A.num g4 s4
        clear g4 s4
        have c0 := cell_of_row _ g 3 _ _ _ A.row
        have f0 := frozen_of_row _ g 3 _ _ A.row
        go_wp2_with fail
        go_meet
        exact ⟨0, s.bx.length, c, s.busy, s.node, n, s.now, by omega, A.put (mid_cell w4 g 3 (.int .i64 n)) (heap_setCell_same w4 g 3 _ _ (.int .i64 n) A.row)⟩
      · have c0 := cell_of_row _ g 0 _ _ _ A.row
        have f0 := frozen_of_row _ g 0 _ _ A.row
        have hl2 := (boxesB_iff.1 (srvB_iff.1 A.d.ok).1).1
        have hl3 := (boxesB_iff.1 (srvB_iff.1 A.d.ok).1).2.1
        go_wp2_with fail
        · go_meet
          first
            | exact ⟨0, s.bx.length - 1, 0, s.busy, s.node, s.rank, s.now, by omega, A.put (mid_cell w3 g 0 (.slice (some ⟨G, 0, none⟩) (s.bx.length - 1) 0)) (heap_setCell_same w3 g 0 _ _ (.slice (some ⟨G, 0, none⟩) (s.bx.length - 1) 0) A.row)⟩
            | exact ⟨1, s.bx.length - 1, c - 1, s.busy, s.node, s.rank, s.now, by omega, A.put (mid_cell w3 g 0 (.slice (some ⟨G, 1, none⟩) (s.bx.length - 1) (c - 1))) (heap_setCell_same w3 g 0 _ _ (.slice (some ⟨G, 1, none⟩) (s.bx.length - 1) (c - 1)) A.row)⟩
        · go_meet
          exact ⟨1, s.bx.length - 1, c - 1, s.busy, s.node, s.rank, s.now, by omega, A.put (mid_cell w3 g 0 (.slice (some ⟨G, 1, none⟩) (s.bx.length - 1) (c - 1))) (heap_setCell_same w3 g 0 _ _ (.slice (some ⟨G, 1, none⟩) (s.bx.length - 1) (c - 1)) A.row)⟩
  case rest =>
    clear A
    obtain ⟨o, n, c, busy, nd, rank, now, ho, A⟩ := hcut
    go_wp2_with (first | (refine svTakeI A.row rfl rfl rfl ?_) | (refine wpList_putS w.heap.size rfl rfl rfl rfl rfl A.res rfl ?_))
    have m5 := mid_setRowS wc w.heap.size (svC (some ⟨G, o, none⟩) n c busy nd rank now)
    have h5 := setRow_heap wc _ _ (svC (some ⟨G, o, none⟩) n c busy nd rank now) _ _ A.res
    have D5 := A.d.row m5 (Nat.le_refl _) (by have := A.d.low.1; omega) (fun j hj => .inl (A.d.low.2 j hj))
    generalize wc.setRow _ _ = w5 at m5 h5 D5 ⊢
    refine bodyPost_ret (v := svV (some ⟨G, o, none⟩) n c busy nd rank now) ?_ rfl ?_
    · exact results_sv1 Tryz.results28 _ _ w.heap.size _ rfl h5 rfl
    · exact ⟨s, o, n, c, busy, nd, rank, now, G, k, L, H, ho, rfl, D5⟩
end Go.Proofs.YtnhmecabppaboaaGreat

/- What is drawn of servers: DrawServerFor. -/

set_option linter.unusedVariables false
set_option linter.unusedSimpArgs false
namespace Go.Proofs.YtnhmecabppaboaaGreat
open Go.RowKit

theorem nthB_part {X : List (List Frm)} {o n j : Nat} (hj : j < n) (ho : o + n ≤ X.length) : nthB ((X.drop o).take n) j = nthB X (o + j) := by
  simp [nthB, List.getD_eq_getElem?_getD, List.getElem?_take, List.getElem?_drop, hj]
/-- It can be read, from box o on. -/
theorem bxs_part {s : Srv} {G k o n : Nat} {L H : Nat → Nat} {w : World} (hok : srvB s = true) (hbx : BoxO False G k (fun j => j < s.bx.length) s.bx L H w) (ho : o + n ≤ s.bx.length) :
    ∃ X : List (List Frm), X.length = n ∧ Bxs Adr (some ⟨G, o, none⟩) X w ∧ X.length ≤ 6 ∧ ∀ j, j < X.length → (nthB X j).length ≤ 16 := by
  obtain ⟨b1, b2, b3⟩ := boxesB_iff.1 (srvB_iff.1 hok).1
  have h16 : ∀ j, j < s.bx.length → (nthB s.bx j).length ≤ 16 := fun j hj => (boxB_iff.1 (b3 j hj)).1
  have hl : ((s.bx.drop o).take n).length = n := by simp; omega
  have hb := hbx.bxs (by omega) (fun j hj => by have := h16 j hj; omega)
  refine ⟨(s.bx.drop o).take n, hl, ⟨by unfold maxLen; omega, fun j hj => ?_⟩, by omega, fun j hj => ?_⟩
  · rw [hl] at hj
    obtain ⟨g, o', al, cl, e, h2, h3, h4⟩ := hb.2 (o + j) (by omega)
    cases e
    rw [nthB_part hj ho]
    exact ⟨G, o, al, cl, rfl, by rw [Nat.zero_add] at h2; exact h2, h3, h4⟩
  · rw [hl] at hj
    rw [nthB_part hj ho]
    exact h16 _ (by omega)
/-- While a server that has been drawn is handed over. -/
structure SvFs (B p : Nat) (a : Option Addr) (len cap : Nat) (w0 w : World) (g : Nat) (s : Srv) (o n c : Nat) (busy nd rank now : Int) (G k : Nat) (L H : Nat → Nat) (u : World) : Prop where
  d : SvDr B p a len cap w0 s G k L H u
  row : u.heap[g]? = some (.cells (svC (some ⟨G, o, none⟩) n c busy nd rank now) 26 (0, 0))
  res : u.heap[w.heap.size]? = some (.cells (svC none 0 0 0 0 0 0) 26 (0, 0))
  ne : p ≠ g ∧ w.heap.size < p ∧ w.heap.size < g
  bel : Below w.heap.size w u
section
variable {B p : Nat} {a : Option Addr} {len cap : Nat} {w0 w : World} {g : Nat} {s : Srv} {o n c G k : Nat} {busy nd rank now : Int} {L H : Nat → Nat} {u u' : World}
theorem SvFs.num (h : SvFs B p a len cap w0 w g s o n c busy nd rank now G k L H u) (e : u.grownBy u' (some p)) (st : St B p a len cap u') : SvFs B p a len cap w0 w g s o n c busy nd rank now G k L H u' := by
  obtain ⟨h1, h2, h3⟩ := h.ne
  exact ⟨h.d.num e st, (e.block g (Array.getElem?_eq_some_iff.1 h.row).1 (fun e => by cases e; omega)).trans h.row, (e.block _ (Array.getElem?_eq_some_iff.1 h.res).1 (fun e => by cases e; omega)).trans h.res, h.ne, h.bel.grown e h.bel.size (fun k e => by cases e; omega)⟩
theorem SvFs.below (h : SvFs B p a len cap w0 w g s o n c busy nd rank now G k L H u) (b : Below u.heap.size u u') : SvFs B p a len cap w0 w g s o n c busy nd rank now G k L H u' :=
  ⟨h.d.below b, blkV h.row b, blkV h.res b, h.ne, Below.then2 h.bel b⟩
end
/-- A server that can be read. -/
def SvRd (X : List (List Frm)) (aX : Option Addr) (w w' : World) : Prop := Bxs Adr aX X w' ∧ X.length ≤ 6 ∧ (∀ j, j < X.length → (nthB X j).length ≤ 16) ∧ Below w.heap.size w w'
set_option maxHeartbeats 32000000 in
set_option maxRecDepth 20000 in
/-- spec.DrawServerFor. -/
theorem drawSvFor {B : Nat} {a : Option Addr} {len cap : Nat} (w : World) (cd : Code B a len w) (hB : B ≤ w.heap.size) :
    Calls Tryz.prog 7 #[.slice a len cap] w fun e w' => ∃ (X : List (List Frm)) (aX : Option Addr) (c : Nat) (busy nd rank now n : Int), e = .returned (.tuple #[svV aX X.length c busy nd rank now, .int .i64 n]) ∧ SvRd X aX w w' := by
  obtain ⟨HR, B0⟩ := one_sv w (svC none 0 0 0 0 0 0) 26
  have hz : (w.alloc (.cells (svC none 0 0 0 0 0 0) 26)).heap.size = w.heap.size + 1 := by simp
  go_enter Tryz.func7, Tryz.ntmps7
  go_upto_region 1 with fail
  replace cd := cd.below B0 hB
  generalize w.alloc _ = W at HR B0 cd hz ⊢
  go_wp2_with fail
  refine (newAny (B := B) _ cd (by omega)).mono ?_
  rintro e w1 ⟨rfl, g1, s1⟩
  have b1 := below_new g1
  replace HR := blkV HR b1
  replace B0 := Below.then2 B0 b1
  have hp1 := s1.lt
  generalize hp : W.heap.size = p at s1 hp1 ⊢
  clear g1 b1 cd
  go_wp2_with fail
  refine (drawSvAny (B := B) (a := a) (len := len) (cap := cap) _ s1).mono ?_
  rintro e w2 ⟨s, o, n, c, busy, nd, rank, now, G, k, L, H, ho, rfl, D⟩
  replace HR := (D.grown.block _ (Array.getElem?_eq_some_iff.1 HR).1 (fun e => by cases e; omega)).trans HR
  have hs2 := D.grown.size
  replace B0 := B0.grown D.grown B0.size (fun k e => by cases e; omega)
  obtain ⟨HX, b⟩ := one_sv w2 (svC (some ⟨G, o, none⟩) n c busy nd rank now) 26
  have F : SvFs B p a len cap w1 w w2.heap.size s o n c busy nd rank now G k L H (w2.alloc (.cells (svC (some ⟨G, o, none⟩) n c busy nd rank now) 26)) := ⟨D.below b, HX, blkV HR b, ⟨by omega, by omega, by omega⟩, Below.then2 B0 b⟩
  clear D HX b HR B0 s1 hs2 hp1
  go_upto_region 3 with fail
  generalize w2.alloc _ = W3 at F ⊢
  generalize w2.heap.size = g at F ⊢
  clear hp hz
  go_wp2_with fail
  refine (onceAny (B := B) (a := a) (len := len) (cap := cap) 20 _ (by omega) (by omega) F.d.st).mono ?_
  rintro e w3 ⟨b, rfl, g3, s3⟩
  replace F := F.num g3 s3
  clear g3 s3
  cases b with
  | true =>
    go_upto_region 4 with fail
    refine wp_region_held (S := fun u => u.heap[g]? = some (.cells (svC (some ⟨G, o, none⟩) n c busy nd rank now) 26 (0, 0))) (by kernel_rfl) ?_
    have b5 : Below w3.heap.size w3 { w3 with drawn := w3.drawn + 1 } := (Below.refl w3.heap.size w3).drew
    replace F := F.below b5
    clear b5
    generalize ({ w3 with drawn := w3.drawn + 1 } : World) = W4 at F ⊢
    refine h_take 0 12 (svV (some ⟨G, o, none⟩) n c busy nd rank now) rfl rfl (by kernel_rfl) (by kernel_rfl) (by kernel_rfl) (fun _ _ _ h => h) rfl (fun u hu => sv_tookI hu rfl rfl) F.row ?_
    refine h_take 1 13 (.pointer (some ⟨p, 0, none⟩)) rfl rfl (by kernel_rfl) (by kernel_rfl) (by kernel_rfl) (fun _ _ _ h => h) rfl (fun u hu => by go_simp) F.row ?_
    try simp only [Act.put, List.setIfInBounds_toArray, List.set_cons_zero, List.set_cons_succ]
    refine h_call 2 14 30 #[.pointer (some ⟨p, 0, none⟩), .int .i64 5000] rfl rfl (by kernel_rfl) rfl (by go_simp) ?_
    refine (numAny (B := B) (a := a) (len := len) (cap := cap) 5000 _ (by omega) (by omega) F.d.st).mono ?_
    rintro e w4 ⟨z, z0, z1, rfl, g4, s4⟩
    replace F := F.num g4 s4
    clear g4 s4
    refine ⟨_, rfl, F.row, ?_⟩
    try simp only [Act.put, List.setIfInBounds_toArray, List.set_cons_zero, List.set_cons_succ]
    have hne := F.ne
    have m5 := mid_setRowS w4 w.heap.size (svC (some ⟨G, o, none⟩) n c busy nd rank now)
    have h5 := setRow_heap w4 _ _ (svC (some ⟨G, o, none⟩) n c busy nd rank now) _ _ F.res
    have r5 := (m5.block g (Array.getElem?_eq_some_iff.1 F.row).1 (by omega)).trans F.row
    have hlow := F.d.low
    have hpw := F.d.pw
    have O5 : BoxO False G k (fun j => j < s.bx.length) s.bx L H (w4.setRow w.heap.size (svC (some ⟨G, o, none⟩) n c busy nd rank now)) := F.d.box.kp (Y := fun q => q ≠ w.heap.size) ⟨m5.size, fun q hq hl => m5.block q hl (by have : q ≠ w.heap.size := hq; omega), m5.os, m5.tape, m5.output⟩ (by show G ≠ w.heap.size; omega) (fun j hj q h1 h2 => by have := hlow.2 j hj; show q ≠ w.heap.size; omega)
    have hok := F.d.ok
    have B5 : Below w.heap.size w (w4.setRow w.heap.size (svC (some ⟨G, o, none⟩) n c busy nd rank now)) := F.bel.trans ⟨m5.os, m5.tape, m5.output, m5.size, fun q hq => m5.block q (by have := F.bel.size; omega) (by omega)⟩
    refine h_putS 3 w.heap.size rfl rfl (by kernel_rfl) rfl rfl rfl rfl F.res rfl r5 ?_
    clear F
    generalize w4.setRow _ _ = w5 at m5 h5 r5 O5 B5 ⊢
    refine h_value 4 3 (.int .i64 z) rfl rfl (by kernel_rfl) rfl (by go_simp) r5 ?_
    try simp only [Act.put, List.setIfInBounds_toArray, List.set_cons_zero, List.set_cons_succ]
    refine wpAnyH_done (by kernel_rfl) ?_ _
    go_wp2_with fail
    obtain ⟨X, hX, hbx, hx6, hx16⟩ := bxs_part hok O5 ho
    subst hX
    refine bodyPost_ret (v := .tuple #[svV (some ⟨G, o, none⟩) X.length c busy nd rank now, .int .i64 z]) ?_ rfl ?_
    · exact results_srv Tryz.results7 _ _ w.heap.size _ _ rfl rfl h5 rfl
    · exact ⟨X, some ⟨G, o, none⟩, c, busy, nd, rank, now, z, rfl, hbx, hx6, hx16, B5⟩
  | false =>
    go_upto_region 5 with fail
    refine wp_region_held (S := fun u => u.heap[g]? = some (.cells (svC (some ⟨G, o, none⟩) n c busy nd rank now) 26 (0, 0))) (by kernel_rfl) ?_
    have b5 : Below w3.heap.size w3 { w3 with drawn := w3.drawn + 1 } := (Below.refl w3.heap.size w3).drew
    replace F := F.below b5
    clear b5
    generalize ({ w3 with drawn := w3.drawn + 1 } : World) = W4 at F ⊢
    refine h_take 0 15 (svV (some ⟨G, o, none⟩) n c busy nd rank now) rfl rfl (by kernel_rfl) (by kernel_rfl) (by kernel_rfl) (fun _ _ _ h => h) rfl (fun u hu => sv_tookI hu rfl rfl) F.row ?_
    refine h_take 1 16 (.pointer (some ⟨p, 0, none⟩)) rfl rfl (by kernel_rfl) (by kernel_rfl) (by kernel_rfl) (fun _ _ _ h => h) rfl (fun u hu => by go_simp) F.row ?_
    try simp only [Act.put, List.setIfInBounds_toArray, List.set_cons_zero, List.set_cons_succ]
    refine h_call 2 17 31 #[.pointer (some ⟨p, 0, none⟩), .int .i64 300] rfl rfl (by kernel_rfl) rfl (by go_simp) ?_
    refine (belowPos (B := B) (a := a) (len := len) (cap := cap) 300 _ (by omega) (by omega) F.d.st).mono ?_
    rintro e w4 ⟨z, z0, z1, rfl, g4, s4⟩
    replace F := F.num g4 s4
    clear g4 s4
    refine ⟨_, rfl, F.row, ?_⟩
    try simp only [Act.put, List.setIfInBounds_toArray, List.set_cons_zero, List.set_cons_succ]
    have hne := F.ne
    have m5 := mid_setRowS w4 w.heap.size (svC (some ⟨G, o, none⟩) n c busy nd rank now)
    have h5 := setRow_heap w4 _ _ (svC (some ⟨G, o, none⟩) n c busy nd rank now) _ _ F.res
    have r5 := (m5.block g (Array.getElem?_eq_some_iff.1 F.row).1 (by omega)).trans F.row
    have hlow := F.d.low
    have hpw := F.d.pw
    have O5 : BoxO False G k (fun j => j < s.bx.length) s.bx L H (w4.setRow w.heap.size (svC (some ⟨G, o, none⟩) n c busy nd rank now)) := F.d.box.kp (Y := fun q => q ≠ w.heap.size) ⟨m5.size, fun q hq hl => m5.block q hl (by have : q ≠ w.heap.size := hq; omega), m5.os, m5.tape, m5.output⟩ (by show G ≠ w.heap.size; omega) (fun j hj q h1 h2 => by have := hlow.2 j hj; show q ≠ w.heap.size; omega)
    have hok := F.d.ok
    have B5 : Below w.heap.size w (w4.setRow w.heap.size (svC (some ⟨G, o, none⟩) n c busy nd rank now)) := F.bel.trans ⟨m5.os, m5.tape, m5.output, m5.size, fun q hq => m5.block q (by have := F.bel.size; omega) (by omega)⟩
    refine h_putS 3 w.heap.size rfl rfl (by kernel_rfl) rfl rfl rfl rfl F.res rfl r5 ?_
    clear F
    generalize w4.setRow _ _ = w5 at m5 h5 r5 O5 B5 ⊢
    refine h_value 4 3 (.int .i64 z) rfl rfl (by kernel_rfl) rfl (by go_simp) r5 ?_
    try simp only [Act.put, List.setIfInBounds_toArray, List.set_cons_zero, List.set_cons_succ]
    refine wpAnyH_done (by kernel_rfl) ?_ _
    go_wp2_with fail
    obtain ⟨X, hX, hbx, hx6, hx16⟩ := bxs_part hok O5 ho
    subst hX
    refine bodyPost_ret (v := .tuple #[svV (some ⟨G, o, none⟩) X.length c busy nd rank now, .int .i64 z]) ?_ rfl ?_
    · exact results_srv Tryz.results7 _ _ w.heap.size _ _ rfl rfl h5 rfl
    · exact ⟨X, some ⟨G, o, none⟩, c, busy, nd, rank, now, z, rfl, hbx, hx6, hx16, B5⟩
end Go.Proofs.YtnhmecabppaboaaGreat

/- What is drawn of servers: DrawServerPut. -/

set_option linter.unusedVariables false
set_option linter.unusedSimpArgs false
set_option maxRecDepth 20000
namespace Go.Proofs.YtnhmecabppaboaaGreat
open Go.RowKit

/-- A frame goes into a fresh block, in a region that draws its order. -/
theorem h_putF {md : Region.Mode} {ops : Array Oper} {Q : Exit → Act → World → Prop} {S : World → Prop} (i g : Nat) {oi : Oper} {fuel : Nat} {listed : Array Bool} {a : Act} {w : World} {f : Frm} {af : Option Addr} {cf : Nat} {x y : Operand} {C : Array Value}
    (hi : ops.toList[i]? = some oi) (hd : oi.dst = none) (hr : Region.ready md ops listed = [i]) (hw : Region.wanted oi (yielded ops a.tmps) = true) (ho : oi.op = .store 35 x y) (hx : a.eval x = .pointer (some ⟨g, 0, none⟩)) (hy : a.eval y = frV f.id f.rm f.ln af f.D.length cf)
    (hg : w.heap[g]? = some (.cells C 35 (0, 0))) (hC : C.size = 4) (hS : S (w.setRow g (frC f af cf)))
    (k : wpAnyH Tryz.prog md ops Q S fuel (listed.setIfInBounds i true) a (w.setRow g (frC f af cf))) : wpAnyH Tryz.prog md ops Q S (fuel + 1) listed a w := by
  refine held_op i (op_at hi) hr hw (wp_store_row 35 x y ho g (frC f af cf) hx hy 35 C hg (by kernel_rfl) (hC.trans rfl) (by simp [Value.oneCell']) ⟨hS, ?_⟩)
  rw [hd]
  exact k
theorem results_sf {fn : Func} {p q r : Tmp} (h : fn.results = #[.cell p 26, .tmp q, .cell r 35]) (tmps : Array Value) (w : World) (g g2 : Nat) (C D : Array Value) (v : Value) (hp : tmps.getD p undef = .pointer (some ⟨g, 0, none⟩)) (hq : tmps.getD q undef = v) (hr : tmps.getD r undef = .pointer (some ⟨g2, 0, none⟩))
    (hg : w.heap[g]? = some (.cells C 26 (0, 0))) (hC : C.size = 5) (hg2 : w.heap[g2]? = some (.cells D 35 (0, 0))) (hD : D.size = 4) : (results fn tmps).run Tryz.prog w = .ok (.tuple #[.agg C, v, .agg D]) w := by
  have hp' : tmps[p]?.getD undef = .pointer (some ⟨g, 0, none⟩) := by simpa using hp
  have hq' : tmps[q]?.getD undef = v := by simpa using hq
  have hr' : tmps[r]?.getD undef = .pointer (some ⟨g2, 0, none⟩) := by simpa using hr
  have hl := run_loadVar_row (P := Tryz.prog) w g 26 26 C (0, 0) _ hg Tryz.underlying26 rfl (by rw [hC]; kernel_rfl)
  have hl2 := run_loadVar_row (P := Tryz.prog) w g2 35 35 D (0, 0) _ hg2 Tryz.underlying35 rfl (by rw [hD]; kernel_rfl)
  simp [results, h, hp', hq', hr', asAddr, hl, hl2]
/-- A box, and the first of its frames. -/
theorem BoxO.first {G k : Nat} {X : List (List Frm)} {L H : Nat → Nat} {w : World} (h : BoxO False G k (fun j => j < X.length) X L H w) {j : Nat} (hj : j < X.length) (h16 : (nthB X j).length ≤ 16) :
    ∃ al cl, w.cell? ⟨G, j, none⟩ = some (.slice al (nthB X j).length cl) ∧ (0 < (nthB X j).length → ∃ gf oF ad cf, al = some ⟨gf, oF, none⟩ ∧ L j ≤ gf ∧ FrC gf oF ad cf (nthF (nthB X j) 0) w) := by
  obtain ⟨cur, hb, hc, hmm⟩ := h.row
  obtain ⟨v, hv, hox⟩ := hmm j hj
  obtain ⟨al, cl, rfl, hf, hA⟩ := hox.is (by omega)
  refine ⟨al, cl, by rw [cell_of_row w G _ _ _ _ hb]; exact hv, fun hp => ?_⟩
  obtain ⟨gf, oF, ad, cf, rfl, hC⟩ := hf.2 0 hp
  rw [Nat.zero_mul, Nat.add_zero] at hC
  refine ⟨gf, oF, ad, cf, rfl, ?_, hC⟩
  obtain ⟨M, a, c, e, hM, ho, hfar, hu⟩ := hox
  cases e
  exact (ho.1.lt gf rfl).1
/-- While a server and a frame that have been drawn are handed over. -/
structure SvFp (B p : Nat) (a : Option Addr) (len cap : Nat) (w0 w : World) (g : Nat) (s : Srv) (o n c : Nat) (busy nd rank now : Int) (G k : Nat) (L H : Nat → Nat) (u : World) : Prop where
  fs : SvFs B p a len cap w0 w g s o n c busy nd rank now G k L H u
  frm : u.heap[w.heap.size + 1]? = some (.cells #[.int .i64 0, .bool false, .int .i64 0, .slice none 0 0] 35 (0, 0))
  hi : w.heap.size + 1 < p ∧ w.heap.size + 1 < g ∧ w.heap.size + 1 < w0.heap.size
section
variable {B p : Nat} {a : Option Addr} {len cap : Nat} {w0 w : World} {g : Nat} {s : Srv} {o n c G k : Nat} {busy nd rank now : Int} {L H : Nat → Nat} {u u' : World}
theorem SvFp.num (h : SvFp B p a len cap w0 w g s o n c busy nd rank now G k L H u) (e : u.grownBy u' (some p)) (st : St B p a len cap u') : SvFp B p a len cap w0 w g s o n c busy nd rank now G k L H u' := by
  have := h.hi
  exact ⟨h.fs.num e st, (e.block _ (Array.getElem?_eq_some_iff.1 h.frm).1 (fun e => by cases e; omega)).trans h.frm, h.hi⟩
theorem SvFp.below (h : SvFp B p a len cap w0 w g s o n c busy nd rank now G k L H u) (b : Below u.heap.size u u') : SvFp B p a len cap w0 w g s o n c busy nd rank now G k L H u' := ⟨h.fs.below b, blkV h.frm b, h.hi⟩
/-- Both answers are stored. -/
theorem SvFp.fin {f : Frm} {af : Option Addr} {cf : Nat} (h : SvFp B p a len cap w0 w g s o n c busy nd rank now G k L H u) (ho : o + n ≤ s.bx.length) {B2 : Nat} (own : OwnI B2 f.D (.slice af f.D.length cf) u) (hB2 : w.heap.size + 2 ≤ B2) {u2 : World}
    (m : Mid w.heap.size (w.heap.size + 2) u u2) : ∃ X : List (List Frm), X.length = n ∧ SvRd X (some ⟨G, o, none⟩) w u2 ∧ Nums af f.D u2 := by
  have hlow := h.fs.d.low
  have hpw := h.fs.d.pw
  have hi := h.hi
  have hb := h.fs.bel
  have k2 : Kp (fun q => w.heap.size + 2 ≤ q) u u2 := ⟨m.size, fun q hq hl => m.block q hl (.inr hq), m.os, m.tape, m.output⟩
  obtain ⟨X, e, h1, h2, h3⟩ := bxs_part h.fs.d.ok (h.fs.d.box.kp k2 (by show _ ≤ G; omega) (fun j hj q h1 h2 => by have := hlow.2 j hj; show _ ≤ q; omega)) ho
  refine ⟨X, e, ⟨h1, h2, h3, hb.trans ⟨m.os, m.tape, m.output, m.size, fun q hq => m.block q (by have := hb.size; omega) (by omega)⟩⟩, ?_⟩
  exact ((own.kp k2 (fun q hq => by have := (own.1.lt q hq).1; show _ ≤ q; omega)).numsAt).2
end
end Go.Proofs.YtnhmecabppaboaaGreat
