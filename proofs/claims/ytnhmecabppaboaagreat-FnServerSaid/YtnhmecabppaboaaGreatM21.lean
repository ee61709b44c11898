/- The service on its way: what stands; its events told. -/
import Derived.Test.YtnhmecabppaboaaGreatM19
import Derived.Test.YtnhmecabppaboaaGreatM15
import Derived.Test.YtnhmecabppaboaaGreatM20
import Derived.Test.YtnhmecabppaboaaGreatM17

set_option linter.unusedVariables false
set_option linter.unusedSimpArgs false
namespace Go.Proofs.YtnhmecabppaboaaGreat
open Go.RowKit

abbrev seC (G n : Nat) (busy node rank now : Int) (v : Value) : Array Value := #[.slice (some ⟨G, 0, none⟩) n n, .int .i64 busy, .int .i64 node, .int .i64 rank, .int .i64 now, v]
/-- Where all of it lies: the service's block p, the boxes' row G, the boxes, the events' row and their data. -/
structure SvcI (B p G n k : Nat) (L H LE HE : Nat → Nat) (v : Value) : Prop where
  low : B ≤ p ∧ FromB B G n L
  pG : p ≠ G
  pb : ∀ j, j < n → p < L j ∨ H j ≤ p
  pe : ∀ j, j < k → p < LE j ∨ HE j ≤ p
  pv : ∀ g, v.ownBlock = some g → g ≠ p ∧ g ≠ G ∧ ∀ j, j < n → g < L j ∨ H j ≤ g
  be : ∀ i, i < n → ∀ j, j < k → H i ≤ LE j ∨ HE j ≤ L i
  Ge : ∀ j, j < k → G < LE j ∨ HE j ≤ G
structure Svc (B p G : Nat) (s : Srv) (L H : Nat → Nat) (N : List Ev) (v : Value) (P : Nat → EvP) (LE HE : Nat → Nat) (w0 w : World) : Prop where
  ix : SvcI B p G s.bx.length N.length L H LE HE v
  blk : w.heap[p]? = some (.cells (seC G s.bx.length s.busy s.node s.rank s.now v) 61 (0, 0))
  box : BoxO True G s.bx.length (fun j => j < s.bx.length) s.bx L H w
  ev : RowE OwnE B N.length N P LE HE v w
  bel : Below B w0 w
  base : B ≤ w0.heap.size
section
variable {B p G : Nat} {s : Srv} {L H : Nat → Nat} {N : List Ev} {v : Value} {P : Nat → EvP} {LE HE : Nat → Nat} {w0 w w' : World}
theorem blkW {w w' : World} {g : Nat} {o : Obj} (h : w.heap[g]? = some o) (b : Below w.heap.size w w') : w'.heap[g]? = some o := (b.block g (Array.getElem?_eq_some_iff.1 h).1).trans h
theorem Svc.below (h : Svc B p G s L H N v P LE HE w0 w) (b : Below w.heap.size w w') : Svc B p G s L H N v P LE HE w0 w' :=
  ⟨h.ix, blkW h.blk b, h.box.below b, h.ev.below ownE_sep b, h.bel.trans (b.mono (Nat.le_trans h.base h.bel.size)), h.base⟩
theorem Svc.drew (h : Svc B p G s L H N v P LE HE w0 w) : Svc B p G s L H N v P LE HE w0 w.drew := h.below (Below.refl _ _).drew
theorem Svc.cell (h : Svc B p G s L H N v P LE HE w0 w) (j : Nat) : w.cell? ⟨p, j, none⟩ = (seC G s.bx.length s.busy s.node s.rank s.now v)[j]? := cell_of_row w p j _ _ _ h.blk
theorem Svc.free (h : Svc B p G s L H N v P LE HE w0 w) (j : Nat) : w.frozen? ⟨p, j, none⟩ = false := frozen_of_row w p j _ _ h.blk
theorem Svc.lt (h : Svc B p G s L H N v P LE HE w0 w) : p < w.heap.size := (Array.getElem?_eq_some_iff.1 h.blk).1
/-- The service's own block turns, in numbers alone. -/
theorem Svc.turn (h : Svc B p G s L H N v P LE HE w0 w) {busy node rank now : Int} (m : Mid p (p + 1) w w') (hb : w'.heap[p]? = some (.cells (seC G s.bx.length busy node rank now v) 61 (0, 0))) : Svc B p G ⟨s.bx, busy, node, rank, now⟩ L H N v P LE HE w0 w' := by
  have ix := h.ix
  refine ⟨ix, hb, h.box.kp (Y := fun q => q ≠ p) ⟨m.size, fun q hq hl => m.block q hl (by omega), m.os, m.tape, m.output⟩ ix.pG.symm (fun j hj q h1 h2 => by
    show q ≠ p
    have := ix.pb j hj
    omega), h.ev.sep ownE_sep m (fun g hg => by have := (ix.pv g hg).1; omega) (fun j hj => by have := ix.pe j hj; omega), h.bel.trans (m.below ix.low.1 (Nat.le_trans h.base h.bel.size)), h.base⟩
theorem Svc.set (h : Svc B p G s L H N v P LE HE w0 w) (k : Nat) (x : Value) {busy node rank now : Int} (he : (seC G s.bx.length s.busy s.node s.rank s.now v).setIfInBounds k x = seC G s.bx.length busy node rank now v) : Svc B p G ⟨s.bx, busy, node, rank, now⟩ L H N v P LE HE w0 (w.setCell ⟨p, k, none⟩ x) :=
  h.turn (mid_cell w p k x) (by rw [← he]; exact heap_setCell_same _ _ _ _ _ _ h.blk)
theorem Svc.is (h : Svc B p G s L H N v P LE HE w0 w) : ∃ a c, v = .slice a N.length c := h.ev.is
theorem Svc.cellG (h : Svc B p G s L H N v P LE HE w0 w) (hb : boxesB s.bx = true) {j : Nat} (hj : j < s.bx.length) : ∃ al cl, w.cell? ⟨G, j, none⟩ = some (.slice al (nthB s.bx j).length cl) ∧ Frs al (nthB s.bx j) w ∧ Adr al (nthB s.bx j).length cl := by
  obtain ⟨cur, h1, h2, h3⟩ := h.box.row
  obtain ⟨v, hv, ho⟩ := h3 j hj
  obtain ⟨a, c, rfl, hf, hA⟩ := ho.is (by have := (box_small hb hj).1; omega)
  exact ⟨a, c, by rw [cell_of_row w G _ _ _ _ h1]; exact hv, hf, hA⟩
end
theorem row_ne {B : Nat} {T T' : TypeId} {sz n g : Nat} {v : Value} {xs : List Value} {C : Array Value} {z : Nat × Nat} {w : World} (h : w.ownsRow B T sz v n xs) (hg : w.heap[g]? = some (.cells C T' z)) (hT : T ≠ T') : v.ownBlock ≠ some g := by
  intro e
  rcases h.2 with ⟨e1, _⟩ | ⟨g', cap, cur, e1, hb, hg', _⟩
  · rw [e1] at e; cases e
  · rw [e1] at e
    cases e
    have := hg'.symm.trans hg
    injection this with this
    injection this with _ h2 _
    exact hT h2
theorem RowE.more {M : Nat → Nat → Ev → EvP → World → Prop} {B k : Nat} {N N' : List Ev} {P : Nat → EvP} {L H : Nat → Nat} {v : Value} {w : World} (h : RowE M B k N P L H v w) (hN : ∀ j, j < k → nthE N' j = nthE N j) : RowE M B k N' P L H v w := by
  refine ⟨?_, fun j hj => by rw [hN j hj]; exact h.mem j hj, h.out, h.far, h.apart, h.lt⟩
  rw [flatE_congr N N' P P k hN (fun _ _ => rfl)]
  exact h.own
/-- An event is appended, in a region that draws its order. -/
theorem held_appE2 {M : Nat → Nat → Ev → EvP → World → Prop} (hM : SepE M) {B k : Nat} {N : List Ev} {P : Nat → EvP} {L H : Nat → Nat} {md : Region.Mode} {ops : Array Oper} {Q : Exit → Act → World → Prop} {S : World → Prop} (i d : Nat) (v : Value) (p : EvP) (lo hi g1 c1 : Nat) {oi : Oper} {fuel : Nat} {listed : Array Bool} {a : Act} {w : World} {s x : Operand}
    (hi0 : ops.toList[i]? = some oi) (hd : oi.dst = some d) (hr : Region.ready md ops listed = [i]) (hw : Region.wanted oi (yielded ops a.tmps) = true) (ho : oi.op = .call { callee := .builtin .append, args := #[s, x], argTypes := #[29, 29] })
    (hs : a.eval s = v) (h : RowE M B k N P L H v w) (hk : k ≤ 1000000) (hx : a.eval x = .slice (some ⟨g1, 0, none⟩) 1 c1) (hg1 : w.heap[g1]? = some (.cells (evC (nthE N k) p.1 p.2) 43 (0, 0)))
    (hm : M lo hi (nthE N k) p w) (hB : B ≤ lo) (hlh : lo ≤ hi) (hhi : hi ≤ w.heap.size) (hlo : ∀ j, j < k → H j ≤ lo) (hg : ∀ g, v.ownBlock = some g → g < lo) (hBw : B ≤ w.heap.size)
    (K : ∀ v' w', RowE M B (k + 1) N (fun j => if j = k then p else P j) (fun j => if j = k then lo else L j) (fun j => if j = k then hi else H j) v' w' → w.grownBy w' v.ownBlock → (v'.ownBlock = v.ownBlock ∨ v'.ownBlock = some w.heap.size) → S w' ∧ wpAnyH Tryz.prog md ops Q S fuel (listed.setIfInBounds i true) (a.put (some d) v') w') : wpAnyH Tryz.prog md ops Q S (fuel + 1) listed a w := by
  obtain ⟨i0, hi1, hz0, hz1, hz2⟩ := info_parts infoE
  obtain ⟨v', w', hrun, r1, r2, -, r4⟩ := run_append_own_at (P := Tryz.prog) w B 29 oi.type 43 i0 (.agg evZC) 7 72 Tryz.underlying29 hi1 hz0 hz1 hz2 rfl (by decide) v k (flatE N P k) h.own ⟨g1, 0, none⟩ 1 c1 (evC (nthE N k) p.1 p.2).toList rfl
    (fun j u hu => by rw [show (⟨g1, 0, none⟩ : Addr).add j = ⟨g1, j, none⟩ by unfold Addr.add; split <;> simp_all, cell_of_row w g1 _ _ _ _ hg1, ← Array.getElem?_toList]; exact hu) (fun u hu => (Array.all_eq_true_iff_forall_mem.1 (evC_one (nthE N k) p.1 p.2)) u (by simpa using hu)) (by unfold maxLen; omega) (by omega) hBw
  exact h_new i d v' w' hi0 hd hr hw (by simp [execOp, ho, resolve, invoke, builtin, hs, hx, hrun, Result.andThen]) (K v' w' (h.app hM hm hB hlh hhi hlo hg r1 r2 r4) r2 r4)
/-- One more event: where it all lies. -/
theorem SvcI.more {B p G n k t : Nat} {L H LE HE : Nat → Nat} {v v' : Value} {lo hi : Nat} (h : SvcI B p G n k L H LE HE v) (hp : p < t) (hG : G < t) (hH : ∀ j, j < n → H j ≤ t) (hlo : t ≤ lo) (hlh : lo ≤ hi) (hv : ∀ g, v'.ownBlock = some g → v.ownBlock = some g ∨ t ≤ g) : SvcI B p G n (k + 1) L H (fun j => if j = k then lo else LE j) (fun j => if j = k then hi else HE j) v' := by
  refine ⟨h.low, h.pG, h.pb, fun j hj => ?_, fun g hg => ?_, fun i hi0 j hj => ?_, fun j hj => ?_⟩
  · by_cases e : j = k
    · subst e; simp only [↓reduceIte]; omega
    · simp only [if_neg e]; exact h.pe j (by omega)
  · rcases hv g hg with e | e
    · exact h.pv g e
    · exact ⟨by omega, by omega, fun j hj => by have := hH j hj; omega⟩
  · have := hH i hi0
    by_cases e : j = k
    · subst e; simp only [↓reduceIte]; omega
    · simp only [if_neg e]; exact h.be i hi0 j (by omega)
  · by_cases e : j = k
    · subst e; simp only [↓reduceIte]; omega
    · simp only [if_neg e]; exact h.Ge j (by omega)
set_option maxHeartbeats 16000000 in
set_option maxRecDepth 20000 in
/-- (*service).tell. -/
theorem svcTell (B p G : Nat) (s : Srv) (L H : Nat → Nat) (N : List Ev) (v : Value) (P : Nat → EvP) (LE HE : Nat → Nat) (w0 : World) (jn : Nat) (hjn : s.node = (jn : Int)) (kind : Int) (f : Frm) (af : Option Addr) (cf : Nat) (w : World) (hS : Svc B p G s L H N v P LE HE w0 w) (hn : Nums af f.D w) (hD : f.D.length ≤ 1048576) (hN : N.length ≤ 900000) :
    Calls Tryz.prog 90 #[.pointer (some ⟨p, 0, none⟩), .int .i64 kind, frV f.id f.rm f.ln af f.D.length cf] w fun e w' => e = .returned (.tuple #[]) ∧ Kp (fun q => q ≠ p ∧ v.ownBlock ≠ some q) w w' ∧ ∃ v' P' LE' HE', Svc B p G s L H (N ++ [⟨s.now, jn, kind, f⟩]) v' P' LE' HE' w0 w' := by
  obtain ⟨HF, b⟩ := one_sv w (frC f af cf) 35
  go_enter Tryz.func90, Tryz.ntmps90
  go_upto_region 1 with fail
  replace hS := hS.below b
  replace hn := hn.below b
  have hW := b
  clear b
  generalize w.alloc _ = W at HF hS hn hW ⊢
  obtain ⟨gf, hgf⟩ : ∃ gf, gf = w.heap.size := ⟨_, rfl⟩
  rw [← hgf] at HF ⊢
  clear hgf
  obtain ⟨bx, busy, node, rank, now⟩ := s
  dsimp only at hjn
  replace hjn := Lib.hid hjn
  refine wp_region_held (S := fun u => (u.cell? ⟨p, 4, none⟩ = some (.int .i64 now) ∧ u.cell? ⟨p, 2, none⟩ = some (.int .i64 node)) ∧ u.heap[gf]? = some (.cells (frC f af cf) 35 (0, 0))) (by kernel_rfl) ?_
  have b : Below W.heap.size W { W with drawn := W.drawn + 1 } := (Below.refl _ _).drew
  replace HF := blkW HF b
  replace hS := hS.below b
  replace hn := hn.below b
  replace hW := Below.then2 hW b
  generalize ({ W with drawn := W.drawn + 1 } : World) = V at HF hS hn hW ⊢
  clear b
  have hC := And.intro (And.intro (hS.cell 4) (hS.cell 2)) HF
  have hpV := hS.lt
  have hGV := hS.box.lt
  have hHV : ∀ j, j < bx.length → H j ≤ V.heap.size := fun j hj => (hS.box.out j hj).2.1
  have hHE : ∀ j, j < N.length → HE j ≤ V.heap.size := fun j hj => (hS.ev.out j hj).2.2
  have hgv : ∀ g, v.ownBlock = some g → g < V.heap.size := hS.ev.lt
  have hVs : B ≤ V.heap.size := Nat.le_trans hS.base hS.bel.size
  have hgp : gf ≠ p := by
    rintro rfl
    have := HF.symm.trans hS.blk
    simp at this
  refine h_take 0 6 (.pointer (some ⟨p, 0, none⟩)) rfl rfl (by kernel_rfl) (by kernel_rfl) (by kernel_rfl) (fun _ _ _ h => h) rfl (fun u hu => by go_simp) hC ?_
  refine h_take 1 7 (.pointer (some ⟨p, 0, none⟩)) rfl rfl (by kernel_rfl) (by kernel_rfl) (by kernel_rfl) (fun _ _ _ h => h) rfl (fun u hu => by go_simp) hC ?_
  refine h_take 2 8 (.pointer (some ⟨p, 0, none⟩)) rfl rfl (by kernel_rfl) (by kernel_rfl) (by kernel_rfl) (fun _ _ _ h => h) rfl (fun u hu => by go_simp) hC ?_
  refine h_take 3 9 (.pointer (some ⟨p, 5, none⟩)) rfl rfl (by kernel_rfl) (by kernel_rfl) (by kernel_rfl) (fun _ _ _ h => h) rfl (fun u hu => by go_simp) hC ?_
  simp only [Act.put, List.setIfInBounds_toArray, List.set_cons_zero, List.set_cons_succ]
  refine h_take 5 11 (.pointer (some ⟨p, 0, none⟩)) rfl rfl (by kernel_rfl) (by kernel_rfl) (by kernel_rfl) (fun _ _ _ h => h) rfl (fun u hu => by go_simp) hC ?_
  refine h_take 6 12 (.pointer (some ⟨p, 0, none⟩)) rfl rfl (by kernel_rfl) (by kernel_rfl) (by kernel_rfl) (fun _ _ _ h => h) rfl (fun u hu => by go_simp) hC ?_
  refine h_take 7 13 (.pointer (some ⟨p, 0, none⟩)) rfl rfl (by kernel_rfl) (by kernel_rfl) (by kernel_rfl) (fun _ _ _ h => h) rfl (fun u hu => by go_simp) hC ?_
  simp only [Act.put, List.setIfInBounds_toArray, List.set_cons_zero, List.set_cons_succ]
  refine h_take 8 14 (.pointer (some ⟨p, 4, none⟩)) rfl rfl (by kernel_rfl) (by kernel_rfl) (by kernel_rfl) (fun _ _ _ h => h) rfl (fun u hu => by go_simp) hC ?_
  refine h_take 9 15 (.int .i64 now) rfl rfl (by kernel_rfl) (by kernel_rfl) (by kernel_rfl) (fun _ _ _ h => h) rfl (fun u hu => by have c := hu.1.1; go_simp) hC ?_
  simp only [Act.put, List.setIfInBounds_toArray, List.set_cons_zero, List.set_cons_succ]
  refine h_take 10 16 (.pointer (some ⟨p, 0, none⟩)) rfl rfl (by kernel_rfl) (by kernel_rfl) (by kernel_rfl) (fun _ _ _ h => h) rfl (fun u hu => by go_simp) hC ?_
  refine h_take 11 17 (.pointer (some ⟨p, 0, none⟩)) rfl rfl (by kernel_rfl) (by kernel_rfl) (by kernel_rfl) (fun _ _ _ h => h) rfl (fun u hu => by go_simp) hC ?_
  refine h_take 12 18 (.pointer (some ⟨p, 0, none⟩)) rfl rfl (by kernel_rfl) (by kernel_rfl) (by kernel_rfl) (fun _ _ _ h => h) rfl (fun u hu => by go_simp) hC ?_
  simp only [Act.put, List.setIfInBounds_toArray, List.set_cons_zero, List.set_cons_succ]
  refine h_take 13 19 (.pointer (some ⟨p, 2, none⟩)) rfl rfl (by kernel_rfl) (by kernel_rfl) (by kernel_rfl) (fun _ _ _ h => h) rfl (fun u hu => by go_simp) hC ?_
  refine h_take 14 20 (.int .i64 node) rfl rfl (by kernel_rfl) (by kernel_rfl) (by kernel_rfl) (fun _ _ _ h => h) rfl (fun u hu => by have c := hu.1.2; go_simp) hC ?_
  refine h_take 15 21 (.int .i64 kind) rfl rfl (by kernel_rfl) (by kernel_rfl) (by kernel_rfl) (fun _ _ _ h => h) rfl (fun u hu => by go_simp) hC ?_
  simp only [Act.put, List.setIfInBounds_toArray, List.set_cons_zero, List.set_cons_succ]
  refine h_take 16 22 (frV f.id f.rm f.ln af f.D.length cf) rfl rfl (by kernel_rfl) (by kernel_rfl) (by kernel_rfl) (fun _ _ _ h => h) rfl (fun u hu => frTookI (f := f) (af := af) (cf := cf) hu.2 rfl rfl) hC ?_
  simp only [Act.put, List.setIfInBounds_toArray, List.set_cons_zero, List.set_cons_succ]
  refine held_fork 4 17 (by kernel_rfl) (op_at rfl) (op_at rfl) rfl rfl ?pa ?pb
  case pa =>
    refine value_wp v V (by have c := hS.cell 5; go_simp) ?_
    refine ⟨hC, ?_⟩
    simp only [Act.put, List.setIfInBounds_toArray, List.set_cons_zero, List.set_cons_succ]
    refine h_call 17 23 87 #[frV f.id f.rm f.ln af f.D.length cf] rfl rfl (by kernel_rfl) rfl (by go_simp) ?_
    refine (copiedFr f.id f.rm f.ln af f.D cf _ hn hD).mono ?_
    rintro e w2 ⟨a3, rfl, hM, b⟩
    have hVle := b.size
    have hub : ∀ q, (Value.slice a3 f.D.length f.D.length).ownBlock = some q → q < w2.heap.size := fun q hq => (hM.1.lt q hq).2
    replace HF := blkW HF b
    replace hS := hS.below b
    replace hW := Below.then2 hW b
    clear b hn hC
    have hC := And.intro (And.intro (hS.cell 4) (hS.cell 2)) HF
    refine ⟨_, rfl, hC, ?_⟩
    simp only [Act.put, List.setIfInBounds_toArray, List.set_cons_zero, List.set_cons_succ]
    refine h_take 18 24 (.agg #[.int .i64 now, .int .i64 node, .int .i64 kind, .int .i64 f.id, .bool f.rm, .int .i64 f.ln, .slice a3 f.D.length f.D.length]) rfl rfl (by kernel_rfl) (by kernel_rfl) (by kernel_rfl) (fun _ _ _ h => h) rfl (fun u hu => by go_simp) hC ?_
    simp only [Act.put, List.setIfInBounds_toArray, List.set_cons_zero, List.set_cons_succ]
    refine h_new 19 25 (.slice (some ⟨w2.heap.size, 0, none⟩) 1 1) (w2.alloc (.cells #[.int .i64 now, .int .i64 node, .int .i64 kind, .int .i64 f.id, .bool f.rm, .int .i64 f.ln, .slice a3 f.D.length f.D.length] 43)) rfl rfl (by kernel_rfl) rfl (by go_simp) ?_
    have HT := heap_alloc_new w2 (.cells #[.int .i64 now, .int .i64 node, .int .i64 kind, .int .i64 f.id, .bool f.rm, .int .i64 f.ln, .slice a3 f.D.length f.D.length] 43)
    have b := below_more (Below.refl w2.heap.size w2) (.cells #[.int .i64 now, .int .i64 node, .int .i64 kind, .int .i64 f.id, .bool f.rm, .int .i64 f.ln, .slice a3 f.D.length f.D.length] 43)
    have hM2 : OwnE V.heap.size w2.heap.size (⟨now, jn, kind, f⟩ : Ev) (a3, f.D.length) (w2.alloc (.cells #[.int .i64 now, .int .i64 node, .int .i64 kind, .int .i64 f.id, .bool f.rm, .int .i64 f.ln, .slice a3 f.D.length f.D.length] 43)) := ⟨hM.below' b, hub⟩
    have hle2 := b.size
    replace HF := blkW HF b
    replace hS := hS.below b
    replace hW := Below.then2 hW b
    clear b hM hub hC
    replace HT : (w2.alloc (.cells #[.int .i64 now, .int .i64 node, .int .i64 kind, .int .i64 f.id, .bool f.rm, .int .i64 f.ln, .slice a3 f.D.length f.D.length] 43)).heap[w2.heap.size]? = some (.cells (evC (⟨now, jn, kind, f⟩ : Ev) a3 f.D.length) 43 (0, 0)) := by rw [HT]; show some (Obj.cells #[.int .i64 now, .int .i64 node, .int .i64 kind, .int .i64 f.id, .bool f.rm, .int .i64 f.ln, .slice a3 f.D.length f.D.length] _ _) = _; rw [hjn.out]
    generalize w2.alloc _ = w3 at HT HF hS hM2 hle2 hW ⊢
    have hC := And.intro (And.intro (hS.cell 4) (hS.cell 2)) HF
    refine ⟨hC, ?_⟩
    simp only [Act.put, List.setIfInBounds_toArray, List.set_cons_zero, List.set_cons_succ]
    have hnE : ∀ j, j < N.length → nthE (N ++ [⟨now, jn, kind, f⟩]) j = nthE N j := fun j hj => nthE_app hj
    have hnL : nthE (N ++ [⟨now, jn, kind, f⟩]) N.length = ⟨now, jn, kind, f⟩ := by have := nthE_app2 (L := N) (M := [(⟨now, jn, kind, f⟩ : Ev)]) (j := 0); rw [Nat.add_zero] at this; exact this
    have RE := hS.ev.more hnE
    refine held_appE2 ownE_sep 20 26 v (a3, f.D.length) V.heap.size w2.heap.size w2.heap.size 1 rfl rfl (by kernel_rfl) rfl rfl rfl RE (by omega) rfl (by rw [hnL]; exact HT) (by rw [hnL]; exact hM2) hVs hVle hle2 hHE hgv (by omega) ?_
    intro v4 w4 RE4 gr r4
    have hv4 : ∀ g, v4.ownBlock = some g → v.ownBlock = some g ∨ V.heap.size ≤ g := fun g hg => by
      rcases r4 with e | e
      · rw [e] at hg; exact .inl hg
      · rw [e] at hg; cases hg; exact .inr (by omega)
    have ix4 := hS.ix.more (t := V.heap.size) (lo := V.heap.size) (hi := w2.heap.size) (v' := v4) hpV hGV hHV (Nat.le_refl _) hVle hv4
    have hpv : v.ownBlock ≠ some p := fun e => (hS.ix.pv p e).1 rfl
    have hGv : v.ownBlock ≠ some G := fun e => (hS.ix.pv G e).2.1 rfl
    have blk4 := (gr.block p hS.lt (fun e => hpv e.symm)).trans hS.blk
    have kq : Kp (fun q => v.ownBlock ≠ some q) w3 w4 := ⟨gr.size, fun q hq hl => gr.block q hl (fun e => hq e.symm), gr.os, gr.tape, gr.output⟩
    have box4 := hS.box.kp kq hGv (fun j hj q h1 h2 e => by have := (hS.ix.pv q e).2.2 j hj; omega)
    have bel4 : Below B w0 w4 := hS.bel.trans ⟨gr.os, gr.tape, gr.output, gr.size, fun q hq => gr.block q (by have := hS.bel.size; have := hS.base; omega) (fun e => by have := RE.own; have h5 := (World.ownsRow.lt RE.own q e.symm).1; omega)⟩
    have HF4 := (gr.block gf (Array.getElem?_eq_some_iff.1 HF).1 (fun e => row_ne RE.own HF (by decide) e.symm)).trans HF
    have hbase := hS.base
    have kw4 : Kp (fun q => q ≠ p ∧ v.ownBlock ≠ some q) w w4 := Kp.trans (Kp.ofBelow hW) ⟨kq.size, fun q hq hl => kq.block q hq.2 hl, kq.os, kq.tape, kq.output⟩
    clear hS RE hW HT hM2 kq gr r4 hC hnE hnL hgv hHE
    have hC := And.intro (And.intro (cell_of_row w4 p 4 _ _ _ blk4) (cell_of_row w4 p 2 _ _ _ blk4)) HF4
    refine ⟨hC, ?_⟩
    simp only [Act.put, List.setIfInBounds_toArray, List.set_cons_zero, List.set_cons_succ]
    refine h_value 21 27 (.pointer (some ⟨p, 0, none⟩)) rfl rfl (by kernel_rfl) rfl (by go_simp) hC ?_
    simp only [Act.put, List.setIfInBounds_toArray, List.set_cons_zero, List.set_cons_succ]
    refine h_value 22 28 (.pointer (some ⟨p, 5, none⟩)) rfl rfl (by kernel_rfl) rfl (by go_simp) hC ?_
    simp only [Act.put, List.setIfInBounds_toArray, List.set_cons_zero, List.set_cons_succ]
    have f5 := frozen_of_row w4 p 5 _ _ blk4
    have c5 := cell_of_row w4 p 5 _ _ _ blk4
    obtain ⟨av4, cv4, rfl⟩ := RE4.is
    refine h_store 23 (w4.setCell ⟨p, 5, none⟩ (.slice av4 (N.length + 1) cv4)) rfl rfl (by kernel_rfl) rfl (by go_simp) ?_
    have m := mid_cell w4 p 5 (.slice av4 (N.length + 1) cv4)
    have blk5 := heap_setCell_same w4 p 5 _ _ (.slice av4 (N.length + 1) cv4) blk4
    have box5 := box4.kp (Y := fun q => q ≠ p) ⟨m.size, fun q hq hl => m.block q hl (by omega), m.os, m.tape, m.output⟩ ix4.pG.symm (fun j hj q h1 h2 => by
      show q ≠ p
      have := ix4.pb j hj
      omega)
    have RE5 := RE4.sep ownE_sep m (fun g hg => by have := (ix4.pv g hg).1; omega) (fun j hj => by have := ix4.pe j hj; omega)
    have bel5 := bel4.trans (m.below ix4.low.1 (Nat.le_trans hbase bel4.size))
    have HF5 := (m.block gf (Array.getElem?_eq_some_iff.1 HF4).1 (by omega)).trans HF4
    have hC5 : ((w4.setCell ⟨p, 5, none⟩ (.slice av4 (N.length + 1) cv4)).cell? ⟨p, 4, none⟩ = some (.int .i64 now) ∧ (w4.setCell ⟨p, 5, none⟩ (.slice av4 (N.length + 1) cv4)).cell? ⟨p, 2, none⟩ = some (.int .i64 node)) ∧ (w4.setCell ⟨p, 5, none⟩ (.slice av4 (N.length + 1) cv4)).heap[gf]? = some (.cells (frC f af cf) 35 (0, 0)) :=
      ⟨⟨cell_of_row _ p 4 _ _ _ blk5, cell_of_row _ p 2 _ _ _ blk5⟩, HF5⟩
    refine ⟨hC5, ?_⟩
    refine wpAnyH_done (by kernel_rfl) ?_ _
    have kw5 : Kp (fun q => q ≠ p ∧ v.ownBlock ≠ some q) w (w4.setCell ⟨p, 5, none⟩ (.slice av4 (N.length + 1) cv4)) := kw4.trans ⟨m.size, fun q hq hl => m.block q hl (by have := hq.1; omega), m.os, m.tape, m.output⟩
    clear kw4
    clear hC hC5 blk4 box4 RE4 bel4 HF4 HF5 f5 c5 m
    generalize w4.setCell _ _ = w5 at blk5 box5 RE5 bel5 kw5 ⊢
    go_wp2_with fail
    go_end0
    exact ⟨rfl, kw5, _, _, _, _, ⟨by rw [List.length_append]; exact ix4, blk5, box5, by rw [List.length_append]; exact RE5, bel5, hbase⟩⟩
  case pb =>
    refine call_wp 87 #[frV f.id f.rm f.ln af f.D.length cf] (by go_simp) ?_
    refine (copiedFr f.id f.rm f.ln af f.D cf _ hn hD).mono ?_
    rintro e w2 ⟨a3, rfl, hM, b⟩
    have hVle := b.size
    have hub : ∀ q, (Value.slice a3 f.D.length f.D.length).ownBlock = some q → q < w2.heap.size := fun q hq => (hM.1.lt q hq).2
    replace HF := blkW HF b
    replace hS := hS.below b
    replace hW := Below.then2 hW b
    clear b hn hC
    have hC := And.intro (And.intro (hS.cell 4) (hS.cell 2)) HF
    refine ⟨_, rfl, hC, ?_⟩
    simp only [Act.put, List.setIfInBounds_toArray, List.set_cons_zero, List.set_cons_succ]
    refine h_take 18 24 (.agg #[.int .i64 now, .int .i64 node, .int .i64 kind, .int .i64 f.id, .bool f.rm, .int .i64 f.ln, .slice a3 f.D.length f.D.length]) rfl rfl (by kernel_rfl) (by kernel_rfl) (by kernel_rfl) (fun _ _ _ h => h) rfl (fun u hu => by go_simp) hC ?_
    simp only [Act.put, List.setIfInBounds_toArray, List.set_cons_zero, List.set_cons_succ]
    refine held_fork 4 19 (by kernel_rfl) (op_at rfl) (op_at rfl) rfl rfl ?pc ?pd
    case pc =>
      refine value_wp v w2 (by have c := hS.cell 5; go_simp) ?_
      refine ⟨hC, ?_⟩
      simp only [Act.put, List.setIfInBounds_toArray, List.set_cons_zero, List.set_cons_succ]
      refine h_new 19 25 (.slice (some ⟨w2.heap.size, 0, none⟩) 1 1) (w2.alloc (.cells #[.int .i64 now, .int .i64 node, .int .i64 kind, .int .i64 f.id, .bool f.rm, .int .i64 f.ln, .slice a3 f.D.length f.D.length] 43)) rfl rfl (by kernel_rfl) rfl (by go_simp) ?_
      have HT := heap_alloc_new w2 (.cells #[.int .i64 now, .int .i64 node, .int .i64 kind, .int .i64 f.id, .bool f.rm, .int .i64 f.ln, .slice a3 f.D.length f.D.length] 43)
      have b := below_more (Below.refl w2.heap.size w2) (.cells #[.int .i64 now, .int .i64 node, .int .i64 kind, .int .i64 f.id, .bool f.rm, .int .i64 f.ln, .slice a3 f.D.length f.D.length] 43)
      have hM2 : OwnE V.heap.size w2.heap.size (⟨now, jn, kind, f⟩ : Ev) (a3, f.D.length) (w2.alloc (.cells #[.int .i64 now, .int .i64 node, .int .i64 kind, .int .i64 f.id, .bool f.rm, .int .i64 f.ln, .slice a3 f.D.length f.D.length] 43)) := ⟨hM.below' b, hub⟩
      have hle2 := b.size
      replace HF := blkW HF b
      replace hS := hS.below b
      replace hW := Below.then2 hW b
      clear b hM hub hC
      replace HT : (w2.alloc (.cells #[.int .i64 now, .int .i64 node, .int .i64 kind, .int .i64 f.id, .bool f.rm, .int .i64 f.ln, .slice a3 f.D.length f.D.length] 43)).heap[w2.heap.size]? = some (.cells (evC (⟨now, jn, kind, f⟩ : Ev) a3 f.D.length) 43 (0, 0)) := by rw [HT]; show some (Obj.cells #[.int .i64 now, .int .i64 node, .int .i64 kind, .int .i64 f.id, .bool f.rm, .int .i64 f.ln, .slice a3 f.D.length f.D.length] _ _) = _; rw [hjn.out]
      generalize w2.alloc _ = w3 at HT HF hS hM2 hle2 hW ⊢
      have hC := And.intro (And.intro (hS.cell 4) (hS.cell 2)) HF
      refine ⟨hC, ?_⟩
      simp only [Act.put, List.setIfInBounds_toArray, List.set_cons_zero, List.set_cons_succ]
      have hnE : ∀ j, j < N.length → nthE (N ++ [⟨now, jn, kind, f⟩]) j = nthE N j := fun j hj => nthE_app hj
      have hnL : nthE (N ++ [⟨now, jn, kind, f⟩]) N.length = ⟨now, jn, kind, f⟩ := by have := nthE_app2 (L := N) (M := [(⟨now, jn, kind, f⟩ : Ev)]) (j := 0); rw [Nat.add_zero] at this; exact this
      have RE := hS.ev.more hnE
      refine held_appE2 ownE_sep 20 26 v (a3, f.D.length) V.heap.size w2.heap.size w2.heap.size 1 rfl rfl (by kernel_rfl) rfl rfl rfl RE (by omega) rfl (by rw [hnL]; exact HT) (by rw [hnL]; exact hM2) hVs hVle hle2 hHE hgv (by omega) ?_
      intro v4 w4 RE4 gr r4
      have hv4 : ∀ g, v4.ownBlock = some g → v.ownBlock = some g ∨ V.heap.size ≤ g := fun g hg => by
        rcases r4 with e | e
        · rw [e] at hg; exact .inl hg
        · rw [e] at hg; cases hg; exact .inr (by omega)
      have ix4 := hS.ix.more (t := V.heap.size) (lo := V.heap.size) (hi := w2.heap.size) (v' := v4) hpV hGV hHV (Nat.le_refl _) hVle hv4
      have hpv : v.ownBlock ≠ some p := fun e => (hS.ix.pv p e).1 rfl
      have hGv : v.ownBlock ≠ some G := fun e => (hS.ix.pv G e).2.1 rfl
      have blk4 := (gr.block p hS.lt (fun e => hpv e.symm)).trans hS.blk
      have kq : Kp (fun q => v.ownBlock ≠ some q) w3 w4 := ⟨gr.size, fun q hq hl => gr.block q hl (fun e => hq e.symm), gr.os, gr.tape, gr.output⟩
      have box4 := hS.box.kp kq hGv (fun j hj q h1 h2 e => by have := (hS.ix.pv q e).2.2 j hj; omega)
      have bel4 : Below B w0 w4 := hS.bel.trans ⟨gr.os, gr.tape, gr.output, gr.size, fun q hq => gr.block q (by have := hS.bel.size; have := hS.base; omega) (fun e => by have := RE.own; have h5 := (World.ownsRow.lt RE.own q e.symm).1; omega)⟩
      have HF4 := (gr.block gf (Array.getElem?_eq_some_iff.1 HF).1 (fun e => row_ne RE.own HF (by decide) e.symm)).trans HF
      have hbase := hS.base
      have kw4 : Kp (fun q => q ≠ p ∧ v.ownBlock ≠ some q) w w4 := Kp.trans (Kp.ofBelow hW) ⟨kq.size, fun q hq hl => kq.block q hq.2 hl, kq.os, kq.tape, kq.output⟩
      clear hS RE hW HT hM2 kq gr r4 hC hnE hnL hgv hHE
      have hC := And.intro (And.intro (cell_of_row w4 p 4 _ _ _ blk4) (cell_of_row w4 p 2 _ _ _ blk4)) HF4
      refine ⟨hC, ?_⟩
      simp only [Act.put, List.setIfInBounds_toArray, List.set_cons_zero, List.set_cons_succ]
      refine h_value 21 27 (.pointer (some ⟨p, 0, none⟩)) rfl rfl (by kernel_rfl) rfl (by go_simp) hC ?_
      simp only [Act.put, List.setIfInBounds_toArray, List.set_cons_zero, List.set_cons_succ]
      refine h_value 22 28 (.pointer (some ⟨p, 5, none⟩)) rfl rfl (by kernel_rfl) rfl (by go_simp) hC ?_
      simp only [Act.put, List.setIfInBounds_toArray, List.set_cons_zero, List.set_cons_succ]
      have f5 := frozen_of_row w4 p 5 _ _ blk4
      have c5 := cell_of_row w4 p 5 _ _ _ blk4
      obtain ⟨av4, cv4, rfl⟩ := RE4.is
      refine h_store 23 (w4.setCell ⟨p, 5, none⟩ (.slice av4 (N.length + 1) cv4)) rfl rfl (by kernel_rfl) rfl (by go_simp) ?_
      have m := mid_cell w4 p 5 (.slice av4 (N.length + 1) cv4)
      have blk5 := heap_setCell_same w4 p 5 _ _ (.slice av4 (N.length + 1) cv4) blk4
      have box5 := box4.kp (Y := fun q => q ≠ p) ⟨m.size, fun q hq hl => m.block q hl (by omega), m.os, m.tape, m.output⟩ ix4.pG.symm (fun j hj q h1 h2 => by
        show q ≠ p
        have := ix4.pb j hj
        omega)
      have RE5 := RE4.sep ownE_sep m (fun g hg => by have := (ix4.pv g hg).1; omega) (fun j hj => by have := ix4.pe j hj; omega)
      have bel5 := bel4.trans (m.below ix4.low.1 (Nat.le_trans hbase bel4.size))
      have HF5 := (m.block gf (Array.getElem?_eq_some_iff.1 HF4).1 (by omega)).trans HF4
      have hC5 : ((w4.setCell ⟨p, 5, none⟩ (.slice av4 (N.length + 1) cv4)).cell? ⟨p, 4, none⟩ = some (.int .i64 now) ∧ (w4.setCell ⟨p, 5, none⟩ (.slice av4 (N.length + 1) cv4)).cell? ⟨p, 2, none⟩ = some (.int .i64 node)) ∧ (w4.setCell ⟨p, 5, none⟩ (.slice av4 (N.length + 1) cv4)).heap[gf]? = some (.cells (frC f af cf) 35 (0, 0)) :=
        ⟨⟨cell_of_row _ p 4 _ _ _ blk5, cell_of_row _ p 2 _ _ _ blk5⟩, HF5⟩
      refine ⟨hC5, ?_⟩
      refine wpAnyH_done (by kernel_rfl) ?_ _
      have kw5 : Kp (fun q => q ≠ p ∧ v.ownBlock ≠ some q) w (w4.setCell ⟨p, 5, none⟩ (.slice av4 (N.length + 1) cv4)) := kw4.trans ⟨m.size, fun q hq hl => m.block q hl (by have := hq.1; omega), m.os, m.tape, m.output⟩
      clear kw4
      clear hC hC5 blk4 box4 RE4 bel4 HF4 HF5 f5 c5 m
      generalize w4.setCell _ _ = w5 at blk5 box5 RE5 bel5 kw5 ⊢
      go_wp2_with fail
      go_end0
      exact ⟨rfl, kw5, _, _, _, _, ⟨by rw [List.length_append]; exact ix4, blk5, box5, by rw [List.length_append]; exact RE5, bel5, hbase⟩⟩
    case pd =>
      refine value_wp (.slice (some ⟨w2.heap.size, 0, none⟩) 1 1) (w2.alloc (.cells #[.int .i64 now, .int .i64 node, .int .i64 kind, .int .i64 f.id, .bool f.rm, .int .i64 f.ln, .slice a3 f.D.length f.D.length] 43)) (by go_simp) ?_
      have HT := heap_alloc_new w2 (.cells #[.int .i64 now, .int .i64 node, .int .i64 kind, .int .i64 f.id, .bool f.rm, .int .i64 f.ln, .slice a3 f.D.length f.D.length] 43)
      have b := below_more (Below.refl w2.heap.size w2) (.cells #[.int .i64 now, .int .i64 node, .int .i64 kind, .int .i64 f.id, .bool f.rm, .int .i64 f.ln, .slice a3 f.D.length f.D.length] 43)
      have hM2 : OwnE V.heap.size w2.heap.size (⟨now, jn, kind, f⟩ : Ev) (a3, f.D.length) (w2.alloc (.cells #[.int .i64 now, .int .i64 node, .int .i64 kind, .int .i64 f.id, .bool f.rm, .int .i64 f.ln, .slice a3 f.D.length f.D.length] 43)) := ⟨hM.below' b, hub⟩
      have hle2 := b.size
      replace HF := blkW HF b
      replace hS := hS.below b
      replace hW := Below.then2 hW b
      clear b hM hub hC
      replace HT : (w2.alloc (.cells #[.int .i64 now, .int .i64 node, .int .i64 kind, .int .i64 f.id, .bool f.rm, .int .i64 f.ln, .slice a3 f.D.length f.D.length] 43)).heap[w2.heap.size]? = some (.cells (evC (⟨now, jn, kind, f⟩ : Ev) a3 f.D.length) 43 (0, 0)) := by rw [HT]; show some (Obj.cells #[.int .i64 now, .int .i64 node, .int .i64 kind, .int .i64 f.id, .bool f.rm, .int .i64 f.ln, .slice a3 f.D.length f.D.length] _ _) = _; rw [hjn.out]
      generalize w2.alloc _ = w3 at HT HF hS hM2 hle2 hW ⊢
      have hC := And.intro (And.intro (hS.cell 4) (hS.cell 2)) HF
      refine ⟨hC, ?_⟩
      simp only [Act.put, List.setIfInBounds_toArray, List.set_cons_zero, List.set_cons_succ]
      refine h_value 4 10 v rfl rfl (by kernel_rfl) rfl (by have c := hS.cell 5; go_simp) hC ?_
      simp only [Act.put, List.setIfInBounds_toArray, List.set_cons_zero, List.set_cons_succ]
      have hnE : ∀ j, j < N.length → nthE (N ++ [⟨now, jn, kind, f⟩]) j = nthE N j := fun j hj => nthE_app hj
      have hnL : nthE (N ++ [⟨now, jn, kind, f⟩]) N.length = ⟨now, jn, kind, f⟩ := by have := nthE_app2 (L := N) (M := [(⟨now, jn, kind, f⟩ : Ev)]) (j := 0); rw [Nat.add_zero] at this; exact this
      have RE := hS.ev.more hnE
      refine held_appE2 ownE_sep 20 26 v (a3, f.D.length) V.heap.size w2.heap.size w2.heap.size 1 rfl rfl (by kernel_rfl) rfl rfl rfl RE (by omega) rfl (by rw [hnL]; exact HT) (by rw [hnL]; exact hM2) hVs hVle hle2 hHE hgv (by omega) ?_
      intro v4 w4 RE4 gr r4
      have hv4 : ∀ g, v4.ownBlock = some g → v.ownBlock = some g ∨ V.heap.size ≤ g := fun g hg => by
        rcases r4 with e | e
        · rw [e] at hg; exact .inl hg
        · rw [e] at hg; cases hg; exact .inr (by omega)
      have ix4 := hS.ix.more (t := V.heap.size) (lo := V.heap.size) (hi := w2.heap.size) (v' := v4) hpV hGV hHV (Nat.le_refl _) hVle hv4
      have hpv : v.ownBlock ≠ some p := fun e => (hS.ix.pv p e).1 rfl
      have hGv : v.ownBlock ≠ some G := fun e => (hS.ix.pv G e).2.1 rfl
      have blk4 := (gr.block p hS.lt (fun e => hpv e.symm)).trans hS.blk
      have kq : Kp (fun q => v.ownBlock ≠ some q) w3 w4 := ⟨gr.size, fun q hq hl => gr.block q hl (fun e => hq e.symm), gr.os, gr.tape, gr.output⟩
      have box4 := hS.box.kp kq hGv (fun j hj q h1 h2 e => by have := (hS.ix.pv q e).2.2 j hj; omega)
      have bel4 : Below B w0 w4 := hS.bel.trans ⟨gr.os, gr.tape, gr.output, gr.size, fun q hq => gr.block q (by have := hS.bel.size; have := hS.base; omega) (fun e => by have := RE.own; have h5 := (World.ownsRow.lt RE.own q e.symm).1; omega)⟩
      have HF4 := (gr.block gf (Array.getElem?_eq_some_iff.1 HF).1 (fun e => row_ne RE.own HF (by decide) e.symm)).trans HF
      have hbase := hS.base
      have kw4 : Kp (fun q => q ≠ p ∧ v.ownBlock ≠ some q) w w4 := Kp.trans (Kp.ofBelow hW) ⟨kq.size, fun q hq hl => kq.block q hq.2 hl, kq.os, kq.tape, kq.output⟩
      clear hS RE hW HT hM2 kq gr r4 hC hnE hnL hgv hHE
      have hC := And.intro (And.intro (cell_of_row w4 p 4 _ _ _ blk4) (cell_of_row w4 p 2 _ _ _ blk4)) HF4
      refine ⟨hC, ?_⟩
      simp only [Act.put, List.setIfInBounds_toArray, List.set_cons_zero, List.set_cons_succ]
      refine h_value 21 27 (.pointer (some ⟨p, 0, none⟩)) rfl rfl (by kernel_rfl) rfl (by go_simp) hC ?_
      simp only [Act.put, List.setIfInBounds_toArray, List.set_cons_zero, List.set_cons_succ]
      refine h_value 22 28 (.pointer (some ⟨p, 5, none⟩)) rfl rfl (by kernel_rfl) rfl (by go_simp) hC ?_
      simp only [Act.put, List.setIfInBounds_toArray, List.set_cons_zero, List.set_cons_succ]
      have f5 := frozen_of_row w4 p 5 _ _ blk4
      have c5 := cell_of_row w4 p 5 _ _ _ blk4
      obtain ⟨av4, cv4, rfl⟩ := RE4.is
      refine h_store 23 (w4.setCell ⟨p, 5, none⟩ (.slice av4 (N.length + 1) cv4)) rfl rfl (by kernel_rfl) rfl (by go_simp) ?_
      have m := mid_cell w4 p 5 (.slice av4 (N.length + 1) cv4)
      have blk5 := heap_setCell_same w4 p 5 _ _ (.slice av4 (N.length + 1) cv4) blk4
      have box5 := box4.kp (Y := fun q => q ≠ p) ⟨m.size, fun q hq hl => m.block q hl (by omega), m.os, m.tape, m.output⟩ ix4.pG.symm (fun j hj q h1 h2 => by
        show q ≠ p
        have := ix4.pb j hj
        omega)
      have RE5 := RE4.sep ownE_sep m (fun g hg => by have := (ix4.pv g hg).1; omega) (fun j hj => by have := ix4.pe j hj; omega)
      have bel5 := bel4.trans (m.below ix4.low.1 (Nat.le_trans hbase bel4.size))
      have HF5 := (m.block gf (Array.getElem?_eq_some_iff.1 HF4).1 (by omega)).trans HF4
      have hC5 : ((w4.setCell ⟨p, 5, none⟩ (.slice av4 (N.length + 1) cv4)).cell? ⟨p, 4, none⟩ = some (.int .i64 now) ∧ (w4.setCell ⟨p, 5, none⟩ (.slice av4 (N.length + 1) cv4)).cell? ⟨p, 2, none⟩ = some (.int .i64 node)) ∧ (w4.setCell ⟨p, 5, none⟩ (.slice av4 (N.length + 1) cv4)).heap[gf]? = some (.cells (frC f af cf) 35 (0, 0)) :=
        ⟨⟨cell_of_row _ p 4 _ _ _ blk5, cell_of_row _ p 2 _ _ _ blk5⟩, HF5⟩
      refine ⟨hC5, ?_⟩
      refine wpAnyH_done (by kernel_rfl) ?_ _
      have kw5 : Kp (fun q => q ≠ p ∧ v.ownBlock ≠ some q) w (w4.setCell ⟨p, 5, none⟩ (.slice av4 (N.length + 1) cv4)) := kw4.trans ⟨m.size, fun q hq hl => m.block q hl (by have := hq.1; omega), m.os, m.tape, m.output⟩
      clear kw4
      clear hC hC5 blk4 box4 RE4 bel4 HF4 HF5 f5 c5 m
      generalize w4.setCell _ _ = w5 at blk5 box5 RE5 bel5 kw5 ⊢
      go_wp2_with fail
      go_end0
      exact ⟨rfl, kw5, _, _, _, _, ⟨by rw [List.length_append]; exact ix4, blk5, box5, by rw [List.length_append]; exact RE5, bel5, hbase⟩⟩
end Go.Proofs.YtnhmecabppaboaaGreat

/- The service on its way: the frame on the wire ends. -/

set_option linter.unusedVariables false
set_option linter.unusedSimpArgs false
namespace Go.Proofs.YtnhmecabppaboaaGreat
open Go.RowKit

/-- A box is laid anew: where it all lies. -/
theorem SvcI.rebox {B p G n k t i : Nat} {L H LE HE : Nat → Nat} {v : Value} {lo hi : Nat} (h : SvcI B p G n k L H LE HE v) (hp : p < t) (hE : ∀ j, j < k → HE j ≤ t) (hv : ∀ g, v.ownBlock = some g → g < t) (hlo : t ≤ lo) (hB : B ≤ t) : SvcI B p G n k (fun j => if j = i then lo else L j) (fun j => if j = i then hi else H j) LE HE v := by
  refine ⟨⟨h.low.1, h.low.2.1, fun j hj => ?_⟩, h.pG, fun j hj => ?_, h.pe, fun g hg => ⟨(h.pv g hg).1, (h.pv g hg).2.1, fun j hj => ?_⟩, fun q hq j hj => ?_, h.Ge⟩
  · by_cases e : j = i
    · subst e; simp only [↓reduceIte]; omega
    · simp only [if_neg e]; exact h.low.2.2 j hj
  · by_cases e : j = i
    · subst e; simp only [↓reduceIte]; omega
    · simp only [if_neg e]; exact h.pb j hj
  · by_cases e : j = i
    · subst e; simp only [↓reduceIte]; have := hv g hg; omega
    · simp only [if_neg e]; exact (h.pv g hg).2.2 j hj
  · have := hE j hj
    by_cases e : q = i
    · subst e; simp only [↓reduceIte]; omega
    · simp only [if_neg e]; exact h.be q hq j hj
set_option maxHeartbeats 16000000 in
set_option maxRecDepth 20000 in
/-- (*service).end. -/
theorem svcEnd (B p G : Nat) (s : Srv) (L H : Nat → Nat) (N : List Ev) (v : Value) (P : Nat → EvP) (LE HE : Nat → Nat) (w0 : World) (jn : Nat) (hjn : s.node = (jn : Int)) (w : World) (hS : Svc B p G s L H N v P LE HE w0 w) (hb : boxesB s.bx = true) (hj : jn < s.bx.length) (hh : hasB (nthB s.bx jn) s.rank = true) (hN : N.length ≤ 900000) :
    Calls Tryz.prog 69 #[.pointer (some ⟨p, 0, none⟩)] w fun e w' => e = .returned (.tuple #[]) ∧ ∃ L' H' v' P' LE' HE', Svc B p G (endS s) L' H' (N ++ [endE s]) v' P' LE' HE' w0 w' := by
  have hbx := boxB_iff.1 ((boxesB_iff.1 hb).2.2 jn hj)
  have hl6 := (boxesB_iff.1 hb).2.1
  have hpos := pos_at (r := s.rank) hbx.2
  have hm := hasB_pos hbx.2 hpos
  rw [hh] at hm
  have hpl := (metB_yes.1 hm).1
  have hE : Hid (endS s = ⟨s.bx.set jn (outV (nthB s.bx jn) s.rank), s.busy, 0, 0, s.now⟩ ∧ endE s = ⟨s.now, jn, 1, nthF (nthB s.bx jn) (posN (nthB s.bx jn) s.rank (nthB s.bx jn).length)⟩) := Lib.hid (by
    unfold endS endE frmR
    rw [hjn, Int.toNat_natCast]
    exact ⟨rfl, rfl⟩)
  have h16 := hbx.1
  have hsh : Hid (∀ i, i < (nthB s.bx jn).length → (nthF (nthB s.bx jn) i).D.length ≤ 8) := Lib.hid fun i hi => hbx.2.short hi
  replace hb := Lib.hid hb
  replace hbx := Lib.hid hbx
  replace hjn := Lib.hid hjn
  clear hpos hm
  replace hh := Lib.hid hh
  obtain ⟨cur, hcb, hcs, hcm⟩ := hS.box.row
  obtain ⟨vX, hvX, hox⟩ := hcm jn hj
  obtain ⟨al, cl, rfl, hfr, hA⟩ := hox.is (by omega)
  have hcG : w.cell? ⟨G, jn, none⟩ = some (.slice al (nthB s.bx jn).length cl) := by rw [cell_of_row w G _ _ _ _ hcb]; exact hvX
  clear hcm hcb hcs hvX hfr
  generalize hLL : nthB s.bx jn = LL at *
  generalize hpp : posN LL s.rank LL.length = pp at *
  replace hLL := Lib.hid hLL
  replace hpp := Lib.hid hpp
  go_enter Tryz.func69, Tryz.ntmps69
  go_wp2_with fail
  have b0 : Below w.heap.size w w.drew := (Below.refl _ _).drew
  refine region_class (fun u => u.cell? ⟨G, jn, none⟩ = some (.slice al LL.length cl) ∧ Svc B p G s L H N v P LE HE w0 u ∧ OwnX True (L jn) (H jn) LL (.slice al LL.length cl) u) (by kernel_rfl) (by kernel_rfl) ⟨hcG, hS.drew, hox.below b0⟩ ?_
  have hnode : s.node = (jn : Int) := hjn.out
  clear hS hcG hox b0
  repeat first
    | go_big_quiet_skip
    | (go_big_quiet_want
       apply Exists.intro
       refine ⟨fun u hu => ?_, ?_⟩
       · apply quietAt_val
         obtain ⟨cG, hs, -⟩ := hu
         have c0 := hs.cell 0
         have c2 := hs.cell 2
         rw [hnode] at c2
         go_simp
         rfl
       simp only [Act.put, List.setIfInBounds_toArray, List.set_cons_zero, List.set_cons_succ]
       go_big_quiet_on)
  refine wpQuiet_nil ?_
  intro W hW
  obtain ⟨hcG, hS, hox⟩ := hW
  have hfr : Frs al LL W := by
    obtain ⟨a', c', e, h, -⟩ := hox.is (by omega)
    cases e
    exact h
  replace hnode := Lib.hid hnode
  have c3 := hS.cell 3
  clear hcG
  go_wp2_with fail
  refine (placeInB al LL cl s.rank _ hfr h16 hbx.out.2).mono ?_
  rintro e w1 ⟨he, b⟩
  rw [hpp.out, hh.out] at he
  subst he
  replace hS := hS.below b
  replace hfr := hfr.below b
  replace hox := hox.below b
  clear b c3
  obtain ⟨g, o, ad, cc, rfl, ⟨c0, c1, c2, c3⟩, hnum⟩ := hfr.2 pp hpl
  have hD8 := hsh.out pp hpl
  go_wp2_with fail
  refine (svcTell B p G s L H N v P LE HE w0 jn hjn.out 1 (nthF LL pp) ad cc w1 hS hnum (by omega) hN).mono ?_
  rintro e w2 ⟨rfl, kw, v2, P2, LE2, HE2, hS2⟩
  have ixp := hS.ix.pb jn hj
  have ixv := fun q (e : v.ownBlock = some q) => (hS.ix.pv q e).2.2 jn hj
  have hox2 := hox.kp kw (fun q h1 h2 => ⟨by omega, fun e => by have := ixv q e; omega⟩)
  have hfr2 : Frs (some ⟨g, o, none⟩) LL w2 := by
    obtain ⟨a', c', e, h, -⟩ := hox2.is (by omega)
    cases e
    exact h
  clear c0 c1 c2 c3 hnum hfr hox kw ixp ixv hS
  go_wp2_with fail
  refine wp_region_held (S := fun u => (u.cell? ⟨p, 0, none⟩ = some (.slice (some ⟨G, 0, none⟩) s.bx.length s.bx.length) ∧ u.cell? ⟨p, 2, none⟩ = some (.int .i64 (jn : Int))) ∧ u.cell? ⟨p, 3, none⟩ = some (.int .i64 s.rank)) (by kernel_rfl) ?_
  have b : Below w2.heap.size w2 { w2 with drawn := w2.drawn + 1 } := (Below.refl _ _).drew
  replace hS2 := hS2.below b
  replace hfr2 := hfr2.below b
  clear hox2
  generalize ({ w2 with drawn := w2.drawn + 1 } : World) = V at hS2 hfr2 ⊢
  clear b
  have hC : (V.cell? ⟨p, 0, none⟩ = some (.slice (some ⟨G, 0, none⟩) s.bx.length s.bx.length) ∧ V.cell? ⟨p, 2, none⟩ = some (.int .i64 (jn : Int))) ∧ V.cell? ⟨p, 3, none⟩ = some (.int .i64 s.rank) := ⟨⟨hS2.cell 0, by have := hS2.cell 2; rw [hjn.out] at this; exact this⟩, hS2.cell 3⟩
  refine h_take 0 33 (.pointer (some ⟨p, 0, none⟩)) rfl rfl (by kernel_rfl) (by kernel_rfl) (by kernel_rfl) (fun _ _ _ h => h) rfl (fun u hu => by go_simp) hC ?_
  refine h_take 1 34 (.pointer (some ⟨p, 0, none⟩)) rfl rfl (by kernel_rfl) (by kernel_rfl) (by kernel_rfl) (fun _ _ _ h => h) rfl (fun u hu => by go_simp) hC ?_
  refine h_take 2 35 (.pointer (some ⟨p, 0, none⟩)) rfl rfl (by kernel_rfl) (by kernel_rfl) (by kernel_rfl) (fun _ _ _ h => h) rfl (fun u hu => by go_simp) hC ?_
  refine h_take 3 36 (.pointer (some ⟨p, 0, none⟩)) rfl rfl (by kernel_rfl) (by kernel_rfl) (by kernel_rfl) (fun _ _ _ h => h) rfl (fun u hu => by go_simp) hC ?_
  simp only [Act.put, List.setIfInBounds_toArray, List.set_cons_zero, List.set_cons_succ]
  refine h_take 4 37 (.slice (some ⟨G, 0, none⟩) s.bx.length s.bx.length) rfl rfl (by kernel_rfl) (by kernel_rfl) (by kernel_rfl) (fun _ _ _ h => h) rfl (fun u hu => by have c := hu.1.1; go_simp) hC ?_
  refine h_take 5 38 (.pointer (some ⟨p, 0, none⟩)) rfl rfl (by kernel_rfl) (by kernel_rfl) (by kernel_rfl) (fun _ _ _ h => h) rfl (fun u hu => by go_simp) hC ?_
  refine h_take 6 39 (.pointer (some ⟨p, 0, none⟩)) rfl rfl (by kernel_rfl) (by kernel_rfl) (by kernel_rfl) (fun _ _ _ h => h) rfl (fun u hu => by go_simp) hC ?_
  refine h_take 7 40 (.pointer (some ⟨p, 0, none⟩)) rfl rfl (by kernel_rfl) (by kernel_rfl) (by kernel_rfl) (fun _ _ _ h => h) rfl (fun u hu => by go_simp) hC ?_
  simp only [Act.put, List.setIfInBounds_toArray, List.set_cons_zero, List.set_cons_succ]
  refine h_take 8 41 (.pointer (some ⟨p, 2, none⟩)) rfl rfl (by kernel_rfl) (by kernel_rfl) (by kernel_rfl) (fun _ _ _ h => h) rfl (fun u hu => by go_simp) hC ?_
  refine h_take 9 42 (.int .i64 (jn : Int)) rfl rfl (by kernel_rfl) (by kernel_rfl) (by kernel_rfl) (fun _ _ _ h => h) rfl (fun u hu => by have c := hu.1.2; go_simp) hC ?_
  refine h_take 10 43 (.slice (some ⟨g, o, none⟩) LL.length cl) rfl rfl (by kernel_rfl) (by kernel_rfl) (by kernel_rfl) (fun _ _ _ h => h) rfl (fun u hu => by go_simp) hC ?_
  simp only [Act.put, List.setIfInBounds_toArray, List.set_cons_zero, List.set_cons_succ]
  refine h_take 11 44 (.pointer (some ⟨p, 0, none⟩)) rfl rfl (by kernel_rfl) (by kernel_rfl) (by kernel_rfl) (fun _ _ _ h => h) rfl (fun u hu => by go_simp) hC ?_
  refine h_take 12 45 (.pointer (some ⟨p, 0, none⟩)) rfl rfl (by kernel_rfl) (by kernel_rfl) (by kernel_rfl) (fun _ _ _ h => h) rfl (fun u hu => by go_simp) hC ?_
  refine h_take 13 46 (.pointer (some ⟨p, 0, none⟩)) rfl rfl (by kernel_rfl) (by kernel_rfl) (by kernel_rfl) (fun _ _ _ h => h) rfl (fun u hu => by go_simp) hC ?_
  simp only [Act.put, List.setIfInBounds_toArray, List.set_cons_zero, List.set_cons_succ]
  refine h_take 14 47 (.pointer (some ⟨p, 3, none⟩)) rfl rfl (by kernel_rfl) (by kernel_rfl) (by kernel_rfl) (fun _ _ _ h => h) rfl (fun u hu => by go_simp) hC ?_
  refine h_take 15 48 (.int .i64 s.rank) rfl rfl (by kernel_rfl) (by kernel_rfl) (by kernel_rfl) (fun _ _ _ h => h) rfl (fun u hu => by have c := hu.2; go_simp) hC ?_
  simp only [Act.put, List.setIfInBounds_toArray, List.set_cons_zero, List.set_cons_succ]
  refine h_call 16 49 91 #[.slice (some ⟨g, o, none⟩) LL.length cl, .int .i64 s.rank] rfl rfl (by kernel_rfl) rfl (by go_simp) ?_
  refine (implTakenOut (some ⟨g, o, none⟩) LL cl s.rank V hfr2 hA.1 hA.2).mono ?_
  intro e w5 G3
  obtain ⟨a5, c5, rfl, OX, b⟩ := OwnX.got G3
  have hle := b.size
  have hpV := hS2.lt
  have hGV := hS2.box.lt
  have hHV : ∀ j, j < s.bx.length → H j ≤ V.heap.size := fun j hj => (hS2.box.out j hj).2.1
  have hHE : ∀ j, j < (N ++ [(⟨s.now, jn, 1, nthF LL pp⟩ : Ev)]).length → HE2 j ≤ V.heap.size := fun j hj => (hS2.ev.out j hj).2.2
  have hgv : ∀ g, v2.ownBlock = some g → g < V.heap.size := hS2.ev.lt
  have hVs : B ≤ V.heap.size := Nat.le_trans hS2.base hS2.bel.size
  have hS5 := hS2.below b
  clear G3 hfr2 hA hC hS2 b
  have hC : (w5.cell? ⟨p, 0, none⟩ = some (.slice (some ⟨G, 0, none⟩) s.bx.length s.bx.length) ∧ w5.cell? ⟨p, 2, none⟩ = some (.int .i64 (jn : Int))) ∧ w5.cell? ⟨p, 3, none⟩ = some (.int .i64 s.rank) := ⟨⟨hS5.cell 0, by have := hS5.cell 2; rw [hjn.out] at this; exact this⟩, hS5.cell 3⟩
  refine ⟨_, rfl, hC, ?_⟩
  simp only [Act.put, List.setIfInBounds_toArray, List.set_cons_zero, List.set_cons_succ]
  refine h_value 17 50 (.pointer (some ⟨G, jn, none⟩)) rfl rfl (by kernel_rfl) rfl (by go_simp) hC ?_
  simp only [Act.put, List.setIfInBounds_toArray, List.set_cons_zero, List.set_cons_succ]
  obtain ⟨cur, hcb, hcs, -⟩ := hS5.box.row
  have hck : ∃ x, w5.cell? ⟨G, jn, none⟩ = some x := by
    rw [cell_of_row w5 _ _ _ _ _ hcb, Array.getElem?_eq_getElem (by omega)]
    exact ⟨_, rfl⟩
  obtain ⟨x, hck⟩ := hck
  have f0 := frozen_of_row w5 G jn _ _ hcb
  generalize hL5 : outV LL s.rank = L5 at *
  refine h_store 18 (w5.setCell ⟨G, jn, none⟩ (.slice a5 L5.length c5)) rfl rfl (by kernel_rfl) rfl (by go_simp) ?_
  have m := mid_cell w5 G jn (.slice a5 L5.length c5)
  have ix5 := hS5.ix
  have hpG := ix5.pG
  have O6 := (hS5.box.put (i := jn) (lo := V.heap.size) (hi := w5.heap.size) (X' := s.bx.set jn L5) (v := .slice a5 L5.length c5) hj (fun i hi hne => by rw [nthB_set hj, if_neg hne]) (by rw [nthB_set hj, if_pos rfl]; exact OX) hle (Nat.le_refl _) (.inl hGV) (fun i hi _ => .inl (hHV i hi))).less (F' := fun i => i < s.bx.length) (fun i hi => .inl hi)
  have E6 := hS5.ev.sep ownE_sep m (fun g hg => by have := (ix5.pv g hg).2.1; omega) (fun j hj => by have := ix5.Ge j hj; omega)
  have blk6 := (m.block p hS5.lt (by omega)).trans hS5.blk
  have bel6 := hS5.bel.trans (m.below (B := B) ix5.low.2.1 (Nat.le_trans hS5.base hS5.bel.size))
  have hbase := hS5.base
  have ix6 := ix5.rebox (t := V.heap.size) (i := jn) (lo := V.heap.size) (hi := w5.heap.size) hpV hHE hgv (Nat.le_refl _) hVs
  have hlX : (s.bx.set jn L5).length = s.bx.length := List.length_set
  have S6 : Svc B p G ⟨s.bx.set jn L5, s.busy, s.node, s.rank, s.now⟩ (fun i => if i = jn then V.heap.size else L i) (fun i => if i = jn then w5.heap.size else H i) (N ++ [⟨s.now, jn, 1, nthF LL pp⟩]) v2 P2 LE2 HE2 w0 (w5.setCell ⟨G, jn, none⟩ (.slice a5 L5.length c5)) :=
    ⟨by dsimp only; rw [hlX]; exact ix6, by dsimp only; rw [hlX]; exact blk6, by dsimp only; rw [hlX]; exact O6, E6, bel6, hbase⟩
  have hC6 : ((w5.setCell ⟨G, jn, none⟩ (.slice a5 L5.length c5)).cell? ⟨p, 0, none⟩ = some (.slice (some ⟨G, 0, none⟩) s.bx.length s.bx.length) ∧ (w5.setCell ⟨G, jn, none⟩ (.slice a5 L5.length c5)).cell? ⟨p, 2, none⟩ = some (.int .i64 (jn : Int))) ∧ (w5.setCell ⟨G, jn, none⟩ (.slice a5 L5.length c5)).cell? ⟨p, 3, none⟩ = some (.int .i64 s.rank) :=
    ⟨⟨cell_of_row _ p 0 _ _ _ blk6, by have := cell_of_row _ p 2 _ _ _ blk6; rw [hjn.out] at this; exact this⟩, cell_of_row _ p 3 _ _ _ blk6⟩
  refine ⟨hC6, ?_⟩
  refine wpAnyH_done (by kernel_rfl) ?_ _
  clear hC hC6 hS5 O6 E6 blk6 bel6 ix6 ix5 m OX hck f0 hcb hcs hgv hHE hHV hlX
  generalize w5.setCell _ _ = w6 at S6 ⊢
  have d2 := S6.cell 2
  have d3 := S6.cell 3
  have k2 := S6.free 2
  have k3 := S6.free 3
  go_wp2_with fail
  have S7 := S6.set 2 (.int .i64 0) (busy := s.busy) (node := 0) (rank := s.rank) (now := s.now) rfl
  have S8 := S7.set 3 (.int .i64 0) (busy := s.busy) (node := 0) (rank := 0) (now := s.now) rfl
  dsimp only at S8
  go_end0
  rw [← hE.out.1, ← hE.out.2] at S8
  exact ⟨rfl, _, _, _, _, _, _, S8⟩
end Go.Proofs.YtnhmecabppaboaaGreat

/- impl.ServerPut. -/

set_option linter.unusedVariables false
set_option linter.unusedSimpArgs false
set_option maxRecDepth 20000
namespace Go.Proofs.YtnhmecabppaboaaGreat
open Go.RowKit

theorem results_srv {fn : Func} {p q : Tmp} (h : fn.results = #[.cell p 26, .tmp q]) (tmps : Array Value) (w : World) (g : Nat) (C : Array Value) (v : Value) (hp : tmps.getD p undef = .pointer (some ⟨g, 0, none⟩)) (hq : tmps.getD q undef = v)
    (hg : w.heap[g]? = some (.cells C 26 (0, 0))) (hC : C.size = 5) : (results fn tmps).run Tryz.prog w = .ok (.tuple #[.agg C, v]) w := by
  have hp' : tmps[p]?.getD undef = .pointer (some ⟨g, 0, none⟩) := by simpa using hp
  have hq' : tmps[q]?.getD undef = v := by simpa using hq
  have hl := run_loadVar_row (P := Tryz.prog) w g 26 26 C (0, 0) _ hg Tryz.underlying26 rfl (by rw [hC]; kernel_rfl)
  simp [results, h, hp', hq', asAddr, hl]
/-- What a call hands back beside a server of its own. -/
def PuO (s : Srv) (k : Int) (w : World) (e : Ending) (w' : World) : Prop :=
  ∃ G L H, e = .returned (.tuple #[svV (some ⟨G, 0, none⟩) s.bx.length s.bx.length s.busy s.node s.rank s.now, .int .i64 k]) ∧ BoxO True G s.bx.length (fun j => j < s.bx.length) s.bx L H w' ∧ FromB w.heap.size G s.bx.length L ∧ Below w.heap.size w w'
def PuZ (w : World) (e : Ending) (w' : World) : Prop := e = .returned (.tuple #[svV none 0 0 0 0 0 0, .int .i64 3]) ∧ Below w.heap.size w w'
def PuR (s : Srv) (node : Int) (f : Frm) (w : World) (e : Ending) (w' : World) : Prop := (srvB s = false → PuZ w e w') ∧ (srvB s = true → PuO (putS s node f).1 (putS s node f).2 w e w')
/-- What stands while ServerPut goes on: the server's block, the frame's, the result's, and the boxes of the copy. -/
structure PuS (g G : Nat) (X : List (List Frm)) (busy node rank now : Int) (f : Frm) (af : Option Addr) (cf : Nat) (L H : Nat → Nat) (w0 w : World) : Prop where
  blk : w.heap[g]? = some (.cells (svC (some ⟨G, 0, none⟩) X.length X.length busy node rank now) 26 (0, 0))
  frm : w.heap[g + 1]? = some (.cells (frC f af cf) 35 (0, 0))
  res : w.heap[g + 2]? = some (.cells (svC none 0 0 0 0 0 0) 26 (0, 0))
  box : BoxO True G X.length (fun j => j < X.length) X L H w
  nums : Nums af f.D w
  bel : Below w0.heap.size w0 w
section
variable {g G : Nat} {X : List (List Frm)} {busy node rank now : Int} {f : Frm} {af : Option Addr} {cf : Nat} {L H : Nat → Nat} {w0 w w' : World}
theorem blkV {w w' : World} {g : Nat} {o : Obj} (h : w.heap[g]? = some o) (b : Below w.heap.size w w') : w'.heap[g]? = some o := (b.block g (Array.getElem?_eq_some_iff.1 h).1).trans h
theorem PuS.below (h : PuS g G X busy node rank now f af cf L H w0 w) (b : Below w.heap.size w w') : PuS g G X busy node rank now f af cf L H w0 w' :=
  ⟨blkV h.blk b, blkV h.frm b, blkV h.res b, h.box.below b, h.nums.below b, Below.then2 h.bel b⟩
theorem PuS.drew (h : PuS g G X busy node rank now f af cf L H w0 w) : PuS g G X busy node rank now f af cf L H w0 w.drew := h.below (Below.refl _ _).drew
theorem PuS.sv (h : PuS g G X busy node rank now f af cf L H w0 w) : Sv g (some ⟨G, 0, none⟩) X.length X.length busy node rank now w0 w := ⟨h.blk, h.bel⟩
theorem PuS.cellG (h : PuS g G X busy node rank now f af cf L H w0 w) (hb : boxesB X = true) {j : Nat} (hj : j < X.length) : ∃ al cl, w.cell? ⟨G, j, none⟩ = some (.slice al (nthB X j).length cl) ∧ Frs al (nthB X j) w ∧ Adr al (nthB X j).length cl := by
  obtain ⟨cur, h1, h2, h3⟩ := h.box.row
  obtain ⟨v, hv, ho⟩ := h3 j hj
  obtain ⟨a, c, rfl, hf, hA⟩ := ho.is (by have := (box_small hb hj).1; omega)
  exact ⟨a, c, by rw [cell_of_row w G _ _ _ _ h1]; exact hv, hf, hA⟩
/-- The end: the server is laid in the result's block. -/
theorem PuS.fin (h : PuS g G X busy node rank now f af cf L H w0 w) (hg : w0.heap.size = g) (hG : FromB (g + 3) G X.length L) :
    ∀ w5, w5 = (((((w.setCell ⟨g + 2, 0, none⟩ (.slice (some ⟨G, 0, none⟩) X.length X.length)).setCell ⟨g + 2, 1, none⟩ (.int .i64 busy)).setCell ⟨g + 2, 2, none⟩ (.int .i64 node)).setCell ⟨g + 2, 3, none⟩ (.int .i64 rank)).setCell ⟨g + 2, 4, none⟩ (.int .i64 now)) →
      w5.heap[g + 2]? = some (.cells (svC (some ⟨G, 0, none⟩) X.length X.length busy node rank now) 26 (0, 0)) ∧ BoxO True G X.length (fun j => j < X.length) X L H w5 ∧ Below w0.heap.size w0 w5 := by
  rintro w5 rfl
  obtain ⟨h5, m⟩ := set5 h.res (.slice (some ⟨G, 0, none⟩) X.length X.length) (.int .i64 busy) (.int .i64 node) (.int .i64 rank) (.int .i64 now)
  refine ⟨h5, h.box.kp (Y := fun q => q < g + 2 ∨ g + 3 ≤ q) ⟨m.size, fun q hq hl => m.block q hl (by omega), m.os, m.tape, m.output⟩ (.inr (by have := hG.1; omega)) (fun j hj q h1 h2 => .inr (by have := hG.2 j hj; omega)), h.bel.trans (m.below (by omega) h.bel.size)⟩
end
set_option maxHeartbeats 16000000 in
/-- impl.ServerPut. -/
theorem implServerPut (R : Option Addr → Nat → Nat → Prop) (a : Option Addr) (X : List (List Frm)) (c : Nat) (busy nd rank now node : Int) (f : Frm) (af : Option Addr) (cf : Nat) (w : World) (hd : Bxs R a X w) (hn : Nums af f.D w) :
    Calls Tryz.prog 13 #[svV a X.length c busy nd rank now, .int .i64 node, frV f.id f.rm f.ln af f.D.length cf] w (PuR ⟨X, busy, nd, rank, now⟩ node f w) := by
  have hm := hd.1
  have hn0 := hn
  obtain ⟨HC, HF, HR, B⟩ := three_made w (svC a X.length c busy nd rank now) (frC f af cf) (svC none 0 0 0 0 0 0) 26 35 26
  have hz : (((w.alloc (.cells (svC a X.length c busy nd rank now) 26)).alloc (.cells (frC f af cf) 35)).alloc (.cells (svC none 0 0 0 0 0 0) 26)).heap.size = w.heap.size + 3 := by simp
  go_enter Tryz.func13, Tryz.ntmps13
  go_upto_region 1 with fail
  replace hd := hd.below B
  replace hn := hn.below B
  generalize ((w.alloc (.cells (svC a X.length c busy nd rank now) 26)).alloc (.cells (frC f af cf) 35)).alloc (.cells (svC none 0 0 0 0 0 0) 26) = W at HC HF HR B hz hd hn ⊢
  have S0 : Sv w.heap.size a X.length c busy nd rank now w W := ⟨HC, B⟩
  go_wp2_with (refine S0.take rfl rfl rfl ?_)
  refine (implServerOk R a X c busy nd rank now _ hd).mono ?_
  rintro e w1 ⟨rfl, b⟩
  replace HC := blkV HC b
  replace HF := blkV HF b
  replace HR := blkV HR b
  replace B := Below.then2 B b
  replace hd := hd.below b
  replace hn := hn.below b
  have hz1 : w.heap.size + 3 ≤ w1.heap.size := by have := b.size; omega
  clear b S0 hz
  cases hok : srvB ⟨X, busy, nd, rank, now⟩
  · have e0 := cell_of_row w1 (w.heap.size + 2) 0 _ _ _ HR
    have e1 := cell_of_row w1 (w.heap.size + 2) 1 _ _ _ HR
    have e2 := cell_of_row w1 (w.heap.size + 2) 2 _ _ _ HR
    have e3 := cell_of_row w1 (w.heap.size + 2) 3 _ _ _ HR
    have e4 := cell_of_row w1 (w.heap.size + 2) 4 _ _ _ HR
    have k0 := frozen_of_row w1 (w.heap.size + 2) 0 _ _ HR
    have k1 := frozen_of_row w1 (w.heap.size + 2) 1 _ _ HR
    have k2 := frozen_of_row w1 (w.heap.size + 2) 2 _ _ HR
    have k3 := frozen_of_row w1 (w.heap.size + 2) 3 _ _ HR
    have k4 := frozen_of_row w1 (w.heap.size + 2) 4 _ _ HR
    replace hok := Lib.hid hok
    go_wp2_with fail
    obtain ⟨h5, m⟩ := set5 HR (.slice none 0 0) (.int .i64 0) (.int .i64 0) (.int .i64 0) (.int .i64 0)
    clear e0 e1 e2 e3 e4 k0 k1 k2 k3 k4
    generalize World.setCell _ _ _ = w5 at h5 m ⊢
    refine bodyPost_ret (v := .tuple #[svV none 0 0 0 0 0 0, .int .i64 3]) ?_ rfl ⟨fun _ => ⟨rfl, B.trans (m.below (by omega) B.size)⟩, fun h => absurd h (by rw [hok.out]; simp)⟩
    exact results_srv Tryz.results13 _ _ (w.heap.size + 2) _ _ rfl rfl h5 rfl
  have hS := srvB_iff.1 hok
  have hbx : boxesB X = true := hS.1
  replace hS := Lib.hid hS
  have h26 := boxesB_iff.1 hbx
  obtain ⟨h2, h6, -⟩ := h26
  replace hok := Lib.hid hok
  have S1 : Sv w.heap.size a X.length c busy nd rank now w w1 := ⟨HC, B⟩
  go_wp2_with (refine S1.take rfl rfl rfl ?_)
  refine (implCopiedServer R a X c busy nd rank now _ hd hbx).mono ?_
  rintro e w2 ⟨G, L, H, rfl, O, hF, b⟩
  dsimp only at O hF
  replace HC := blkV HC b
  replace HF := blkV HF b
  replace HR := blkV HR b
  replace B := Below.then2 B b
  replace hn := hn.below b
  clear S1 b
  have e0 := cell_of_row w2 w.heap.size 0 _ _ _ HC
  have e1 := cell_of_row w2 w.heap.size 1 _ _ _ HC
  have e2 := cell_of_row w2 w.heap.size 2 _ _ _ HC
  have e3 := cell_of_row w2 w.heap.size 3 _ _ _ HC
  have e4 := cell_of_row w2 w.heap.size 4 _ _ _ HC
  have k0 := frozen_of_row w2 w.heap.size 0 _ _ HC
  have k1 := frozen_of_row w2 w.heap.size 1 _ _ HC
  have k2 := frozen_of_row w2 w.heap.size 2 _ _ HC
  have k3 := frozen_of_row w2 w.heap.size 3 _ _ HC
  have k4 := frozen_of_row w2 w.heap.size 4 _ _ HC
  go_upto_region 4 with fail
  clear e0 e1 e2 e3 e4 k0 k1 k2 k3 k4
  obtain ⟨h5, m⟩ := set5 HC (.slice (some ⟨G, 0, none⟩) X.length X.length) (.int .i64 busy) (.int .i64 nd) (.int .i64 rank) (.int .i64 now)
  generalize World.setCell _ _ _ = w3 at h5 m ⊢
  have hFG : FromB (w.heap.size + 3) G X.length L := ⟨by have := hF.1; omega, fun j hj => by have := hF.2 j hj; omega⟩
  have P : PuS w.heap.size G X busy nd rank now f af cf L H w w3 :=
    ⟨h5, (m.block _ (Array.getElem?_eq_some_iff.1 HF).1 (by omega)).trans HF, (m.block _ (Array.getElem?_eq_some_iff.1 HR).1 (by omega)).trans HR,
     O.kp (Y := fun q => q < w.heap.size ∨ w.heap.size + 1 ≤ q) ⟨m.size, fun q hq hl => m.block q hl (by omega), m.os, m.tape, m.output⟩ (.inr (by have := hFG.1; omega)) (fun j hj q h1 h2 => .inr (by have := hFG.2 j hj; omega)),
     hn0.below (B.trans (m.below (Nat.le_refl _) B.size)), B.trans (m.below (Nat.le_refl _) B.size)⟩
  --REST
  clear m HF HR B hd O HC h5 hF
  have P0 := P
  go_wp2_with (refine P0.sv.take rfl rfl rfl ?_)
  refine (implHasBox _ _ _ _ _ _ _ node _ hm).mono ?_
  rintro e w4 ⟨rfl, b⟩
  replace P := P.below b
  clear b P0
  cases hr : rng node 0 ((X.length : Int) - 1)
  · have HV : Hid (putS ⟨X, busy, nd, rank, now⟩ node f = (⟨X, busy, nd, rank, now⟩, 3)) := Lib.hid (by
      unfold putS
      rw [if_pos hok.out, if_neg]
      rintro ⟨h1, h2⟩
      have h2 : node < (X.length : Int) := h2
      rw [rng_iff.2 ⟨h1, by omega⟩] at hr
      cases hr)
    clear hr
    have e0 := cell_of_row w4 (w.heap.size + 2) 0 _ _ _ P.res
    have e1 := cell_of_row w4 (w.heap.size + 2) 1 _ _ _ P.res
    have e2 := cell_of_row w4 (w.heap.size + 2) 2 _ _ _ P.res
    have e3 := cell_of_row w4 (w.heap.size + 2) 3 _ _ _ P.res
    have e4 := cell_of_row w4 (w.heap.size + 2) 4 _ _ _ P.res
    have k0 := frozen_of_row w4 (w.heap.size + 2) 0 _ _ P.res
    have k1 := frozen_of_row w4 (w.heap.size + 2) 1 _ _ P.res
    have k2 := frozen_of_row w4 (w.heap.size + 2) 2 _ _ P.res
    have k3 := frozen_of_row w4 (w.heap.size + 2) 3 _ _ P.res
    have k4 := frozen_of_row w4 (w.heap.size + 2) 4 _ _ P.res
    go_wp2_with (refine P.sv.take rfl rfl rfl ?_)
    clear e0 e1 e2 e3 e4 k0 k1 k2 k3 k4
    obtain ⟨h5, O5, B5⟩ := P.fin rfl (by first | exact hFG | exact hFG') _ rfl
    refine bodyPost_ret (v := .tuple #[svV (some ⟨G, 0, none⟩) X.length X.length busy nd rank now, .int .i64 3]) ?_ rfl ⟨fun h => absurd h (by rw [hok.out]; simp), fun _ => ?_⟩
    · exact results_srv Tryz.results13 _ _ (w.heap.size + 2) _ _ rfl rfl h5 rfl
    · rw [HV.out]
      exact ⟨G, _, _, rfl, O5, ⟨by have := hFG.1; show w.heap.size ≤ G; omega, fun i hi => by have := hFG.2 i hi; omega⟩, B5⟩
  have h1 := rng_iff.1 hr
  obtain ⟨j, rfl⟩ : ∃ j : Nat, node = (j : Int) := ⟨node.toNat, by omega⟩
  have hj : j < X.length := by omega
  clear hr h1
  go_wp2_with fail
  by_cases hq : 3 < busy ∧ nd = (j : Int) ∧ rank = rkF f
  · have HV : Hid (putS ⟨X, busy, nd, rank, now⟩ (j : Int) f = (⟨X, busy, nd, rank, now⟩, 2)) := Lib.hid (by
      unfold putS
      rw [if_pos hok.out, if_pos ⟨by omega, by show (j : Int) < (X.length : Int); omega⟩, if_pos hq])
    have h3 : decide (3 < busy) = true := decide_eq_true hq.1
    have hn' : ((j : Int) == nd) = true := by rw [hq.2.1]; exact beq_self_eq_true _
    have hr' : (rankV f.id f.rm f.ln f.D == rank) = true := by rw [hq.2.2]; exact beq_self_eq_true (rkF f)
    replace hq := Lib.hid hq
    refine region_class (PuS w.heap.size G X busy nd rank now f af cf L H w) (by kernel_rfl) (by kernel_rfl) P.drew ?_
    repeat first
      | go_big_quiet_skip
      | (go_big_quiet_want
         apply Exists.intro
         refine ⟨fun u hu => ?_, ?_⟩
         · exact quietAt_val (hu.sv.took rfl rfl)
         simp only [Act.put, List.setIfInBounds_toArray, List.set_cons_zero, List.set_cons_succ]
         go_big_quiet_on)
      | (go_big_quiet_want
         apply Exists.intro
         refine ⟨fun u hu => ?_, ?_⟩
         · exact quietAt_val (frTookI (f := f) (af := af) (cf := cf) hu.frm rfl rfl)
         simp only [Act.put, List.setIfInBounds_toArray, List.set_cons_zero, List.set_cons_succ]
         go_big_quiet_on)
      | (go_big_quiet_want
         apply Exists.intro
         refine ⟨fun u hu => ?_, ?_⟩
         · apply quietAt_val
           have x0 := hu.sv.cell 0
           have x2 := hu.sv.cell 2
           have x3 := hu.sv.cell 3
           go_simp
           rfl
         simp only [Act.put, List.setIfInBounds_toArray, List.set_cons_zero, List.set_cons_succ]
         go_big_quiet_on)
      | (go_big_quiet_want
         apply Exists.intro
         refine ⟨fun u hu => ?_, ?_⟩
         · apply quietAt_enter 43 #[svV (some ⟨G, 0, none⟩) X.length X.length busy nd rank now]
           · go_simp
           · refine (implSaying _ _ _ _ _ _ _ u).mono ?_
             rintro e w2 ⟨he, b2⟩
             rw [h3] at he
             exact ⟨he, hu.below b2⟩
         simp only [Act.put, List.setIfInBounds_toArray, List.set_cons_zero, List.set_cons_succ]
         go_big_quiet_on)
      | (go_big_quiet_want
         apply Exists.intro
         refine ⟨fun u hu => ?_, ?_⟩
         · apply quietAt_enter 44 #[frV f.id f.rm f.ln af f.D.length cf]
           · go_simp
           · refine (implRankOf _ _ _ _ _ _ u hu.nums).mono ?_
             rintro e w2 ⟨he, b2⟩
             exact ⟨he, hu.below b2⟩
         simp only [Act.put, List.setIfInBounds_toArray, List.set_cons_zero, List.set_cons_succ]
         go_big_quiet_on)
    refine wpQuiet_nil ?_
    intro W4 P4
    clear P hq h3
    have e0 := cell_of_row W4 (w.heap.size + 2) 0 _ _ _ P4.res
    have e1 := cell_of_row W4 (w.heap.size + 2) 1 _ _ _ P4.res
    have e2 := cell_of_row W4 (w.heap.size + 2) 2 _ _ _ P4.res
    have e3 := cell_of_row W4 (w.heap.size + 2) 3 _ _ _ P4.res
    have e4 := cell_of_row W4 (w.heap.size + 2) 4 _ _ _ P4.res
    have k0 := frozen_of_row W4 (w.heap.size + 2) 0 _ _ P4.res
    have k1 := frozen_of_row W4 (w.heap.size + 2) 1 _ _ P4.res
    have k2 := frozen_of_row W4 (w.heap.size + 2) 2 _ _ P4.res
    have k3 := frozen_of_row W4 (w.heap.size + 2) 3 _ _ P4.res
    have k4 := frozen_of_row W4 (w.heap.size + 2) 4 _ _ P4.res
    go_wp2_with (refine P4.sv.take rfl rfl rfl ?_)
    clear e0 e1 e2 e3 e4 k0 k1 k2 k3 k4
    obtain ⟨h5, O5, B5⟩ := P4.fin rfl (by first | exact hFG | exact hFG') _ rfl
    refine bodyPost_ret (v := .tuple #[svV (some ⟨G, 0, none⟩) X.length X.length busy nd rank now, .int .i64 2]) ?_ rfl ⟨fun h => absurd h (by rw [hok.out]; simp), fun _ => ?_⟩
    · exact results_srv Tryz.results13 _ _ (w.heap.size + 2) _ _ rfl rfl h5 rfl
    · rw [HV.out]
      exact ⟨G, _, _, rfl, O5, ⟨by have := hFG.1; show w.heap.size ≤ G; omega, fun i hi => by have := hFG.2 i hi; omega⟩, B5⟩
  by_cases h30 : ¬ 3 < busy
  · have h3 : decide (3 < busy) = false := decide_eq_false h30
    refine region_class (PuS w.heap.size G X busy nd rank now f af cf L H w) (by kernel_rfl) (by kernel_rfl) P.drew ?_
    repeat first
      | go_big_quiet_skip
      | (go_big_quiet_want
         apply Exists.intro
         refine ⟨fun u hu => ?_, ?_⟩
         · exact quietAt_val (hu.sv.took rfl rfl)
         simp only [Act.put, List.setIfInBounds_toArray, List.set_cons_zero, List.set_cons_succ]
         go_big_quiet_on)
      | (go_big_quiet_want
         apply Exists.intro
         refine ⟨fun u hu => ?_, ?_⟩
         · exact quietAt_val (frTookI (f := f) (af := af) (cf := cf) hu.frm rfl rfl)
         simp only [Act.put, List.setIfInBounds_toArray, List.set_cons_zero, List.set_cons_succ]
         go_big_quiet_on)
      | (go_big_quiet_want
         apply Exists.intro
         refine ⟨fun u hu => ?_, ?_⟩
         · apply quietAt_val
           have x0 := hu.sv.cell 0
           have x2 := hu.sv.cell 2
           have x3 := hu.sv.cell 3
           go_simp
           rfl
         simp only [Act.put, List.setIfInBounds_toArray, List.set_cons_zero, List.set_cons_succ]
         go_big_quiet_on)
      | (go_big_quiet_want
         apply Exists.intro
         refine ⟨fun u hu => ?_, ?_⟩
         · apply quietAt_enter 43 #[svV (some ⟨G, 0, none⟩) X.length X.length busy nd rank now]
           · go_simp
           · refine (implSaying _ _ _ _ _ _ _ u).mono ?_
             rintro e w2 ⟨he, b2⟩
             rw [h3] at he
             exact ⟨he, hu.below b2⟩
         simp only [Act.put, List.setIfInBounds_toArray, List.set_cons_zero, List.set_cons_succ]
         go_big_quiet_on)
      | (go_big_quiet_want
         apply Exists.intro
         refine ⟨fun u hu => ?_, ?_⟩
         · apply quietAt_enter 44 #[frV f.id f.rm f.ln af f.D.length cf]
           · go_simp
           · refine (implRankOf _ _ _ _ _ _ u hu.nums).mono ?_
             rintro e w2 ⟨he, b2⟩
             exact ⟨he, hu.below b2⟩
         simp only [Act.put, List.setIfInBounds_toArray, List.set_cons_zero, List.set_cons_succ]
         go_big_quiet_on)
    refine wpQuiet_nil ?_
    intro W4 P4
    clear P h3 h30
    obtain ⟨al, cl, hcG, hfr, hA⟩ := P4.cellG hbx hj
    go_upto_region 8 with fail
    refine wp_region_held (S := fun u => u.heap[w.heap.size]? = some (.cells (svC (some ⟨G, 0, none⟩) X.length X.length busy nd rank now) 26 (0, 0)) ∧ u.heap[w.heap.size + 1]? = some (.cells (frC f af cf) 35 (0, 0)) ∧ u.cell? ⟨G, j, none⟩ = some (.slice al (nthB X j).length cl)) (by kernel_rfl) ?_
    have B0 : Below W4.heap.size W4 { W4 with drawn := W4.drawn + 1 } := (Below.refl _ _).drew
    replace P4 := P4.below B0
    replace hcG := (B0.cell (World.block_lt_of_cell? _ _ hcG)).trans hcG
    replace hfr := hfr.below B0
    generalize ({ W4 with drawn := W4.drawn + 1 } : World) = V at P4 hcG hfr ⊢
    clear B0
    have hS : V.heap[w.heap.size]? = some (.cells (svC (some ⟨G, 0, none⟩) X.length X.length busy nd rank now) 26 (0, 0)) ∧ V.heap[w.heap.size + 1]? = some (.cells (frC f af cf) 35 (0, 0)) ∧ V.cell? ⟨G, j, none⟩ = some (.slice al (nthB X j).length cl) := ⟨P4.blk, P4.frm, hcG⟩
    refine h_take 0 38 (.pointer (some ⟨w.heap.size, 0, none⟩)) rfl rfl (by kernel_rfl) (by kernel_rfl) (by kernel_rfl) (fun _ _ _ h => h) rfl (fun u hu => by go_simp) hS ?_
    refine h_take 1 39 (.slice (some ⟨G, 0, none⟩) X.length X.length) rfl rfl (by kernel_rfl) (by kernel_rfl) (by kernel_rfl) (fun _ _ _ h => h) rfl (fun u hu => by have c0 := cell_of_row u _ 0 _ _ _ hu.1; go_simp) hS ?_
    refine h_take 2 40 (.int .i64 (j : Int)) rfl rfl (by kernel_rfl) (by kernel_rfl) (by kernel_rfl) (fun _ _ _ h => h) rfl (fun u hu => by go_simp) hS ?_
    refine h_take 3 41 (.pointer (some ⟨G, j, none⟩)) rfl rfl (by kernel_rfl) (by kernel_rfl) (by kernel_rfl) (fun _ _ _ h => h) rfl (fun u hu => by go_simp) hS ?_
    refine h_take 4 42 (.slice al (nthB X j).length cl) rfl rfl (by kernel_rfl) (by kernel_rfl) (by kernel_rfl) (fun _ _ _ h => h) rfl (fun u hu => by have c0 := hu.2.2; go_simp) hS ?_
    refine h_take 5 43 (frV f.id f.rm f.ln af f.D.length cf) rfl rfl (by kernel_rfl) (by kernel_rfl) (by kernel_rfl) (fun _ _ _ h => h) rfl (fun u hu => frTookI hu.2.1 rfl rfl) hS ?_
    simp only [Act.put, List.setIfInBounds_toArray, List.set_cons_zero, List.set_cons_succ]
    refine h_call 6 44 45 #[.slice al (nthB X j).length cl, frV f.id f.rm f.ln af f.D.length cf] rfl rfl (by kernel_rfl) rfl (by go_simp) ?_
    refine (show Calls _ _ _ _ (PutGot (putV (nthB X j) f) V) from implPutIn al (nthB X j) cl f.id f.rm f.ln af f.D cf V hfr hA.1 hA.2 P4.nums).mono ?_
    rintro e w5 ⟨M, a5, c5, rfl, hM, OB, FB, b⟩
    have OX : OwnX True V.heap.size w5.heap.size (putV (nthB X j) f).1 (.slice a5 (putV (nthB X j) f).1.length c5) w5 := ⟨M, a5, c5, rfl, hM, OB, fun _ => FB, OB.under⟩
    have hle := b.size
    have hzV : w.heap.size + 3 ≤ V.heap.size := (Array.getElem?_eq_some_iff.1 P4.res).1
    have hHj : ∀ i, i < X.length → H i ≤ V.heap.size := fun i hi => (P4.box.out i hi).2.1
    have hGV := P4.box.lt
    have P5 := P4.below b
    have hcG5 := (b.cell (World.block_lt_of_cell? _ _ hcG)).trans hcG
    clear OB FB hM b hfr hA P4 hS hcG
    generalize hL5 : (putV (nthB X j) f).1 = L5 at *
    generalize hk5 : (putV (nthB X j) f).2 = k5 at *
    replace hL5 := Lib.hid hL5
    replace hk5 := Lib.hid hk5
    have hS : w5.heap[w.heap.size]? = some (.cells (svC (some ⟨G, 0, none⟩) X.length X.length busy nd rank now) 26 (0, 0)) ∧ w5.heap[w.heap.size + 1]? = some (.cells (frC f af cf) 35 (0, 0)) ∧ w5.cell? ⟨G, j, none⟩ = some (.slice al (nthB X j).length cl) := ⟨P5.blk, P5.frm, hcG5⟩
    refine ⟨_, rfl, hS, ?_⟩
    simp only [Act.put, List.setIfInBounds_toArray, List.set_cons_zero, List.set_cons_succ]
    refine h_take 7 37 (.tuple #[.slice a5 L5.length c5, .int .i64 k5]) rfl rfl (by kernel_rfl) (by kernel_rfl) (by kernel_rfl) (fun _ _ _ h => h) rfl (fun u hu => by go_simp) hS ?_
    refine h_take 8 45 (.slice a5 L5.length c5) rfl rfl (by kernel_rfl) (by kernel_rfl) (by kernel_rfl) (fun _ _ _ h => h) rfl (fun u hu => by go_simp) hS ?_
    refine h_take 9 46 (.int .i64 k5) rfl rfl (by kernel_rfl) (by kernel_rfl) (by kernel_rfl) (fun _ _ _ h => h) rfl (fun u hu => by go_simp) hS ?_
    refine h_take 10 8 (.slice a5 L5.length c5) rfl rfl (by kernel_rfl) (by kernel_rfl) (by kernel_rfl) (fun _ _ _ h => h) rfl (fun u hu => by go_simp) hS ?_
    refine h_take 11 9 (.int .i64 k5) rfl rfl (by kernel_rfl) (by kernel_rfl) (by kernel_rfl) (fun _ _ _ h => h) rfl (fun u hu => by go_simp) hS ?_
    simp only [Act.put, List.setIfInBounds_toArray, List.set_cons_zero, List.set_cons_succ]
    refine wpAnyH_done (by kernel_rfl) ?_ _
    clear hS
    have c0 := cell_of_row w5 w.heap.size 0 _ _ _ P5.blk
    obtain ⟨cur, hcb, hcs, -⟩ := P5.box.row
    have f0 := frozen_of_row w5 G j _ _ hcb
    clear hcb hcs cur
    go_upto_region 10 with fail
    have O6 := (P5.box.put (i := j) (lo := V.heap.size) (hi := w5.heap.size) (X' := X.set j L5) (v := .slice a5 L5.length c5) hj (fun i hi hne => by rw [nthB_set hj, if_neg hne]) (by rw [nthB_set hj, if_pos rfl]; exact OX) hle (Nat.le_refl _) (.inl hGV) (fun i hi _ => .inl (hHj i hi))).less (F' := fun i => i < X.length) (fun i hi => .inl hi)
    have m := mid_cell w5 G j (.slice a5 L5.length c5)
    have hlX : (X.set j L5).length = X.length := List.length_set
    have hGl := hFG.1
    have P6 : PuS w.heap.size G (X.set j L5) busy nd rank now f af cf (fun i => if i = j then V.heap.size else L i) (fun i => if i = j then w5.heap.size else H i) w (w5.setCell ⟨G, j, none⟩ (.slice a5 L5.length c5)) := by
      refine ⟨?_, (m.block _ (Array.getElem?_eq_some_iff.1 P5.frm).1 (by omega)).trans P5.frm, (m.block _ (Array.getElem?_eq_some_iff.1 P5.res).1 (by omega)).trans P5.res, ?_, ?_, P5.bel.trans (m.below (by omega) P5.bel.size)⟩
      · rw [hlX]; exact (m.block _ (Array.getElem?_eq_some_iff.1 P5.blk).1 (by omega)).trans P5.blk
      · rw [hlX]; exact O6
      · exact hn0.below (P5.bel.trans (m.below (by omega) P5.bel.size))
    have hFG' : FromB (w.heap.size + 3) G (X.set j L5).length (fun i => if i = j then V.heap.size else L i) := ⟨hFG.1, fun i hi => by
      rw [hlX] at hi
      dsimp only
      split
      · exact hzV
      · exact hFG.2 i hi⟩
    have HV : Hid (putS ⟨X, busy, nd, rank, now⟩ (j : Int) f = (⟨X.set j L5, busy, nd, rank, now⟩, k5)) := Lib.hid (by
      unfold putS
      rw [if_pos hok.out, if_pos ⟨by omega, by show (j : Int) < (X.length : Int); omega⟩, if_neg hq]
      show ((⟨X.set (j : Int).toNat (putV (nthB X (j : Int).toNat) f).1, busy, nd, rank, now⟩ : Srv), (putV (nthB X (j : Int).toNat) f).2) = _
      rw [Int.toNat_natCast, hL5.out, hk5.out])
    clear m O6 P5 OX hGV hHj hle hcG5 f0 c0
    generalize w5.setCell _ _ = w6 at P6 ⊢
    clear hlX
    generalize X.set j L5 = X' at P6 hFG' HV
    have e0 := cell_of_row w6 (w.heap.size + 2) 0 _ _ _ P6.res
    have e1 := cell_of_row w6 (w.heap.size + 2) 1 _ _ _ P6.res
    have e2 := cell_of_row w6 (w.heap.size + 2) 2 _ _ _ P6.res
    have e3 := cell_of_row w6 (w.heap.size + 2) 3 _ _ _ P6.res
    have e4 := cell_of_row w6 (w.heap.size + 2) 4 _ _ _ P6.res
    have k0 := frozen_of_row w6 (w.heap.size + 2) 0 _ _ P6.res
    have k1 := frozen_of_row w6 (w.heap.size + 2) 1 _ _ P6.res
    have k2 := frozen_of_row w6 (w.heap.size + 2) 2 _ _ P6.res
    have k3 := frozen_of_row w6 (w.heap.size + 2) 3 _ _ P6.res
    have k4 := frozen_of_row w6 (w.heap.size + 2) 4 _ _ P6.res
    go_wp2_with (refine P6.sv.take rfl rfl rfl ?_)
    clear e0 e1 e2 e3 e4 k0 k1 k2 k3 k4
    obtain ⟨h5, O5, B5⟩ := P6.fin rfl (by first | exact hFG | exact hFG') _ rfl
    refine bodyPost_ret (v := .tuple #[svV (some ⟨G, 0, none⟩) X'.length X'.length busy nd rank now, .int .i64 k5]) ?_ rfl ⟨fun h => absurd h (by rw [hok.out]; simp), fun _ => ?_⟩
    · exact results_srv Tryz.results13 _ _ (w.heap.size + 2) _ _ rfl rfl h5 rfl
    · rw [HV.out]
      exact ⟨G, _, _, rfl, O5, ⟨by have := hFG.1; show w.heap.size ≤ G; omega, fun i hi => by have := hFG'.2 i hi; omega⟩, B5⟩
  have h3 : decide (3 < busy) = true := decide_eq_true (by omega)
  by_cases hn0' : ¬ nd = (j : Int)
  · have hn' : ((j : Int) == nd) = false := beq_eq_false_iff_ne.2 fun h => hn0' h.symm
    refine region_class (PuS w.heap.size G X busy nd rank now f af cf L H w) (by kernel_rfl) (by kernel_rfl) P.drew ?_
    repeat first
      | go_big_quiet_skip
      | (go_big_quiet_want
         apply Exists.intro
         refine ⟨fun u hu => ?_, ?_⟩
         · exact quietAt_val (hu.sv.took rfl rfl)
         simp only [Act.put, List.setIfInBounds_toArray, List.set_cons_zero, List.set_cons_succ]
         go_big_quiet_on)
      | (go_big_quiet_want
         apply Exists.intro
         refine ⟨fun u hu => ?_, ?_⟩
         · exact quietAt_val (frTookI (f := f) (af := af) (cf := cf) hu.frm rfl rfl)
         simp only [Act.put, List.setIfInBounds_toArray, List.set_cons_zero, List.set_cons_succ]
         go_big_quiet_on)
      | (go_big_quiet_want
         apply Exists.intro
         refine ⟨fun u hu => ?_, ?_⟩
         · apply quietAt_val
           have x0 := hu.sv.cell 0
           have x2 := hu.sv.cell 2
           have x3 := hu.sv.cell 3
           go_simp
           rfl
         simp only [Act.put, List.setIfInBounds_toArray, List.set_cons_zero, List.set_cons_succ]
         go_big_quiet_on)
      | (go_big_quiet_want
         apply Exists.intro
         refine ⟨fun u hu => ?_, ?_⟩
         · apply quietAt_enter 43 #[svV (some ⟨G, 0, none⟩) X.length X.length busy nd rank now]
           · go_simp
           · refine (implSaying _ _ _ _ _ _ _ u).mono ?_
             rintro e w2 ⟨he, b2⟩
             rw [h3] at he
             exact ⟨he, hu.below b2⟩
         simp only [Act.put, List.setIfInBounds_toArray, List.set_cons_zero, List.set_cons_succ]
         go_big_quiet_on)
      | (go_big_quiet_want
         apply Exists.intro
         refine ⟨fun u hu => ?_, ?_⟩
         · apply quietAt_enter 44 #[frV f.id f.rm f.ln af f.D.length cf]
           · go_simp
           · refine (implRankOf _ _ _ _ _ _ u hu.nums).mono ?_
             rintro e w2 ⟨he, b2⟩
             exact ⟨he, hu.below b2⟩
         simp only [Act.put, List.setIfInBounds_toArray, List.set_cons_zero, List.set_cons_succ]
         go_big_quiet_on)
    refine wpQuiet_nil ?_
    intro W4 P4
    clear P h3 h30 hn' hn0'
    obtain ⟨al, cl, hcG, hfr, hA⟩ := P4.cellG hbx hj
    go_upto_region 8 with fail
    refine wp_region_held (S := fun u => u.heap[w.heap.size]? = some (.cells (svC (some ⟨G, 0, none⟩) X.length X.length busy nd rank now) 26 (0, 0)) ∧ u.heap[w.heap.size + 1]? = some (.cells (frC f af cf) 35 (0, 0)) ∧ u.cell? ⟨G, j, none⟩ = some (.slice al (nthB X j).length cl)) (by kernel_rfl) ?_
    have B0 : Below W4.heap.size W4 { W4 with drawn := W4.drawn + 1 } := (Below.refl _ _).drew
    replace P4 := P4.below B0
    replace hcG := (B0.cell (World.block_lt_of_cell? _ _ hcG)).trans hcG
    replace hfr := hfr.below B0
    generalize ({ W4 with drawn := W4.drawn + 1 } : World) = V at P4 hcG hfr ⊢
    clear B0
    have hS : V.heap[w.heap.size]? = some (.cells (svC (some ⟨G, 0, none⟩) X.length X.length busy nd rank now) 26 (0, 0)) ∧ V.heap[w.heap.size + 1]? = some (.cells (frC f af cf) 35 (0, 0)) ∧ V.cell? ⟨G, j, none⟩ = some (.slice al (nthB X j).length cl) := ⟨P4.blk, P4.frm, hcG⟩
    refine h_take 0 38 (.pointer (some ⟨w.heap.size, 0, none⟩)) rfl rfl (by kernel_rfl) (by kernel_rfl) (by kernel_rfl) (fun _ _ _ h => h) rfl (fun u hu => by go_simp) hS ?_
    refine h_take 1 39 (.slice (some ⟨G, 0, none⟩) X.length X.length) rfl rfl (by kernel_rfl) (by kernel_rfl) (by kernel_rfl) (fun _ _ _ h => h) rfl (fun u hu => by have c0 := cell_of_row u _ 0 _ _ _ hu.1; go_simp) hS ?_
    refine h_take 2 40 (.int .i64 (j : Int)) rfl rfl (by kernel_rfl) (by kernel_rfl) (by kernel_rfl) (fun _ _ _ h => h) rfl (fun u hu => by go_simp) hS ?_
    refine h_take 3 41 (.pointer (some ⟨G, j, none⟩)) rfl rfl (by kernel_rfl) (by kernel_rfl) (by kernel_rfl) (fun _ _ _ h => h) rfl (fun u hu => by go_simp) hS ?_
    refine h_take 4 42 (.slice al (nthB X j).length cl) rfl rfl (by kernel_rfl) (by kernel_rfl) (by kernel_rfl) (fun _ _ _ h => h) rfl (fun u hu => by have c0 := hu.2.2; go_simp) hS ?_
    refine h_take 5 43 (frV f.id f.rm f.ln af f.D.length cf) rfl rfl (by kernel_rfl) (by kernel_rfl) (by kernel_rfl) (fun _ _ _ h => h) rfl (fun u hu => frTookI hu.2.1 rfl rfl) hS ?_
    simp only [Act.put, List.setIfInBounds_toArray, List.set_cons_zero, List.set_cons_succ]
    refine h_call 6 44 45 #[.slice al (nthB X j).length cl, frV f.id f.rm f.ln af f.D.length cf] rfl rfl (by kernel_rfl) rfl (by go_simp) ?_
    refine (show Calls _ _ _ _ (PutGot (putV (nthB X j) f) V) from implPutIn al (nthB X j) cl f.id f.rm f.ln af f.D cf V hfr hA.1 hA.2 P4.nums).mono ?_
    rintro e w5 ⟨M, a5, c5, rfl, hM, OB, FB, b⟩
    have OX : OwnX True V.heap.size w5.heap.size (putV (nthB X j) f).1 (.slice a5 (putV (nthB X j) f).1.length c5) w5 := ⟨M, a5, c5, rfl, hM, OB, fun _ => FB, OB.under⟩
    have hle := b.size
    have hzV : w.heap.size + 3 ≤ V.heap.size := (Array.getElem?_eq_some_iff.1 P4.res).1
    have hHj : ∀ i, i < X.length → H i ≤ V.heap.size := fun i hi => (P4.box.out i hi).2.1
    have hGV := P4.box.lt
    have P5 := P4.below b
    have hcG5 := (b.cell (World.block_lt_of_cell? _ _ hcG)).trans hcG
    clear OB FB hM b hfr hA P4 hS hcG
    generalize hL5 : (putV (nthB X j) f).1 = L5 at *
    generalize hk5 : (putV (nthB X j) f).2 = k5 at *
    replace hL5 := Lib.hid hL5
    replace hk5 := Lib.hid hk5
    have hS : w5.heap[w.heap.size]? = some (.cells (svC (some ⟨G, 0, none⟩) X.length X.length busy nd rank now) 26 (0, 0)) ∧ w5.heap[w.heap.size + 1]? = some (.cells (frC f af cf) 35 (0, 0)) ∧ w5.cell? ⟨G, j, none⟩ = some (.slice al (nthB X j).length cl) := ⟨P5.blk, P5.frm, hcG5⟩
    refine ⟨_, rfl, hS, ?_⟩
    simp only [Act.put, List.setIfInBounds_toArray, List.set_cons_zero, List.set_cons_succ]
    refine h_take 7 37 (.tuple #[.slice a5 L5.length c5, .int .i64 k5]) rfl rfl (by kernel_rfl) (by kernel_rfl) (by kernel_rfl) (fun _ _ _ h => h) rfl (fun u hu => by go_simp) hS ?_
    refine h_take 8 45 (.slice a5 L5.length c5) rfl rfl (by kernel_rfl) (by kernel_rfl) (by kernel_rfl) (fun _ _ _ h => h) rfl (fun u hu => by go_simp) hS ?_
    refine h_take 9 46 (.int .i64 k5) rfl rfl (by kernel_rfl) (by kernel_rfl) (by kernel_rfl) (fun _ _ _ h => h) rfl (fun u hu => by go_simp) hS ?_
    refine h_take 10 8 (.slice a5 L5.length c5) rfl rfl (by kernel_rfl) (by kernel_rfl) (by kernel_rfl) (fun _ _ _ h => h) rfl (fun u hu => by go_simp) hS ?_
    refine h_take 11 9 (.int .i64 k5) rfl rfl (by kernel_rfl) (by kernel_rfl) (by kernel_rfl) (fun _ _ _ h => h) rfl (fun u hu => by go_simp) hS ?_
    simp only [Act.put, List.setIfInBounds_toArray, List.set_cons_zero, List.set_cons_succ]
    refine wpAnyH_done (by kernel_rfl) ?_ _
    clear hS
    have c0 := cell_of_row w5 w.heap.size 0 _ _ _ P5.blk
    obtain ⟨cur, hcb, hcs, -⟩ := P5.box.row
    have f0 := frozen_of_row w5 G j _ _ hcb
    clear hcb hcs cur
    go_upto_region 10 with fail
    have O6 := (P5.box.put (i := j) (lo := V.heap.size) (hi := w5.heap.size) (X' := X.set j L5) (v := .slice a5 L5.length c5) hj (fun i hi hne => by rw [nthB_set hj, if_neg hne]) (by rw [nthB_set hj, if_pos rfl]; exact OX) hle (Nat.le_refl _) (.inl hGV) (fun i hi _ => .inl (hHj i hi))).less (F' := fun i => i < X.length) (fun i hi => .inl hi)
    have m := mid_cell w5 G j (.slice a5 L5.length c5)
    have hlX : (X.set j L5).length = X.length := List.length_set
    have hGl := hFG.1
    have P6 : PuS w.heap.size G (X.set j L5) busy nd rank now f af cf (fun i => if i = j then V.heap.size else L i) (fun i => if i = j then w5.heap.size else H i) w (w5.setCell ⟨G, j, none⟩ (.slice a5 L5.length c5)) := by
      refine ⟨?_, (m.block _ (Array.getElem?_eq_some_iff.1 P5.frm).1 (by omega)).trans P5.frm, (m.block _ (Array.getElem?_eq_some_iff.1 P5.res).1 (by omega)).trans P5.res, ?_, ?_, P5.bel.trans (m.below (by omega) P5.bel.size)⟩
      · rw [hlX]; exact (m.block _ (Array.getElem?_eq_some_iff.1 P5.blk).1 (by omega)).trans P5.blk
      · rw [hlX]; exact O6
      · exact hn0.below (P5.bel.trans (m.below (by omega) P5.bel.size))
    have hFG' : FromB (w.heap.size + 3) G (X.set j L5).length (fun i => if i = j then V.heap.size else L i) := ⟨hFG.1, fun i hi => by
      rw [hlX] at hi
      dsimp only
      split
      · exact hzV
      · exact hFG.2 i hi⟩
    have HV : Hid (putS ⟨X, busy, nd, rank, now⟩ (j : Int) f = (⟨X.set j L5, busy, nd, rank, now⟩, k5)) := Lib.hid (by
      unfold putS
      rw [if_pos hok.out, if_pos ⟨by omega, by show (j : Int) < (X.length : Int); omega⟩, if_neg hq]
      show ((⟨X.set (j : Int).toNat (putV (nthB X (j : Int).toNat) f).1, busy, nd, rank, now⟩ : Srv), (putV (nthB X (j : Int).toNat) f).2) = _
      rw [Int.toNat_natCast, hL5.out, hk5.out])
    clear m O6 P5 OX hGV hHj hle hcG5 f0 c0
    generalize w5.setCell _ _ = w6 at P6 ⊢
    clear hlX
    generalize X.set j L5 = X' at P6 hFG' HV
    have e0 := cell_of_row w6 (w.heap.size + 2) 0 _ _ _ P6.res
    have e1 := cell_of_row w6 (w.heap.size + 2) 1 _ _ _ P6.res
    have e2 := cell_of_row w6 (w.heap.size + 2) 2 _ _ _ P6.res
    have e3 := cell_of_row w6 (w.heap.size + 2) 3 _ _ _ P6.res
    have e4 := cell_of_row w6 (w.heap.size + 2) 4 _ _ _ P6.res
    have k0 := frozen_of_row w6 (w.heap.size + 2) 0 _ _ P6.res
    have k1 := frozen_of_row w6 (w.heap.size + 2) 1 _ _ P6.res
    have k2 := frozen_of_row w6 (w.heap.size + 2) 2 _ _ P6.res
    have k3 := frozen_of_row w6 (w.heap.size + 2) 3 _ _ P6.res
    have k4 := frozen_of_row w6 (w.heap.size + 2) 4 _ _ P6.res
    go_wp2_with (refine P6.sv.take rfl rfl rfl ?_)
    clear e0 e1 e2 e3 e4 k0 k1 k2 k3 k4
    obtain ⟨h5, O5, B5⟩ := P6.fin rfl (by first | exact hFG | exact hFG') _ rfl
    refine bodyPost_ret (v := .tuple #[svV (some ⟨G, 0, none⟩) X'.length X'.length busy nd rank now, .int .i64 k5]) ?_ rfl ⟨fun h => absurd h (by rw [hok.out]; simp), fun _ => ?_⟩
    · exact results_srv Tryz.results13 _ _ (w.heap.size + 2) _ _ rfl rfl h5 rfl
    · rw [HV.out]
      exact ⟨G, _, _, rfl, O5, ⟨by have := hFG.1; show w.heap.size ≤ G; omega, fun i hi => by have := hFG'.2 i hi; omega⟩, B5⟩
  · have hn' : ((j : Int) == nd) = true := by rw [Classical.not_not.1 hn0']; exact beq_self_eq_true _
    have hr' : (rankV f.id f.rm f.ln f.D == rank) = false := beq_eq_false_iff_ne.2 fun h => hq ⟨by omega, Classical.not_not.1 hn0', h.symm⟩
    refine region_class (PuS w.heap.size G X busy nd rank now f af cf L H w) (by kernel_rfl) (by kernel_rfl) P.drew ?_
    repeat first
      | go_big_quiet_skip
      | (go_big_quiet_want
         apply Exists.intro
         refine ⟨fun u hu => ?_, ?_⟩
         · exact quietAt_val (hu.sv.took rfl rfl)
         simp only [Act.put, List.setIfInBounds_toArray, List.set_cons_zero, List.set_cons_succ]
         go_big_quiet_on)
      | (go_big_quiet_want
         apply Exists.intro
         refine ⟨fun u hu => ?_, ?_⟩
         · exact quietAt_val (frTookI (f := f) (af := af) (cf := cf) hu.frm rfl rfl)
         simp only [Act.put, List.setIfInBounds_toArray, List.set_cons_zero, List.set_cons_succ]
         go_big_quiet_on)
      | (go_big_quiet_want
         apply Exists.intro
         refine ⟨fun u hu => ?_, ?_⟩
         · apply quietAt_val
           have x0 := hu.sv.cell 0
           have x2 := hu.sv.cell 2
           have x3 := hu.sv.cell 3
           go_simp
           rfl
         simp only [Act.put, List.setIfInBounds_toArray, List.set_cons_zero, List.set_cons_succ]
         go_big_quiet_on)
      | (go_big_quiet_want
         apply Exists.intro
         refine ⟨fun u hu => ?_, ?_⟩
         · apply quietAt_enter 43 #[svV (some ⟨G, 0, none⟩) X.length X.length busy nd rank now]
           · go_simp
           · refine (implSaying _ _ _ _ _ _ _ u).mono ?_
             rintro e w2 ⟨he, b2⟩
             rw [h3] at he
             exact ⟨he, hu.below b2⟩
         simp only [Act.put, List.setIfInBounds_toArray, List.set_cons_zero, List.set_cons_succ]
         go_big_quiet_on)
      | (go_big_quiet_want
         apply Exists.intro
         refine ⟨fun u hu => ?_, ?_⟩
         · apply quietAt_enter 44 #[frV f.id f.rm f.ln af f.D.length cf]
           · go_simp
           · refine (implRankOf _ _ _ _ _ _ u hu.nums).mono ?_
             rintro e w2 ⟨he, b2⟩
             exact ⟨he, hu.below b2⟩
         simp only [Act.put, List.setIfInBounds_toArray, List.set_cons_zero, List.set_cons_succ]
         go_big_quiet_on)
    refine wpQuiet_nil ?_
    intro W4 P4
    clear P h3 h30 hn' hn0' hr'
    obtain ⟨al, cl, hcG, hfr, hA⟩ := P4.cellG hbx hj
    go_upto_region 8 with fail
    refine wp_region_held (S := fun u => u.heap[w.heap.size]? = some (.cells (svC (some ⟨G, 0, none⟩) X.length X.length busy nd rank now) 26 (0, 0)) ∧ u.heap[w.heap.size + 1]? = some (.cells (frC f af cf) 35 (0, 0)) ∧ u.cell? ⟨G, j, none⟩ = some (.slice al (nthB X j).length cl)) (by kernel_rfl) ?_
    have B0 : Below W4.heap.size W4 { W4 with drawn := W4.drawn + 1 } := (Below.refl _ _).drew
    replace P4 := P4.below B0
    replace hcG := (B0.cell (World.block_lt_of_cell? _ _ hcG)).trans hcG
    replace hfr := hfr.below B0
    generalize ({ W4 with drawn := W4.drawn + 1 } : World) = V at P4 hcG hfr ⊢
    clear B0
    have hS : V.heap[w.heap.size]? = some (.cells (svC (some ⟨G, 0, none⟩) X.length X.length busy nd rank now) 26 (0, 0)) ∧ V.heap[w.heap.size + 1]? = some (.cells (frC f af cf) 35 (0, 0)) ∧ V.cell? ⟨G, j, none⟩ = some (.slice al (nthB X j).length cl) := ⟨P4.blk, P4.frm, hcG⟩
    refine h_take 0 38 (.pointer (some ⟨w.heap.size, 0, none⟩)) rfl rfl (by kernel_rfl) (by kernel_rfl) (by kernel_rfl) (fun _ _ _ h => h) rfl (fun u hu => by go_simp) hS ?_
    refine h_take 1 39 (.slice (some ⟨G, 0, none⟩) X.length X.length) rfl rfl (by kernel_rfl) (by kernel_rfl) (by kernel_rfl) (fun _ _ _ h => h) rfl (fun u hu => by have c0 := cell_of_row u _ 0 _ _ _ hu.1; go_simp) hS ?_
    refine h_take 2 40 (.int .i64 (j : Int)) rfl rfl (by kernel_rfl) (by kernel_rfl) (by kernel_rfl) (fun _ _ _ h => h) rfl (fun u hu => by go_simp) hS ?_
    refine h_take 3 41 (.pointer (some ⟨G, j, none⟩)) rfl rfl (by kernel_rfl) (by kernel_rfl) (by kernel_rfl) (fun _ _ _ h => h) rfl (fun u hu => by go_simp) hS ?_
    refine h_take 4 42 (.slice al (nthB X j).length cl) rfl rfl (by kernel_rfl) (by kernel_rfl) (by kernel_rfl) (fun _ _ _ h => h) rfl (fun u hu => by have c0 := hu.2.2; go_simp) hS ?_
    refine h_take 5 43 (frV f.id f.rm f.ln af f.D.length cf) rfl rfl (by kernel_rfl) (by kernel_rfl) (by kernel_rfl) (fun _ _ _ h => h) rfl (fun u hu => frTookI hu.2.1 rfl rfl) hS ?_
    simp only [Act.put, List.setIfInBounds_toArray, List.set_cons_zero, List.set_cons_succ]
    refine h_call 6 44 45 #[.slice al (nthB X j).length cl, frV f.id f.rm f.ln af f.D.length cf] rfl rfl (by kernel_rfl) rfl (by go_simp) ?_
    refine (show Calls _ _ _ _ (PutGot (putV (nthB X j) f) V) from implPutIn al (nthB X j) cl f.id f.rm f.ln af f.D cf V hfr hA.1 hA.2 P4.nums).mono ?_
    rintro e w5 ⟨M, a5, c5, rfl, hM, OB, FB, b⟩
    have OX : OwnX True V.heap.size w5.heap.size (putV (nthB X j) f).1 (.slice a5 (putV (nthB X j) f).1.length c5) w5 := ⟨M, a5, c5, rfl, hM, OB, fun _ => FB, OB.under⟩
    have hle := b.size
    have hzV : w.heap.size + 3 ≤ V.heap.size := (Array.getElem?_eq_some_iff.1 P4.res).1
    have hHj : ∀ i, i < X.length → H i ≤ V.heap.size := fun i hi => (P4.box.out i hi).2.1
    have hGV := P4.box.lt
    have P5 := P4.below b
    have hcG5 := (b.cell (World.block_lt_of_cell? _ _ hcG)).trans hcG
    clear OB FB hM b hfr hA P4 hS hcG
    generalize hL5 : (putV (nthB X j) f).1 = L5 at *
    generalize hk5 : (putV (nthB X j) f).2 = k5 at *
    replace hL5 := Lib.hid hL5
    replace hk5 := Lib.hid hk5
    have hS : w5.heap[w.heap.size]? = some (.cells (svC (some ⟨G, 0, none⟩) X.length X.length busy nd rank now) 26 (0, 0)) ∧ w5.heap[w.heap.size + 1]? = some (.cells (frC f af cf) 35 (0, 0)) ∧ w5.cell? ⟨G, j, none⟩ = some (.slice al (nthB X j).length cl) := ⟨P5.blk, P5.frm, hcG5⟩
    refine ⟨_, rfl, hS, ?_⟩
    simp only [Act.put, List.setIfInBounds_toArray, List.set_cons_zero, List.set_cons_succ]
    refine h_take 7 37 (.tuple #[.slice a5 L5.length c5, .int .i64 k5]) rfl rfl (by kernel_rfl) (by kernel_rfl) (by kernel_rfl) (fun _ _ _ h => h) rfl (fun u hu => by go_simp) hS ?_
    refine h_take 8 45 (.slice a5 L5.length c5) rfl rfl (by kernel_rfl) (by kernel_rfl) (by kernel_rfl) (fun _ _ _ h => h) rfl (fun u hu => by go_simp) hS ?_
    refine h_take 9 46 (.int .i64 k5) rfl rfl (by kernel_rfl) (by kernel_rfl) (by kernel_rfl) (fun _ _ _ h => h) rfl (fun u hu => by go_simp) hS ?_
    refine h_take 10 8 (.slice a5 L5.length c5) rfl rfl (by kernel_rfl) (by kernel_rfl) (by kernel_rfl) (fun _ _ _ h => h) rfl (fun u hu => by go_simp) hS ?_
    refine h_take 11 9 (.int .i64 k5) rfl rfl (by kernel_rfl) (by kernel_rfl) (by kernel_rfl) (fun _ _ _ h => h) rfl (fun u hu => by go_simp) hS ?_
    simp only [Act.put, List.setIfInBounds_toArray, List.set_cons_zero, List.set_cons_succ]
    refine wpAnyH_done (by kernel_rfl) ?_ _
    clear hS
    have c0 := cell_of_row w5 w.heap.size 0 _ _ _ P5.blk
    obtain ⟨cur, hcb, hcs, -⟩ := P5.box.row
    have f0 := frozen_of_row w5 G j _ _ hcb
    clear hcb hcs cur
    go_upto_region 10 with fail
    have O6 := (P5.box.put (i := j) (lo := V.heap.size) (hi := w5.heap.size) (X' := X.set j L5) (v := .slice a5 L5.length c5) hj (fun i hi hne => by rw [nthB_set hj, if_neg hne]) (by rw [nthB_set hj, if_pos rfl]; exact OX) hle (Nat.le_refl _) (.inl hGV) (fun i hi _ => .inl (hHj i hi))).less (F' := fun i => i < X.length) (fun i hi => .inl hi)
    have m := mid_cell w5 G j (.slice a5 L5.length c5)
    have hlX : (X.set j L5).length = X.length := List.length_set
    have hGl := hFG.1
    have P6 : PuS w.heap.size G (X.set j L5) busy nd rank now f af cf (fun i => if i = j then V.heap.size else L i) (fun i => if i = j then w5.heap.size else H i) w (w5.setCell ⟨G, j, none⟩ (.slice a5 L5.length c5)) := by
      refine ⟨?_, (m.block _ (Array.getElem?_eq_some_iff.1 P5.frm).1 (by omega)).trans P5.frm, (m.block _ (Array.getElem?_eq_some_iff.1 P5.res).1 (by omega)).trans P5.res, ?_, ?_, P5.bel.trans (m.below (by omega) P5.bel.size)⟩
      · rw [hlX]; exact (m.block _ (Array.getElem?_eq_some_iff.1 P5.blk).1 (by omega)).trans P5.blk
      · rw [hlX]; exact O6
      · exact hn0.below (P5.bel.trans (m.below (by omega) P5.bel.size))
    have hFG' : FromB (w.heap.size + 3) G (X.set j L5).length (fun i => if i = j then V.heap.size else L i) := ⟨hFG.1, fun i hi => by
      rw [hlX] at hi
      dsimp only
      split
      · exact hzV
      · exact hFG.2 i hi⟩
    have HV : Hid (putS ⟨X, busy, nd, rank, now⟩ (j : Int) f = (⟨X.set j L5, busy, nd, rank, now⟩, k5)) := Lib.hid (by
      unfold putS
      rw [if_pos hok.out, if_pos ⟨by omega, by show (j : Int) < (X.length : Int); omega⟩, if_neg hq]
      show ((⟨X.set (j : Int).toNat (putV (nthB X (j : Int).toNat) f).1, busy, nd, rank, now⟩ : Srv), (putV (nthB X (j : Int).toNat) f).2) = _
      rw [Int.toNat_natCast, hL5.out, hk5.out])
    clear m O6 P5 OX hGV hHj hle hcG5 f0 c0
    generalize w5.setCell _ _ = w6 at P6 ⊢
    clear hlX
    generalize X.set j L5 = X' at P6 hFG' HV
    have e0 := cell_of_row w6 (w.heap.size + 2) 0 _ _ _ P6.res
    have e1 := cell_of_row w6 (w.heap.size + 2) 1 _ _ _ P6.res
    have e2 := cell_of_row w6 (w.heap.size + 2) 2 _ _ _ P6.res
    have e3 := cell_of_row w6 (w.heap.size + 2) 3 _ _ _ P6.res
    have e4 := cell_of_row w6 (w.heap.size + 2) 4 _ _ _ P6.res
    have k0 := frozen_of_row w6 (w.heap.size + 2) 0 _ _ P6.res
    have k1 := frozen_of_row w6 (w.heap.size + 2) 1 _ _ P6.res
    have k2 := frozen_of_row w6 (w.heap.size + 2) 2 _ _ P6.res
    have k3 := frozen_of_row w6 (w.heap.size + 2) 3 _ _ P6.res
    have k4 := frozen_of_row w6 (w.heap.size + 2) 4 _ _ P6.res
    go_wp2_with (refine P6.sv.take rfl rfl rfl ?_)
    clear e0 e1 e2 e3 e4 k0 k1 k2 k3 k4
    obtain ⟨h5, O5, B5⟩ := P6.fin rfl (by first | exact hFG | exact hFG') _ rfl
    refine bodyPost_ret (v := .tuple #[svV (some ⟨G, 0, none⟩) X'.length X'.length busy nd rank now, .int .i64 k5]) ?_ rfl ⟨fun h => absurd h (by rw [hok.out]; simp), fun _ => ?_⟩
    · exact results_srv Tryz.results13 _ _ (w.heap.size + 2) _ _ rfl rfl h5 rfl
    · rw [HV.out]
      exact ⟨G, _, _, rfl, O5, ⟨by have := hFG.1; show w.heap.size ≤ G; omega, fun i hi => by have := hFG'.2 i hi; omega⟩, B5⟩
end Go.Proofs.YtnhmecabppaboaaGreat
