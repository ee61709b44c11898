/- What QueuedAt makes of a bus, plainly; steps that both sides take. -/
import Derived.Test.YtngcekegngmedaaGreatM18
import Derived.Test.YtngcekegngmedaaGreatM24
import Derived.Test.YtngcekegngmedaaGreatM15
import Derived.Deep.RegionWith
import Derived.Deep.QuietTactic
import Derived.BigQuiet
import Derived.Deep.DeepCutAuto
import Derived.Test.YtngcekegngmedaaGreatM4

set_option linter.unusedVariables false
set_option linter.unusedSimpArgs false
set_option maxRecDepth 20000
namespace Go.Proofs.YtngcekegngmedaaGreat
open Go.RowKit

/-- What QueuedAt makes of a bus, plainly. -/
def qatN (N : List Nd) (now node : Int) (f : Frm) : List Nd := if busB N now = true then (if rng node 0 ((N.length : Int) - 1) = true then N.set node.toNat (queA (nthN N node.toNat) f).1 else N) else []
def qatT (N : List Nd) (now : Int) : Int := if busB N now = true then now else 0
def qatK (N : List Nd) (now node : Int) (f : Frm) : Int := if busB N now = true then (if rng node 0 ((N.length : Int) - 1) = true then (queA (nthN N node.toNat) f).2 else 3) else 3

theorem results_bus {fn : Func} {p q : Tmp} (h : fn.results = #[.cell p 26, .tmp q]) (tmps : Array Value) (w : World) (g : Nat) (C : Array Value) (v : Value) (hp : tmps.getD p undef = .pointer (some ⟨g, 0, none⟩)) (hq : tmps.getD q undef = v)
    (hg : w.heap[g]? = some (.cells C 26 (0, 0))) (hC : C.size = 2) : (results fn tmps).run Tryz.prog w = .ok (.tuple #[.agg C, v]) w := by
  have hp' : tmps[p]?.getD undef = .pointer (some ⟨g, 0, none⟩) := by simpa using hp
  have hq' : tmps[q]?.getD undef = v := by simpa using hq
  have hl := run_loadVar_row (P := Tryz.prog) w g 26 26 C (0, 0) _ hg Tryz.underlying26 rfl (by rw [hC]; kernel_rfl)
  simp [results, h, hp', hq', asAddr, hl]
/-- A frame read out of its block. -/
theorem fr_tookI (g : Nat) (f : Frm) (af : Option Addr) (cf : Nat) (w : World) (h : w.heap[g]? = some (.cells (frC f af cf) 40 (0, 0))) {x : Oper} {act : Act} {y : Operand} (ho : x.op = .load 40 y) (hx : act.eval y = .pointer (some ⟨g, 0, none⟩)) : (execOp act.eval x).run Tryz.prog w = .ok (.value (frV f.id f.rm f.ln af f.D.length cf)) w := by
  unfold execOp
  simp only [ho, hx, Instr.loadAt, Instr.sureAddr, Sem.run_bind, Sem.run_pure, Result.andThen_ok, run_loadVar_row w g 40 40 (frC f af cf) (0, 0) _ h Tryz.underlying40 rfl (by kernel_rfl)]
/-- A node goes into a fresh block, in a region that draws its order. -/
theorem h_put {md : Region.Mode} {ops : Array Oper} {Q : Exit → Act → World → Prop} {S : World → Prop} (i g : Nat) {oi : Oper} {fuel : Nat} {listed : Array Bool} {a : Act} {w : World} {n : Nd} {p : NdP} {x y : Operand} {C : Array Value}
    (hi : ops.toList[i]? = some oi) (hd : oi.dst = none) (hr : Region.ready md ops listed = [i]) (hw : Region.wanted oi (yielded ops a.tmps) = true) (ho : oi.op = .store 46 x y) (hx : a.eval x = .pointer (some ⟨g, 0, none⟩)) (hy : a.eval y = ndV n p)
    (hg : w.heap[g]? = some (.cells C 46 (0, 0))) (hC : C.size = 18) (hS : S (w.setRow g (ndC n p)))
    (k : wpAnyH Tryz.prog md ops Q S fuel (listed.setIfInBounds i true) a (w.setRow g (ndC n p))) : wpAnyH Tryz.prog md ops Q S (fuel + 1) listed a w := by
  refine held_op i (op_at hi) hr hw (wp_store_row 46 x y ho g (ndC n p) hx hy 46 C hg (by kernel_rfl) (hC.trans rfl) (ndC_one n p) ⟨hS, ?_⟩)
  rw [hd]
  exact k
theorem set_nth {N : List Nd} {k : Nat} (hk : k < N.length) (n : Nd) (i : Nat) : nthN (N.set k n) i = if i = k then n else nthN N i := by
  simp only [nthN, List.getD_eq_getElem?_getD, List.getElem?_set]
  by_cases e : i = k
  · subst e; simp [hk]
  · rw [if_neg (fun h => e h.symm), if_neg e]
end Go.Proofs.YtngcekegngmedaaGreat

/- laws.markNodeS of a row of nodes that the call owns. -/

set_option linter.unusedVariables false
set_option linter.unusedSimpArgs false
namespace Go.Proofs.YtngcekegngmedaaGreat
open Go.RowKit

/-! ### A node in a slice that bears its marks. -/
/-- Behind the numbers ahead of its text; behind its own fields. -/
def m1N (k : Int) (n : Nd) : Int := k + 1 + 1 + 1 + 1 + 1 + 1 + 1 + (n.fr.D.length : Int)
def m2N (k : Int) (n : Nd) : Int := m1N k n + 1 + 1 + 1 + 1 + 1 + 1 + 1
def m3N (k : Int) (n : Nd) : Int := kAt (m2N k n) n.box n.box.length
def m4N (k : Int) (n : Nd) : Int := kAt (m3N k n) n.fifo n.fifo.length
def m5N (k : Int) (n : Nd) : Int := m4N k n + 2 * (n.flt.length : Int)
def mkNd (k : Int) (n : Nd) : Nd :=
  ⟨k, (k + 1) % 3 == 0, (k + 1 + 1) % 3 == 0, (k + 1 + 1 + 1) % 3 == 0, ⟨k + 1 + 1 + 1 + 1, (k + 1 + 1 + 1 + 1 + 1) % 3 == 0, k + 1 + 1 + 1 + 1 + 1 + 1, marks (k + 1 + 1 + 1 + 1 + 1 + 1 + 1) n.fr.D.length⟩,
    markS (m1N k n), m1N k n + 1, m1N k n + 1 + 1, m1N k n + 1 + 1 + 1, m1N k n + 1 + 1 + 1 + 1, m1N k n + 1 + 1 + 1 + 1 + 1, m1N k n + 1 + 1 + 1 + 1 + 1 + 1, mkL (m2N k n) n.box, mkL (m3N k n) n.fifo, mksP (m4N k n) n.flt.length⟩
/-- How far the numbers go in one node, in the first j nodes. -/
def costN (n : Nd) : Nat := 14 + n.fr.D.length + (3 * n.box.length + room n.box n.box.length) + (3 * n.fifo.length + room n.fifo n.fifo.length) + 2 * n.flt.length
theorem m5N_eq (k : Int) (n : Nd) : m5N k n = k + (costN n : Int) := by
  simp only [m5N, m4N, m3N, m2N, m1N, kAt, costN]; omega
def kNs (k : Int) (N : List Nd) (j : Nat) : Int := k + (((N.take j).map costN).sum : Nat)
theorem kNs_zero (k : Int) (N : List Nd) : kNs k N 0 = k := by simp [kNs]
theorem kNs_succ {k : Int} {N : List Nd} {j : Nat} (h : j < N.length) : kNs k N (j + 1) = m5N (kNs k N j) (nthN N j) := by
  have e : N.take (j + 1) = N.take j ++ [nthN N j] := by
    rw [List.take_add_one, List.getElem?_eq_getElem h, nthN, List.getD_eq_getElem?_getD, List.getElem?_eq_getElem h]; rfl
  rw [m5N_eq]
  unfold kNs
  rw [e, List.map_append, List.sum_append]
  simp
  omega
theorem cost_room (n : Nd) : costN n ≤ 14 + 3 * roomN n := by unfold costN roomN; omega
theorem kNs_bd {k : Int} {N : List Nd} {j : Nat} (h : j ≤ N.length) : k + 14 * (j : Int) ≤ kNs k N j ∧ kNs k N j ≤ k + 14 * (j : Int) + 3 * (sumN N j : Int) := by
  induction j with
  | zero => rw [kNs_zero, sumN_zero]; omega
  | succ j ih =>
    have := ih (by omega)
    have hc := cost_room (nthN N j)
    rw [kNs_succ (by omega), m5N_eq, sumN_succ N j (by omega)]
    have h14 : 14 ≤ costN (nthN N j) := by unfold costN; omega
    omega
/-- The first j of them marked. -/
def mixN (k : Int) (N : List Nd) (j : Nat) : List Nd := (List.range N.length).map fun i => if i < j then mkNd (kNs k N i) (nthN N i) else nthN N i
theorem mixN_len (k : Int) (N : List Nd) (j : Nat) : (mixN k N j).length = N.length := by simp [mixN]
theorem mixN_nth {k : Int} {N : List Nd} {j i : Nat} (h : i < N.length) : nthN (mixN k N j) i = if i < j then mkNd (kNs k N i) (nthN N i) else nthN N i := by
  simp [nthN, mixN, h]
theorem mixN_zero (k : Int) (N : List Nd) : mixN k N 0 = N := by
  apply List.ext_getElem
  · exact mixN_len _ _ _
  · intro i h1 h2
    simp [mixN, nthN, h2]

/-- One node of a row has turned: its cells, and what they hold. -/
theorem RowN.turn {B G hi cap len k : Nat} {N N' : List Nd} {P : Nat → NdP} {J : Nat → NdJ} {L H : Nat → Nat} {MB MF : Nat → List (Frm × Value)} {cur cur' : Array Value} {w w' : World} (h : RowN B G hi cap len N P J L H MB MF cur w) (hk : k < len)
    (hb : w'.heap[G]? = some (.cells cur' 46 (0, 0))) (hs : cur'.size = cur.size) (hin : ∀ i v, (ndC (nthN N' k) (P k)).toList[i]? = some v → cur'[k * 18 + i]? = some v) (hout : ∀ i, i < k * 18 ∨ k * 18 + 18 ≤ i → cur'[i]? = cur[i]?)
    (hN : ∀ j, j < len → j ≠ k → nthN N' j = nthN N j) (ho : ∀ j, j < len → j ≠ k → NdI (J j) (L j) (H j) (nthN N j) (P j) (MB j) (MF j) w') {MB' MF' : List (Frm × Value)} (hm : NdI (J k) (L k) (H k) (nthN N' k) (P k) MB' MF' w') : OwnN B G hi cap len N' w' := by
  refine ⟨P, J, L, H, fun j => if j = k then MB' else MB j, fun j => if j = k then MF' else MF j, cur', ⟨hb, hs.trans h.len, fun j hj i v hv => ?_, fun j hj => ?_, h.far, h.out, h.top, h.kc⟩⟩
  · by_cases e : j = k
    · subst e; exact hin i v hv
    · have hi18 : i < 18 := (List.getElem?_eq_some_iff.1 hv).1
      rw [hout _ (by omega)]
      rw [hN j hj e] at hv
      exact h.cel j hj i v hv
  · by_cases e : j = k
    · subst e
      simp only [↓reduceIte]
      exact hm
    · simp only [if_neg e, hN j hj e]
      exact ho j hj e

theorem mtV_size : ∀ (f q : Nat) (out : ByteArray), (mtV f q out).size ≤ out.size + f
  | 0, _, out => Nat.le_refl _
  | f + 1, q, out => by
    rw [mtV]
    split
    · omega
    · have := mtV_size f (q / 10) (⟨#[UInt8.ofNat (48 + q % 10)]⟩ ++ out)
      rw [ByteArray.size_append, show (ByteArray.size ⟨#[UInt8.ofNat (48 + q % 10)]⟩) = 1 from rfl] at this
      omega
theorem markS_max (k : Int) (h : k ≤ 1000000000) : (markS k).size ≤ maxLen := by
  have := mtV_size k.toNat k.toNat ⟨#[]⟩
  rw [show (ByteArray.size ⟨#[]⟩) = 0 from rfl] at this
  unfold markS maxLen
  rw [ByteArray.size_append, show (ByteArray.size ⟨#[109]⟩) = 1 from rfl]
  omega
set_option maxHeartbeats 16000000 in
set_option maxRecDepth 20000 in
/-- laws.markNodeS. -/
theorem markNodes (B G hi cap : Nat) (N : List Nd) (k0 : Int) (w : World) (HO : OwnN B G hi cap N.length N w) (hi0 : hi ≤ w.heap.size) (hm : N.length ≤ 1048577) (hs : N.length + sumN N N.length ≤ 1048577) (h0 : 0 < k0) (h1 : k0 ≤ 20000000) :
    Calls Tryz.prog 22 #[.slice (some ⟨G, 0, none⟩) N.length cap, .int .i64 k0] w fun e w' => e = .returned (.int .i64 (kNs k0 N N.length)) ∧ OwnN B G hi cap N.length (mixN k0 N N.length) w' ∧ Mid B hi w w' := by
  go_enter Tryz.func22, Tryz.ntmps22
  go_wp2_with fail
  go_loopw [1, 5] (fun kk i wr => ∃ j : Nat, j ≤ N.length ∧ i = .int .i64 j ∧ kk = .int .i64 (kNs k0 N j) ∧ OwnN B G hi cap N.length (mixN k0 N j) wr ∧ Mid B hi w wr) (fun _ i _ => N.length - (intOf i).toNat)
  case atStart => exact ⟨0, Nat.zero_le _, rfl, by rw [kNs_zero], by rw [mixN_zero]; exact HO, Mid.refl _ _ _⟩
  case round =>
    obtain ⟨j, hj, rfl, rfl, HR, M0⟩ := hrel
    by_cases hlt : j < N.length
    case neg =>
      obtain rfl : j = N.length := by omega
      go_wp2_with fail
      go_ret
      exact ⟨rfl, HR, M0⟩
    have hsz : w.heap.size ≤ wr.heap.size := M0.size
    obtain ⟨P, J, L, H, MB, MF, cur, R⟩ := HR
    have hsum := sumN_at N hlt
    have hkb := kNs_bd (k := k0) (N := N) (j := j) (by omega)
    have hsle := sumN_le N (show j ≤ N.length by omega)
    have HK : Hid (kNs k0 N (j + 1) = m5N (kNs k0 N j) (nthN N j)) := Lib.hid (kNs_succ hlt)
    have hnn : nthN (mixN k0 N j) j = nthN N j := by rw [mixN_nth hlt, if_neg (by omega)]
    have hnn' : nthN (mixN k0 N (j + 1)) j = mkNd (kNs k0 N j) (nthN N j) := by rw [mixN_nth hlt, if_pos (by omega)]
    have hoth : ∀ i, i < N.length → i ≠ j → nthN (mixN k0 N (j + 1)) i = nthN (mixN k0 N j) i := by
      intro i hi0 hne
      rw [mixN_nth hi0, mixN_nth hi0]
      by_cases e : i < j
      · rw [if_pos e, if_pos (by omega)]
      · rw [if_neg e, if_neg (by omega)]
    have I := R.mem j hlt
    have C := R.cel j hlt
    have ho := R.out j hlt
    have ht := R.top
    have hl := R.len
    have hkc := R.kc
    have hblk := R.blk
    have OT : ∀ i, i < N.length → i ≠ j → NdI (J i) (L i) (H i) (nthN (mixN k0 N j) i) (P i) (MB i) (MF i) wr := fun i hi0 _ => R.mem i hi0
    have FA : ∀ i, i < N.length → i ≠ j → H i ≤ L j ∨ H j ≤ L i := fun i hi0 hne => by
      rcases Nat.lt_or_gt_of_ne hne with h | h
      · exact R.far i j h hlt
      · exact (R.far j i h hi0).symm
    have OO : ∀ i, i < N.length → G < L i ∨ H i ≤ G := fun i hi0 => (R.out i hi0).2.2.2
    rw [hnn] at I C
    replace OT := Lib.hid OT
    replace FA := Lib.hid FA
    replace OO := Lib.hid OO
    replace R := Lib.hid R
    replace hnn' := Lib.hid hnn'
    replace hoth := Lib.hid hoth
    have hcap : j * 18 + 18 ≤ cur.size := by rw [hl]; omega
    have hroom : roomN (nthN N j) ≤ 1048577 := by omega
    have hkA : 0 < kNs k0 N j := by omega
    have hkB : kNs k0 N j ≤ 40000000 := by omega
    clear hkb hsle hnn hsum
    generalize nthN N j = n at *
    generalize kNs k0 N j = k at *
    generalize hJ : J j = jj at *
    generalize hL : L j = lo at *
    generalize hH : H j = hh at *
    generalize hP : P j = p at *
    generalize hMB : MB j = mb at *
    generalize hMF : MF j = mf at *
    have cc : ∀ i v, (ndC n p).toList[i]? = some v → wr.cell? ⟨G, j * 18 + i, none⟩ = some v := fun i v hv => by rw [cell_of_row wr G _ _ _ _ hblk]; exact C i v hv
    have ff : ∀ i, wr.frozen? ⟨G, i, none⟩ = false := fun i => frozen_of_row wr G i _ _ hblk
    have c0 := cc 0 _ rfl
    have c1 := cc 1 _ rfl
    have c2 := cc 2 _ rfl
    have c3 := cc 3 _ rfl
    have c4 := cc 4 _ rfl
    have c5 := cc 5 _ rfl
    have c6 := cc 6 _ rfl
    have c7 := cc 7 _ rfl
    have f0 := ff (j * 18 + 0)
    have f1 := ff (j * 18 + 1)
    have f2 := ff (j * 18 + 2)
    have f3 := ff (j * 18 + 3)
    have f4 := ff (j * 18 + 4)
    have f5 := ff (j * 18 + 5)
    have f6 := ff (j * 18 + 6)
    rw [Nat.add_zero] at c0 f0
    clear cc ff
    go_wp2_with fail
    generalize hW : World.setCell _ _ _ = W1
    obtain ⟨cur1, b1, hc1⟩ : ∃ cur1, W1.heap[G]? = some (.cells cur1 46 (0, 0)) ∧ cur1 = ((((((cur.setIfInBounds (j * 18) (.int .i64 k)).setIfInBounds (j * 18 + 1) (.bool ((k + 1) % 3 == 0))).setIfInBounds (j * 18 + 2) (.bool ((k + 1 + 1) % 3 == 0))).setIfInBounds (j * 18 + 3) (.bool ((k + 1 + 1 + 1) % 3 == 0))).setIfInBounds (j * 18 + 4) (.int .i64 (k + 1 + 1 + 1 + 1))).setIfInBounds (j * 18 + 4 + 1) (.bool ((k + 1 + 1 + 1 + 1 + 1) % 3 == 0))).setIfInBounds (j * 18 + 4 + 2) (.int .i64 (k + 1 + 1 + 1 + 1 + 1 + 1)) :=
      ⟨_, by rw [← hW]; exact heap_setCell_same _ _ _ _ _ _ (heap_setCell_same _ _ _ _ _ _ (heap_setCell_same _ _ _ _ _ _ (heap_setCell_same _ _ _ _ _ _ (heap_setCell_same _ _ _ _ _ _ (heap_setCell_same _ _ _ _ _ _ (heap_setCell_same _ _ _ _ _ _ (hblk))))))), rfl⟩
    have m1 : Mid G (G + 1) wr W1 := by rw [← hW]; exact ((((((mid_cell _ _ _ _).trans (mid_cell _ _ _ _)).trans (mid_cell _ _ _ _)).trans (mid_cell _ _ _ _)).trans (mid_cell _ _ _ _)).trans (mid_cell _ _ _ _)).trans (mid_cell _ _ _ _)
    replace I := I.sep m1 (by omega)
    replace OT := Lib.hid fun i h e => (OT.out i h e).sep m1 (by have := OO.out i h; omega)
    replace M0 := M0.trans (m1.wide (by omega) (by omega))
    clear hW m1 c0 c1 c2 c3 c4 c5 c6 c7 f0 f1 f2 f3 f4 f5 f6
    obtain ⟨hd, hbx, hf, hfl, emb, emf, fb, ffi, ud, ux, uf, ul, JO, hgot⟩ := I
    have JO2 := JO
    obtain ⟨jd, jx, jf, jl, jdx, jdf, jdl, jxf, jxl, jfl⟩ := JO2
    have hsD : n.fr.D.length ≤ 2000000 := by unfold roomN at hroom; omega
    have hsB : n.box.length + room n.box n.box.length ≤ 1048577 := by unfold roomN at hroom; omega
    have hsF : n.fifo.length + room n.fifo n.fifo.length ≤ 1048577 := by unfold roomN at hroom; omega
    have hsL : n.flt.length ≤ 1048577 := by unfold roomN at hroom; omega
    have e1 : k + 1 + 1 + 1 + 1 + 1 + 1 + 1 + (n.fr.D.length : Int) = m1N k n := rfl
    have e2 : m1N k n + 1 + 1 + 1 + 1 + 1 + 1 + 1 = m2N k n := rfl
    have e3 : kAt (m2N k n) n.box n.box.length = m3N k n := rfl
    have e4 : kAt (m3N k n) n.fifo n.fifo.length = m4N k n := rfl
    have e5 : m4N k n + 2 * (n.flt.length : Int) = m5N k n := rfl
    have q1 : 0 < m1N k n ∧ m1N k n ≤ 50000000 := by rw [← e1]; omega
    have q2 : 0 < m2N k n ∧ m2N k n ≤ 50000010 := by rw [← e2]; omega
    have q3 : 0 < m3N k n ∧ m3N k n ≤ 60000000 := by rw [← e3]; unfold kAt; omega
    have q4 : 0 < m4N k n ∧ m4N k n ≤ 70000000 := by rw [← e4]; unfold kAt; omega
    refine (markInts jj.d0 n.fr.D p.ad p.cd _ W1 hd hsD (by omega) (by omega)).mono ?_
    rintro e w2 ⟨rfl, hd2, g2⟩
    have m2 : Mid jj.d0 jj.d1 W1 w2 := (Mid.refl jj.d0 jj.d1 W1).grown g2 (fun q hq => ⟨hd.low hq, ud q hq⟩)
    replace b1 := (m2.block G (Array.getElem?_eq_some_iff.1 b1).1 (by omega)).trans b1
    replace hbx := hbx.sep m2 ux (by omega)
    replace hf := hf.sep m2 uf (by omega)
    replace hfl := hfl.sep m2 ul (by omega)
    replace OT := Lib.hid fun i h e => (OT.out i h e).sep m2 (by have := FA.out i h e; omega)
    replace M0 := M0.trans (m2.wide (by omega) (by omega))
    clear m2 g2 hd
    rw [e1]
    go_wp2_with fail
    refine (markTextV (m1N k n) w2 q1.1 (by omega)).mono ?_
    rintro e w3 ⟨rfl, b3⟩
    replace b1 := (b3.block G (Array.getElem?_eq_some_iff.1 b1).1).trans b1
    replace hd2 := hd2.below' b3
    replace hbx := hbx.below b3
    replace hf := hf.below b3
    replace hfl := hfl.below b3
    replace OT := Lib.hid fun i h e => (OT.out i h e).below b3
    replace M0 := M0.trans (Mid.ofBelow b3)
    clear b3
    have cc : ∀ i v, 7 ≤ i → (ndC n p).toList[i]? = some v → w3.cell? ⟨G, j * 18 + i, none⟩ = some v := fun i v hi hv => by
      rw [cell_of_row w3 G _ _ _ _ b1, hc1]
      simp only [Array.getElem?_setIfInBounds]
      repeat rw [if_neg (by omega)]
      exact C i v hv
    have ff : ∀ i, w3.frozen? ⟨G, i, none⟩ = false := fun i => frozen_of_row w3 G i _ _ b1
    have c8 := cc 8 _ (by decide) rfl
    have c9 := cc 9 _ (by decide) rfl
    have c10 := cc 10 _ (by decide) rfl
    have c11 := cc 11 _ (by decide) rfl
    have c12 := cc 12 _ (by decide) rfl
    have c13 := cc 13 _ (by decide) rfl
    have c14 := cc 14 _ (by decide) rfl
    have c15 := cc 15 _ (by decide) rfl
    have f8 := ff (j * 18 + 8)
    have f9 := ff (j * 18 + 9)
    have f10 := ff (j * 18 + 10)
    have f11 := ff (j * 18 + 11)
    have f12 := ff (j * 18 + 12)
    have f13 := ff (j * 18 + 13)
    have f14 := ff (j * 18 + 14)
    clear cc ff
    go_wp2_with fail
    generalize hW : World.setCell _ _ _ = W4
    obtain ⟨cur2, b2, hc2⟩ : ∃ cur2, W4.heap[G]? = some (.cells cur2 46 (0, 0)) ∧ cur2 = ((((((cur1.setIfInBounds (j * 18 + 8) (.string (markS (m1N k n)))).setIfInBounds (j * 18 + 9) (.int .i64 (m1N k n + 1))).setIfInBounds (j * 18 + 10) (.int .i64 (m1N k n + 1 + 1))).setIfInBounds (j * 18 + 11) (.int .i64 (m1N k n + 1 + 1 + 1))).setIfInBounds (j * 18 + 12) (.int .i64 (m1N k n + 1 + 1 + 1 + 1))).setIfInBounds (j * 18 + 13) (.int .i64 (m1N k n + 1 + 1 + 1 + 1 + 1))).setIfInBounds (j * 18 + 13 + 1) (.int .i64 (m1N k n + 1 + 1 + 1 + 1 + 1 + 1)) :=
      ⟨_, by rw [← hW]; exact heap_setCell_same _ _ _ _ _ _ (heap_setCell_same _ _ _ _ _ _ (heap_setCell_same _ _ _ _ _ _ (heap_setCell_same _ _ _ _ _ _ (heap_setCell_same _ _ _ _ _ _ (heap_setCell_same _ _ _ _ _ _ (heap_setCell_same _ _ _ _ _ _ (b1))))))), rfl⟩
    have m4 : Mid G (G + 1) w3 W4 := by rw [← hW]; exact ((((((mid_cell _ _ _ _).trans (mid_cell _ _ _ _)).trans (mid_cell _ _ _ _)).trans (mid_cell _ _ _ _)).trans (mid_cell _ _ _ _)).trans (mid_cell _ _ _ _)).trans (mid_cell _ _ _ _)
    replace hd2 := hd2.sep m4 ud (by omega)
    replace hbx := hbx.sep m4 ux (by omega)
    replace hf := hf.sep m4 uf (by omega)
    replace hfl := hfl.sep m4 ul (by omega)
    replace OT := Lib.hid fun i h e => (OT.out i h e).sep m4 (by have := OO.out i h; omega)
    replace M0 := M0.trans (m4.wide (by omega) (by omega))
    clear hW m4 b1 c8 c9 c10 c11 c12 c13 c14 c15 f8 f9 f10 f11 f12 f13 f14
    refine (markFramesU jj.x0 jj.x1 mb n.box emb p.ab p.cb (m2N k n) W4 hbx fb ux hsB (by omega) (by omega)).mono ?_
    rintro e w5 ⟨MB', he, emb2, hb2, fb2, m5, ux2⟩
    rw [e3] at he
    subst he
    replace b2 := (m5.block G (Array.getElem?_eq_some_iff.1 b2).1 (by omega)).trans b2
    replace hd2 := hd2.sep m5 ud (by omega)
    replace hf := hf.sep m5 uf (by omega)
    replace hfl := hfl.sep m5 ul (by omega)
    replace OT := Lib.hid fun i h e => (OT.out i h e).sep m5 (by have := FA.out i h e; omega)
    replace M0 := M0.trans (m5.wide (by omega) (by omega))
    clear m5 hbx
    have cc : ∀ w : World, w.heap[G]? = some (.cells cur2 46 (0, 0)) → ∀ i v, 15 ≤ i → (ndC n p).toList[i]? = some v → w.cell? ⟨G, j * 18 + i, none⟩ = some v := fun w b i v hi hv => by
      rw [cell_of_row w G _ _ _ _ b, hc2, hc1]
      simp only [Array.getElem?_setIfInBounds]
      repeat rw [if_neg (by omega)]
      exact C i v hv
    have c16 := cc w5 b2 16 _ (by decide) rfl
    replace cc := Lib.hid cc
    go_wp2_with fail
    refine (markFramesU jj.f0 jj.f1 mf n.fifo emf p.af p.cf (m3N k n) w5 hf ffi uf hsF (by omega) (by omega)).mono ?_
    rintro e w6 ⟨MF', he, emf2, hf2, ff2, m6, uf2⟩
    rw [e4] at he
    subst he
    replace b2 := (m6.block G (Array.getElem?_eq_some_iff.1 b2).1 (by omega)).trans b2
    replace hd2 := hd2.sep m6 ud (by omega)
    replace hb2 := hb2.sep m6 ux2 (by omega)
    replace hfl := hfl.sep m6 ul (by omega)
    replace OT := Lib.hid fun i h e => (OT.out i h e).sep m6 (by have := FA.out i h e; omega)
    replace M0 := M0.trans (m6.wide (by omega) (by omega))
    clear m6 hf c16
    have c17 := cc.out w6 b2 17 _ (by decide) rfl
    go_wp2_with fail
    refine (markFlts jj.l0 jj.l1 n.flt p.al p.cl (m4N k n) w6 hfl ul hsL (by omega) (by omega)).mono ?_
    rintro e w7 ⟨rfl, hl7, m7⟩
    replace b2 := (m7.block G (Array.getElem?_eq_some_iff.1 b2).1 (by omega)).trans b2
    replace hd2 := hd2.sep m7 ud (by omega)
    replace hb2 := hb2.sep m7 ux2 (by omega)
    replace hf2 := hf2.sep m7 uf2 (by omega)
    replace OT := Lib.hid fun i h e => (OT.out i h e).sep m7 (by have := FA.out i h e; omega)
    replace M0 := M0.trans (m7.wide (by omega) (by omega))
    clear m7 hfl c17 cc
    have NI : NdI jj lo hh (mkNd k n) p MB' MF' w7 := by
      refine ⟨?_, ?_, ?_, ?_, emb2, emf2, fb2, ff2, ?_, ?_, ?_, ?_, JO, ?_⟩ <;> (try simp only [mkNd, marks_len, mkL_len, mksP_len]) <;> first | assumption | skip
      exact markS_max _ (by omega)
    have hin : ∀ i v, (ndC (mkNd k n) p).toList[i]? = some v → cur2[j * 18 + i]? = some v := by
      intro i v hv
      have hi : i < 18 := (List.getElem?_eq_some_iff.1 hv).1
      rw [hc2, hc1]
      simp only [mkNd, marks_len, mkL_len, mksP_len] at hv
      have C7 := C 7 _ rfl
      have C15 := C 15 _ rfl
      have C16 := C 16 _ rfl
      have C17 := C 17 _ rfl
      clear C OT
      have hcap' : ∀ q, q < 18 → j * 18 + q < cur.size := fun q hq => by omega
      match i, hi, hv with
      | 0, _, hv => (rw [← hv]; simp only [Array.getElem?_setIfInBounds, Array.size_setIfInBounds]; (repeat (first | rw [if_neg (by omega)] | rw [if_pos (by omega)] | rw [if_pos trivial])); rfl)
      | 1, _, hv => (rw [← hv]; simp only [Array.getElem?_setIfInBounds, Array.size_setIfInBounds]; (repeat (first | rw [if_neg (by omega)] | rw [if_pos (by omega)] | rw [if_pos trivial])); rfl)
      | 2, _, hv => (rw [← hv]; simp only [Array.getElem?_setIfInBounds, Array.size_setIfInBounds]; (repeat (first | rw [if_neg (by omega)] | rw [if_pos (by omega)] | rw [if_pos trivial])); rfl)
      | 3, _, hv => (rw [← hv]; simp only [Array.getElem?_setIfInBounds, Array.size_setIfInBounds]; (repeat (first | rw [if_neg (by omega)] | rw [if_pos (by omega)] | rw [if_pos trivial])); rfl)
      | 4, _, hv => (rw [← hv]; simp only [Array.getElem?_setIfInBounds, Array.size_setIfInBounds]; (repeat (first | rw [if_neg (by omega)] | rw [if_pos (by omega)] | rw [if_pos trivial])); rfl)
      | 5, _, hv => (rw [← hv]; simp only [Array.getElem?_setIfInBounds, Array.size_setIfInBounds]; (repeat (first | rw [if_neg (by omega)] | rw [if_pos (by omega)] | rw [if_pos trivial])); rfl)
      | 6, _, hv => (rw [← hv]; simp only [Array.getElem?_setIfInBounds, Array.size_setIfInBounds]; (repeat (first | rw [if_neg (by omega)] | rw [if_pos (by omega)] | rw [if_pos trivial])); rfl)
      | 7, _, hv => (simp only [Array.getElem?_setIfInBounds]; (repeat rw [if_neg (by omega)]); rw [C7]; exact hv)
      | 8, _, hv => (rw [← hv]; simp only [Array.getElem?_setIfInBounds, Array.size_setIfInBounds]; (repeat (first | rw [if_neg (by omega)] | rw [if_pos (by omega)] | rw [if_pos trivial])); rfl)
      | 9, _, hv => (rw [← hv]; simp only [Array.getElem?_setIfInBounds, Array.size_setIfInBounds]; (repeat (first | rw [if_neg (by omega)] | rw [if_pos (by omega)] | rw [if_pos trivial])); rfl)
      | 10, _, hv => (rw [← hv]; simp only [Array.getElem?_setIfInBounds, Array.size_setIfInBounds]; (repeat (first | rw [if_neg (by omega)] | rw [if_pos (by omega)] | rw [if_pos trivial])); rfl)
      | 11, _, hv => (rw [← hv]; simp only [Array.getElem?_setIfInBounds, Array.size_setIfInBounds]; (repeat (first | rw [if_neg (by omega)] | rw [if_pos (by omega)] | rw [if_pos trivial])); rfl)
      | 12, _, hv => (rw [← hv]; simp only [Array.getElem?_setIfInBounds, Array.size_setIfInBounds]; (repeat (first | rw [if_neg (by omega)] | rw [if_pos (by omega)] | rw [if_pos trivial])); rfl)
      | 13, _, hv => (rw [← hv]; simp only [Array.getElem?_setIfInBounds, Array.size_setIfInBounds]; (repeat (first | rw [if_neg (by omega)] | rw [if_pos (by omega)] | rw [if_pos trivial])); rfl)
      | 14, _, hv => (rw [← hv]; simp only [Array.getElem?_setIfInBounds, Array.size_setIfInBounds]; (repeat (first | rw [if_neg (by omega)] | rw [if_pos (by omega)] | rw [if_pos trivial])); rfl)
      | 15, _, hv => (simp only [Array.getElem?_setIfInBounds]; (repeat rw [if_neg (by omega)]); rw [C15]; exact hv)
      | 16, _, hv => (simp only [Array.getElem?_setIfInBounds]; (repeat rw [if_neg (by omega)]); rw [C16]; exact hv)
      | 17, _, hv => (simp only [Array.getElem?_setIfInBounds]; (repeat rw [if_neg (by omega)]); rw [C17]; exact hv)
    have hout : ∀ i, i < j * 18 ∨ j * 18 + 18 ≤ i → cur2[i]? = cur[i]? := by
      intro i hi
      rw [hc2, hc1]
      simp only [Array.getElem?_setIfInBounds]
      repeat rw [if_neg (by omega)]
    have hs2 : cur2.size = cur.size := by rw [hc2, hc1]; simp
    have RES : OwnN B G hi cap N.length (mixN k0 N (j + 1)) w7 := by
      refine R.out.turn (k := j) (MB' := MB') (MF' := MF') hlt b2 hs2 ?_ hout hoth.out OT.out ?_
      · rw [hnn'.out, hP]; exact hin
      · rw [hnn'.out, hP, hJ, hL, hH]; exact NI
    rw [e5, ← HK.out]
    clear NI hin hout hs2 hd2 hb2 hf2 hl7 b2 hc1 hc2 C OT FA OO R hnn' hoth HK
    go_wp2_with fail
    go_roundw
    case rel => exact ⟨j + 1, hlt, by go_num, rfl, RES, M0⟩
    case measure => simp [intOf]; omega
end Go.Proofs.YtngcekegngmedaaGreat

/- laws.heldNodeS. -/

set_option linter.unusedVariables false
set_option linter.unusedSimpArgs false
namespace Go.Proofs.YtngcekegngmedaaGreat
open Go.RowKit

theorem mixN_full {k : Int} {N : List Nd} {i : Nat} (h : i < N.length) : nthN (mixN k N N.length) i = mkNd (kNs k N i) (nthN N i) := by rw [mixN_nth h, if_pos h]
set_option maxHeartbeats 8000000 in
set_option maxRecDepth 20000 in
/-- laws.heldNodeS. -/
theorem heldNodes (R : NdP → Prop) (a : Option Addr) (N : List Nd) (c : Nat) (k0 : Int) (w : World) (hd : Nds R a (mixN k0 N N.length) w) (hm : N.length ≤ 1048577) (hs : N.length + sumN N N.length ≤ 1048577) (h0 : 0 < k0) (h1 : k0 ≤ 20000000) :
    Calls Tryz.prog 23 #[.slice a N.length c, .int .i64 k0] w fun e w' => e = .returned (.int .i64 (kNs k0 N N.length)) ∧ Below w.heap.size w w' := by
  go_enter Tryz.func23, Tryz.ntmps23
  go_wp2_with fail
  go_loopw [1, 5] (fun kk i wr => ∃ j : Nat, j ≤ N.length ∧ i = .int .i64 j ∧ kk = .int .i64 (kNs k0 N j) ∧ Below w.heap.size w wr) (fun _ i _ => N.length - (intOf i).toNat)
  case atStart => exact ⟨0, Nat.zero_le _, rfl, by rw [kNs_zero], Below.refl _ _⟩
  case round =>
    obtain ⟨j, hj, rfl, rfl, B0⟩ := hrel
    by_cases hlt : j < N.length
    case neg =>
      obtain rfl : j = N.length := by omega
      go_wp2_with fail
      go_ret
      exact ⟨rfl, B0⟩
    obtain ⟨g, o, p, rfl, hc, hn, -⟩ := (hd.below B0).2 j (by rw [mixN_len]; exact hlt)
    rw [mixN_full hlt] at hc hn
    have hsum := sumN_at N hlt
    have hkb := kNs_bd (k := k0) (N := N) (j := j) (by omega)
    have hsle := sumN_le N (show j ≤ N.length by omega)
    have HK : Hid (kNs k0 N (j + 1) = m5N (kNs k0 N j) (nthN N j)) := Lib.hid (kNs_succ hlt)
    have hroom : roomN (nthN N j) ≤ 1048577 := by omega
    have hkA : 0 < kNs k0 N j := by omega
    have hkB : kNs k0 N j ≤ 40000000 := by omega
    clear hkb hsle hsum
    generalize nthN N j = n at *
    generalize kNs k0 N j = k at *
    have C : ∀ (w2 : World), Below wr.heap.size wr w2 → ∀ i v, (ndC (mkNd k n) p).toList[i]? = some v → w2.cell? ⟨g, o + j * 18 + i, none⟩ = some v := fun w2 b i v hv => rangeAt_below hc b i v hv
    simp only [mkNd, marks_len, mkL_len, mksP_len] at C
    have hnm := hn.nums
    have hbx := hn.box
    have hff := hn.fifo
    have hfl := hn.flt
    simp only [mkNd] at hnm hbx hff hfl
    clear hn hc
    replace C := Lib.hid C
    have b0 := Below.refl wr.heap.size wr
    have c0 := C.out _ b0 0 _ rfl
    have c1 := C.out _ b0 1 _ rfl
    have c2 := C.out _ b0 2 _ rfl
    have c3 := C.out _ b0 3 _ rfl
    have c4 := C.out _ b0 4 _ rfl
    have c5 := C.out _ b0 5 _ rfl
    have c6 := C.out _ b0 6 _ rfl
    have c7 := C.out _ b0 7 _ rfl
    rw [Nat.add_zero] at c0
    have e1 : k + 1 + 1 + 1 + 1 + 1 + 1 + 1 + (n.fr.D.length : Int) = m1N k n := rfl
    have e2 : m1N k n + 1 + 1 + 1 + 1 + 1 + 1 + 1 = m2N k n := rfl
    have e3 : kAt (m2N k n) n.box n.box.length = m3N k n := rfl
    have e4 : kAt (m3N k n) n.fifo n.fifo.length = m4N k n := rfl
    have e5 : m4N k n + 2 * (n.flt.length : Int) = m5N k n := rfl
    have hsD : n.fr.D.length ≤ 2000000 := by unfold roomN at hroom; omega
    have hsB : n.box.length + room n.box n.box.length ≤ 1048577 := by unfold roomN at hroom; omega
    have hsF : n.fifo.length + room n.fifo n.fifo.length ≤ 1048577 := by unfold roomN at hroom; omega
    have hsL : n.flt.length ≤ 1048577 := by unfold roomN at hroom; omega
    have q1 : 0 < m1N k n ∧ m1N k n ≤ 50000000 := by rw [← e1]; omega
    have q2 : 0 < m2N k n ∧ m2N k n ≤ 50000010 := by rw [← e2]; omega
    have q3 : 0 < m3N k n ∧ m3N k n ≤ 60000000 := by rw [← e3]; unfold kAt; omega
    have q4 : 0 < m4N k n ∧ m4N k n ≤ 70000000 := by rw [← e4]; unfold kAt; omega
    have q5 : ¬ m5N k n < 0 := by rw [← e5]; omega
    go_wp2_with fail
    refine (heldInts p.ad n.fr.D.length p.cd _ wr hnm hsD (by omega) (by omega)).mono ?_
    rintro e w2 ⟨rfl, rfl⟩
    rw [e1]
    clear c0 c1 c2 c3 c4 c5 c6 c7 hnm
    have c8 := C.out _ b0 8 _ rfl
    go_upto_region 28 with fail
    refine region_class (fun u => u.cell? ⟨g, o + j * 18 + 8, none⟩ = some (.string (markS (m1N k n))) ∧ Below wr.heap.size wr u) (by kernel_rfl) (by kernel_rfl) ⟨c8, b0.drew⟩ ?_
    repeat first
      | go_big_quiet_skip
      | (go_big_quiet_want
         apply Exists.intro
         refine ⟨fun u hu => ?_, ?_⟩
         · apply quietAt_val
           obtain ⟨c8, _⟩ := hu
           go_simp
           rfl
         simp only [Act.put, List.setIfInBounds_toArray, List.set_cons_zero, List.set_cons_succ]
         go_big_quiet_on)
      | (go_big_quiet_want
         apply Exists.intro
         refine ⟨fun u hu => ?_, ?_⟩
         · apply quietAt_enter 34 #[.int .i64 (m1N k n)]
           · go_simp
           · refine (markTextV (m1N k n) u q1.1 (by omega)).mono ?_
             rintro e w2 ⟨rfl, b2⟩
             exact ⟨rfl, (b2.cell (World.block_lt_of_cell? u _ hu.1)).trans hu.1, Below.then2 hu.2 b2⟩
         simp only [Act.put, List.setIfInBounds_toArray, List.set_cons_zero, List.set_cons_succ]
         go_big_quiet_on)
    refine wpQuiet_nil ?_
    intro w3 h3
    obtain ⟨-, b1⟩ := h3
    replace B0 := Below.then2 B0 b1
    have c9 := C.out _ b1 9 _ rfl
    have c10 := C.out _ b1 10 _ rfl
    have c11 := C.out _ b1 11 _ rfl
    have c12 := C.out _ b1 12 _ rfl
    have c13 := C.out _ b1 13 _ rfl
    have c14 := C.out _ b1 14 _ rfl
    have c15 := C.out _ b1 15 _ rfl
    clear c8
    go_wp2_with fail
    refine (heldFramesB p.ab n.box p.cb (m2N k n) w3 (hbx.below b1) hsB (by omega) (by omega)).mono ?_
    rintro e w4 ⟨he, b2⟩
    rw [e3] at he
    subst he
    replace B0 := Below.then2 B0 b2
    replace b1 := Below.then2 b1 b2
    clear b2 c9 c10 c11 c12 c13 c14 c15 hbx
    have c16 := C.out _ b1 16 _ rfl
    have n3 : ¬ m3N k n < 0 := by omega
    go_wp2_with fail
    refine (heldFramesB p.af n.fifo p.cf (m3N k n) w4 (hff.below b1) hsF (by omega) (by omega)).mono ?_
    rintro e w5 ⟨he, b2⟩
    rw [e4] at he
    subst he
    replace B0 := Below.then2 B0 b2
    replace b1 := Below.then2 b1 b2
    clear b2 c16 hff n3
    have c17 := C.out _ b1 17 _ rfl
    have n4 : ¬ m4N k n < 0 := by omega
    go_wp2_with fail
    refine (heldFlts p.al n.flt.length p.cl (m4N k n) w5 (hfl.below b1) hsL (by omega) (by omega)).mono ?_
    rintro e w6 ⟨rfl, rfl⟩
    rw [e5]
    clear c17 hfl n4
    have HK' := HK.out
    rw [← HK'] at q5 ⊢
    clear C HK'
    go_wp2_with fail
    go_roundw
    case rel => exact ⟨j + 1, hlt, by go_num, rfl, B0⟩
    case measure => simp [intOf]; omega
end Go.Proofs.YtngcekegngmedaaGreat

/- A slice of lists of filters, as it comes in. -/

set_option linter.unusedVariables false
set_option linter.unusedSimpArgs false
set_option maxRecDepth 20000
namespace Go.Proofs.YtngcekegngmedaaGreat
open Go.ChangeShapes Go.WideShapes Go.ChangeAt Go.RowKit Go.Joins

/-- A slice of filters, opened; none has no room. -/
theorem filters_openB {H : Type} {enc : TypeId × Value → H} {w : World} {base : Nat} {fuel : Nat} {cs : List Value} {x : DataW H × List MemPlace}
    (h : DataW.trod enc Tryz.prog w base (fun _ => true) true fuel 37 cs = some x) : ∃ a L c, cs = [.slice a (L : List (Int × Int)).length c] ∧ Fls a L w ∧ (a = none → c = 0) := by
  rcases Go.Deep.open_slice Tryz.underlying37 h with ⟨hcs, _⟩ | ⟨a, len, cap, m, n, D, Pl, hcs, _, hl, hm, hmm, _, hx⟩
  · exact ⟨none, [], 0, hcs, Fls.nil _ _, fun _ => rfl⟩
  · rw [if_pos rfl] at hmm
    subst hmm
    rw [cellsFilter] at hx
    have hcell : ∀ {cs' : List Value} {y : DataW H × List MemPlace}, DataW.trod enc Tryz.prog w base (fun _ => true) true n 60 cs' = some y → ∃ m c, cs' = [.int .i64 m, .int .i64 c] := by
      intro cs' y hy
      obtain ⟨y0, y1, m, _, hl, h0, h1⟩ := Go.ChangeShapes.trod_struct2 Tryz.underlying60 hy
      have hl2 : cs'.length = 2 := hl.trans cellsFilter
      match cs', hl2 with
      | [c0, c1], _ =>
        simp [one64] at h0 h1
        obtain ⟨m, e0, -, -⟩ := DataW.trod_int Tryz.underlying2 h0
        obtain ⟨c, e1, -, -⟩ := DataW.trod_int Tryz.underlying2 h1
        simp only [List.cons.injEq, and_true] at e0 e1
        subst e0 e1
        exact ⟨m, c, rfl⟩
    obtain ⟨f, hf⟩ := Go.Deep.choose_lt (α := Int × Int) (p := fun i f => ∃ g o, some a = some ⟨g, o, none⟩ ∧ FlC g (o + i * 2) f w) (n := len) (fun i hi => by
      obtain ⟨cs', h1, h2⟩ := hx i (by omega)
      obtain ⟨m, c, rfl⟩ := hcell h2
      obtain ⟨_, _, hc⟩ := World.cells?_some h1
      have k0 := hc 0 (by omega)
      have k1 := hc 1 (by omega)
      obtain ⟨b, off, spot⟩ := a
      have hspot : spot = none := by
        obtain ⟨cs0, g1, g2⟩ := hx 0 (by omega)
        obtain ⟨_, _, rfl⟩ := hcell g2
        obtain ⟨_, _, gc⟩ := World.cells?_some g1
        have := World.cell?_spot ((gc 0 (by omega)).trans rfl)
        simpa [Addr.add] using this
      subst hspot
      have hadd : ∀ j, ((⟨b, off, none⟩ : Addr).add (i * 2)).add j = ⟨b, off + i * 2 + j, none⟩ := by
        intro j
        unfold Addr.add
        split <;> split <;> simp_all
      rw [hadd] at k0 k1
      exact ⟨(m, c), b, off, rfl, k0, k1⟩)
    refine ⟨some a, (List.range len).map f, m, by simpa using hcs, ⟨by simp; omega, fun j hj => ?_⟩, fun h => by cases h⟩
    have hj' : j < len := by simpa using hj
    have e : nthP ((List.range len).map f) j = f j := by simp [nthP, List.getD_eq_getElem?_getD, hj']
    rw [e]
    exact hf j hj'
theorem oneFls : Tryz.prog.cellsOf 37 = 1 := by kernel_rfl
/-- A slice of lists of filters, opened. -/
theorem fss_open {H : Type} {enc : TypeId × Value → H} {w : World} {base : Nat} {fuel : Nat} {cs : List Value} {x : DataW H × List MemPlace}
    (h : DataW.trod enc Tryz.prog w base (fun _ => true) true fuel 22 cs = some x) : ∃ a F c, cs = [.slice a (F : List (List (Int × Int))).length c] ∧ Fss a F w := by
  rcases Go.Deep.open_slice Tryz.underlying22 h with ⟨hcs, _⟩ | ⟨a, len, cap, m, n, D, Pl, hcs, _, hl, hm, hmm, _, hx⟩
  · exact ⟨none, [], 0, hcs, by simp, fun j hj => absurd hj (by simp)⟩
  · rw [if_pos rfl] at hmm
    subst hmm
    rw [oneFls] at hx
    obtain ⟨f, hf⟩ := Go.Deep.choose_lt (α := List (Int × Int)) (p := fun i f => FsAt (some a) i f w) (n := len) (fun i hi => by
      obtain ⟨cs', h1, h2⟩ := hx i (by omega)
      obtain ⟨al, L, c, rfl, hL, hn⟩ := filters_openB h2
      obtain ⟨_, _, hc⟩ := World.cells?_some h1
      have k0 := hc 0 (by omega)
      obtain ⟨b, off, spot⟩ := a
      have hspot : spot = none := by
        obtain ⟨cs0, g1, g2⟩ := hx 0 (by omega)
        obtain ⟨_, _, _, rfl, _, _⟩ := filters_openB g2
        obtain ⟨_, _, gc⟩ := World.cells?_some g1
        have := World.cell?_spot ((gc 0 (by omega)).trans rfl)
        simpa [Addr.add] using this
      subst hspot
      have hadd : ((⟨b, off, none⟩ : Addr).add (i * 1)).add 0 = ⟨b, off + i, none⟩ := by
        unfold Addr.add
        split <;> split <;> simp_all
      rw [hadd] at k0
      exact ⟨L, b, off, al, c, rfl, k0, hL, hn⟩)
    refine ⟨some a, (List.range len).map f, m, by simpa using hcs, by simp; omega, fun j hj => ?_⟩
    have hj' : j < len := by simpa using hj
    have e : nthG ((List.range len).map f) j = f j := by simp [nthG, List.getD_eq_getElem?_getD, hj']
    rw [e]
    exact hf j hj'
end Go.Proofs.YtngcekegngmedaaGreat
