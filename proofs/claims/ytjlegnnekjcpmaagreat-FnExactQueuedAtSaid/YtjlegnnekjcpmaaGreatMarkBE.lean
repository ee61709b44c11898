/- laws.markNodeS of a row of nodes that the call owns. -/
import Derived.Test.YtjlegnnekjcpmaaGreatNdsToE
import Derived.Test.YtjlegnnekjcpmaaGreatMarkTE
set_option linter.unusedVariables false
set_option linter.unusedSimpArgs false
namespace Go.Proofs.YtjlegnnekjcpmaaGreat
open Go.RowKit

/-! ### A node in a slice that bears its marks. -/
/-- Behind the numbers ahead of its text; behind its own fields. -/
def m1N (k : Int) (n : Nd) : Int := k + 1 + 1 + 1 + 1 + 1 + 1 + 1 + (n.fr.D.length : Int)
def m2N (k : Int) (n : Nd) : Int := m1N k n + 1 + 1 + 1 + 1 + 1 + 1 + 1
def m3N (k : Int) (n : Nd) : Int := kAt (m2N k n) n.box n.box.length
def m4N (k : Int) (n : Nd) : Int := kAt (m3N k n) n.fifo n.fifo.length
def m5N (k : Int) (n : Nd) : Int := m4N k n + 2 * (n.flt.length : Int)
def mkNd (k : Int) (n : Nd) : Nd :=
  ⟨k, (k + 1) % 3 == 0, (k + 1 + 1) % 3 == 0, (k + 1 + 1 + 1) % 3 == 0, ⟨k + 1 + 1 + 1 + 1, (k + 1 + 1 + 1 + 1 + 1) % 3 == 0, k + 1 + 1 + 1 + 1 + 1 + 1, marks (k + 1 + 1 + 1 + 1 + 1 + 1 + 1) n.fr.D.length⟩,
    markS (m1N k n), m1N k n + 1, m1N k n + 1 + 1, m1N k n + 1 + 1 + 1, m1N k n + 1 + 1 + 1 + 1, m1N k n + 1 + 1 + 1 + 1 + 1, m1N k n + 1 + 1 + 1 + 1 + 1 + 1, mkL (m2N k n) n.box, mkL (m3N k n) n.fifo, mksP (m4N k n) n.flt.length⟩
/-- How far the numbers go in one node, in the first j nodes. -/
def costN (n : Nd) : Nat := 14 + n.fr.D.length + (3 * n.box.length + room n.box n.box.length) + (3 * n.fifo.length + room n.fifo n.fifo.length) + 2 * n.flt.length
theorem m5N_eq (k : Int) (n : Nd) : m5N k n = k + (costN n : Int) := by
  simp only [m5N, m4N, m3N, m2N, m1N, kAt, costN]; omega
def kNs (k : Int) (N : List Nd) (j : Nat) : Int := k + (((N.take j).map costN).sum : Nat)
theorem kNs_zero (k : Int) (N : List Nd) : kNs k N 0 = k := by simp [kNs]
theorem kNs_succ {k : Int} {N : List Nd} {j : Nat} (h : j < N.length) : kNs k N (j + 1) = m5N (kNs k N j) (nthN N j) := by
  have e : N.take (j + 1) = N.take j ++ [nthN N j] := by
    rw [List.take_add_one, List.getElem?_eq_getElem h, nthN, List.getD_eq_getElem?_getD, List.getElem?_eq_getElem h]; rfl
  rw [m5N_eq]
  unfold kNs
  rw [e, List.map_append, List.sum_append]
  simp
  omega
theorem cost_room (n : Nd) : costN n ≤ 14 + 3 * roomN n := by unfold costN roomN; omega
theorem kNs_bd {k : Int} {N : List Nd} {j : Nat} (h : j ≤ N.length) : k + 14 * (j : Int) ≤ kNs k N j ∧ kNs k N j ≤ k + 14 * (j : Int) + 3 * (sumN N j : Int) := by
  induction j with
  | zero => rw [kNs_zero, sumN_zero]; omega
  | succ j ih =>
    have := ih (by omega)
    have hc := cost_room (nthN N j)
    rw [kNs_succ (by omega), m5N_eq, sumN_succ N j (by omega)]
    have h14 : 14 ≤ costN (nthN N j) := by unfold costN; omega
    omega
/-- The first j of them marked. -/
def mixN (k : Int) (N : List Nd) (j : Nat) : List Nd := (List.range N.length).map fun i => if i < j then mkNd (kNs k N i) (nthN N i) else nthN N i
theorem mixN_len (k : Int) (N : List Nd) (j : Nat) : (mixN k N j).length = N.length := by simp [mixN]
theorem mixN_nth {k : Int} {N : List Nd} {j i : Nat} (h : i < N.length) : nthN (mixN k N j) i = if i < j then mkNd (kNs k N i) (nthN N i) else nthN N i := by
  simp [nthN, mixN, h]
theorem mixN_zero (k : Int) (N : List Nd) : mixN k N 0 = N := by
  apply List.ext_getElem
  · exact mixN_len _ _ _
  · intro i h1 h2
    simp [mixN, nthN, h2]

/-- One node of a row has turned: its cells, and what they hold. -/
theorem RowN.turn {B G hi cap len k : Nat} {N N' : List Nd} {P : Nat → NdP} {J : Nat → NdJ} {L H : Nat → Nat} {MB MF : Nat → List (Frm × Value)} {cur cur' : Array Value} {w w' : World} (h : RowN B G hi cap len N P J L H MB MF cur w) (hk : k < len)
    (hb : w'.heap[G]? = some (.cells cur' 66 (0, 0))) (hs : cur'.size = cur.size) (hin : ∀ i v, (ndC (nthN N' k) (P k)).toList[i]? = some v → cur'[k * 18 + i]? = some v) (hout : ∀ i, i < k * 18 ∨ k * 18 + 18 ≤ i → cur'[i]? = cur[i]?)
    (hN : ∀ j, j < len → j ≠ k → nthN N' j = nthN N j) (ho : ∀ j, j < len → j ≠ k → NdI (J j) (L j) (H j) (nthN N j) (P j) (MB j) (MF j) w') {MB' MF' : List (Frm × Value)} (hm : NdI (J k) (L k) (H k) (nthN N' k) (P k) MB' MF' w') : OwnN B G hi cap len N' w' := by
  refine ⟨P, J, L, H, fun j => if j = k then MB' else MB j, fun j => if j = k then MF' else MF j, cur', ⟨hb, hs.trans h.len, fun j hj i v hv => ?_, fun j hj => ?_, h.far, h.out, h.top, h.kc⟩⟩
  · by_cases e : j = k
    · subst e; exact hin i v hv
    · have hi18 : i < 18 := (List.getElem?_eq_some_iff.1 hv).1
      rw [hout _ (by omega)]
      rw [hN j hj e] at hv
      exact h.cel j hj i v hv
  · by_cases e : j = k
    · subst e
      simp only [↓reduceIte]
      exact hm
    · simp only [if_neg e, hN j hj e]
      exact ho j hj e

theorem mtV_size : ∀ (f q : Nat) (out : ByteArray), (mtV f q out).size ≤ out.size + f
  | 0, _, out => Nat.le_refl _
  | f + 1, q, out => by
    rw [mtV]
    split
    · omega
    · have := mtV_size f (q / 10) (⟨#[UInt8.ofNat (48 + q % 10)]⟩ ++ out)
      rw [ByteArray.size_append, show (ByteArray.size ⟨#[UInt8.ofNat (48 + q % 10)]⟩) = 1 from rfl] at this
      omega
theorem markS_max (k : Int) (h : k ≤ 1000000000) : (markS k).size ≤ maxLen := by
  have := mtV_size k.toNat k.toNat ⟨#[]⟩
  rw [show (ByteArray.size ⟨#[]⟩) = 0 from rfl] at this
  unfold markS maxLen
  rw [ByteArray.size_append, show (ByteArray.size ⟨#[109]⟩) = 1 from rfl]
  omega
set_option maxHeartbeats 16000000 in
set_option maxRecDepth 20000 in
/-- laws.markNodeS. -/
theorem markNodes (B G hi cap : Nat) (N : List Nd) (k0 : Int) (w : World) (HO : OwnN B G hi cap N.length N w) (hi0 : hi ≤ w.heap.size) (hm : N.length ≤ 1048577) (hs : N.length + sumN N N.length ≤ 1048577) (h0 : 0 < k0) (h1 : k0 ≤ 20000000) :
    Calls Tryz.prog 61 #[.slice (some ⟨G, 0, none⟩) N.length cap, .int .i64 k0] w fun e w' => e = .returned (.int .i64 (kNs k0 N N.length)) ∧ OwnN B G hi cap N.length (mixN k0 N N.length) w' ∧ Mid B hi w w' := by
  go_enter Tryz.func61, Tryz.ntmps61
  go_wp2_with fail
  go_loopw [1, 5] (fun kk i wr => ∃ j : Nat, j ≤ N.length ∧ i = .int .i64 j ∧ kk = .int .i64 (kNs k0 N j) ∧ OwnN B G hi cap N.length (mixN k0 N j) wr ∧ Mid B hi w wr) (fun _ i _ => N.length - (intOf i).toNat)
  case atStart => exact ⟨0, Nat.zero_le _, rfl, by rw [kNs_zero], by rw [mixN_zero]; exact HO, Mid.refl _ _ _⟩
  case round =>
    obtain ⟨j, hj, rfl, rfl, HR, M0⟩ := hrel
    by_cases hlt : j < N.length
    case neg =>
      obtain rfl : j = N.length := by omega
      go_wp2_with fail
      go_ret
      exact ⟨rfl, HR, M0⟩
    have hsz : w.heap.size ≤ wr.heap.size := M0.size
    obtain ⟨P, J, L, H, MB, MF, cur, R⟩ := HR
    have hsum := sumN_at N hlt
    have hkb := kNs_bd (k := k0) (N := N) (j := j) (by omega)
    have hsle := sumN_le N (show j ≤ N.length by omega)
    have HK : Hid (kNs k0 N (j + 1) = m5N (kNs k0 N j) (nthN N j)) := Lib.hid (kNs_succ hlt)
    have hnn : nthN (mixN k0 N j) j = nthN N j := by rw [mixN_nth hlt, if_neg (by omega)]
    have hnn' : nthN (mixN k0 N (j + 1)) j = mkNd (kNs k0 N j) (nthN N j) := by rw [mixN_nth hlt, if_pos (by omega)]
    have hoth : ∀ i, i < N.length → i ≠ j → nthN (mixN k0 N (j + 1)) i = nthN (mixN k0 N j) i := by
      intro i hi0 hne
      rw [mixN_nth hi0, mixN_nth hi0]
      by_cases e : i < j
      · rw [if_pos e, if_pos (by omega)]
      · rw [if_neg e, if_neg (by omega)]
    have I := R.mem j hlt
    have C := R.cel j hlt
    have ho := R.out j hlt
    have ht := R.top
    have hl := R.len
    have hkc := R.kc
    have hblk := R.blk
    have OT : ∀ i, i < N.length → i ≠ j → NdI (J i) (L i) (H i) (nthN (mixN k0 N j) i) (P i) (MB i) (MF i) wr := fun i hi0 _ => R.mem i hi0
    have FA : ∀ i, i < N.length → i ≠ j → H i ≤ L j ∨ H j ≤ L i := fun i hi0 hne => by
      rcases Nat.lt_or_gt_of_ne hne with h | h
      · exact R.far i j h hlt
      · exact (R.far j i h hi0).symm
    have OO : ∀ i, i < N.length → G < L i ∨ H i ≤ G := fun i hi0 => (R.out i hi0).2.2.2
    rw [hnn] at I C
    replace OT := Lib.hid OT
    replace FA := Lib.hid FA
    replace OO := Lib.hid OO
    replace R := Lib.hid R
    replace hnn' := Lib.hid hnn'
    replace hoth := Lib.hid hoth
    have hcap : j * 18 + 18 ≤ cur.size := by rw [hl]; omega
    have hroom : roomN (nthN N j) ≤ 1048577 := by omega
    have hkA : 0 < kNs k0 N j := by omega
    have hkB : kNs k0 N j ≤ 40000000 := by omega
    clear hkb hsle hnn hsum
    generalize nthN N j = n at *
    generalize kNs k0 N j = k at *
    generalize hJ : J j = jj at *
    generalize hL : L j = lo at *
    generalize hH : H j = hh at *
    generalize hP : P j = p at *
    generalize hMB : MB j = mb at *
    generalize hMF : MF j = mf at *
    have cc : ∀ i v, (ndC n p).toList[i]? = some v → wr.cell? ⟨G, j * 18 + i, none⟩ = some v := fun i v hv => by rw [cell_of_row wr G _ _ _ _ hblk]; exact C i v hv
    have ff : ∀ i, wr.frozen? ⟨G, i, none⟩ = false := fun i => frozen_of_row wr G i _ _ hblk
    have c0 := cc 0 _ rfl
    have c1 := cc 1 _ rfl
    have c2 := cc 2 _ rfl
    have c3 := cc 3 _ rfl
    have c4 := cc 4 _ rfl
    have c5 := cc 5 _ rfl
    have c6 := cc 6 _ rfl
    have c7 := cc 7 _ rfl
    have f0 := ff (j * 18 + 0)
    have f1 := ff (j * 18 + 1)
    have f2 := ff (j * 18 + 2)
    have f3 := ff (j * 18 + 3)
    have f4 := ff (j * 18 + 4)
    have f5 := ff (j * 18 + 5)
    have f6 := ff (j * 18 + 6)
    rw [Nat.add_zero] at c0 f0
    clear cc ff
    go_wp2_with fail
    generalize hW : World.setCell _ _ _ = W1
    obtain ⟨cur1, b1, hc1⟩ : ∃ cur1, W1.heap[G]? = some (.cells cur1 66 (0, 0)) ∧ cur1 = ((((((cur.setIfInBounds (j * 18) (.int .i64 k)).setIfInBounds (j * 18 + 1) (.bool ((k + 1) % 3 == 0))).setIfInBounds (j * 18 + 2) (.bool ((k + 1 + 1) % 3 == 0))).setIfInBounds (j * 18 + 3) (.bool ((k + 1 + 1 + 1) % 3 == 0))).setIfInBounds (j * 18 + 4) (.int .i64 (k + 1 + 1 + 1 + 1))).setIfInBounds (j * 18 + 4 + 1) (.bool ((k + 1 + 1 + 1 + 1 + 1) % 3 == 0))).setIfInBounds (j * 18 + 4 + 2) (.int .i64 (k + 1 + 1 + 1 + 1 + 1 + 1)) :=
      ⟨_, by rw [← hW]; exact heap_setCell_same _ _ _ _ _ _ (heap_setCell_same _ _ _ _ _ _ (heap_setCell_same _ _ _ _ _ _ (heap_setCell_same _ _ _ _ _ _ (heap_setCell_same _ _ _ _ _ _ (heap_setCell_same _ _ _ _ _ _ (heap_setCell_same _ _ _ _ _ _ (hblk))))))), rfl⟩
    have m1 : Mid G (G + 1) wr W1 := by rw [← hW]; exact ((((((mid_cell _ _ _ _).trans (mid_cell _ _ _ _)).trans (mid_cell _ _ _ _)).trans (mid_cell _ _ _ _)).trans (mid_cell _ _ _ _)).trans (mid_cell _ _ _ _)).trans (mid_cell _ _ _ _)
    replace I := I.sep m1 (by omega)
    replace OT := Lib.hid fun i h e => (OT.out i h e).sep m1 (by have := OO.out i h; omega)
    replace M0 := M0.trans (m1.wide (by omega) (by omega))
    clear hW m1 c0 c1 c2 c3 c4 c5 c6 c7 f0 f1 f2 f3 f4 f5 f6
    obtain ⟨hd, hbx, hf, hfl, emb, emf, fb, ffi, ud, ux, uf, ul, JO, hgot⟩ := I
    have JO2 := JO
    obtain ⟨jd, jx, jf, jl, jdx, jdf, jdl, jxf, jxl, jfl⟩ := JO2
    have hsD : n.fr.D.length ≤ 2000000 := by unfold roomN at hroom; omega
    have hsB : n.box.length + room n.box n.box.length ≤ 1048577 := by unfold roomN at hroom; omega
    have hsF : n.fifo.length + room n.fifo n.fifo.length ≤ 1048577 := by unfold roomN at hroom; omega
    have hsL : n.flt.length ≤ 1048577 := by unfold roomN at hroom; omega
    have e1 : k + 1 + 1 + 1 + 1 + 1 + 1 + 1 + (n.fr.D.length : Int) = m1N k n := rfl
    have e2 : m1N k n + 1 + 1 + 1 + 1 + 1 + 1 + 1 = m2N k n := rfl
    have e3 : kAt (m2N k n) n.box n.box.length = m3N k n := rfl
    have e4 : kAt (m3N k n) n.fifo n.fifo.length = m4N k n := rfl
    have e5 : m4N k n + 2 * (n.flt.length : Int) = m5N k n := rfl
    have q1 : 0 < m1N k n ∧ m1N k n ≤ 50000000 := by rw [← e1]; omega
    have q2 : 0 < m2N k n ∧ m2N k n ≤ 50000010 := by rw [← e2]; omega
    have q3 : 0 < m3N k n ∧ m3N k n ≤ 60000000 := by rw [← e3]; unfold kAt; omega
    have q4 : 0 < m4N k n ∧ m4N k n ≤ 70000000 := by rw [← e4]; unfold kAt; omega
    refine (markInts jj.d0 n.fr.D p.ad p.cd _ W1 hd hsD (by omega) (by omega)).mono ?_
    rintro e w2 ⟨rfl, hd2, g2⟩
    have m2 : Mid jj.d0 jj.d1 W1 w2 := (Mid.refl jj.d0 jj.d1 W1).grown g2 (fun q hq => ⟨hd.low hq, ud q hq⟩)
    replace b1 := (m2.block G (Array.getElem?_eq_some_iff.1 b1).1 (by omega)).trans b1
    replace hbx := hbx.sep m2 ux (by omega)
    replace hf := hf.sep m2 uf (by omega)
    replace hfl := hfl.sep m2 ul (by omega)
    replace OT := Lib.hid fun i h e => (OT.out i h e).sep m2 (by have := FA.out i h e; omega)
    replace M0 := M0.trans (m2.wide (by omega) (by omega))
    clear m2 g2 hd
    rw [e1]
    go_wp2_with fail
    refine (markTextV (m1N k n) w2 q1.1 (by omega)).mono ?_
    rintro e w3 ⟨rfl, b3⟩
    replace b1 := (b3.block G (Array.getElem?_eq_some_iff.1 b1).1).trans b1
    replace hd2 := hd2.below' b3
    replace hbx := hbx.below b3
    replace hf := hf.below b3
    replace hfl := hfl.below b3
    replace OT := Lib.hid fun i h e => (OT.out i h e).below b3
    replace M0 := M0.trans (Mid.ofBelow b3)
    clear b3
    have cc : ∀ i v, 7 ≤ i → (ndC n p).toList[i]? = some v → w3.cell? ⟨G, j * 18 + i, none⟩ = some v := fun i v hi hv => by
      rw [cell_of_row w3 G _ _ _ _ b1, hc1]
      simp only [Array.getElem?_setIfInBounds]
      repeat rw [if_neg (by omega)]
      exact C i v hv
    have ff : ∀ i, w3.frozen? ⟨G, i, none⟩ = false := fun i => frozen_of_row w3 G i _ _ b1
    have c8 := cc 8 _ (by decide) rfl
    have c9 := cc 9 _ (by decide) rfl
    have c10 := cc 10 _ (by decide) rfl
    have c11 := cc 11 _ (by decide) rfl
    have c12 := cc 12 _ (by decide) rfl
    have c13 := cc 13 _ (by decide) rfl
    have c14 := cc 14 _ (by decide) rfl
    have c15 := cc 15 _ (by decide) rfl
    have f8 := ff (j * 18 + 8)
    have f9 := ff (j * 18 + 9)
    have f10 := ff (j * 18 + 10)
    have f11 := ff (j * 18 + 11)
    have f12 := ff (j * 18 + 12)
    have f13 := ff (j * 18 + 13)
    have f14 := ff (j * 18 + 14)
    clear cc ff
    go_wp2_with fail
    generalize hW : World.setCell _ _ _ = W4
    obtain ⟨cur2, b2, hc2⟩ : ∃ cur2, W4.heap[G]? = some (.cells cur2 66 (0, 0)) ∧ cur2 = ((((((cur1.setIfInBounds (j * 18 + 8) (.string (markS (m1N k n)))).setIfInBounds (j * 18 + 9) (.int .i64 (m1N k n + 1))).setIfInBounds (j * 18 + 10) (.int .i64 (m1N k n + 1 + 1))).setIfInBounds (j * 18 + 11) (.int .i64 (m1N k n + 1 + 1 + 1))).setIfInBounds (j * 18 + 12) (.int .i64 (m1N k n + 1 + 1 + 1 + 1))).setIfInBounds (j * 18 + 13) (.int .i64 (m1N k n + 1 + 1 + 1 + 1 + 1))).setIfInBounds (j * 18 + 13 + 1) (.int .i64 (m1N k n + 1 + 1 + 1 + 1 + 1 + 1)) :=
      ⟨_, by rw [← hW]; exact heap_setCell_same _ _ _ _ _ _ (heap_setCell_same _ _ _ _ _ _ (heap_setCell_same _ _ _ _ _ _ (heap_setCell_same _ _ _ _ _ _ (heap_setCell_same _ _ _ _ _ _ (heap_setCell_same _ _ _ _ _ _ (heap_setCell_same _ _ _ _ _ _ (b1))))))), rfl⟩
    have m4 : Mid G (G + 1) w3 W4 := by rw [← hW]; exact ((((((mid_cell _ _ _ _).trans (mid_cell _ _ _ _)).trans (mid_cell _ _ _ _)).trans (mid_cell _ _ _ _)).trans (mid_cell _ _ _ _)).trans (mid_cell _ _ _ _)).trans (mid_cell _ _ _ _)
    replace hd2 := hd2.sep m4 ud (by omega)
    replace hbx := hbx.sep m4 ux (by omega)
    replace hf := hf.sep m4 uf (by omega)
    replace hfl := hfl.sep m4 ul (by omega)
    replace OT := Lib.hid fun i h e => (OT.out i h e).sep m4 (by have := OO.out i h; omega)
    replace M0 := M0.trans (m4.wide (by omega) (by omega))
    clear hW m4 b1 c8 c9 c10 c11 c12 c13 c14 c15 f8 f9 f10 f11 f12 f13 f14
    refine (markFramesU jj.x0 jj.x1 mb n.box emb p.ab p.cb (m2N k n) W4 hbx fb ux hsB (by omega) (by omega)).mono ?_
    rintro e w5 ⟨MB', he, emb2, hb2, fb2, m5, ux2⟩
    rw [e3] at he
    subst he
    replace b2 := (m5.block G (Array.getElem?_eq_some_iff.1 b2).1 (by omega)).trans b2
    replace hd2 := hd2.sep m5 ud (by omega)
    replace hf := hf.sep m5 uf (by omega)
    replace hfl := hfl.sep m5 ul (by omega)
    replace OT := Lib.hid fun i h e => (OT.out i h e).sep m5 (by have := FA.out i h e; omega)
    replace M0 := M0.trans (m5.wide (by omega) (by omega))
    clear m5 hbx
    have cc : ∀ w : World, w.heap[G]? = some (.cells cur2 66 (0, 0)) → ∀ i v, 15 ≤ i → (ndC n p).toList[i]? = some v → w.cell? ⟨G, j * 18 + i, none⟩ = some v := fun w b i v hi hv => by
      rw [cell_of_row w G _ _ _ _ b, hc2, hc1]
      simp only [Array.getElem?_setIfInBounds]
      repeat rw [if_neg (by omega)]
      exact C i v hv
    have c16 := cc w5 b2 16 _ (by decide) rfl
    replace cc := Lib.hid cc
    go_wp2_with fail
    refine (markFramesU jj.f0 jj.f1 mf n.fifo emf p.af p.cf (m3N k n) w5 hf ffi uf hsF (by omega) (by omega)).mono ?_
    rintro e w6 ⟨MF', he, emf2, hf2, ff2, m6, uf2⟩
    rw [e4] at he
    subst he
    replace b2 := (m6.block G (Array.getElem?_eq_some_iff.1 b2).1 (by omega)).trans b2
    replace hd2 := hd2.sep m6 ud (by omega)
    replace hb2 := hb2.sep m6 ux2 (by omega)
    replace hfl := hfl.sep m6 ul (by omega)
    replace OT := Lib.hid fun i h e => (OT.out i h e).sep m6 (by have := FA.out i h e; omega)
    replace M0 := M0.trans (m6.wide (by omega) (by omega))
    clear m6 hf c16
    have c17 := cc.out w6 b2 17 _ (by decide) rfl
    go_wp2_with fail
    refine (markFlts jj.l0 jj.l1 n.flt p.al p.cl (m4N k n) w6 hfl ul hsL (by omega) (by omega)).mono ?_
    rintro e w7 ⟨rfl, hl7, m7⟩
    replace b2 := (m7.block G (Array.getElem?_eq_some_iff.1 b2).1 (by omega)).trans b2
    replace hd2 := hd2.sep m7 ud (by omega)
    replace hb2 := hb2.sep m7 ux2 (by omega)
    replace hf2 := hf2.sep m7 uf2 (by omega)
    replace OT := Lib.hid fun i h e => (OT.out i h e).sep m7 (by have := FA.out i h e; omega)
    replace M0 := M0.trans (m7.wide (by omega) (by omega))
    clear m7 hfl c17 cc
    have NI : NdI jj lo hh (mkNd k n) p MB' MF' w7 := by
      refine ⟨?_, ?_, ?_, ?_, emb2, emf2, fb2, ff2, ?_, ?_, ?_, ?_, JO, ?_⟩ <;> (try simp only [mkNd, marks_len, mkL_len, mksP_len]) <;> first | assumption | skip
      exact markS_max _ (by omega)
    have hin : ∀ i v, (ndC (mkNd k n) p).toList[i]? = some v → cur2[j * 18 + i]? = some v := by
      intro i v hv
      have hi : i < 18 := (List.getElem?_eq_some_iff.1 hv).1
      rw [hc2, hc1]
      simp only [mkNd, marks_len, mkL_len, mksP_len] at hv
      have C7 := C 7 _ rfl
      have C15 := C 15 _ rfl
      have C16 := C 16 _ rfl
      have C17 := C 17 _ rfl
      clear C OT
      have hcap' : ∀ q, q < 18 → j * 18 + q < cur.size := fun q hq => by omega
      match i, hi, hv with
      | 0, _, hv => (rw [← hv]; simp only [Array.getElem?_setIfInBounds, Array.size_setIfInBounds]; (repeat (first | rw [if_neg (by omega)] | rw [if_pos (by omega)] | rw [if_pos trivial])); rfl)
      | 1, _, hv => (rw [← hv]; simp only [Array.getElem?_setIfInBounds, Array.size_setIfInBounds]; (repeat (first | rw [if_neg (by omega)] | rw [if_pos (by omega)] | rw [if_pos trivial])); rfl)
      | 2, _, hv => (rw [← hv]; simp only [Array.getElem?_setIfInBounds, Array.size_setIfInBounds]; (repeat (first | rw [if_neg (by omega)] | rw [if_pos (by omega)] | rw [if_pos trivial])); rfl)
      | 3, _, hv => (rw [← hv]; simp only [Array.getElem?_setIfInBounds, Array.size_setIfInBounds]; (repeat (first | rw [if_neg (by omega)] | rw [if_pos (by omega)] | rw [if_pos trivial])); rfl)
      | 4, _, hv => (rw [← hv]; simp only [Array.getElem?_setIfInBounds, Array.size_setIfInBounds]; (repeat (first | rw [if_neg (by omega)] | rw [if_pos (by omega)] | rw [if_pos trivial])); rfl)
      | 5, _, hv => (rw [← hv]; simp only [Array.getElem?_setIfInBounds, Array.size_setIfInBounds]; (repeat (first | rw [if_neg (by omega)] | rw [if_pos (by omega)] | rw [if_pos trivial])); rfl)
      | 6, _, hv => (rw [← hv]; simp only [Array.getElem?_setIfInBounds, Array.size_setIfInBounds]; (repeat (first | rw [if_neg (by omega)] | rw [if_pos (by omega)] | rw [if_pos trivial])); rfl)
      | 7, _, hv => (simp only [Array.getElem?_setIfInBounds]; (repeat rw [if_neg (by omega)]); rw [C7]; exact hv)
      | 8, _, hv => (rw [← hv]; simp only [Array.getElem?_setIfInBounds, Array.size_setIfInBounds]; (repeat (first | rw [if_neg (by omega)] | rw [if_pos (by omega)] | rw [if_pos trivial])); rfl)
      | 9, _, hv => (rw [← hv]; simp only [Array.getElem?_setIfInBounds, Array.size_setIfInBounds]; (repeat (first | rw [if_neg (by omega)] | rw [if_pos (by omega)] | rw [if_pos trivial])); rfl)
      | 10, _, hv => (rw [← hv]; simp only [Array.getElem?_setIfInBounds, Array.size_setIfInBounds]; (repeat (first | rw [if_neg (by omega)] | rw [if_pos (by omega)] | rw [if_pos trivial])); rfl)
      | 11, _, hv => (rw [← hv]; simp only [Array.getElem?_setIfInBounds, Array.size_setIfInBounds]; (repeat (first | rw [if_neg (by omega)] | rw [if_pos (by omega)] | rw [if_pos trivial])); rfl)
      | 12, _, hv => (rw [← hv]; simp only [Array.getElem?_setIfInBounds, Array.size_setIfInBounds]; (repeat (first | rw [if_neg (by omega)] | rw [if_pos (by omega)] | rw [if_pos trivial])); rfl)
      | 13, _, hv => (rw [← hv]; simp only [Array.getElem?_setIfInBounds, Array.size_setIfInBounds]; (repeat (first | rw [if_neg (by omega)] | rw [if_pos (by omega)] | rw [if_pos trivial])); rfl)
      | 14, _, hv => (rw [← hv]; simp only [Array.getElem?_setIfInBounds, Array.size_setIfInBounds]; (repeat (first | rw [if_neg (by omega)] | rw [if_pos (by omega)] | rw [if_pos trivial])); rfl)
      | 15, _, hv => (simp only [Array.getElem?_setIfInBounds]; (repeat rw [if_neg (by omega)]); rw [C15]; exact hv)
      | 16, _, hv => (simp only [Array.getElem?_setIfInBounds]; (repeat rw [if_neg (by omega)]); rw [C16]; exact hv)
      | 17, _, hv => (simp only [Array.getElem?_setIfInBounds]; (repeat rw [if_neg (by omega)]); rw [C17]; exact hv)
    have hout : ∀ i, i < j * 18 ∨ j * 18 + 18 ≤ i → cur2[i]? = cur[i]? := by
      intro i hi
      rw [hc2, hc1]
      simp only [Array.getElem?_setIfInBounds]
      repeat rw [if_neg (by omega)]
    have hs2 : cur2.size = cur.size := by rw [hc2, hc1]; simp
    have RES : OwnN B G hi cap N.length (mixN k0 N (j + 1)) w7 := by
      refine R.out.turn (k := j) (MB' := MB') (MF' := MF') hlt b2 hs2 ?_ hout hoth.out OT.out ?_
      · rw [hnn'.out, hP]; exact hin
      · rw [hnn'.out, hP, hJ, hL, hH]; exact NI
    rw [e5, ← HK.out]
    clear NI hin hout hs2 hd2 hb2 hf2 hl7 b2 hc1 hc2 C OT FA OO R hnn' hoth HK
    go_wp2_with fail
    go_roundw
    case rel => exact ⟨j + 1, hlt, by go_num, rfl, RES, M0⟩
    case measure => simp [intOf]; omega
end Go.Proofs.YtjlegnnekjcpmaaGreat

