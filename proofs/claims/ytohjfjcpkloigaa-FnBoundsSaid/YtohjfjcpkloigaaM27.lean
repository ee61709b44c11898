/- Proved: at every text of bytes: of the table drawn out of it, with one message longer and one more, no bound becomes less, and where there was none there is none; each bound is that of the model, and at least what the message costs and what it may be late (laws.FnBounds answers true). No condition. -/
import Derived.Test.YtohjfjcpkloigaaM25
import Derived.Test.YtohjfjcpkloigaaM16
import Derived.Test.YtohjfjcpkloigaaM17
import Derived.Test.YtohjfjcpkloigaaM8
import Derived.Test.YtohjfjcpkloigaaRows
import Derived.WalkKit
import Derived.WalkSpells
import Derived.ProofKit
import Derived.OpenShut
import Derived.ShutString
import Derived.ChangeOld
import Derived.Below
import Derived.Deep.CutRange

set_option linter.unusedVariables false
set_option linter.unusedSimpArgs false
namespace Go.Proofs.Ytohjfjcpkloigaa.lawBounds
open Go.ChangeShapes Go.WideShapes Go.ChangeAt Go.RowKit
open Go.ChangeMaps (open_string shut_string)

theorem own : ownKnob Try.prog.godebug = none := by kernel_rfl

/-- With one message longer, and one more. -/
structure Longer (T U : List Ms) : Prop where
  code : codeT U = 0
  ok : U.all mgOk = true
  grown : Grown T U
theorem cost_up {m m' : Ms} (h0 : 0 ≤ m.sz) (h : m.sz ≤ m'.sz) (h8 : m'.sz ≤ 8) : costV m ≤ costV m' := by
  unfold costV
  rw [longV_yes (by omega) (by omega), longV_yes (by omega) (by omega), mostV_yes (by omega) (by omega), mostV_yes (by omega) (by omega), if_neg (by omega), if_neg (by omega)]
  omega
theorem longer_as {T U : List Ms} {k : Nat} (hT : Planned T) (hl : U.length = T.length + 1) (hk : k < T.length) (hlast : mgOk (nthTb U T.length) = true ∧ 60 ≤ (nthTb U T.length).id)
    (same : ∀ j, j < T.length → (nthTb U j).id = (nthTb T j).id ∧ (nthTb U j).pe = (nthTb T j).pe ∧ (nthTb U j).ji = (nthTb T j).ji ∧ (nthTb U j).de = (nthTb T j).de ∧ (nthTb U j).no = (nthTb T j).no ∧ (nthTb T j).sz ≤ (nthTb U j).sz ∧ (nthTb U j).sz ≤ 8) : Longer T U := by
  have ok : ∀ j, j < U.length → mgOk (nthTb U j) = true := fun j hj => by
    by_cases e : j = T.length
    · rw [e]; exact hlast.1
    · have hj' : j < T.length := by omega
      obtain ⟨s1, s2, s3, s4, s5, s6, s7⟩ := same j hj'
      have := mgOk_iff.1 (hT.ok j hj')
      exact mgOk_iff.2 ⟨by omega, by omega, by omega, by omega, by omega, by omega⟩
  have hall := allM_yes ok
  refine ⟨codeT_ok ⟨by omega, by have := hT.len.2; omega⟩ hall (ids_nodup fun i j hji hi => ?_), hall, ?_⟩
  · by_cases e : i = T.length
    · have := (same j (by omega)).1
      have := hT.low j (by omega)
      rw [e]
      omega
    · rw [(same i (by omega)).1, (same j (by omega)).1]
      exact hT.apart i j hji (by omega)
  · exact ⟨by omega, fun j hj => (same j hj).1, fun j hj => (same j hj).2.2.1, fun j hj => (same j hj).2.1, fun j hj => cost_up (mgOk_iff.1 (hT.ok j hj)).2.1.1 (same j hj).2.2.2.2.2.1 (same j hj).2.2.2.2.2.2⟩
theorem flatT_field {M : List Ms} {k r : Nat} {m' : Ms} {x : Value} (hk : k < M.length) (hr : r < 6) (hx : (mgC m').toList[r]? = some x) (hs : ∀ q, q < 6 → q ≠ r → (mgC m').toList[q]? = (mgC (nthTb M k)).toList[q]?) : flatT (M.set k m') = (flatT M).set (k * 6 + r) x := by
  apply List.ext_getElem?
  intro j
  by_cases hj : j < M.length * 6
  · obtain ⟨q, s, rfl, hs6, hq⟩ : ∃ q s, j = q * 6 + s ∧ s < 6 ∧ q < M.length := ⟨j / 6, j % 6, by omega, by omega, by omega⟩
    rw [flatT_get (by simpa using hq) hs6, nthTb_set hk, List.getElem?_set, flatT_len, flatT_get hq hs6]
    by_cases e : k = q
    · subst e
      rw [if_pos rfl]
      by_cases e2 : r = s
      · subst e2
        rw [if_pos rfl, if_pos (by omega), hx]
      · rw [if_neg (by omega)]
        exact hs s hs6 (fun h => e2 h.symm)
    · rw [if_neg e, if_neg (by omega)]
  · rw [List.getElem?_eq_none (by rw [flatT_len, List.length_set]; omega), List.getElem?_eq_none (by rw [List.length_set, flatT_len]; omega)]
/-- The messages of T, one perhaps longer. -/
def Stretched (T M : List Ms) : Prop := M.length = T.length ∧ ∀ j, j < T.length → (nthTb M j).id = (nthTb T j).id ∧ (nthTb M j).pe = (nthTb T j).pe ∧ (nthTb M j).ji = (nthTb T j).ji ∧ (nthTb M j).de = (nthTb T j).de ∧ (nthTb M j).no = (nthTb T j).no ∧ (nthTb T j).sz ≤ (nthTb M j).sz ∧ (nthTb M j).sz ≤ 8
theorem stretched_none {T : List Ms} (hT : Planned T) : Stretched T T := ⟨rfl, fun j hj => ⟨rfl, rfl, rfl, rfl, rfl, Int.le_refl _, (mgOk_iff.1 (hT.ok j hj)).2.1.2⟩⟩
theorem stretched_one {T : List Ms} (hT : Planned T) {k : Nat} (hk : k < T.length) {id sz pe ji de no : Int} (e : nthTb T k = ⟨id, sz, pe, ji, de, no⟩) (h8 : sz < 8) : Stretched T (T.set k ⟨id, sz + 1, pe, ji, de, no⟩) := by
  refine ⟨by simp, fun j hj => ?_⟩
  rw [nthTb_set hk]
  by_cases h : k = j
  · subst h
    rw [if_pos rfl, e]
    exact ⟨rfl, rfl, rfl, rfl, rfl, by dsimp only; omega, by dsimp only; omega⟩
  · rw [if_neg h]
    exact ⟨rfl, rfl, rfl, rfl, rfl, Int.le_refl _, (mgOk_iff.1 (hT.ok j hj)).2.1.2⟩
theorem Stretched.longer {T M : List Ms} (hT : Planned T) (h : Stretched T M) {x y : Int} (hx : 60 ≤ x ∧ x ≤ 2000) (hy : 0 ≤ y ∧ y ≤ 8) : Longer T (M ++ [⟨x, y, 900, 0, 900, 0⟩]) := by
  obtain ⟨hl, hs⟩ := h
  refine longer_as (k := 0) hT (by simp [hl]) (by have := hT.len.1; omega) ?_ fun j hj => ?_
  · rw [← hl, nthTb_last]
    exact ⟨mgOk_iff.2 ⟨by dsimp only; omega, by dsimp only; omega, by dsimp only; omega, by dsimp only; omega, by dsimp only; omega, by dsimp only; omega⟩, by dsimp only; omega⟩
  · rw [nthTb_app (by omega)]
    exact hs j hj
set_option maxHeartbeats 16000000 in
set_option maxRecDepth 20000 in
theorem walkFnBounds (a : Option Addr) (len cap : Nat) (w : World) (cd : Code w.heap.size a len w) :
    Calls Try.prog 3 #[.slice a len cap] w fun e w' => e = .returned (.bool true) ∧ Below w.heap.size w w' := by
  have hlm := cd.1
  go_enter Try.func3, Try.ntmps3
  go_wp2_with fail
  refine (bigAny a len cap w hlm).mono ?_
  rintro e w1 ⟨rfl, rfl⟩
  by_cases hbig : (4096 : Int) < (len : Int)
  · go_wp2_with fail
    go_ret
    exact ⟨rfl, Below.refl _ _⟩
  go_wp2_with fail
  refine (rollAny (B := w.heap.size) 14 _ cd (Nat.le_refl _)).mono ?_
  rintro e w1 ⟨rfl, g1, s1⟩
  have b1 := below_new g1
  clear g1 hbig
  go_wp2_with fail
  refine (planT (B := w.heap.size) (a := a) (len := len) (cap := cap) w1 s1).mono ?_
  rintro e w2 ⟨T, gT, cT, rfl, hP, F⟩
  have hT5 := hP.len
  have b := b1.grown F.grown b1.size (fun q e => by cases e; exact Nat.le_refl _)
  have hT := F.own.tbl (by omega)
  have st := F.st
  have hOT := F.own
  have hgTp : gT ≠ w.heap.size := by
    have h1 : w1.heap.size ≤ gT := (F.own.low rfl).1
    have := F.pl
    omega
  have hpW : w.heap.size < w2.heap.size := Nat.lt_of_lt_of_le F.pl F.grown.size
  clear F b1 s1
  have F0 : PlS w2 w.heap.size w.heap.size a len cap [] (.slice (some ⟨w2.heap.size, 0, none⟩) 0 0) (w2.alloc (.cells #[] 31)) :=
    ⟨st.step (World.grownBy_alloc w2 _ none) (fun k e => by cases e), World.grownBy_alloc w2 _ _, World.ownsRow_made (base := w2.heap.size) (e := 31) (size := 6) w2 #[] 0 (Nat.le_refl _) (Nat.zero_le _) rfl, hpW⟩
  have hT0 := hT.alloc (.cells #[] 31)
  have hs0 := (below_more (Below.refl w2.heap.size w2) (.cells #[] 31)).size
  go_wp2_with (at_builtin; refine wpList_wa (by rfl) (wpOp_appMs _ _ rfl w2.heap.size [] T (.slice (some ⟨w2.heap.size, 0, none⟩) 0 0) rfl F0.own gT 0 cT rfl hT0 (by simp) (by omega) hs0 ?_); intro av1 cv1 w3 O1 g1)
  rw [List.nil_append, List.length_nil, Nat.zero_add] at O1
  replace F0 := F0.row O1 g1
  clear O1 g1 hT0 hs0
  refine (throwAny (B := w.heap.size) (a := a) (len := len) (cap := cap) (T.length : Int) _ (by omega) (by omega) F0.st).mono ?_
  rintro e w4 ⟨x, x0, x1, rfl, k1, t1⟩
  replace F0 := F0.thrown k1 t1
  clear k1 t1
  obtain ⟨k, rfl⟩ := Int.eq_ofNat_of_zero_le x0
  have hk : k < T.length := by omega
  obtain ⟨gU, rfl, -, -, -⟩ := F0.own.at_ (by omega)
  have hU := F0.own.tbl (by omega)
  obtain ⟨g', o', hgo, hc⟩ := hU.2 k hk
  cases hgo
  have hstr : ∀ id sz pe ji de no, nthTb T k = ⟨id, sz, pe, ji, de, no⟩ → sz < 8 → Stretched T (T.set k ⟨id, sz + 1, pe, ji, de, no⟩) := fun _ _ _ _ _ _ e h => stretched_one hP hk e h
  have hfld : ∀ id sz pe ji de no, nthTb T k = ⟨id, sz, pe, ji, de, no⟩ → flatT (T.set k ⟨id, sz + 1, pe, ji, de, no⟩) = (flatT T).set (k * 6 + 1) (.int .i64 (sz + 1)) := fun id sz pe ji de no e => flatT_field hk (by omega) rfl (fun q hq hne => by
    rw [e]
    have : q = 0 ∨ q = 2 ∨ q = 3 ∨ q = 4 ∨ q = 5 := by omega
    rcases this with rfl | rfl | rfl | rfl | rfl <;> rfl)
  have hsz := (mgOk_iff.1 (hP.ok k hk)).2.1
  replace hstr := Lib.hid hstr
  replace hfld := Lib.hid hfld
  generalize hm : nthTb T k = m at *
  obtain ⟨id, sz, pe, ji, de, no⟩ := m
  obtain ⟨c0, c1, c2, c3, c4, c5⟩ := hc
  simp only [Nat.zero_add] at c1
  dsimp only at hsz
  clear c0 c2 c3 c4 c5
  have hkI : (k : Int) < T.length := by omega
  have wr1 : IntKind.i64.wrap (sz + 1) = sz + 1 := by rw [IntKind.wrap_i64]; omega
  have f1 := World.ownsRow.frozenAt F0.own (k * 6 + 1)
  go_upto_if 32 with fail
  go_cut [5] (fun u wx => ∃ (M : List Ms) (c : Nat), u = .slice (some ⟨gU, 0, none⟩) M.length c ∧ Stretched T M ∧ PlS w2 w.heap.size w.heap.size a len cap M (.slice (some ⟨gU, 0, none⟩) M.length c) wx)
  case first =>
    by_cases h8 : sz < 8
    · have h8b : decide (sz < 8) = true := decide_eq_true h8
      go_wp2_with fail
      go_meet
      have hO := (World.ownsRow.stored F0.own (k * 6 + 1) (.int .i64 (sz + 1))).1
      rw [← hfld.out id sz pe ji de no rfl] at hO
      refine ⟨_, cv1, ?_, hstr.out id sz pe ji de no rfl h8, F0.row (M' := T.set k ⟨id, sz + 1, pe, ji, de, no⟩) (v' := .slice (some ⟨gU, 0, none⟩) (T.set k ⟨id, sz + 1, pe, ji, de, no⟩).length cv1) ?_ (grown_set w4 gU (k * 6 + 1) (.int .i64 (sz + 1)))⟩
      · rw [List.length_set]
      · unfold OwnT
        rw [List.length_set]
        exact hO
    · have h8b : decide (sz < 8) = false := decide_eq_false h8
      go_wp2_with fail
      go_meet
      exact ⟨T, cv1, rfl, stretched_none hP, F0⟩
  case rest =>
    clear F0 hU c1 f1 hstr hfld wr1 hsz
    obtain ⟨M, c2, rfl, hS, F1⟩ := hcut
    have hMl := Lib.hid hS.1
    go_wp2_with fail
    refine (throwAny (B := w.heap.size) (a := a) (len := len) (cap := cap) 1000 _ (by omega) (by omega) F1.st).mono ?_
    rintro e w5 ⟨y1, y10, y11, rfl, k1, t1⟩
    replace F1 := F1.thrown k1 t1
    clear k1 t1
    have wr1 : IntKind.i64.wrap (1000 + y1) = 1000 + y1 := by rw [IntKind.wrap_i64]; omega
    go_wp2_with fail
    refine (throwAny (B := w.heap.size) (a := a) (len := len) (cap := cap) 9 _ (by omega) (by omega) F1.st).mono ?_
    rintro e w6 ⟨y2, y20, y21, rfl, k1, t1⟩
    replace F1 := F1.thrown k1 t1
    clear k1 t1
    have HB := heap_alloc_new w6 (.cells (mgC ⟨1000 + y1, y2, 900, 0, 900, 0⟩) 31)
    replace F1 := F1.alloc (.cells (mgC ⟨1000 + y1, y2, 900, 0, 900, 0⟩) 31)
    have hM5 : M.length ≤ 5 := by have := hMl.out; omega
    go_wp2_with (at_builtin; refine wpList_appMg rfl _ _ rfl w2.heap.size M ⟨1000 + y1, y2, 900, 0, 900, 0⟩ _ rfl F1.own w6.heap.size 1 rfl HB (by omega) F1.grown.size ?_; intro av2 cv2 w7 O2 g2)
    replace F1 := F1.row O2 g2
    clear O2 g2 HB
    refine (throwAny (B := w.heap.size) (a := a) (len := len) (cap := cap) 2 _ (by omega) (by omega) F1.st).mono ?_
    rintro e w8 ⟨y3, y30, y31, rfl, k1, t1⟩
    replace F1 := F1.thrown k1 t1
    clear k1 t1
    have hL1 := hS.longer hP (x := 1000 + y1) (y := y2) ⟨by omega, by omega⟩ ⟨y20, by omega⟩
    go_upto_if 54 with fail
    go_cut [5] (fun u wx => ∃ (U : List Ms) (au : Option Addr) (c : Nat), u = .slice au U.length c ∧ Longer T U ∧ PlS w2 w.heap.size w.heap.size a len cap U (.slice au U.length c) wx)
    case first =>
      have hlen : (M ++ [(⟨1000 + y1, y2, 900, 0, 900, 0⟩ : Ms)]).length = M.length + 1 := by simp
      by_cases hy : y3 = 0
      · subst hy
        go_wp2_with fail
        refine (throwAny (B := w.heap.size) (a := a) (len := len) (cap := cap) 40 _ (by omega) (by omega) F1.st).mono ?_
        rintro e w9 ⟨y4, y40, y41, rfl, k1, t1⟩
        replace F1 := F1.thrown k1 t1
        clear k1 t1
        have hO := F1.own
        rw [← hlen] at hO
        obtain ⟨gu, rfl, -, -, -⟩ := hO.at_ (by omega)
        have hU := hO.tbl (by omega)
        obtain ⟨g', o', hgo, hc⟩ := hU.2 M.length (by omega)
        cases hgo
        rw [nthTb_last] at hc
        obtain ⟨c0, -⟩ := hc
        simp only [Nat.zero_add] at c0
        have f0 := World.ownsRow.frozenAt hO (M.length * 6)
        have wr2 : IntKind.i64.wrap ((M.length : Int) + 1 - 1) = (M.length : Int) := by rw [IntKind.wrap_i64]; omega
        have wr3 : IntKind.i64.wrap (60 + y4) = 60 + y4 := by rw [IntKind.wrap_i64]; omega
        have hMI : (M.length : Int) < (M.length : Int) + 1 := by omega
        go_wp2_with fail
        go_meet
        have hL2 := hS.longer hP (x := 60 + y4) (y := y2) ⟨by omega, by omega⟩ ⟨y20, by omega⟩
        have hfl : flatT (M ++ [(⟨60 + y4, y2, 900, 0, 900, 0⟩ : Ms)]) = (flatT (M ++ [(⟨1000 + y1, y2, 900, 0, 900, 0⟩ : Ms)])).set (M.length * 6) (.int .i64 (60 + y4)) := by
          have := flatT_field (M := M ++ [(⟨1000 + y1, y2, 900, 0, 900, 0⟩ : Ms)]) (k := M.length) (r := 0) (m' := ⟨60 + y4, y2, 900, 0, 900, 0⟩) (x := .int .i64 (60 + y4)) (by omega) (by omega) rfl (fun q hq hne => by
            rw [nthTb_last]
            have : q = 1 ∨ q = 2 ∨ q = 3 ∨ q = 4 ∨ q = 5 := by omega
            rcases this with rfl | rfl | rfl | rfl | rfl <;> rfl)
          rw [Nat.add_zero] at this
          rw [← this]
          simp
        have hO2 := (World.ownsRow.stored hO (M.length * 6) (.int .i64 (60 + y4))).1
        rw [← hfl] at hO2
        have hlen2 : (M ++ [(⟨60 + y4, y2, 900, 0, 900, 0⟩ : Ms)]).length = M.length + 1 := by simp
        refine ⟨M ++ [⟨60 + y4, y2, 900, 0, 900, 0⟩], some ⟨gu, 0, none⟩, cv2, by rw [hlen2], hL2, F1.row (M' := M ++ [⟨60 + y4, y2, 900, 0, 900, 0⟩]) (v' := .slice (some ⟨gu, 0, none⟩) (M ++ [(⟨60 + y4, y2, 900, 0, 900, 0⟩ : Ms)]).length cv2) ?_ (grown_set w9 gu (M.length * 6) (.int .i64 (60 + y4)))⟩
        unfold OwnT
        rw [hlen2, ← hlen]
        exact hO2
      · go_wp2_with fail
        go_meet
        exact ⟨M ++ [⟨1000 + y1, y2, 900, 0, 900, 0⟩], av2, cv2, by rw [hlen], hL1, by rw [hlen]; exact F1⟩
    case rest =>
      clear F1 hL1 wr1 y10 y11 y20 y21
      obtain ⟨U, au, cU, rfl, hL, F2⟩ := hcut
      have hUl := F2.own.tbl (by have := (codeT_iff.1 hL.code).1.2; omega)
      have hTl := (hOT.kept F2.grown (.inr fun e => by cases e; exact hgTp rfl)).tbl (by omega)
      replace b := b.grown F2.grown b.size (fun q e => by cases e; exact Nat.le_refl _)
      clear F2 hOT hT st hS
      have h0 := hP.code
      have hTo := (codeT_iff.1 h0).2.1
      have hTU := hL.grown.len
      have hBT := Lib.hid (fun (j : Nat) w h (hj : j < T.length) => by
        have := implBoundOf (some ⟨gT, 0, none⟩) T cT (j : Int) w h
        rw [show boundR T (j : Int) = someR (boundV T j) by unfold boundR; rw [if_pos (hasM_iff.2 ⟨h0, by omega, by omega⟩), Int.toNat_natCast]] at this
        exact this)
      have hBS := Lib.hid (fun (j : Nat) w h (hj : j < T.length) => by
        have := specBoundOf (some ⟨gT, 0, none⟩) T cT (j : Int) w h
        rw [show boundR T (j : Int) = someR (boundV T j) by unfold boundR; rw [if_pos (hasM_iff.2 ⟨h0, by omega, by omega⟩), Int.toNat_natCast]] at this
        exact this)
      have hBU := Lib.hid (fun (j : Nat) w h (hj : j < T.length) => by
        have := implBoundOf au U cU (j : Int) w h
        rw [show boundR U (j : Int) = someR (boundV U j) by unfold boundR; rw [if_pos (hasM_iff.2 ⟨hL.code, by omega, by omega⟩), Int.toNat_natCast]] at this
        exact this)
      have hgr := Lib.hid (fun (j : Nat) (hj : j < T.length) (q : Int) (h : boundV U j = some q) => boundV_grown hTo hL.ok hL.grown hj h)
      have hlow := Lib.hid (fun (j : Nat) (hj : j < T.length) (q : Int) (h : boundV T j = some q) => boundV_low hTo hj h)
      have hmok := Lib.hid (fun (j : Nat) (hj : j < T.length) => allM_at hTo hj)
      have hCU := Lib.hid (fun w h => implCodeOf au U cU w h)
      rw [hL.code] at hCU
      clear h0 hTo hL hP hm
      go_wp2_with fail
      go_loopw [7] (fun q wr => ∃ j : Nat, j ≤ T.length ∧ q = .int .i64 (j : Int) ∧ Below wc.heap.size wc wr) (fun q _ => (T.length - Go.RowKit.intOf q).toNat)
      case atStart => exact ⟨0, Nat.zero_le _, rfl, Below.refl _ _⟩
      case round =>
        obtain ⟨j, hj, rfl, z⟩ := hrel
        by_cases hjl : j < T.length
        · have hjI : (j : Int) < T.length := by omega
          go_wp2_with fail
          refine (hBT.out j _ (hTl.below z) hjl).mono ?_
          rintro e v1 ⟨rfl, b2⟩
          replace z := Below.then2 z b2
          clear b2
          go_wp2_with fail
          refine (hBU.out j _ (hUl.below z) hjl).mono ?_
          rintro e v2 ⟨rfl, b2⟩
          replace z := Below.then2 z b2
          clear b2
          go_wp2_with fail
          refine (hBS.out j _ (hTl.below z) hjl).mono ?_
          rintro e v3 ⟨rfl, b2⟩
          replace z := Below.then2 z b2
          clear b2
          obtain ⟨g', o', hgo, hc⟩ := (hTl.below z).2 j hjl
          cases hgo
          have hg1 := hgr.out j hjl
          have hl1 := hlow.out j hjl
          have hok := hmok.out j hjl
          have hcc := costV_ok hok
          obtain ⟨-, hsz, hpe, hji, -, -⟩ := mgOk_iff.1 hok
          have HC := Lib.hid (fun w => implCostOf (nthTb T j) w (Go.WalkArith.wf_i64 ⟨by omega, by omega⟩))
          clear hok
          generalize nthTb T j = m at *
          generalize costV m = cc at *
          obtain ⟨id, sz, pe, ji, de, no⟩ := m
          dsimp only at hl1 hsz hpe hji
          have wr1 : IntKind.i64.wrap (ji + cc) = ji + cc := by rw [IntKind.wrap_i64]; omega
          cases hA : boundV T j with
          | none =>
            have hB : boundV U j = none := by
              cases h : boundV U j with
              | none => rfl
              | some q => obtain ⟨p, hp, _⟩ := hg1 q h; rw [hA] at hp; cases hp
            rw [hB]
            simp only [show someR none = (0, false) from rfl]
            clear hg1 hl1 hA hB
            go_upto_region 18 with fail
            refine region_class (fun u => MsC gT (0 + j * 6) ⟨id, sz, pe, ji, de, no⟩ u ∧ Below wc.heap.size wc u) (by kernel_rfl) (by kernel_rfl) ⟨hc, z.drew⟩ ?_
            clear hc z
            repeat first
              | go_big_quiet_skip
              | (go_big_quiet_want
                 apply Exists.intro
                 refine ⟨fun u hu => ?_, ?_⟩
                 · apply quietAt_val
                   obtain ⟨⟨c0, c1, c2, c3, c4, c5⟩, _⟩ := hu
                   simp only [Nat.zero_add] at c0 c1 c2 c3 c4 c5
                   go_simp
                   rfl
                 simp only [Act.put, List.setIfInBounds_toArray, List.set_cons_zero, List.set_cons_succ]
                 go_big_quiet_on)
              | (go_big_quiet_want
                 apply Exists.intro
                 refine ⟨fun u hu => ?_, ?_⟩
                 · apply quietAt_enter 18 #[mgV ⟨id, sz, pe, ji, de, no⟩]
                   · go_simp
                   · refine (HC.out u).mono ?_
                     rintro e w2 ⟨rfl, b2⟩
                     exact ⟨rfl, hu.1.below b2 hu.1.lt, Below.then2 hu.2 b2⟩
                 simp only [Act.put, List.setIfInBounds_toArray, List.set_cons_zero, List.set_cons_succ]
                 go_big_quiet_on)
            refine wpQuiet_nil ?_
            intro W2 L2
            have z := L2.2
            clear L2
            go_wp2_with fail
            go_roundw
            case rel => exact ⟨j + 1, by omega, by go_num, z⟩
            case measure => simp [Go.RowKit.intOf]; omega
          | some p =>
            have hlo := hl1 p hA
            have hpp : (!(p == p)) = false := by simp
            have hlt : decide (p < ji + cc) = false := decide_eq_false (by omega)
            cases hB : boundV U j with
            | none =>
              simp only [show someR none = (0, false) from rfl, show someR (some p) = (p, true) from rfl]
              clear hg1 hl1 hA hB
              go_upto_region 18 with fail
              refine region_class (fun u => MsC gT (0 + j * 6) ⟨id, sz, pe, ji, de, no⟩ u ∧ Below wc.heap.size wc u) (by kernel_rfl) (by kernel_rfl) ⟨hc, z.drew⟩ ?_
              clear hc z
              repeat first
                | go_big_quiet_skip
                | (go_big_quiet_want
                   apply Exists.intro
                   refine ⟨fun u hu => ?_, ?_⟩
                   · apply quietAt_val
                     obtain ⟨⟨c0, c1, c2, c3, c4, c5⟩, _⟩ := hu
                     simp only [Nat.zero_add] at c0 c1 c2 c3 c4 c5
                     go_simp
                     rfl
                   simp only [Act.put, List.setIfInBounds_toArray, List.set_cons_zero, List.set_cons_succ]
                   go_big_quiet_on)
                | (go_big_quiet_want
                   apply Exists.intro
                   refine ⟨fun u hu => ?_, ?_⟩
                   · apply quietAt_enter 18 #[mgV ⟨id, sz, pe, ji, de, no⟩]
                     · go_simp
                     · refine (HC.out u).mono ?_
                       rintro e w2 ⟨rfl, b2⟩
                       exact ⟨rfl, hu.1.below b2 hu.1.lt, Below.then2 hu.2 b2⟩
                   simp only [Act.put, List.setIfInBounds_toArray, List.set_cons_zero, List.set_cons_succ]
                   go_big_quiet_on)
              refine wpQuiet_nil ?_
              intro W2 L2
              have z := L2.2
              clear L2
              go_wp2_with fail
              go_roundw
              case rel => exact ⟨j + 1, by omega, by go_num, z⟩
              case measure => simp [Go.RowKit.intOf]; omega
            | some q =>
              obtain ⟨p', hp', hle⟩ := hg1 q hB
              rw [hA] at hp'
              cases hp'
              have hqp : decide (q < p) = false := decide_eq_false (by omega)
              simp only [show someR (some q) = (q, true) from rfl, show someR (some p) = (p, true) from rfl]
              clear hg1 hl1 hA hB
              go_upto_region 18 with fail
              refine region_class (fun u => MsC gT (0 + j * 6) ⟨id, sz, pe, ji, de, no⟩ u ∧ Below wc.heap.size wc u) (by kernel_rfl) (by kernel_rfl) ⟨hc, z.drew⟩ ?_
              clear hc z
              repeat first
                | go_big_quiet_skip
                | (go_big_quiet_want
                   apply Exists.intro
                   refine ⟨fun u hu => ?_, ?_⟩
                   · apply quietAt_val
                     obtain ⟨⟨c0, c1, c2, c3, c4, c5⟩, _⟩ := hu
                     simp only [Nat.zero_add] at c0 c1 c2 c3 c4 c5
                     go_simp
                     rfl
                   simp only [Act.put, List.setIfInBounds_toArray, List.set_cons_zero, List.set_cons_succ]
                   go_big_quiet_on)
                | (go_big_quiet_want
                   apply Exists.intro
                   refine ⟨fun u hu => ?_, ?_⟩
                   · apply quietAt_enter 18 #[mgV ⟨id, sz, pe, ji, de, no⟩]
                     · go_simp
                     · refine (HC.out u).mono ?_
                       rintro e w2 ⟨rfl, b2⟩
                       exact ⟨rfl, hu.1.below b2 hu.1.lt, Below.then2 hu.2 b2⟩
                   simp only [Act.put, List.setIfInBounds_toArray, List.set_cons_zero, List.set_cons_succ]
                   go_big_quiet_on)
              refine wpQuiet_nil ?_
              intro W2 L2
              have z := L2.2
              clear L2
              go_wp2_with fail
              go_roundw
              case rel => exact ⟨j + 1, by omega, by go_num, z⟩
              case measure => simp [Go.RowKit.intOf]; omega
        · have hjI : ¬ (j : Int) < T.length := by omega
          go_wp2_with fail
          refine (hCU.out _ (hUl.below z)).mono ?_
          rintro e v1 ⟨rfl, b2⟩
          replace z := Below.then2 z b2
          go_wp2_with fail
          go_ret
          exact ⟨rfl, b.trans (z.mono b.size)⟩
end Go.Proofs.Ytohjfjcpkloigaa.lawBounds
