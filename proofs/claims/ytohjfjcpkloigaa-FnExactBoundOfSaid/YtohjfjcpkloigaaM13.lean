/- Bounds, the program: rows of messages that the call owns; msgsAt, DemandOf. -/
import Derived.Test.YtohjfjcpkloigaaM10
import Derived.Test.YtohjfjcpkloigaaM12
import Derived.Test.YtohjfjcpkloigaaM7

set_option linter.unusedVariables false
set_option linter.unusedSimpArgs false
set_option maxRecDepth 20000
namespace Go.Proofs.Ytohjfjcpkloigaa
open Go.RowKit

def flatT : List Ms → List Value
  | [] => []
  | m :: M => (mgC m).toList ++ flatT M
theorem flatT_len : ∀ M : List Ms, (flatT M).length = M.length * 6
  | [] => rfl
  | m :: M => by simp only [flatT, List.length_append, flatT_len M, List.length_cons]; simp; omega
theorem flatT_app : ∀ (M N : List Ms), flatT (M ++ N) = flatT M ++ flatT N
  | [], N => rfl
  | m :: M, N => by simp only [List.cons_append, flatT, flatT_app M N, List.append_assoc]
theorem flatT_one (m : Ms) : flatT [m] = (mgC m).toList := by simp [flatT]
theorem flatT_get : ∀ {M : List Ms} {j r : Nat}, j < M.length → r < 6 → (flatT M)[j * 6 + r]? = (mgC (nthTb M j)).toList[r]?
  | m :: M, 0, r, _, hr => by
    rw [flatT, List.getElem?_append_left (by simp; omega)]
    simp [nthTb]
  | m :: M, j + 1, r, hj, hr => by
    have e : (j + 1) * 6 + r = (mgC m).toList.length + (j * 6 + r) := by simp; omega
    rw [flatT, e, List.getElem?_append_right (by omega), Nat.add_sub_cancel_left, flatT_get (by simpa using hj) hr]
    simp [nthTb]
/-- The slice v, in a row of the call's own, holds the messages M. -/
def OwnT (B : Nat) (M : List Ms) (v : Value) (w : World) : Prop := w.ownsRow B 31 6 v M.length (flatT M)
section
variable {B : Nat} {M : List Ms} {v : Value} {w w' : World}
theorem OwnT.nil (B : Nat) (w : World) : OwnT B [] (.slice none 0 0) w := World.ownsRow_nil w B _ 6
theorem OwnT.kept {row : Option Nat} (h : OwnT B M v w) (k : w.grownBy w' row) (hne : v.ownBlock = none ∨ v.ownBlock ≠ row) : OwnT B M v w' := World.ownsRow.kept h k hne
theorem OwnT.is (h : OwnT B M v w) : ∃ a c, v = .slice a M.length c := by
  rcases h.2 with ⟨rfl, hn⟩ | ⟨g, cap, cur, rfl, _⟩
  · exact ⟨none, 0, by rw [hn]⟩
  · exact ⟨_, cap, rfl⟩
theorem OwnT.low (h : OwnT B M v w) {k : Nat} (hk : v.ownBlock = some k) : B ≤ k ∧ k < w.heap.size := World.ownsRow.lt h k hk
theorem OwnT.below (h : OwnT B M v w) (b : Below w.heap.size w w') : OwnT B M v w' := h.kept (grown_at b) (Classical.em _)
theorem OwnT.tbl {a : Option Addr} {c : Nat} (h : OwnT B M (.slice a M.length c) w) (hm : M.length ≤ 2000000) : Tbl a M w := by
  refine ⟨by unfold maxLen; omega, fun j hj => ?_⟩
  rcases h.2 with ⟨_, h0⟩ | ⟨g, cap, cur, e, _⟩
  · omega
  · simp only [Value.slice.injEq, true_and] at e
    obtain ⟨rfl, rfl⟩ := e
    have q : ∀ r, r < 6 → w.cell? ⟨g, 0 + j * 6 + r, none⟩ = (mgC (nthTb M j)).toList[r]? := fun r hr => by
      rw [Nat.zero_add, World.ownsRow.cellAt h (j * 6 + r) (by omega), flatT_get hj hr]
    exact ⟨g, 0, rfl, q 0 (by omega), q 1 (by omega), q 2 (by omega), q 3 (by omega), q 4 (by omega), q 5 (by omega)⟩
end
theorem infoMsg6 : (Try.prog.info? 31).map (fun i => (i.zero, i.size, i.bytes)) = some (some (.agg #[.int .i64 0, .int .i64 0, .int .i64 0, .int .i64 0, .int .i64 0, .int .i64 0]), 6, 48) := by kernel_rfl
/-- 'append' of one message. -/
theorem wpList_appMg {ops : Array Oper} {rest : List Oper} {p : Oper} {a : Act} {w : World} {Q : Exit → Act → World → Prop} (hgd : p.guard = none) (s x : Operand)
    (ho : p.op = .call { callee := .builtin .append, args := #[s, x], argTypes := #[27, 27] })
    (Bn : Nat) (M : List Ms) (m : Ms) (v : Value) (hs : a.eval s = v) (hown : OwnT Bn M v w) (g1 c1 : Nat) (hx : a.eval x = .slice (some ⟨g1, 0, none⟩) 1 c1)
    (hc : w.heap[g1]? = some (.cells (mgC m) 31 (0, 0))) (hsz : M.length ≤ 1900000) (hB : Bn ≤ w.heap.size)
    (h : ∀ av cv w', OwnT Bn (M ++ [m]) (.slice av (M.length + 1) cv) w' → w.grownBy w' v.ownBlock → wpList Try.prog ops Q rest (a.put p.dst (.slice av (M.length + 1) cv)) w') : wpList Try.prog ops Q (p :: rest) a w := by
  obtain ⟨i0, hi, hz0, hz1, hz2⟩ := info_parts infoMsg6
  refine wpList_append_own _ hgd s x 27 ho Bn 31 i0 (.agg #[.int .i64 0, .int .i64 0, .int .i64 0, .int .i64 0, .int .i64 0, .int .i64 0]) 6 48 Try.underlying27 hi hz0 hz1 hz2 rfl (by decide) v M.length (flatT M) hs hown ⟨g1, 0, none⟩ 1 c1 (mgC m).toList hx rfl ?_ ?_ ?_ ?_ hB ?_
  · intro j u hu
    rw [show (⟨g1, 0, none⟩ : Addr).add j = ⟨g1, j, none⟩ by unfold Addr.add; split <;> simp_all, cell_of_row w g1 _ _ _ _ hc, ← Array.getElem?_toList]
    exact hu
  · intro u hu; simp at hu; rcases hu with rfl | rfl | rfl | rfl | rfl | rfl <;> rfl
  · unfold maxLen; omega
  · omega
  · intro v' w' k2 k3 k4
    have e : flatT M ++ (mgC m).toList = flatT (M ++ [m]) := by rw [flatT_app, flatT_one]
    rw [e] at k2
    have hR : OwnT Bn (M ++ [m]) v' w' := by
      unfold OwnT
      rw [List.length_append, List.length_singleton]
      exact k2
    obtain ⟨av, cv, rfl⟩ := hR.is
    rw [List.length_append, List.length_singleton] at hR ⊢
    exact h av cv w' hR k3
theorem pickT_take {T : List Ms} {L : List Int} {k : Nat} (h : k < L.length) : pickT T (L.take (k + 1)) = pickT T (L.take k) ++ [nthTb T (L.getD k 0).toNat] := by
  unfold pickT
  rw [List.take_add_one, List.map_append]
  simp [List.getElem?_eq_getElem h, List.getD_eq_getElem?_getD]
/-- What msgsAt answers. -/
def AtR (T : List Ms) (L : List Int) (w : World) (e : Ending) (w' : World) : Prop :=
  (placesOk T L → ∃ v, e = .returned (.tuple #[v, .bool true]) ∧ OwnT w.heap.size (pickT T L) v w') ∧ (¬ placesOk T L → e = .returned (.tuple #[.slice none 0 0, .bool false]))
set_option maxHeartbeats 4000000 in
/-- impl.msgsAt. -/
theorem implMsgsAt (a al : Option Addr) (T : List Ms) (L : List Int) (c cl : Nat) (w : World) (hd : Tbl a T w) (hn : Nums al L w) (hL : L.length ≤ 1500000) :
    Calls Try.prog 64 #[.slice a T.length c, .slice al L.length cl] w fun e w' => AtR T L w e w' ∧ Below w.heap.size w w' := by
  have hm := hd.1
  unfold maxLen at hm
  go_enter Try.func64, Try.ntmps64
  go_wp2_with fail
  go_loopw [6, 11] (fun v k wr => ∃ j : Nat, j ≤ L.length ∧ k = .int .i64 j ∧ (∀ q, q < j → 0 ≤ L.getD q 0 ∧ L.getD q 0 < T.length) ∧ OwnT w.heap.size (pickT T (L.take j)) v wr ∧ Below w.heap.size w wr) (fun _ k _ => L.length - (intOf k).toNat)
  case atStart => exact ⟨0, Nat.zero_le _, rfl, fun q hq => absurd hq (Nat.not_lt_zero _), OwnT.nil _ _, Below.refl _ _⟩
  case round =>
    obtain ⟨j, hj, rfl, hp, O, p⟩ := hrel
    by_cases hlt : j < L.length
    · obtain ⟨gl, ol, rfl, l0⟩ := (hn.below p).2.2 j hlt
      replace l0 : wr.cell? ⟨gl, ol + j, none⟩ = some (.int .i64 (L.getD j 0)) := l0
      have hpk := Lib.hid (pickT_take (T := T) hlt)
      have hpj : ∀ q, q < j + 1 → (0 ≤ L.getD j 0 ∧ L.getD j 0 < T.length) → 0 ≤ L.getD q 0 ∧ L.getD q 0 < T.length := fun q hq h => by
        by_cases e : q = j
        · rw [e]; exact h
        · exact hp q (by omega)
      have hno : ¬ (0 ≤ L.getD j 0 ∧ L.getD j 0 < T.length) → ¬ placesOk T L := fun h h' => h (h' j hlt)
      have hlen : (pickT T (L.take j)).length = j := by rw [pickT_len, List.length_take]; omega
      replace hpj := Lib.hid hpj
      replace hno := Lib.hid hno
      replace hp := Lib.hid hp
      generalize L.getD j 0 = q at *
      have hltI : (j : Int) < L.length := by omega
      have wr1 : IntKind.i64.wrap ((T.length : Int) - 1) = (T.length : Int) - 1 := by rw [IntKind.wrap_i64]; omega
      go_wp2_with fail
      refine (implWithin _ _ _ _).mono ?_
      rintro e w1 ⟨rfl, rfl⟩
      cases hr : rng q 0 ((T.length : Int) - 1) with
      | false =>
        have hE := Lib.hid (hno.out (fun h => by rw [rng_iff.2 (by omega)] at hr; cases hr))
        clear hr hpj hno hpk
        go_wp2_with fail
        exact bodyPost_ret (v := .tuple #[.slice none 0 0, .bool false]) (by simp [results, Try.results64, go_sem]) rfl ⟨⟨fun h => absurd h hE.out, fun _ => rfl⟩, p⟩
      | true =>
        have hq := rng_iff.1 hr
        replace hpj := Lib.hid (fun r hr => hpj.out r hr ⟨hq.1, by omega⟩)
        obtain ⟨x, rfl⟩ := Int.eq_ofNat_of_zero_le hq.1
        have hx : x < T.length := by omega
        have hxI : (x : Int) < T.length := by omega
        clear hr hq hno
        obtain ⟨g, o, rfl, hc⟩ := (hd.below p).2 x hx
        simp only [Int.toNat_natCast] at hpk
        generalize nthTb T x = m at *
        generalize hP : pickT T (L.take j) = P at *
        obtain ⟨id, sz, pe, ji, de, no⟩ := m
        dsimp only at *
        obtain ⟨c0, c1, c2, c3, c4, c5⟩ := hc
        have hB := heap_alloc_new wr (.cells (mgC ⟨id, sz, pe, ji, de, no⟩) 31)
        have p1 := below_more p (.cells (mgC ⟨id, sz, pe, ji, de, no⟩) 31)
        have O1 := O.kept (World.grownBy_alloc wr (.cells (mgC ⟨id, sz, pe, ji, de, no⟩) 31) none) (Classical.em _)
        obtain ⟨av, cv, rfl⟩ := O.is
        rw [hlen] at O1 ⊢
        clear p O l0
        go_wp2_with (at_builtin; refine wpList_appMg rfl _ _ rfl w.heap.size P ⟨id, sz, pe, ji, de, no⟩ _ rfl O1 wr.heap.size 1 rfl hB (by omega) p1.size ?_; intro av2 cv2 w3 O3 g3)
        have p3 := p1.grown g3 p1.size (fun q e => by have := O1.low e; omega)
        clear g3 O1 hB p1 c0 c1 c2 c3 c4 c5
        go_roundw
        case rel => exact ⟨j + 1, by omega, by go_num, hpj.out, by rw [hpk.out]; rw [hlen] at O3; exact O3, p3⟩
        case measure => simp [intOf]; omega
    · obtain rfl : j = L.length := by omega
      rw [List.take_length] at O
      obtain ⟨av, cv, rfl⟩ := O.is
      replace hp := Lib.hid hp
      go_wp2_with fail
      refine bodyPost_ret (v := .tuple #[.slice av (pickT T L).length cv, .bool true]) (by simp [results, Try.results64, go_sem]) rfl ⟨⟨fun _ => ⟨_, rfl, O⟩, fun h => absurd hp.out h⟩, p⟩
set_option maxHeartbeats 4000000 in
/-- impl.DemandOf. -/
theorem implDemandOf (a al : Option Addr) (T : List Ms) (L : List Int) (c cl : Nat) (t : Int) (w : World) (hd : Tbl a T w) (hn : Nums al L w) (hL : L.length ≤ 1500000) :
    Calls Try.prog 31 #[.slice a T.length c, .slice al L.length cl, .int .i64 t] w fun e w' => e = .returned (.int .i64 (demandV T L t)) ∧ Below w.heap.size w w' := by
  have hno : ¬ (codeT T = 0 ∧ (0 ≤ t ∧ t ≤ 100000) ∧ placesOk T L) → demandV T L t = -1 := fun h => if_neg h
  have hyes : codeT T = 0 → 0 ≤ t ∧ t ≤ 100000 → placesOk T L → demandV T L t = demA (pickT T L) t (pickT T L).length := fun h1 h2 h3 => by rw [demandV_yes h1 h2 h3, demA_all]
  replace hno := Lib.hid hno
  replace hyes := Lib.hid hyes
  have H1 := Lib.hid (fun w h => implCodeOf a T c w h)
  generalize demandV T L t = R at hno hyes ⊢
  go_enter Try.func31, Try.ntmps31
  go_wp2_with fail
  refine (H1.out _ hd).mono ?_
  rintro e w1 ⟨rfl, b⟩
  replace hd := hd.below b
  replace hn := hn.below b
  clear H1
  by_cases h0 : codeT T = 0
  · have hT := Lib.hid (codeT_iff.1 h0).2.1
    replace hyes := Lib.hid (hyes.out h0)
    have hno2 := Lib.hid (fun (h : ¬ ((0 ≤ t ∧ t ≤ 100000) ∧ placesOk T L)) => hno.out (fun h' => h h'.2))
    rw [h0]
    clear h0 hno
    go_wp2_with fail
    refine (implWithin _ _ _ _).mono ?_
    rintro e w2 ⟨rfl, rfl⟩
    cases hr : rng t 0 100000 with
    | false =>
      have hE := Lib.hid (hno2.out (fun h => by rw [rng_iff.2 h.1] at hr; cases hr))
      clear hr hno2 hyes
      go_wp2_with fail
      go_ret
      exact ⟨by rw [hE.out] <;> rfl, b⟩
    | true =>
      have ht := rng_iff.1 hr
      replace hyes := Lib.hid (hyes.out ht)
      replace hno2 := Lib.hid (fun (h : ¬ placesOk T L) => hno2.out (fun h' => h h'.2))
      clear hr
      go_wp2_with fail
      refine (implMsgsAt a al T L c cl w1 hd hn hL).mono ?_
      rintro e w2 ⟨⟨k1, k2⟩, b2⟩
      replace b := Below.then2 b b2
      by_cases hp : placesOk T L
      · obtain ⟨v, rfl, O⟩ := k1 hp
        have hE := Lib.hid (hyes.out hp)
        have hM := pickT_ok hT.out hp
        have hPl : (pickT T L).length ≤ 2000000 := by rw [pickT_len]; omega
        clear k1 k2 hno2 hyes hp
        generalize pickT T L = M at *
        obtain ⟨av, cv, rfl⟩ := O.is
        have hd2 := O.tbl hPl
        clear O b2
        go_wp2_with fail
        refine (implDemAll av M cv t _ hd2 hM hPl ⟨ht.1, by omega⟩).mono ?_
        rintro e w3 ⟨rfl, b3⟩
        replace b := Below.then2 b b3
        go_wp2_with fail
        go_ret
        exact ⟨by rw [hE.out] <;> rfl, b⟩
      · obtain rfl := k2 hp
        have hE := Lib.hid (hno2.out hp)
        clear k1 k2 hno2 hyes hp b2
        go_wp2_with fail
        go_ret
        exact ⟨by rw [hE.out] <;> rfl, b⟩
  · have hE := Lib.hid (hno.out (fun h => h0 h.1))
    generalize codeT T = q at h0
    clear hno hyes
    go_wp2_with fail
    go_ret
    exact ⟨by rw [hE.out] <;> rfl, b⟩
end Go.Proofs.Ytohjfjcpkloigaa

/- The laws' own tables: laws.plan draws a right table, in a row of its own. -/

set_option linter.unusedVariables false
set_option linter.unusedSimpArgs false
set_option maxRecDepth 20000
namespace Go.Proofs.Ytohjfjcpkloigaa
open Go.RowKit

/-- What plan draws as the message at place j. -/
def nice (j : Nat) (m : Ms) : Prop := (7 * (j : Int) ≤ m.id ∧ m.id ≤ 7 * (j : Int) + 6) ∧ (0 ≤ m.sz ∧ m.sz ≤ 8) ∧ (700 ≤ m.pe ∧ m.pe ≤ 1650) ∧ (0 ≤ m.ji ∧ m.ji ≤ 117) ∧ m.de = m.pe ∧ (0 ≤ m.no ∧ m.no ≤ 2)
theorem nice_ok {j : Nat} {m : Ms} (h : nice j m) (hj : j ≤ 5) : mgOk m = true := by
  obtain ⟨h1, h2, h3, h4, h5, h6⟩ := h
  exact mgOk_iff.2 ⟨by omega, h2, by omega, by omega, by omega, by omega⟩
def NiceL (M : List Ms) : Prop := ∀ j, j < M.length → nice j (nthTb M j)
theorem nthTb_app {M : List Ms} {m : Ms} {j : Nat} (h : j < M.length) : nthTb (M ++ [m]) j = nthTb M j := by
  simp [nthTb, List.getD_eq_getElem?_getD, List.getElem?_append_left h]
theorem nthTb_last {M : List Ms} {m : Ms} : nthTb (M ++ [m]) M.length = m := by simp [nthTb, List.getD_eq_getElem?_getD]
theorem nthTb_set {M : List Ms} {m : Ms} {k j : Nat} (hk : k < M.length) : nthTb (M.set k m) j = if k = j then m else nthTb M j := by
  simp only [nthTb, List.getD_eq_getElem?_getD, List.getElem?_set]
  by_cases e : k = j
  · subst e; simp [hk]
  · simp [e]
theorem NiceL.app {M : List Ms} {m : Ms} (h : NiceL M) (hm : nice M.length m) : NiceL (M ++ [m]) := fun j hj => by
  rw [List.length_append, List.length_singleton] at hj
  by_cases e : j < M.length
  · rw [nthTb_app e]; exact h j e
  · obtain rfl : j = M.length := by omega
    rw [nthTb_last]; exact hm
/-- A table that plan draws. -/
structure Planned (T : List Ms) : Prop where
  len : 1 ≤ T.length ∧ T.length ≤ 5
  ok : ∀ j, j < T.length → mgOk (nthTb T j) = true
  low : ∀ j, j < T.length → (nthTb T j).id ≤ 34
  apart : ∀ i j, j < i → i < T.length → (nthTb T i).id ≠ (nthTb T j).id
  small : ∀ j, j < T.length → (nthTb T j).ji ≤ 117
theorem Planned.code {T : List Ms} (h : Planned T) : codeT T = 0 := codeT_ok ⟨h.len.1, by have := h.len.2; omega⟩ (allM_yes h.ok) (ids_nodup h.apart)
theorem planned_as {M T : List Ms} (h : NiceL M) (hl : 1 ≤ M.length ∧ M.length ≤ 5) (hT : T.length = M.length) (s : Nat → Nat) (hs : ∀ j, j < M.length → s j < M.length) (hinj : ∀ i j, i < M.length → j < M.length → s i = s j → i = j) (e : ∀ j, j < M.length → nthTb T j = nthTb M (s j)) : Planned T := by
  refine ⟨by omega, fun j hj => ?_, fun j hj => ?_, fun i j hji hi => ?_, fun j hj => ?_⟩
  · rw [e j (by omega)]
    have := hs j (by omega)
    exact nice_ok (h _ this) (by omega)
  · rw [e j (by omega)]
    have := hs j (by omega)
    have := (h _ this).1
    omega
  · rw [e i (by omega), e j (by omega)]
    have h1 := hs i (by omega)
    have h2 := hs j (by omega)
    have h3 := hinj i j (by omega) (by omega)
    have h4 := (h _ h1).1
    have h5 := (h _ h2).1
    intro h6
    have : s i ≠ s j := fun q => by have := h3 q; omega
    omega
  · rw [e j (by omega)]
    exact (h _ (hs j (by omega))).2.2.2.1.2
theorem NiceL.planned {M : List Ms} (h : NiceL M) (hl : 1 ≤ M.length ∧ M.length ≤ 5) : Planned M := planned_as h hl rfl id (fun _ h => h) (fun _ _ _ _ e => e) (fun _ _ => rfl)
theorem NiceL.swapped {M : List Ms} (h : NiceL M) (hl : 2 ≤ M.length ∧ M.length ≤ 5) : Planned ((M.set 0 (nthTb M (M.length - 1))).set (M.length - 1) (nthTb M 0)) := by
  refine planned_as h ⟨by omega, hl.2⟩ (by simp) (fun j => if j = 0 then M.length - 1 else if j = M.length - 1 then 0 else j) (fun j hj => ?_) (fun i j hi hj e => ?_) (fun j hj => ?_)
  · split
    · omega
    · split <;> omega
  · repeat' split at e
    all_goals omega
  · rw [nthTb_set (by simp; omega), nthTb_set (by omega)]
    by_cases e1 : M.length - 1 = j
    · rw [if_pos e1, if_neg (by omega), if_pos e1.symm]
    · rw [if_neg e1]
      by_cases e2 : 0 = j
      · rw [if_pos e2, if_pos e2.symm]
      · rw [if_neg e2, if_neg (fun e => e2 e.symm), if_neg (fun e => e1 e.symm)]
theorem flatT_set : ∀ {M : List Ms} {k : Nat} {m : Ms}, k < M.length → flatT (M.set k m) = (((((((flatT M).set (k * 6) (.int .i64 m.id)).set (k * 6 + 1) (.int .i64 m.sz)).set (k * 6 + 2) (.int .i64 m.pe)).set (k * 6 + 3) (.int .i64 m.ji)).set (k * 6 + 4) (.int .i64 m.de)).set (k * 6 + 5) (.int .i64 m.no))
  | x :: M, 0, m, _ => by simp [flatT]
  | x :: M, k + 1, m, h => by
    have ih := flatT_set (M := M) (k := k) (m := m) (by simpa using h)
    rw [List.set_cons_succ, flatT, ih]
    have e : ∀ r, (k + 1) * 6 + r = (mgC x).toList.length + (k * 6 + r) := fun r => by simp; omega
    have e0 : (k + 1) * 6 = (mgC x).toList.length + k * 6 := by simp; omega
    rw [flatT, e 1, e 2, e 3, e 4, e 5, e0]
    simp only [List.set_append, show ∀ n, ¬ ((mgC x).toList.length + n < (mgC x).toList.length) from fun n => by omega, if_false, Nat.add_sub_cancel_left]
/-- One cell of a message that the call owns is stored anew. -/
theorem OwnT.set {B g c k r : Nat} {M : List Ms} {w : World} {m : Ms} {x : Value} (h : OwnT B M (.slice (some ⟨g, 0, none⟩) M.length c) w) (hk : k < M.length) (e : flatT (M.set k m) = (flatT M).set (k * 6 + r) x) : OwnT B (M.set k m) (.slice (some ⟨g, 0, none⟩) (M.set k m).length c) (w.setCell ⟨g, k * 6 + r, none⟩ x) := by
  have := (World.ownsRow.stored h (k * 6 + r) x).1
  rw [← e] at this
  rw [List.length_set]
  unfold OwnT
  rw [List.length_set]
  exact this
theorem OwnT.at_ {B c : Nat} {M : List Ms} {a : Option Addr} {w : World} (h : OwnT B M (.slice a M.length c) w) (hn : 0 < M.length) : ∃ g, a = some ⟨g, 0, none⟩ ∧ B ≤ g ∧ g < w.heap.size ∧ ∀ j, w.frozen? ⟨g, j, none⟩ = false := by
  rcases h.2 with ⟨_, h0⟩ | ⟨g, cap, cur, e, _⟩
  · omega
  · simp only [Value.slice.injEq, true_and] at e
    obtain ⟨rfl, rfl⟩ := e
    exact ⟨g, rfl, (h.low rfl).1, (h.low rfl).2, fun j => World.ownsRow.frozenAt h j⟩
theorem OwnT.putM {B g c k : Nat} {M : List Ms} {w : World} {m : Ms} (h : OwnT B M (.slice (some ⟨g, 0, none⟩) M.length c) w) (hk : k < M.length) : OwnT B (M.set k m) (.slice (some ⟨g, 0, none⟩) M.length c) (putM w g k m) := by
  have := (World.ownsRow.stored (World.ownsRow.stored (World.ownsRow.stored (World.ownsRow.stored (World.ownsRow.stored (World.ownsRow.stored h (k * 6) (.int .i64 m.id)).1 (k * 6 + 1) (.int .i64 m.sz)).1 (k * 6 + 2) (.int .i64 m.pe)).1 (k * 6 + 3) (.int .i64 m.ji)).1 (k * 6 + 4) (.int .i64 m.de)).1 (k * 6 + 5) (.int .i64 m.no)).1
  rw [← flatT_set hk] at this
  unfold OwnT
  rw [List.length_set]
  exact this
/-- What stands while plan draws. -/
structure PlS (W : World) (B p : Nat) (a : Option Addr) (len cap : Nat) (M : List Ms) (v : Value) (w : World) : Prop where
  st : Dt B p a len cap w
  grown : W.grownBy w (some p)
  own : OwnT W.heap.size M v w
  pl : p < W.heap.size
section
variable {W : World} {B p : Nat} {a : Option Addr} {len cap : Nat} {M : List Ms} {v : Value} {w w' : World}
theorem PlS.thrown (F : PlS W B p a len cap M v w) (k : w.grownBy w' (some p)) (t : Dt B p a len cap w') : PlS W B p a len cap M v w' :=
  ⟨t, grown_trans F.grown k, F.own.kept k (.inr fun e => by have := (F.own.low e).1; have := F.pl; omega), F.pl⟩
theorem PlS.alloc (F : PlS W B p a len cap M v w) (o : Obj) : PlS W B p a len cap M v (w.alloc o) := F.thrown (World.grownBy_alloc w o _) (F.st.step (World.grownBy_alloc w o none) (fun k e => by cases e))
theorem PlS.other (F : PlS W B p a len cap M v w) {g : Nat} (k : w.grownBy w' (some g)) (hg : W.heap.size ≤ g) (hv : v.ownBlock ≠ some g) : PlS W B p a len cap M v w' := by
  have := F.pl
  exact ⟨F.st.step k (fun j e => by cases e; omega), grown_own F.grown k hg, F.own.kept k (.inr hv), F.pl⟩
theorem PlS.row {M' : List Ms} {v' : Value} (F : PlS W B p a len cap M v w) (own' : OwnT W.heap.size M' v' w') (k : w.grownBy w' v.ownBlock) : PlS W B p a len cap M' v' w' := by
  have h1 := F.pl
  refine ⟨F.st.step k (fun j e => by have := (F.own.low e).1; omega), ?_, own', h1⟩
  cases hv : v.ownBlock with
  | none => rw [hv] at k; exact grown_trans F.grown (grown_some k _)
  | some q => rw [hv] at k; exact grown_own F.grown k (F.own.low hv).1
end
set_option maxHeartbeats 8000000 in
/-- laws.plan. -/
theorem planT {B p : Nat} {a : Option Addr} {len cap : Nat} (W : World) (st : Dt B p a len cap W) :
    Calls Try.prog 14 #[.pointer (some ⟨p, 0, none⟩)] W fun e w' => ∃ (T : List Ms) (g c : Nat), e = .returned (.slice (some ⟨g, 0, none⟩) T.length c) ∧ Planned T ∧ PlS W B p a len cap T (.slice (some ⟨g, 0, none⟩) T.length c) w' := by
  have hpl := st.lt
  go_enter Try.func14, Try.ntmps14
  have F0 : PlS W B p a len cap [] (.slice (some ⟨W.heap.size, 0, none⟩) 0 0) (W.alloc (.cells #[] 31)) :=
    ⟨st.step (World.grownBy_alloc W _ none) (fun k e => by cases e), World.grownBy_alloc W _ _, World.ownsRow_made (base := W.heap.size) (e := 31) (size := 6) W #[] 0 (Nat.le_refl _) (Nat.zero_le _) rfl, hpl⟩
  go_upto_region 2 with fail
  generalize W.alloc _ = w0 at F0 ⊢
  generalize hv0 : Value.slice (some ⟨W.heap.size, 0, none⟩) 0 0 = v0 at F0 ⊢
  clear hv0
  go_wp2_with fail
  refine (throwAny (B := B) (a := a) (len := len) (cap := cap) 5 _ (by omega) (by omega) F0.st).mono ?_
  rintro e w1 ⟨x, x0, x1, rfl, k1, t1⟩
  replace F0 := F0.thrown k1 t1
  clear k1 t1
  have wrx : IntKind.i64.wrap (1 + x) = 1 + x := by rw [IntKind.wrap_i64]; omega
  go_wp2_with fail
  go_loopw [3, 4] (fun v n wr => ∃ (M : List Ms) (k : Nat), n = .int .i64 (k : Int) ∧ k + M.length = x.toNat + 1 ∧ NiceL M ∧ PlS W B p a len cap M v wr) (fun _ n _ => (Go.RowKit.intOf n).toNat)
  case atStart => exact ⟨[], (1 + x).toNat, by rw [show ((1 + x).toNat : Int) = 1 + x by omega], by simp; omega, fun j hj => absurd hj (Nat.not_lt_zero _), F0⟩
  case round =>
    clear F0
    obtain ⟨M, k, rfl, hk, hN, F⟩ := hrel
    have hx : x.toNat ≤ 4 := by omega
    obtain ⟨av, cv, rfl⟩ := F.own.is
    by_cases hk0 : k = 0
    · subst hk0
      have hl : 1 ≤ M.length ∧ M.length ≤ 5 := by omega
      obtain ⟨g, rfl, hg1, hg2, hfz⟩ := F.own.at_ (by omega)
      have hone : ¬ (1 : Int) < M.length → M.length = 1 := fun h => by omega
      have hpl1 := hN.planned hl
      by_cases h1 : 1 < M.length
      · have h1I : (1 : Int) < M.length := by omega
        go_wp2_with fail
        refine (throwAny (B := B) (a := a) (len := len) (cap := cap) 2 _ (by omega) (by omega) F.st).mono ?_
        rintro e w2 ⟨y, y0, y1, rfl, k1, t1⟩
        replace F := F.thrown k1 t1
        clear k1 t1
        by_cases hy : y = 0
        · subst hy
          have hsw := hN.swapped ⟨by omega, hl.2⟩
          obtain ⟨q, hq⟩ : ∃ q, M.length = q + 1 := ⟨M.length - 1, by omega⟩
          have hqq : M.length - 1 = q := by omega
          rw [hqq] at hsw
          have wrq : IntKind.i64.wrap ((M.length : Int) - 1) = (q : Int) := by rw [IntKind.wrap_i64]; omega
          have T0 := F.own.tbl (by omega)
          obtain ⟨g', o', hgo, hc⟩ := T0.2 0 (by omega)
          cases hgo
          replace hq := Lib.hid hq
          generalize hm0 : nthTb M 0 = m0 at *
          obtain ⟨id, sz, pe, ji, de, no⟩ := m0
          obtain ⟨c0, c1, c2, c3, c4, c5⟩ := hc
          simp only [Nat.zero_mul, Nat.zero_add] at c0 c1 c2 c3 c4 c5
          go_upto_region 11 with fail
          have hgm : g < w2.heap.size := (F.own.low rfl).2
          replace F := F.alloc (.cells (mgC ⟨id, sz, pe, ji, de, no⟩) 31)
          have HM := heap_alloc_new w2 (.cells (mgC ⟨id, sz, pe, ji, de, no⟩) 31)
          generalize w2.alloc _ = w3 at HM F ⊢
          generalize w2.heap.size = gm at HM hgm ⊢
          clear c0 c1 c2 c3 c4 c5 T0 hfz
          have T0 := F.own.tbl (by omega)
          obtain ⟨g', o', hgo, hc⟩ := T0.2 0 (by omega)
          cases hgo
          obtain ⟨d0, d1, d2, d3, d4, d5⟩ := hc
          simp only [Nat.zero_mul, Nat.zero_add, hm0] at d0 d1 d2 d3 d4 d5
          obtain ⟨g', o', hgo, hc⟩ := T0.2 q (by have := hq.out; omega)
          cases hgo
          generalize hmq : nthTb M q = mq at *
          obtain ⟨id', sz', pe', ji', de', no'⟩ := mq
          obtain ⟨c0, c1, c2, c3, c4, c5⟩ := hc
          simp only [Nat.zero_add] at c0 c1 c2 c3 c4 c5
          have f0 := World.ownsRow.frozenAt F.own 0
          have f1 := World.ownsRow.frozenAt F.own 1
          have f2 := World.ownsRow.frozenAt F.own 2
          have f3 := World.ownsRow.frozenAt F.own 3
          have f4 := World.ownsRow.frozenAt F.own 4
          have f5 := World.ownsRow.frozenAt F.own 5
          have hqI : (q : Int) < M.length := by have := hq.out; omega
          go_upto_region 12 with fail
          have hO := F.own.putM (k := 0) (m := ⟨id', sz', pe', ji', de', no'⟩) (by omega)
          have hG := grown_putM w3 g 0 ⟨id', sz', pe', ji', de', no'⟩
          simp only [putM, Nat.zero_mul, Nat.zero_add] at hO hG
          have HM := (hG.block gm (Array.getElem?_eq_some_iff.1 HM).1 (fun e => by cases e; exact Nat.lt_irrefl _ hgm)).trans HM
          have hsl : (M.set 0 ⟨id', sz', pe', ji', de', no'⟩).length = M.length := by simp
          replace F := F.row (M' := M.set 0 ⟨id', sz', pe', ji', de', no'⟩) hO hG
          generalize World.setCell _ _ _ = w4 at HM F ⊢
          clear hO hG c0 c1 c2 c3 c4 c5 d0 d1 d2 d3 d4 d5 f0 f1 f2 f3 f4 f5 T0
          have hF := F.own
          rw [← hsl] at hF
          have T0 := hF.tbl (by omega)
          obtain ⟨g', o', hgo, hc⟩ := T0.2 q (by have := hq.out; omega)
          cases hgo
          generalize nthTb (M.set 0 ⟨id', sz', pe', ji', de', no'⟩) q = mz at *
          obtain ⟨c0, c1, c2, c3, c4, c5⟩ := hc
          simp only [Nat.zero_add] at c0 c1 c2 c3 c4 c5
          have e0 := cell_of_row w4 gm 0 _ _ _ HM
          have e1 := cell_of_row w4 gm 1 _ _ _ HM
          have e2 := cell_of_row w4 gm 2 _ _ _ HM
          have e3 := cell_of_row w4 gm 3 _ _ _ HM
          have e4 := cell_of_row w4 gm 4 _ _ _ HM
          have e5 := cell_of_row w4 gm 5 _ _ _ HM
          simp at e0 e1 e2 e3 e4 e5
          have f0 := World.ownsRow.frozenAt hF (q * 6)
          have f1 := World.ownsRow.frozenAt hF (q * 6 + 1)
          have f2 := World.ownsRow.frozenAt hF (q * 6 + 2)
          have f3 := World.ownsRow.frozenAt hF (q * 6 + 3)
          have f4 := World.ownsRow.frozenAt hF (q * 6 + 4)
          have f5 := World.ownsRow.frozenAt hF (q * 6 + 5)
          go_wp2_with fail
          have hO := hF.putM (k := q) (m := ⟨id, sz, pe, ji, de, no⟩) (by have := hq.out; omega)
          have hG := grown_putM w4 g q ⟨id, sz, pe, ji, de, no⟩
          simp only [putM] at hO hG
          rw [hsl] at hO
          replace F := F.row hO hG
          generalize World.setCell _ _ _ = w5 at F ⊢
          have hsl2 : ((M.set 0 ⟨id', sz', pe', ji', de', no'⟩).set q ⟨id, sz, pe, ji, de, no⟩).length = M.length := by simp
          go_ret
          exact ⟨_, g, cv, by rw [hsl2]; rfl, hsw, by rw [hsl2]; exact F⟩
        · go_wp2_with fail
          go_ret
          exact ⟨M, g, cv, rfl, hpl1, F⟩
      · have h1I : ¬ (1 : Int) < M.length := by omega
        go_wp2_with fail
        go_ret
        exact ⟨M, g, cv, by rw [hone h1I]; rfl, hpl1, F⟩
    · obtain ⟨k, rfl⟩ : ∃ k', k = k' + 1 := ⟨k - 1, by omega⟩
      have hMl : M.length ≤ 4 := by omega
      have hkp : (0 : Int) < ((k + 1 : Nat) : Int) := by omega
      go_wp2_with fail
      refine (throwAny (B := B) (a := a) (len := len) (cap := cap) 7 _ (by omega) (by omega) F.st).mono ?_
      rintro e w2 ⟨x1, x10, x11, rfl, k1, t1⟩
      replace F := F.thrown k1 t1
      clear k1 t1
      have wr1 : IntKind.i64.wrap (7 * (M.length : Int)) = 7 * (M.length : Int) := by rw [IntKind.wrap_i64]; omega
      have wr2 : IntKind.i64.wrap (7 * (M.length : Int) + x1) = 7 * (M.length : Int) + x1 := by rw [IntKind.wrap_i64]; omega
      go_wp2_with fail
      refine (throwAny (B := B) (a := a) (len := len) (cap := cap) 9 _ (by omega) (by omega) F.st).mono ?_
      rintro e w3 ⟨x2, x20, x21, rfl, k1, t1⟩
      replace F := F.thrown k1 t1
      clear k1 t1
      go_wp2_with fail
      refine (throwAny (B := B) (a := a) (len := len) (cap := cap) 20 _ (by omega) (by omega) F.st).mono ?_
      rintro e w4 ⟨x3, x30, x31, rfl, k1, t1⟩
      replace F := F.thrown k1 t1
      clear k1 t1
      have wr3 : IntKind.i64.wrap (50 * x3) = 50 * x3 := by rw [IntKind.wrap_i64]; omega
      have wr4 : IntKind.i64.wrap (700 + 50 * x3) = 700 + 50 * x3 := by rw [IntKind.wrap_i64]; omega
      go_wp2_with fail
      refine (throwAny (B := B) (a := a) (len := len) (cap := cap) 3 _ (by omega) (by omega) F.st).mono ?_
      rintro e w5 ⟨x4, x40, x41, rfl, k1, t1⟩
      replace F := F.thrown k1 t1
      clear k1 t1
      go_upto_region 6 with fail
      have hgW : W.heap.size ≤ w5.heap.size := F.grown.size
      have hv : (Value.slice av M.length cv).ownBlock ≠ some w5.heap.size := fun e => by have := (F.own.low e).2; omega
      have HM := heap_alloc_new w5 (.cells (mgC ⟨7 * (M.length : Int) + x1, x2, 700 + 50 * x3, 0, 0, x4⟩) 31)
      replace F := F.alloc (.cells (mgC ⟨7 * (M.length : Int) + x1, x2, 700 + 50 * x3, 0, 0, x4⟩) 31)
      generalize w5.alloc _ = w6 at HM F ⊢
      generalize w5.heap.size = gm at HM hgW hv ⊢
      have hgp : some gm ≠ some p := fun e => by cases e; omega
      clear wr1 wr2 wr3 wr4
      go_wp2_with fail
      refine (throwAny (B := B) (a := a) (len := len) (cap := cap) 4 _ (by omega) (by omega) F.st).mono ?_
      rintro e w7 ⟨x5, x50, x51, rfl, k1, t1⟩
      replace F := F.thrown k1 t1
      replace HM := (k1.block gm (Array.getElem?_eq_some_iff.1 HM).1 hgp).trans HM
      clear k1 t1
      go_wp2_with fail
      refine (throwAny (B := B) (a := a) (len := len) (cap := cap) 40 _ (by omega) (by omega) F.st).mono ?_
      rintro e w8 ⟨x6, x60, x61, rfl, k1, t1⟩
      replace F := F.thrown k1 t1
      replace HM := (k1.block gm (Array.getElem?_eq_some_iff.1 HM).1 hgp).trans HM
      clear k1 t1
      have hml : 0 ≤ x5 * x6 ∧ x5 * x6 ≤ 3 * 39 := ⟨Int.mul_nonneg x50 x60, Int.mul_le_mul (by omega) (by omega) x60 (by omega)⟩
      have wr1 : IntKind.i64.wrap (x5 * x6) = x5 * x6 := by rw [IntKind.wrap_i64]; omega
      have f3 := frozen_of_row w8 gm 3 _ _ HM
      have e3 := cell_of_row w8 gm 3 _ _ _ HM
      simp at e3
      go_upto_region 7 with fail
      replace HM := heap_setCell_same w8 gm 3 _ _ (.int .i64 (x5 * x6)) HM
      replace F := F.other (grown_set w8 gm 3 (.int .i64 (x5 * x6))) hgW hv
      simp only [List.setIfInBounds_toArray, List.set_cons_zero, List.set_cons_succ] at HM
      generalize w8.setCell _ _ = w9 at HM F ⊢
      clear f3 e3
      have f4 := frozen_of_row w9 gm 4 _ _ HM
      have e4 := cell_of_row w9 gm 4 _ _ _ HM
      have e2 := cell_of_row w9 gm 2 _ _ _ HM
      simp at e4 e2
      go_upto_region 8 with fail
      replace HM := heap_setCell_same w9 gm 4 _ _ (.int .i64 (700 + 50 * x3)) HM
      replace F := F.other (grown_set w9 gm 4 (.int .i64 (700 + 50 * x3))) hgW hv
      simp only [List.setIfInBounds_toArray, List.set_cons_zero, List.set_cons_succ] at HM
      generalize w9.setCell _ _ = w10 at HM F ⊢
      clear f4 e4 e2
      have e0 := cell_of_row w10 gm 0 _ _ _ HM
      have e1 := cell_of_row w10 gm 1 _ _ _ HM
      have e2 := cell_of_row w10 gm 2 _ _ _ HM
      have e3 := cell_of_row w10 gm 3 _ _ _ HM
      have e4 := cell_of_row w10 gm 4 _ _ _ HM
      have e5 := cell_of_row w10 gm 5 _ _ _ HM
      simp at e0 e1 e2 e3 e4 e5
      have hni : nice M.length ⟨7 * (M.length : Int) + x1, x2, 700 + 50 * x3, x5 * x6, 700 + 50 * x3, x4⟩ := ⟨⟨by dsimp only; omega, by dsimp only; omega⟩, ⟨by dsimp only; omega, by dsimp only; omega⟩, ⟨by dsimp only; omega, by dsimp only; omega⟩, ⟨by dsimp only; omega, by dsimp only; omega⟩, rfl, by dsimp only; omega, by dsimp only; omega⟩
      have hNa := hN.app hni
      have HB := heap_alloc_new w10 (.cells (mgC ⟨7 * (M.length : Int) + x1, x2, 700 + 50 * x3, x5 * x6, 700 + 50 * x3, x4⟩) 31)
      replace F := F.alloc (.cells (mgC ⟨7 * (M.length : Int) + x1, x2, 700 + 50 * x3, x5 * x6, 700 + 50 * x3, x4⟩) 31)
      replace hN := Lib.hid hNa
      clear hni hNa
      go_wp2_with (at_builtin; refine wpList_appMg rfl _ _ rfl W.heap.size M ⟨7 * (M.length : Int) + x1, x2, 700 + 50 * x3, x5 * x6, 700 + 50 * x3, x4⟩ _ rfl F.own w10.heap.size 1 rfl HB (by omega) F.grown.size ?_; intro av2 cv2 w11 O3 g3)
      replace F := F.row O3 g3
      go_roundw
      case rel => exact ⟨M ++ [_], k, by go_num, by simp; omega, hN.out, F⟩
      case measure => simp [Go.RowKit.intOf]
end Go.Proofs.Ytohjfjcpkloigaa
