/- Rows of int64 that the call owns: another list appended, or nothing; a row of messages: another one appended. -/
import Derived.Test.YtohjfjcpkloigaaM13
import Derived.Test.YtohjfjcpkloigaaM15
import Derived.Deep.Upon

set_option linter.unusedVariables false
set_option linter.unusedSimpArgs false
set_option maxRecDepth 20000
namespace Go.Proofs.Ytohjfjcpkloigaa
open Go.RowKit

theorem under64 : Try.prog.underlying 36 = some (.slice 2) := Try.underlying36
/-- Nothing is appended: all stays. -/
theorem append_no64 {B k : Nat} {xs : List Value} {v : Value} {w : World} (h : w.ownsRow B 2 1 v k xs) (ae : Option Addr) (ce : Nat) (ty : TypeId) :
    (Builtin.append_ #[36, 36] ty #[v, .slice ae 0 ce]).run Try.prog w = .ok v w := by
  obtain ⟨i0, hi1, hz0, hz1, hz2⟩ := info_parts info64
  rcases h.2 with ⟨rfl, rfl⟩ | ⟨g, cap, cur, rfl, hb, hg, hle, hm, hcs, htk⟩
  · cases ae <;> simp [Builtin.append_, run_underlying under64, sizeOf, typeInfo, hi1, Builtin.lenOf, Builtin.firstCells, loadCells, loadCellsFrom]
  · cases ae with
    | none =>
      have := run_append_room_src (P := Try.prog) (w := w) 36 36 ty 2 i0 under64 hi1 g 0 k cap (.slice none 0 ce) 0 [] (Src.ofNil w under64 ce) (by omega) (by simp) (by simp)
      simpa [World.setCells] using this
    | some ad =>
      have := run_append_room_src (P := Try.prog) (w := w) 36 36 ty 2 i0 under64 hi1 g 0 k cap (.slice (some ad) 0 ce) 0 [] (Src.ofSlice w under64 ad 0 ce [] (by simp) (by simp) (by simp)) (by omega) (by simp) (by simp)
      simpa [World.setCells] using this
theorem wpList_gi {ops : Array Oper} {rest : List Oper} {p : Oper} {a : Act} {w : World} {Q : Exit → Act → World → Prop} (hgd : p.guard = none) (h : p.wp Try.prog a w (wpList Try.prog ops Q rest) Q) : wpList Try.prog ops Q (p :: rest) a w := by
  unfold wpList
  rw [if_pos (by simp [Region.wanted, hgd])]
  exact .inl h
theorem wpList_wa {ops : Array Oper} {rest : List Oper} {p : Oper} {a : Act} {w : World} {Q : Exit → Act → World → Prop} (hw : Region.wanted p (yielded ops a.tmps) = true) (h : p.wp Try.prog a w (wpList Try.prog ops Q rest) Q) : wpList Try.prog ops Q (p :: rest) a w := by
  unfold wpList
  rw [if_pos hw]
  exact .inl h
theorem OwnI.fresh (w : World) (B : Nat) (h : B ≤ w.heap.size) : OwnI B [] (.slice (some ⟨w.heap.size, 0, none⟩) 0 0) (w.alloc (.cells #[] 2)) :=
  ⟨World.ownsRow_made (base := B) (e := 2) (size := 1) w #[] 0 h (Nat.zero_le _) rfl, fun x hx => by cases hx⟩
/-- 'append' of another list. -/
theorem wpOp_app64 {p : Oper} {a : Act} {w : World} {K : Act → World → Prop} {Q : Exit → Act → World → Prop} (s x : Operand)
    (ho : p.op = .call { callee := .builtin .append, args := #[s, x], argTypes := #[36, 36] })
    (Bn : Nat) (D E : List Int) (v : Value) (hs : a.eval s = v) (hown : OwnI Bn D v w) (ax : Option Addr) (cx : Nat) (hx : a.eval x = .slice ax E.length cx) (hn : Nums ax E w)
    (hD : D.length ≤ 1000000) (hE : E.length ≤ 1000000) (hB : Bn ≤ w.heap.size)
    (h : ∀ av cv w', OwnI Bn (D ++ E) (.slice av (D.length + E.length) cv) w' → w.grownBy w' v.ownBlock → K (a.put p.dst (.slice av (D.length + E.length) cv)) w') : p.wp Try.prog a w K Q := by
  by_cases h0 : E.length = 0
  · have hE0 : E = [] := List.length_eq_zero_iff.1 h0
    subst hE0
    obtain ⟨av, cv, rfl, _⟩ := hown.nums
    refine value_wp (.slice av D.length cv) w (by simp [execOp, ho, resolve, invoke, builtin, hs, hx, append_no64 hown.1 ax cx, Result.andThen]) ?_
    have := h av cv w (by rw [List.append_nil, List.length_nil, Nat.add_zero]; exact hown) ⟨rfl, rfl, rfl, Nat.le_refl _, fun _ _ _ => rfl⟩
    rw [List.length_nil, Nat.add_zero] at this
    exact this
  · obtain ⟨g, o, rfl, hc0⟩ := hn.2.2 0 (by omega)
    obtain ⟨i0, hi1, hz0, hz1, hz2⟩ := info_parts info64
    obtain ⟨v', w', hrun, r1, r2, -⟩ := run_append_own (P := Try.prog) (w := w) Bn 36 p.type 2 i0 (.int .i64 0) 1 8 Try.underlying36 hi1 hz0 hz1 hz2 rfl (by decide) v D.length (D.map (Value.int .i64)) hown.1 ⟨g, o, none⟩ E.length cx (E.map (Value.int .i64)) (by simp)
      (fun j u hu => by
        have hj : j < E.length := by
          rcases Nat.lt_or_ge j E.length with h | h
          · exact h
          · rw [List.getElem?_eq_none (by simpa using h)] at hu; cases hu
        obtain ⟨g', o', he, hc⟩ := hn.2.2 j hj
        cases he
        have hadd : (⟨g, o, none⟩ : Addr).add j = ⟨g, o + j, none⟩ := by unfold Addr.add; split <;> simp_all
        rw [hadd, hc]
        simp only [List.getElem?_map, List.getElem?_eq_getElem hj, Option.map_some, Option.some.injEq] at hu
        rw [← hu]
        simp [nth, List.getD_eq_getElem?_getD, hj])
      (fun u hu => by obtain ⟨y, _, rfl⟩ := List.mem_map.1 hu; rfl) (by unfold maxLen; omega) (by omega) hB
    have hown' : OwnI Bn (D ++ E) v' w' := by
      refine ⟨?_, ?_⟩
      · rw [List.length_append, List.map_append]; exact r1
      · intro y hy
        rcases List.mem_append.1 hy with hy | hy
        · exact hown.2 y hy
        · exact hn.2.1 y hy
    obtain ⟨av, cv, rfl, _⟩ := hown'.nums
    rw [List.length_append] at hown' hrun
    exact value_wp _ w' (by simp [execOp, ho, resolve, invoke, builtin, hs, hx, hrun, Result.andThen]) (h av cv w' hown' r2)
/-- A copy: 'append' to an empty list. -/
theorem wpOp_copy64 {p : Oper} {a : Act} {w : World} {K : Act → World → Prop} {Q : Exit → Act → World → Prop} (s x : Operand)
    (ho : p.op = .call { callee := .builtin .append, args := #[s, x], argTypes := #[36, 36] })
    (Bn : Nat) (E : List Int) (v : Value) (hs : a.eval s = v) (hown : OwnI Bn [] v w) (ax : Option Addr) (cx : Nat) (hx : a.eval x = .slice ax E.length cx) (hn : Nums ax E w)
    (hE : E.length ≤ 1000000) (hB : Bn ≤ w.heap.size)
    (h : ∀ av cv w', OwnI Bn E (.slice av E.length cv) w' → w.grownBy w' v.ownBlock → K (a.put p.dst (.slice av E.length cv)) w') : p.wp Try.prog a w K Q :=
  wpOp_app64 s x ho Bn [] E v hs hown ax cx hx hn (Nat.zero_le _) hE hB fun av cv w' h1 h2 => by
    rw [List.nil_append, List.length_nil, Nat.zero_add] at h1
    have := h av cv w' h1 h2
    rwa [List.length_nil, Nat.zero_add]
theorem Nums.one {x : Int} (w : World) (T : TypeId) (h : (Lit.int .i64 x).wf = true) : Nums (some ⟨w.heap.size, 0, none⟩) [x] (w.alloc (.cells #[.int .i64 x] T)) :=
  ⟨by simp [maxLen], fun y hy => by simp at hy; subst hy; exact h, fun j hj => ⟨w.heap.size, 0, rfl, by
    obtain rfl : j = 0 := by simpa using hj
    exact World.cell?_alloc_at _ _ _ _ rfl⟩⟩
/-- One number is appended. -/
theorem wpOp_one64 {p : Oper} {a : Act} {W w : World} {K : Act → World → Prop} {Q : Exit → Act → World → Prop} (s x : Operand) (z : Int)
    (ho : p.op = .call { callee := .builtin .append, args := #[s, x], argTypes := #[36, 36] }) (hw : w = W.alloc (.cells #[.int .i64 z] 2))
    (Bn : Nat) (D : List Int) (v : Value) (hs : a.eval s = v) (hown : OwnI Bn D v W) (cx : Nat) (hx : a.eval x = .slice (some ⟨W.heap.size, 0, none⟩) 1 cx) (hz : (Lit.int .i64 z).wf = true)
    (hD : D.length ≤ 1000000) (hB : Bn ≤ W.heap.size)
    (h : ∀ av cv w', OwnI Bn (D ++ [z]) (.slice av (D.length + 1) cv) w' → w.grownBy w' v.ownBlock → K (a.put p.dst (.slice av (D.length + 1) cv)) w') : p.wp Try.prog a w K Q := by
  subst hw
  exact wpOp_app64 s x ho Bn D [z] v hs (hown.kept (World.grownBy_alloc W _ none) (Classical.em _)) _ cx hx (Nums.one W _ hz) hD (by simp) (by simp; omega) h
theorem flatT_one' : ∀ {N : List Ms} (u : Value), u ∈ flatT N → u.oneCell' = true
  | [], u, h => by cases h
  | m :: N, u, h => by
    rcases List.mem_append.1 h with h | h
    · simp at h; rcases h with rfl | rfl | rfl | rfl | rfl | rfl <;> rfl
    · exact flatT_one' u h
theorem Tbl.flat {g o : Nat} {N : List Ms} {w : World} (h : Tbl (some ⟨g, o, none⟩) N w) {j : Nat} (hj : j < N.length * 6) : w.cell? ⟨g, o + j, none⟩ = (flatT N)[j]? := by
  have hq : j / 6 < N.length := by omega
  obtain ⟨g', o', he, c0, c1, c2, c3, c4, c5⟩ := h.2 (j / 6) hq
  cases he
  have e : j = j / 6 * 6 + j % 6 := by omega
  have hr : j % 6 < 6 := by omega
  rw [e, flatT_get hq hr, ← Nat.add_assoc]
  generalize j / 6 = q at *
  have hr' : j % 6 = 0 ∨ j % 6 = 1 ∨ j % 6 = 2 ∨ j % 6 = 3 ∨ j % 6 = 4 ∨ j % 6 = 5 := by omega
  rcases hr' with h | h | h | h | h | h <;> rw [h]
  · exact c0
  · exact c1
  · exact c2
  · exact c3
  · exact c4
  · exact c5
/-- 'append' of a whole list of messages, none empty. -/
theorem wpOp_appMs {p : Oper} {a : Act} {w : World} {K : Act → World → Prop} {Q : Exit → Act → World → Prop} (s x : Operand)
    (ho : p.op = .call { callee := .builtin .append, args := #[s, x], argTypes := #[27, 27] })
    (Bn : Nat) (M N : List Ms) (v : Value) (hs : a.eval s = v) (hown : OwnT Bn M v w) (g o cx : Nat) (hx : a.eval x = .slice (some ⟨g, o, none⟩) N.length cx) (hn : Tbl (some ⟨g, o, none⟩) N w)
    (hM : M.length ≤ 1000000) (hN : N.length ≤ 900000) (hB : Bn ≤ w.heap.size)
    (h : ∀ av cv w', OwnT Bn (M ++ N) (.slice av (M.length + N.length) cv) w' → w.grownBy w' v.ownBlock → K (a.put p.dst (.slice av (M.length + N.length) cv)) w') : p.wp Try.prog a w K Q := by
  obtain ⟨i0, hi1, hz0, hz1, hz2⟩ := info_parts infoMsg6
  obtain ⟨v', w', hrun, r1, r2, -⟩ := run_append_own (P := Try.prog) (w := w) Bn 27 p.type 31 i0 (.agg #[.int .i64 0, .int .i64 0, .int .i64 0, .int .i64 0, .int .i64 0, .int .i64 0]) 6 48 Try.underlying27 hi1 hz0 hz1 hz2 rfl (by decide) v M.length (flatT M) hown ⟨g, o, none⟩ N.length cx (flatT N) (flatT_len N)
    (fun j u hu => by
      have hj : j < N.length * 6 := by
        rcases Nat.lt_or_ge j (N.length * 6) with h | h
        · exact h
        · rw [List.getElem?_eq_none (by rw [flatT_len]; exact h)] at hu; cases hu
      have hadd : (⟨g, o, none⟩ : Addr).add j = ⟨g, o + j, none⟩ := by unfold Addr.add; split <;> simp_all
      rw [hadd, hn.flat hj]
      exact hu)
    (fun u hu => flatT_one' u hu) (by unfold maxLen; omega) (by omega) hB
  have hown' : OwnT Bn (M ++ N) v' w' := by
    unfold OwnT
    rw [List.length_append, flatT_app]
    exact r1
  obtain ⟨av, cv, rfl⟩ := hown'.is
  rw [List.length_append] at hown' hrun
  exact value_wp _ w' (by simp [execOp, ho, resolve, invoke, builtin, hs, hx, hrun, Result.andThen]) (h av cv w' hown' r2)
end Go.Proofs.Ytohjfjcpkloigaa
