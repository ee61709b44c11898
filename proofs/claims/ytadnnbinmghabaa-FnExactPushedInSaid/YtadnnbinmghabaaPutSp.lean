/- spec.PutIn. -/
import Derived.Test.YtadnnbinmghabaaPutS
import Derived.Test.YtadnnbinmghabaaSplice
import Derived.Deep.RegionLaw
set_option linter.unusedVariables false
set_option linter.unusedSimpArgs false
set_option maxRecDepth 20000
namespace Go.Proofs.Ytadnnbinmghabaa
open Go.RowKit

theorem flatF_takes {M : List (Frm × Value)} {p : Nat} (hp : p ≤ M.length) : (flatF M).take (p * 4) = flatF (M.take p) := by
  conv => lhs; rw [← List.take_append_drop p M, flatF_append]
  have hl : (flatF (M.take p)).length = p * 4 := by rw [flatF_len, List.length_take, Nat.min_eq_left hp]
  rw [List.take_append_of_le_length (by omega), List.take_of_length_le (by omega)]
theorem OwnF.take {B g c p : Nat} {M : List (Frm × Value)} {w : World} (h : OwnF B M (.slice (some ⟨g, 0, none⟩) M.length c) w) (hp : p ≤ M.length) : OwnF B (M.take p) (.slice (some ⟨g, 0, none⟩) p c) w := by
  have hl : (M.take p).length = p := by simp; omega
  refine ⟨⟨flatF_len _, ?_⟩, fun m hm => h.2 m (List.mem_of_mem_take hm)⟩
  rw [hl]
  rcases h.1.2 with ⟨e, _⟩ | ⟨g', cap, cur, e, hb, hg, h1, h2, h3, h4⟩
  · cases e
  · cases e
    refine .inr ⟨g, c, cur, rfl, hb, hg, by omega, h2, h3, ?_⟩
    rw [← flatF_takes hp, ← h4, List.take_take]
    congr 1
    omega
theorem OwnF.putAt {B g c j : Nat} {M : List (Frm × Value)} {w : World} {id : Int} {rm : Bool} {ln : Int} {D : List Int} {dv : Value} (h : OwnF B M (.slice (some ⟨g, 0, none⟩) M.length c) w) (hj : j < M.length) (ho : OwnI B D dv w) :
    OwnF B (M.set j (⟨id, rm, ln, D⟩, dv)) (.slice (some ⟨g, 0, none⟩) M.length c) (putF g j id rm ln dv w) := by
  have k := putF_grown g j id rm ln dv w
  refine ⟨?_, fun m hm => ?_⟩
  · rw [List.length_set, ← flatF_set M j (⟨id, rm, ln, D⟩, dv) hj]
    exact ((((h.1.stored _ _).1.stored _ _).1.stored _ _).1.stored _ _).1
  · rcases List.mem_or_eq_of_mem_set hm with hm | rfl
    · exact (h.2 m hm).kept k (OwnI.ne_row h (h.2 m hm))
    · exact ho.kept k (OwnI.ne_row h ho)
theorem map_set {M : List (Frm × Value)} {L : List Frm} {j : Nat} {f : Frm} {dv : Value} (h : (M.map fun m => m.1) = L) (hj : j < L.length) : ((M.set j (f, dv)).map fun m => m.1) = splL L j (j + 1) [f] := by
  rw [List.map_set, h, List.set_eq_take_append_cons_drop, if_pos hj]; rfl
/-- What spec.PutIn leaves. -/
def PutO (R : List Frm × Int) (w : World) (e : Ending) (w' : World) : Prop :=
  ∃ (M : List (Frm × Value)) (g c : Nat), e = .returned (.tuple #[.slice (some ⟨g, 0, none⟩) R.1.length c, .int .i64 R.2]) ∧ (M.map fun m => m.1) = R.1 ∧ OwnF w.heap.size M (.slice (some ⟨g, 0, none⟩) R.1.length c) w' ∧ Below w.heap.size w w'

/-- Frames appended to a row of the call's own: their data are rows of its own, too. -/
theorem run_appX (w : World) (ty : TypeId) (B : Nat) (M X : List (Frm × Value)) (v : Value) (h : OwnF B M v w) (ad : Addr) (m c : Nat) (hX : X.length = m) (hnews : ∀ j u, (flatF X)[j]? = some u → w.cell? (ad.add j) = some u) (hd : ∀ x ∈ X, OwnI B x.1.D x.2 w)
    (hv : v ≠ .slice none 0 0) (hsz : M.length + m ≤ 1000000) (hB : B ≤ w.heap.size) :
    ∃ g c' w', (Builtin.append_ #[31, 31] ty #[v, .slice (some ad) m c]).run Try.prog w = .ok (.slice (some ⟨g, 0, none⟩) (M.length + m) c') w' ∧ OwnF B (M ++ X) (.slice (some ⟨g, 0, none⟩) (M.length + m) c') w' ∧ w.grownBy w' v.ownBlock := by
  obtain ⟨i0, hi, hz0, hz1, hz2⟩ := info_parts infoF
  obtain ⟨v', w', hr, h2, h3, h4⟩ := run_append_own (P := Try.prog) w B 31 ty 34 i0 (.agg #[.int .i64 0, .bool false, .int .i64 0, .slice none 0 0]) 4 48 Try.underlying31 hi hz0 hz1 hz2 rfl (by decide) v M.length (flatF M) h.1 ad m c (flatF X) (by rw [flatF_len, hX]) hnews
    (fun u hu => by
      simp only [flatF, List.mem_flatMap] at hu
      obtain ⟨x, hx, hu⟩ := hu
      obtain ⟨ad, c, e, -⟩ := (hd x hx).nums
      simp at hu
      rcases hu with rfl | rfl | rfl | rfl
      · rfl
      · rfl
      · rfl
      · rw [e]; rfl) (by unfold maxLen; omega) (by omega) hB
  have hown : OwnF B (M ++ X) v' w' := by
    refine ⟨by rw [flatF_append, List.length_append, hX]; exact h2, fun x hx => ?_⟩
    rcases List.mem_append.1 hx with hx | hx
    · exact (h.2 x hx).kept h3 (OwnI.ne_row h (h.2 x hx))
    · exact (hd x hx).kept h3 (OwnI.ne_row h (hd x hx))
  rcases h2.2 with ⟨e, -⟩ | ⟨g, cap, cur, e, _⟩
  · exact absurd (h4.1 e).1 hv
  · subst e
    exact ⟨g, cap, w', hr, hown, h3⟩
theorem step_appX {ops : Array Oper} {o : Oper} {a : Act} {w : World} {K : Act → World → Prop} {Q : Exit → Act → World → Prop} {E : Prop} (hgd : o.guard = none) (s x : Operand)
    (ho : o.op = .call { callee := .builtin .append, args := #[s, x], argTypes := #[31, 31] })
    (B : Nat) (M X : List (Frm × Value)) (v : Value) (hs : a.eval s = v) (h : OwnF B M v w) (ad : Addr) (m c : Nat) (hx : a.eval x = .slice (some ad) m c) (hX : X.length = m) (hnews : ∀ j u, (flatF X)[j]? = some u → w.cell? (ad.add j) = some u) (hd : ∀ x ∈ X, OwnI B x.1.D x.2 w)
    (hv : v ≠ .slice none 0 0) (hsz : M.length + m ≤ 1000000) (hB : B ≤ w.heap.size)
    (hK : ∀ g c' w', OwnF B (M ++ X) (.slice (some ⟨g, 0, none⟩) (M.length + m) c') w' → w.grownBy w' v.ownBlock → K (a.put o.dst (.slice (some ⟨g, 0, none⟩) (M.length + m) c')) w') :
    if Region.wanted o (yielded ops a.tmps) = true then Oper.wp Try.prog o a w K Q else E := by
  have hw : Region.wanted o (yielded ops a.tmps) = true := by simp [Region.wanted, hgd]
  rw [if_pos hw]
  obtain ⟨g, c', w', hr, h2, h3⟩ := run_appX w o.type B M X v h ad m c hX hnews hd hv hsz hB
  unfold Oper.wp
  simp [execOp, ho, resolve, invoke, builtin, hs, hx, hr, Result.andThen]
  exact hK g c' w' h2 h3
theorem wpList_appX {ops : Array Oper} {rest : List Oper} {p : Oper} {a : Act} {w : World} {Q : Exit → Act → World → Prop} (hgd : p.guard = none) (s x : Operand)
    (ho : p.op = .call { callee := .builtin .append, args := #[s, x], argTypes := #[31, 31] })
    (B : Nat) (M X : List (Frm × Value)) (v : Value) (hs : a.eval s = v) (h : OwnF B M v w) (ad : Addr) (m c : Nat) (hx : a.eval x = .slice (some ad) m c) (hX : X.length = m) (hnews : ∀ j u, (flatF X)[j]? = some u → w.cell? (ad.add j) = some u) (hd : ∀ x ∈ X, OwnI B x.1.D x.2 w)
    (hv : v ≠ .slice none 0 0) (hsz : M.length + m ≤ 1000000) (hB : B ≤ w.heap.size)
    (hK : ∀ g c' w', OwnF B (M ++ X) (.slice (some ⟨g, 0, none⟩) (M.length + m) c') w' → w.grownBy w' v.ownBlock → wpList Try.prog ops Q rest (a.put p.dst (.slice (some ⟨g, 0, none⟩) (M.length + m) c')) w') : wpList Try.prog ops Q (p :: rest) a w := by
  obtain ⟨g, c', w', hr, h2, h3⟩ := run_appX w p.type B M X v h ad m c hX hnews hd hv hsz hB
  refine wpList_plain hgd fun K hK' => ?_
  unfold Oper.wp
  simp [execOp, ho, resolve, invoke, builtin, hs, hx, hr, Result.andThen]
  exact hK' _ _ (hK g c' w' h2 h3)

end Go.Proofs.Ytadnnbinmghabaa
