/- impl.spliced: the box with a frame, or none, in the place of some of it: its frames in the answer's own rows. -/
import Derived.Test.YtngcekegngmedaaGreatM16
import Derived.Test.YtngcekegngmedaaGreatM3
import Derived.ArgAppend
import Derived.Deep.Slices
import Derived.Deep.Upon
import Derived.Test.YtngcekegngmedaaGreatM15
import Derived.Deep.RegionLaw
import Derived.Test.YtngcekegngmedaaGreatM4
import Derived.Test.YtngcekegngmedaaGreatM14
import Derived.Test.YtngcekegngmedaaGreatM13
import Derived.Test.YtngcekegngmedaaGreatM12
import Derived.Deep.DeepCutAuto
import Derived.Deep.CutRange
import Derived.Laws.CopyRow
import Derived.Laws.CopyOwn

set_option linter.unusedVariables false
set_option linter.unusedSimpArgs false
set_option maxRecDepth 20000
namespace Go.Proofs.YtngcekegngmedaaGreat
open Go.RowKit

theorem flatF_append (A B : List (Frm × Value)) : flatF (A ++ B) = flatF A ++ flatF B := by simp [flatF]
theorem flatF_take {M : List (Frm × Value)} {p j : Nat} {u : Value} (h : (flatF (M.take p))[j]? = some u) : (flatF M)[j]? = some u := by
  conv => lhs; rw [← List.take_append_drop p M, flatF_append]
  have hj := (List.getElem?_eq_some_iff.1 h).1
  rw [List.getElem?_append_left hj, h]
theorem flatF_drop {M : List (Frm × Value)} {q j : Nat} {u : Value} (hq : q ≤ M.length) (h : (flatF (M.drop q))[j]? = some u) : (flatF M)[q * 4 + j]? = some u := by
  conv => lhs; rw [← List.take_append_drop q M, flatF_append]
  have hl : (flatF (M.take q)).length = q * 4 := by rw [flatF_len, List.length_take, Nat.min_eq_left hq]
  rw [List.getElem?_append_right (by omega), hl, Nat.add_sub_cancel_left, h]
/-- The data of each frame can be read. -/
def Dat (M : List (Frm × Value)) (w : World) : Prop := ∀ m ∈ M, ∃ ad c, m.2 = .slice ad m.1.D.length c ∧ Nums ad m.1.D w
theorem Dat.below {M : List (Frm × Value)} {w w' : World} (h : Dat M w) (b : Below w.heap.size w w') : Dat M w' := fun m hm => by
  obtain ⟨ad, c, e, hn⟩ := h m hm
  exact ⟨ad, c, e, hn.below b⟩
theorem Dat.one {M : List (Frm × Value)} {w : World} (h : Dat M w) : ∀ u ∈ flatF M, u.oneCell' = true := by
  intro u hu
  simp only [flatF, List.mem_flatMap] at hu
  obtain ⟨m, hm, hu⟩ := hu
  obtain ⟨ad, c, e, -⟩ := h m hm
  simp at hu
  rcases hu with rfl | rfl | rfl | rfl
  · rfl
  · rfl
  · rfl
  · rw [e]; rfl
/-- A slice of frames with an address, cell by cell. -/
theorem Frs.flat {g o : Nat} {L : List Frm} {w : World} (h : Frs (some ⟨g, o, none⟩) L w) :
    ∃ M : List (Frm × Value), (M.map fun m => m.1) = L ∧ Dat M w ∧ ∀ j u, (flatF M)[j]? = some u → w.cell? ⟨g, o + j, none⟩ = some u := by
  obtain ⟨f, hf⟩ := Go.Deep.choose_lt (α := Value) (p := fun j v => ∃ ad c, v = .slice ad (nthF L j).D.length c ∧ FrC g (o + j * 4) ad c (nthF L j) w) (n := L.length) (fun j hj => by
    obtain ⟨g', o', ad, c, e, hc⟩ := h.2 j hj
    cases e
    exact ⟨_, ad, c, rfl, hc⟩)
  have hml : ((List.range L.length).map fun j => (nthF L j, f j)).length = L.length := by simp
  have hel : ∀ j (hj : j < ((List.range L.length).map fun j => (nthF L j, f j)).length), ((List.range L.length).map fun j => (nthF L j, f j))[j] = (nthF L j, f j) := by intro j hj; simp
  generalize (List.range L.length).map (fun j => (nthF L j, f j)) = M at hml hel
  refine ⟨M, ?_, fun m hm => ?_, fun j u hu => ?_⟩
  · apply List.ext_getElem?
    intro j
    by_cases hj : j < L.length
    · have hj2 : j < M.length := by omega
      rw [List.getElem?_eq_getElem (by simpa using hj2), List.getElem?_eq_getElem hj, List.getElem_map, hel j hj2]
      simp [nthF, List.getD_eq_getElem?_getD, hj]
    · rw [List.getElem?_eq_none (by simp; omega), List.getElem?_eq_none (by omega)]
  · obtain ⟨i, hi, rfl⟩ := List.mem_iff_getElem.1 hm
    rw [hel i hi]
    obtain ⟨ad, c, e, hc⟩ := hf i (by omega)
    exact ⟨ad, c, e, hc.2⟩
  · have hj : j < M.length * 4 := by
      have := (List.getElem?_eq_some_iff.1 hu).1
      rw [flatF_len] at this
      exact this
    have hi : j / 4 < M.length := by omega
    obtain ⟨f0, f1, f2, f3⟩ := flatF_at M (j / 4) hi
    obtain ⟨ad, c, e, ⟨c0, c1, c2, c3⟩, _⟩ := hf (j / 4) (by omega)
    rw [hel _ hi] at f0 f1 f2 f3
    have hcase : j = j / 4 * 4 ∨ j = j / 4 * 4 + 1 ∨ j = j / 4 * 4 + 2 ∨ j = j / 4 * 4 + 3 := by omega
    rcases hcase with hc | hc | hc | hc <;> rw [hc] at hu ⊢
    · rw [f0] at hu; cases hu; exact c0
    · rw [f1] at hu; cases hu; exact c1
    · rw [f2] at hu; cases hu; exact c2
    · rw [f3] at hu; cases hu; rw [e]; exact c3
/-- The slice v, in a row made from block B on, bears these frames' cells. -/
def RowOf (B : Nat) (v : Value) (M : List (Frm × Value)) (w : World) : Prop := w.ownsRow B 40 4 v M.length (flatF M)
/-- A row of the call's own whose frames' data can be read. -/
theorem row_frs {B : Nat} {M : List (Frm × Value)} {v : Value} {w : World} (h : RowOf B v M w) (hd : Dat M w) (hm : M.length ≤ 2000000) : ∃ a c, v = .slice a M.length c ∧ Frs a (M.map fun m => m.1) w := by
  rcases h.2 with ⟨rfl, hn⟩ | ⟨g, cap, cur, rfl, hrest⟩
  · have e : M = [] := List.length_eq_zero_iff.1 hn
    subst e
    exact ⟨none, 0, rfl, by simp, fun j hj => by simp at hj⟩
  · refine ⟨_, cap, rfl, by simp [maxLen]; omega, fun j hj => ?_⟩
    have hj' : j < M.length := by simpa using hj
    have e : nthF (M.map fun m => m.1) j = M[j].1 := by simp [nthF, List.getD_eq_getElem?_getD, hj']
    rw [e]
    obtain ⟨ad, c, hv, hn⟩ := hd M[j] (List.getElem_mem hj')
    obtain ⟨f0, f1, f2, f3⟩ := flatF_at M j hj'
    rw [hv] at f3
    refine ⟨g, 0, ad, c, rfl, ⟨?_, ?_, ?_, ?_⟩, hn⟩ <;> rw [Nat.zero_add, World.ownsRow.cellAt h _ (by omega)] <;> assumption
theorem map_take_drop {M : List (Frm × Value)} {L : List Frm} (h : (M.map fun m => m.1) = L) (p q : Nat) (X : List (Frm × Value)) : ((M.take p ++ (X ++ M.drop q)).map fun m => m.1) = splL L p q (X.map fun m => m.1) := by
  subst h; simp [splL]

/-- 'append' of frames, where there is no room: a new row. -/
theorem wpList_growF {ops : Array Oper} {rest : List Oper} {p : Oper} {a : Act} {w : World} {Q : Exit → Act → World → Prop} (hgd : p.guard = none) (s x : Operand)
    (ho : p.op = .call { callee := .builtin .append, args := #[s, x], argTypes := #[43, 43] })
    (A X : List (Frm × Value)) (ao : Option Addr) (n c : Nat) (hA : A.length = n) (hs : a.eval s = .slice ao n c) (hnone : ao = none → n = 0 ∧ c = 0) (holds : ∀ b, ao = some b → ∀ j u, (flatF A)[j]? = some u → w.cell? (b.add j) = some u)
    (ad : Addr) (m c1 : Nat) (hX : X.length = m) (hx : a.eval x = .slice (some ad) m c1) (hnews : ∀ j u, (flatF X)[j]? = some u → w.cell? (ad.add j) = some u) (hd : Dat A w) (hdx : Dat X w)
    (hfull : c < n + m) (hsz : n + m ≤ 1000000)
    (h : ∀ v w', RowOf w.heap.size v (A ++ X) w' → Dat (A ++ X) w' → Below w.heap.size w w' → wpList Tryz.prog ops Q rest (a.put p.dst v) w') : wpList Tryz.prog ops Q (p :: rest) a w := by
  obtain ⟨i0, hi, hz0, hz1, hz2⟩ := info_parts infoF
  refine wpList_append_grows w hgd s x 43 ho 40 i0 (.agg #[.int .i64 0, .bool false, .int .i64 0, .slice none 0 0]) 4 48 Tryz.underlying43 hi hz0 hz1 hz2 rfl (by decide) ao n c (flatF A) hs hnone (by rw [flatF_len, hA]) holds
    ad m c1 (flatF X) hx (by rw [flatF_len, hX]) hnews hdx.one hfull (by unfold maxLen; omega) (by omega) ?_
  intro v w' h2 h3
  have b := below_new h3
  refine h v w' (by unfold RowOf; rw [flatF_append, List.length_append, hA, hX]; exact h2) (fun m hm => ?_) b
  rcases List.mem_append.1 hm with hm | hm
  · exact (hd.below b) m hm
  · exact (hdx.below b) m hm
/-- 'append' of frames to a row of the call's own. -/
theorem wpList_ownF {ops : Array Oper} {rest : List Oper} {p : Oper} {a : Act} {w : World} {Q : Exit → Act → World → Prop} (hgd : p.guard = none) (s x : Operand)
    (ho : p.op = .call { callee := .builtin .append, args := #[s, x], argTypes := #[43, 43] })
    (B : Nat) (A X : List (Frm × Value)) (vo : Value) (hs : a.eval s = vo) (hown : RowOf B vo A w) (ad : Addr) (m c1 : Nat) (hX : X.length = m) (hx : a.eval x = .slice (some ad) m c1) (hnews : ∀ j u, (flatF X)[j]? = some u → w.cell? (ad.add j) = some u)
    (W0 : World) (hW0 : W0.heap.size ≤ B) (hB : B ≤ w.heap.size) (b : Below W0.heap.size W0 w) (hd : Dat A W0) (hdx : Dat X W0) (hsz : A.length + m ≤ 1000000)
    (h : ∀ v w', RowOf B v (A ++ X) w' → Dat (A ++ X) w' → Below W0.heap.size W0 w' → (v = .slice none 0 0 → vo = .slice none 0 0) → wpList Tryz.prog ops Q rest (a.put p.dst v) w') : wpList Tryz.prog ops Q (p :: rest) a w := by
  obtain ⟨i0, hi, hz0, hz1, hz2⟩ := info_parts infoF
  refine wpList_append_own _ hgd s x 43 ho B 40 i0 (.agg #[.int .i64 0, .bool false, .int .i64 0, .slice none 0 0]) 4 48 Tryz.underlying43 hi hz0 hz1 hz2 rfl (by decide) vo A.length (flatF A) hs hown ad m c1 (flatF X) hx (by rw [flatF_len, hX]) hnews hdx.one (by unfold maxLen; omega) (by omega) hB ?_
  intro v' w' h2 h3 h4
  have b' := b.grown h3 b.size (fun q e => by have := (World.ownsRow.lt hown q e).1; omega)
  refine h v' w' (by unfold RowOf; rw [flatF_append, List.length_append, hX]; exact h2) (fun m hm => ?_) b' (fun e => (h4.1 e).1)
  rcases List.mem_append.1 hm with hm | hm
  · exact (hd.below b') m hm
  · exact (hdx.below b') m hm

/-- 'append' of nothing. -/
theorem wpList_noF {ops : Array Oper} {rest : List Oper} {p : Oper} {a : Act} {w : World} {Q : Exit → Act → World → Prop} (hgd : p.guard = none) (s x : Operand)
    (ho : p.op = .call { callee := .builtin .append, args := #[s, x], argTypes := #[43, 43] })
    (ao : Option Addr) (n c : Nat) (hs : a.eval s = .slice ao n c) (hle : n ≤ c) (xv : Value) (hx : a.eval x = xv) (hsrc : Src Tryz.prog 4 43 xv 0 [] w)
    (h : wpList Tryz.prog ops Q rest (a.put p.dst (.slice ao n c)) w) : wpList Tryz.prog ops Q (p :: rest) a w := by
  obtain ⟨i0, hi, hz0, hz1, hz2⟩ := info_parts infoF
  have hrun := run_append_nothing w 43 43 p.type 40 i0 Tryz.underlying43 hi ao n c hle xv (by rw [hz1]; exact hsrc)
  refine wpList_plain hgd fun K hK => ?_
  unfold Oper.wp
  simp [execOp, ho, resolve, invoke, builtin, hs, hx, hrun, Result.andThen]
  exact hK _ _ h

end Go.Proofs.YtngcekegngmedaaGreat

/- impl.PutIn and impl.TakenOut: their answers' frames stand in rows of their own. -/

set_option linter.unusedVariables false
set_option linter.unusedSimpArgs false
set_option maxRecDepth 20000
namespace Go.Proofs.YtngcekegngmedaaGreat
open Go.RowKit

/-- The slice is nil, or it has an address of a row. -/
def Addressed (a : Option Addr) (c : Nat) : Prop := (a = none ∧ c = 0) ∨ ∃ g o, a = some ⟨g, o, none⟩
/-- What PutIn leaves. -/
def PutGot (R : List Frm × Int) (w : World) (e : Ending) (w' : World) : Prop :=
  ∃ (M : List (Frm × Value)) (a : Option Addr) (c : Nat), e = .returned (.tuple #[.slice a R.1.length c, .int .i64 R.2]) ∧ (M.map fun m => m.1) = R.1 ∧ OwnF w.heap.size M (.slice a R.1.length c) w' ∧ Far M ∧ Below w.heap.size w w'
theorem far_nil : Far [] := fun i j hi => by simp at hi
theorem own_nil (B : Nat) (w : World) : OwnF B [] (.slice none 0 0) w := ⟨World.ownsRow_nil w B _ 4, fun m hm => by cases hm⟩
theorem Addressed.nil {c : Nat} {L : List Frm} {w : World} (h : Frs none L w) (hc : L.length ≤ c) (ha : Addressed none c) : L = [] ∧ c = 0 := by
  have hc0 : c = 0 := by
    rcases ha with ⟨-, h0⟩ | ⟨g, o, e⟩
    · exact h0
    · cases e
  exact ⟨List.eq_nil_of_length_eq_zero (by omega), hc0⟩

end Go.Proofs.YtngcekegngmedaaGreat

/- spec.PutIn. -/

set_option linter.unusedVariables false
set_option linter.unusedSimpArgs false
set_option maxRecDepth 20000
namespace Go.Proofs.YtngcekegngmedaaGreat
open Go.RowKit

theorem flatF_takes {M : List (Frm × Value)} {p : Nat} (hp : p ≤ M.length) : (flatF M).take (p * 4) = flatF (M.take p) := by
  conv => lhs; rw [← List.take_append_drop p M, flatF_append]
  have hl : (flatF (M.take p)).length = p * 4 := by rw [flatF_len, List.length_take, Nat.min_eq_left hp]
  rw [List.take_append_of_le_length (by omega), List.take_of_length_le (by omega)]
theorem OwnF.take {B g c p : Nat} {M : List (Frm × Value)} {w : World} (h : OwnF B M (.slice (some ⟨g, 0, none⟩) M.length c) w) (hp : p ≤ M.length) : OwnF B (M.take p) (.slice (some ⟨g, 0, none⟩) p c) w := by
  have hl : (M.take p).length = p := by simp; omega
  refine ⟨⟨flatF_len _, ?_⟩, fun m hm => h.2 m (List.mem_of_mem_take hm)⟩
  rw [hl]
  rcases h.1.2 with ⟨e, _⟩ | ⟨g', cap, cur, e, hb, hg, h1, h2, h3, h4⟩
  · cases e
  · cases e
    refine .inr ⟨g, c, cur, rfl, hb, hg, by omega, h2, h3, ?_⟩
    rw [← flatF_takes hp, ← h4, List.take_take]
    congr 1
    omega
theorem OwnF.putAt {B g c j : Nat} {M : List (Frm × Value)} {w : World} {id : Int} {rm : Bool} {ln : Int} {D : List Int} {dv : Value} (h : OwnF B M (.slice (some ⟨g, 0, none⟩) M.length c) w) (hj : j < M.length) (ho : OwnI B D dv w) :
    OwnF B (M.set j (⟨id, rm, ln, D⟩, dv)) (.slice (some ⟨g, 0, none⟩) M.length c) (putF g j id rm ln dv w) := by
  have k := putF_grown g j id rm ln dv w
  refine ⟨?_, fun m hm => ?_⟩
  · rw [List.length_set, ← flatF_set M j (⟨id, rm, ln, D⟩, dv) hj]
    exact ((((h.1.stored _ _).1.stored _ _).1.stored _ _).1.stored _ _).1
  · rcases List.mem_or_eq_of_mem_set hm with hm | rfl
    · exact (h.2 m hm).kept k (OwnI.ne_row h (h.2 m hm))
    · exact ho.kept k (OwnI.ne_row h ho)
theorem map_set {M : List (Frm × Value)} {L : List Frm} {j : Nat} {f : Frm} {dv : Value} (h : (M.map fun m => m.1) = L) (hj : j < L.length) : ((M.set j (f, dv)).map fun m => m.1) = splL L j (j + 1) [f] := by
  rw [List.map_set, h, List.set_eq_take_append_cons_drop, if_pos hj]; rfl
/-- What spec.PutIn leaves. -/
def PutO (R : List Frm × Int) (w : World) (e : Ending) (w' : World) : Prop :=
  ∃ (M : List (Frm × Value)) (g c : Nat), e = .returned (.tuple #[.slice (some ⟨g, 0, none⟩) R.1.length c, .int .i64 R.2]) ∧ (M.map fun m => m.1) = R.1 ∧ OwnF w.heap.size M (.slice (some ⟨g, 0, none⟩) R.1.length c) w' ∧ Below w.heap.size w w'

/-- Frames appended to a row of the call's own: their data are rows of its own, too. -/
theorem run_appX (w : World) (ty : TypeId) (B : Nat) (M X : List (Frm × Value)) (v : Value) (h : OwnF B M v w) (ad : Addr) (m c : Nat) (hX : X.length = m) (hnews : ∀ j u, (flatF X)[j]? = some u → w.cell? (ad.add j) = some u) (hd : ∀ x ∈ X, OwnI B x.1.D x.2 w)
    (hv : v ≠ .slice none 0 0) (hsz : M.length + m ≤ 1000000) (hB : B ≤ w.heap.size) :
    ∃ g c' w', (Builtin.append_ #[43, 43] ty #[v, .slice (some ad) m c]).run Tryz.prog w = .ok (.slice (some ⟨g, 0, none⟩) (M.length + m) c') w' ∧ OwnF B (M ++ X) (.slice (some ⟨g, 0, none⟩) (M.length + m) c') w' ∧ w.grownBy w' v.ownBlock := by
  obtain ⟨i0, hi, hz0, hz1, hz2⟩ := info_parts infoF
  obtain ⟨v', w', hr, h2, h3, h4⟩ := run_append_own (P := Tryz.prog) w B 43 ty 40 i0 (.agg #[.int .i64 0, .bool false, .int .i64 0, .slice none 0 0]) 4 48 Tryz.underlying43 hi hz0 hz1 hz2 rfl (by decide) v M.length (flatF M) h.1 ad m c (flatF X) (by rw [flatF_len, hX]) hnews
    (fun u hu => by
      simp only [flatF, List.mem_flatMap] at hu
      obtain ⟨x, hx, hu⟩ := hu
      obtain ⟨ad, c, e, -⟩ := (hd x hx).nums
      simp at hu
      rcases hu with rfl | rfl | rfl | rfl
      · rfl
      · rfl
      · rfl
      · rw [e]; rfl) (by unfold maxLen; omega) (by omega) hB
  have hown : OwnF B (M ++ X) v' w' := by
    refine ⟨by rw [flatF_append, List.length_append, hX]; exact h2, fun x hx => ?_⟩
    rcases List.mem_append.1 hx with hx | hx
    · exact (h.2 x hx).kept h3 (OwnI.ne_row h (h.2 x hx))
    · exact (hd x hx).kept h3 (OwnI.ne_row h (hd x hx))
  rcases h2.2 with ⟨e, -⟩ | ⟨g, cap, cur, e, _⟩
  · exact absurd (h4.1 e).1 hv
  · subst e
    exact ⟨g, cap, w', hr, hown, h3⟩
theorem step_appX {ops : Array Oper} {o : Oper} {a : Act} {w : World} {K : Act → World → Prop} {Q : Exit → Act → World → Prop} {E : Prop} (hgd : o.guard = none) (s x : Operand)
    (ho : o.op = .call { callee := .builtin .append, args := #[s, x], argTypes := #[43, 43] })
    (B : Nat) (M X : List (Frm × Value)) (v : Value) (hs : a.eval s = v) (h : OwnF B M v w) (ad : Addr) (m c : Nat) (hx : a.eval x = .slice (some ad) m c) (hX : X.length = m) (hnews : ∀ j u, (flatF X)[j]? = some u → w.cell? (ad.add j) = some u) (hd : ∀ x ∈ X, OwnI B x.1.D x.2 w)
    (hv : v ≠ .slice none 0 0) (hsz : M.length + m ≤ 1000000) (hB : B ≤ w.heap.size)
    (hK : ∀ g c' w', OwnF B (M ++ X) (.slice (some ⟨g, 0, none⟩) (M.length + m) c') w' → w.grownBy w' v.ownBlock → K (a.put o.dst (.slice (some ⟨g, 0, none⟩) (M.length + m) c')) w') :
    if Region.wanted o (yielded ops a.tmps) = true then Oper.wp Tryz.prog o a w K Q else E := by
  have hw : Region.wanted o (yielded ops a.tmps) = true := by simp [Region.wanted, hgd]
  rw [if_pos hw]
  obtain ⟨g, c', w', hr, h2, h3⟩ := run_appX w o.type B M X v h ad m c hX hnews hd hv hsz hB
  unfold Oper.wp
  simp [execOp, ho, resolve, invoke, builtin, hs, hx, hr, Result.andThen]
  exact hK g c' w' h2 h3
theorem wpList_appX {ops : Array Oper} {rest : List Oper} {p : Oper} {a : Act} {w : World} {Q : Exit → Act → World → Prop} (hgd : p.guard = none) (s x : Operand)
    (ho : p.op = .call { callee := .builtin .append, args := #[s, x], argTypes := #[43, 43] })
    (B : Nat) (M X : List (Frm × Value)) (v : Value) (hs : a.eval s = v) (h : OwnF B M v w) (ad : Addr) (m c : Nat) (hx : a.eval x = .slice (some ad) m c) (hX : X.length = m) (hnews : ∀ j u, (flatF X)[j]? = some u → w.cell? (ad.add j) = some u) (hd : ∀ x ∈ X, OwnI B x.1.D x.2 w)
    (hv : v ≠ .slice none 0 0) (hsz : M.length + m ≤ 1000000) (hB : B ≤ w.heap.size)
    (hK : ∀ g c' w', OwnF B (M ++ X) (.slice (some ⟨g, 0, none⟩) (M.length + m) c') w' → w.grownBy w' v.ownBlock → wpList Tryz.prog ops Q rest (a.put p.dst (.slice (some ⟨g, 0, none⟩) (M.length + m) c')) w') : wpList Tryz.prog ops Q (p :: rest) a w := by
  obtain ⟨g, c', w', hr, h2, h3⟩ := run_appX w p.type B M X v h ad m c hX hnews hd hv hsz hB
  refine wpList_plain hgd fun K hK' => ?_
  unfold Oper.wp
  simp [execOp, ho, resolve, invoke, builtin, hs, hx, hr, Result.andThen]
  exact hK' _ _ (hK g c' w' h2 h3)

end Go.Proofs.YtngcekegngmedaaGreat

/- How great the boxes' answers are, and small things for the exact laws. No program's walk in it. -/

set_option linter.unusedVariables false
set_option linter.unusedSimpArgs false
set_option maxRecDepth 20000
namespace Go.Proofs.YtngcekegngmedaaGreat
open Go.RowKit

/-- Not more than 16 frames, of not more than 8 data each. -/
def Lean16 (X : List Frm) : Prop := X.length ≤ 16 ∧ ∀ x ∈ X, x.D.length ≤ 8
theorem Lean16.nil : Lean16 [] := ⟨Nat.zero_le _, fun x hx => by cases hx⟩
theorem Lean16.box {L : List Frm} (h : boxB L = true) : Lean16 L := by
  have hB := boxB_iff.1 h
  refine ⟨hB.1, fun x hx => ?_⟩
  obtain ⟨j, hj, rfl⟩ := List.mem_iff_getElem.1 hx
  have := hB.2.short hj
  rwa [nthF_eq hj] at this
theorem lean_out (L : List Frm) (r : Int) : Lean16 (outV L r) := by
  cases hb : boxB L with
  | false => rw [outV_bad r hb]; exact Lean16.nil
  | true =>
    rw [outV_ok r hb]
    have h := Lean16.box hb
    exact ⟨Nat.le_trans (List.length_filter_le _ _) h.1, fun x hx => h.2 x (List.mem_filter.1 hx).1⟩
theorem lean_spl {L : List Frm} {p q : Nat} {f : Frm} (h : Lean16 L) (hp : p ≤ q) (hq : q ≤ L.length) (hl : (splL L p q [f]).length ≤ 16) (hf : 0 ≤ rkF f) : Lean16 (splL L p q [f]) := by
  refine ⟨hl, fun x hx => ?_⟩
  simp only [splL, List.mem_append] at hx
  rcases hx with hx | hx | hx
  · exact h.2 x (List.mem_of_mem_take hx)
  · simp at hx; subst hx; exact rkF_len hf
  · exact h.2 x (List.mem_of_mem_drop hx)
theorem lean_put (L : List Frm) (f : Frm) : Lean16 (putV L f).1 := by
  cases hb : boxB L with
  | false => rw [putV_bad f hb]; exact Lean16.nil
  | true =>
    have h := Lean16.box hb
    have hB := (boxB_iff.1 hb).2
    by_cases hn : rkF f < 0
    · rw [putV_no hb hn]; exact h
    have hp := pos_at (r := rkF f) hB
    generalize posN L (rkF f) L.length = p at hp
    cases hm : metB L (rkF f) p with
    | true =>
      rw [putV_over hb hn hp hm]
      have hl := (metB_yes.1 hm).1
      have h16 := h.1
      exact lean_spl h (by omega) (by omega) (by rw [splL_len hp.1]; simp; omega) (by omega)
    | false =>
      by_cases h16 : 16 ≤ L.length
      · rw [putV_full hb hn hp hm h16]; exact h
      · rw [putV_new hb hn hp hm h16]
        have hpl := hp.1
        exact lean_spl h (by omega) hpl (by rw [splL_len hpl]; simp; omega) (by omega)
theorem Lean16.room {X : List Frm} (h : Lean16 X) : ∀ k, k ≤ X.length → room X k ≤ 8 * k := by
  intro k
  induction k with
  | zero => intro _; rw [room_zero]; exact Nat.le_refl _
  | succ k ih =>
    intro hk
    rw [room_succ X k (by omega)]
    have h1 := ih (by omega)
    have h2 := h.2 (nthF X k) (by rw [nthF_eq (by omega)]; exact List.getElem_mem _)
    omega
theorem Lean16.fits {X : List Frm} (h : Lean16 X) : X.length + Go.Proofs.YtngcekegngmedaaGreat.room X X.length ≤ 1048576 := by
  have h1 := h.room X.length (Nat.le_refl _)
  have h2 := h.1
  omega
theorem OwnF.addressed {B n c : Nat} {M : List (Frm × Value)} {a : Option Addr} {w : World} (h : OwnF B M (.slice a n c) w) : Addressed a c := by
  rcases h.1.2 with ⟨e, _⟩ | ⟨g, cap, cur, e, _⟩
  · cases e; exact .inl ⟨rfl, rfl⟩
  · cases e; exact .inr ⟨g, 0, rfl⟩
theorem OwnF.frsOf {B n c : Nat} {M : List (Frm × Value)} {a : Option Addr} {X : List Frm} {w : World} (h : OwnF B M (.slice a n c) w) (hM : (M.map fun m => m.1) = X) (hn : X.length ≤ 2000000) : Frs a X w := by
  obtain ⟨a', c', e, hf⟩ := h.frs (by have := congrArg List.length hM; simp at this; omega)
  simp only [Value.slice.injEq] at e
  obtain ⟨rfl, _, _⟩ := e
  rw [hM] at hf
  exact hf
/-- The two answers of PutIn, by their parts. -/
def PutOx (X : List Frm) (k : Int) (w : World) (e : Ending) (w' : World) : Prop :=
  ∃ (M : List (Frm × Value)) (g c : Nat), e = .returned (.tuple #[.slice (some ⟨g, 0, none⟩) X.length c, .int .i64 k]) ∧ (M.map fun m => m.1) = X ∧ OwnF w.heap.size M (.slice (some ⟨g, 0, none⟩) X.length c) w' ∧ Below w.heap.size w w'
theorem PutO.parts {X : List Frm} {k : Int} {w w' : World} {e : Ending} (h : PutO (X, k) w e w') : PutOx X k w e w' := h
def PutGotx (X : List Frm) (k : Int) (w : World) (e : Ending) (w' : World) : Prop :=
  ∃ (M : List (Frm × Value)) (a : Option Addr) (c : Nat), e = .returned (.tuple #[.slice a X.length c, .int .i64 k]) ∧ (M.map fun m => m.1) = X ∧ OwnF w.heap.size M (.slice a X.length c) w' ∧ Far M ∧ Below w.heap.size w w'
theorem PutGot.parts {X : List Frm} {k : Int} {w w' : World} {e : Ending} (h : PutGot (X, k) w e w') : PutGotx X k w e w' := h
theorem Bx.mid {g lo hi : Nat} {x0 x1 x2 x3 : Value} {w w' : World} (h : Bx g x0 x1 x2 x3 w) (k : Mid lo hi w w') (hg : g < lo ∨ hi ≤ g) : Bx g x0 x1 x2 x3 w' := (k.block g h.lt hg).trans h
theorem kAt_le {X : List Frm} {j : Nat} (h : X.length + room X X.length ≤ 1048576) (hj : j ≤ X.length) : kAt 1 X j ≤ 5000000 := by
  have := room_le X hj
  simp only [kAt]; omega
theorem Bx.below' {g : Nat} {x0 x1 x2 x3 : Value} {w w' : World} (h : Bx g x0 x1 x2 x3 w) (b : Below w.heap.size w w') : Bx g x0 x1 x2 x3 w' := (b.block g h.lt).trans h
theorem OwnI.nums2 {Bn : Nat} {D : List Int} {a : Option Addr} {n c : Nat} {w : World} (h : OwnI Bn D (.slice a n c) w) : Nums a D w := by
  obtain ⟨a', c', e, hn⟩ := h.nums
  simp only [Value.slice.injEq] at e
  obtain ⟨rfl, _, _⟩ := e
  exact hn
theorem kAt_pos {k : Int} {X : List Frm} {j : Nat} (h : 0 ≤ k) : 0 ≤ kAt k X j := by simp only [kAt]; omega
end Go.Proofs.YtngcekegngmedaaGreat

/- The model's draws for filters: l10Draw, DrawPasses, DrawPushedIn. -/

set_option linter.unusedVariables false
set_option linter.unusedSimpArgs false
set_option maxRecDepth 20000
namespace Go.Proofs.YtngcekegngmedaaGreat
open Go.RowKit

def flatP (M : List (Int × Int)) : List Value := M.flatMap fun f => [.int .i64 f.1, .int .i64 f.2]
theorem flatP_app (M : List (Int × Int)) (x : Int × Int) : flatP (M ++ [x]) = flatP M ++ [.int .i64 x.1, .int .i64 x.2] := by simp [flatP]
theorem flatP_at : ∀ (M : List (Int × Int)) (j : Nat) (h : j < M.length), (flatP M)[j * 2]? = some (.int .i64 M[j].1) ∧ (flatP M)[j * 2 + 1]? = some (.int .i64 M[j].2) := by
  intro M
  induction M with
  | nil => intro j h; simp at h
  | cons m M ih =>
    intro j h
    cases j with
    | zero => exact ⟨rfl, rfl⟩
    | succ j =>
      have k := ih j (by simpa using h)
      have e1 : (j + 1) * 2 = j * 2 + 1 + 1 := by omega
      rw [e1]
      simpa [flatP] using k
/-- The slice v, in a row of the call's own, holds the filters M. -/
def OwnP (B : Nat) (M : List (Int × Int)) (v : Value) (w : World) : Prop := w.ownsRow B 58 2 v M.length (flatP M)
section
variable {B : Nat} {M : List (Int × Int)} {v : Value} {w w' : World}
theorem OwnP.kept {row : Option Nat} (h : OwnP B M v w) (k : w.grownBy w' row) (hne : v.ownBlock = none ∨ v.ownBlock ≠ row) : OwnP B M v w' := World.ownsRow.kept h k hne
theorem OwnP.stay (h : OwnP B M v w) (k : w.grownBy w' none) : OwnP B M v w' := h.kept k (Classical.em _)
theorem OwnP.is (h : OwnP B M v w) : ∃ a c, v = .slice a M.length c := by
  rcases h.2 with ⟨rfl, hn⟩ | ⟨g, cap, cur, rfl, _⟩
  · exact ⟨none, 0, by rw [hn]⟩
  · exact ⟨_, cap, rfl⟩
theorem OwnP.ne_cur {B' p : Nat} {a : Option Addr} {len cap : Nat} (h : OwnP B M v w) (s : St B' p a len cap w) : v.ownBlock ≠ some p := by
  rcases h.2 with ⟨rfl, _⟩ | ⟨g', cap', cur, rfl, _, hg, _⟩
  · simp [Value.ownBlock]
  · intro e
    simp only [Value.ownBlock, Option.some.injEq] at e
    subst e
    obtain ⟨⟨i, h', c⟩, _⟩ := s
    rw [c.block] at hg
    simp at hg
theorem OwnP.low (h : OwnP B M v w) {k : Nat} (hk : v.ownBlock = some k) : B ≤ k := (World.ownsRow.lt h k hk).1
theorem OwnP.fls (h : OwnP B M v w) (hm : M.length ≤ 2000000) : ∃ a c, v = .slice a M.length c ∧ Fls a M w := by
  rcases h.2 with ⟨rfl, hn⟩ | ⟨g, cap, cur, rfl, hrest⟩
  · have e : M = [] := List.length_eq_zero_iff.1 hn
    subst e
    exact ⟨none, 0, rfl, Fls.nil _ _⟩
  · refine ⟨_, cap, rfl, by unfold maxLen; omega, fun j hj => ?_⟩
    obtain ⟨f0, f1⟩ := flatP_at M j hj
    rw [nthP_eq hj]
    refine ⟨g, 0, rfl, ?_, ?_⟩ <;> rw [Nat.zero_add, World.ownsRow.cellAt h _ (by omega)] <;> assumption
end
theorem infoP : (Tryz.prog.info? 58).map (fun i => (i.zero, i.size, i.bytes)) = some (some (.agg #[.int .i64 0, .int .i64 0]), 2, 16) := by kernel_rfl
/-- 'append' of one filter. -/
theorem wpList_appP {ops : Array Oper} {rest : List Oper} {p : Oper} {a : Act} {w : World} {Q : Exit → Act → World → Prop} (hgd : p.guard = none) (s x : Operand)
    (ho : p.op = .call { callee := .builtin .append, args := #[s, x], argTypes := #[44, 44] })
    (Bn : Nat) (M : List (Int × Int)) (m c : Int) (v : Value) (hs : a.eval s = v) (hown : OwnP Bn M v w) (g1 c1 : Nat) (hx : a.eval x = .slice (some ⟨g1, 0, none⟩) 1 c1)
    (h0 : w.cell? ⟨g1, 0, none⟩ = some (.int .i64 m)) (h1 : w.cell? ⟨g1, 1, none⟩ = some (.int .i64 c)) (hsz : M.length ≤ 2000000) (hB : Bn ≤ w.heap.size)
    (h : ∀ av cv w', OwnP Bn (M ++ [(m, c)]) (.slice av (M.length + 1) cv) w' → w.grownBy w' v.ownBlock → wpList Tryz.prog ops Q rest (a.put p.dst (.slice av (M.length + 1) cv)) w') : wpList Tryz.prog ops Q (p :: rest) a w := by
  obtain ⟨i0, hi, hz0, hz1, hz2⟩ := info_parts infoP
  refine wpList_append_own _ hgd s x 44 ho Bn 58 i0 (.agg #[.int .i64 0, .int .i64 0]) 2 16 Tryz.underlying44 hi hz0 hz1 hz2 rfl (by decide) v M.length (flatP M) hs hown ⟨g1, 0, none⟩ 1 c1 [.int .i64 m, .int .i64 c] hx rfl ?_ ?_ ?_ ?_ hB ?_
  · intro j u hu
    match j, hu with
    | 0, hu => simp at hu; subst hu; exact h0
    | 1, hu => simp at hu; subst hu; exact h1
  · intro u hu; simp at hu; rcases hu with rfl | rfl <;> rfl
  · unfold maxLen; omega
  · omega
  · intro v' w' k2 k3 k4
    have hown' : OwnP Bn (M ++ [(m, c)]) v' w' := by
      unfold OwnP
      rw [flatP_app, List.length_append, List.length_singleton]; exact k2
    obtain ⟨av, cv, rfl⟩ := hown'.is
    rw [List.length_append, List.length_singleton] at hown'
    simp only [List.length_append, List.length_singleton]
    exact h av cv w' hown' k3
/-- The same, at a step of a region that draws its order. -/
theorem step_appP {ops : Array Oper} {o : Oper} {a : Act} {w : World} {K : Act → World → Prop} {Q : Exit → Act → World → Prop} {E : Prop} (hgd : o.guard = none) (s x : Operand)
    (ho : o.op = .call { callee := .builtin .append, args := #[s, x], argTypes := #[44, 44] })
    (Bn : Nat) (M : List (Int × Int)) (m c : Int) (v : Value) (hs : a.eval s = v) (hown : OwnP Bn M v w) (g1 c1 : Nat) (hx : a.eval x = .slice (some ⟨g1, 0, none⟩) 1 c1)
    (h0 : w.cell? ⟨g1, 0, none⟩ = some (.int .i64 m)) (h1 : w.cell? ⟨g1, 1, none⟩ = some (.int .i64 c)) (hsz : M.length ≤ 2000000) (hB : Bn ≤ w.heap.size)
    (h : ∀ av cv w', OwnP Bn (M ++ [(m, c)]) (.slice av (M.length + 1) cv) w' → w.grownBy w' v.ownBlock → K (a.put o.dst (.slice av (M.length + 1) cv)) w') :
    if Region.wanted o (yielded ops a.tmps) = true then Oper.wp Tryz.prog o a w K Q else E := by
  have hw : Region.wanted o (yielded ops a.tmps) = true := by simp [Region.wanted, hgd]
  rw [if_pos hw]
  obtain ⟨i0, hi, hz0, hz1, hz2⟩ := info_parts infoP
  obtain ⟨v', w', hr, h2, h3, h4⟩ := run_append_own (P := Tryz.prog) w Bn 44 o.type 58 i0 (.agg #[.int .i64 0, .int .i64 0]) 2 16 Tryz.underlying44 hi hz0 hz1 hz2 rfl (by decide)
    v M.length (flatP M) hown ⟨g1, 0, none⟩ 1 c1 [.int .i64 m, .int .i64 c] rfl
    (fun j u hu => by
      match j, hu with
      | 0, hu => simp at hu; subst hu; exact h0
      | 1, hu => simp at hu; subst hu; exact h1) (fun u hu => by simp at hu; rcases hu with rfl | rfl <;> rfl) (by unfold maxLen; omega) (by omega) hB
  have hown' : OwnP Bn (M ++ [(m, c)]) v' w' := by
    unfold OwnP
    rw [flatP_app, List.length_append, List.length_singleton]; exact h2
  obtain ⟨av, cv, rfl⟩ := hown'.is
  unfold Oper.wp
  simp [execOp, ho, resolve, invoke, builtin, hs, hx, hr, Result.andThen]
  rw [List.length_append, List.length_singleton] at hown'
  exact h av cv w' hown' h3

/-- What stands while filters are drawn: the cursor, the row. -/
structure PS (w0 : World) (B p : Nat) (a : Option Addr) (len cap : Nat) (L : List (Int × Int)) (v : Value) (w : World) : Prop where
  st : St B p a len cap w
  grown : w0.grownBy w (some p)
  own : OwnP w0.heap.size L v w
  pl : p < w0.heap.size
section
variable {w0 : World} {B p : Nat} {a : Option Addr} {len cap : Nat} {L : List (Int × Int)} {v : Value} {w : World}
theorem PS.step {w' : World} (F : PS w0 B p a len cap L v w) (k : w.grownBy w' (some p)) (t : St B p a len cap w') : PS w0 B p a len cap L v w' :=
  ⟨t, grown_trans F.grown k, F.own.kept k (.inr (F.own.ne_cur F.st)), F.pl⟩
theorem PS.alloc (F : PS w0 B p a len cap L v w) (o : Obj) : PS w0 B p a len cap L v (w.alloc o) := F.step (World.grownBy_alloc w o _) (F.st.alloc o)
theorem PS.drew (F : PS w0 B p a len cap L v w) : PS w0 B p a len cap L v w.drew := F.step (grown_drew (grown_refl w _)) F.st.drew
theorem PS.app {L' : List (Int × Int)} {v' : Value} {w' : World} (F : PS w0 B p a len cap L v w) (own' : OwnP w0.heap.size L' v' w') (k : w.grownBy w' v.ownBlock) : PS w0 B p a len cap L' v' w' := by
  have h1 := F.pl
  refine ⟨F.st.step k (fun j e => by have := F.own.low e; omega), ?_, own', h1⟩
  cases hv : v.ownBlock with
  | none => rw [hv] at k; exact grown_trans F.grown (grown_some k _)
  | some q => rw [hv] at k; exact grown_own F.grown k (F.own.low hv)
theorem PS.made {w0 : World} (st : St B p a len cap w0) : PS w0 B p a len cap [] (.slice (some ⟨w0.heap.size, 0, none⟩) 0 0) (w0.alloc (.cells #[] 58)) :=
  ⟨st.alloc _, World.grownBy_alloc w0 _ _, World.ownsRow_made (base := w0.heap.size) (e := 58) (size := 2) w0 #[] 0 (Nat.le_refl _) (Nat.zero_le _) rfl, st.lt⟩
end
/-- What a draw of filters leaves. -/
def DrewP (B p : Nat) (a : Option Addr) (len cap : Nat) (N : Nat) (w : World) (e : Ending) (w' : World) : Prop :=
  ∃ (L : List (Int × Int)) (v : Value), e = .returned v ∧ PS w B p a len cap L v w' ∧ L.length ≤ N

abbrev list5 : Array Value := (#[.int .i64 0, .int .i64 1, .int .i64 3, .int .i64 8, .int .i64 2047] : Array Value)
/-- A number of the short list. -/
theorem pick5 {x : Int} (h0 : 0 ≤ x) (h1 : x ≤ 4) : ∃ v : Int, list5[x.toNat]? = some (.int .i64 v) := by
  have hx : x = 0 ∨ x = 1 ∨ x = 2 ∨ x = 3 ∨ x = 4 := by omega
  rcases hx with rfl | rfl | rfl | rfl | rfl <;> exact ⟨_, rfl⟩
/-- Block b holds the numbers C. -/
def HasP (b : Nat) (C : Array Value) (w : World) : Prop := ∃ T z, w.heap[b]? = some (.cells C T z)
theorem HasP.cell {b : Nat} {C : Array Value} {w : World} (h : HasP b C w) {k : Nat} {v : Value} (hv : C[k]? = some v) : w.cell? ⟨b, k, none⟩ = some v := by
  obtain ⟨T, z, h⟩ := h
  simp [World.cell?, h, hv]
theorem HasP.lt {b : Nat} {C : Array Value} {w : World} (h : HasP b C w) : b < w.heap.size := by
  obtain ⟨T, z, h⟩ := h
  exact (Array.getElem?_eq_some_iff.1 h).1
theorem HasP.grown {b p : Nat} {C : Array Value} {w w' : World} (h : HasP b C w) (g : w.grownBy w' (some p)) (hp : b ≠ p) : HasP b C w' := by
  have hl := h.lt
  obtain ⟨T, z, h⟩ := h
  exact ⟨T, z, (g.block b hl (by simpa using hp)).trans h⟩
theorem HasP.made (C : Array Value) (T : TypeId) (w : World) : HasP w.heap.size C (w.alloc (.cells C T)) := ⟨T, (0, 0), heap_alloc_new w _⟩
theorem HasP.madeD (C : Array Value) (T : TypeId) (w : World) : HasP w.heap.size C (w.drew.alloc (.cells C T)) := ⟨T, (0, 0), heap_alloc_new w.drew _⟩

/-- What a draw of some filters and an id leaves. -/
def PassArg (w : World) (e : Ending) (w' : World) : Prop :=
  ∃ (L : List (Int × Int)) (a : Option Addr) (c : Nat) (id : Int), e = .returned (.tuple #[.slice a L.length c, .int .i64 id]) ∧ Fls a L w' ∧ L.length ≤ 3 ∧ Below w.heap.size w w'
end Go.Proofs.YtngcekegngmedaaGreat

/- Slices of filters that a call owns: copied, marked, asked for their marks. -/

set_option linter.unusedVariables false
set_option linter.unusedSimpArgs false
set_option maxRecDepth 20000
namespace Go.Proofs.YtngcekegngmedaaGreat
open Go.RowKit

theorem OwnP.below {B : Nat} {M : List (Int × Int)} {v : Value} {w w' : World} (h : OwnP B M v w) (b : Below w.heap.size w w') : OwnP B M v w' := h.stay (grown_at b)
theorem OwnP.mono {B B' : Nat} {M : List (Int × Int)} {v : Value} {w : World} (h : OwnP B M v w) (hb : B' ≤ B) : OwnP B' M v w := by
  obtain ⟨h1, h2 | ⟨g, cap, cur, e, hB, r⟩⟩ := h
  · exact ⟨h1, .inl h2⟩
  · exact ⟨h1, .inr ⟨g, cap, cur, e, by omega, r⟩⟩
theorem OwnP.flsAt {B : Nat} {M : List (Int × Int)} {a : Option Addr} {n c : Nat} {w : World} (h : OwnP B M (.slice a n c) w) (hm : M.length ≤ 2000000) : n = M.length ∧ Fls a M w := by
  obtain ⟨a', c', e, hf⟩ := h.fls hm
  cases e
  exact ⟨rfl, hf⟩
theorem OwnP.mid {lo hi B : Nat} {M : List (Int × Int)} {v : Value} {w w' : World} (h : OwnP B M v w) (k : Mid lo hi w w') (hB : hi ≤ B) : OwnP B M v w' := by
  obtain ⟨h1, h2 | ⟨g, cap, cur, e, hb, hg, r⟩⟩ := h
  · exact ⟨h1, .inl h2⟩
  · exact ⟨h1, .inr ⟨g, cap, cur, e, hb, (k.block g (Array.getElem?_eq_some_iff.1 hg).1 (.inr (by omega))).trans hg, r⟩⟩
theorem flatP_len (M : List (Int × Int)) : (flatP M).length = M.length * 2 := by
  induction M with
  | nil => rfl
  | cons m M ih => simp [flatP] at ih ⊢; omega
theorem RowP.own {G : Nat} {L : List (Int × Int)} {cur : Array Value} {w : World} (h : RowP G L.length L.length L cur w) (hm : L.length ≤ maxLen) {B : Nat} (hB : B ≤ G) :
    OwnP B L (.slice (some ⟨G, 0, none⟩) L.length L.length) w := by
  have hlen := h.len
  refine ⟨flatP_len L, .inr ⟨G, L.length, cur, rfl, hB, h.blk, Nat.le_refl _, hm, hlen, ?_⟩⟩
  have hfl := flatP_len L
  apply List.ext_getElem?
  intro j
  by_cases hj : j < L.length * 2
  · rw [List.getElem?_take, if_pos hj, Array.getElem?_toList]
    obtain ⟨f0, f1⟩ := flatP_at L (j / 2) (by omega)
    obtain ⟨e0, e1⟩ := h.fr (j / 2) (by omega)
    rw [nthP_eq (by omega)] at e0 e1
    have hcase : j = j / 2 * 2 ∨ j = j / 2 * 2 + 1 := by omega
    rcases hcase with hc | hc
    · rw [hc, e0, f0]
    · rw [hc, e1, f1]
  · rw [List.getElem?_eq_none (by simp; omega), List.getElem?_eq_none (by omega)]

/-- laws.toFilterS, and what it owns. -/
theorem toFltsOwn (a : Option Addr) (L : List (Int × Int)) (c : Nat) (w : World) (hd : Fls a L w) (h : L.length ≤ 1048576) :
    Calls Tryz.prog 16 #[.slice a L.length c] w fun e w' => ∃ g, e = .returned (.slice (some ⟨g, 0, none⟩) L.length L.length) ∧ OwnP w.heap.size L (.slice (some ⟨g, 0, none⟩) L.length L.length) w' ∧ Below w.heap.size w w' := by
  have hmk := make_filters L.length h
  go_enter Tryz.func16, Tryz.ntmps16
  go_wp2_with fail
  clear hmk
  go_loopw [4] (fun i wr => ∃ (k : Nat) (cur : Array Value), k ≤ L.length ∧ i = .int .i64 k ∧ RowP w.heap.size L.length k L cur wr ∧ Below w.heap.size w wr) (fun i _ => L.length - (intOf i).toNat)
  case atStart => exact ⟨0, _, Nat.zero_le _, rfl, ⟨heap_alloc_new _ _, by simp [madeCells], fun j hj => absurd hj (by omega)⟩, (Below.refl _ _).alloc (Nat.le_refl _) _⟩
  case round =>
    obtain ⟨k, cur, hk, rfl, R, b⟩ := hrel
    by_cases hlt : k < L.length
    · obtain ⟨g, o, rfl, c0, c1⟩ := (hd.below b).2 k hlt
      have hf0 : nthP L k = ((nthP L k).1, (nthP L k).2) := rfl
      generalize (nthP L k).1 = m at *
      generalize (nthP L k).2 = cc at *
      have hf := Lib.hid hf0
      clear hf0
      go_wp2_with fail
      refine (toFlt _ _ _).mono ?_
      rintro e w2 ⟨rfl, b2⟩
      replace R := R.below b2
      replace b := Below.then2 b b2
      clear b2 c0 c1
      obtain ⟨x0, x1, y0, y1⟩ := R.cells hlt
      have z0 := R.free (k * 2)
      have z1 := R.free (k * 2 + 1)
      go_wp2_with fail
      go_roundw
      case rel =>
        obtain ⟨cur', R'⟩ := R.put hlt hf.out
        exact ⟨k + 1, cur', by omega, by go_num, R', (b.setCell (Nat.le_refl _) _).setCell (Nat.le_refl _) _⟩
      case measure => simp [intOf]; omega
    · obtain rfl : k = L.length := by omega
      go_wp2_with fail
      go_ret
      exact ⟨_, rfl, R.own hd.1 (Nat.le_refl _), b⟩
/-! ### Marks. -/
def mkP (k : Int) (j : Nat) : Int × Int := (k + 2 * (j : Int), k + 2 * (j : Int) + 1)
def mksP (k : Int) (n : Nat) : List (Int × Int) := (List.range n).map (mkP k)
theorem mksP_len (k : Int) (n : Nat) : (mksP k n).length = n := by simp [mksP]
theorem mksP_nth {k : Int} {n j : Nat} (h : j < n) : nthP (mksP k n) j = mkP k j := by
  rw [nthP_eq (by rw [mksP_len]; exact h)]; simp [mksP]
/-- Row G as it stands when the first j filters bear their marks. -/
structure MkP (G n j : Nat) (k : Int) (cur : Array Value) (w : World) : Prop where
  blk : w.heap[G]? = some (.cells cur 58 (0, 0))
  len : n * 2 ≤ cur.size
  lo : ∀ i, i < j → cur[i * 2]? = some (.int .i64 (mkP k i).1) ∧ cur[i * 2 + 1]? = some (.int .i64 (mkP k i).2)
section
variable {G n j : Nat} {k : Int} {cur : Array Value} {w : World}
theorem MkP.free (h : MkP G n j k cur w) (i : Nat) : w.frozen? ⟨G, i, none⟩ = false := frozen_of_row w G i _ _ h.blk
theorem MkP.cells (h : MkP G n j k cur w) (hk : j < n) : ∃ x0 x1, w.cell? ⟨G, j * 2, none⟩ = some x0 ∧ w.cell? ⟨G, j * 2 + 1, none⟩ = some x1 := by
  have hl := h.len
  refine ⟨cur[j * 2], cur[j * 2 + 1], ?_, ?_⟩ <;> rw [cell_of_row w G _ _ _ _ h.blk] <;> exact Array.getElem?_eq_getElem (by omega)
theorem MkP.put (h : MkP G n j k cur w) (hk : j < n) {x y : Int} (hx : x = (mkP k j).1) (hy : y = (mkP k j).2) :
    ∃ cur', cur'.size = cur.size ∧ MkP G n (j + 1) k cur' ((w.setCell ⟨G, j * 2, none⟩ (.int .i64 x)).setCell ⟨G, j * 2 + 1, none⟩ (.int .i64 y)) := by
  have hl := h.len
  subst hx hy
  refine ⟨(cur.setIfInBounds (j * 2) (.int .i64 (mkP k j).1)).setIfInBounds (j * 2 + 1) (.int .i64 (mkP k j).2), by simp, heap_setCell_same _ _ _ _ _ _ (heap_setCell_same _ _ _ _ _ _ h.blk), by simp; omega, fun i hi => ?_⟩
  by_cases e : i = j
  · subst e
    refine ⟨?_, ?_⟩ <;> simp [Array.getElem?_setIfInBounds] <;> omega
  · obtain ⟨e0, e1⟩ := h.lo i (by omega)
    refine ⟨?_, ?_⟩
    all_goals (simp only [Array.getElem?_setIfInBounds]; repeat rw [if_neg (by omega)])
    all_goals assumption
end
end Go.Proofs.YtngcekegngmedaaGreat

/- Filters copied: the builtin copy, append to a new empty slice, impl.copiedFilters. -/

set_option linter.unusedVariables false
set_option linter.unusedSimpArgs false
set_option maxRecDepth 20000
namespace Go.Proofs.YtngcekegngmedaaGreat
open Go.RowKit

theorem flatP_one {M : List (Int × Int)} : ∀ v ∈ flatP M, v.oneCell' = true := by
  intro v hv
  simp only [flatP, List.mem_flatMap] at hv
  obtain ⟨f, -, hf⟩ := hv
  simp at hf
  rcases hf with rfl | rfl <;> rfl
theorem Fls.flat {a : Option Addr} {L : List (Int × Int)} {w : World} (h : Fls a L w) {ad : Addr} (ha : a = some ad) (h0 : 0 < L.length) : ∀ j u, (flatP L)[j]? = some u → w.cell? (ad.add j) = some u := by
  intro j u hu
  have hj : j < L.length * 2 := by have := (List.getElem?_eq_some_iff.1 hu).1; rw [flatP_len] at this; exact this
  obtain ⟨g, o, he, c0, c1⟩ := h.2 (j / 2) (by omega)
  subst ha
  cases he
  have hadd : (⟨g, o, none⟩ : Addr).add j = ⟨g, o + j, none⟩ := by unfold Addr.add; split <;> simp_all
  rw [hadd]
  obtain ⟨f0, f1⟩ := flatP_at L (j / 2) (by omega)
  rw [nthP_eq (by omega)] at c0 c1
  have hcase : j = j / 2 * 2 ∨ j = j / 2 * 2 + 1 := by omega
  rcases hcase with hc | hc
  · rw [← hc] at f0 c0
    rw [c0, ← hu, f0]
  · rw [← hc] at f1
    rw [show o + j / 2 * 2 + 1 = o + j by omega] at c1
    rw [c1, ← hu, f1]
theorem sizeP {i : TypeInfo} (h : Tryz.prog.info? 58 = some i) : i.size = 2 := by
  obtain ⟨i0, hi, -, h1, -⟩ := info_parts infoP
  rw [h] at hi
  cases hi
  exact h1
theorem run_copyP (w : World) (ty : TypeId) (g dCap : Nat) (a : Option Addr) (L : List (Int × Int)) (c : Nat) (cur : Array Value) (hg : w.heap[g]? = some (.cells cur 58 (0, 0))) (hc : cur.size = L.length * 2) (hd : Fls a L w) :
    ∃ w', (Builtin.copy_ #[44, 44] ty #[.slice (some ⟨g, 0, none⟩) L.length dCap, .slice a L.length c]).run Tryz.prog w = .ok (goInt L.length) w' ∧
      w'.heap[g]? = some (.cells (flatP L).toArray 58 (0, 0)) ∧ w.grownBy w' (some g) := by
  obtain ⟨i, hi, -⟩ := info_parts infoP
  have hs := sizeP hi
  by_cases h0 : L.length = 0
  · have e : L = [] := List.length_eq_zero_iff.1 h0
    subst e
    have hl : ∀ (x : Addr), (loadCells x 0).run Tryz.prog w = .ok #[] w := fun x => by simpa using run_loadCells_list (P := Tryz.prog) w x [] (by simp)
    refine ⟨w, ?_, ?_, grown_refl w _⟩
    · cases a <;> simp [Builtin.copy_, run_underlying Tryz.underlying44, Builtin.lenOf, Builtin.firstCells, sizeOf, typeInfo, hi, hs, storeCells, hl]
    · have : cur = #[] := by simpa using hc
      rw [hg, this]; rfl
  · obtain ⟨g', o', rfl, -⟩ := hd.2 0 (by omega)
    have hl := run_loadCells_list (P := Tryz.prog) w ⟨g', o', none⟩ (flatP L) (hd.flat rfl (by omega))
    have hst := run_storeCells_at Tryz.prog g 0 58 (flatP L) 0 cur w hg (by rw [flatP_len]; omega) flatP_one
    have e : (List.take (0 + 0) cur.toList ++ flatP L ++ List.drop (0 + 0 + (flatP L).length) cur.toList) = flatP L := by
      rw [List.drop_of_length_le (by simp [flatP_len, hc])]; simp
    rw [e] at hst
    refine ⟨w.setRow g (flatP L).toArray, ?_, setRow_heap w g cur _ _ _ hg, ⟨rfl, rfl, rfl, by simp, fun k hk hne => setRow_other w g k _ (fun e => hne (by rw [e]))⟩⟩
    rw [flatP_len] at hl
    simp [Builtin.copy_, run_underlying Tryz.underlying44, Builtin.lenOf, Builtin.firstCells, sizeOf, typeInfo, hi, hs, hl, hst]
/-- 'copy' of filters into a row of the call's own, from its head. -/
theorem wpList_copyP {ops : Array Oper} {rest : List Oper} {p : Oper} {a : Act} {w : World} {Q : Exit → Act → World → Prop} (d s : Operand)
    (ho : p.op = .call { callee := .builtin .copy, args := #[d, s], argTypes := #[44, 44] }) (hgd : p.guard = none)
    (g dCap : Nat) (af : Option Addr) (L : List (Int × Int)) (c : Nat) (hx : a.eval d = .slice (some ⟨g, 0, none⟩) L.length dCap) (hy : a.eval s = .slice af L.length c) (cur : Array Value) (hg : w.heap[g]? = some (.cells cur 58 (0, 0))) (hc : cur.size = L.length * 2) (hd : Fls af L w)
    (h : ∀ w', w'.heap[g]? = some (.cells (flatP L).toArray 58 (0, 0)) → w.grownBy w' (some g) → wpList Tryz.prog ops Q rest (a.put p.dst (goInt L.length)) w') : wpList Tryz.prog ops Q (p :: rest) a w := by
  obtain ⟨w', hrun, h1, h2⟩ := run_copyP w p.type g dCap af L c cur hg hc hd
  refine wpList_plain hgd fun K hK => ?_
  unfold Oper.wp
  simp [execOp, ho, resolve, invoke, builtin, hx, hy, hrun, Result.andThen]
  exact hK _ _ (h w' h1 h2)
theorem ownP_row {L : List (Int × Int)} {w : World} {g B : Nat} (hm : L.length ≤ maxLen) (hB : B ≤ g) (hg : w.heap[g]? = some (.cells (flatP L).toArray 58 (0, 0))) : OwnP B L (.slice (some ⟨g, 0, none⟩) L.length L.length) w := by
  refine ⟨flatP_len L, .inr ⟨g, L.length, _, rfl, hB, hg, Nat.le_refl _, hm, by simp [flatP_len], ?_⟩⟩
  have := flatP_len L
  simp [List.take_of_length_le, this]
/-- impl.copiedFilters. -/
theorem copiedFlts (a : Option Addr) (L : List (Int × Int)) (c : Nat) (w : World) (hd : Fls a L w) (h : L.length ≤ 1048576) :
    Calls Tryz.prog 28 #[.slice a L.length c] w fun e w' => ∃ g, e = .returned (.slice (some ⟨g, 0, none⟩) L.length L.length) ∧ OwnP w.heap.size L (.slice (some ⟨g, 0, none⟩) L.length L.length) w' ∧ Below w.heap.size w w' := by
  have hmk := make_filters L.length h
  have hm := hd.1
  go_enter Tryz.func28, Tryz.ntmps28
  go_upto_region 2 with fail
  clear hmk
  have hg := heap_alloc_new w (.cells (madeCells #[.int .i64 0, .int .i64 0] (L.length * 2)) 58)
  have hb : Below w.heap.size w (w.alloc (.cells (madeCells #[.int .i64 0, .int .i64 0] (L.length * 2)) 58)) := below_more (Below.refl _ _) _
  have hd1 := hd.below hb
  have hsz : (madeCells #[.int .i64 0, .int .i64 0] (L.length * 2)).size = L.length * 2 := by simp [madeCells]
  generalize w.alloc _ = W at hg hb hd1 ⊢
  have hgl : w.heap.size ≤ w.heap.size := Nat.le_refl _
  generalize hgg : w.heap.size = g at hg hgl ⊢
  go_wp2_with (skip; refine wpList_copyP _ _ (by rfl) (by rfl) g L.length a L c (by rfl) (by rfl) _ hg hsz hd1 ?_)
  intro w2 h2 k2
  have own := ownP_row hm (Nat.le_of_eq hgg) h2
  replace hb := hb.grown k2 hb.size (fun q e => by cases e; omega)
  go_wp2_with fail
  go_ret
  exact ⟨g, rfl, own, hb⟩
/-- 'append' of filters to a new empty slice. -/
theorem wpList_newP {ops : Array Oper} {rest : List Oper} {p : Oper} {a : Act} {w : World} {Q : Exit → Act → World → Prop} (s x : Operand)
    (ho : p.op = .call { callee := .builtin .append, args := #[s, x], argTypes := #[44, 44] }) (hgd : p.guard = none)
    (g : Nat) (hs : a.eval s = .slice (some ⟨g, 0, none⟩) 0 0) (af : Option Addr) (L : List (Int × Int)) (c : Nat) (hx : a.eval x = .slice af L.length c) (hg : w.heap[g]? = some (.cells #[] 58 (0, 0))) (hd : Fls af L w) (hnil : af = none → c = 0) (hsz : L.length ≤ 2000000)
    (h : ∀ al cl w', OwnP g L (.slice al L.length cl) w' → w.grownBy w' (some g) → wpList Tryz.prog ops Q rest (a.put p.dst (.slice al L.length cl)) w') : wpList Tryz.prog ops Q (p :: rest) a w := by
  have hlt := (Array.getElem?_eq_some_iff.1 hg).1
  have hown : OwnP g [] (.slice (some ⟨g, 0, none⟩) 0 0) w := ⟨rfl, .inr ⟨g, 0, #[], rfl, Nat.le_refl _, hg, Nat.le_refl _, Nat.zero_le _, rfl, rfl⟩⟩
  obtain ⟨i0, hi, hz0, hz1, hz2⟩ := info_parts infoP
  by_cases h0 : L.length = 0
  · have e : L = [] := List.length_eq_zero_iff.1 h0
    subst e
    have hsrc : Src Tryz.prog i0.size 44 (.slice af 0 c) 0 [] w := by
      cases af with
      | none => rw [hnil rfl]; exact Src.ofNil w Tryz.underlying44 _
      | some ad => exact Src.ofSlice w Tryz.underlying44 ad 0 c [] (by simp) (fun j u hu => by cases hu) (fun u hu => by cases hu)
    have hrun := run_append_nothing w 44 44 p.type 58 i0 Tryz.underlying44 hi (some ⟨g, 0, none⟩) 0 0 (Nat.le_refl _) (.slice af 0 c) hsrc
    refine wpList_plain hgd fun K hK => ?_
    unfold Oper.wp
    simp [execOp, ho, resolve, invoke, builtin, hs, hx, hrun, Result.andThen]
    exact hK _ _ (h _ _ w hown (grown_refl w _))
  · obtain ⟨g', o', rfl, -⟩ := hd.2 0 (by omega)
    refine wpList_append_own _ hgd s x 44 ho g 58 i0 (.agg #[.int .i64 0, .int .i64 0]) 2 16 Tryz.underlying44 hi hz0 hz1 hz2 rfl (by decide) _ 0 [] hs hown ⟨g', o', none⟩ L.length c (flatP L) hx (flatP_len L) (hd.flat rfl (by omega)) flatP_one (by unfold maxLen; omega) (by omega) (Nat.le_of_lt hlt) ?_
    intro v' w' k2 k3 k4
    have hown' : OwnP g L v' w' := by
      unfold OwnP
      simpa using k2
    obtain ⟨av, cv, rfl⟩ := hown'.is
    exact h av cv w' hown' k3
end Go.Proofs.YtngcekegngmedaaGreat

/- impl.PushedIn and spec.PushedIn: their answers' frames stand in rows of their own. -/

set_option linter.unusedVariables false
set_option linter.unusedSimpArgs false
set_option maxRecDepth 20000
namespace Go.Proofs.YtngcekegngmedaaGreat
open Go.RowKit

/-- What PushedIn answers. -/
def pushV (L : List Frm) (f : Frm) : List Frm × Bool := if 32 ≤ L.length ∨ frOk f.id f.rm f.ln f.D = false then (L, false) else (L ++ [f], true)
theorem pushV_full {L : List Frm} {f : Frm} (h : 32 ≤ L.length) : pushV L f = (L, false) := if_pos (.inl h)
theorem pushV_no {L : List Frm} {f : Frm} (h : frOk f.id f.rm f.ln f.D = false) : pushV L f = (L, false) := if_pos (.inr h)
theorem pushV_new {L : List Frm} {f : Frm} (h : ¬ 32 ≤ L.length) (k : frOk f.id f.rm f.ln f.D = true) : pushV L f = (L ++ [f], true) := if_neg (by simp [h, k])
theorem room_snoc (L : List Frm) (f : Frm) : room (L ++ [f]) (L ++ [f]).length = room L L.length + f.D.length := by
  simp only [room, List.take_length, List.map_append, List.sum_append]
  simp
theorem pushV_room (L : List Frm) (f : Frm) : (pushV L f).1.length + room (pushV L f).1 (pushV L f).1.length ≤ L.length + room L L.length + f.D.length + 1 := by
  unfold pushV
  split
  · simp only; omega
  · simp only; rw [room_snoc]; simp; omega
theorem splL_end (L : List Frm) (f : Frm) : splL L L.length L.length [f] = L ++ [f] := by simp [splL]
theorem short_of_room {L : List Frm} {n : Nat} (h : L.length + room L L.length ≤ n) : ∀ j, j < L.length → (nthF L j).D.length ≤ n := by
  intro j hj
  have h1 := room_succ L j hj
  have h2 := room_le L (show j + 1 ≤ L.length by omega)
  omega
/-- What PushedIn leaves. -/
def PushGot (X : List Frm) (k : Bool) (w : World) (e : Ending) (w' : World) : Prop :=
  ∃ (M : List (Frm × Value)) (a : Option Addr) (c : Nat), e = .returned (.tuple #[.slice a X.length c, .bool k]) ∧ (M.map fun m => m.1) = X ∧ OwnF w.heap.size M (.slice a X.length c) w' ∧ Far M ∧ Below w.heap.size w w'
def PushO (X : List Frm) (k : Bool) (w : World) (e : Ending) (w' : World) : Prop :=
  ∃ (M : List (Frm × Value)) (g c : Nat), e = .returned (.tuple #[.slice (some ⟨g, 0, none⟩) X.length c, .bool k]) ∧ (M.map fun m => m.1) = X ∧ OwnF w.heap.size M (.slice (some ⟨g, 0, none⟩) X.length c) w' ∧ Below w.heap.size w w'

end Go.Proofs.YtngcekegngmedaaGreat
