/- impl.spliced: the box with a frame, or none, in the place of some of it: its frames in the answer's own rows. -/
import Derived.Test.YtngcekegngmedaaGreatDoorM29
import Derived.Test.YtngcekegngmedaaGreatDoorM3
import Derived.ArgAppend
import Derived.Deep.Slices
import Derived.Deep.Upon
import Derived.Test.YtngcekegngmedaaGreatDoorM28
import Derived.Deep.RegionLaw
import Derived.Test.YtngcekegngmedaaGreatDoorM27
import Derived.Test.YtngcekegngmedaaGreatDoorM9
import Derived.Test.YtngcekegngmedaaGreatDoorM8
import Derived.Test.YtngcekegngmedaaGreatDoorM7
import Derived.Deep.DeepCutAuto
import Derived.Deep.CutRange
import Derived.Laws.CopyRow
import Derived.Laws.CopyOwn

set_option linter.unusedVariables false
set_option linter.unusedSimpArgs false
set_option maxRecDepth 20000
namespace Go.Proofs.YtngcekegngmedaaGreatDoor
open Go.RowKit

theorem flatF_append (A B : List (Frm × Value)) : flatF (A ++ B) = flatF A ++ flatF B := by simp [flatF]
theorem flatF_take {M : List (Frm × Value)} {p j : Nat} {u : Value} (h : (flatF (M.take p))[j]? = some u) : (flatF M)[j]? = some u := by
  conv => lhs; rw [← List.take_append_drop p M, flatF_append]
  have hj := (List.getElem?_eq_some_iff.1 h).1
  rw [List.getElem?_append_left hj, h]
theorem flatF_drop {M : List (Frm × Value)} {q j : Nat} {u : Value} (hq : q ≤ M.length) (h : (flatF (M.drop q))[j]? = some u) : (flatF M)[q * 4 + j]? = some u := by
  conv => lhs; rw [← List.take_append_drop q M, flatF_append]
  have hl : (flatF (M.take q)).length = q * 4 := by rw [flatF_len, List.length_take, Nat.min_eq_left hq]
  rw [List.getElem?_append_right (by omega), hl, Nat.add_sub_cancel_left, h]
/-- The data of each frame can be read. -/
def Dat (M : List (Frm × Value)) (w : World) : Prop := ∀ m ∈ M, ∃ ad c, m.2 = .slice ad m.1.D.length c ∧ Nums ad m.1.D w
theorem Dat.below {M : List (Frm × Value)} {w w' : World} (h : Dat M w) (b : Below w.heap.size w w') : Dat M w' := fun m hm => by
  obtain ⟨ad, c, e, hn⟩ := h m hm
  exact ⟨ad, c, e, hn.below b⟩
theorem Dat.one {M : List (Frm × Value)} {w : World} (h : Dat M w) : ∀ u ∈ flatF M, u.oneCell' = true := by
  intro u hu
  simp only [flatF, List.mem_flatMap] at hu
  obtain ⟨m, hm, hu⟩ := hu
  obtain ⟨ad, c, e, -⟩ := h m hm
  simp at hu
  rcases hu with rfl | rfl | rfl | rfl
  · rfl
  · rfl
  · rfl
  · rw [e]; rfl
/-- A slice of frames with an address, cell by cell. -/
theorem Frs.flat {g o : Nat} {L : List Frm} {w : World} (h : Frs (some ⟨g, o, none⟩) L w) :
    ∃ M : List (Frm × Value), (M.map fun m => m.1) = L ∧ Dat M w ∧ ∀ j u, (flatF M)[j]? = some u → w.cell? ⟨g, o + j, none⟩ = some u := by
  obtain ⟨f, hf⟩ := Go.Deep.choose_lt (α := Value) (p := fun j v => ∃ ad c, v = .slice ad (nthF L j).D.length c ∧ FrC g (o + j * 4) ad c (nthF L j) w) (n := L.length) (fun j hj => by
    obtain ⟨g', o', ad, c, e, hc⟩ := h.2 j hj
    cases e
    exact ⟨_, ad, c, rfl, hc⟩)
  have hml : ((List.range L.length).map fun j => (nthF L j, f j)).length = L.length := by simp
  have hel : ∀ j (hj : j < ((List.range L.length).map fun j => (nthF L j, f j)).length), ((List.range L.length).map fun j => (nthF L j, f j))[j] = (nthF L j, f j) := by intro j hj; simp
  generalize (List.range L.length).map (fun j => (nthF L j, f j)) = M at hml hel
  refine ⟨M, ?_, fun m hm => ?_, fun j u hu => ?_⟩
  · apply List.ext_getElem?
    intro j
    by_cases hj : j < L.length
    · have hj2 : j < M.length := by omega
      rw [List.getElem?_eq_getElem (by simpa using hj2), List.getElem?_eq_getElem hj, List.getElem_map, hel j hj2]
      simp [nthF, List.getD_eq_getElem?_getD, hj]
    · rw [List.getElem?_eq_none (by simp; omega), List.getElem?_eq_none (by omega)]
  · obtain ⟨i, hi, rfl⟩ := List.mem_iff_getElem.1 hm
    rw [hel i hi]
    obtain ⟨ad, c, e, hc⟩ := hf i (by omega)
    exact ⟨ad, c, e, hc.2⟩
  · have hj : j < M.length * 4 := by
      have := (List.getElem?_eq_some_iff.1 hu).1
      rw [flatF_len] at this
      exact this
    have hi : j / 4 < M.length := by omega
    obtain ⟨f0, f1, f2, f3⟩ := flatF_at M (j / 4) hi
    obtain ⟨ad, c, e, ⟨c0, c1, c2, c3⟩, _⟩ := hf (j / 4) (by omega)
    rw [hel _ hi] at f0 f1 f2 f3
    have hcase : j = j / 4 * 4 ∨ j = j / 4 * 4 + 1 ∨ j = j / 4 * 4 + 2 ∨ j = j / 4 * 4 + 3 := by omega
    rcases hcase with hc | hc | hc | hc <;> rw [hc] at hu ⊢
    · rw [f0] at hu; cases hu; exact c0
    · rw [f1] at hu; cases hu; exact c1
    · rw [f2] at hu; cases hu; exact c2
    · rw [f3] at hu; cases hu; rw [e]; exact c3
/-- The slice v, in a row made from block B on, bears these frames' cells. -/
def RowOf (B : Nat) (v : Value) (M : List (Frm × Value)) (w : World) : Prop := w.ownsRow B 26 4 v M.length (flatF M)
/-- A row of the call's own whose frames' data can be read. -/
theorem row_frs {B : Nat} {M : List (Frm × Value)} {v : Value} {w : World} (h : RowOf B v M w) (hd : Dat M w) (hm : M.length ≤ 2000000) : ∃ a c, v = .slice a M.length c ∧ Frs a (M.map fun m => m.1) w := by
  rcases h.2 with ⟨rfl, hn⟩ | ⟨g, cap, cur, rfl, hrest⟩
  · have e : M = [] := List.length_eq_zero_iff.1 hn
    subst e
    exact ⟨none, 0, rfl, by simp, fun j hj => by simp at hj⟩
  · refine ⟨_, cap, rfl, by simp [maxLen]; omega, fun j hj => ?_⟩
    have hj' : j < M.length := by simpa using hj
    have e : nthF (M.map fun m => m.1) j = M[j].1 := by simp [nthF, List.getD_eq_getElem?_getD, hj']
    rw [e]
    obtain ⟨ad, c, hv, hn⟩ := hd M[j] (List.getElem_mem hj')
    obtain ⟨f0, f1, f2, f3⟩ := flatF_at M j hj'
    rw [hv] at f3
    refine ⟨g, 0, ad, c, rfl, ⟨?_, ?_, ?_, ?_⟩, hn⟩ <;> rw [Nat.zero_add, World.ownsRow.cellAt h _ (by omega)] <;> assumption
theorem map_take_drop {M : List (Frm × Value)} {L : List Frm} (h : (M.map fun m => m.1) = L) (p q : Nat) (X : List (Frm × Value)) : ((M.take p ++ (X ++ M.drop q)).map fun m => m.1) = splL L p q (X.map fun m => m.1) := by
  subst h; simp [splL]

/-- 'append' of frames, where there is no room: a new row. -/
theorem wpList_growF {ops : Array Oper} {rest : List Oper} {p : Oper} {a : Act} {w : World} {Q : Exit → Act → World → Prop} (hgd : p.guard = none) (s x : Operand)
    (ho : p.op = .call { callee := .builtin .append, args := #[s, x], argTypes := #[29, 29] })
    (A X : List (Frm × Value)) (ao : Option Addr) (n c : Nat) (hA : A.length = n) (hs : a.eval s = .slice ao n c) (hnone : ao = none → n = 0 ∧ c = 0) (holds : ∀ b, ao = some b → ∀ j u, (flatF A)[j]? = some u → w.cell? (b.add j) = some u)
    (ad : Addr) (m c1 : Nat) (hX : X.length = m) (hx : a.eval x = .slice (some ad) m c1) (hnews : ∀ j u, (flatF X)[j]? = some u → w.cell? (ad.add j) = some u) (hd : Dat A w) (hdx : Dat X w)
    (hfull : c < n + m) (hsz : n + m ≤ 1000000)
    (h : ∀ v w', RowOf w.heap.size v (A ++ X) w' → Dat (A ++ X) w' → Below w.heap.size w w' → wpList Tryz.prog ops Q rest (a.put p.dst v) w') : wpList Tryz.prog ops Q (p :: rest) a w := by
  obtain ⟨i0, hi, hz0, hz1, hz2⟩ := info_parts infoF
  refine wpList_append_grows w hgd s x 29 ho 26 i0 (.agg #[.int .i64 0, .bool false, .int .i64 0, .slice none 0 0]) 4 48 Tryz.underlying29 hi hz0 hz1 hz2 rfl (by decide) ao n c (flatF A) hs hnone (by rw [flatF_len, hA]) holds
    ad m c1 (flatF X) hx (by rw [flatF_len, hX]) hnews hdx.one hfull (by unfold maxLen; omega) (by omega) ?_
  intro v w' h2 h3
  have b := below_new h3
  refine h v w' (by unfold RowOf; rw [flatF_append, List.length_append, hA, hX]; exact h2) (fun m hm => ?_) b
  rcases List.mem_append.1 hm with hm | hm
  · exact (hd.below b) m hm
  · exact (hdx.below b) m hm
/-- 'append' of frames to a row of the call's own. -/
theorem wpList_ownF {ops : Array Oper} {rest : List Oper} {p : Oper} {a : Act} {w : World} {Q : Exit → Act → World → Prop} (hgd : p.guard = none) (s x : Operand)
    (ho : p.op = .call { callee := .builtin .append, args := #[s, x], argTypes := #[29, 29] })
    (B : Nat) (A X : List (Frm × Value)) (vo : Value) (hs : a.eval s = vo) (hown : RowOf B vo A w) (ad : Addr) (m c1 : Nat) (hX : X.length = m) (hx : a.eval x = .slice (some ad) m c1) (hnews : ∀ j u, (flatF X)[j]? = some u → w.cell? (ad.add j) = some u)
    (W0 : World) (hW0 : W0.heap.size ≤ B) (hB : B ≤ w.heap.size) (b : Below W0.heap.size W0 w) (hd : Dat A W0) (hdx : Dat X W0) (hsz : A.length + m ≤ 1000000)
    (h : ∀ v w', RowOf B v (A ++ X) w' → Dat (A ++ X) w' → Below W0.heap.size W0 w' → (v = .slice none 0 0 → vo = .slice none 0 0) → wpList Tryz.prog ops Q rest (a.put p.dst v) w') : wpList Tryz.prog ops Q (p :: rest) a w := by
  obtain ⟨i0, hi, hz0, hz1, hz2⟩ := info_parts infoF
  refine wpList_append_own _ hgd s x 29 ho B 26 i0 (.agg #[.int .i64 0, .bool false, .int .i64 0, .slice none 0 0]) 4 48 Tryz.underlying29 hi hz0 hz1 hz2 rfl (by decide) vo A.length (flatF A) hs hown ad m c1 (flatF X) hx (by rw [flatF_len, hX]) hnews hdx.one (by unfold maxLen; omega) (by omega) hB ?_
  intro v' w' h2 h3 h4
  have b' := b.grown h3 b.size (fun q e => by have := (World.ownsRow.lt hown q e).1; omega)
  refine h v' w' (by unfold RowOf; rw [flatF_append, List.length_append, hX]; exact h2) (fun m hm => ?_) b' (fun e => (h4.1 e).1)
  rcases List.mem_append.1 hm with hm | hm
  · exact (hd.below b') m hm
  · exact (hdx.below b') m hm

/-- 'append' of nothing. -/
theorem wpList_noF {ops : Array Oper} {rest : List Oper} {p : Oper} {a : Act} {w : World} {Q : Exit → Act → World → Prop} (hgd : p.guard = none) (s x : Operand)
    (ho : p.op = .call { callee := .builtin .append, args := #[s, x], argTypes := #[29, 29] })
    (ao : Option Addr) (n c : Nat) (hs : a.eval s = .slice ao n c) (hle : n ≤ c) (xv : Value) (hx : a.eval x = xv) (hsrc : Src Tryz.prog 4 29 xv 0 [] w)
    (h : wpList Tryz.prog ops Q rest (a.put p.dst (.slice ao n c)) w) : wpList Tryz.prog ops Q (p :: rest) a w := by
  obtain ⟨i0, hi, hz0, hz1, hz2⟩ := info_parts infoF
  have hrun := run_append_nothing w 29 29 p.type 26 i0 Tryz.underlying29 hi ao n c hle xv (by rw [hz1]; exact hsrc)
  refine wpList_plain hgd fun K hK => ?_
  unfold Oper.wp
  simp [execOp, ho, resolve, invoke, builtin, hs, hx, hrun, Result.andThen]
  exact hK _ _ h

theorem add_lit (g o j : Nat) : (⟨g, o, none⟩ : Addr).add j = ⟨g, o + j, none⟩ := by unfold Addr.add; split <;> simp_all
theorem splL_shortB {L : List Frm} {p q : Nat} {F : List Frm} (hp : p ≤ L.length) (hs8 : ∀ j, j < L.length → (nthF L j).D.length ≤ 1048576) (hf : ∀ f ∈ F, f.D.length ≤ 8) : ∀ j, j < (splL L p q F).length → (nthF (splL L p q F) j).D.length ≤ 1048576 := by
  intro j hj
  have hm : nthF (splL L p q F) j ∈ splL L p q F := by rw [nthF_eq hj]; exact List.getElem_mem hj
  generalize nthF (splL L p q F) j = x at hm
  have hL : ∀ x ∈ L, x.D.length ≤ 1048576 := by
    intro x hx
    obtain ⟨i, hi, rfl⟩ := List.mem_iff_getElem.1 hx
    have := hs8 i hi
    rwa [nthF_eq hi] at this
  simp only [splL, List.mem_append] at hm
  rcases hm with hm | hm | hm
  · have := hL x (List.mem_of_mem_take hm); omega
  · have := hf x hm; omega
  · have := hL x (List.mem_of_mem_drop hm); omega
theorem splL_short {L : List Frm} {p q : Nat} {F : List Frm} (hp : p ≤ L.length) (hs8 : ∀ j, j < L.length → (nthF L j).D.length ≤ 8) (hf : ∀ f ∈ F, f.D.length ≤ 8) : ∀ j, j < (splL L p q F).length → (nthF (splL L p q F) j).D.length ≤ 1048576 := splL_shortB hp (fun j hj => by have := hs8 j hj; omega) hf
theorem GotF.mono {L : List Frm} {w0 w : World} {e : Ending} {w' : World} (h : GotF L w e w') (b : Below w0.heap.size w0 w) : GotF L w0 e w' := by
  obtain ⟨M, a, c, he, hM, hO, hF, hb⟩ := h
  exact ⟨M, a, c, he, hM, hO.mono b.size, hF, b.trans (hb.mono b.size)⟩

set_option maxHeartbeats 2000000 in
/-- With one frame. -/
theorem splicedOneB (g o : Nat) (L : List Frm) (c : Nat) (p q : Nat) (f : Frm) (g1 c1 : Nat) (adf : Option Addr) (cf : Nat) (w : World) (hd : Frs (some ⟨g, o, none⟩) L w) (hc : L.length ≤ c) (hf : FrC g1 0 adf cf f w)
    (hp : p ≤ q) (hq : q ≤ L.length) (hL : L.length ≤ 1000) (hs8 : ∀ j, j < L.length → (nthF L j).D.length ≤ 1048576) (hf8 : f.D.length ≤ 8) :
    Calls Tryz.prog 183 #[.slice (some ⟨g, o, none⟩) L.length c, .int .i64 p, .int .i64 q, .slice (some ⟨g1, 0, none⟩) 1 c1] w (GotF (splL L p q [f]) w) := by
  obtain ⟨M, hM, hD, hcell⟩ := hd.flat
  have hml : M.length = L.length := by rw [← hM]; simp
  have hlen := splL_len (L := L) (p := p) (q := q) (F := [f]) (by omega)
  have hsh := Lib.hid (splL_shortB (L := L) (p := p) (q := q) (F := [f]) (by omega) hs8 (fun x hx => by simp at hx; rw [hx]; exact hf8))
  simp only [List.length_singleton] at hlen
  have hDx : Dat [(f, .slice adf f.D.length cf)] w := fun m hm => by simp at hm; subst hm; exact ⟨adf, cf, rfl, hf.2⟩
  have hDt : Dat (M.take p) w := fun m hm => hD m (List.mem_of_mem_take hm)
  have hDd : Dat (M.drop q) w := fun m hm => hD m (List.mem_of_mem_drop hm)
  have hct : ∀ j u, (flatF (M.take p))[j]? = some u → w.cell? ((⟨g, o, none⟩ : Addr).add j) = some u := fun j u hu => by rw [add_lit]; exact hcell j u (flatF_take hu)
  have hcd : ∀ j u, (flatF (M.drop q))[j]? = some u → w.cell? ((⟨g, o + q * 4, none⟩ : Addr).add j) = some u := fun j u hu => by rw [add_lit, Nat.add_assoc]; exact hcell _ u (flatF_drop (by omega) hu)
  have hcx : ∀ j u, (flatF [(f, Value.slice adf f.D.length cf)])[j]? = some u → w.cell? ((⟨g1, 0, none⟩ : Addr).add j) = some u := by
    obtain ⟨⟨k0, k1, k2, k3⟩, _⟩ := hf
    intro j u hu
    rw [add_lit, Nat.zero_add]
    match j, hu with
    | 0, hu => simp [flatF] at hu; subst hu; exact k0
    | 1, hu => simp [flatF] at hu; subst hu; exact k1
    | 2, hu => simp [flatF] at hu; subst hu; exact k2
    | 3, hu => simp [flatF] at hu; subst hu; exact k3
  have htl : (M.take p).length = p := by simp; omega
  have hdl : (M.drop q).length = L.length - q := by simp; omega
  have hmap := Lib.hid (map_take_drop hM p q [(f, Value.slice adf f.D.length cf)])
  obtain ⟨At, hAt⟩ : ∃ At, At = M.take p := ⟨_, rfl⟩
  obtain ⟨Ad, hAd⟩ : ∃ Ad, Ad = M.drop q := ⟨_, rfl⟩
  rw [← hAt] at hDt hct htl hmap
  rw [← hAd] at hDd hcd hdl hmap
  replace hDt := Lib.hid hDt
  replace hDd := Lib.hid hDd
  replace hDx := Lib.hid hDx
  replace hct := Lib.hid hct
  replace hcd := Lib.hid hcd
  replace hcx := Lib.hid hcx
  clear hAt hAd hM hD hcell hml
  go_enter Tryz.func183, Tryz.ntmps183
  go_wp2_with (at_builtin; (refine wpList_growF rfl _ _ rfl At [(f, .slice adf f.D.length cf)] (some ⟨g, o, none⟩) p p htl rfl (fun e => by cases e) (fun b e => by cases e; exact hct.out) ⟨g1, 0, none⟩ 1 c1 rfl rfl hcx.out hDt.out hDx.out ?c1 ?c2 ?_))
  case c1 => omega
  case c2 => omega
  intro v1 w1 R1 D1 b1
  have hcd1 := Lib.hid (show ∀ j u, (flatF Ad)[j]? = some u → w1.cell? ((⟨g, o + q * 4, none⟩ : Addr).add j) = some u from fun j u hu => (b1.cell (World.block_lt_of_cell? w _ (hcd.out j u hu))).trans (hcd.out j u hu))
  have hal : (At ++ [(f, Value.slice adf f.D.length cf)]).length = p + 1 := by simp [htl]
  have hA1w : Dat (At ++ [(f, Value.slice adf f.D.length cf)]) w := fun m hm => by
    rcases List.mem_append.1 hm with hm | hm
    · exact hDt.out m hm
    · exact hDx.out m hm
  have hsz1 := b1.size
  clear hct hcx hDt hDx hd hf D1
  generalize hA1 : At ++ [(f, Value.slice adf f.D.length cf)] = A1 at *
  have hap : (A1 ++ Ad).map (fun m => m.1) = splL L p q [f] := by rw [← hA1, List.append_assoc]; exact hmap.out
  have hall : (A1 ++ Ad).length = (splL L p q [f]).length := by rw [List.length_append, hal, hdl, hlen]; omega
  have hSl : (splL L p q [f]).length ≤ 1000000 := by omega
  replace hap := Lib.hid hap
  replace hall := Lib.hid hall
  replace hA1w := Lib.hid hA1w
  clear hA1 hmap hcd htl hlen
  generalize splL L p q [f] = S at *
  by_cases hcq : c = q
  · have hq0 : L.length - q = 0 := by omega
    have hA0 : Ad = [] := List.eq_nil_of_length_eq_zero (by omega)
    go_wp2_with (at_builtin; (refine wpList_ownF rfl _ _ rfl w.heap.size A1 Ad v1 rfl R1 ⟨g, o, none⟩ 0 0 (by rw [hA0]; rfl) rfl (fun j u hu => by rw [hA0] at hu; cases hu) w (Nat.le_refl _) hsz1 b1 hA1w.out hDd.out (by omega) ?_))
    intro v2 w2 R2 D2 b2 _
    obtain ⟨a2, c2, e2, F2⟩ := row_frs R2 D2 (by omega)
    have hap' := hap.out
    have hall' := hall.out
    rw [hA0, List.append_nil] at hap' hall'
    rw [hap'] at F2
    rw [hall'] at e2
    subst e2
    clear R1 R2 D2 hcd1 hA1w hDd hap' hall' hA0 hal hdl
    go_wp2_with fail
    refine (copiedFrames a2 S c2 w2 F2 hSl hsh.out).mono ?_
    intro e w3 G3
    replace G3 := GotF.mono G3 b2
    obtain ⟨M3, a3, c3, rfl, G3⟩ := G3
    replace G3 := Lib.hid G3
    go_wp2_with fail
    go_ret
    exact ⟨M3, a3, c3, rfl, G3.out⟩
  · go_wp2_with (at_builtin; (refine wpList_ownF rfl _ _ rfl w.heap.size A1 Ad v1 rfl R1 ⟨g, o + q * 4, none⟩ (L.length - q) (c - q) hdl rfl hcd1.out w (Nat.le_refl _) hsz1 b1 hA1w.out hDd.out (by omega) ?_))
    intro v2 w2 R2 D2 b2 _
    obtain ⟨a2, c2, e2, F2⟩ := row_frs R2 D2 (by rw [hall.out]; omega)
    rw [hap.out] at F2
    rw [hall.out] at e2
    subst e2
    clear R1 R2 D2 hcd1 hA1w hDd
    go_wp2_with fail
    refine (copiedFrames a2 S c2 w2 F2 hSl hsh.out).mono ?_
    intro e w3 G3
    replace G3 := GotF.mono G3 b2
    obtain ⟨M3, a3, c3, rfl, G3⟩ := G3
    replace G3 := Lib.hid G3
    go_wp2_with fail
    go_ret
    exact ⟨M3, a3, c3, rfl, G3.out⟩


set_option maxHeartbeats 2000000 in
/-- With none. -/
theorem splicedNone (g o : Nat) (L : List Frm) (c : Nat) (p q : Nat) (w : World) (hd : Frs (some ⟨g, o, none⟩) L w) (hc : L.length ≤ c)
    (hp : p < q) (hq : q ≤ L.length) (hL : L.length ≤ 16) (hs8 : ∀ j, j < L.length → (nthF L j).D.length ≤ 8) :
    Calls Tryz.prog 183 #[.slice (some ⟨g, o, none⟩) L.length c, .int .i64 p, .int .i64 q, .slice none 0 0] w (GotF (splL L p q []) w) := by
  obtain ⟨M, hM, hD, hcell⟩ := hd.flat
  have hml : M.length = L.length := by rw [← hM]; simp
  have hlen := splL_len (L := L) (p := p) (q := q) (F := []) (by omega)
  have hsh := Lib.hid (splL_short (L := L) (p := p) (q := q) (F := []) (by omega) hs8 (fun x hx => by cases hx))
  simp only [List.length_nil] at hlen
  have hDt : Dat (M.take p) w := fun m hm => hD m (List.mem_of_mem_take hm)
  have hDd : Dat (M.drop q) w := fun m hm => hD m (List.mem_of_mem_drop hm)
  have hct : ∀ j u, (flatF (M.take p))[j]? = some u → w.cell? ((⟨g, o, none⟩ : Addr).add j) = some u := fun j u hu => by rw [add_lit]; exact hcell j u (flatF_take hu)
  have hcd : ∀ j u, (flatF (M.drop q))[j]? = some u → w.cell? ((⟨g, o + q * 4, none⟩ : Addr).add j) = some u := fun j u hu => by rw [add_lit, Nat.add_assoc]; exact hcell _ u (flatF_drop (by omega) hu)
  have htl : (M.take p).length = p := by simp; omega
  have hdl : (M.drop q).length = L.length - q := by simp; omega
  have hmap := Lib.hid (map_take_drop hM p q [])
  have hfr0 : q = L.length → Frs (some ⟨g, o, none⟩) (splL L p q []) w := fun e => by
    have e2 : splL L p q [] = L.take p := by rw [splL, e, List.drop_length]; simp
    rw [e2]
    refine ⟨by have := hd.1; simp; omega, fun j hj => ?_⟩
    have hj' : j < p := by simp at hj; omega
    rw [nthF_take hj']
    exact hd.2 j (by omega)
  obtain ⟨At, hAt⟩ : ∃ At, At = M.take p := ⟨_, rfl⟩
  obtain ⟨Ad, hAd⟩ : ∃ Ad, Ad = M.drop q := ⟨_, rfl⟩
  rw [← hAt] at hDt hct htl hmap
  rw [← hAd] at hDd hcd hdl hmap
  replace hDt := Lib.hid hDt
  replace hDd := Lib.hid hDd
  replace hct := Lib.hid hct
  replace hcd := Lib.hid hcd
  replace hfr0 := Lib.hid hfr0
  have hap : (At ++ Ad).map (fun m => m.1) = splL L p q [] := hmap.out
  have hall : (At ++ Ad).length = (splL L p q []).length := by rw [List.length_append, htl, hdl, hlen]; omega
  have hSl : (splL L p q []).length ≤ 1000000 := by omega
  have hS0 := Lib.hid (show q = L.length → (splL L p q []).length = p by omega)
  replace hap := Lib.hid hap
  replace hall := Lib.hid hall
  clear hAt hAd hM hD hcell hml hd hmap hlen
  go_enter Tryz.func183, Tryz.ntmps183
  go_upto_region 2 with (at_builtin; (refine wpList_noF rfl _ _ rfl (some ⟨g, o, none⟩) p p rfl (Nat.le_refl _) (.slice none 0 0) rfl (Src.ofNil w Tryz.underlying29 0) ?_))
  generalize splL L p q [] = S at *
  by_cases hqe : q = L.length
  · have hfr := hfr0.out hqe
    have hS := hS0.out hqe
    have hlq : L.length - q = 0 := by omega
    clear hct hcd hDt hDd hap hall
    by_cases hcq : c = q
    · go_wp2_with (at_builtin; (refine wpList_noF rfl _ _ rfl (some ⟨g, o, none⟩) p p rfl (Nat.le_refl _) (.slice (some ⟨g, o, none⟩) 0 0) rfl (Src.ofSlice w Tryz.underlying29 ⟨g, o, none⟩ 0 0 [] rfl (fun j u hu => by cases hu) (fun u hu => by cases hu)) ?_))
      have hcp := copiedFrames (some ⟨g, o, none⟩) S p w hfr hSl hsh.out
      rw [hS] at hcp
      refine hcp.mono ?_
      rintro e w3 ⟨M3, a3, c3, rfl, G3⟩
      replace G3 := Lib.hid G3
      go_wp2_with fail
      go_ret
      exact ⟨M3, a3, c3, by rw [hS] <;> rfl, G3.out⟩
    · go_wp2_with (at_builtin; (refine wpList_noF rfl _ _ rfl (some ⟨g, o, none⟩) p p rfl (Nat.le_refl _) (.slice (some ⟨g, o + q * 4, none⟩) 0 (c - q)) rfl (Src.ofSlice w Tryz.underlying29 ⟨g, o + q * 4, none⟩ 0 (c - q) [] rfl (fun j u hu => by cases hu) (fun u hu => by cases hu)) ?_))
      have hcp := copiedFrames (some ⟨g, o, none⟩) S p w hfr hSl hsh.out
      rw [hS] at hcp
      refine hcp.mono ?_
      rintro e w3 ⟨M3, a3, c3, rfl, G3⟩
      replace G3 := Lib.hid G3
      go_wp2_with fail
      go_ret
      exact ⟨M3, a3, c3, by rw [hS] <;> rfl, G3.out⟩
  · have hcq : ¬ c = q := by omega
    go_wp2_with (at_builtin; (refine wpList_growF rfl _ _ rfl At Ad (some ⟨g, o, none⟩) p p htl rfl (fun e => by cases e) (fun b e => by cases e; exact hct.out) ⟨g, o + q * 4, none⟩ (L.length - q) (c - q) hdl rfl hcd.out hDt.out hDd.out (by omega) (by omega) ?_))
    intro v2 w2 R2 D2 b2
    obtain ⟨a2, c2, e2, F2⟩ := row_frs R2 D2 (by rw [hall.out]; omega)
    rw [hap.out] at F2
    rw [hall.out] at e2
    subst e2
    clear R2 D2 hct hcd hDt hDd hS0 htl hdl
    go_wp2_with fail
    refine (copiedFrames a2 S c2 w2 F2 hSl hsh.out).mono ?_
    intro e w3 G3
    replace G3 := GotF.mono G3 b2
    obtain ⟨M3, a3, c3, rfl, G3⟩ := G3
    replace G3 := Lib.hid G3
    go_wp2_with fail
    go_ret
    exact ⟨M3, a3, c3, rfl, G3.out⟩

set_option maxHeartbeats 2000000 in
/-- With one frame, the box nil. -/
theorem splicedNil (f : Frm) (g1 c1 : Nat) (adf : Option Addr) (cf : Nat) (w : World) (hf : FrC g1 0 adf cf f w) (hf8 : f.D.length ≤ 8) :
    Calls Tryz.prog 183 #[.slice none 0 0, .int .i64 0, .int .i64 0, .slice (some ⟨g1, 0, none⟩) 1 c1] w (GotF [f] w) := by
  have hDx : Dat [(f, .slice adf f.D.length cf)] w := fun m hm => by simp at hm; subst hm; exact ⟨adf, cf, rfl, hf.2⟩
  have hcx : ∀ j u, (flatF [(f, Value.slice adf f.D.length cf)])[j]? = some u → w.cell? ((⟨g1, 0, none⟩ : Addr).add j) = some u := by
    obtain ⟨⟨k0, k1, k2, k3⟩, _⟩ := hf
    intro j u hu
    rw [add_lit, Nat.zero_add]
    match j, hu with
    | 0, hu => simp [flatF] at hu; subst hu; exact k0
    | 1, hu => simp [flatF] at hu; subst hu; exact k1
    | 2, hu => simp [flatF] at hu; subst hu; exact k2
    | 3, hu => simp [flatF] at hu; subst hu; exact k3
  have hsh := Lib.hid (show ∀ j, j < [f].length → (nthF [f] j).D.length ≤ 1048576 from fun j hj => by
    have : j = 0 := by simp at hj; exact hj
    subst this
    show f.D.length ≤ _
    omega)
  replace hDx := Lib.hid hDx
  replace hcx := Lib.hid hcx
  go_enter Tryz.func183, Tryz.ntmps183
  go_upto_region 2 with (at_builtin; (refine wpList_growF rfl _ _ rfl [] [(f, .slice adf f.D.length cf)] none 0 0 rfl rfl (fun _ => ⟨rfl, rfl⟩) (fun b e => by cases e) ⟨g1, 0, none⟩ 1 c1 rfl rfl hcx.out (fun m hm => by cases hm) hDx.out (by omega) (by omega) ?_))
  intro v1 w1 R1 D1 b1
  clear hcx hDx hf
  have hle : ∀ a c, v1 = .slice a 1 c → 1 ≤ c := by
    intro a c e
    rcases R1.2 with ⟨h1, h2⟩ | ⟨_, _, _, h1, _, _, h2, _⟩
    · cases h2
    · rw [e] at h1; cases h1; exact h2
  obtain ⟨a2, c2, e2, F2⟩ := row_frs R1 D1 (by simp)
  simp only [List.nil_append, List.length_singleton, List.map_cons, List.map_nil] at e2 F2
  have h1 := hle _ _ e2
  subst e2
  clear R1 D1 hle
  go_wp2_with (at_builtin; (refine wpList_noF rfl _ _ rfl a2 1 c2 rfl h1 (.slice none 0 0) rfl (Src.ofNil w1 Tryz.underlying29 0) ?_))
  refine (copiedFrames a2 [f] c2 w1 F2 (by simp) hsh.out).mono ?_
  intro e w3 G3
  replace G3 := GotF.mono G3 b1
  obtain ⟨M3, a3, c3, rfl, G3⟩ := G3
  replace G3 := Lib.hid G3
  go_wp2_with fail
  go_ret
  exact ⟨M3, a3, c3, rfl, G3.out⟩
end Go.Proofs.YtngcekegngmedaaGreatDoor

/- impl.PutIn and impl.TakenOut: their answers' frames stand in rows of their own. -/

set_option linter.unusedVariables false
set_option linter.unusedSimpArgs false
set_option maxRecDepth 20000
namespace Go.Proofs.YtngcekegngmedaaGreatDoor
open Go.RowKit

/-- The slice is nil, or it has an address of a row. -/
def Addressed (a : Option Addr) (c : Nat) : Prop := (a = none ∧ c = 0) ∨ ∃ g o, a = some ⟨g, o, none⟩
/-- What PutIn leaves. -/
def PutGot (R : List Frm × Int) (w : World) (e : Ending) (w' : World) : Prop :=
  ∃ (M : List (Frm × Value)) (a : Option Addr) (c : Nat), e = .returned (.tuple #[.slice a R.1.length c, .int .i64 R.2]) ∧ (M.map fun m => m.1) = R.1 ∧ OwnF w.heap.size M (.slice a R.1.length c) w' ∧ Far M ∧ Below w.heap.size w w'
theorem far_nil : Far [] := fun i j hi => by simp at hi
theorem own_nil (B : Nat) (w : World) : OwnF B [] (.slice none 0 0) w := ⟨World.ownsRow_nil w B _ 4, fun m hm => by cases hm⟩
theorem Addressed.nil {c : Nat} {L : List Frm} {w : World} (h : Frs none L w) (hc : L.length ≤ c) (ha : Addressed none c) : L = [] ∧ c = 0 := by
  have hc0 : c = 0 := by
    rcases ha with ⟨-, h0⟩ | ⟨g, o, e⟩
    · exact h0
    · cases e
  exact ⟨List.eq_nil_of_length_eq_zero (by omega), hc0⟩

set_option maxHeartbeats 2000000 in
/-- impl.TakenOut. -/
theorem implTakenOut (a : Option Addr) (L : List Frm) (c : Nat) (r : Int) (w : World) (hd : Frs a L w) (hc : L.length ≤ c) (ha : Addressed a c) :
    Calls Tryz.prog 268 #[.slice a L.length c, .int .i64 r] w (GotF (outV L r) w) := by
  go_enter Tryz.func268, Tryz.ntmps268
  go_wp2_with fail
  refine (implBoxOk a L c w hd).mono ?_
  rintro e w1 ⟨he, bw⟩
  replace hd := hd.below bw
  cases hb : boxB L with
  | false =>
    rw [hb] at he
    subst he
    have HV := Lib.hid (outV_bad r hb)
    clear hb
    go_wp2_with fail
    go_ret
    exact ⟨[], none, 0, by rw [HV.out] <;> rfl, by rw [HV.out] <;> rfl, by rw [HV.out]; exact own_nil _ _, far_nil, bw⟩
  | true =>
    rw [hb] at he
    subst he
    have hB := boxB_iff.1 hb
    have h8 : ∀ j, j < L.length → (nthF L j).D.length ≤ 8 := fun j hj => hB.2.short hj
    have h16 := hB.1
    have hsh := Lib.hid (show ∀ j, j < L.length → (nthF L j).D.length ≤ 1048576 from fun j hj => by have := h8 j hj; omega)
    replace h8 := Lib.hid h8
    replace hB := Lib.hid hB.2
    replace hb := Lib.hid hb
    go_wp2_with fail
    refine (placeIn a L c r w1 hd h16 hB.out).mono ?_
    rintro e w4 ⟨p, rfl, hP, b1⟩
    replace hd := hd.below b1
    replace bw := Below.then2 bw b1
    clear b1
    replace hP := Lib.hid hP
    cases hm : metB L r p with
    | true =>
      have hml := (metB_yes.1 hm).1
      have HV := Lib.hid (outV_met hb.out hP.out hm)
      clear hm
      cases a with
      | none => have := (Addressed.nil hd hc ha).1; subst this; simp at hml
      | some A =>
        obtain ⟨g, o, e⟩ : ∃ g o, A = ⟨g, o, none⟩ := by
          rcases ha with ⟨e, _⟩ | ⟨g, o, e⟩
          · cases e
          · cases e; exact ⟨g, o, rfl⟩
        subst e
        go_wp2_with fail
        refine (splicedNone g o L c p (p + 1) w4 hd hc (by omega) (by omega) h16 h8.out).mono ?_
        intro e w5 G3
        replace G3 := GotF.mono G3 bw
        obtain ⟨M3, a3, c3, rfl, G3⟩ := G3
        replace G3 := Lib.hid G3
        go_wp2_with fail
        go_ret
        exact ⟨M3, a3, c3, by rw [HV.out] <;> rfl, by rw [HV.out]; exact G3.out⟩
    | false =>
      have HV := Lib.hid (outV_not hb.out hP.out hm)
      clear hm
      go_wp2_with fail
      refine (copiedFrames a L c w4 hd (by omega) hsh.out).mono ?_
      intro e w5 G3
      replace G3 := GotF.mono G3 bw
      obtain ⟨M3, a3, c3, rfl, G3⟩ := G3
      replace G3 := Lib.hid G3
      go_wp2_with fail
      go_ret
      exact ⟨M3, a3, c3, by rw [HV.out] <;> rfl, by rw [HV.out]; exact G3.out⟩
end Go.Proofs.YtngcekegngmedaaGreatDoor

/- spec.PutIn. -/

set_option linter.unusedVariables false
set_option linter.unusedSimpArgs false
namespace Go.Proofs.YtngcekegngmedaaGreatDoor
open Go.RowKit

theorem flatF_takes {M : List (Frm × Value)} {p : Nat} (hp : p ≤ M.length) : (flatF M).take (p * 4) = flatF (M.take p) := by
  conv => lhs; rw [← List.take_append_drop p M, flatF_append]
  have hl : (flatF (M.take p)).length = p * 4 := by rw [flatF_len, List.length_take, Nat.min_eq_left hp]
  rw [List.take_append_of_le_length (by omega), List.take_of_length_le (by omega)]
theorem OwnF.take {B g c p : Nat} {M : List (Frm × Value)} {w : World} (h : OwnF B M (.slice (some ⟨g, 0, none⟩) M.length c) w) (hp : p ≤ M.length) : OwnF B (M.take p) (.slice (some ⟨g, 0, none⟩) p c) w := by
  have hl : (M.take p).length = p := by simp; omega
  refine ⟨⟨flatF_len _, ?_⟩, fun m hm => h.2 m (List.mem_of_mem_take hm)⟩
  rw [hl]
  rcases h.1.2 with ⟨e, _⟩ | ⟨g', cap, cur, e, hb, hg, h1, h2, h3, h4⟩
  · cases e
  · cases e
    refine .inr ⟨g, c, cur, rfl, hb, hg, by omega, h2, h3, ?_⟩
    rw [← flatF_takes hp, ← h4, List.take_take]
    congr 1
    omega
theorem map_set {M : List (Frm × Value)} {L : List Frm} {j : Nat} {f : Frm} {dv : Value} (h : (M.map fun m => m.1) = L) (hj : j < L.length) : ((M.set j (f, dv)).map fun m => m.1) = splL L j (j + 1) [f] := by
  rw [List.map_set, h, List.set_eq_take_append_cons_drop, if_pos hj]; rfl
/-- What spec.PutIn leaves. -/
def PutO (R : List Frm × Int) (w : World) (e : Ending) (w' : World) : Prop :=
  ∃ (M : List (Frm × Value)) (g c : Nat), e = .returned (.tuple #[.slice (some ⟨g, 0, none⟩) R.1.length c, .int .i64 R.2]) ∧ (M.map fun m => m.1) = R.1 ∧ OwnF w.heap.size M (.slice (some ⟨g, 0, none⟩) R.1.length c) w' ∧ Below w.heap.size w w'


end Go.Proofs.YtngcekegngmedaaGreatDoor

/- How great the boxes' answers are, and small things for the exact laws. No program's walk in it. -/

set_option linter.unusedVariables false
set_option linter.unusedSimpArgs false
set_option maxRecDepth 20000
namespace Go.Proofs.YtngcekegngmedaaGreatDoor
open Go.RowKit

/-- Not more than 16 frames, of not more than 8 data each. -/
def Lean16 (X : List Frm) : Prop := X.length ≤ 16 ∧ ∀ x ∈ X, x.D.length ≤ 8
theorem Lean16.nil : Lean16 [] := ⟨Nat.zero_le _, fun x hx => by cases hx⟩
theorem Lean16.box {L : List Frm} (h : boxB L = true) : Lean16 L := by
  have hB := boxB_iff.1 h
  refine ⟨hB.1, fun x hx => ?_⟩
  obtain ⟨j, hj, rfl⟩ := List.mem_iff_getElem.1 hx
  have := hB.2.short hj
  rwa [nthF_eq hj] at this
theorem Lean16.room {X : List Frm} (h : Lean16 X) : ∀ k, k ≤ X.length → room X k ≤ 8 * k := by
  intro k
  induction k with
  | zero => intro _; rw [room_zero]; exact Nat.le_refl _
  | succ k ih =>
    intro hk
    rw [room_succ X k (by omega)]
    have h1 := ih (by omega)
    have h2 := h.2 (nthF X k) (by rw [nthF_eq (by omega)]; exact List.getElem_mem _)
    omega
theorem OwnF.addressed {B n c : Nat} {M : List (Frm × Value)} {a : Option Addr} {w : World} (h : OwnF B M (.slice a n c) w) : Addressed a c := by
  rcases h.1.2 with ⟨e, _⟩ | ⟨g, cap, cur, e, _⟩
  · cases e; exact .inl ⟨rfl, rfl⟩
  · cases e; exact .inr ⟨g, 0, rfl⟩
theorem OwnF.frsOf {B n c : Nat} {M : List (Frm × Value)} {a : Option Addr} {X : List Frm} {w : World} (h : OwnF B M (.slice a n c) w) (hM : (M.map fun m => m.1) = X) (hn : X.length ≤ 2000000) : Frs a X w := by
  obtain ⟨a', c', e, hf⟩ := h.frs (by have := congrArg List.length hM; simp at this; omega)
  simp only [Value.slice.injEq] at e
  obtain ⟨rfl, _, _⟩ := e
  rw [hM] at hf
  exact hf
/-- The two answers of PutIn, by their parts. -/
def PutOx (X : List Frm) (k : Int) (w : World) (e : Ending) (w' : World) : Prop :=
  ∃ (M : List (Frm × Value)) (g c : Nat), e = .returned (.tuple #[.slice (some ⟨g, 0, none⟩) X.length c, .int .i64 k]) ∧ (M.map fun m => m.1) = X ∧ OwnF w.heap.size M (.slice (some ⟨g, 0, none⟩) X.length c) w' ∧ Below w.heap.size w w'
theorem PutO.parts {X : List Frm} {k : Int} {w w' : World} {e : Ending} (h : PutO (X, k) w e w') : PutOx X k w e w' := h
def PutGotx (X : List Frm) (k : Int) (w : World) (e : Ending) (w' : World) : Prop :=
  ∃ (M : List (Frm × Value)) (a : Option Addr) (c : Nat), e = .returned (.tuple #[.slice a X.length c, .int .i64 k]) ∧ (M.map fun m => m.1) = X ∧ OwnF w.heap.size M (.slice a X.length c) w' ∧ Far M ∧ Below w.heap.size w w'
theorem PutGot.parts {X : List Frm} {k : Int} {w w' : World} {e : Ending} (h : PutGot (X, k) w e w') : PutGotx X k w e w' := h
theorem Bx.mid {g lo hi : Nat} {x0 x1 x2 x3 : Value} {w w' : World} (h : Bx g x0 x1 x2 x3 w) (k : Mid lo hi w w') (hg : g < lo ∨ hi ≤ g) : Bx g x0 x1 x2 x3 w' := (k.block g h.lt hg).trans h
theorem Bx.below' {g : Nat} {x0 x1 x2 x3 : Value} {w w' : World} (h : Bx g x0 x1 x2 x3 w) (b : Below w.heap.size w w') : Bx g x0 x1 x2 x3 w' := (b.block g h.lt).trans h
theorem OwnI.nums2 {Bn : Nat} {D : List Int} {a : Option Addr} {n c : Nat} {w : World} (h : OwnI Bn D (.slice a n c) w) : Nums a D w := by
  obtain ⟨a', c', e, hn⟩ := h.nums
  simp only [Value.slice.injEq] at e
  obtain ⟨rfl, _, _⟩ := e
  exact hn
end Go.Proofs.YtngcekegngmedaaGreatDoor

/- The model's draws for filters: l10Draw, DrawPasses, DrawPushedIn. -/

set_option linter.unusedVariables false
set_option linter.unusedSimpArgs false
set_option maxRecDepth 20000
namespace Go.Proofs.YtngcekegngmedaaGreatDoor
open Go.RowKit

def flatP (M : List (Int × Int)) : List Value := M.flatMap fun f => [.int .i64 f.1, .int .i64 f.2]
theorem flatP_at : ∀ (M : List (Int × Int)) (j : Nat) (h : j < M.length), (flatP M)[j * 2]? = some (.int .i64 M[j].1) ∧ (flatP M)[j * 2 + 1]? = some (.int .i64 M[j].2) := by
  intro M
  induction M with
  | nil => intro j h; simp at h
  | cons m M ih =>
    intro j h
    cases j with
    | zero => exact ⟨rfl, rfl⟩
    | succ j =>
      have k := ih j (by simpa using h)
      have e1 : (j + 1) * 2 = j * 2 + 1 + 1 := by omega
      rw [e1]
      simpa [flatP] using k
/-- The slice v, in a row of the call's own, holds the filters M. -/
def OwnP (B : Nat) (M : List (Int × Int)) (v : Value) (w : World) : Prop := w.ownsRow B 175 2 v M.length (flatP M)
section
variable {B : Nat} {M : List (Int × Int)} {v : Value} {w w' : World}
theorem OwnP.kept {row : Option Nat} (h : OwnP B M v w) (k : w.grownBy w' row) (hne : v.ownBlock = none ∨ v.ownBlock ≠ row) : OwnP B M v w' := World.ownsRow.kept h k hne
theorem OwnP.stay (h : OwnP B M v w) (k : w.grownBy w' none) : OwnP B M v w' := h.kept k (Classical.em _)
theorem OwnP.is (h : OwnP B M v w) : ∃ a c, v = .slice a M.length c := by
  rcases h.2 with ⟨rfl, hn⟩ | ⟨g, cap, cur, rfl, _⟩
  · exact ⟨none, 0, by rw [hn]⟩
  · exact ⟨_, cap, rfl⟩
theorem OwnP.ne_cur {B' p : Nat} {a : Option Addr} {len cap : Nat} (h : OwnP B M v w) (s : St B' p a len cap w) : v.ownBlock ≠ some p := by
  rcases h.2 with ⟨rfl, _⟩ | ⟨g', cap', cur, rfl, _, hg, _⟩
  · simp [Value.ownBlock]
  · intro e
    simp only [Value.ownBlock, Option.some.injEq] at e
    subst e
    obtain ⟨⟨i, h', c⟩, _⟩ := s
    rw [c.block] at hg
    simp at hg
theorem OwnP.low (h : OwnP B M v w) {k : Nat} (hk : v.ownBlock = some k) : B ≤ k := (World.ownsRow.lt h k hk).1
theorem OwnP.fls (h : OwnP B M v w) (hm : M.length ≤ 2000000) : ∃ a c, v = .slice a M.length c ∧ Fls a M w := by
  rcases h.2 with ⟨rfl, hn⟩ | ⟨g, cap, cur, rfl, hrest⟩
  · have e : M = [] := List.length_eq_zero_iff.1 hn
    subst e
    exact ⟨none, 0, rfl, Fls.nil _ _⟩
  · refine ⟨_, cap, rfl, by unfold maxLen; omega, fun j hj => ?_⟩
    obtain ⟨f0, f1⟩ := flatP_at M j hj
    rw [nthP_eq hj]
    refine ⟨g, 0, rfl, ?_, ?_⟩ <;> rw [Nat.zero_add, World.ownsRow.cellAt h _ (by omega)] <;> assumption
end
theorem infoP : (Tryz.prog.info? 175).map (fun i => (i.zero, i.size, i.bytes)) = some (some (.agg #[.int .i64 0, .int .i64 0]), 2, 16) := by kernel_rfl

/-- What stands while filters are drawn: the cursor, the row. -/
structure PS (w0 : World) (B p : Nat) (a : Option Addr) (len cap : Nat) (L : List (Int × Int)) (v : Value) (w : World) : Prop where
  st : St B p a len cap w
  grown : w0.grownBy w (some p)
  own : OwnP w0.heap.size L v w
  pl : p < w0.heap.size
section
variable {w0 : World} {B p : Nat} {a : Option Addr} {len cap : Nat} {L : List (Int × Int)} {v : Value} {w : World}
theorem PS.step {w' : World} (F : PS w0 B p a len cap L v w) (k : w.grownBy w' (some p)) (t : St B p a len cap w') : PS w0 B p a len cap L v w' :=
  ⟨t, grown_trans F.grown k, F.own.kept k (.inr (F.own.ne_cur F.st)), F.pl⟩
theorem PS.alloc (F : PS w0 B p a len cap L v w) (o : Obj) : PS w0 B p a len cap L v (w.alloc o) := F.step (World.grownBy_alloc w o _) (F.st.alloc o)
theorem PS.drew (F : PS w0 B p a len cap L v w) : PS w0 B p a len cap L v w.drew := F.step (grown_drew (grown_refl w _)) F.st.drew
theorem PS.app {L' : List (Int × Int)} {v' : Value} {w' : World} (F : PS w0 B p a len cap L v w) (own' : OwnP w0.heap.size L' v' w') (k : w.grownBy w' v.ownBlock) : PS w0 B p a len cap L' v' w' := by
  have h1 := F.pl
  refine ⟨F.st.step k (fun j e => by have := F.own.low e; omega), ?_, own', h1⟩
  cases hv : v.ownBlock with
  | none => rw [hv] at k; exact grown_trans F.grown (grown_some k _)
  | some q => rw [hv] at k; exact grown_own F.grown k (F.own.low hv)
theorem PS.made {w0 : World} (st : St B p a len cap w0) : PS w0 B p a len cap [] (.slice (some ⟨w0.heap.size, 0, none⟩) 0 0) (w0.alloc (.cells #[] 175)) :=
  ⟨st.alloc _, World.grownBy_alloc w0 _ _, World.ownsRow_made (base := w0.heap.size) (e := 175) (size := 2) w0 #[] 0 (Nat.le_refl _) (Nat.zero_le _) rfl, st.lt⟩
end

/-- Block b holds the numbers C. -/
def HasP (b : Nat) (C : Array Value) (w : World) : Prop := ∃ T z, w.heap[b]? = some (.cells C T z)
theorem HasP.cell {b : Nat} {C : Array Value} {w : World} (h : HasP b C w) {k : Nat} {v : Value} (hv : C[k]? = some v) : w.cell? ⟨b, k, none⟩ = some v := by
  obtain ⟨T, z, h⟩ := h
  simp [World.cell?, h, hv]
theorem HasP.lt {b : Nat} {C : Array Value} {w : World} (h : HasP b C w) : b < w.heap.size := by
  obtain ⟨T, z, h⟩ := h
  exact (Array.getElem?_eq_some_iff.1 h).1
theorem HasP.grown {b p : Nat} {C : Array Value} {w w' : World} (h : HasP b C w) (g : w.grownBy w' (some p)) (hp : b ≠ p) : HasP b C w' := by
  have hl := h.lt
  obtain ⟨T, z, h⟩ := h
  exact ⟨T, z, (g.block b hl (by simpa using hp)).trans h⟩
theorem HasP.made (C : Array Value) (T : TypeId) (w : World) : HasP w.heap.size C (w.alloc (.cells C T)) := ⟨T, (0, 0), heap_alloc_new w _⟩

end Go.Proofs.YtngcekegngmedaaGreatDoor

/- Slices of filters that a call owns: copied, marked, asked for their marks. -/

set_option linter.unusedVariables false
set_option linter.unusedSimpArgs false
set_option maxRecDepth 20000
namespace Go.Proofs.YtngcekegngmedaaGreatDoor
open Go.RowKit

theorem OwnP.below {B : Nat} {M : List (Int × Int)} {v : Value} {w w' : World} (h : OwnP B M v w) (b : Below w.heap.size w w') : OwnP B M v w' := h.stay (grown_at b)
theorem OwnP.mono {B B' : Nat} {M : List (Int × Int)} {v : Value} {w : World} (h : OwnP B M v w) (hb : B' ≤ B) : OwnP B' M v w := by
  obtain ⟨h1, h2 | ⟨g, cap, cur, e, hB, r⟩⟩ := h
  · exact ⟨h1, .inl h2⟩
  · exact ⟨h1, .inr ⟨g, cap, cur, e, by omega, r⟩⟩
theorem OwnP.flsAt {B : Nat} {M : List (Int × Int)} {a : Option Addr} {n c : Nat} {w : World} (h : OwnP B M (.slice a n c) w) (hm : M.length ≤ 2000000) : n = M.length ∧ Fls a M w := by
  obtain ⟨a', c', e, hf⟩ := h.fls hm
  cases e
  exact ⟨rfl, hf⟩
theorem OwnP.mid {lo hi B : Nat} {M : List (Int × Int)} {v : Value} {w w' : World} (h : OwnP B M v w) (k : Mid lo hi w w') (hB : hi ≤ B) : OwnP B M v w' := by
  obtain ⟨h1, h2 | ⟨g, cap, cur, e, hb, hg, r⟩⟩ := h
  · exact ⟨h1, .inl h2⟩
  · exact ⟨h1, .inr ⟨g, cap, cur, e, hb, (k.block g (Array.getElem?_eq_some_iff.1 hg).1 (.inr (by omega))).trans hg, r⟩⟩
theorem flatP_len (M : List (Int × Int)) : (flatP M).length = M.length * 2 := by
  induction M with
  | nil => rfl
  | cons m M ih => simp [flatP] at ih ⊢; omega
theorem RowP.own {G : Nat} {L : List (Int × Int)} {cur : Array Value} {w : World} (h : RowP G L.length L.length L cur w) (hm : L.length ≤ maxLen) {B : Nat} (hB : B ≤ G) :
    OwnP B L (.slice (some ⟨G, 0, none⟩) L.length L.length) w := by
  have hlen := h.len
  refine ⟨flatP_len L, .inr ⟨G, L.length, cur, rfl, hB, h.blk, Nat.le_refl _, hm, hlen, ?_⟩⟩
  have hfl := flatP_len L
  apply List.ext_getElem?
  intro j
  by_cases hj : j < L.length * 2
  · rw [List.getElem?_take, if_pos hj, Array.getElem?_toList]
    obtain ⟨f0, f1⟩ := flatP_at L (j / 2) (by omega)
    obtain ⟨e0, e1⟩ := h.fr (j / 2) (by omega)
    rw [nthP_eq (by omega)] at e0 e1
    have hcase : j = j / 2 * 2 ∨ j = j / 2 * 2 + 1 := by omega
    rcases hcase with hc | hc
    · rw [hc, e0, f0]
    · rw [hc, e1, f1]
  · rw [List.getElem?_eq_none (by simp; omega), List.getElem?_eq_none (by omega)]

/-- laws.toFilterS, and what it owns. -/
theorem toFltsOwn (a : Option Addr) (L : List (Int × Int)) (c : Nat) (w : World) (hd : Fls a L w) (h : L.length ≤ 1048576) :
    Calls Tryz.prog 131 #[.slice a L.length c] w fun e w' => ∃ g, e = .returned (.slice (some ⟨g, 0, none⟩) L.length L.length) ∧ OwnP w.heap.size L (.slice (some ⟨g, 0, none⟩) L.length L.length) w' ∧ Below w.heap.size w w' := by
  have hmk := make_filters L.length h
  go_enter Tryz.func131, Tryz.ntmps131
  go_wp2_with fail
  clear hmk
  go_loopw [4] (fun i wr => ∃ (k : Nat) (cur : Array Value), k ≤ L.length ∧ i = .int .i64 k ∧ RowP w.heap.size L.length k L cur wr ∧ Below w.heap.size w wr) (fun i _ => L.length - (intOf i).toNat)
  case atStart => exact ⟨0, _, Nat.zero_le _, rfl, ⟨heap_alloc_new _ _, by simp [madeCells], fun j hj => absurd hj (by omega)⟩, (Below.refl _ _).alloc (Nat.le_refl _) _⟩
  case round =>
    obtain ⟨k, cur, hk, rfl, R, b⟩ := hrel
    by_cases hlt : k < L.length
    · obtain ⟨g, o, rfl, c0, c1⟩ := (hd.below b).2 k hlt
      have hf0 : nthP L k = ((nthP L k).1, (nthP L k).2) := rfl
      generalize (nthP L k).1 = m at *
      generalize (nthP L k).2 = cc at *
      have hf := Lib.hid hf0
      clear hf0
      go_wp2_with fail
      refine (toFlt _ _ _).mono ?_
      rintro e w2 ⟨rfl, b2⟩
      replace R := R.below b2
      replace b := Below.then2 b b2
      clear b2 c0 c1
      obtain ⟨x0, x1, y0, y1⟩ := R.cells hlt
      have z0 := R.free (k * 2)
      have z1 := R.free (k * 2 + 1)
      go_wp2_with fail
      go_roundw
      case rel =>
        obtain ⟨cur', R'⟩ := R.put hlt hf.out
        exact ⟨k + 1, cur', by omega, by go_num, R', (b.setCell (Nat.le_refl _) _).setCell (Nat.le_refl _) _⟩
      case measure => simp [intOf]; omega
    · obtain rfl : k = L.length := by omega
      go_wp2_with fail
      go_ret
      exact ⟨_, rfl, R.own hd.1 (Nat.le_refl _), b⟩
/-! ### Marks. -/
def mkP (k : Int) (j : Nat) : Int × Int := (k + 2 * (j : Int), k + 2 * (j : Int) + 1)
def mksP (k : Int) (n : Nat) : List (Int × Int) := (List.range n).map (mkP k)
theorem mksP_len (k : Int) (n : Nat) : (mksP k n).length = n := by simp [mksP]
theorem mksP_nth {k : Int} {n j : Nat} (h : j < n) : nthP (mksP k n) j = mkP k j := by
  rw [nthP_eq (by rw [mksP_len]; exact h)]; simp [mksP]
/-- Row G as it stands when the first j filters bear their marks. -/
structure MkP (G n j : Nat) (k : Int) (cur : Array Value) (w : World) : Prop where
  blk : w.heap[G]? = some (.cells cur 175 (0, 0))
  len : n * 2 ≤ cur.size
  lo : ∀ i, i < j → cur[i * 2]? = some (.int .i64 (mkP k i).1) ∧ cur[i * 2 + 1]? = some (.int .i64 (mkP k i).2)
section
variable {G n j : Nat} {k : Int} {cur : Array Value} {w : World}
theorem MkP.free (h : MkP G n j k cur w) (i : Nat) : w.frozen? ⟨G, i, none⟩ = false := frozen_of_row w G i _ _ h.blk
theorem MkP.cells (h : MkP G n j k cur w) (hk : j < n) : ∃ x0 x1, w.cell? ⟨G, j * 2, none⟩ = some x0 ∧ w.cell? ⟨G, j * 2 + 1, none⟩ = some x1 := by
  have hl := h.len
  refine ⟨cur[j * 2], cur[j * 2 + 1], ?_, ?_⟩ <;> rw [cell_of_row w G _ _ _ _ h.blk] <;> exact Array.getElem?_eq_getElem (by omega)
theorem MkP.put (h : MkP G n j k cur w) (hk : j < n) {x y : Int} (hx : x = (mkP k j).1) (hy : y = (mkP k j).2) :
    ∃ cur', cur'.size = cur.size ∧ MkP G n (j + 1) k cur' ((w.setCell ⟨G, j * 2, none⟩ (.int .i64 x)).setCell ⟨G, j * 2 + 1, none⟩ (.int .i64 y)) := by
  have hl := h.len
  subst hx hy
  refine ⟨(cur.setIfInBounds (j * 2) (.int .i64 (mkP k j).1)).setIfInBounds (j * 2 + 1) (.int .i64 (mkP k j).2), by simp, heap_setCell_same _ _ _ _ _ _ (heap_setCell_same _ _ _ _ _ _ h.blk), by simp; omega, fun i hi => ?_⟩
  by_cases e : i = j
  · subst e
    refine ⟨?_, ?_⟩ <;> simp [Array.getElem?_setIfInBounds] <;> omega
  · obtain ⟨e0, e1⟩ := h.lo i (by omega)
    refine ⟨?_, ?_⟩
    all_goals (simp only [Array.getElem?_setIfInBounds]; repeat rw [if_neg (by omega)])
    all_goals assumption
end
end Go.Proofs.YtngcekegngmedaaGreatDoor

/- Filters copied: the builtin copy, append to a new empty slice, impl.copiedFilters. -/

set_option linter.unusedVariables false
set_option linter.unusedSimpArgs false
set_option maxRecDepth 20000
namespace Go.Proofs.YtngcekegngmedaaGreatDoor
open Go.RowKit

theorem flatP_one {M : List (Int × Int)} : ∀ v ∈ flatP M, v.oneCell' = true := by
  intro v hv
  simp only [flatP, List.mem_flatMap] at hv
  obtain ⟨f, -, hf⟩ := hv
  simp at hf
  rcases hf with rfl | rfl <;> rfl
theorem Fls.flat {a : Option Addr} {L : List (Int × Int)} {w : World} (h : Fls a L w) {ad : Addr} (ha : a = some ad) (h0 : 0 < L.length) : ∀ j u, (flatP L)[j]? = some u → w.cell? (ad.add j) = some u := by
  intro j u hu
  have hj : j < L.length * 2 := by have := (List.getElem?_eq_some_iff.1 hu).1; rw [flatP_len] at this; exact this
  obtain ⟨g, o, he, c0, c1⟩ := h.2 (j / 2) (by omega)
  subst ha
  cases he
  have hadd : (⟨g, o, none⟩ : Addr).add j = ⟨g, o + j, none⟩ := by unfold Addr.add; split <;> simp_all
  rw [hadd]
  obtain ⟨f0, f1⟩ := flatP_at L (j / 2) (by omega)
  rw [nthP_eq (by omega)] at c0 c1
  have hcase : j = j / 2 * 2 ∨ j = j / 2 * 2 + 1 := by omega
  rcases hcase with hc | hc
  · rw [← hc] at f0 c0
    rw [c0, ← hu, f0]
  · rw [← hc] at f1
    rw [show o + j / 2 * 2 + 1 = o + j by omega] at c1
    rw [c1, ← hu, f1]
theorem sizeP {i : TypeInfo} (h : Tryz.prog.info? 175 = some i) : i.size = 2 := by
  obtain ⟨i0, hi, -, h1, -⟩ := info_parts infoP
  rw [h] at hi
  cases hi
  exact h1
theorem run_copyP (w : World) (ty : TypeId) (g dCap : Nat) (a : Option Addr) (L : List (Int × Int)) (c : Nat) (cur : Array Value) (hg : w.heap[g]? = some (.cells cur 175 (0, 0))) (hc : cur.size = L.length * 2) (hd : Fls a L w) :
    ∃ w', (Builtin.copy_ #[30, 30] ty #[.slice (some ⟨g, 0, none⟩) L.length dCap, .slice a L.length c]).run Tryz.prog w = .ok (goInt L.length) w' ∧
      w'.heap[g]? = some (.cells (flatP L).toArray 175 (0, 0)) ∧ w.grownBy w' (some g) := by
  obtain ⟨i, hi, -⟩ := info_parts infoP
  have hs := sizeP hi
  by_cases h0 : L.length = 0
  · have e : L = [] := List.length_eq_zero_iff.1 h0
    subst e
    have hl : ∀ (x : Addr), (loadCells x 0).run Tryz.prog w = .ok #[] w := fun x => by simpa using run_loadCells_list (P := Tryz.prog) w x [] (by simp)
    refine ⟨w, ?_, ?_, grown_refl w _⟩
    · cases a <;> simp [Builtin.copy_, run_underlying Tryz.underlying30, Builtin.lenOf, Builtin.firstCells, sizeOf, typeInfo, hi, hs, storeCells, hl]
    · have : cur = #[] := by simpa using hc
      rw [hg, this]; rfl
  · obtain ⟨g', o', rfl, -⟩ := hd.2 0 (by omega)
    have hl := run_loadCells_list (P := Tryz.prog) w ⟨g', o', none⟩ (flatP L) (hd.flat rfl (by omega))
    have hst := run_storeCells_at Tryz.prog g 0 175 (flatP L) 0 cur w hg (by rw [flatP_len]; omega) flatP_one
    have e : (List.take (0 + 0) cur.toList ++ flatP L ++ List.drop (0 + 0 + (flatP L).length) cur.toList) = flatP L := by
      rw [List.drop_of_length_le (by simp [flatP_len, hc])]; simp
    rw [e] at hst
    refine ⟨w.setRow g (flatP L).toArray, ?_, setRow_heap w g cur _ _ _ hg, ⟨rfl, rfl, rfl, by simp, fun k hk hne => setRow_other w g k _ (fun e => hne (by rw [e]))⟩⟩
    rw [flatP_len] at hl
    simp [Builtin.copy_, run_underlying Tryz.underlying30, Builtin.lenOf, Builtin.firstCells, sizeOf, typeInfo, hi, hs, hl, hst]
/-- 'copy' of filters into a row of the call's own, from its head. -/
theorem wpList_copyP {ops : Array Oper} {rest : List Oper} {p : Oper} {a : Act} {w : World} {Q : Exit → Act → World → Prop} (d s : Operand)
    (ho : p.op = .call { callee := .builtin .copy, args := #[d, s], argTypes := #[30, 30] }) (hgd : p.guard = none)
    (g dCap : Nat) (af : Option Addr) (L : List (Int × Int)) (c : Nat) (hx : a.eval d = .slice (some ⟨g, 0, none⟩) L.length dCap) (hy : a.eval s = .slice af L.length c) (cur : Array Value) (hg : w.heap[g]? = some (.cells cur 175 (0, 0))) (hc : cur.size = L.length * 2) (hd : Fls af L w)
    (h : ∀ w', w'.heap[g]? = some (.cells (flatP L).toArray 175 (0, 0)) → w.grownBy w' (some g) → wpList Tryz.prog ops Q rest (a.put p.dst (goInt L.length)) w') : wpList Tryz.prog ops Q (p :: rest) a w := by
  obtain ⟨w', hrun, h1, h2⟩ := run_copyP w p.type g dCap af L c cur hg hc hd
  refine wpList_plain hgd fun K hK => ?_
  unfold Oper.wp
  simp [execOp, ho, resolve, invoke, builtin, hx, hy, hrun, Result.andThen]
  exact hK _ _ (h w' h1 h2)
theorem ownP_row {L : List (Int × Int)} {w : World} {g B : Nat} (hm : L.length ≤ maxLen) (hB : B ≤ g) (hg : w.heap[g]? = some (.cells (flatP L).toArray 175 (0, 0))) : OwnP B L (.slice (some ⟨g, 0, none⟩) L.length L.length) w := by
  refine ⟨flatP_len L, .inr ⟨g, L.length, _, rfl, hB, hg, Nat.le_refl _, hm, by simp [flatP_len], ?_⟩⟩
  have := flatP_len L
  simp [List.take_of_length_le, this]
/-- impl.copiedFilters. -/
theorem copiedFlts (a : Option Addr) (L : List (Int × Int)) (c : Nat) (w : World) (hd : Fls a L w) (h : L.length ≤ 1048576) :
    Calls Tryz.prog 157 #[.slice a L.length c] w fun e w' => ∃ g, e = .returned (.slice (some ⟨g, 0, none⟩) L.length L.length) ∧ OwnP w.heap.size L (.slice (some ⟨g, 0, none⟩) L.length L.length) w' ∧ Below w.heap.size w w' := by
  have hmk := make_filters L.length h
  have hm := hd.1
  go_enter Tryz.func157, Tryz.ntmps157
  go_upto_region 2 with fail
  clear hmk
  have hg := heap_alloc_new w (.cells (madeCells #[.int .i64 0, .int .i64 0] (L.length * 2)) 175)
  have hb : Below w.heap.size w (w.alloc (.cells (madeCells #[.int .i64 0, .int .i64 0] (L.length * 2)) 175)) := below_more (Below.refl _ _) _
  have hd1 := hd.below hb
  have hsz : (madeCells #[.int .i64 0, .int .i64 0] (L.length * 2)).size = L.length * 2 := by simp [madeCells]
  generalize w.alloc _ = W at hg hb hd1 ⊢
  have hgl : w.heap.size ≤ w.heap.size := Nat.le_refl _
  generalize hgg : w.heap.size = g at hg hgl ⊢
  go_wp2_with (skip; refine wpList_copyP _ _ (by rfl) (by rfl) g L.length a L c (by rfl) (by rfl) _ hg hsz hd1 ?_)
  intro w2 h2 k2
  have own := ownP_row hm (Nat.le_of_eq hgg) h2
  replace hb := hb.grown k2 hb.size (fun q e => by cases e; omega)
  go_wp2_with fail
  go_ret
  exact ⟨g, rfl, own, hb⟩
/-- 'append' of filters to a new empty slice. -/
theorem wpList_newP {ops : Array Oper} {rest : List Oper} {p : Oper} {a : Act} {w : World} {Q : Exit → Act → World → Prop} (s x : Operand)
    (ho : p.op = .call { callee := .builtin .append, args := #[s, x], argTypes := #[30, 30] }) (hgd : p.guard = none)
    (g : Nat) (hs : a.eval s = .slice (some ⟨g, 0, none⟩) 0 0) (af : Option Addr) (L : List (Int × Int)) (c : Nat) (hx : a.eval x = .slice af L.length c) (hg : w.heap[g]? = some (.cells #[] 175 (0, 0))) (hd : Fls af L w) (hnil : af = none → c = 0) (hsz : L.length ≤ 2000000)
    (h : ∀ al cl w', OwnP g L (.slice al L.length cl) w' → w.grownBy w' (some g) → wpList Tryz.prog ops Q rest (a.put p.dst (.slice al L.length cl)) w') : wpList Tryz.prog ops Q (p :: rest) a w := by
  have hlt := (Array.getElem?_eq_some_iff.1 hg).1
  have hown : OwnP g [] (.slice (some ⟨g, 0, none⟩) 0 0) w := ⟨rfl, .inr ⟨g, 0, #[], rfl, Nat.le_refl _, hg, Nat.le_refl _, Nat.zero_le _, rfl, rfl⟩⟩
  obtain ⟨i0, hi, hz0, hz1, hz2⟩ := info_parts infoP
  by_cases h0 : L.length = 0
  · have e : L = [] := List.length_eq_zero_iff.1 h0
    subst e
    have hsrc : Src Tryz.prog i0.size 30 (.slice af 0 c) 0 [] w := by
      cases af with
      | none => rw [hnil rfl]; exact Src.ofNil w Tryz.underlying30 _
      | some ad => exact Src.ofSlice w Tryz.underlying30 ad 0 c [] (by simp) (fun j u hu => by cases hu) (fun u hu => by cases hu)
    have hrun := run_append_nothing w 30 30 p.type 175 i0 Tryz.underlying30 hi (some ⟨g, 0, none⟩) 0 0 (Nat.le_refl _) (.slice af 0 c) hsrc
    refine wpList_plain hgd fun K hK => ?_
    unfold Oper.wp
    simp [execOp, ho, resolve, invoke, builtin, hs, hx, hrun, Result.andThen]
    exact hK _ _ (h _ _ w hown (grown_refl w _))
  · obtain ⟨g', o', rfl, -⟩ := hd.2 0 (by omega)
    refine wpList_append_own _ hgd s x 30 ho g 175 i0 (.agg #[.int .i64 0, .int .i64 0]) 2 16 Tryz.underlying30 hi hz0 hz1 hz2 rfl (by decide) _ 0 [] hs hown ⟨g', o', none⟩ L.length c (flatP L) hx (flatP_len L) (hd.flat rfl (by omega)) flatP_one (by unfold maxLen; omega) (by omega) (Nat.le_of_lt hlt) ?_
    intro v' w' k2 k3 k4
    have hown' : OwnP g L v' w' := by
      unfold OwnP
      simpa using k2
    obtain ⟨av, cv, rfl⟩ := hown'.is
    exact h av cv w' hown' k3
end Go.Proofs.YtngcekegngmedaaGreatDoor

/- impl.PushedIn and spec.PushedIn: their answers' frames stand in rows of their own. -/

set_option linter.unusedVariables false
set_option linter.unusedSimpArgs false
set_option maxRecDepth 20000
namespace Go.Proofs.YtngcekegngmedaaGreatDoor
open Go.RowKit

/-- What PushedIn answers. -/
def pushV (L : List Frm) (f : Frm) : List Frm × Bool := if 32 ≤ L.length ∨ frOk f.id f.rm f.ln f.D = false then (L, false) else (L ++ [f], true)
theorem pushV_full {L : List Frm} {f : Frm} (h : 32 ≤ L.length) : pushV L f = (L, false) := if_pos (.inl h)
theorem pushV_no {L : List Frm} {f : Frm} (h : frOk f.id f.rm f.ln f.D = false) : pushV L f = (L, false) := if_pos (.inr h)
theorem pushV_new {L : List Frm} {f : Frm} (h : ¬ 32 ≤ L.length) (k : frOk f.id f.rm f.ln f.D = true) : pushV L f = (L ++ [f], true) := if_neg (by simp [h, k])
theorem splL_end (L : List Frm) (f : Frm) : splL L L.length L.length [f] = L ++ [f] := by simp [splL]
/-- What PushedIn leaves. -/
def PushGot (X : List Frm) (k : Bool) (w : World) (e : Ending) (w' : World) : Prop :=
  ∃ (M : List (Frm × Value)) (a : Option Addr) (c : Nat), e = .returned (.tuple #[.slice a X.length c, .bool k]) ∧ (M.map fun m => m.1) = X ∧ OwnF w.heap.size M (.slice a X.length c) w' ∧ Far M ∧ Below w.heap.size w w'
def PushO (X : List Frm) (k : Bool) (w : World) (e : Ending) (w' : World) : Prop :=
  ∃ (M : List (Frm × Value)) (g c : Nat), e = .returned (.tuple #[.slice (some ⟨g, 0, none⟩) X.length c, .bool k]) ∧ (M.map fun m => m.1) = X ∧ OwnF w.heap.size M (.slice (some ⟨g, 0, none⟩) X.length c) w' ∧ Below w.heap.size w w'

set_option maxHeartbeats 2000000 in
/-- impl.PushedIn. -/
theorem implPushedIn (a : Option Addr) (L : List Frm) (c : Nat) (id : Int) (rm : Bool) (ln : Int) (ad : Option Addr) (D : List Int) (cd : Nat) (w : World) (hd : Frs a L w) (hc : L.length ≤ c) (ha : Addressed a c) (hn : Nums ad D w) (hL : L.length ≤ 1048576) (hs : ∀ j, j < L.length → (nthF L j).D.length ≤ 1048576) :
    Calls Tryz.prog 266 #[.slice a L.length c, frV id rm ln ad D.length cd] w (PushGot (pushV L ⟨id, rm, ln, D⟩).1 (pushV L ⟨id, rm, ln, D⟩).2 w) := by
  have f0 := Four.made (.int .i64 id) (.bool rm) (.int .i64 ln) (.slice ad D.length cd) 26 (Below.refl w.heap.size w)
  replace hs := Lib.hid hs
  go_enter Tryz.func266, Tryz.ntmps266
  go_upto_region 1 with fail
  replace hd := hd.below f0.2
  replace hn := hn.below f0.2
  generalize w.alloc (.cells #[.int .i64 id, .bool rm, .int .i64 ln, .slice ad D.length cd] 26) = W at *
  by_cases h32 : 32 ≤ L.length
  · have HV := Lib.hid (pushV_full (f := ⟨id, rm, ln, D⟩) h32)
    have bw := f0.2
    go_wp2_with fail
    refine (copiedFramesB a L c W hd hL hs.out).mono ?_
    intro e w5 G3
    replace G3 := GotF.mono G3 bw
    obtain ⟨M3, a3, c3, rfl, G3⟩ := G3
    replace G3 := Lib.hid G3
    go_wp2_with fail
    go_ret2
    rw [HV.out]
    exact ⟨M3, a3, c3, rfl, G3.out⟩
  · obtain ⟨⟨x0, x1, x2, x3⟩, bw⟩ := f0
    have f0 : Four w.heap.size (.int .i64 id) (.bool rm) (.int .i64 ln) (.slice ad D.length cd) w W := ⟨⟨x0, x1, x2, x3⟩, bw⟩
    go_wp2_with fail
    refine (implFrameOk id rm ln ad D cd W hn).mono ?_
    rintro e w2 ⟨he, b1⟩
    replace hd := hd.below b1
    replace hn := hn.below b1
    replace f0 := f0.below b1
    clear b1 x0 x1 x2 x3 bw
    cases hok : frOk id rm ln D with
    | false =>
      rw [hok] at he
      subst he
      have HV := Lib.hid (pushV_no (L := L) (f := ⟨id, rm, ln, D⟩) hok)
      clear hok
      have bw := f0.2
      go_wp2_with fail
      refine (copiedFramesB a L c w2 hd hL hs.out).mono ?_
      intro e w3 G3
      replace G3 := GotF.mono G3 bw
      obtain ⟨M3, a3, c3, rfl, G3⟩ := G3
      replace G3 := Lib.hid G3
      go_wp2_with fail
      go_ret2
      rw [HV.out]
      exact ⟨M3, a3, c3, rfl, G3.out⟩
    | true =>
      rw [hok] at he
      subst he
      have HV := Lib.hid (pushV_new (L := L) (f := ⟨id, rm, ln, D⟩) h32 hok)
      have hf8 := frOk_max hok
      clear hok
      generalize hfr : (⟨id, rm, ln, D⟩ : Frm) = f at *
      have hf8' : f.D.length ≤ 8 := by rw [← hfr]; exact hf8
      have hFC : FrC w2.heap.size 0 ad cd ⟨id, rm, ln, D⟩ (w2.alloc (.cells #[.int .i64 id, .bool rm, .int .i64 ln, .slice ad D.length cd] 26)) :=
        ⟨⟨World.cell?_alloc_at _ _ _ _ rfl, World.cell?_alloc_at _ _ _ _ rfl, World.cell?_alloc_at _ _ _ _ rfl, World.cell?_alloc_at _ _ _ _ rfl⟩, hn.alloc _⟩
      rw [hfr] at hFC
      replace hFC := Lib.hid hFC
      clear hfr
      obtain ⟨⟨x0, x1, x2, x3⟩, bw⟩ := f0
      have bx : Below w.heap.size w (w2.alloc (.cells #[.int .i64 id, .bool rm, .int .i64 ln, .slice ad D.length cd] 26)) := below_more bw _
      cases a with
      | none =>
        obtain ⟨rfl, rfl⟩ := Addressed.nil hd hc ha
        go_wp2_with fail
        refine (splicedNil f w2.heap.size 1 ad cd _ hFC.out hf8').mono ?_
        intro e w5 G3
        replace G3 := GotF.mono G3 bx
        obtain ⟨M3, a3, c3, rfl, G3⟩ := G3
        replace G3 := Lib.hid G3
        go_wp2_with fail
        go_ret2
        rw [HV.out]
        exact ⟨M3, a3, c3, rfl, G3.out⟩
      | some A =>
        obtain ⟨g, o, e⟩ : ∃ g o, A = ⟨g, o, none⟩ := by
          rcases ha with ⟨e, _⟩ | ⟨g, o, e⟩
          · cases e
          · cases e; exact ⟨g, o, rfl⟩
        subst e
        have HS := splicedOneB g o L c L.length L.length f w2.heap.size 1 ad cd _ (hd.alloc (.cells #[.int .i64 id, .bool rm, .int .i64 ln, .slice ad D.length cd] 26)) hc hFC.out (Nat.le_refl _) (Nat.le_refl _) (by omega) hs.out hf8'
        rw [splL_end] at HS
        replace HS := Lib.hid HS
        go_wp2_with fail
        refine HS.out.mono ?_
        intro e w5 G3
        replace G3 := GotF.mono G3 bx
        obtain ⟨M3, a3, c3, rfl, G3⟩ := G3
        replace G3 := Lib.hid G3
        go_wp2_with fail
        go_ret2
        rw [HV.out]
        exact ⟨M3, a3, c3, by simp only [List.length_append, List.length_singleton] <;> rfl, G3.out⟩
set_option maxHeartbeats 2000000 in
/-- spec.PushedIn. -/
theorem specPushedIn (a : Option Addr) (L : List Frm) (c : Nat) (id : Int) (rm : Bool) (ln : Int) (ad : Option Addr) (D : List Int) (cd : Nat) (w : World) (hd : Frs a L w) (hn : Nums ad D w) (hL : L.length ≤ 1048576) (hs : ∀ j, j < L.length → (nthF L j).D.length ≤ 1048576) :
    Calls Tryz.prog 251 #[.slice a L.length c, frV id rm ln ad D.length cd] w (PushO (pushV L ⟨id, rm, ln, D⟩).1 (pushV L ⟨id, rm, ln, D⟩).2 w) := by
  have f0 := Four.made (.int .i64 id) (.bool rm) (.int .i64 ln) (.slice ad D.length cd) 26 (Below.refl w.heap.size w)
  replace hs := Lib.hid hs
  go_enter Tryz.func251, Tryz.ntmps251
  go_upto_region 1 with fail
  replace hd := hd.below f0.2
  replace hn := hn.below f0.2
  generalize w.alloc (.cells #[.int .i64 id, .bool rm, .int .i64 ln, .slice ad D.length cd] 26) = W at *
  have bW := f0.2.size
  go_wp2_with fail
  refine (copyAllB a L c W hd hL hs.out).mono ?_
  rintro e w1 ⟨M, g, c1, rfl, hM, O, b1⟩
  replace O := O.mono bW
  replace hn := hn.below b1
  replace f0 := f0.below b1
  have hml : M.length = L.length := by rw [← hM]; simp
  replace hM := Lib.hid hM
  clear hd b1 bW W
  by_cases h32 : 32 ≤ L.length
  · have HV := Lib.hid (pushV_full (f := ⟨id, rm, ln, D⟩) h32)
    have bw := f0.2
    go_wp2_with fail
    go_ret2
    rw [HV.out]
    exact ⟨M, g, c1, rfl, hM.out, O, bw⟩
  · obtain ⟨⟨x0, x1, x2, x3⟩, bw⟩ := f0
    have f0 : Four w.heap.size (.int .i64 id) (.bool rm) (.int .i64 ln) (.slice ad D.length cd) w w1 := ⟨⟨x0, x1, x2, x3⟩, bw⟩
    go_wp2_with fail
    refine (specFrameOk id rm ln ad D cd w1 hn).mono ?_
    rintro e w2 ⟨he, b1⟩
    replace O := O.below b1
    replace hn := hn.below b1
    replace f0 := f0.below b1
    clear b1 x0 x1 x2 x3 bw
    cases hok : frOk id rm ln D with
    | false =>
      rw [hok] at he
      subst he
      have HV := Lib.hid (pushV_no (L := L) (f := ⟨id, rm, ln, D⟩) hok)
      clear hok
      have bw := f0.2
      go_wp2_with fail
      go_ret2
      rw [HV.out]
      exact ⟨M, g, c1, rfl, hM.out, O, bw⟩
    | true =>
      rw [hok] at he
      subst he
      have HV := Lib.hid (pushV_new (L := L) (f := ⟨id, rm, ln, D⟩) h32 hok)
      have hf8 := frOk_max hok
      clear hok
      obtain ⟨⟨x0, x1, x2, x3⟩, b⟩ := f0
      go_wp2_with fail
      refine (copyFr id rm ln ad D cd w2 hn (by omega)).mono ?_
      rintro e w3 ⟨av, cv, rfl, oA, g2⟩
      replace oA := oA.mono b.size
      replace O := O.stay g2
      replace b := b.trans ((below_new g2).mono b.size)
      clear g2 hn x0 x1 x2 x3
      have O1 := O.stay (World.grownBy_alloc w3 (.cells #[.int .i64 id, .bool rm, .int .i64 ln, .slice av D.length cv] 26) none)
      have o1 := oA.stay (World.grownBy_alloc w3 (.cells #[.int .i64 id, .bool rm, .int .i64 ln, .slice av D.length cv] 26) none)
      have b1 := below_more b (.cells #[.int .i64 id, .bool rm, .int .i64 ln, .slice av D.length cv] 26)
      have hsz1 := b1.size
      have hmb : M.length ≤ 2000000 := by omega
      have hmE := Lib.hid hml
      clear O oA b hml
      go_wp2_with (at_builtin; refine wpList_appF rfl _ _ rfl w.heap.size M ⟨id, rm, ln, D⟩ (.slice av D.length cv) _ rfl O1 o1 w3.heap.size 1 rfl (World.cell?_alloc_at _ _ _ _ rfl) (World.cell?_alloc_at _ _ _ _ rfl) (World.cell?_alloc_at _ _ _ _ rfl) (World.cell?_alloc_at _ _ _ _ rfl) hmb hsz1 ?_)
      intro av2 cv2 w4 O4 g4
      have b4 := b1.grown g4 b1.size (fun q e => (O1.1.lt q e).1)
      clear O1 o1 b1 g4
      obtain ⟨gg, rfl, -, -, -, -⟩ := O4.form (by simp)
      go_wp2_with fail
      go_ret2
      rw [HV.out]
      refine ⟨M ++ [(⟨id, rm, ln, D⟩, .slice av D.length cv)], gg, cv2, ?_, map_snoc hM.out, ?_, b4⟩
      · simp only [List.length_append, List.length_singleton, hmE.out] <;> rfl
      · rw [List.length_append, List.length_singleton, ← hmE.out]; exact O4
end Go.Proofs.YtngcekegngmedaaGreatDoor
