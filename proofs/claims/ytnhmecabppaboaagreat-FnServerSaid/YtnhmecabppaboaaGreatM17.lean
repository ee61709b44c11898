/- impl.spliced: the box with a frame, or none, in the place of some of it: its frames in the answer's own rows. -/
import Derived.Test.YtnhmecabppaboaaGreatM16
import Derived.Test.YtnhmecabppaboaaGreatM3
import Derived.ArgAppend
import Derived.Deep.Slices
import Derived.Deep.Upon
import Derived.Test.YtnhmecabppaboaaGreatM18
import Derived.Test.YtnhmecabppaboaaGreatM14
import Derived.Deep.RegionLaw

set_option linter.unusedVariables false
set_option linter.unusedSimpArgs false
set_option maxRecDepth 20000
namespace Go.Proofs.YtnhmecabppaboaaGreat
open Go.RowKit

theorem flatF_append (A B : List (Frm × Value)) : flatF (A ++ B) = flatF A ++ flatF B := by simp [flatF]
theorem flatF_take {M : List (Frm × Value)} {p j : Nat} {u : Value} (h : (flatF (M.take p))[j]? = some u) : (flatF M)[j]? = some u := by
  conv => lhs; rw [← List.take_append_drop p M, flatF_append]
  have hj := (List.getElem?_eq_some_iff.1 h).1
  rw [List.getElem?_append_left hj, h]
theorem flatF_drop {M : List (Frm × Value)} {q j : Nat} {u : Value} (hq : q ≤ M.length) (h : (flatF (M.drop q))[j]? = some u) : (flatF M)[q * 4 + j]? = some u := by
  conv => lhs; rw [← List.take_append_drop q M, flatF_append]
  have hl : (flatF (M.take q)).length = q * 4 := by rw [flatF_len, List.length_take, Nat.min_eq_left hq]
  rw [List.getElem?_append_right (by omega), hl, Nat.add_sub_cancel_left, h]
/-- The data of each frame can be read. -/
def Dat (M : List (Frm × Value)) (w : World) : Prop := ∀ m ∈ M, ∃ ad c, m.2 = .slice ad m.1.D.length c ∧ Nums ad m.1.D w
theorem Dat.below {M : List (Frm × Value)} {w w' : World} (h : Dat M w) (b : Below w.heap.size w w') : Dat M w' := fun m hm => by
  obtain ⟨ad, c, e, hn⟩ := h m hm
  exact ⟨ad, c, e, hn.below b⟩
theorem Dat.one {M : List (Frm × Value)} {w : World} (h : Dat M w) : ∀ u ∈ flatF M, u.oneCell' = true := by
  intro u hu
  simp only [flatF, List.mem_flatMap] at hu
  obtain ⟨m, hm, hu⟩ := hu
  obtain ⟨ad, c, e, -⟩ := h m hm
  simp at hu
  rcases hu with rfl | rfl | rfl | rfl
  · rfl
  · rfl
  · rfl
  · rw [e]; rfl
/-- A slice of frames with an address, cell by cell. -/
theorem Frs.flat {g o : Nat} {L : List Frm} {w : World} (h : Frs (some ⟨g, o, none⟩) L w) :
    ∃ M : List (Frm × Value), (M.map fun m => m.1) = L ∧ Dat M w ∧ ∀ j u, (flatF M)[j]? = some u → w.cell? ⟨g, o + j, none⟩ = some u := by
  obtain ⟨f, hf⟩ := Go.Deep.choose_lt (α := Value) (p := fun j v => ∃ ad c, v = .slice ad (nthF L j).D.length c ∧ FrC g (o + j * 4) ad c (nthF L j) w) (n := L.length) (fun j hj => by
    obtain ⟨g', o', ad, c, e, hc⟩ := h.2 j hj
    cases e
    exact ⟨_, ad, c, rfl, hc⟩)
  have hml : ((List.range L.length).map fun j => (nthF L j, f j)).length = L.length := by simp
  have hel : ∀ j (hj : j < ((List.range L.length).map fun j => (nthF L j, f j)).length), ((List.range L.length).map fun j => (nthF L j, f j))[j] = (nthF L j, f j) := by intro j hj; simp
  generalize (List.range L.length).map (fun j => (nthF L j, f j)) = M at hml hel
  refine ⟨M, ?_, fun m hm => ?_, fun j u hu => ?_⟩
  · apply List.ext_getElem?
    intro j
    by_cases hj : j < L.length
    · have hj2 : j < M.length := by omega
      rw [List.getElem?_eq_getElem (by simpa using hj2), List.getElem?_eq_getElem hj, List.getElem_map, hel j hj2]
      simp [nthF, List.getD_eq_getElem?_getD, hj]
    · rw [List.getElem?_eq_none (by simp; omega), List.getElem?_eq_none (by omega)]
  · obtain ⟨i, hi, rfl⟩ := List.mem_iff_getElem.1 hm
    rw [hel i hi]
    obtain ⟨ad, c, e, hc⟩ := hf i (by omega)
    exact ⟨ad, c, e, hc.2⟩
  · have hj : j < M.length * 4 := by
      have := (List.getElem?_eq_some_iff.1 hu).1
      rw [flatF_len] at this
      exact this
    have hi : j / 4 < M.length := by omega
    obtain ⟨f0, f1, f2, f3⟩ := flatF_at M (j / 4) hi
    obtain ⟨ad, c, e, ⟨c0, c1, c2, c3⟩, _⟩ := hf (j / 4) (by omega)
    rw [hel _ hi] at f0 f1 f2 f3
    have hcase : j = j / 4 * 4 ∨ j = j / 4 * 4 + 1 ∨ j = j / 4 * 4 + 2 ∨ j = j / 4 * 4 + 3 := by omega
    rcases hcase with hc | hc | hc | hc <;> rw [hc] at hu ⊢
    · rw [f0] at hu; cases hu; exact c0
    · rw [f1] at hu; cases hu; exact c1
    · rw [f2] at hu; cases hu; exact c2
    · rw [f3] at hu; cases hu; rw [e]; exact c3
/-- The slice v, in a row made from block B on, bears these frames' cells. -/
def RowOf (B : Nat) (v : Value) (M : List (Frm × Value)) (w : World) : Prop := w.ownsRow B 35 4 v M.length (flatF M)
/-- A row of the call's own whose frames' data can be read. -/
theorem row_frs {B : Nat} {M : List (Frm × Value)} {v : Value} {w : World} (h : RowOf B v M w) (hd : Dat M w) (hm : M.length ≤ 2000000) : ∃ a c, v = .slice a M.length c ∧ Frs a (M.map fun m => m.1) w := by
  rcases h.2 with ⟨rfl, hn⟩ | ⟨g, cap, cur, rfl, hrest⟩
  · have e : M = [] := List.length_eq_zero_iff.1 hn
    subst e
    exact ⟨none, 0, rfl, by simp, fun j hj => by simp at hj⟩
  · refine ⟨_, cap, rfl, by simp [maxLen]; omega, fun j hj => ?_⟩
    have hj' : j < M.length := by simpa using hj
    have e : nthF (M.map fun m => m.1) j = M[j].1 := by simp [nthF, List.getD_eq_getElem?_getD, hj']
    rw [e]
    obtain ⟨ad, c, hv, hn⟩ := hd M[j] (List.getElem_mem hj')
    obtain ⟨f0, f1, f2, f3⟩ := flatF_at M j hj'
    rw [hv] at f3
    refine ⟨g, 0, ad, c, rfl, ⟨?_, ?_, ?_, ?_⟩, hn⟩ <;> rw [Nat.zero_add, World.ownsRow.cellAt h _ (by omega)] <;> assumption
theorem map_take_drop {M : List (Frm × Value)} {L : List Frm} (h : (M.map fun m => m.1) = L) (p q : Nat) (X : List (Frm × Value)) : ((M.take p ++ (X ++ M.drop q)).map fun m => m.1) = splL L p q (X.map fun m => m.1) := by
  subst h; simp [splL]

/-- 'append' of frames, where there is no room: a new row. -/
theorem wpList_growF {ops : Array Oper} {rest : List Oper} {p : Oper} {a : Act} {w : World} {Q : Exit → Act → World → Prop} (hgd : p.guard = none) (s x : Operand)
    (ho : p.op = .call { callee := .builtin .append, args := #[s, x], argTypes := #[64, 64] })
    (A X : List (Frm × Value)) (ao : Option Addr) (n c : Nat) (hA : A.length = n) (hs : a.eval s = .slice ao n c) (hnone : ao = none → n = 0 ∧ c = 0) (holds : ∀ b, ao = some b → ∀ j u, (flatF A)[j]? = some u → w.cell? (b.add j) = some u)
    (ad : Addr) (m c1 : Nat) (hX : X.length = m) (hx : a.eval x = .slice (some ad) m c1) (hnews : ∀ j u, (flatF X)[j]? = some u → w.cell? (ad.add j) = some u) (hd : Dat A w) (hdx : Dat X w)
    (hfull : c < n + m) (hsz : n + m ≤ 1000000)
    (h : ∀ v w', RowOf w.heap.size v (A ++ X) w' → Dat (A ++ X) w' → Below w.heap.size w w' → wpList Tryz.prog ops Q rest (a.put p.dst v) w') : wpList Tryz.prog ops Q (p :: rest) a w := by
  obtain ⟨i0, hi, hz0, hz1, hz2⟩ := info_parts infoF
  refine wpList_append_grows w hgd s x 64 ho 35 i0 (.agg #[.int .i64 0, .bool false, .int .i64 0, .slice none 0 0]) 4 48 Tryz.underlying64 hi hz0 hz1 hz2 rfl (by decide) ao n c (flatF A) hs hnone (by rw [flatF_len, hA]) holds
    ad m c1 (flatF X) hx (by rw [flatF_len, hX]) hnews hdx.one hfull (by unfold maxLen; omega) (by omega) ?_
  intro v w' h2 h3
  have b := below_new h3
  refine h v w' (by unfold RowOf; rw [flatF_append, List.length_append, hA, hX]; exact h2) (fun m hm => ?_) b
  rcases List.mem_append.1 hm with hm | hm
  · exact (hd.below b) m hm
  · exact (hdx.below b) m hm
/-- 'append' of frames to a row of the call's own. -/
theorem wpList_ownF {ops : Array Oper} {rest : List Oper} {p : Oper} {a : Act} {w : World} {Q : Exit → Act → World → Prop} (hgd : p.guard = none) (s x : Operand)
    (ho : p.op = .call { callee := .builtin .append, args := #[s, x], argTypes := #[64, 64] })
    (B : Nat) (A X : List (Frm × Value)) (vo : Value) (hs : a.eval s = vo) (hown : RowOf B vo A w) (ad : Addr) (m c1 : Nat) (hX : X.length = m) (hx : a.eval x = .slice (some ad) m c1) (hnews : ∀ j u, (flatF X)[j]? = some u → w.cell? (ad.add j) = some u)
    (W0 : World) (hW0 : W0.heap.size ≤ B) (hB : B ≤ w.heap.size) (b : Below W0.heap.size W0 w) (hd : Dat A W0) (hdx : Dat X W0) (hsz : A.length + m ≤ 1000000)
    (h : ∀ v w', RowOf B v (A ++ X) w' → Dat (A ++ X) w' → Below W0.heap.size W0 w' → (v = .slice none 0 0 → vo = .slice none 0 0) → wpList Tryz.prog ops Q rest (a.put p.dst v) w') : wpList Tryz.prog ops Q (p :: rest) a w := by
  obtain ⟨i0, hi, hz0, hz1, hz2⟩ := info_parts infoF
  refine wpList_append_own _ hgd s x 64 ho B 35 i0 (.agg #[.int .i64 0, .bool false, .int .i64 0, .slice none 0 0]) 4 48 Tryz.underlying64 hi hz0 hz1 hz2 rfl (by decide) vo A.length (flatF A) hs hown ad m c1 (flatF X) hx (by rw [flatF_len, hX]) hnews hdx.one (by unfold maxLen; omega) (by omega) hB ?_
  intro v' w' h2 h3 h4
  have b' := b.grown h3 b.size (fun q e => by have := (World.ownsRow.lt hown q e).1; omega)
  refine h v' w' (by unfold RowOf; rw [flatF_append, List.length_append, hX]; exact h2) (fun m hm => ?_) b' (fun e => (h4.1 e).1)
  rcases List.mem_append.1 hm with hm | hm
  · exact (hd.below b') m hm
  · exact (hdx.below b') m hm

/-- 'append' of nothing. -/
theorem wpList_noF {ops : Array Oper} {rest : List Oper} {p : Oper} {a : Act} {w : World} {Q : Exit → Act → World → Prop} (hgd : p.guard = none) (s x : Operand)
    (ho : p.op = .call { callee := .builtin .append, args := #[s, x], argTypes := #[64, 64] })
    (ao : Option Addr) (n c : Nat) (hs : a.eval s = .slice ao n c) (hle : n ≤ c) (xv : Value) (hx : a.eval x = xv) (hsrc : Src Tryz.prog 4 64 xv 0 [] w)
    (h : wpList Tryz.prog ops Q rest (a.put p.dst (.slice ao n c)) w) : wpList Tryz.prog ops Q (p :: rest) a w := by
  obtain ⟨i0, hi, hz0, hz1, hz2⟩ := info_parts infoF
  have hrun := run_append_nothing w 64 64 p.type 35 i0 Tryz.underlying64 hi ao n c hle xv (by rw [hz1]; exact hsrc)
  refine wpList_plain hgd fun K hK => ?_
  unfold Oper.wp
  simp [execOp, ho, resolve, invoke, builtin, hs, hx, hrun, Result.andThen]
  exact hK _ _ h

theorem add_lit (g o j : Nat) : (⟨g, o, none⟩ : Addr).add j = ⟨g, o + j, none⟩ := by unfold Addr.add; split <;> simp_all
theorem splL_shortB {L : List Frm} {p q : Nat} {F : List Frm} (hp : p ≤ L.length) (hs8 : ∀ j, j < L.length → (nthF L j).D.length ≤ 1048576) (hf : ∀ f ∈ F, f.D.length ≤ 8) : ∀ j, j < (splL L p q F).length → (nthF (splL L p q F) j).D.length ≤ 1048576 := by
  intro j hj
  have hm : nthF (splL L p q F) j ∈ splL L p q F := by rw [nthF_eq hj]; exact List.getElem_mem hj
  generalize nthF (splL L p q F) j = x at hm
  have hL : ∀ x ∈ L, x.D.length ≤ 1048576 := by
    intro x hx
    obtain ⟨i, hi, rfl⟩ := List.mem_iff_getElem.1 hx
    have := hs8 i hi
    rwa [nthF_eq hi] at this
  simp only [splL, List.mem_append] at hm
  rcases hm with hm | hm | hm
  · have := hL x (List.mem_of_mem_take hm); omega
  · have := hf x hm; omega
  · have := hL x (List.mem_of_mem_drop hm); omega
theorem splL_short {L : List Frm} {p q : Nat} {F : List Frm} (hp : p ≤ L.length) (hs8 : ∀ j, j < L.length → (nthF L j).D.length ≤ 8) (hf : ∀ f ∈ F, f.D.length ≤ 8) : ∀ j, j < (splL L p q F).length → (nthF (splL L p q F) j).D.length ≤ 1048576 := splL_shortB hp (fun j hj => by have := hs8 j hj; omega) hf
theorem GotF.mono {L : List Frm} {w0 w : World} {e : Ending} {w' : World} (h : GotF L w e w') (b : Below w0.heap.size w0 w) : GotF L w0 e w' := by
  obtain ⟨M, a, c, he, hM, hO, hF, hb⟩ := h
  exact ⟨M, a, c, he, hM, hO.mono b.size, hF, b.trans (hb.mono b.size)⟩

set_option maxHeartbeats 2000000 in
/-- With one frame. -/
theorem splicedOneB (g o : Nat) (L : List Frm) (c : Nat) (p q : Nat) (f : Frm) (g1 c1 : Nat) (adf : Option Addr) (cf : Nat) (w : World) (hd : Frs (some ⟨g, o, none⟩) L w) (hc : L.length ≤ c) (hf : FrC g1 0 adf cf f w)
    (hp : p ≤ q) (hq : q ≤ L.length) (hL : L.length ≤ 1000) (hs8 : ∀ j, j < L.length → (nthF L j).D.length ≤ 1048576) (hf8 : f.D.length ≤ 8) :
    Calls Tryz.prog 79 #[.slice (some ⟨g, o, none⟩) L.length c, .int .i64 p, .int .i64 q, .slice (some ⟨g1, 0, none⟩) 1 c1] w (GotF (splL L p q [f]) w) := by
  obtain ⟨M, hM, hD, hcell⟩ := hd.flat
  have hml : M.length = L.length := by rw [← hM]; simp
  have hlen := splL_len (L := L) (p := p) (q := q) (F := [f]) (by omega)
  have hsh := Lib.hid (splL_shortB (L := L) (p := p) (q := q) (F := [f]) (by omega) hs8 (fun x hx => by simp at hx; rw [hx]; exact hf8))
  simp only [List.length_singleton] at hlen
  have hDx : Dat [(f, .slice adf f.D.length cf)] w := fun m hm => by simp at hm; subst hm; exact ⟨adf, cf, rfl, hf.2⟩
  have hDt : Dat (M.take p) w := fun m hm => hD m (List.mem_of_mem_take hm)
  have hDd : Dat (M.drop q) w := fun m hm => hD m (List.mem_of_mem_drop hm)
  have hct : ∀ j u, (flatF (M.take p))[j]? = some u → w.cell? ((⟨g, o, none⟩ : Addr).add j) = some u := fun j u hu => by rw [add_lit]; exact hcell j u (flatF_take hu)
  have hcd : ∀ j u, (flatF (M.drop q))[j]? = some u → w.cell? ((⟨g, o + q * 4, none⟩ : Addr).add j) = some u := fun j u hu => by rw [add_lit, Nat.add_assoc]; exact hcell _ u (flatF_drop (by omega) hu)
  have hcx : ∀ j u, (flatF [(f, Value.slice adf f.D.length cf)])[j]? = some u → w.cell? ((⟨g1, 0, none⟩ : Addr).add j) = some u := by
    obtain ⟨⟨k0, k1, k2, k3⟩, _⟩ := hf
    intro j u hu
    rw [add_lit, Nat.zero_add]
    match j, hu with
    | 0, hu => simp [flatF] at hu; subst hu; exact k0
    | 1, hu => simp [flatF] at hu; subst hu; exact k1
    | 2, hu => simp [flatF] at hu; subst hu; exact k2
    | 3, hu => simp [flatF] at hu; subst hu; exact k3
  have htl : (M.take p).length = p := by simp; omega
  have hdl : (M.drop q).length = L.length - q := by simp; omega
  have hmap := Lib.hid (map_take_drop hM p q [(f, Value.slice adf f.D.length cf)])
  obtain ⟨At, hAt⟩ : ∃ At, At = M.take p := ⟨_, rfl⟩
  obtain ⟨Ad, hAd⟩ : ∃ Ad, Ad = M.drop q := ⟨_, rfl⟩
  rw [← hAt] at hDt hct htl hmap
  rw [← hAd] at hDd hcd hdl hmap
  replace hDt := Lib.hid hDt
  replace hDd := Lib.hid hDd
  replace hDx := Lib.hid hDx
  replace hct := Lib.hid hct
  replace hcd := Lib.hid hcd
  replace hcx := Lib.hid hcx
  clear hAt hAd hM hD hcell hml
  go_enter Tryz.func79, Tryz.ntmps79
  go_wp2_with (at_builtin; (refine wpList_growF rfl _ _ rfl At [(f, .slice adf f.D.length cf)] (some ⟨g, o, none⟩) p p htl rfl (fun e => by cases e) (fun b e => by cases e; exact hct.out) ⟨g1, 0, none⟩ 1 c1 rfl rfl hcx.out hDt.out hDx.out ?c1 ?c2 ?_))
  case c1 => omega
  case c2 => omega
  intro v1 w1 R1 D1 b1
  have hcd1 := Lib.hid (show ∀ j u, (flatF Ad)[j]? = some u → w1.cell? ((⟨g, o + q * 4, none⟩ : Addr).add j) = some u from fun j u hu => (b1.cell (World.block_lt_of_cell? w _ (hcd.out j u hu))).trans (hcd.out j u hu))
  have hal : (At ++ [(f, Value.slice adf f.D.length cf)]).length = p + 1 := by simp [htl]
  have hA1w : Dat (At ++ [(f, Value.slice adf f.D.length cf)]) w := fun m hm => by
    rcases List.mem_append.1 hm with hm | hm
    · exact hDt.out m hm
    · exact hDx.out m hm
  have hsz1 := b1.size
  clear hct hcx hDt hDx hd hf D1
  generalize hA1 : At ++ [(f, Value.slice adf f.D.length cf)] = A1 at *
  have hap : (A1 ++ Ad).map (fun m => m.1) = splL L p q [f] := by rw [← hA1, List.append_assoc]; exact hmap.out
  have hall : (A1 ++ Ad).length = (splL L p q [f]).length := by rw [List.length_append, hal, hdl, hlen]; omega
  have hSl : (splL L p q [f]).length ≤ 1000000 := by omega
  replace hap := Lib.hid hap
  replace hall := Lib.hid hall
  replace hA1w := Lib.hid hA1w
  clear hA1 hmap hcd htl hlen
  generalize splL L p q [f] = S at *
  by_cases hcq : c = q
  · have hq0 : L.length - q = 0 := by omega
    have hA0 : Ad = [] := List.eq_nil_of_length_eq_zero (by omega)
    go_wp2_with (at_builtin; (refine wpList_ownF rfl _ _ rfl w.heap.size A1 Ad v1 rfl R1 ⟨g, o, none⟩ 0 0 (by rw [hA0]; rfl) rfl (fun j u hu => by rw [hA0] at hu; cases hu) w (Nat.le_refl _) hsz1 b1 hA1w.out hDd.out (by omega) ?_))
    intro v2 w2 R2 D2 b2 _
    obtain ⟨a2, c2, e2, F2⟩ := row_frs R2 D2 (by omega)
    have hap' := hap.out
    have hall' := hall.out
    rw [hA0, List.append_nil] at hap' hall'
    rw [hap'] at F2
    rw [hall'] at e2
    subst e2
    clear R1 R2 D2 hcd1 hA1w hDd hap' hall' hA0 hal hdl
    go_wp2_with fail
    refine (copiedFrames a2 S c2 w2 F2 hSl hsh.out).mono ?_
    intro e w3 G3
    replace G3 := GotF.mono G3 b2
    obtain ⟨M3, a3, c3, rfl, G3⟩ := G3
    replace G3 := Lib.hid G3
    go_wp2_with fail
    go_ret
    exact ⟨M3, a3, c3, rfl, G3.out⟩
  · go_wp2_with (at_builtin; (refine wpList_ownF rfl _ _ rfl w.heap.size A1 Ad v1 rfl R1 ⟨g, o + q * 4, none⟩ (L.length - q) (c - q) hdl rfl hcd1.out w (Nat.le_refl _) hsz1 b1 hA1w.out hDd.out (by omega) ?_))
    intro v2 w2 R2 D2 b2 _
    obtain ⟨a2, c2, e2, F2⟩ := row_frs R2 D2 (by rw [hall.out]; omega)
    rw [hap.out] at F2
    rw [hall.out] at e2
    subst e2
    clear R1 R2 D2 hcd1 hA1w hDd
    go_wp2_with fail
    refine (copiedFrames a2 S c2 w2 F2 hSl hsh.out).mono ?_
    intro e w3 G3
    replace G3 := GotF.mono G3 b2
    obtain ⟨M3, a3, c3, rfl, G3⟩ := G3
    replace G3 := Lib.hid G3
    go_wp2_with fail
    go_ret
    exact ⟨M3, a3, c3, rfl, G3.out⟩

theorem splicedOne (g o : Nat) (L : List Frm) (c : Nat) (p q : Nat) (f : Frm) (g1 c1 : Nat) (adf : Option Addr) (cf : Nat) (w : World) (hd : Frs (some ⟨g, o, none⟩) L w) (hc : L.length ≤ c) (hf : FrC g1 0 adf cf f w)
    (hp : p ≤ q) (hq : q ≤ L.length) (hL : L.length ≤ 16) (hs8 : ∀ j, j < L.length → (nthF L j).D.length ≤ 8) (hf8 : f.D.length ≤ 8) :
    Calls Tryz.prog 79 #[.slice (some ⟨g, o, none⟩) L.length c, .int .i64 p, .int .i64 q, .slice (some ⟨g1, 0, none⟩) 1 c1] w (GotF (splL L p q [f]) w) :=
  splicedOneB g o L c p q f g1 c1 adf cf w hd hc hf hp hq (by omega) (fun j hj => by have := hs8 j hj; omega) hf8

set_option maxHeartbeats 2000000 in
/-- With none. -/
theorem splicedNone (g o : Nat) (L : List Frm) (c : Nat) (p q : Nat) (w : World) (hd : Frs (some ⟨g, o, none⟩) L w) (hc : L.length ≤ c)
    (hp : p < q) (hq : q ≤ L.length) (hL : L.length ≤ 16) (hs8 : ∀ j, j < L.length → (nthF L j).D.length ≤ 8) :
    Calls Tryz.prog 79 #[.slice (some ⟨g, o, none⟩) L.length c, .int .i64 p, .int .i64 q, .slice none 0 0] w (GotF (splL L p q []) w) := by
  obtain ⟨M, hM, hD, hcell⟩ := hd.flat
  have hml : M.length = L.length := by rw [← hM]; simp
  have hlen := splL_len (L := L) (p := p) (q := q) (F := []) (by omega)
  have hsh := Lib.hid (splL_short (L := L) (p := p) (q := q) (F := []) (by omega) hs8 (fun x hx => by cases hx))
  simp only [List.length_nil] at hlen
  have hDt : Dat (M.take p) w := fun m hm => hD m (List.mem_of_mem_take hm)
  have hDd : Dat (M.drop q) w := fun m hm => hD m (List.mem_of_mem_drop hm)
  have hct : ∀ j u, (flatF (M.take p))[j]? = some u → w.cell? ((⟨g, o, none⟩ : Addr).add j) = some u := fun j u hu => by rw [add_lit]; exact hcell j u (flatF_take hu)
  have hcd : ∀ j u, (flatF (M.drop q))[j]? = some u → w.cell? ((⟨g, o + q * 4, none⟩ : Addr).add j) = some u := fun j u hu => by rw [add_lit, Nat.add_assoc]; exact hcell _ u (flatF_drop (by omega) hu)
  have htl : (M.take p).length = p := by simp; omega
  have hdl : (M.drop q).length = L.length - q := by simp; omega
  have hmap := Lib.hid (map_take_drop hM p q [])
  have hfr0 : q = L.length → Frs (some ⟨g, o, none⟩) (splL L p q []) w := fun e => by
    have e2 : splL L p q [] = L.take p := by rw [splL, e, List.drop_length]; simp
    rw [e2]
    refine ⟨by have := hd.1; simp; omega, fun j hj => ?_⟩
    have hj' : j < p := by simp at hj; omega
    rw [nthF_take hj']
    exact hd.2 j (by omega)
  obtain ⟨At, hAt⟩ : ∃ At, At = M.take p := ⟨_, rfl⟩
  obtain ⟨Ad, hAd⟩ : ∃ Ad, Ad = M.drop q := ⟨_, rfl⟩
  rw [← hAt] at hDt hct htl hmap
  rw [← hAd] at hDd hcd hdl hmap
  replace hDt := Lib.hid hDt
  replace hDd := Lib.hid hDd
  replace hct := Lib.hid hct
  replace hcd := Lib.hid hcd
  replace hfr0 := Lib.hid hfr0
  have hap : (At ++ Ad).map (fun m => m.1) = splL L p q [] := hmap.out
  have hall : (At ++ Ad).length = (splL L p q []).length := by rw [List.length_append, htl, hdl, hlen]; omega
  have hSl : (splL L p q []).length ≤ 1000000 := by omega
  have hS0 := Lib.hid (show q = L.length → (splL L p q []).length = p by omega)
  replace hap := Lib.hid hap
  replace hall := Lib.hid hall
  clear hAt hAd hM hD hcell hml hd hmap hlen
  go_enter Tryz.func79, Tryz.ntmps79
  go_upto_region 2 with (at_builtin; (refine wpList_noF rfl _ _ rfl (some ⟨g, o, none⟩) p p rfl (Nat.le_refl _) (.slice none 0 0) rfl (Src.ofNil w Tryz.underlying64 0) ?_))
  generalize splL L p q [] = S at *
  by_cases hqe : q = L.length
  · have hfr := hfr0.out hqe
    have hS := hS0.out hqe
    have hlq : L.length - q = 0 := by omega
    clear hct hcd hDt hDd hap hall
    by_cases hcq : c = q
    · go_wp2_with (at_builtin; (refine wpList_noF rfl _ _ rfl (some ⟨g, o, none⟩) p p rfl (Nat.le_refl _) (.slice (some ⟨g, o, none⟩) 0 0) rfl (Src.ofSlice w Tryz.underlying64 ⟨g, o, none⟩ 0 0 [] rfl (fun j u hu => by cases hu) (fun u hu => by cases hu)) ?_))
      have hcp := copiedFrames (some ⟨g, o, none⟩) S p w hfr hSl hsh.out
      rw [hS] at hcp
      refine hcp.mono ?_
      rintro e w3 ⟨M3, a3, c3, rfl, G3⟩
      replace G3 := Lib.hid G3
      go_wp2_with fail
      go_ret
      exact ⟨M3, a3, c3, by rw [hS] <;> rfl, G3.out⟩
    · go_wp2_with (at_builtin; (refine wpList_noF rfl _ _ rfl (some ⟨g, o, none⟩) p p rfl (Nat.le_refl _) (.slice (some ⟨g, o + q * 4, none⟩) 0 (c - q)) rfl (Src.ofSlice w Tryz.underlying64 ⟨g, o + q * 4, none⟩ 0 (c - q) [] rfl (fun j u hu => by cases hu) (fun u hu => by cases hu)) ?_))
      have hcp := copiedFrames (some ⟨g, o, none⟩) S p w hfr hSl hsh.out
      rw [hS] at hcp
      refine hcp.mono ?_
      rintro e w3 ⟨M3, a3, c3, rfl, G3⟩
      replace G3 := Lib.hid G3
      go_wp2_with fail
      go_ret
      exact ⟨M3, a3, c3, by rw [hS] <;> rfl, G3.out⟩
  · have hcq : ¬ c = q := by omega
    go_wp2_with (at_builtin; (refine wpList_growF rfl _ _ rfl At Ad (some ⟨g, o, none⟩) p p htl rfl (fun e => by cases e) (fun b e => by cases e; exact hct.out) ⟨g, o + q * 4, none⟩ (L.length - q) (c - q) hdl rfl hcd.out hDt.out hDd.out (by omega) (by omega) ?_))
    intro v2 w2 R2 D2 b2
    obtain ⟨a2, c2, e2, F2⟩ := row_frs R2 D2 (by rw [hall.out]; omega)
    rw [hap.out] at F2
    rw [hall.out] at e2
    subst e2
    clear R2 D2 hct hcd hDt hDd hS0 htl hdl
    go_wp2_with fail
    refine (copiedFrames a2 S c2 w2 F2 hSl hsh.out).mono ?_
    intro e w3 G3
    replace G3 := GotF.mono G3 b2
    obtain ⟨M3, a3, c3, rfl, G3⟩ := G3
    replace G3 := Lib.hid G3
    go_wp2_with fail
    go_ret
    exact ⟨M3, a3, c3, rfl, G3.out⟩

set_option maxHeartbeats 2000000 in
/-- With one frame, the box nil. -/
theorem splicedNil (f : Frm) (g1 c1 : Nat) (adf : Option Addr) (cf : Nat) (w : World) (hf : FrC g1 0 adf cf f w) (hf8 : f.D.length ≤ 8) :
    Calls Tryz.prog 79 #[.slice none 0 0, .int .i64 0, .int .i64 0, .slice (some ⟨g1, 0, none⟩) 1 c1] w (GotF [f] w) := by
  have hDx : Dat [(f, .slice adf f.D.length cf)] w := fun m hm => by simp at hm; subst hm; exact ⟨adf, cf, rfl, hf.2⟩
  have hcx : ∀ j u, (flatF [(f, Value.slice adf f.D.length cf)])[j]? = some u → w.cell? ((⟨g1, 0, none⟩ : Addr).add j) = some u := by
    obtain ⟨⟨k0, k1, k2, k3⟩, _⟩ := hf
    intro j u hu
    rw [add_lit, Nat.zero_add]
    match j, hu with
    | 0, hu => simp [flatF] at hu; subst hu; exact k0
    | 1, hu => simp [flatF] at hu; subst hu; exact k1
    | 2, hu => simp [flatF] at hu; subst hu; exact k2
    | 3, hu => simp [flatF] at hu; subst hu; exact k3
  have hsh := Lib.hid (show ∀ j, j < [f].length → (nthF [f] j).D.length ≤ 1048576 from fun j hj => by
    have : j = 0 := by simp at hj; exact hj
    subst this
    show f.D.length ≤ _
    omega)
  replace hDx := Lib.hid hDx
  replace hcx := Lib.hid hcx
  go_enter Tryz.func79, Tryz.ntmps79
  go_upto_region 2 with (at_builtin; (refine wpList_growF rfl _ _ rfl [] [(f, .slice adf f.D.length cf)] none 0 0 rfl rfl (fun _ => ⟨rfl, rfl⟩) (fun b e => by cases e) ⟨g1, 0, none⟩ 1 c1 rfl rfl hcx.out (fun m hm => by cases hm) hDx.out (by omega) (by omega) ?_))
  intro v1 w1 R1 D1 b1
  clear hcx hDx hf
  have hle : ∀ a c, v1 = .slice a 1 c → 1 ≤ c := by
    intro a c e
    rcases R1.2 with ⟨h1, h2⟩ | ⟨_, _, _, h1, _, _, h2, _⟩
    · cases h2
    · rw [e] at h1; cases h1; exact h2
  obtain ⟨a2, c2, e2, F2⟩ := row_frs R1 D1 (by simp)
  simp only [List.nil_append, List.length_singleton, List.map_cons, List.map_nil] at e2 F2
  have h1 := hle _ _ e2
  subst e2
  clear R1 D1 hle
  go_wp2_with (at_builtin; (refine wpList_noF rfl _ _ rfl a2 1 c2 rfl h1 (.slice none 0 0) rfl (Src.ofNil w1 Tryz.underlying64 0) ?_))
  refine (copiedFrames a2 [f] c2 w1 F2 (by simp) hsh.out).mono ?_
  intro e w3 G3
  replace G3 := GotF.mono G3 b1
  obtain ⟨M3, a3, c3, rfl, G3⟩ := G3
  replace G3 := Lib.hid G3
  go_wp2_with fail
  go_ret
  exact ⟨M3, a3, c3, rfl, G3.out⟩
end Go.Proofs.YtnhmecabppaboaaGreat

/- impl.PutIn and impl.TakenOut: their answers' frames stand in rows of their own. -/

set_option linter.unusedVariables false
set_option linter.unusedSimpArgs false
set_option maxRecDepth 20000
namespace Go.Proofs.YtnhmecabppaboaaGreat
open Go.RowKit

/-- The slice is nil, or it has an address of a row. -/
def Addressed (a : Option Addr) (c : Nat) : Prop := (a = none ∧ c = 0) ∨ ∃ g o, a = some ⟨g, o, none⟩
/-- What PutIn leaves. -/
def PutGot (R : List Frm × Int) (w : World) (e : Ending) (w' : World) : Prop :=
  ∃ (M : List (Frm × Value)) (a : Option Addr) (c : Nat), e = .returned (.tuple #[.slice a R.1.length c, .int .i64 R.2]) ∧ (M.map fun m => m.1) = R.1 ∧ OwnF w.heap.size M (.slice a R.1.length c) w' ∧ Far M ∧ Below w.heap.size w w'
theorem far_nil : Far [] := fun i j hi => by simp at hi
theorem own_nil (B : Nat) (w : World) : OwnF B [] (.slice none 0 0) w := ⟨World.ownsRow_nil w B _ 4, fun m hm => by cases hm⟩
theorem Addressed.nil {c : Nat} {L : List Frm} {w : World} (h : Frs none L w) (hc : L.length ≤ c) (ha : Addressed none c) : L = [] ∧ c = 0 := by
  have hc0 : c = 0 := by
    rcases ha with ⟨-, h0⟩ | ⟨g, o, e⟩
    · exact h0
    · cases e
  exact ⟨List.eq_nil_of_length_eq_zero (by omega), hc0⟩

set_option maxHeartbeats 2000000 in
/-- impl.PutIn. -/
theorem implPutIn (a : Option Addr) (L : List Frm) (c : Nat) (id : Int) (rm : Bool) (ln : Int) (ad : Option Addr) (D : List Int) (cd : Nat) (w : World) (hd : Frs a L w) (hc : L.length ≤ c) (ha : Addressed a c) (hn : Nums ad D w) :
    Calls Tryz.prog 45 #[.slice a L.length c, frV id rm ln ad D.length cd] w (PutGot (putV L ⟨id, rm, ln, D⟩) w) := by
  have f0 := Four.made (.int .i64 id) (.bool rm) (.int .i64 ln) (.slice ad D.length cd) 35 (Below.refl w.heap.size w)
  have hrk : rkF ⟨id, rm, ln, D⟩ = rankV id rm ln D := rfl
  replace hrk := Lib.hid hrk
  go_enter Tryz.func45, Tryz.ntmps45
  go_upto_region 1 with fail
  replace hd := hd.below f0.2
  replace hn := hn.below f0.2
  generalize w.alloc (.cells #[.int .i64 id, .bool rm, .int .i64 ln, .slice ad D.length cd] 35) = W at *
  have hgw : w.heap.size ≤ w.heap.size := Nat.le_refl _
  go_wp2_with fail
  refine (implBoxOk a L c W hd).mono ?_
  rintro e w1 ⟨he, b1⟩
  replace hd := hd.below b1
  replace hn := hn.below b1
  replace f0 := f0.below b1
  clear b1 W
  cases hb : boxB L with
  | false =>
    rw [hb] at he
    subst he
    have HV := Lib.hid (putV_bad (f := ⟨id, rm, ln, D⟩) hb)
    clear hb
    have bw := f0.2
    go_wp2_with fail
    go_ret2
    refine ⟨[], none, 0, by rw [HV.out] <;> rfl, by rw [HV.out] <;> rfl, by rw [HV.out]; exact own_nil _ _, far_nil, bw⟩
  | true =>
    rw [hb] at he
    subst he
    have hB := boxB_iff.1 hb
    have h8 : ∀ j, j < L.length → (nthF L j).D.length ≤ 8 := fun j hj => hB.2.short hj
    have h16 := hB.1
    have hsh := Lib.hid (show ∀ j, j < L.length → (nthF L j).D.length ≤ 1048576 from fun j hj => by have := h8 j hj; omega)
    replace h8 := Lib.hid h8
    replace hB := Lib.hid hB.2
    replace hb := Lib.hid hb
    obtain ⟨⟨x0, x1, x2, x3⟩, bw⟩ := f0
    have f0 : Four w.heap.size (.int .i64 id) (.bool rm) (.int .i64 ln) (.slice ad D.length cd) w w1 := ⟨⟨x0, x1, x2, x3⟩, bw⟩
    go_wp2_with fail
    refine (implFrameOk id rm ln ad D cd w1 hn).mono ?_
    rintro e w2 ⟨he, b1⟩
    replace hd := hd.below b1
    replace hn := hn.below b1
    replace f0 := f0.below b1
    clear b1 x0 x1 x2 x3 bw
    cases hok : frOk id rm ln D with
    | false =>
      rw [hok] at he
      subst he
      have HV := Lib.hid (putV_no (f := ⟨id, rm, ln, D⟩) hb.out (by rw [hrk.out]; exact rankV_neg.2 hok))
      clear hok
      have bw := f0.2
      go_wp2_with fail
      refine (copiedFrames a L c w2 hd (by omega) hsh.out).mono ?_
      rintro e w3 G3
      replace G3 := GotF.mono G3 bw
      obtain ⟨M3, a3, c3, rfl, G3⟩ := G3
      replace G3 := Lib.hid G3
      go_wp2_with fail
      go_ret2
      exact ⟨M3, a3, c3, by rw [HV.out] <;> rfl, by rw [HV.out]; exact G3.out⟩
    | true =>
      rw [hok] at he
      subst he
      have hr0 : ¬ rkF ⟨id, rm, ln, D⟩ < 0 := fun h => by rw [hrk.out] at h; rw [rankV_neg.1 h] at hok; cases hok
      have hf8 := frOk_max hok
      replace hr0 := Lib.hid hr0
      clear hok
      obtain ⟨⟨x0, x1, x2, x3⟩, bw⟩ := f0
      have f0 : Four w.heap.size (.int .i64 id) (.bool rm) (.int .i64 ln) (.slice ad D.length cd) w w2 := ⟨⟨x0, x1, x2, x3⟩, bw⟩
      go_wp2_with fail
      refine (implRankOf id rm ln ad D cd w2 hn).mono ?_
      rintro e w3 ⟨he, b1⟩
      rw [← hrk.out] at he
      subst he
      replace hd := hd.below b1
      replace hn := hn.below b1
      replace f0 := f0.below b1
      clear b1 x0 x1 x2 x3 bw
      generalize hfr : (⟨id, rm, ln, D⟩ : Frm) = f at *
      go_wp2_with fail
      refine (placeIn a L c (rkF f) w3 hd h16 hB.out).mono ?_
      rintro e w4 ⟨p, rfl, hP, b1⟩
      replace hd := hd.below b1
      replace hn := hn.below b1
      replace f0 := f0.below b1
      clear b1
      have hpl := hP.1
      replace hP := Lib.hid hP
      obtain ⟨⟨x0, x1, x2, x3⟩, bw⟩ := f0
      have hFC : FrC w4.heap.size 0 ad cd ⟨id, rm, ln, D⟩ (w4.alloc (.cells #[.int .i64 id, .bool rm, .int .i64 ln, .slice ad D.length cd] 35)) :=
        ⟨⟨World.cell?_alloc_at _ _ _ _ rfl, World.cell?_alloc_at _ _ _ _ rfl, World.cell?_alloc_at _ _ _ _ rfl, World.cell?_alloc_at _ _ _ _ rfl⟩, hn.alloc _⟩
      rw [hfr] at hFC
      replace hFC := Lib.hid hFC
      have hf8' : f.D.length ≤ 8 := by rw [← hfr]; exact hf8
      clear hfr
      have bx : Below w.heap.size w (w4.alloc (.cells #[.int .i64 id, .bool rm, .int .i64 ln, .slice ad D.length cd] 35)) := below_more bw _
      cases hm : metB L (rkF f) p with
      | true =>
        have hml := (metB_yes.1 hm).1
        have HV := Lib.hid (putV_over hb.out (by have := hr0.out; omega) hP.out hm)
        clear hm
        cases a with
        | none => have := (Addressed.nil hd hc ha).1; subst this; simp at hml
        | some A =>
          obtain ⟨g, o, e⟩ : ∃ g o, A = ⟨g, o, none⟩ := by
            rcases ha with ⟨e, _⟩ | ⟨g, o, e⟩
            · cases e
            · cases e; exact ⟨g, o, rfl⟩
          subst e
          go_wp2_with fail
          refine (splicedOne g o L c p (p + 1) f w4.heap.size 1 ad cd _ (hd.alloc _) hc hFC.out (by omega) (by omega) h16 h8.out hf8').mono ?_
          intro e w5 G3
          replace G3 := GotF.mono G3 bx
          obtain ⟨M3, a3, c3, rfl, G3⟩ := G3
          replace G3 := Lib.hid G3
          go_wp2_with fail
          go_ret2
          exact ⟨M3, a3, c3, by rw [HV.out] <;> rfl, by rw [HV.out]; exact G3.out⟩
      | false =>
        by_cases hfull : 16 ≤ L.length
        · have HV := Lib.hid (putV_full hb.out (by have := hr0.out; omega) hP.out hm hfull)
          clear hm
          have hlen : L.length = 16 := by omega
          have hcp := copiedFrames a L c w4 hd (by omega) hsh.out
          rw [hlen] at hcp
          go_wp2_with fail
          refine hcp.mono ?_
          intro e w5 G3
          replace G3 := GotF.mono G3 bw
          obtain ⟨M3, a3, c3, rfl, G3⟩ := G3
          replace G3 := Lib.hid G3
          go_wp2_with fail
          go_ret2
          exact ⟨M3, a3, c3, by rw [HV.out]; simp only [hlen] <;> rfl, by rw [HV.out]; exact G3.out⟩
        · have HV := Lib.hid (putV_new hb.out (by have := hr0.out; omega) hP.out hm hfull)
          clear hm
          have hlen : ¬ (L.length : Int) = 16 := by omega
          cases a with
          | none =>
            obtain ⟨rfl, rfl⟩ := Addressed.nil hd hc ha
            obtain rfl : p = 0 := by simpa using hpl
            go_wp2_with fail
            refine (splicedNil f w4.heap.size 1 ad cd _ hFC.out hf8').mono ?_
            intro e w5 G3
            replace G3 := GotF.mono G3 bx
            obtain ⟨M3, a3, c3, rfl, G3⟩ := G3
            replace G3 := Lib.hid G3
            go_wp2_with fail
            go_ret2
            exact ⟨M3, a3, c3, by rw [HV.out] <;> rfl, by rw [HV.out]; exact G3.out⟩
          | some A =>
            obtain ⟨g, o, e⟩ : ∃ g o, A = ⟨g, o, none⟩ := by
              rcases ha with ⟨e, _⟩ | ⟨g, o, e⟩
              · cases e
              · cases e; exact ⟨g, o, rfl⟩
            subst e
            go_wp2_with fail
            refine (splicedOne g o L c p p f w4.heap.size 1 ad cd _ (hd.alloc _) hc hFC.out (by omega) (by omega) h16 h8.out hf8').mono ?_
            intro e w5 G3
            replace G3 := GotF.mono G3 bx
            obtain ⟨M3, a3, c3, rfl, G3⟩ := G3
            replace G3 := Lib.hid G3
            go_wp2_with fail
            go_ret2
            exact ⟨M3, a3, c3, by rw [HV.out] <;> rfl, by rw [HV.out]; exact G3.out⟩
set_option maxHeartbeats 2000000 in
/-- impl.TakenOut. -/
theorem implTakenOut (a : Option Addr) (L : List Frm) (c : Nat) (r : Int) (w : World) (hd : Frs a L w) (hc : L.length ≤ c) (ha : Addressed a c) :
    Calls Tryz.prog 91 #[.slice a L.length c, .int .i64 r] w (GotF (outV L r) w) := by
  go_enter Tryz.func91, Tryz.ntmps91
  go_wp2_with fail
  refine (implBoxOk a L c w hd).mono ?_
  rintro e w1 ⟨he, bw⟩
  replace hd := hd.below bw
  cases hb : boxB L with
  | false =>
    rw [hb] at he
    subst he
    have HV := Lib.hid (outV_bad r hb)
    clear hb
    go_wp2_with fail
    go_ret
    exact ⟨[], none, 0, by rw [HV.out] <;> rfl, by rw [HV.out] <;> rfl, by rw [HV.out]; exact own_nil _ _, far_nil, bw⟩
  | true =>
    rw [hb] at he
    subst he
    have hB := boxB_iff.1 hb
    have h8 : ∀ j, j < L.length → (nthF L j).D.length ≤ 8 := fun j hj => hB.2.short hj
    have h16 := hB.1
    have hsh := Lib.hid (show ∀ j, j < L.length → (nthF L j).D.length ≤ 1048576 from fun j hj => by have := h8 j hj; omega)
    replace h8 := Lib.hid h8
    replace hB := Lib.hid hB.2
    replace hb := Lib.hid hb
    go_wp2_with fail
    refine (placeIn a L c r w1 hd h16 hB.out).mono ?_
    rintro e w4 ⟨p, rfl, hP, b1⟩
    replace hd := hd.below b1
    replace bw := Below.then2 bw b1
    clear b1
    replace hP := Lib.hid hP
    cases hm : metB L r p with
    | true =>
      have hml := (metB_yes.1 hm).1
      have HV := Lib.hid (outV_met hb.out hP.out hm)
      clear hm
      cases a with
      | none => have := (Addressed.nil hd hc ha).1; subst this; simp at hml
      | some A =>
        obtain ⟨g, o, e⟩ : ∃ g o, A = ⟨g, o, none⟩ := by
          rcases ha with ⟨e, _⟩ | ⟨g, o, e⟩
          · cases e
          · cases e; exact ⟨g, o, rfl⟩
        subst e
        go_wp2_with fail
        refine (splicedNone g o L c p (p + 1) w4 hd hc (by omega) (by omega) h16 h8.out).mono ?_
        intro e w5 G3
        replace G3 := GotF.mono G3 bw
        obtain ⟨M3, a3, c3, rfl, G3⟩ := G3
        replace G3 := Lib.hid G3
        go_wp2_with fail
        go_ret
        exact ⟨M3, a3, c3, by rw [HV.out] <;> rfl, by rw [HV.out]; exact G3.out⟩
    | false =>
      have HV := Lib.hid (outV_not hb.out hP.out hm)
      clear hm
      go_wp2_with fail
      refine (copiedFrames a L c w4 hd (by omega) hsh.out).mono ?_
      intro e w5 G3
      replace G3 := GotF.mono G3 bw
      obtain ⟨M3, a3, c3, rfl, G3⟩ := G3
      replace G3 := Lib.hid G3
      go_wp2_with fail
      go_ret
      exact ⟨M3, a3, c3, by rw [HV.out] <;> rfl, by rw [HV.out]; exact G3.out⟩
end Go.Proofs.YtnhmecabppaboaaGreat

/- spec.PutIn. -/

set_option linter.unusedVariables false
set_option linter.unusedSimpArgs false
namespace Go.Proofs.YtnhmecabppaboaaGreat
open Go.RowKit

theorem flatF_takes {M : List (Frm × Value)} {p : Nat} (hp : p ≤ M.length) : (flatF M).take (p * 4) = flatF (M.take p) := by
  conv => lhs; rw [← List.take_append_drop p M, flatF_append]
  have hl : (flatF (M.take p)).length = p * 4 := by rw [flatF_len, List.length_take, Nat.min_eq_left hp]
  rw [List.take_append_of_le_length (by omega), List.take_of_length_le (by omega)]
theorem OwnF.take {B g c p : Nat} {M : List (Frm × Value)} {w : World} (h : OwnF B M (.slice (some ⟨g, 0, none⟩) M.length c) w) (hp : p ≤ M.length) : OwnF B (M.take p) (.slice (some ⟨g, 0, none⟩) p c) w := by
  have hl : (M.take p).length = p := by simp; omega
  refine ⟨⟨flatF_len _, ?_⟩, fun m hm => h.2 m (List.mem_of_mem_take hm)⟩
  rw [hl]
  rcases h.1.2 with ⟨e, _⟩ | ⟨g', cap, cur, e, hb, hg, h1, h2, h3, h4⟩
  · cases e
  · cases e
    refine .inr ⟨g, c, cur, rfl, hb, hg, by omega, h2, h3, ?_⟩
    rw [← flatF_takes hp, ← h4, List.take_take]
    congr 1
    omega
theorem OwnF.putAt {B g c j : Nat} {M : List (Frm × Value)} {w : World} {id : Int} {rm : Bool} {ln : Int} {D : List Int} {dv : Value} (h : OwnF B M (.slice (some ⟨g, 0, none⟩) M.length c) w) (hj : j < M.length) (ho : OwnI B D dv w) :
    OwnF B (M.set j (⟨id, rm, ln, D⟩, dv)) (.slice (some ⟨g, 0, none⟩) M.length c) (putF g j id rm ln dv w) := by
  have k := putF_grown g j id rm ln dv w
  refine ⟨?_, fun m hm => ?_⟩
  · rw [List.length_set, ← flatF_set M j (⟨id, rm, ln, D⟩, dv) hj]
    exact ((((h.1.stored _ _).1.stored _ _).1.stored _ _).1.stored _ _).1
  · rcases List.mem_or_eq_of_mem_set hm with hm | rfl
    · exact (h.2 m hm).kept k (OwnI.ne_row h (h.2 m hm))
    · exact ho.kept k (OwnI.ne_row h ho)
theorem map_set {M : List (Frm × Value)} {L : List Frm} {j : Nat} {f : Frm} {dv : Value} (h : (M.map fun m => m.1) = L) (hj : j < L.length) : ((M.set j (f, dv)).map fun m => m.1) = splL L j (j + 1) [f] := by
  rw [List.map_set, h, List.set_eq_take_append_cons_drop, if_pos hj]; rfl
/-- What spec.PutIn leaves. -/
def PutO (R : List Frm × Int) (w : World) (e : Ending) (w' : World) : Prop :=
  ∃ (M : List (Frm × Value)) (g c : Nat), e = .returned (.tuple #[.slice (some ⟨g, 0, none⟩) R.1.length c, .int .i64 R.2]) ∧ (M.map fun m => m.1) = R.1 ∧ OwnF w.heap.size M (.slice (some ⟨g, 0, none⟩) R.1.length c) w' ∧ Below w.heap.size w w'

/-- Frames appended to a row of the call's own: their data are rows of its own, too. -/
theorem run_appX (w : World) (ty : TypeId) (B : Nat) (M X : List (Frm × Value)) (v : Value) (h : OwnF B M v w) (ad : Addr) (m c : Nat) (hX : X.length = m) (hnews : ∀ j u, (flatF X)[j]? = some u → w.cell? (ad.add j) = some u) (hd : ∀ x ∈ X, OwnI B x.1.D x.2 w)
    (hv : v ≠ .slice none 0 0) (hsz : M.length + m ≤ 1000000) (hB : B ≤ w.heap.size) :
    ∃ g c' w', (Builtin.append_ #[64, 64] ty #[v, .slice (some ad) m c]).run Tryz.prog w = .ok (.slice (some ⟨g, 0, none⟩) (M.length + m) c') w' ∧ OwnF B (M ++ X) (.slice (some ⟨g, 0, none⟩) (M.length + m) c') w' ∧ w.grownBy w' v.ownBlock := by
  obtain ⟨i0, hi, hz0, hz1, hz2⟩ := info_parts infoF
  obtain ⟨v', w', hr, h2, h3, h4⟩ := run_append_own (P := Tryz.prog) w B 64 ty 35 i0 (.agg #[.int .i64 0, .bool false, .int .i64 0, .slice none 0 0]) 4 48 Tryz.underlying64 hi hz0 hz1 hz2 rfl (by decide) v M.length (flatF M) h.1 ad m c (flatF X) (by rw [flatF_len, hX]) hnews
    (fun u hu => by
      simp only [flatF, List.mem_flatMap] at hu
      obtain ⟨x, hx, hu⟩ := hu
      obtain ⟨ad, c, e, -⟩ := (hd x hx).nums
      simp at hu
      rcases hu with rfl | rfl | rfl | rfl
      · rfl
      · rfl
      · rfl
      · rw [e]; rfl) (by unfold maxLen; omega) (by omega) hB
  have hown : OwnF B (M ++ X) v' w' := by
    refine ⟨by rw [flatF_append, List.length_append, hX]; exact h2, fun x hx => ?_⟩
    rcases List.mem_append.1 hx with hx | hx
    · exact (h.2 x hx).kept h3 (OwnI.ne_row h (h.2 x hx))
    · exact (hd x hx).kept h3 (OwnI.ne_row h (hd x hx))
  rcases h2.2 with ⟨e, -⟩ | ⟨g, cap, cur, e, _⟩
  · exact absurd (h4.1 e).1 hv
  · subst e
    exact ⟨g, cap, w', hr, hown, h3⟩
theorem step_appX {ops : Array Oper} {o : Oper} {a : Act} {w : World} {K : Act → World → Prop} {Q : Exit → Act → World → Prop} {E : Prop} (hgd : o.guard = none) (s x : Operand)
    (ho : o.op = .call { callee := .builtin .append, args := #[s, x], argTypes := #[64, 64] })
    (B : Nat) (M X : List (Frm × Value)) (v : Value) (hs : a.eval s = v) (h : OwnF B M v w) (ad : Addr) (m c : Nat) (hx : a.eval x = .slice (some ad) m c) (hX : X.length = m) (hnews : ∀ j u, (flatF X)[j]? = some u → w.cell? (ad.add j) = some u) (hd : ∀ x ∈ X, OwnI B x.1.D x.2 w)
    (hv : v ≠ .slice none 0 0) (hsz : M.length + m ≤ 1000000) (hB : B ≤ w.heap.size)
    (hK : ∀ g c' w', OwnF B (M ++ X) (.slice (some ⟨g, 0, none⟩) (M.length + m) c') w' → w.grownBy w' v.ownBlock → K (a.put o.dst (.slice (some ⟨g, 0, none⟩) (M.length + m) c')) w') :
    if Region.wanted o (yielded ops a.tmps) = true then Oper.wp Tryz.prog o a w K Q else E := by
  have hw : Region.wanted o (yielded ops a.tmps) = true := by simp [Region.wanted, hgd]
  rw [if_pos hw]
  obtain ⟨g, c', w', hr, h2, h3⟩ := run_appX w o.type B M X v h ad m c hX hnews hd hv hsz hB
  unfold Oper.wp
  simp [execOp, ho, resolve, invoke, builtin, hs, hx, hr, Result.andThen]
  exact hK g c' w' h2 h3
theorem wpList_appX {ops : Array Oper} {rest : List Oper} {p : Oper} {a : Act} {w : World} {Q : Exit → Act → World → Prop} (hgd : p.guard = none) (s x : Operand)
    (ho : p.op = .call { callee := .builtin .append, args := #[s, x], argTypes := #[64, 64] })
    (B : Nat) (M X : List (Frm × Value)) (v : Value) (hs : a.eval s = v) (h : OwnF B M v w) (ad : Addr) (m c : Nat) (hx : a.eval x = .slice (some ad) m c) (hX : X.length = m) (hnews : ∀ j u, (flatF X)[j]? = some u → w.cell? (ad.add j) = some u) (hd : ∀ x ∈ X, OwnI B x.1.D x.2 w)
    (hv : v ≠ .slice none 0 0) (hsz : M.length + m ≤ 1000000) (hB : B ≤ w.heap.size)
    (hK : ∀ g c' w', OwnF B (M ++ X) (.slice (some ⟨g, 0, none⟩) (M.length + m) c') w' → w.grownBy w' v.ownBlock → wpList Tryz.prog ops Q rest (a.put p.dst (.slice (some ⟨g, 0, none⟩) (M.length + m) c')) w') : wpList Tryz.prog ops Q (p :: rest) a w := by
  obtain ⟨g, c', w', hr, h2, h3⟩ := run_appX w p.type B M X v h ad m c hX hnews hd hv hsz hB
  refine wpList_plain hgd fun K hK' => ?_
  unfold Oper.wp
  simp [execOp, ho, resolve, invoke, builtin, hs, hx, hr, Result.andThen]
  exact hK' _ _ (hK g c' w' h2 h3)

set_option maxHeartbeats 8000000 in
set_option maxRecDepth 20000 in
/-- spec.PutIn. -/
theorem specPutIn (a : Option Addr) (L : List Frm) (c : Nat) (id : Int) (rm : Bool) (ln : Int) (ad : Option Addr) (D : List Int) (cd : Nat) (w : World) (hd : Frs a L w) (hn : Nums ad D w) :
    Calls Tryz.prog 48 #[.slice a L.length c, frV id rm ln ad D.length cd] w (PutO (putV L ⟨id, rm, ln, D⟩) w) := by
  have f0 := Four.made (.int .i64 id) (.bool rm) (.int .i64 ln) (.slice ad D.length cd) 35 (Below.refl w.heap.size w)
  have hrk : rkF ⟨id, rm, ln, D⟩ = rankV id rm ln D := rfl
  replace hrk := Lib.hid hrk
  go_enter Tryz.func48, Tryz.ntmps48
  go_upto_region 1 with fail
  replace hd := hd.below f0.2
  replace hn := hn.below f0.2
  generalize w.alloc (.cells #[.int .i64 id, .bool rm, .int .i64 ln, .slice ad D.length cd] 35) = W at *
  go_wp2_with fail
  refine (specBoxOk a L c W hd).mono ?_
  rintro e w1 ⟨he, b1⟩
  replace hd := hd.below b1
  replace hn := hn.below b1
  replace f0 := f0.below b1
  clear b1 W
  cases hb : boxB L with
  | false =>
    rw [hb] at he
    subst he
    have HV := Lib.hid (putV_bad (f := ⟨id, rm, ln, D⟩) hb)
    clear hb
    have bw := below_more f0.2 (.cells #[] 35)
    have own0 := own_made w1 f0.2.size
    go_wp2_with fail
    go_ret2
    exact ⟨[], _, 0, by rw [HV.out] <;> rfl, by rw [HV.out] <;> rfl, by rw [HV.out]; exact own0, bw⟩
  | true =>
    rw [hb] at he
    subst he
    have hB := boxB_iff.1 hb
    have h8 : ∀ j, j < L.length → (nthF L j).D.length ≤ 1000 := fun j hj => by have := hB.2.short hj; omega
    have h16 := hB.1
    replace h8 := Lib.hid h8
    replace hB := Lib.hid hB.2
    replace hb := Lib.hid hb
    go_wp2_with fail
    refine (copyAll a L c w1 hd (by omega) h8.out).mono ?_
    rintro e w2 ⟨M, g, co, rfl, hM, O, b1⟩
    replace O := O.mono f0.2.size
    replace hn := hn.below b1
    replace f0 := f0.below b1
    have hml : M.length = L.length := by rw [← hM]; simp
    replace hM := Lib.hid hM
    clear b1 hd h8
    obtain ⟨⟨x0, x1, x2, x3⟩, bw⟩ := f0
    have f0 : Four w.heap.size (.int .i64 id) (.bool rm) (.int .i64 ln) (.slice ad D.length cd) w w2 := ⟨⟨x0, x1, x2, x3⟩, bw⟩
    go_wp2_with fail
    refine (specFrameOk id rm ln ad D cd w2 hn).mono ?_
    rintro e w3 ⟨he, b1⟩
    replace O := O.below b1
    replace hn := hn.below b1
    replace f0 := f0.below b1
    clear b1 x0 x1 x2 x3 bw
    cases hok : frOk id rm ln D with
    | false =>
      rw [hok] at he
      subst he
      have HV := Lib.hid (putV_no (f := ⟨id, rm, ln, D⟩) hb.out (by rw [hrk.out]; exact rankV_neg.2 hok))
      clear hok hml
      have bw := f0.2
      go_wp2_with fail
      go_ret2
      exact ⟨M, g, co, by rw [HV.out] <;> rfl, by rw [HV.out]; exact hM.out, by rw [HV.out]; exact O, bw⟩
    | true =>
      rw [hok] at he
      subst he
      have hr0 : ¬ rkF ⟨id, rm, ln, D⟩ < 0 := fun h => by rw [hrk.out] at h; rw [rankV_neg.1 h] at hok; cases hok
      have hf8 := frOk_max hok
      replace hr0 := Lib.hid hr0
      clear hok
      replace hml := Lib.hid hml
      obtain ⟨r, hR'⟩ : ∃ r, rankV id rm ln D = r := ⟨_, rfl⟩
      have hrf : rkF ⟨id, rm, ln, D⟩ = r := by rw [hrk.out]; exact hR'
      rw [hrf] at hr0
      replace hrf := Lib.hid hrf
      have HR' := Lib.hid hR'
      clear hrk hR'
      obtain ⟨W0, hW0⟩ : ∃ W0, W0 = w3 := ⟨_, rfl⟩
      rw [← hW0] at O f0 hn
      have hF : Frs (some ⟨g, 0, none⟩) L W0 := by
        obtain ⟨a', c', e, hf⟩ := O.frs (by rw [hml.out]; omega)
        rw [hml.out] at e
        cases e
        rw [hM.out] at hf
        exact hf
      go_wp2_with fail
      go_loopw [7, 8] (fun p i wr => ∃ k : Nat, k ≤ L.length ∧ i = .int .i64 k ∧ p = .int .i64 (posN L r k : Nat) ∧ (∀ j, j < k → rkF (nthF L j) ≠ r) ∧ Below W0.heap.size W0 wr) (fun _ i _ => L.length - (intOf i).toNat)
      case atStart => exact ⟨0, Nat.zero_le _, rfl, rfl, fun j hj => absurd hj (by omega), by rw [hW0]; exact Below.refl _ _⟩
      case round =>
        clear hW0
        obtain ⟨k, hk, rfl, rfl, hne, bw⟩ := hrel
        replace hne := Lib.hid hne
        by_cases hlt : k < L.length
        · obtain ⟨g', o', ak, ck, e, fa⟩ := (hF.below bw).2 k hlt
          cases e
          rw [Nat.zero_add] at fa
          have fb := f0.below bw
          have hnb := hn.below bw
          have hpy := Lib.hid (fun h => posN_yes (L := L) (r := r) (k := k) h)
          have hpn := Lib.hid (fun h => posN_no (L := L) (r := r) (k := k) h)
          have hqk : rkF (nthF L k) = rankV (nthF L k).id (nthF L k).rm (nthF L k).ln (nthF L k).D := rfl
          have hqne := Lib.hid (show rkF (nthF L k) ≠ r → ∀ j, j < k + 1 → rkF (nthF L j) ≠ r from fun h j hj => by
            by_cases e : j = k
            · subst e; exact h
            · exact hne.out j (by omega))
          have hmet := Lib.hid (show rkF (nthF L k) = r → Pos L r k ∧ metB L r k = true from fun h => ⟨⟨hk, fun j hj => by have := hB.out.lt hj hlt; omega, fun j hj hj2 => by
            by_cases e : j = k
            · subst e; omega
            · have := hB.out.lt (show k < j by omega) hj2; omega⟩, metB_yes.2 ⟨hlt, h⟩⟩)
          have hR' := HR'.out
          generalize posN L r k = p at *
          generalize rkF (nthF L k) = q at *
          generalize nthF L k = fk at *
          obtain ⟨idk, rmk, lnk, Dk⟩ := fk
          simp only at hqk
          have hR : rankV idk rmk lnk Dk = q := hqk.symm
          replace hne := Lib.hid hne
          clear hqk
          go_upto_region 10 with fail
          refine region_class (fun u => FrC g (k * 4) ak ck ⟨idk, rmk, lnk, Dk⟩ u ∧ (Four w.heap.size (.int .i64 id) (.bool rm) (.int .i64 ln) (.slice ad D.length cd) w u ∧ Nums ad D u) ∧ Below W0.heap.size W0 u) (by kernel_rfl) (by kernel_rfl) ⟨fa.drew, ⟨fb.drew, hnb.drew⟩, bw.drew⟩ ?_
          clear fa fb hnb bw
          repeat first
            | go_big_quiet_skip
            | (go_big_quiet_want
               apply Exists.intro
               refine ⟨fun u hu => ?_, ?_⟩
               · apply quietAt_val
                 obtain ⟨⟨⟨a0, a1, a2, a3⟩, _⟩, ⟨⟨⟨b0, b1, b2, b3⟩, _⟩, _⟩, _⟩ := hu
                 go_simp
                 rfl
               simp only [Act.put, List.setIfInBounds_toArray, List.set_cons_zero, List.set_cons_succ]
               go_big_quiet_on)
            | (go_big_quiet_want
               apply Exists.intro
               refine ⟨fun u hu => ?_, ?_⟩
               · apply quietAt_enter 47 #[frV idk rmk lnk ak Dk.length ck]
                 · go_simp
                 · refine (specRankOf idk rmk lnk ak Dk ck u hu.1.2).mono ?_
                   rintro e w2 ⟨rfl, b2⟩
                   rw [hR]
                   exact ⟨rfl, hu.1.below b2, ⟨hu.2.1.1.below b2, hu.2.1.2.below b2⟩, Below.then2 hu.2.2 b2⟩
               simp only [Act.put, List.setIfInBounds_toArray, List.set_cons_zero, List.set_cons_succ]
               go_big_quiet_on)
            | (go_big_quiet_want
               apply Exists.intro
               refine ⟨fun u hu => ?_, ?_⟩
               · apply quietAt_enter 47 #[frV id rm ln ad D.length cd]
                 · go_simp
                 · refine (specRankOf id rm ln ad D cd u hu.2.1.2).mono ?_
                   rintro e w2 ⟨rfl, b2⟩
                   rw [hR']
                   exact ⟨rfl, hu.1.below b2, ⟨hu.2.1.1.below b2, hu.2.1.2.below b2⟩, Below.then2 hu.2.2 b2⟩
               simp only [Act.put, List.setIfInBounds_toArray, List.set_cons_zero, List.set_cons_succ]
               go_big_quiet_on)
          refine wpQuiet_nil ?_
          intro W2 L2
          obtain ⟨fa, ⟨fb, hnb⟩, bw⟩ := L2
          have HR := Lib.hid hR
          clear hR hR'
          by_cases hq : q = r
          · have hqb : (q == r) = true := by simp [hq]
            obtain ⟨hP, hm⟩ := hmet.out hq
            have HV := Lib.hid (putV_over (f := ⟨id, rm, ln, D⟩) hb.out (by have := hr0.out; rw [hrf.out]; omega) (by rw [hrf.out]; exact hP) (by rw [hrf.out]; exact hm))
            clear hq hP hm hpy hpn hqne hmet HR HR' fa hF
            have O1 := O.below bw
            clear O
            obtain ⟨⟨x0, x1, x2, x3⟩, bb⟩ := fb
            go_wp2_with fail
            refine (copyFr id rm ln ad D cd W2 hnb (by omega)).mono ?_
            rintro e w4 ⟨av, cv, rfl, oA, g2⟩
            replace oA := oA.mono bb.size
            replace O1 := O1.stay g2
            replace bb := bb.trans ((below_new g2).mono bb.size)
            clear g2 hnb x0 x1 x2 x3
            rw [← hml.out] at O1
            have hkm : k < M.length := by rw [hml.out]; exact hlt
            have O2 := O1.putAt (id := id) (rm := rm) (ln := ln) hkm oA
            have hmp := Lib.hid (map_set (f := ⟨id, rm, ln, D⟩) (dv := .slice av D.length cv) hM.out hlt)
            obtain ⟨x0, x1, x2, x3⟩ := O1.cells hkm
            have z0 := O1.frz (k * 4)
            have z1 := O1.frz (k * 4 + 1)
            have z2 := O1.frz (k * 4 + 2)
            have z3 := O1.frz (k * 4 + 3)
            have b2 := bb.grown (putF_grown g k id rm ln (.slice av D.length cv) w4) bb.size (fun q e => by cases e; exact (O1.1.lt g rfl).1)
            have hsl : (splL L k (k + 1) [⟨id, rm, ln, D⟩]).length = L.length := by rw [splL_len (by omega)]; simp; omega
            replace hsl := Lib.hid hsl
            rw [hml.out] at O2
            replace O2 := Lib.hid O2
            replace b2 := Lib.hid b2
            clear O1
            generalize (nthM M k).1.id = i0 at *
            generalize (nthM M k).1.rm = i1 at *
            generalize (nthM M k).1.ln = i2 at *
            generalize (nthM M k).2 = i3 at *
            go_wp2_with fail
            go_ret2
            exact ⟨_, g, co, by rw [HV.out]; simp only [hsl.out] <;> rfl, by rw [HV.out]; exact hmp.out, by rw [HV.out]; simp only [hsl.out]; exact O2.out, b2.out⟩
          · have hqb : (q == r) = false := by simp [hq]
            replace hqne := Lib.hid (hqne.out hq)
            have hR := HR.out
            have hR' := HR'.out
            clear hq hmet
            generalize W2 = wr at *
            go_upto_region 13 with fail
            refine region_class (fun u => FrC g (k * 4) ak ck ⟨idk, rmk, lnk, Dk⟩ u ∧ (Four w.heap.size (.int .i64 id) (.bool rm) (.int .i64 ln) (.slice ad D.length cd) w u ∧ Nums ad D u) ∧ Below W0.heap.size W0 u) (by kernel_rfl) (by kernel_rfl) ⟨fa.drew, ⟨fb.drew, hnb.drew⟩, bw.drew⟩ ?_
            clear fa fb hnb bw
            repeat first
              | go_big_quiet_skip
              | (go_big_quiet_want
                 apply Exists.intro
                 refine ⟨fun u hu => ?_, ?_⟩
                 · apply quietAt_val
                   obtain ⟨⟨⟨a0, a1, a2, a3⟩, _⟩, ⟨⟨⟨b0, b1, b2, b3⟩, _⟩, _⟩, _⟩ := hu
                   go_simp
                   rfl
                 simp only [Act.put, List.setIfInBounds_toArray, List.set_cons_zero, List.set_cons_succ]
                 go_big_quiet_on)
              | (go_big_quiet_want
                 apply Exists.intro
                 refine ⟨fun u hu => ?_, ?_⟩
                 · apply quietAt_enter 47 #[frV idk rmk lnk ak Dk.length ck]
                   · go_simp
                   · refine (specRankOf idk rmk lnk ak Dk ck u hu.1.2).mono ?_
                     rintro e w2 ⟨rfl, b2⟩
                     rw [hR]
                     exact ⟨rfl, hu.1.below b2, ⟨hu.2.1.1.below b2, hu.2.1.2.below b2⟩, Below.then2 hu.2.2 b2⟩
                 simp only [Act.put, List.setIfInBounds_toArray, List.set_cons_zero, List.set_cons_succ]
                 go_big_quiet_on)
              | (go_big_quiet_want
                 apply Exists.intro
                 refine ⟨fun u hu => ?_, ?_⟩
                 · apply quietAt_enter 47 #[frV id rm ln ad D.length cd]
                   · go_simp
                   · refine (specRankOf id rm ln ad D cd u hu.2.1.2).mono ?_
                     rintro e w2 ⟨rfl, b2⟩
                     rw [hR']
                     exact ⟨rfl, hu.1.below b2, ⟨hu.2.1.1.below b2, hu.2.1.2.below b2⟩, Below.then2 hu.2.2 b2⟩
                 simp only [Act.put, List.setIfInBounds_toArray, List.set_cons_zero, List.set_cons_succ]
                 go_big_quiet_on)
            refine wpQuiet_nil ?_
            intro W2 L2
            obtain ⟨fa, ⟨fb, hnb⟩, bw⟩ := L2
            clear hR hR' HR fa fb hnb
            by_cases hl : q < r
            · replace hpy := Lib.hid (hpy.out hl)
              go_wp2_with fail
              go_roundw
              case rel => exact ⟨k + 1, by omega, by go_num, by rw [hpy.out] <;> go_num, hqne.out, bw⟩
              case measure => simp [intOf]; omega
            · replace hpn := Lib.hid (hpn.out hl)
              go_wp2_with fail
              go_roundw
              case rel => exact ⟨k + 1, by omega, by go_num, by rw [hpn.out] <;> rfl, hqne.out, bw⟩
              case measure => simp [intOf]; omega
        · obtain rfl : k = L.length := by omega
          have hP := pos_at (r := r) hB.out
          have hm : metB L r (posN L r L.length) = false := by
            cases hmm : metB L r (posN L r L.length) with
            | false => rfl
            | true => exact absurd (metB_yes.1 hmm).2 (hne.out _ (metB_yes.1 hmm).1)
          have hpl := posN_le L r L.length
          generalize posN L r L.length = p at *
          have O1 := O.below bw
          have hn1 := hn.below bw
          replace f0 := f0.below bw
          have bb := f0.2
          clear O hn hne hF HR' bw
          by_cases hge : 16 ≤ L.length
          · have HV := Lib.hid (putV_full (f := ⟨id, rm, ln, D⟩) hb.out (by have := hr0.out; rw [hrf.out]; omega) (by rw [hrf.out]; exact hP) (by rw [hrf.out]; exact hm) hge)
            have hgi : (16 : Int) ≤ (L.length : Int) := by omega
            clear hP hm
            go_wp2_with fail
            go_ret2
            exact ⟨M, g, co, by rw [HV.out] <;> rfl, by rw [HV.out]; exact hM.out, by rw [HV.out]; exact O1, bb⟩
          · have HV := Lib.hid (putV_new (f := ⟨id, rm, ln, D⟩) hb.out (by have := hr0.out; rw [hrf.out]; omega) (by rw [hrf.out]; exact hP) (by rw [hrf.out]; exact hm) hge)
            have hgi : ¬ (16 : Int) ≤ (L.length : Int) := by omega
            clear hP hm hb hB hr0 hrf
            have hco := O1.len.2
            rw [← hml.out] at O1
            have hpm : p ≤ M.length := by rw [hml.out]; exact hpl
            have hdl : (M.drop p).length = L.length - p := by rw [List.length_drop, hml.out]
            have hcell : ∀ (W : World), OwnF w.heap.size M (.slice (some ⟨g, 0, none⟩) M.length co) W → ∀ j u, (flatF (M.drop p))[j]? = some u → W.cell? ((⟨g, p * 4, none⟩ : Addr).add j) = some u := by
              intro W hO j u hu
              have h1 := flatF_drop hpm hu
              have h2 := (List.getElem?_eq_some_iff.1 h1).1
              rw [flatF_len] at h2
              rw [add_lit, hO.1.cellAt _ (by omega), h1]
            have hmap2 : ∀ dv : Value, ((M.take p ++ [((⟨id, rm, ln, D⟩ : Frm), dv)] ++ M.drop p).map fun m => m.1) = splL L p p [⟨id, rm, ln, D⟩] := by
              intro dv
              rw [List.append_assoc]; exact map_take_drop hM.out p p _
            have hsl : (splL L p p [⟨id, rm, ln, D⟩]).length = p + 1 + (L.length - p) := by rw [splL_len hpl]; simp; omega
            have hOt := fun (W : World) (h : OwnF w.heap.size M (.slice (some ⟨g, 0, none⟩) M.length co) W) => h.take hpm
            have hal : (M.take p).length = p := by simp; omega
            replace hmap2 := Lib.hid hmap2
            replace hsl := Lib.hid hsl
            replace hcell := Lib.hid hcell
            replace hOt := Lib.hid hOt
            have hgw : g < wr.heap.size := (O1.1.lt g rfl).2
            have hgb : w.heap.size ≤ g := (O1.1.lt g rfl).1
            have kb : Below wr.heap.size wr (wr.alloc (.cells #[] 35)) := (Below.refl _ _).alloc (Nat.le_refl _) _
            have own0 : RowOf wr.heap.size (.slice (some ⟨wr.heap.size, 0, none⟩) 0 0) [] (wr.alloc (.cells #[] 35)) := (own_made wr (Nat.le_refl _)).1
            have hDn : Dat [] wr := fun m hm => by cases hm
            have hDd : Dat (M.drop p) wr := fun m hm => by
              obtain ⟨ad, c, e, h⟩ := (O1.2 m (List.mem_of_mem_drop hm)).nums
              exact ⟨ad, c, e, h⟩
            have hnw := hcell.out _ (O1.below kb)
            replace hnw := Lib.hid hnw
            by_cases hcp : co = p
            · have hX0 : M.drop p = [] := List.eq_nil_of_length_eq_zero (by omega)
              replace hX0 := Lib.hid hX0
              have hcp' : p = co := hcp.symm
              subst hcp'
              have hL0 : L.length - p = 0 := by omega
              rw [hL0] at hdl
              rw [hL0] at hsl
              clear hcp hL0
              go_wp2_with (at_builtin; go_loud (refine wpList_ownF rfl _ _ rfl wr.heap.size [] (M.drop p) (.slice (some ⟨wr.heap.size, 0, none⟩) 0 0) rfl own0 ⟨g, 0, none⟩ _ _ hdl rfl (fun j u hu => by rw [hX0.out] at hu; cases hu) wr (Nat.le_refl _) kb.size kb hDn hDd (by first | omega | (simp; omega) | simp) ?_))
              intro vr W5 R5 D5 b5 hnr
              have O5 := O1.below b5
              have n5 := (hn1.alloc (.cells #[] 35))
              replace n5 := hn1.below b5
              replace f0 := f0.below b5
              obtain ⟨⟨x0, x1, x2, x3⟩, bb⟩ := f0
              have hR5 : ∃ gr cr, vr = .slice (some ⟨gr, 0, none⟩) 0 cr ∧ wr.heap.size ≤ gr ∧ W5.ownsRow wr.heap.size 35 4 (.slice (some ⟨gr, 0, none⟩) 0 cr) 0 (flatF (M.drop p)) := by
                rcases R5.2 with ⟨e, -⟩ | ⟨gr, cap, cur, e, hb, -⟩
                · exact absurd (hnr e) (by simp)
                · rw [hdl] at e
                  subst e
                  refine ⟨gr, cap, rfl, hb, ?_⟩
                  have h := R5
                  unfold RowOf at h
                  rw [hdl] at h
                  exact h
              obtain ⟨gr, cr, rfl, hgr, R⟩ := hR5
              clear R5 D5 hnr own0 kb hDn O1 hn1 b5
              generalize wr.heap.size = hw at *
              have hpco : p ≤ p := by omega
              have hneg : g ≠ gr := by omega
              have hne7 := Lib.hid (show (Value.slice (some (⟨gr, 0, none⟩ : Addr)) 0 cr).ownBlock ≠ (Value.slice (some (⟨g, 0, none⟩ : Addr)) p p).ownBlock by simp [Value.ownBlock]; omega)
              have hlow := Lib.hid (show ∀ q, (Value.slice (some (⟨g, 0, none⟩ : Addr)) p p).ownBlock = some q → w.heap.size ≤ q from fun q e => by simp [Value.ownBlock] at e; subst e; exact hgb)
              have hszw : w.heap.size ≤ W5.heap.size := bb.size
              go_upto_region 18 with fail
              go_region_law (first
                | (go_simp
                   go_at_call 40
                   refine (copyFr id rm ln ad D cd _ n5.drew (by omega)).mono ?_
                   rintro e w6 ⟨av, cv, rfl, oA, g6⟩
                   have g6' := grown_of_drew g6
                   have O6 := O5.stay g6'
                   have R6 := R.kept g6' (by simp [Value.ownBlock])
                   have b6 := bb.trans ((below_new g6').mono hszw)
                   replace oA := oA.mono (B' := w.heap.size) hszw
                   have hs6 : Hid (w.heap.size ≤ (w6.alloc (.cells #[.int .i64 id, .bool rm, .int .i64 ln, .slice av D.length cv] 35)).heap.size) := Lib.hid (below_more b6 _).size)
                | (refine step_appX rfl (.tmp 61) (.tmp 64) rfl w.heap.size (M.take p) [(⟨id, rm, ln, D⟩, .slice av D.length cv)] (.slice (some ⟨g, 0, none⟩) p p) ?_ ?_ ⟨w6.heap.size, 0, none⟩ 1 1 ?_ ?_ ?_ ?_ ?_ ?_ hs6.out ?_
                   · simp [Act.eval, Act.put]
                   · exact hOt.out _ (O6.stay (World.grownBy_alloc w6 _ none))
                   · simp [Act.eval, Act.put]
                   · rfl
                   · intro j u hu
                     rw [add_lit, Nat.zero_add]
                     match j, hu with
                     | 0, hu => simp [flatF] at hu; subst hu; exact World.cell?_alloc_at _ _ _ _ rfl
                     | 1, hu => simp [flatF] at hu; subst hu; exact World.cell?_alloc_at _ _ _ _ rfl
                     | 2, hu => simp [flatF] at hu; subst hu; exact World.cell?_alloc_at _ _ _ _ rfl
                     | 3, hu => simp [flatF] at hu; subst hu; exact World.cell?_alloc_at _ _ _ _ rfl
                   · intro x hx
                     simp at hx
                     subst hx
                     exact oA.stay (World.grownBy_alloc w6 _ none)
                   · intro e
                     cases e
                   · omega
                   intro g7 c7 w7 O7 k7
                   have hl7 : (M.take p ++ [((⟨id, rm, ln, D⟩ : Frm), (Value.slice av D.length cv))]).length = p + 1 := by
                     rw [List.length_append, hal]
                     rfl
                   have R7 := (R6.kept (World.grownBy_alloc w6 (.cells #[.int .i64 id, .bool rm, .int .i64 ln, .slice av D.length cv] 35) none) (Classical.em _)).kept k7 (.inr hne7.out)
                   have b7 := (below_more b6 (.cells #[.int .i64 id, .bool rm, .int .i64 ln, .slice av D.length cv] 35)).grown k7 hs6.out hlow.out
                   have X7 : ∀ x ∈ M.drop p, OwnI w.heap.size x.1.D x.2 w7 := fun x hx =>
                     have h6 := hOt.out _ (O6.stay (World.grownBy_alloc w6 (.cells #[.int .i64 id, .bool rm, .int .i64 ln, .slice av D.length cv] 35) none))
                     have h7 := (O6.stay (World.grownBy_alloc w6 (.cells #[.int .i64 id, .bool rm, .int .i64 ln, .slice av D.length cv] 35) none)).2 x (List.mem_of_mem_drop hx)
                     h7.kept k7 (OwnI.ne_row h6 h7)
                   have hs7 : Hid (w.heap.size ≤ w7.heap.size) := Lib.hid (Nat.le_trans hs6.out k7.size))
                | (refine step_appX rfl (.tmp 65) (.tmp 66) rfl w.heap.size (M.take p ++ [(⟨id, rm, ln, D⟩, .slice av D.length cv)]) (M.drop p) (.slice (some ⟨g7, 0, none⟩) (p + 1) c7) ?_ ?_ ⟨gr, 0, none⟩ 0 cr ?_ hdl ?_ X7 ?_ ?_ hs7.out ?_
                   · simp [Act.eval, Act.put, hal]
                   · have h := O7
                     rw [hal] at h
                     exact h
                   · simp [Act.eval, Act.put]
                   · intro j u hu
                     have h2 := (List.getElem?_eq_some_iff.1 hu).1
                     have h3 := R7.1
                     rw [add_lit, Nat.zero_add, R7.cellAt _ (by omega)]
                     exact hu
                   · intro e
                     cases e
                   · omega
                   intro g8 c8 w8 O8 k8))
              rw [hl7] at O8
              have b8 := b7.grown k8 hs7.out (fun q e => by simp [Value.ownBlock] at e; subst e; exact (O7.1.lt g7 rfl).1)
              have hmp := Lib.hid (hmap2.out (.slice av D.length cv))
              replace O8 := Lib.hid O8
              clear O5 O6 O7 R R6 R7 X7 k7 k8 b6 b7 oA g6 g6' bb x0 x1 x2 x3 n5 hdl hl7
              go_wp2_with fail
              go_ret2
              exact ⟨_, g8, c8, by rw [HV.out]; simp only [hsl.out] <;> rfl, by rw [HV.out]; exact hmp.out, by rw [HV.out]; simp only [hsl.out]; exact O8.out, b8⟩
            · skip
              go_wp2_with (at_builtin; go_loud (refine wpList_ownF rfl _ _ rfl wr.heap.size [] (M.drop p) (.slice (some ⟨wr.heap.size, 0, none⟩) 0 0) rfl own0 ⟨g, p * 4, none⟩ _ _ hdl rfl hnw.out wr (Nat.le_refl _) kb.size kb hDn hDd (by first | omega | (simp; omega) | simp) ?_))
              intro vr W5 R5 D5 b5 hnr
              have O5 := O1.below b5
              have n5 := (hn1.alloc (.cells #[] 35))
              replace n5 := hn1.below b5
              replace f0 := f0.below b5
              obtain ⟨⟨x0, x1, x2, x3⟩, bb⟩ := f0
              have hR5 : ∃ gr cr, vr = .slice (some ⟨gr, 0, none⟩) (L.length - p) cr ∧ wr.heap.size ≤ gr ∧ W5.ownsRow wr.heap.size 35 4 (.slice (some ⟨gr, 0, none⟩) (L.length - p) cr) (L.length - p) (flatF (M.drop p)) := by
                rcases R5.2 with ⟨e, -⟩ | ⟨gr, cap, cur, e, hb, -⟩
                · exact absurd (hnr e) (by simp)
                · rw [hdl] at e
                  subst e
                  refine ⟨gr, cap, rfl, hb, ?_⟩
                  have h := R5
                  unfold RowOf at h
                  rw [hdl] at h
                  exact h
              obtain ⟨gr, cr, rfl, hgr, R⟩ := hR5
              clear R5 D5 hnr own0 kb hDn O1 hn1 b5
              generalize wr.heap.size = hw at *
              have hpco : p ≤ co := by omega
              have hneg : g ≠ gr := by omega
              have hne7 := Lib.hid (show (Value.slice (some (⟨gr, 0, none⟩ : Addr)) (L.length - p) cr).ownBlock ≠ (Value.slice (some (⟨g, 0, none⟩ : Addr)) p co).ownBlock by simp [Value.ownBlock]; omega)
              have hlow := Lib.hid (show ∀ q, (Value.slice (some (⟨g, 0, none⟩ : Addr)) p co).ownBlock = some q → w.heap.size ≤ q from fun q e => by simp [Value.ownBlock] at e; subst e; exact hgb)
              have hszw : w.heap.size ≤ W5.heap.size := bb.size
              go_upto_region 18 with fail
              go_region_law (first
                | (go_simp
                   go_at_call 40
                   refine (copyFr id rm ln ad D cd _ n5.drew (by omega)).mono ?_
                   rintro e w6 ⟨av, cv, rfl, oA, g6⟩
                   have g6' := grown_of_drew g6
                   have O6 := O5.stay g6'
                   have R6 := R.kept g6' (by simp [Value.ownBlock])
                   have b6 := bb.trans ((below_new g6').mono hszw)
                   replace oA := oA.mono (B' := w.heap.size) hszw
                   have hs6 : Hid (w.heap.size ≤ (w6.alloc (.cells #[.int .i64 id, .bool rm, .int .i64 ln, .slice av D.length cv] 35)).heap.size) := Lib.hid (below_more b6 _).size)
                | (refine step_appX rfl (.tmp 61) (.tmp 64) rfl w.heap.size (M.take p) [(⟨id, rm, ln, D⟩, .slice av D.length cv)] (.slice (some ⟨g, 0, none⟩) p co) ?_ ?_ ⟨w6.heap.size, 0, none⟩ 1 1 ?_ ?_ ?_ ?_ ?_ ?_ hs6.out ?_
                   · simp [Act.eval, Act.put]
                   · exact hOt.out _ (O6.stay (World.grownBy_alloc w6 _ none))
                   · simp [Act.eval, Act.put]
                   · rfl
                   · intro j u hu
                     rw [add_lit, Nat.zero_add]
                     match j, hu with
                     | 0, hu => simp [flatF] at hu; subst hu; exact World.cell?_alloc_at _ _ _ _ rfl
                     | 1, hu => simp [flatF] at hu; subst hu; exact World.cell?_alloc_at _ _ _ _ rfl
                     | 2, hu => simp [flatF] at hu; subst hu; exact World.cell?_alloc_at _ _ _ _ rfl
                     | 3, hu => simp [flatF] at hu; subst hu; exact World.cell?_alloc_at _ _ _ _ rfl
                   · intro x hx
                     simp at hx
                     subst hx
                     exact oA.stay (World.grownBy_alloc w6 _ none)
                   · intro e
                     cases e
                   · omega
                   intro g7 c7 w7 O7 k7
                   have hl7 : (M.take p ++ [((⟨id, rm, ln, D⟩ : Frm), (Value.slice av D.length cv))]).length = p + 1 := by
                     rw [List.length_append, hal]
                     rfl
                   have R7 := (R6.kept (World.grownBy_alloc w6 (.cells #[.int .i64 id, .bool rm, .int .i64 ln, .slice av D.length cv] 35) none) (Classical.em _)).kept k7 (.inr hne7.out)
                   have b7 := (below_more b6 (.cells #[.int .i64 id, .bool rm, .int .i64 ln, .slice av D.length cv] 35)).grown k7 hs6.out hlow.out
                   have X7 : ∀ x ∈ M.drop p, OwnI w.heap.size x.1.D x.2 w7 := fun x hx =>
                     have h6 := hOt.out _ (O6.stay (World.grownBy_alloc w6 (.cells #[.int .i64 id, .bool rm, .int .i64 ln, .slice av D.length cv] 35) none))
                     have h7 := (O6.stay (World.grownBy_alloc w6 (.cells #[.int .i64 id, .bool rm, .int .i64 ln, .slice av D.length cv] 35) none)).2 x (List.mem_of_mem_drop hx)
                     h7.kept k7 (OwnI.ne_row h6 h7)
                   have hs7 : Hid (w.heap.size ≤ w7.heap.size) := Lib.hid (Nat.le_trans hs6.out k7.size))
                | (refine step_appX rfl (.tmp 65) (.tmp 66) rfl w.heap.size (M.take p ++ [(⟨id, rm, ln, D⟩, .slice av D.length cv)]) (M.drop p) (.slice (some ⟨g7, 0, none⟩) (p + 1) c7) ?_ ?_ ⟨gr, 0, none⟩ (L.length - p) cr ?_ hdl ?_ X7 ?_ ?_ hs7.out ?_
                   · simp [Act.eval, Act.put, hal]
                   · have h := O7
                     rw [hal] at h
                     exact h
                   · simp [Act.eval, Act.put]
                   · intro j u hu
                     have h2 := (List.getElem?_eq_some_iff.1 hu).1
                     have h3 := R7.1
                     rw [add_lit, Nat.zero_add, R7.cellAt _ (by omega)]
                     exact hu
                   · intro e
                     cases e
                   · omega
                   intro g8 c8 w8 O8 k8))
              rw [hl7] at O8
              have b8 := b7.grown k8 hs7.out (fun q e => by simp [Value.ownBlock] at e; subst e; exact (O7.1.lt g7 rfl).1)
              have hmp := Lib.hid (hmap2.out (.slice av D.length cv))
              replace O8 := Lib.hid O8
              clear O5 O6 O7 R R6 R7 X7 k7 k8 b6 b7 oA g6 g6' bb x0 x1 x2 x3 n5 hdl hl7
              go_wp2_with fail
              go_ret2
              exact ⟨_, g8, c8, by rw [HV.out]; simp only [hsl.out] <;> rfl, by rw [HV.out]; exact hmp.out, by rw [HV.out]; simp only [hsl.out]; exact O8.out, b8⟩
end Go.Proofs.YtnhmecabppaboaaGreat

/- How great the boxes' answers are, and small things for the exact laws. No program's walk in it. -/

set_option linter.unusedVariables false
set_option linter.unusedSimpArgs false
set_option maxRecDepth 20000
namespace Go.Proofs.YtnhmecabppaboaaGreat
open Go.RowKit

/-- Not more than 16 frames, of not more than 8 data each. -/
def Lean16 (X : List Frm) : Prop := X.length ≤ 16 ∧ ∀ x ∈ X, x.D.length ≤ 8
theorem Lean16.nil : Lean16 [] := ⟨Nat.zero_le _, fun x hx => by cases hx⟩
theorem Lean16.box {L : List Frm} (h : boxB L = true) : Lean16 L := by
  have hB := boxB_iff.1 h
  refine ⟨hB.1, fun x hx => ?_⟩
  obtain ⟨j, hj, rfl⟩ := List.mem_iff_getElem.1 hx
  have := hB.2.short hj
  rwa [nthF_eq hj] at this
theorem lean_out (L : List Frm) (r : Int) : Lean16 (outV L r) := by
  cases hb : boxB L with
  | false => rw [outV_bad r hb]; exact Lean16.nil
  | true =>
    rw [outV_ok r hb]
    have h := Lean16.box hb
    exact ⟨Nat.le_trans (List.length_filter_le _ _) h.1, fun x hx => h.2 x (List.mem_filter.1 hx).1⟩
theorem lean_spl {L : List Frm} {p q : Nat} {f : Frm} (h : Lean16 L) (hp : p ≤ q) (hq : q ≤ L.length) (hl : (splL L p q [f]).length ≤ 16) (hf : 0 ≤ rkF f) : Lean16 (splL L p q [f]) := by
  refine ⟨hl, fun x hx => ?_⟩
  simp only [splL, List.mem_append] at hx
  rcases hx with hx | hx | hx
  · exact h.2 x (List.mem_of_mem_take hx)
  · simp at hx; subst hx; exact rkF_len hf
  · exact h.2 x (List.mem_of_mem_drop hx)
theorem lean_put (L : List Frm) (f : Frm) : Lean16 (putV L f).1 := by
  cases hb : boxB L with
  | false => rw [putV_bad f hb]; exact Lean16.nil
  | true =>
    have h := Lean16.box hb
    have hB := (boxB_iff.1 hb).2
    by_cases hn : rkF f < 0
    · rw [putV_no hb hn]; exact h
    have hp := pos_at (r := rkF f) hB
    generalize posN L (rkF f) L.length = p at hp
    cases hm : metB L (rkF f) p with
    | true =>
      rw [putV_over hb hn hp hm]
      have hl := (metB_yes.1 hm).1
      have h16 := h.1
      exact lean_spl h (by omega) (by omega) (by rw [splL_len hp.1]; simp; omega) (by omega)
    | false =>
      by_cases h16 : 16 ≤ L.length
      · rw [putV_full hb hn hp hm h16]; exact h
      · rw [putV_new hb hn hp hm h16]
        have hpl := hp.1
        exact lean_spl h (by omega) hpl (by rw [splL_len hpl]; simp; omega) (by omega)
theorem Lean16.room {X : List Frm} (h : Lean16 X) : ∀ k, k ≤ X.length → room X k ≤ 8 * k := by
  intro k
  induction k with
  | zero => intro _; rw [room_zero]; exact Nat.le_refl _
  | succ k ih =>
    intro hk
    rw [room_succ X k (by omega)]
    have h1 := ih (by omega)
    have h2 := h.2 (nthF X k) (by rw [nthF_eq (by omega)]; exact List.getElem_mem _)
    omega
theorem Lean16.fits {X : List Frm} (h : Lean16 X) : X.length + Go.Proofs.YtnhmecabppaboaaGreat.room X X.length ≤ 1048576 := by
  have h1 := h.room X.length (Nat.le_refl _)
  have h2 := h.1
  omega
theorem OwnF.addressed {B n c : Nat} {M : List (Frm × Value)} {a : Option Addr} {w : World} (h : OwnF B M (.slice a n c) w) : Addressed a c := by
  rcases h.1.2 with ⟨e, _⟩ | ⟨g, cap, cur, e, _⟩
  · cases e; exact .inl ⟨rfl, rfl⟩
  · cases e; exact .inr ⟨g, 0, rfl⟩
theorem OwnF.frsOf {B n c : Nat} {M : List (Frm × Value)} {a : Option Addr} {X : List Frm} {w : World} (h : OwnF B M (.slice a n c) w) (hM : (M.map fun m => m.1) = X) (hn : X.length ≤ 2000000) : Frs a X w := by
  obtain ⟨a', c', e, hf⟩ := h.frs (by have := congrArg List.length hM; simp at this; omega)
  simp only [Value.slice.injEq] at e
  obtain ⟨rfl, _, _⟩ := e
  rw [hM] at hf
  exact hf
/-- The two answers of PutIn, by their parts. -/
def PutOx (X : List Frm) (k : Int) (w : World) (e : Ending) (w' : World) : Prop :=
  ∃ (M : List (Frm × Value)) (g c : Nat), e = .returned (.tuple #[.slice (some ⟨g, 0, none⟩) X.length c, .int .i64 k]) ∧ (M.map fun m => m.1) = X ∧ OwnF w.heap.size M (.slice (some ⟨g, 0, none⟩) X.length c) w' ∧ Below w.heap.size w w'
theorem PutO.parts {X : List Frm} {k : Int} {w w' : World} {e : Ending} (h : PutO (X, k) w e w') : PutOx X k w e w' := h
def PutGotx (X : List Frm) (k : Int) (w : World) (e : Ending) (w' : World) : Prop :=
  ∃ (M : List (Frm × Value)) (a : Option Addr) (c : Nat), e = .returned (.tuple #[.slice a X.length c, .int .i64 k]) ∧ (M.map fun m => m.1) = X ∧ OwnF w.heap.size M (.slice a X.length c) w' ∧ Far M ∧ Below w.heap.size w w'
theorem PutGot.parts {X : List Frm} {k : Int} {w w' : World} {e : Ending} (h : PutGot (X, k) w e w') : PutGotx X k w e w' := h
theorem Bx.mid {g lo hi : Nat} {x0 x1 x2 x3 : Value} {w w' : World} (h : Bx g x0 x1 x2 x3 w) (k : Mid lo hi w w') (hg : g < lo ∨ hi ≤ g) : Bx g x0 x1 x2 x3 w' := (k.block g h.lt hg).trans h
theorem kAt_le {X : List Frm} {j : Nat} (h : X.length + room X X.length ≤ 1048576) (hj : j ≤ X.length) : kAt 1 X j ≤ 5000000 := by
  have := room_le X hj
  simp only [kAt]; omega
theorem Bx.below' {g : Nat} {x0 x1 x2 x3 : Value} {w w' : World} (h : Bx g x0 x1 x2 x3 w) (b : Below w.heap.size w w') : Bx g x0 x1 x2 x3 w' := (b.block g h.lt).trans h
theorem OwnI.nums2 {Bn : Nat} {D : List Int} {a : Option Addr} {n c : Nat} {w : World} (h : OwnI Bn D (.slice a n c) w) : Nums a D w := by
  obtain ⟨a', c', e, hn⟩ := h.nums
  simp only [Value.slice.injEq] at e
  obtain ⟨rfl, _, _⟩ := e
  exact hn
theorem kAt_pos {k : Int} {X : List Frm} {j : Nat} (h : 0 ≤ k) : 0 ≤ kAt k X j := by simp only [kAt]; omega
end Go.Proofs.YtnhmecabppaboaaGreat
