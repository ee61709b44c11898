/- impl.spliced: the box with a frame, or none, in the place of some of it: its frames in the answer's own rows. -/
import Derived.Test.YtcciabalbdnakabCopied
import Derived.Test.YtcciabalbdnakabBox
import Derived.ArgAppend
import Derived.Deep.Slices
import Derived.Deep.Upon
set_option linter.unusedVariables false
set_option linter.unusedSimpArgs false
set_option maxRecDepth 20000
namespace Go.Proofs.Ytcciabalbdnakab
open Go.RowKit

theorem flatF_append (A B : List (Frm × Value)) : flatF (A ++ B) = flatF A ++ flatF B := by simp [flatF]
theorem flatF_take {M : List (Frm × Value)} {p j : Nat} {u : Value} (h : (flatF (M.take p))[j]? = some u) : (flatF M)[j]? = some u := by
  conv => lhs; rw [← List.take_append_drop p M, flatF_append]
  have hj := (List.getElem?_eq_some_iff.1 h).1
  rw [List.getElem?_append_left hj, h]
theorem flatF_drop {M : List (Frm × Value)} {q j : Nat} {u : Value} (hq : q ≤ M.length) (h : (flatF (M.drop q))[j]? = some u) : (flatF M)[q * 4 + j]? = some u := by
  conv => lhs; rw [← List.take_append_drop q M, flatF_append]
  have hl : (flatF (M.take q)).length = q * 4 := by rw [flatF_len, List.length_take, Nat.min_eq_left hq]
  rw [List.getElem?_append_right (by omega), hl, Nat.add_sub_cancel_left, h]
/-- The data of each frame can be read. -/
def Dat (M : List (Frm × Value)) (w : World) : Prop := ∀ m ∈ M, ∃ ad c, m.2 = .slice ad m.1.D.length c ∧ Nums ad m.1.D w
theorem Dat.below {M : List (Frm × Value)} {w w' : World} (h : Dat M w) (b : Below w.heap.size w w') : Dat M w' := fun m hm => by
  obtain ⟨ad, c, e, hn⟩ := h m hm
  exact ⟨ad, c, e, hn.below b⟩
theorem Dat.one {M : List (Frm × Value)} {w : World} (h : Dat M w) : ∀ u ∈ flatF M, u.oneCell' = true := by
  intro u hu
  simp only [flatF, List.mem_flatMap] at hu
  obtain ⟨m, hm, hu⟩ := hu
  obtain ⟨ad, c, e, -⟩ := h m hm
  simp at hu
  rcases hu with rfl | rfl | rfl | rfl
  · rfl
  · rfl
  · rfl
  · rw [e]; rfl
/-- A slice of frames with an address, cell by cell. -/
theorem Frs.flat {g o : Nat} {L : List Frm} {w : World} (h : Frs (some ⟨g, o, none⟩) L w) :
    ∃ M : List (Frm × Value), (M.map fun m => m.1) = L ∧ Dat M w ∧ ∀ j u, (flatF M)[j]? = some u → w.cell? ⟨g, o + j, none⟩ = some u := by
  obtain ⟨f, hf⟩ := Go.Deep.choose_lt (α := Value) (p := fun j v => ∃ ad c, v = .slice ad (nthF L j).D.length c ∧ FrC g (o + j * 4) ad c (nthF L j) w) (n := L.length) (fun j hj => by
    obtain ⟨g', o', ad, c, e, hc⟩ := h.2 j hj
    cases e
    exact ⟨_, ad, c, rfl, hc⟩)
  have hml : ((List.range L.length).map fun j => (nthF L j, f j)).length = L.length := by simp
  have hel : ∀ j (hj : j < ((List.range L.length).map fun j => (nthF L j, f j)).length), ((List.range L.length).map fun j => (nthF L j, f j))[j] = (nthF L j, f j) := by intro j hj; simp
  generalize (List.range L.length).map (fun j => (nthF L j, f j)) = M at hml hel
  refine ⟨M, ?_, fun m hm => ?_, fun j u hu => ?_⟩
  · apply List.ext_getElem?
    intro j
    by_cases hj : j < L.length
    · have hj2 : j < M.length := by omega
      rw [List.getElem?_eq_getElem (by simpa using hj2), List.getElem?_eq_getElem hj, List.getElem_map, hel j hj2]
      simp [nthF, List.getD_eq_getElem?_getD, hj]
    · rw [List.getElem?_eq_none (by simp; omega), List.getElem?_eq_none (by omega)]
  · obtain ⟨i, hi, rfl⟩ := List.mem_iff_getElem.1 hm
    rw [hel i hi]
    obtain ⟨ad, c, e, hc⟩ := hf i (by omega)
    exact ⟨ad, c, e, hc.2⟩
  · have hj : j < M.length * 4 := by
      have := (List.getElem?_eq_some_iff.1 hu).1
      rw [flatF_len] at this
      exact this
    have hi : j / 4 < M.length := by omega
    obtain ⟨f0, f1, f2, f3⟩ := flatF_at M (j / 4) hi
    obtain ⟨ad, c, e, ⟨c0, c1, c2, c3⟩, _⟩ := hf (j / 4) (by omega)
    rw [hel _ hi] at f0 f1 f2 f3
    have hcase : j = j / 4 * 4 ∨ j = j / 4 * 4 + 1 ∨ j = j / 4 * 4 + 2 ∨ j = j / 4 * 4 + 3 := by omega
    rcases hcase with hc | hc | hc | hc <;> rw [hc] at hu ⊢
    · rw [f0] at hu; cases hu; exact c0
    · rw [f1] at hu; cases hu; exact c1
    · rw [f2] at hu; cases hu; exact c2
    · rw [f3] at hu; cases hu; rw [e]; exact c3
/-- The slice v, in a row made from block B on, bears these frames' cells. -/
def RowOf (B : Nat) (v : Value) (M : List (Frm × Value)) (w : World) : Prop := w.ownsRow B 26 4 v M.length (flatF M)
/-- A row of the call's own whose frames' data can be read. -/
theorem row_frs {B : Nat} {M : List (Frm × Value)} {v : Value} {w : World} (h : RowOf B v M w) (hd : Dat M w) (hm : M.length ≤ 2000000) : ∃ a c, v = .slice a M.length c ∧ Frs a (M.map fun m => m.1) w := by
  rcases h.2 with ⟨rfl, hn⟩ | ⟨g, cap, cur, rfl, hrest⟩
  · have e : M = [] := List.length_eq_zero_iff.1 hn
    subst e
    exact ⟨none, 0, rfl, by simp, fun j hj => by simp at hj⟩
  · refine ⟨_, cap, rfl, by simp [maxLen]; omega, fun j hj => ?_⟩
    have hj' : j < M.length := by simpa using hj
    have e : nthF (M.map fun m => m.1) j = M[j].1 := by simp [nthF, List.getD_eq_getElem?_getD, hj']
    rw [e]
    obtain ⟨ad, c, hv, hn⟩ := hd M[j] (List.getElem_mem hj')
    obtain ⟨f0, f1, f2, f3⟩ := flatF_at M j hj'
    rw [hv] at f3
    refine ⟨g, 0, ad, c, rfl, ⟨?_, ?_, ?_, ?_⟩, hn⟩ <;> rw [Nat.zero_add, World.ownsRow.cellAt h _ (by omega)] <;> assumption
theorem map_take_drop {M : List (Frm × Value)} {L : List Frm} (h : (M.map fun m => m.1) = L) (p q : Nat) (X : List (Frm × Value)) : ((M.take p ++ (X ++ M.drop q)).map fun m => m.1) = splL L p q (X.map fun m => m.1) := by
  subst h; simp [splL]

/-- 'append' of frames, where there is no room: a new row. -/
theorem wpList_growF {ops : Array Oper} {rest : List Oper} {p : Oper} {a : Act} {w : World} {Q : Exit → Act → World → Prop} (hgd : p.guard = none) (s x : Operand)
    (ho : p.op = .call { callee := .builtin .append, args := #[s, x], argTypes := #[31, 31] })
    (A X : List (Frm × Value)) (ao : Option Addr) (n c : Nat) (hA : A.length = n) (hs : a.eval s = .slice ao n c) (hnone : ao = none → n = 0 ∧ c = 0) (holds : ∀ b, ao = some b → ∀ j u, (flatF A)[j]? = some u → w.cell? (b.add j) = some u)
    (ad : Addr) (m c1 : Nat) (hX : X.length = m) (hx : a.eval x = .slice (some ad) m c1) (hnews : ∀ j u, (flatF X)[j]? = some u → w.cell? (ad.add j) = some u) (hd : Dat A w) (hdx : Dat X w)
    (hfull : c < n + m) (hsz : n + m ≤ 1000000)
    (h : ∀ v w', RowOf w.heap.size v (A ++ X) w' → Dat (A ++ X) w' → Below w.heap.size w w' → wpList Try.prog ops Q rest (a.put p.dst v) w') : wpList Try.prog ops Q (p :: rest) a w := by
  obtain ⟨i0, hi, hz0, hz1, hz2⟩ := info_parts infoF
  refine wpList_append_grows w hgd s x 31 ho 26 i0 (.agg #[.int .i64 0, .bool false, .int .i64 0, .slice none 0 0]) 4 48 Try.underlying31 hi hz0 hz1 hz2 rfl (by decide) ao n c (flatF A) hs hnone (by rw [flatF_len, hA]) holds
    ad m c1 (flatF X) hx (by rw [flatF_len, hX]) hnews hdx.one hfull (by unfold maxLen; omega) (by omega) ?_
  intro v w' h2 h3
  have b := below_new h3
  refine h v w' (by unfold RowOf; rw [flatF_append, List.length_append, hA, hX]; exact h2) (fun m hm => ?_) b
  rcases List.mem_append.1 hm with hm | hm
  · exact (hd.below b) m hm
  · exact (hdx.below b) m hm
/-- 'append' of frames to a row of the call's own. -/
theorem wpList_ownF {ops : Array Oper} {rest : List Oper} {p : Oper} {a : Act} {w : World} {Q : Exit → Act → World → Prop} (hgd : p.guard = none) (s x : Operand)
    (ho : p.op = .call { callee := .builtin .append, args := #[s, x], argTypes := #[31, 31] })
    (B : Nat) (A X : List (Frm × Value)) (vo : Value) (hs : a.eval s = vo) (hown : RowOf B vo A w) (ad : Addr) (m c1 : Nat) (hX : X.length = m) (hx : a.eval x = .slice (some ad) m c1) (hnews : ∀ j u, (flatF X)[j]? = some u → w.cell? (ad.add j) = some u)
    (W0 : World) (hW0 : W0.heap.size ≤ B) (hB : B ≤ w.heap.size) (b : Below W0.heap.size W0 w) (hd : Dat A W0) (hdx : Dat X W0) (hsz : A.length + m ≤ 1000000)
    (h : ∀ v w', RowOf B v (A ++ X) w' → Dat (A ++ X) w' → Below W0.heap.size W0 w' → (v = .slice none 0 0 → vo = .slice none 0 0) → wpList Try.prog ops Q rest (a.put p.dst v) w') : wpList Try.prog ops Q (p :: rest) a w := by
  obtain ⟨i0, hi, hz0, hz1, hz2⟩ := info_parts infoF
  refine wpList_append_own _ hgd s x 31 ho B 26 i0 (.agg #[.int .i64 0, .bool false, .int .i64 0, .slice none 0 0]) 4 48 Try.underlying31 hi hz0 hz1 hz2 rfl (by decide) vo A.length (flatF A) hs hown ad m c1 (flatF X) hx (by rw [flatF_len, hX]) hnews hdx.one (by unfold maxLen; omega) (by omega) hB ?_
  intro v' w' h2 h3 h4
  have b' := b.grown h3 b.size (fun q e => by have := (World.ownsRow.lt hown q e).1; omega)
  refine h v' w' (by unfold RowOf; rw [flatF_append, List.length_append, hX]; exact h2) (fun m hm => ?_) b' (fun e => (h4.1 e).1)
  rcases List.mem_append.1 hm with hm | hm
  · exact (hd.below b') m hm
  · exact (hdx.below b') m hm

/-- 'append' of nothing. -/
theorem wpList_noF {ops : Array Oper} {rest : List Oper} {p : Oper} {a : Act} {w : World} {Q : Exit → Act → World → Prop} (hgd : p.guard = none) (s x : Operand)
    (ho : p.op = .call { callee := .builtin .append, args := #[s, x], argTypes := #[31, 31] })
    (ao : Option Addr) (n c : Nat) (hs : a.eval s = .slice ao n c) (hle : n ≤ c) (xv : Value) (hx : a.eval x = xv) (hsrc : Src Try.prog 4 31 xv 0 [] w)
    (h : wpList Try.prog ops Q rest (a.put p.dst (.slice ao n c)) w) : wpList Try.prog ops Q (p :: rest) a w := by
  obtain ⟨i0, hi, hz0, hz1, hz2⟩ := info_parts infoF
  have hrun := run_append_nothing w 31 31 p.type 26 i0 Try.underlying31 hi ao n c hle xv (by rw [hz1]; exact hsrc)
  refine wpList_plain hgd fun K hK => ?_
  unfold Oper.wp
  simp [execOp, ho, resolve, invoke, builtin, hs, hx, hrun, Result.andThen]
  exact hK _ _ h

theorem add_lit (g o j : Nat) : (⟨g, o, none⟩ : Addr).add j = ⟨g, o + j, none⟩ := by unfold Addr.add; split <;> simp_all
theorem splL_shortB {L : List Frm} {p q : Nat} {F : List Frm} (hp : p ≤ L.length) (hs8 : ∀ j, j < L.length → (nthF L j).D.length ≤ 1048576) (hf : ∀ f ∈ F, f.D.length ≤ 8) : ∀ j, j < (splL L p q F).length → (nthF (splL L p q F) j).D.length ≤ 1048576 := by
  intro j hj
  have hm : nthF (splL L p q F) j ∈ splL L p q F := by rw [nthF_eq hj]; exact List.getElem_mem hj
  generalize nthF (splL L p q F) j = x at hm
  have hL : ∀ x ∈ L, x.D.length ≤ 1048576 := by
    intro x hx
    obtain ⟨i, hi, rfl⟩ := List.mem_iff_getElem.1 hx
    have := hs8 i hi
    rwa [nthF_eq hi] at this
  simp only [splL, List.mem_append] at hm
  rcases hm with hm | hm | hm
  · have := hL x (List.mem_of_mem_take hm); omega
  · have := hf x hm; omega
  · have := hL x (List.mem_of_mem_drop hm); omega
theorem splL_short {L : List Frm} {p q : Nat} {F : List Frm} (hp : p ≤ L.length) (hs8 : ∀ j, j < L.length → (nthF L j).D.length ≤ 8) (hf : ∀ f ∈ F, f.D.length ≤ 8) : ∀ j, j < (splL L p q F).length → (nthF (splL L p q F) j).D.length ≤ 1048576 := splL_shortB hp (fun j hj => by have := hs8 j hj; omega) hf
theorem GotF.mono {L : List Frm} {w0 w : World} {e : Ending} {w' : World} (h : GotF L w e w') (b : Below w0.heap.size w0 w) : GotF L w0 e w' := by
  obtain ⟨M, a, c, he, hM, hO, hF, hb⟩ := h
  exact ⟨M, a, c, he, hM, hO.mono b.size, hF, b.trans (hb.mono b.size)⟩

set_option maxHeartbeats 2000000 in
/-- With one frame. -/
theorem splicedOneB (g o : Nat) (L : List Frm) (c : Nat) (p q : Nat) (f : Frm) (g1 c1 : Nat) (adf : Option Addr) (cf : Nat) (w : World) (hd : Frs (some ⟨g, o, none⟩) L w) (hc : L.length ≤ c) (hf : FrC g1 0 adf cf f w)
    (hp : p ≤ q) (hq : q ≤ L.length) (hL : L.length ≤ 1000) (hs8 : ∀ j, j < L.length → (nthF L j).D.length ≤ 1048576) (hf8 : f.D.length ≤ 8) :
    Calls Try.prog 63 #[.slice (some ⟨g, o, none⟩) L.length c, .int .i64 p, .int .i64 q, .slice (some ⟨g1, 0, none⟩) 1 c1] w (GotF (splL L p q [f]) w) := by
  obtain ⟨M, hM, hD, hcell⟩ := hd.flat
  have hml : M.length = L.length := by rw [← hM]; simp
  have hlen := splL_len (L := L) (p := p) (q := q) (F := [f]) (by omega)
  have hsh := Lib.hid (splL_shortB (L := L) (p := p) (q := q) (F := [f]) (by omega) hs8 (fun x hx => by simp at hx; rw [hx]; exact hf8))
  simp only [List.length_singleton] at hlen
  have hDx : Dat [(f, .slice adf f.D.length cf)] w := fun m hm => by simp at hm; subst hm; exact ⟨adf, cf, rfl, hf.2⟩
  have hDt : Dat (M.take p) w := fun m hm => hD m (List.mem_of_mem_take hm)
  have hDd : Dat (M.drop q) w := fun m hm => hD m (List.mem_of_mem_drop hm)
  have hct : ∀ j u, (flatF (M.take p))[j]? = some u → w.cell? ((⟨g, o, none⟩ : Addr).add j) = some u := fun j u hu => by rw [add_lit]; exact hcell j u (flatF_take hu)
  have hcd : ∀ j u, (flatF (M.drop q))[j]? = some u → w.cell? ((⟨g, o + q * 4, none⟩ : Addr).add j) = some u := fun j u hu => by rw [add_lit, Nat.add_assoc]; exact hcell _ u (flatF_drop (by omega) hu)
  have hcx : ∀ j u, (flatF [(f, Value.slice adf f.D.length cf)])[j]? = some u → w.cell? ((⟨g1, 0, none⟩ : Addr).add j) = some u := by
    obtain ⟨⟨k0, k1, k2, k3⟩, _⟩ := hf
    intro j u hu
    rw [add_lit, Nat.zero_add]
    match j, hu with
    | 0, hu => simp [flatF] at hu; subst hu; exact k0
    | 1, hu => simp [flatF] at hu; subst hu; exact k1
    | 2, hu => simp [flatF] at hu; subst hu; exact k2
    | 3, hu => simp [flatF] at hu; subst hu; exact k3
  have htl : (M.take p).length = p := by simp; omega
  have hdl : (M.drop q).length = L.length - q := by simp; omega
  have hmap := Lib.hid (map_take_drop hM p q [(f, Value.slice adf f.D.length cf)])
  obtain ⟨At, hAt⟩ : ∃ At, At = M.take p := ⟨_, rfl⟩
  obtain ⟨Ad, hAd⟩ : ∃ Ad, Ad = M.drop q := ⟨_, rfl⟩
  rw [← hAt] at hDt hct htl hmap
  rw [← hAd] at hDd hcd hdl hmap
  replace hDt := Lib.hid hDt
  replace hDd := Lib.hid hDd
  replace hDx := Lib.hid hDx
  replace hct := Lib.hid hct
  replace hcd := Lib.hid hcd
  replace hcx := Lib.hid hcx
  clear hAt hAd hM hD hcell hml
  go_enter Try.func63, Try.ntmps63
  go_wp2_with (at_builtin; (refine wpList_growF rfl _ _ rfl At [(f, .slice adf f.D.length cf)] (some ⟨g, o, none⟩) p p htl rfl (fun e => by cases e) (fun b e => by cases e; exact hct.out) ⟨g1, 0, none⟩ 1 c1 rfl rfl hcx.out hDt.out hDx.out ?c1 ?c2 ?_))
  case c1 => omega
  case c2 => omega
  intro v1 w1 R1 D1 b1
  have hcd1 := Lib.hid (show ∀ j u, (flatF Ad)[j]? = some u → w1.cell? ((⟨g, o + q * 4, none⟩ : Addr).add j) = some u from fun j u hu => (b1.cell (World.block_lt_of_cell? w _ (hcd.out j u hu))).trans (hcd.out j u hu))
  have hal : (At ++ [(f, Value.slice adf f.D.length cf)]).length = p + 1 := by simp [htl]
  have hA1w : Dat (At ++ [(f, Value.slice adf f.D.length cf)]) w := fun m hm => by
    rcases List.mem_append.1 hm with hm | hm
    · exact hDt.out m hm
    · exact hDx.out m hm
  have hsz1 := b1.size
  clear hct hcx hDt hDx hd hf D1
  generalize hA1 : At ++ [(f, Value.slice adf f.D.length cf)] = A1 at *
  have hap : (A1 ++ Ad).map (fun m => m.1) = splL L p q [f] := by rw [← hA1, List.append_assoc]; exact hmap.out
  have hall : (A1 ++ Ad).length = (splL L p q [f]).length := by rw [List.length_append, hal, hdl, hlen]; omega
  have hSl : (splL L p q [f]).length ≤ 1000000 := by omega
  replace hap := Lib.hid hap
  replace hall := Lib.hid hall
  replace hA1w := Lib.hid hA1w
  clear hA1 hmap hcd htl hlen
  generalize splL L p q [f] = S at *
  by_cases hcq : c = q
  · have hq0 : L.length - q = 0 := by omega
    have hA0 : Ad = [] := List.eq_nil_of_length_eq_zero (by omega)
    go_wp2_with (at_builtin; (refine wpList_ownF rfl _ _ rfl w.heap.size A1 Ad v1 rfl R1 ⟨g, o, none⟩ 0 0 (by rw [hA0]; rfl) rfl (fun j u hu => by rw [hA0] at hu; cases hu) w (Nat.le_refl _) hsz1 b1 hA1w.out hDd.out (by omega) ?_))
    intro v2 w2 R2 D2 b2 _
    obtain ⟨a2, c2, e2, F2⟩ := row_frs R2 D2 (by omega)
    have hap' := hap.out
    have hall' := hall.out
    rw [hA0, List.append_nil] at hap' hall'
    rw [hap'] at F2
    rw [hall'] at e2
    subst e2
    clear R1 R2 D2 hcd1 hA1w hDd hap' hall' hA0 hal hdl
    go_wp2_with fail
    refine (copiedFrames a2 S c2 w2 F2 hSl hsh.out).mono ?_
    intro e w3 G3
    replace G3 := GotF.mono G3 b2
    obtain ⟨M3, a3, c3, rfl, G3⟩ := G3
    replace G3 := Lib.hid G3
    go_wp2_with fail
    go_ret
    exact ⟨M3, a3, c3, rfl, G3.out⟩
  · go_wp2_with (at_builtin; (refine wpList_ownF rfl _ _ rfl w.heap.size A1 Ad v1 rfl R1 ⟨g, o + q * 4, none⟩ (L.length - q) (c - q) hdl rfl hcd1.out w (Nat.le_refl _) hsz1 b1 hA1w.out hDd.out (by omega) ?_))
    intro v2 w2 R2 D2 b2 _
    obtain ⟨a2, c2, e2, F2⟩ := row_frs R2 D2 (by rw [hall.out]; omega)
    rw [hap.out] at F2
    rw [hall.out] at e2
    subst e2
    clear R1 R2 D2 hcd1 hA1w hDd
    go_wp2_with fail
    refine (copiedFrames a2 S c2 w2 F2 hSl hsh.out).mono ?_
    intro e w3 G3
    replace G3 := GotF.mono G3 b2
    obtain ⟨M3, a3, c3, rfl, G3⟩ := G3
    replace G3 := Lib.hid G3
    go_wp2_with fail
    go_ret
    exact ⟨M3, a3, c3, rfl, G3.out⟩

theorem splicedOne (g o : Nat) (L : List Frm) (c : Nat) (p q : Nat) (f : Frm) (g1 c1 : Nat) (adf : Option Addr) (cf : Nat) (w : World) (hd : Frs (some ⟨g, o, none⟩) L w) (hc : L.length ≤ c) (hf : FrC g1 0 adf cf f w)
    (hp : p ≤ q) (hq : q ≤ L.length) (hL : L.length ≤ 16) (hs8 : ∀ j, j < L.length → (nthF L j).D.length ≤ 8) (hf8 : f.D.length ≤ 8) :
    Calls Try.prog 63 #[.slice (some ⟨g, o, none⟩) L.length c, .int .i64 p, .int .i64 q, .slice (some ⟨g1, 0, none⟩) 1 c1] w (GotF (splL L p q [f]) w) :=
  splicedOneB g o L c p q f g1 c1 adf cf w hd hc hf hp hq (by omega) (fun j hj => by have := hs8 j hj; omega) hf8

set_option maxHeartbeats 2000000 in
/-- With none. -/
theorem splicedNone (g o : Nat) (L : List Frm) (c : Nat) (p q : Nat) (w : World) (hd : Frs (some ⟨g, o, none⟩) L w) (hc : L.length ≤ c)
    (hp : p < q) (hq : q ≤ L.length) (hL : L.length ≤ 16) (hs8 : ∀ j, j < L.length → (nthF L j).D.length ≤ 8) :
    Calls Try.prog 63 #[.slice (some ⟨g, o, none⟩) L.length c, .int .i64 p, .int .i64 q, .slice none 0 0] w (GotF (splL L p q []) w) := by
  obtain ⟨M, hM, hD, hcell⟩ := hd.flat
  have hml : M.length = L.length := by rw [← hM]; simp
  have hlen := splL_len (L := L) (p := p) (q := q) (F := []) (by omega)
  have hsh := Lib.hid (splL_short (L := L) (p := p) (q := q) (F := []) (by omega) hs8 (fun x hx => by cases hx))
  simp only [List.length_nil] at hlen
  have hDt : Dat (M.take p) w := fun m hm => hD m (List.mem_of_mem_take hm)
  have hDd : Dat (M.drop q) w := fun m hm => hD m (List.mem_of_mem_drop hm)
  have hct : ∀ j u, (flatF (M.take p))[j]? = some u → w.cell? ((⟨g, o, none⟩ : Addr).add j) = some u := fun j u hu => by rw [add_lit]; exact hcell j u (flatF_take hu)
  have hcd : ∀ j u, (flatF (M.drop q))[j]? = some u → w.cell? ((⟨g, o + q * 4, none⟩ : Addr).add j) = some u := fun j u hu => by rw [add_lit, Nat.add_assoc]; exact hcell _ u (flatF_drop (by omega) hu)
  have htl : (M.take p).length = p := by simp; omega
  have hdl : (M.drop q).length = L.length - q := by simp; omega
  have hmap := Lib.hid (map_take_drop hM p q [])
  have hfr0 : q = L.length → Frs (some ⟨g, o, none⟩) (splL L p q []) w := fun e => by
    have e2 : splL L p q [] = L.take p := by rw [splL, e, List.drop_length]; simp
    rw [e2]
    refine ⟨by have := hd.1; simp; omega, fun j hj => ?_⟩
    have hj' : j < p := by simp at hj; omega
    rw [nthF_take hj']
    exact hd.2 j (by omega)
  obtain ⟨At, hAt⟩ : ∃ At, At = M.take p := ⟨_, rfl⟩
  obtain ⟨Ad, hAd⟩ : ∃ Ad, Ad = M.drop q := ⟨_, rfl⟩
  rw [← hAt] at hDt hct htl hmap
  rw [← hAd] at hDd hcd hdl hmap
  replace hDt := Lib.hid hDt
  replace hDd := Lib.hid hDd
  replace hct := Lib.hid hct
  replace hcd := Lib.hid hcd
  replace hfr0 := Lib.hid hfr0
  have hap : (At ++ Ad).map (fun m => m.1) = splL L p q [] := hmap.out
  have hall : (At ++ Ad).length = (splL L p q []).length := by rw [List.length_append, htl, hdl, hlen]; omega
  have hSl : (splL L p q []).length ≤ 1000000 := by omega
  have hS0 := Lib.hid (show q = L.length → (splL L p q []).length = p by omega)
  replace hap := Lib.hid hap
  replace hall := Lib.hid hall
  clear hAt hAd hM hD hcell hml hd hmap hlen
  go_enter Try.func63, Try.ntmps63
  go_upto_region 2 with (at_builtin; (refine wpList_noF rfl _ _ rfl (some ⟨g, o, none⟩) p p rfl (Nat.le_refl _) (.slice none 0 0) rfl (Src.ofNil w Try.underlying31 0) ?_))
  generalize splL L p q [] = S at *
  by_cases hqe : q = L.length
  · have hfr := hfr0.out hqe
    have hS := hS0.out hqe
    have hlq : L.length - q = 0 := by omega
    clear hct hcd hDt hDd hap hall
    by_cases hcq : c = q
    · go_wp2_with (at_builtin; (refine wpList_noF rfl _ _ rfl (some ⟨g, o, none⟩) p p rfl (Nat.le_refl _) (.slice (some ⟨g, o, none⟩) 0 0) rfl (Src.ofSlice w Try.underlying31 ⟨g, o, none⟩ 0 0 [] rfl (fun j u hu => by cases hu) (fun u hu => by cases hu)) ?_))
      have hcp := copiedFrames (some ⟨g, o, none⟩) S p w hfr hSl hsh.out
      rw [hS] at hcp
      refine hcp.mono ?_
      rintro e w3 ⟨M3, a3, c3, rfl, G3⟩
      replace G3 := Lib.hid G3
      go_wp2_with fail
      go_ret
      exact ⟨M3, a3, c3, by rw [hS] <;> rfl, G3.out⟩
    · go_wp2_with (at_builtin; (refine wpList_noF rfl _ _ rfl (some ⟨g, o, none⟩) p p rfl (Nat.le_refl _) (.slice (some ⟨g, o + q * 4, none⟩) 0 (c - q)) rfl (Src.ofSlice w Try.underlying31 ⟨g, o + q * 4, none⟩ 0 (c - q) [] rfl (fun j u hu => by cases hu) (fun u hu => by cases hu)) ?_))
      have hcp := copiedFrames (some ⟨g, o, none⟩) S p w hfr hSl hsh.out
      rw [hS] at hcp
      refine hcp.mono ?_
      rintro e w3 ⟨M3, a3, c3, rfl, G3⟩
      replace G3 := Lib.hid G3
      go_wp2_with fail
      go_ret
      exact ⟨M3, a3, c3, by rw [hS] <;> rfl, G3.out⟩
  · have hcq : ¬ c = q := by omega
    go_wp2_with (at_builtin; (refine wpList_growF rfl _ _ rfl At Ad (some ⟨g, o, none⟩) p p htl rfl (fun e => by cases e) (fun b e => by cases e; exact hct.out) ⟨g, o + q * 4, none⟩ (L.length - q) (c - q) hdl rfl hcd.out hDt.out hDd.out (by omega) (by omega) ?_))
    intro v2 w2 R2 D2 b2
    obtain ⟨a2, c2, e2, F2⟩ := row_frs R2 D2 (by rw [hall.out]; omega)
    rw [hap.out] at F2
    rw [hall.out] at e2
    subst e2
    clear R2 D2 hct hcd hDt hDd hS0 htl hdl
    go_wp2_with fail
    refine (copiedFrames a2 S c2 w2 F2 hSl hsh.out).mono ?_
    intro e w3 G3
    replace G3 := GotF.mono G3 b2
    obtain ⟨M3, a3, c3, rfl, G3⟩ := G3
    replace G3 := Lib.hid G3
    go_wp2_with fail
    go_ret
    exact ⟨M3, a3, c3, rfl, G3.out⟩

set_option maxHeartbeats 2000000 in
/-- With one frame, the box nil. -/
theorem splicedNil (f : Frm) (g1 c1 : Nat) (adf : Option Addr) (cf : Nat) (w : World) (hf : FrC g1 0 adf cf f w) (hf8 : f.D.length ≤ 8) :
    Calls Try.prog 63 #[.slice none 0 0, .int .i64 0, .int .i64 0, .slice (some ⟨g1, 0, none⟩) 1 c1] w (GotF [f] w) := by
  have hDx : Dat [(f, .slice adf f.D.length cf)] w := fun m hm => by simp at hm; subst hm; exact ⟨adf, cf, rfl, hf.2⟩
  have hcx : ∀ j u, (flatF [(f, Value.slice adf f.D.length cf)])[j]? = some u → w.cell? ((⟨g1, 0, none⟩ : Addr).add j) = some u := by
    obtain ⟨⟨k0, k1, k2, k3⟩, _⟩ := hf
    intro j u hu
    rw [add_lit, Nat.zero_add]
    match j, hu with
    | 0, hu => simp [flatF] at hu; subst hu; exact k0
    | 1, hu => simp [flatF] at hu; subst hu; exact k1
    | 2, hu => simp [flatF] at hu; subst hu; exact k2
    | 3, hu => simp [flatF] at hu; subst hu; exact k3
  have hsh := Lib.hid (show ∀ j, j < [f].length → (nthF [f] j).D.length ≤ 1048576 from fun j hj => by
    have : j = 0 := by simp at hj; exact hj
    subst this
    show f.D.length ≤ _
    omega)
  replace hDx := Lib.hid hDx
  replace hcx := Lib.hid hcx
  go_enter Try.func63, Try.ntmps63
  go_upto_region 2 with (at_builtin; (refine wpList_growF rfl _ _ rfl [] [(f, .slice adf f.D.length cf)] none 0 0 rfl rfl (fun _ => ⟨rfl, rfl⟩) (fun b e => by cases e) ⟨g1, 0, none⟩ 1 c1 rfl rfl hcx.out (fun m hm => by cases hm) hDx.out (by omega) (by omega) ?_))
  intro v1 w1 R1 D1 b1
  clear hcx hDx hf
  have hle : ∀ a c, v1 = .slice a 1 c → 1 ≤ c := by
    intro a c e
    rcases R1.2 with ⟨h1, h2⟩ | ⟨_, _, _, h1, _, _, h2, _⟩
    · cases h2
    · rw [e] at h1; cases h1; exact h2
  obtain ⟨a2, c2, e2, F2⟩ := row_frs R1 D1 (by simp)
  simp only [List.nil_append, List.length_singleton, List.map_cons, List.map_nil] at e2 F2
  have h1 := hle _ _ e2
  subst e2
  clear R1 D1 hle
  go_wp2_with (at_builtin; (refine wpList_noF rfl _ _ rfl a2 1 c2 rfl h1 (.slice none 0 0) rfl (Src.ofNil w1 Try.underlying31 0) ?_))
  refine (copiedFrames a2 [f] c2 w1 F2 (by simp) hsh.out).mono ?_
  intro e w3 G3
  replace G3 := GotF.mono G3 b1
  obtain ⟨M3, a3, c3, rfl, G3⟩ := G3
  replace G3 := Lib.hid G3
  go_wp2_with fail
  go_ret
  exact ⟨M3, a3, c3, rfl, G3.out⟩
end Go.Proofs.Ytcciabalbdnakab
