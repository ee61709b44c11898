/- Slices of filters that a call owns: copied, marked, asked for their marks. -/
import Derived.Test.YtngcekegngmedaaGreatDoorM30
import Derived.Test.YtngcekegngmedaaGreatDoorM28
import Derived.Laws.CopyRow
import Derived.Laws.CopyOwn

set_option linter.unusedVariables false
set_option linter.unusedSimpArgs false
set_option maxRecDepth 20000
namespace Go.Proofs.YtngcekegngmedaaGreatDoor
open Go.RowKit

theorem OwnP.below {B : Nat} {M : List (Int × Int)} {v : Value} {w w' : World} (h : OwnP B M v w) (b : Below w.heap.size w w') : OwnP B M v w' := h.stay (grown_at b)
theorem OwnP.mono {B B' : Nat} {M : List (Int × Int)} {v : Value} {w : World} (h : OwnP B M v w) (hb : B' ≤ B) : OwnP B' M v w := by
  obtain ⟨h1, h2 | ⟨g, cap, cur, e, hB, r⟩⟩ := h
  · exact ⟨h1, .inl h2⟩
  · exact ⟨h1, .inr ⟨g, cap, cur, e, by omega, r⟩⟩
theorem OwnP.flsAt {B : Nat} {M : List (Int × Int)} {a : Option Addr} {n c : Nat} {w : World} (h : OwnP B M (.slice a n c) w) (hm : M.length ≤ 2000000) : n = M.length ∧ Fls a M w := by
  obtain ⟨a', c', e, hf⟩ := h.fls hm
  cases e
  exact ⟨rfl, hf⟩
theorem OwnP.mid {lo hi B : Nat} {M : List (Int × Int)} {v : Value} {w w' : World} (h : OwnP B M v w) (k : Mid lo hi w w') (hB : hi ≤ B) : OwnP B M v w' := by
  obtain ⟨h1, h2 | ⟨g, cap, cur, e, hb, hg, r⟩⟩ := h
  · exact ⟨h1, .inl h2⟩
  · exact ⟨h1, .inr ⟨g, cap, cur, e, hb, (k.block g (Array.getElem?_eq_some_iff.1 hg).1 (.inr (by omega))).trans hg, r⟩⟩
theorem flatP_len (M : List (Int × Int)) : (flatP M).length = M.length * 2 := by
  induction M with
  | nil => rfl
  | cons m M ih => simp [flatP] at ih ⊢; omega
theorem RowP.own {G : Nat} {L : List (Int × Int)} {cur : Array Value} {w : World} (h : RowP G L.length L.length L cur w) (hm : L.length ≤ maxLen) {B : Nat} (hB : B ≤ G) :
    OwnP B L (.slice (some ⟨G, 0, none⟩) L.length L.length) w := by
  have hlen := h.len
  refine ⟨flatP_len L, .inr ⟨G, L.length, cur, rfl, hB, h.blk, Nat.le_refl _, hm, hlen, ?_⟩⟩
  have hfl := flatP_len L
  apply List.ext_getElem?
  intro j
  by_cases hj : j < L.length * 2
  · rw [List.getElem?_take, if_pos hj, Array.getElem?_toList]
    obtain ⟨f0, f1⟩ := flatP_at L (j / 2) (by omega)
    obtain ⟨e0, e1⟩ := h.fr (j / 2) (by omega)
    rw [nthP_eq (by omega)] at e0 e1
    have hcase : j = j / 2 * 2 ∨ j = j / 2 * 2 + 1 := by omega
    rcases hcase with hc | hc
    · rw [hc, e0, f0]
    · rw [hc, e1, f1]
  · rw [List.getElem?_eq_none (by simp; omega), List.getElem?_eq_none (by omega)]

/-- laws.toFilterS, and what it owns. -/
theorem toFltsOwn (a : Option Addr) (L : List (Int × Int)) (c : Nat) (w : World) (hd : Fls a L w) (h : L.length ≤ 1048576) :
    Calls Tryz.prog 131 #[.slice a L.length c] w fun e w' => ∃ g, e = .returned (.slice (some ⟨g, 0, none⟩) L.length L.length) ∧ OwnP w.heap.size L (.slice (some ⟨g, 0, none⟩) L.length L.length) w' ∧ Below w.heap.size w w' := by
  have hmk := make_filters L.length h
  go_enter Tryz.func131, Tryz.ntmps131
  go_wp2_with fail
  clear hmk
  go_loopw [4] (fun i wr => ∃ (k : Nat) (cur : Array Value), k ≤ L.length ∧ i = .int .i64 k ∧ RowP w.heap.size L.length k L cur wr ∧ Below w.heap.size w wr) (fun i _ => L.length - (intOf i).toNat)
  case atStart => exact ⟨0, _, Nat.zero_le _, rfl, ⟨heap_alloc_new _ _, by simp [madeCells], fun j hj => absurd hj (by omega)⟩, (Below.refl _ _).alloc (Nat.le_refl _) _⟩
  case round =>
    obtain ⟨k, cur, hk, rfl, R, b⟩ := hrel
    by_cases hlt : k < L.length
    · obtain ⟨g, o, rfl, c0, c1⟩ := (hd.below b).2 k hlt
      have hf0 : nthP L k = ((nthP L k).1, (nthP L k).2) := rfl
      generalize (nthP L k).1 = m at *
      generalize (nthP L k).2 = cc at *
      have hf := Lib.hid hf0
      clear hf0
      go_wp2_with fail
      refine (toFlt _ _ _).mono ?_
      rintro e w2 ⟨rfl, b2⟩
      replace R := R.below b2
      replace b := Below.then2 b b2
      clear b2 c0 c1
      obtain ⟨x0, x1, y0, y1⟩ := R.cells hlt
      have z0 := R.free (k * 2)
      have z1 := R.free (k * 2 + 1)
      go_wp2_with fail
      go_roundw
      case rel =>
        obtain ⟨cur', R'⟩ := R.put hlt hf.out
        exact ⟨k + 1, cur', by omega, by go_num, R', (b.setCell (Nat.le_refl _) _).setCell (Nat.le_refl _) _⟩
      case measure => simp [intOf]; omega
    · obtain rfl : k = L.length := by omega
      go_wp2_with fail
      go_ret
      exact ⟨_, rfl, R.own hd.1 (Nat.le_refl _), b⟩
/-! ### Marks. -/
def mkP (k : Int) (j : Nat) : Int × Int := (k + 2 * (j : Int), k + 2 * (j : Int) + 1)
def mksP (k : Int) (n : Nat) : List (Int × Int) := (List.range n).map (mkP k)
theorem mksP_len (k : Int) (n : Nat) : (mksP k n).length = n := by simp [mksP]
theorem mksP_nth {k : Int} {n j : Nat} (h : j < n) : nthP (mksP k n) j = mkP k j := by
  rw [nthP_eq (by rw [mksP_len]; exact h)]; simp [mksP]
/-- Row G as it stands when the first j filters bear their marks. -/
structure MkP (G n j : Nat) (k : Int) (cur : Array Value) (w : World) : Prop where
  blk : w.heap[G]? = some (.cells cur 175 (0, 0))
  len : n * 2 ≤ cur.size
  lo : ∀ i, i < j → cur[i * 2]? = some (.int .i64 (mkP k i).1) ∧ cur[i * 2 + 1]? = some (.int .i64 (mkP k i).2)
section
variable {G n j : Nat} {k : Int} {cur : Array Value} {w : World}
theorem MkP.free (h : MkP G n j k cur w) (i : Nat) : w.frozen? ⟨G, i, none⟩ = false := frozen_of_row w G i _ _ h.blk
theorem MkP.cells (h : MkP G n j k cur w) (hk : j < n) : ∃ x0 x1, w.cell? ⟨G, j * 2, none⟩ = some x0 ∧ w.cell? ⟨G, j * 2 + 1, none⟩ = some x1 := by
  have hl := h.len
  refine ⟨cur[j * 2], cur[j * 2 + 1], ?_, ?_⟩ <;> rw [cell_of_row w G _ _ _ _ h.blk] <;> exact Array.getElem?_eq_getElem (by omega)
theorem MkP.put (h : MkP G n j k cur w) (hk : j < n) {x y : Int} (hx : x = (mkP k j).1) (hy : y = (mkP k j).2) :
    ∃ cur', cur'.size = cur.size ∧ MkP G n (j + 1) k cur' ((w.setCell ⟨G, j * 2, none⟩ (.int .i64 x)).setCell ⟨G, j * 2 + 1, none⟩ (.int .i64 y)) := by
  have hl := h.len
  subst hx hy
  refine ⟨(cur.setIfInBounds (j * 2) (.int .i64 (mkP k j).1)).setIfInBounds (j * 2 + 1) (.int .i64 (mkP k j).2), by simp, heap_setCell_same _ _ _ _ _ _ (heap_setCell_same _ _ _ _ _ _ h.blk), by simp; omega, fun i hi => ?_⟩
  by_cases e : i = j
  · subst e
    refine ⟨?_, ?_⟩ <;> simp [Array.getElem?_setIfInBounds] <;> omega
  · obtain ⟨e0, e1⟩ := h.lo i (by omega)
    refine ⟨?_, ?_⟩
    all_goals (simp only [Array.getElem?_setIfInBounds]; repeat rw [if_neg (by omega)])
    all_goals assumption
end
end Go.Proofs.YtngcekegngmedaaGreatDoor

/- Filters copied: the builtin copy, append to a new empty slice, impl.copiedFilters. -/

set_option linter.unusedVariables false
set_option linter.unusedSimpArgs false
set_option maxRecDepth 20000
namespace Go.Proofs.YtngcekegngmedaaGreatDoor
open Go.RowKit

theorem flatP_one {M : List (Int × Int)} : ∀ v ∈ flatP M, v.oneCell' = true := by
  intro v hv
  simp only [flatP, List.mem_flatMap] at hv
  obtain ⟨f, -, hf⟩ := hv
  simp at hf
  rcases hf with rfl | rfl <;> rfl
theorem Fls.flat {a : Option Addr} {L : List (Int × Int)} {w : World} (h : Fls a L w) {ad : Addr} (ha : a = some ad) (h0 : 0 < L.length) : ∀ j u, (flatP L)[j]? = some u → w.cell? (ad.add j) = some u := by
  intro j u hu
  have hj : j < L.length * 2 := by have := (List.getElem?_eq_some_iff.1 hu).1; rw [flatP_len] at this; exact this
  obtain ⟨g, o, he, c0, c1⟩ := h.2 (j / 2) (by omega)
  subst ha
  cases he
  have hadd : (⟨g, o, none⟩ : Addr).add j = ⟨g, o + j, none⟩ := by unfold Addr.add; split <;> simp_all
  rw [hadd]
  obtain ⟨f0, f1⟩ := flatP_at L (j / 2) (by omega)
  rw [nthP_eq (by omega)] at c0 c1
  have hcase : j = j / 2 * 2 ∨ j = j / 2 * 2 + 1 := by omega
  rcases hcase with hc | hc
  · rw [← hc] at f0 c0
    rw [c0, ← hu, f0]
  · rw [← hc] at f1
    rw [show o + j / 2 * 2 + 1 = o + j by omega] at c1
    rw [c1, ← hu, f1]
theorem sizeP {i : TypeInfo} (h : Tryz.prog.info? 175 = some i) : i.size = 2 := by
  obtain ⟨i0, hi, -, h1, -⟩ := info_parts infoP
  rw [h] at hi
  cases hi
  exact h1
theorem run_copyP (w : World) (ty : TypeId) (g dCap : Nat) (a : Option Addr) (L : List (Int × Int)) (c : Nat) (cur : Array Value) (hg : w.heap[g]? = some (.cells cur 175 (0, 0))) (hc : cur.size = L.length * 2) (hd : Fls a L w) :
    ∃ w', (Builtin.copy_ #[30, 30] ty #[.slice (some ⟨g, 0, none⟩) L.length dCap, .slice a L.length c]).run Tryz.prog w = .ok (goInt L.length) w' ∧
      w'.heap[g]? = some (.cells (flatP L).toArray 175 (0, 0)) ∧ w.grownBy w' (some g) := by
  obtain ⟨i, hi, -⟩ := info_parts infoP
  have hs := sizeP hi
  by_cases h0 : L.length = 0
  · have e : L = [] := List.length_eq_zero_iff.1 h0
    subst e
    have hl : ∀ (x : Addr), (loadCells x 0).run Tryz.prog w = .ok #[] w := fun x => by simpa using run_loadCells_list (P := Tryz.prog) w x [] (by simp)
    refine ⟨w, ?_, ?_, grown_refl w _⟩
    · cases a <;> simp [Builtin.copy_, run_underlying Tryz.underlying30, Builtin.lenOf, Builtin.firstCells, sizeOf, typeInfo, hi, hs, storeCells, hl]
    · have : cur = #[] := by simpa using hc
      rw [hg, this]; rfl
  · obtain ⟨g', o', rfl, -⟩ := hd.2 0 (by omega)
    have hl := run_loadCells_list (P := Tryz.prog) w ⟨g', o', none⟩ (flatP L) (hd.flat rfl (by omega))
    have hst := run_storeCells_at Tryz.prog g 0 175 (flatP L) 0 cur w hg (by rw [flatP_len]; omega) flatP_one
    have e : (List.take (0 + 0) cur.toList ++ flatP L ++ List.drop (0 + 0 + (flatP L).length) cur.toList) = flatP L := by
      rw [List.drop_of_length_le (by simp [flatP_len, hc])]; simp
    rw [e] at hst
    refine ⟨w.setRow g (flatP L).toArray, ?_, setRow_heap w g cur _ _ _ hg, ⟨rfl, rfl, rfl, by simp, fun k hk hne => setRow_other w g k _ (fun e => hne (by rw [e]))⟩⟩
    rw [flatP_len] at hl
    simp [Builtin.copy_, run_underlying Tryz.underlying30, Builtin.lenOf, Builtin.firstCells, sizeOf, typeInfo, hi, hs, hl, hst]
/-- 'copy' of filters into a row of the call's own, from its head. -/
theorem wpList_copyP {ops : Array Oper} {rest : List Oper} {p : Oper} {a : Act} {w : World} {Q : Exit → Act → World → Prop} (d s : Operand)
    (ho : p.op = .call { callee := .builtin .copy, args := #[d, s], argTypes := #[30, 30] }) (hgd : p.guard = none)
    (g dCap : Nat) (af : Option Addr) (L : List (Int × Int)) (c : Nat) (hx : a.eval d = .slice (some ⟨g, 0, none⟩) L.length dCap) (hy : a.eval s = .slice af L.length c) (cur : Array Value) (hg : w.heap[g]? = some (.cells cur 175 (0, 0))) (hc : cur.size = L.length * 2) (hd : Fls af L w)
    (h : ∀ w', w'.heap[g]? = some (.cells (flatP L).toArray 175 (0, 0)) → w.grownBy w' (some g) → wpList Tryz.prog ops Q rest (a.put p.dst (goInt L.length)) w') : wpList Tryz.prog ops Q (p :: rest) a w := by
  obtain ⟨w', hrun, h1, h2⟩ := run_copyP w p.type g dCap af L c cur hg hc hd
  refine wpList_plain hgd fun K hK => ?_
  unfold Oper.wp
  simp [execOp, ho, resolve, invoke, builtin, hx, hy, hrun, Result.andThen]
  exact hK _ _ (h w' h1 h2)
theorem ownP_row {L : List (Int × Int)} {w : World} {g B : Nat} (hm : L.length ≤ maxLen) (hB : B ≤ g) (hg : w.heap[g]? = some (.cells (flatP L).toArray 175 (0, 0))) : OwnP B L (.slice (some ⟨g, 0, none⟩) L.length L.length) w := by
  refine ⟨flatP_len L, .inr ⟨g, L.length, _, rfl, hB, hg, Nat.le_refl _, hm, by simp [flatP_len], ?_⟩⟩
  have := flatP_len L
  simp [List.take_of_length_le, this]
/-- impl.copiedFilters. -/
theorem copiedFlts (a : Option Addr) (L : List (Int × Int)) (c : Nat) (w : World) (hd : Fls a L w) (h : L.length ≤ 1048576) :
    Calls Tryz.prog 157 #[.slice a L.length c] w fun e w' => ∃ g, e = .returned (.slice (some ⟨g, 0, none⟩) L.length L.length) ∧ OwnP w.heap.size L (.slice (some ⟨g, 0, none⟩) L.length L.length) w' ∧ Below w.heap.size w w' := by
  have hmk := make_filters L.length h
  have hm := hd.1
  go_enter Tryz.func157, Tryz.ntmps157
  go_upto_region 2 with fail
  clear hmk
  have hg := heap_alloc_new w (.cells (madeCells #[.int .i64 0, .int .i64 0] (L.length * 2)) 175)
  have hb : Below w.heap.size w (w.alloc (.cells (madeCells #[.int .i64 0, .int .i64 0] (L.length * 2)) 175)) := below_more (Below.refl _ _) _
  have hd1 := hd.below hb
  have hsz : (madeCells #[.int .i64 0, .int .i64 0] (L.length * 2)).size = L.length * 2 := by simp [madeCells]
  generalize w.alloc _ = W at hg hb hd1 ⊢
  have hgl : w.heap.size ≤ w.heap.size := Nat.le_refl _
  generalize hgg : w.heap.size = g at hg hgl ⊢
  go_wp2_with (skip; refine wpList_copyP _ _ (by rfl) (by rfl) g L.length a L c (by rfl) (by rfl) _ hg hsz hd1 ?_)
  intro w2 h2 k2
  have own := ownP_row hm (Nat.le_of_eq hgg) h2
  replace hb := hb.grown k2 hb.size (fun q e => by cases e; omega)
  go_wp2_with fail
  go_ret
  exact ⟨g, rfl, own, hb⟩
/-- 'append' of filters to a new empty slice. -/
theorem wpList_newP {ops : Array Oper} {rest : List Oper} {p : Oper} {a : Act} {w : World} {Q : Exit → Act → World → Prop} (s x : Operand)
    (ho : p.op = .call { callee := .builtin .append, args := #[s, x], argTypes := #[30, 30] }) (hgd : p.guard = none)
    (g : Nat) (hs : a.eval s = .slice (some ⟨g, 0, none⟩) 0 0) (af : Option Addr) (L : List (Int × Int)) (c : Nat) (hx : a.eval x = .slice af L.length c) (hg : w.heap[g]? = some (.cells #[] 175 (0, 0))) (hd : Fls af L w) (hnil : af = none → c = 0) (hsz : L.length ≤ 2000000)
    (h : ∀ al cl w', OwnP g L (.slice al L.length cl) w' → w.grownBy w' (some g) → wpList Tryz.prog ops Q rest (a.put p.dst (.slice al L.length cl)) w') : wpList Tryz.prog ops Q (p :: rest) a w := by
  have hlt := (Array.getElem?_eq_some_iff.1 hg).1
  have hown : OwnP g [] (.slice (some ⟨g, 0, none⟩) 0 0) w := ⟨rfl, .inr ⟨g, 0, #[], rfl, Nat.le_refl _, hg, Nat.le_refl _, Nat.zero_le _, rfl, rfl⟩⟩
  obtain ⟨i0, hi, hz0, hz1, hz2⟩ := info_parts infoP
  by_cases h0 : L.length = 0
  · have e : L = [] := List.length_eq_zero_iff.1 h0
    subst e
    have hsrc : Src Tryz.prog i0.size 30 (.slice af 0 c) 0 [] w := by
      cases af with
      | none => rw [hnil rfl]; exact Src.ofNil w Tryz.underlying30 _
      | some ad => exact Src.ofSlice w Tryz.underlying30 ad 0 c [] (by simp) (fun j u hu => by cases hu) (fun u hu => by cases hu)
    have hrun := run_append_nothing w 30 30 p.type 175 i0 Tryz.underlying30 hi (some ⟨g, 0, none⟩) 0 0 (Nat.le_refl _) (.slice af 0 c) hsrc
    refine wpList_plain hgd fun K hK => ?_
    unfold Oper.wp
    simp [execOp, ho, resolve, invoke, builtin, hs, hx, hrun, Result.andThen]
    exact hK _ _ (h _ _ w hown (grown_refl w _))
  · obtain ⟨g', o', rfl, -⟩ := hd.2 0 (by omega)
    refine wpList_append_own _ hgd s x 30 ho g 175 i0 (.agg #[.int .i64 0, .int .i64 0]) 2 16 Tryz.underlying30 hi hz0 hz1 hz2 rfl (by decide) _ 0 [] hs hown ⟨g', o', none⟩ L.length c (flatP L) hx (flatP_len L) (hd.flat rfl (by omega)) flatP_one (by unfold maxLen; omega) (by omega) (Nat.le_of_lt hlt) ?_
    intro v' w' k2 k3 k4
    have hown' : OwnP g L v' w' := by
      unfold OwnP
      simpa using k2
    obtain ⟨av, cv, rfl⟩ := hown'.is
    exact h av cv w' hown' k3
end Go.Proofs.YtngcekegngmedaaGreatDoor

/- impl.PushedIn and spec.PushedIn: their answers' frames stand in rows of their own. -/

set_option linter.unusedVariables false
set_option linter.unusedSimpArgs false
set_option maxRecDepth 20000
namespace Go.Proofs.YtngcekegngmedaaGreatDoor
open Go.RowKit

/-- What PushedIn answers. -/
def pushV (L : List Frm) (f : Frm) : List Frm × Bool := if 32 ≤ L.length ∨ frOk f.id f.rm f.ln f.D = false then (L, false) else (L ++ [f], true)
theorem pushV_full {L : List Frm} {f : Frm} (h : 32 ≤ L.length) : pushV L f = (L, false) := if_pos (.inl h)
theorem pushV_no {L : List Frm} {f : Frm} (h : frOk f.id f.rm f.ln f.D = false) : pushV L f = (L, false) := if_pos (.inr h)
theorem pushV_new {L : List Frm} {f : Frm} (h : ¬ 32 ≤ L.length) (k : frOk f.id f.rm f.ln f.D = true) : pushV L f = (L ++ [f], true) := if_neg (by simp [h, k])
theorem room_snoc (L : List Frm) (f : Frm) : room (L ++ [f]) (L ++ [f]).length = room L L.length + f.D.length := by
  simp only [room, List.take_length, List.map_append, List.sum_append]
  simp
theorem pushV_room (L : List Frm) (f : Frm) : (pushV L f).1.length + room (pushV L f).1 (pushV L f).1.length ≤ L.length + room L L.length + f.D.length + 1 := by
  unfold pushV
  split
  · simp only; omega
  · simp only; rw [room_snoc]; simp; omega
theorem splL_end (L : List Frm) (f : Frm) : splL L L.length L.length [f] = L ++ [f] := by simp [splL]
theorem short_of_room {L : List Frm} {n : Nat} (h : L.length + room L L.length ≤ n) : ∀ j, j < L.length → (nthF L j).D.length ≤ n := by
  intro j hj
  have h1 := room_succ L j hj
  have h2 := room_le L (show j + 1 ≤ L.length by omega)
  omega
/-- What PushedIn leaves. -/
def PushGot (X : List Frm) (k : Bool) (w : World) (e : Ending) (w' : World) : Prop :=
  ∃ (M : List (Frm × Value)) (a : Option Addr) (c : Nat), e = .returned (.tuple #[.slice a X.length c, .bool k]) ∧ (M.map fun m => m.1) = X ∧ OwnF w.heap.size M (.slice a X.length c) w' ∧ Far M ∧ Below w.heap.size w w'
def PushO (X : List Frm) (k : Bool) (w : World) (e : Ending) (w' : World) : Prop :=
  ∃ (M : List (Frm × Value)) (g c : Nat), e = .returned (.tuple #[.slice (some ⟨g, 0, none⟩) X.length c, .bool k]) ∧ (M.map fun m => m.1) = X ∧ OwnF w.heap.size M (.slice (some ⟨g, 0, none⟩) X.length c) w' ∧ Below w.heap.size w w'

set_option maxHeartbeats 2000000 in
/-- impl.PushedIn. -/
theorem implPushedIn (a : Option Addr) (L : List Frm) (c : Nat) (id : Int) (rm : Bool) (ln : Int) (ad : Option Addr) (D : List Int) (cd : Nat) (w : World) (hd : Frs a L w) (hc : L.length ≤ c) (ha : Addressed a c) (hn : Nums ad D w) (hL : L.length ≤ 1048576) (hs : ∀ j, j < L.length → (nthF L j).D.length ≤ 1048576) :
    Calls Tryz.prog 266 #[.slice a L.length c, frV id rm ln ad D.length cd] w (PushGot (pushV L ⟨id, rm, ln, D⟩).1 (pushV L ⟨id, rm, ln, D⟩).2 w) := by
  have f0 := Four.made (.int .i64 id) (.bool rm) (.int .i64 ln) (.slice ad D.length cd) 26 (Below.refl w.heap.size w)
  replace hs := Lib.hid hs
  go_enter Tryz.func266, Tryz.ntmps266
  go_upto_region 1 with fail
  replace hd := hd.below f0.2
  replace hn := hn.below f0.2
  generalize w.alloc (.cells #[.int .i64 id, .bool rm, .int .i64 ln, .slice ad D.length cd] 26) = W at *
  by_cases h32 : 32 ≤ L.length
  · have HV := Lib.hid (pushV_full (f := ⟨id, rm, ln, D⟩) h32)
    have bw := f0.2
    go_wp2_with fail
    refine (copiedFramesB a L c W hd hL hs.out).mono ?_
    intro e w5 G3
    replace G3 := GotF.mono G3 bw
    obtain ⟨M3, a3, c3, rfl, G3⟩ := G3
    replace G3 := Lib.hid G3
    go_wp2_with fail
    go_ret2
    rw [HV.out]
    exact ⟨M3, a3, c3, rfl, G3.out⟩
  · obtain ⟨⟨x0, x1, x2, x3⟩, bw⟩ := f0
    have f0 : Four w.heap.size (.int .i64 id) (.bool rm) (.int .i64 ln) (.slice ad D.length cd) w W := ⟨⟨x0, x1, x2, x3⟩, bw⟩
    go_wp2_with fail
    refine (implFrameOk id rm ln ad D cd W hn).mono ?_
    rintro e w2 ⟨he, b1⟩
    replace hd := hd.below b1
    replace hn := hn.below b1
    replace f0 := f0.below b1
    clear b1 x0 x1 x2 x3 bw
    cases hok : frOk id rm ln D with
    | false =>
      rw [hok] at he
      subst he
      have HV := Lib.hid (pushV_no (L := L) (f := ⟨id, rm, ln, D⟩) hok)
      clear hok
      have bw := f0.2
      go_wp2_with fail
      refine (copiedFramesB a L c w2 hd hL hs.out).mono ?_
      intro e w3 G3
      replace G3 := GotF.mono G3 bw
      obtain ⟨M3, a3, c3, rfl, G3⟩ := G3
      replace G3 := Lib.hid G3
      go_wp2_with fail
      go_ret2
      rw [HV.out]
      exact ⟨M3, a3, c3, rfl, G3.out⟩
    | true =>
      rw [hok] at he
      subst he
      have HV := Lib.hid (pushV_new (L := L) (f := ⟨id, rm, ln, D⟩) h32 hok)
      have hf8 := frOk_max hok
      clear hok
      generalize hfr : (⟨id, rm, ln, D⟩ : Frm) = f at *
      have hf8' : f.D.length ≤ 8 := by rw [← hfr]; exact hf8
      have hFC : FrC w2.heap.size 0 ad cd ⟨id, rm, ln, D⟩ (w2.alloc (.cells #[.int .i64 id, .bool rm, .int .i64 ln, .slice ad D.length cd] 26)) :=
        ⟨⟨World.cell?_alloc_at _ _ _ _ rfl, World.cell?_alloc_at _ _ _ _ rfl, World.cell?_alloc_at _ _ _ _ rfl, World.cell?_alloc_at _ _ _ _ rfl⟩, hn.alloc _⟩
      rw [hfr] at hFC
      replace hFC := Lib.hid hFC
      clear hfr
      obtain ⟨⟨x0, x1, x2, x3⟩, bw⟩ := f0
      have bx : Below w.heap.size w (w2.alloc (.cells #[.int .i64 id, .bool rm, .int .i64 ln, .slice ad D.length cd] 26)) := below_more bw _
      cases a with
      | none =>
        obtain ⟨rfl, rfl⟩ := Addressed.nil hd hc ha
        go_wp2_with fail
        refine (splicedNil f w2.heap.size 1 ad cd _ hFC.out hf8').mono ?_
        intro e w5 G3
        replace G3 := GotF.mono G3 bx
        obtain ⟨M3, a3, c3, rfl, G3⟩ := G3
        replace G3 := Lib.hid G3
        go_wp2_with fail
        go_ret2
        rw [HV.out]
        exact ⟨M3, a3, c3, rfl, G3.out⟩
      | some A =>
        obtain ⟨g, o, e⟩ : ∃ g o, A = ⟨g, o, none⟩ := by
          rcases ha with ⟨e, _⟩ | ⟨g, o, e⟩
          · cases e
          · cases e; exact ⟨g, o, rfl⟩
        subst e
        have HS := splicedOneB g o L c L.length L.length f w2.heap.size 1 ad cd _ (hd.alloc (.cells #[.int .i64 id, .bool rm, .int .i64 ln, .slice ad D.length cd] 26)) hc hFC.out (Nat.le_refl _) (Nat.le_refl _) (by omega) hs.out hf8'
        rw [splL_end] at HS
        replace HS := Lib.hid HS
        go_wp2_with fail
        refine HS.out.mono ?_
        intro e w5 G3
        replace G3 := GotF.mono G3 bx
        obtain ⟨M3, a3, c3, rfl, G3⟩ := G3
        replace G3 := Lib.hid G3
        go_wp2_with fail
        go_ret2
        rw [HV.out]
        exact ⟨M3, a3, c3, by simp only [List.length_append, List.length_singleton] <;> rfl, G3.out⟩
set_option maxHeartbeats 2000000 in
/-- spec.PushedIn. -/
theorem specPushedIn (a : Option Addr) (L : List Frm) (c : Nat) (id : Int) (rm : Bool) (ln : Int) (ad : Option Addr) (D : List Int) (cd : Nat) (w : World) (hd : Frs a L w) (hn : Nums ad D w) (hL : L.length ≤ 1048576) (hs : ∀ j, j < L.length → (nthF L j).D.length ≤ 1048576) :
    Calls Tryz.prog 251 #[.slice a L.length c, frV id rm ln ad D.length cd] w (PushO (pushV L ⟨id, rm, ln, D⟩).1 (pushV L ⟨id, rm, ln, D⟩).2 w) := by
  have f0 := Four.made (.int .i64 id) (.bool rm) (.int .i64 ln) (.slice ad D.length cd) 26 (Below.refl w.heap.size w)
  replace hs := Lib.hid hs
  go_enter Tryz.func251, Tryz.ntmps251
  go_upto_region 1 with fail
  replace hd := hd.below f0.2
  replace hn := hn.below f0.2
  generalize w.alloc (.cells #[.int .i64 id, .bool rm, .int .i64 ln, .slice ad D.length cd] 26) = W at *
  have bW := f0.2.size
  go_wp2_with fail
  refine (copyAllB a L c W hd hL hs.out).mono ?_
  rintro e w1 ⟨M, g, c1, rfl, hM, O, b1⟩
  replace O := O.mono bW
  replace hn := hn.below b1
  replace f0 := f0.below b1
  have hml : M.length = L.length := by rw [← hM]; simp
  replace hM := Lib.hid hM
  clear hd b1 bW W
  by_cases h32 : 32 ≤ L.length
  · have HV := Lib.hid (pushV_full (f := ⟨id, rm, ln, D⟩) h32)
    have bw := f0.2
    go_wp2_with fail
    go_ret2
    rw [HV.out]
    exact ⟨M, g, c1, rfl, hM.out, O, bw⟩
  · obtain ⟨⟨x0, x1, x2, x3⟩, bw⟩ := f0
    have f0 : Four w.heap.size (.int .i64 id) (.bool rm) (.int .i64 ln) (.slice ad D.length cd) w w1 := ⟨⟨x0, x1, x2, x3⟩, bw⟩
    go_wp2_with fail
    refine (specFrameOk id rm ln ad D cd w1 hn).mono ?_
    rintro e w2 ⟨he, b1⟩
    replace O := O.below b1
    replace hn := hn.below b1
    replace f0 := f0.below b1
    clear b1 x0 x1 x2 x3 bw
    cases hok : frOk id rm ln D with
    | false =>
      rw [hok] at he
      subst he
      have HV := Lib.hid (pushV_no (L := L) (f := ⟨id, rm, ln, D⟩) hok)
      clear hok
      have bw := f0.2
      go_wp2_with fail
      go_ret2
      rw [HV.out]
      exact ⟨M, g, c1, rfl, hM.out, O, bw⟩
    | true =>
      rw [hok] at he
      subst he
      have HV := Lib.hid (pushV_new (L := L) (f := ⟨id, rm, ln, D⟩) h32 hok)
      have hf8 := frOk_max hok
      clear hok
      obtain ⟨⟨x0, x1, x2, x3⟩, b⟩ := f0
      go_wp2_with fail
      refine (copyFr id rm ln ad D cd w2 hn (by omega)).mono ?_
      rintro e w3 ⟨av, cv, rfl, oA, g2⟩
      replace oA := oA.mono b.size
      replace O := O.stay g2
      replace b := b.trans ((below_new g2).mono b.size)
      clear g2 hn x0 x1 x2 x3
      have O1 := O.stay (World.grownBy_alloc w3 (.cells #[.int .i64 id, .bool rm, .int .i64 ln, .slice av D.length cv] 26) none)
      have o1 := oA.stay (World.grownBy_alloc w3 (.cells #[.int .i64 id, .bool rm, .int .i64 ln, .slice av D.length cv] 26) none)
      have b1 := below_more b (.cells #[.int .i64 id, .bool rm, .int .i64 ln, .slice av D.length cv] 26)
      have hsz1 := b1.size
      have hmb : M.length ≤ 2000000 := by omega
      have hmE := Lib.hid hml
      clear O oA b hml
      go_wp2_with (at_builtin; refine wpList_appF rfl _ _ rfl w.heap.size M ⟨id, rm, ln, D⟩ (.slice av D.length cv) _ rfl O1 o1 w3.heap.size 1 rfl (World.cell?_alloc_at _ _ _ _ rfl) (World.cell?_alloc_at _ _ _ _ rfl) (World.cell?_alloc_at _ _ _ _ rfl) (World.cell?_alloc_at _ _ _ _ rfl) hmb hsz1 ?_)
      intro av2 cv2 w4 O4 g4
      have b4 := b1.grown g4 b1.size (fun q e => (O1.1.lt q e).1)
      clear O1 o1 b1 g4
      obtain ⟨gg, rfl, -, -, -, -⟩ := O4.form (by simp)
      go_wp2_with fail
      go_ret2
      rw [HV.out]
      refine ⟨M ++ [(⟨id, rm, ln, D⟩, .slice av D.length cv)], gg, cv2, ?_, map_snoc hM.out, ?_, b4⟩
      · simp only [List.length_append, List.length_singleton, hmE.out] <;> rfl
      · rw [List.length_append, List.length_singleton, ← hmE.out]; exact O4
end Go.Proofs.YtngcekegngmedaaGreatDoor
