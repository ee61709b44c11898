/- Filters copied: the builtin copy, append to a new empty slice, impl.copiedFilters. -/
import Derived.Test.YtjlegnnekjcpmaaGreatM13
import Derived.Laws.CopyRow
import Derived.Laws.CopyOwn

set_option linter.unusedVariables false
set_option linter.unusedSimpArgs false
set_option maxRecDepth 20000
namespace Go.Proofs.YtjlegnnekjcpmaaGreat
open Go.RowKit

theorem flatP_one {M : List (Int × Int)} : ∀ v ∈ flatP M, v.oneCell' = true := by
  intro v hv
  simp only [flatP, List.mem_flatMap] at hv
  obtain ⟨f, -, hf⟩ := hv
  simp at hf
  rcases hf with rfl | rfl <;> rfl
theorem Fls.flat {a : Option Addr} {L : List (Int × Int)} {w : World} (h : Fls a L w) {ad : Addr} (ha : a = some ad) (h0 : 0 < L.length) : ∀ j u, (flatP L)[j]? = some u → w.cell? (ad.add j) = some u := by
  intro j u hu
  have hj : j < L.length * 2 := by have := (List.getElem?_eq_some_iff.1 hu).1; rw [flatP_len] at this; exact this
  obtain ⟨g, o, he, c0, c1⟩ := h.2 (j / 2) (by omega)
  subst ha
  cases he
  have hadd : (⟨g, o, none⟩ : Addr).add j = ⟨g, o + j, none⟩ := by unfold Addr.add; split <;> simp_all
  rw [hadd]
  obtain ⟨f0, f1⟩ := flatP_at L (j / 2) (by omega)
  rw [nthP_eq (by omega)] at c0 c1
  have hcase : j = j / 2 * 2 ∨ j = j / 2 * 2 + 1 := by omega
  rcases hcase with hc | hc
  · rw [← hc] at f0 c0
    rw [c0, ← hu, f0]
  · rw [← hc] at f1
    rw [show o + j / 2 * 2 + 1 = o + j by omega] at c1
    rw [c1, ← hu, f1]
theorem sizeP {i : TypeInfo} (h : Tryz.prog.info? 119 = some i) : i.size = 2 := by
  obtain ⟨i0, hi, -, h1, -⟩ := info_parts infoP
  rw [h] at hi
  cases hi
  exact h1
theorem run_copyP (w : World) (ty : TypeId) (g dCap : Nat) (a : Option Addr) (L : List (Int × Int)) (c : Nat) (cur : Array Value) (hg : w.heap[g]? = some (.cells cur 119 (0, 0))) (hc : cur.size = L.length * 2) (hd : Fls a L w) :
    ∃ w', (Builtin.copy_ #[64, 64] ty #[.slice (some ⟨g, 0, none⟩) L.length dCap, .slice a L.length c]).run Tryz.prog w = .ok (goInt L.length) w' ∧
      w'.heap[g]? = some (.cells (flatP L).toArray 119 (0, 0)) ∧ w.grownBy w' (some g) := by
  obtain ⟨i, hi, -⟩ := info_parts infoP
  have hs := sizeP hi
  by_cases h0 : L.length = 0
  · have e : L = [] := List.length_eq_zero_iff.1 h0
    subst e
    have hl : ∀ (x : Addr), (loadCells x 0).run Tryz.prog w = .ok #[] w := fun x => by simpa using run_loadCells_list (P := Tryz.prog) w x [] (by simp)
    refine ⟨w, ?_, ?_, grown_refl w _⟩
    · cases a <;> simp [Builtin.copy_, run_underlying Tryz.underlying64, Builtin.lenOf, Builtin.firstCells, sizeOf, typeInfo, hi, hs, storeCells, hl]
    · have : cur = #[] := by simpa using hc
      rw [hg, this]; rfl
  · obtain ⟨g', o', rfl, -⟩ := hd.2 0 (by omega)
    have hl := run_loadCells_list (P := Tryz.prog) w ⟨g', o', none⟩ (flatP L) (hd.flat rfl (by omega))
    have hst := run_storeCells_at Tryz.prog g 0 119 (flatP L) 0 cur w hg (by rw [flatP_len]; omega) flatP_one
    have e : (List.take (0 + 0) cur.toList ++ flatP L ++ List.drop (0 + 0 + (flatP L).length) cur.toList) = flatP L := by
      rw [List.drop_of_length_le (by simp [flatP_len, hc])]; simp
    rw [e] at hst
    refine ⟨w.setRow g (flatP L).toArray, ?_, setRow_heap w g cur _ _ _ hg, ⟨rfl, rfl, rfl, by simp, fun k hk hne => setRow_other w g k _ (fun e => hne (by rw [e]))⟩⟩
    rw [flatP_len] at hl
    simp [Builtin.copy_, run_underlying Tryz.underlying64, Builtin.lenOf, Builtin.firstCells, sizeOf, typeInfo, hi, hs, hl, hst]
/-- 'copy' of filters into a row of the call's own, from its head. -/
theorem wpList_copyP {ops : Array Oper} {rest : List Oper} {p : Oper} {a : Act} {w : World} {Q : Exit → Act → World → Prop} (d s : Operand)
    (ho : p.op = .call { callee := .builtin .copy, args := #[d, s], argTypes := #[64, 64] }) (hgd : p.guard = none)
    (g dCap : Nat) (af : Option Addr) (L : List (Int × Int)) (c : Nat) (hx : a.eval d = .slice (some ⟨g, 0, none⟩) L.length dCap) (hy : a.eval s = .slice af L.length c) (cur : Array Value) (hg : w.heap[g]? = some (.cells cur 119 (0, 0))) (hc : cur.size = L.length * 2) (hd : Fls af L w)
    (h : ∀ w', w'.heap[g]? = some (.cells (flatP L).toArray 119 (0, 0)) → w.grownBy w' (some g) → wpList Tryz.prog ops Q rest (a.put p.dst (goInt L.length)) w') : wpList Tryz.prog ops Q (p :: rest) a w := by
  obtain ⟨w', hrun, h1, h2⟩ := run_copyP w p.type g dCap af L c cur hg hc hd
  refine wpList_plain hgd fun K hK => ?_
  unfold Oper.wp
  simp [execOp, ho, resolve, invoke, builtin, hx, hy, hrun, Result.andThen]
  exact hK _ _ (h w' h1 h2)
theorem ownP_row {L : List (Int × Int)} {w : World} {g B : Nat} (hm : L.length ≤ maxLen) (hB : B ≤ g) (hg : w.heap[g]? = some (.cells (flatP L).toArray 119 (0, 0))) : OwnP B L (.slice (some ⟨g, 0, none⟩) L.length L.length) w := by
  refine ⟨flatP_len L, .inr ⟨g, L.length, _, rfl, hB, hg, Nat.le_refl _, hm, by simp [flatP_len], ?_⟩⟩
  have := flatP_len L
  simp [List.take_of_length_le, this]
/-- impl.copiedFilters. -/
theorem copiedFlts (a : Option Addr) (L : List (Int × Int)) (c : Nat) (w : World) (hd : Fls a L w) (h : L.length ≤ 1048576) :
    Calls Tryz.prog 95 #[.slice a L.length c] w fun e w' => ∃ g, e = .returned (.slice (some ⟨g, 0, none⟩) L.length L.length) ∧ OwnP w.heap.size L (.slice (some ⟨g, 0, none⟩) L.length L.length) w' ∧ Below w.heap.size w w' := by
  have hmk := make_filters L.length h
  have hm := hd.1
  go_enter Tryz.func95, Tryz.ntmps95
  go_upto_region 2 with fail
  clear hmk
  have hg := heap_alloc_new w (.cells (madeCells #[.int .i64 0, .int .i64 0] (L.length * 2)) 119)
  have hb : Below w.heap.size w (w.alloc (.cells (madeCells #[.int .i64 0, .int .i64 0] (L.length * 2)) 119)) := below_more (Below.refl _ _) _
  have hd1 := hd.below hb
  have hsz : (madeCells #[.int .i64 0, .int .i64 0] (L.length * 2)).size = L.length * 2 := by simp [madeCells]
  generalize w.alloc _ = W at hg hb hd1 ⊢
  have hgl : w.heap.size ≤ w.heap.size := Nat.le_refl _
  generalize hgg : w.heap.size = g at hg hgl ⊢
  go_wp2_with (skip; refine wpList_copyP _ _ (by rfl) (by rfl) g L.length a L c (by rfl) (by rfl) _ hg hsz hd1 ?_)
  intro w2 h2 k2
  have own := ownP_row hm (Nat.le_of_eq hgg) h2
  replace hb := hb.grown k2 hb.size (fun q e => by cases e; omega)
  go_wp2_with fail
  go_ret
  exact ⟨g, rfl, own, hb⟩
/-- 'append' of filters to a new empty slice. -/
theorem wpList_newP {ops : Array Oper} {rest : List Oper} {p : Oper} {a : Act} {w : World} {Q : Exit → Act → World → Prop} (s x : Operand)
    (ho : p.op = .call { callee := .builtin .append, args := #[s, x], argTypes := #[64, 64] }) (hgd : p.guard = none)
    (g : Nat) (hs : a.eval s = .slice (some ⟨g, 0, none⟩) 0 0) (af : Option Addr) (L : List (Int × Int)) (c : Nat) (hx : a.eval x = .slice af L.length c) (hg : w.heap[g]? = some (.cells #[] 119 (0, 0))) (hd : Fls af L w) (hnil : af = none → c = 0) (hsz : L.length ≤ 2000000)
    (h : ∀ al cl w', OwnP g L (.slice al L.length cl) w' → w.grownBy w' (some g) → wpList Tryz.prog ops Q rest (a.put p.dst (.slice al L.length cl)) w') : wpList Tryz.prog ops Q (p :: rest) a w := by
  have hlt := (Array.getElem?_eq_some_iff.1 hg).1
  have hown : OwnP g [] (.slice (some ⟨g, 0, none⟩) 0 0) w := ⟨rfl, .inr ⟨g, 0, #[], rfl, Nat.le_refl _, hg, Nat.le_refl _, Nat.zero_le _, rfl, rfl⟩⟩
  obtain ⟨i0, hi, hz0, hz1, hz2⟩ := info_parts infoP
  by_cases h0 : L.length = 0
  · have e : L = [] := List.length_eq_zero_iff.1 h0
    subst e
    have hsrc : Src Tryz.prog i0.size 64 (.slice af 0 c) 0 [] w := by
      cases af with
      | none => rw [hnil rfl]; exact Src.ofNil w Tryz.underlying64 _
      | some ad => exact Src.ofSlice w Tryz.underlying64 ad 0 c [] (by simp) (fun j u hu => by cases hu) (fun u hu => by cases hu)
    have hrun := run_append_nothing w 64 64 p.type 119 i0 Tryz.underlying64 hi (some ⟨g, 0, none⟩) 0 0 (Nat.le_refl _) (.slice af 0 c) hsrc
    refine wpList_plain hgd fun K hK => ?_
    unfold Oper.wp
    simp [execOp, ho, resolve, invoke, builtin, hs, hx, hrun, Result.andThen]
    exact hK _ _ (h _ _ w hown (grown_refl w _))
  · obtain ⟨g', o', rfl, -⟩ := hd.2 0 (by omega)
    refine wpList_append_own _ hgd s x 64 ho g 119 i0 (.agg #[.int .i64 0, .int .i64 0]) 2 16 Tryz.underlying64 hi hz0 hz1 hz2 rfl (by decide) _ 0 [] hs hown ⟨g', o', none⟩ L.length c (flatP L) hx (flatP_len L) (hd.flat rfl (by omega)) flatP_one (by unfold maxLen; omega) (by omega) (Nat.le_of_lt hlt) ?_
    intro v' w' k2 k3 k4
    have hown' : OwnP g L v' w' := by
      unfold OwnP
      simpa using k2
    obtain ⟨av, cv, rfl⟩ := hown'.is
    exact h av cv w' hown' k3
end Go.Proofs.YtjlegnnekjcpmaaGreat

/- impl.PushedIn and spec.PushedIn: their answers' frames stand in rows of their own. -/

set_option linter.unusedVariables false
set_option linter.unusedSimpArgs false
set_option maxRecDepth 20000
namespace Go.Proofs.YtjlegnnekjcpmaaGreat
open Go.RowKit

/-- What PushedIn answers. -/
def pushV (L : List Frm) (f : Frm) : List Frm × Bool := if 32 ≤ L.length ∨ frOk f.id f.rm f.ln f.D = false then (L, false) else (L ++ [f], true)
theorem pushV_full {L : List Frm} {f : Frm} (h : 32 ≤ L.length) : pushV L f = (L, false) := if_pos (.inl h)
theorem pushV_no {L : List Frm} {f : Frm} (h : frOk f.id f.rm f.ln f.D = false) : pushV L f = (L, false) := if_pos (.inr h)
theorem pushV_new {L : List Frm} {f : Frm} (h : ¬ 32 ≤ L.length) (k : frOk f.id f.rm f.ln f.D = true) : pushV L f = (L ++ [f], true) := if_neg (by simp [h, k])
theorem room_snoc (L : List Frm) (f : Frm) : room (L ++ [f]) (L ++ [f]).length = room L L.length + f.D.length := by
  simp only [room, List.take_length, List.map_append, List.sum_append]
  simp
theorem pushV_room (L : List Frm) (f : Frm) : (pushV L f).1.length + room (pushV L f).1 (pushV L f).1.length ≤ L.length + room L L.length + f.D.length + 1 := by
  unfold pushV
  split
  · simp only; omega
  · simp only; rw [room_snoc]; simp; omega
theorem splL_end (L : List Frm) (f : Frm) : splL L L.length L.length [f] = L ++ [f] := by simp [splL]
theorem short_of_room {L : List Frm} {n : Nat} (h : L.length + room L L.length ≤ n) : ∀ j, j < L.length → (nthF L j).D.length ≤ n := by
  intro j hj
  have h1 := room_succ L j hj
  have h2 := room_le L (show j + 1 ≤ L.length by omega)
  omega
/-- What PushedIn leaves. -/
def PushGot (X : List Frm) (k : Bool) (w : World) (e : Ending) (w' : World) : Prop :=
  ∃ (M : List (Frm × Value)) (a : Option Addr) (c : Nat), e = .returned (.tuple #[.slice a X.length c, .bool k]) ∧ (M.map fun m => m.1) = X ∧ OwnF w.heap.size M (.slice a X.length c) w' ∧ Far M ∧ Below w.heap.size w w'
def PushO (X : List Frm) (k : Bool) (w : World) (e : Ending) (w' : World) : Prop :=
  ∃ (M : List (Frm × Value)) (g c : Nat), e = .returned (.tuple #[.slice (some ⟨g, 0, none⟩) X.length c, .bool k]) ∧ (M.map fun m => m.1) = X ∧ OwnF w.heap.size M (.slice (some ⟨g, 0, none⟩) X.length c) w' ∧ Below w.heap.size w w'

end Go.Proofs.YtjlegnnekjcpmaaGreat
