/- A frame that a call builds up in memory: its box, the row of numbers that it owns, the cursor beside it. No program's walk in it. -/
import Derived.Test.YtnhmecabppaboaaGreatM3
import Derived.Test.YtnhmecabppaboaaGreatM11
import Derived.Test.YtnhmecabppaboaaGreatM12
import Derived.Laws.OwnMore
import Derived.Deep.RegionLaw
import Derived.Deep.CutRange

set_option maxRecDepth 20000
namespace Go.Proofs.YtnhmecabppaboaaGreat
open Go.RowKit

/-- Block g is a frame. -/
def Bx (g : Nat) (x0 x1 x2 x3 : Value) (w : World) : Prop := w.heap[g]? = some (.cells #[x0, x1, x2, x3] 35 (0, 0))
section
variable {g : Nat} {x0 x1 x2 x3 : Value} {w : World}
theorem Bx.c0 (h : Bx g x0 x1 x2 x3 w) : w.cell? ⟨g, 0, none⟩ = some x0 := cell_of_row w g 0 _ _ _ h
theorem Bx.c1 (h : Bx g x0 x1 x2 x3 w) : w.cell? ⟨g, 1, none⟩ = some x1 := cell_of_row w g 1 _ _ _ h
theorem Bx.c2 (h : Bx g x0 x1 x2 x3 w) : w.cell? ⟨g, 2, none⟩ = some x2 := cell_of_row w g 2 _ _ _ h
theorem Bx.c3 (h : Bx g x0 x1 x2 x3 w) : w.cell? ⟨g, 3, none⟩ = some x3 := cell_of_row w g 3 _ _ _ h
theorem Bx.free (h : Bx g x0 x1 x2 x3 w) (k : Nat) : w.frozen? ⟨g, k, none⟩ = false := frozen_of_row w g k _ _ h
theorem Bx.lt (h : Bx g x0 x1 x2 x3 w) : g < w.heap.size := (Array.getElem?_eq_some_iff.1 h).1
theorem Bx.kept {w' : World} {row : Option Nat} (h : Bx g x0 x1 x2 x3 w) (k : w.grownBy w' row) (hne : some g ≠ row) : Bx g x0 x1 x2 x3 w' := (k.block g h.lt hne).trans h
theorem Bx.made (w : World) (x0 x1 x2 x3 : Value) : Bx w.heap.size x0 x1 x2 x3 (w.alloc (.cells #[x0, x1, x2, x3] 35)) := heap_alloc_new w _
theorem Bx.set0 (h : Bx g x0 x1 x2 x3 w) (y : Value) : Bx g y x1 x2 x3 (w.setCell ⟨g, 0, none⟩ y) := heap_setCell_same w g 0 _ _ y h
theorem Bx.set1 (h : Bx g x0 x1 x2 x3 w) (y : Value) : Bx g x0 y x2 x3 (w.setCell ⟨g, 1, none⟩ y) := heap_setCell_same w g 1 _ _ y h
theorem Bx.set2 (h : Bx g x0 x1 x2 x3 w) (y : Value) : Bx g x0 x1 y x3 (w.setCell ⟨g, 2, none⟩ y) := heap_setCell_same w g 2 _ _ y h
theorem Bx.set3 (h : Bx g x0 x1 x2 x3 w) (y : Value) : Bx g x0 x1 x2 y (w.setCell ⟨g, 3, none⟩ y) := heap_setCell_same w g 3 _ _ y h
end

/-- The slice v, made from block Bn on, holds just the numbers D. -/
def OwnI (Bn : Nat) (D : List Int) (v : Value) (w : World) : Prop := w.ownsRow Bn 2 1 v D.length (D.map (Value.int .i64)) ∧ ∀ x ∈ D, (Lit.int .i64 x).wf = true
section
variable {Bn : Nat} {D : List Int} {v : Value} {w : World}
theorem OwnI.nil (w : World) (Bn : Nat) : OwnI Bn [] (.slice none 0 0) w := ⟨World.ownsRow_nil w Bn _ 1, by simp⟩
theorem OwnI.kept {w' : World} {row : Option Nat} (h : OwnI Bn D v w) (k : w.grownBy w' row) (hne : v.ownBlock = none ∨ v.ownBlock ≠ row) : OwnI Bn D v w' := ⟨h.1.kept k hne, h.2⟩
theorem OwnI.mono {B' : Nat} (h : OwnI Bn D v w) (hb : B' ≤ Bn) : OwnI B' D v w := by
  refine ⟨⟨h.1.1, ?_⟩, h.2⟩
  rcases h.1.2 with k | ⟨g, cap, cur, e, hg, r⟩
  · exact .inl k
  · exact .inr ⟨g, cap, cur, e, Nat.le_trans hb hg, r⟩
theorem OwnI.ne_box {g : Nat} {x0 x1 x2 x3 : Value} (h : OwnI Bn D v w) (k : Bx g x0 x1 x2 x3 w) : v.ownBlock ≠ some g := by
  rcases h.1.2 with ⟨rfl, _⟩ | ⟨g', cap, cur, rfl, _, hg, _⟩
  · simp [Value.ownBlock]
  · intro e
    simp only [Value.ownBlock, Option.some.injEq] at e
    subst e
    rw [show w.heap[g']? = _ from k] at hg
    simp at hg
theorem OwnI.low (h : OwnI Bn D v w) {k : Nat} (hk : v.ownBlock = some k) : Bn ≤ k := (h.1.lt k hk).1
theorem OwnI.nums (h : OwnI Bn D v w) : ∃ a c, v = .slice a D.length c ∧ Nums a D w := by
  rcases h.1.2 with ⟨rfl, hn⟩ | ⟨g, cap, cur, rfl, _, hg, hle, hm, _⟩
  · exact ⟨none, 0, by rw [hn], by rw [hn]; exact Nat.zero_le _, h.2, fun j hj => absurd hj (by omega)⟩
  · refine ⟨some ⟨g, 0, none⟩, cap, rfl, Nat.le_trans hle hm, h.2, fun j hj => ⟨g, 0, rfl, ?_⟩⟩
    rw [Nat.zero_add, h.1.cellAt j (by omega)]
    simp [nth, List.getD_eq_getElem?_getD, List.getElem?_eq_getElem hj]
end

theorem info64 : (Tryz.prog.info? 2).map (fun i => (i.zero, i.size, i.bytes)) = some (some (.int .i64 0), 1, 8) := by kernel_rfl

/-- 'append' of one number to a row of the call's own: at a step of a region that draws its order. -/
theorem step_appI {ops : Array Oper} {o : Oper} {a : Act} {w : World} {K : Act → World → Prop} {Q : Exit → Act → World → Prop} {E : Prop} (hgd : o.guard = none) (s x : Operand)
    (ho : o.op = .call { callee := .builtin .append, args := #[s, x], argTypes := #[33, 33] })
    (Bn : Nat) (D : List Int) (z : Int) (v : Value) (hs : a.eval s = v) (hown : OwnI Bn D v w) (g1 c1 : Nat) (hx : a.eval x = .slice (some ⟨g1, 0, none⟩) 1 c1) (hcell : w.cell? ⟨g1, 0, none⟩ = some (.int .i64 z))
    (hz : (Lit.int .i64 z).wf = true) (hsz : D.length ≤ 1000000) (hB : Bn ≤ w.heap.size)
    (h : ∀ av cv w', OwnI Bn (D ++ [z]) (.slice av (D.length + 1) cv) w' → w.grownBy w' v.ownBlock → K (a.put o.dst (.slice av (D.length + 1) cv)) w') :
    if Region.wanted o (yielded ops a.tmps) = true then Oper.wp Tryz.prog o a w K Q else E := by
  have hw : Region.wanted o (yielded ops a.tmps) = true := by simp [Region.wanted, hgd]
  rw [if_pos hw]
  obtain ⟨i0, hi, hz0, hz1, hz2⟩ := info_parts info64
  obtain ⟨v', w', hr, h2, h3, h4⟩ := run_append_own (P := Tryz.prog) w Bn 33 o.type 2 i0 (.int .i64 0) 1 8 Tryz.underlying33 hi hz0 hz1 hz2 rfl (by decide)
    v D.length (D.map (Value.int .i64)) hown.1 ⟨g1, 0, none⟩ 1 c1 [.int .i64 z] rfl
    (fun j u hu => by
      match j, hu with
      | 0, hu => simp at hu; subst hu; exact hcell) (fun u hu => by simp at hu; subst hu; rfl) (by unfold maxLen; omega) (by omega) hB
  have hown' : OwnI Bn (D ++ [z]) v' w' := by
    refine ⟨?_, ?_⟩
    · rw [List.length_append, List.length_singleton, List.map_append]; exact h2
    · intro y hy
      rcases List.mem_append.1 hy with hy | hy
      · exact hown.2 y hy
      · simp at hy; subst hy; exact hz
  obtain ⟨av, cv, rfl, _⟩ := hown'.nums
  unfold Oper.wp
  simp [execOp, ho, resolve, invoke, builtin, hs, hx, hr, Result.andThen]
  rw [List.length_append, List.length_singleton] at hown'
  exact h av cv w' hown' h3

/-- 'append' of one number to a row of the call's own. -/
theorem wpList_appI {ops : Array Oper} {rest : List Oper} {p : Oper} {a : Act} {w : World} {Q : Exit → Act → World → Prop} (hgd : p.guard = none) (s x : Operand)
    (ho : p.op = .call { callee := .builtin .append, args := #[s, x], argTypes := #[33, 33] })
    (Bn : Nat) (D : List Int) (z : Int) (v : Value) (hs : a.eval s = v) (hown : OwnI Bn D v w) (g1 c1 : Nat) (hx : a.eval x = .slice (some ⟨g1, 0, none⟩) 1 c1) (hcell : w.cell? ⟨g1, 0, none⟩ = some (.int .i64 z))
    (hz : (Lit.int .i64 z).wf = true) (hsz : D.length ≤ 1000000) (hB : Bn ≤ w.heap.size)
    (h : ∀ av cv w', OwnI Bn (D ++ [z]) (.slice av (D.length + 1) cv) w' → w.grownBy w' v.ownBlock → wpList Tryz.prog ops Q rest (a.put p.dst (.slice av (D.length + 1) cv)) w') : wpList Tryz.prog ops Q (p :: rest) a w := by
  obtain ⟨i0, hi, hz0, hz1, hz2⟩ := info_parts info64
  refine wpList_append_own _ hgd s x 33 ho Bn 2 i0 (.int .i64 0) 1 8 Tryz.underlying33 hi hz0 hz1 hz2 rfl (by decide) v D.length (D.map (Value.int .i64)) hs hown.1 ⟨g1, 0, none⟩ 1 c1 [.int .i64 z] hx rfl ?_ ?_ ?_ ?_ hB ?_
  · intro j u hu
    match j, hu with
    | 0, hu => simp at hu; subst hu; exact hcell
  · intro u hu; simp at hu; subst hu; rfl
  · unfold maxLen; omega
  · omega
  · intro v' w' h2 h3 h4
    have hown' : OwnI Bn (D ++ [z]) v' w' := by
      refine ⟨?_, ?_⟩
      · rw [List.length_append, List.length_singleton, List.map_append]; exact h2
      · intro y hy
        rcases List.mem_append.1 hy with hy | hy
        · exact hown.2 y hy
        · simp at hy; subst hy; exact hz
    obtain ⟨av, cv, rfl, _⟩ := hown'.nums
    rw [List.length_append, List.length_singleton] at hown'
    simp only [List.length_append, List.length_singleton]
    exact h av cv w' hown' h3

/-- What stands while a frame is drawn: the cursor, the result's box, the frame's own box and row. -/
structure FS (w0 : World) (B p : Nat) (a : Option Addr) (len cap : Nat) (gr gf : Nat) (id : Int) (rm : Bool) (ln : Int) (D : List Int) (v : Value) (w : World) : Prop where
  st : St B p a len cap w
  grown : w0.grownBy w (some p)
  res : Bx gr (.int .i64 0) (.bool false) (.int .i64 0) (.slice none 0 0) w
  box : Bx gf (.int .i64 id) (.bool rm) (.int .i64 ln) v w
  own : OwnI w0.heap.size D v w
  pl : p < w0.heap.size
  rl : w0.heap.size ≤ gr
  fl : w0.heap.size ≤ gf
  ne : gr ≠ gf
section
variable {w0 : World} {B p : Nat} {a : Option Addr} {len cap : Nat} {gr gf : Nat} {id : Int} {rm : Bool} {ln : Int} {D : List Int} {v : Value} {w : World}
theorem FS.step {w' : World} (F : FS w0 B p a len cap gr gf id rm ln D v w) (k : w.grownBy w' (some p)) (s : St B p a len cap w') : FS w0 B p a len cap gr gf id rm ln D v w' := by
  have h1 := F.pl; have h2 := F.rl; have h3 := F.fl
  refine ⟨s, grown_trans F.grown k, F.res.kept k (by simp; omega), F.box.kept k (by simp; omega), F.own.kept k (.inr fun e => ?_), h1, h2, h3, F.ne⟩
  have := F.own.low e
  omega
theorem FS.alloc (F : FS w0 B p a len cap gr gf id rm ln D v w) (o : Obj) : FS w0 B p a len cap gr gf id rm ln D v (w.alloc o) := F.step (World.grownBy_alloc w o _) (F.st.alloc o)
theorem FS.drew (F : FS w0 B p a len cap gr gf id rm ln D v w) : FS w0 B p a len cap gr gf id rm ln D v w.drew := F.step (grown_drew (grown_refl w _)) F.st.drew
theorem FS.cell3 (F : FS w0 B p a len cap gr gf id rm ln D v w) : w.cell? ⟨gf, 3, none⟩ = some v := F.box.c3
theorem FS.put {id' : Int} {rm' : Bool} {ln' : Int} (F : FS w0 B p a len cap gr gf id rm ln D v w) (k : Nat) (y : Value) (hb : Bx gf (.int .i64 id') (.bool rm') (.int .i64 ln') v (w.setCell ⟨gf, k, none⟩ y)) : FS w0 B p a len cap gr gf id' rm' ln' D v (w.setCell ⟨gf, k, none⟩ y) := by
  have h1 := F.pl; have h2 := F.rl; have h3 := F.fl
  have kk := grown_set w gf k y
  exact ⟨F.st.step kk (fun j e => by cases e; omega), grown_own F.grown kk h3, F.res.kept kk (by simp; exact F.ne), hb, F.own.kept kk (.inr (F.own.ne_box F.box)), h1, h2, h3, F.ne⟩
theorem FS.putId (F : FS w0 B p a len cap gr gf id rm ln D v w) (n : Int) : FS w0 B p a len cap gr gf n rm ln D v (w.setCell ⟨gf, 0, none⟩ (.int .i64 n)) := F.put 0 _ (F.box.set0 _)
theorem FS.putRm (F : FS w0 B p a len cap gr gf id rm ln D v w) (b : Bool) : FS w0 B p a len cap gr gf id b ln D v (w.setCell ⟨gf, 1, none⟩ (.bool b)) := F.put 1 _ (F.box.set1 _)
theorem FS.putLn (F : FS w0 B p a len cap gr gf id rm ln D v w) (n : Int) : FS w0 B p a len cap gr gf id rm n D v (w.setCell ⟨gf, 2, none⟩ (.int .i64 n)) := F.put 2 _ (F.box.set2 _)
theorem FS.app {D' : List Int} {v' : Value} {w' : World} (F : FS w0 B p a len cap gr gf id rm ln D v w) (own' : OwnI w0.heap.size D' v' w') (k : w.grownBy w' v.ownBlock) : FS w0 B p a len cap gr gf id rm ln D' v' (w'.setCell ⟨gf, 3, none⟩ v') := by
  have h1 := F.pl; have h2 := F.rl; have h3 := F.fl
  have b' := F.box.kept k (F.own.ne_box F.box).symm
  have r' := F.res.kept k (F.own.ne_box F.res).symm
  have gr' : w0.grownBy w' (some p) := by
    cases hv : v.ownBlock with
    | none => rw [hv] at k; exact grown_trans F.grown (grown_some k _)
    | some q => rw [hv] at k; exact grown_own F.grown k (F.own.low hv)
  have st' : St B p a len cap w' := F.st.step k (fun j e => by have := F.own.low e; omega)
  have kk := grown_set w' gf 3 v'
  exact ⟨st'.step kk (fun j e => by cases e; omega), grown_own gr' kk h3, r'.kept kk (by simp; exact F.ne), b'.set3 v', own'.kept kk (.inr (own'.ne_box b')), h1, h2, h3, F.ne⟩
/-- The frame laid in the result's box. -/
theorem FS.done (F : FS w0 B p a len cap gr gf id rm ln D v w) :
    Bx gr (.int .i64 id) (.bool rm) (.int .i64 ln) v ((((w.setCell ⟨gr, 0, none⟩ (.int .i64 id)).setCell ⟨gr, 1, none⟩ (.bool rm)).setCell ⟨gr, 2, none⟩ (.int .i64 ln)).setCell ⟨gr, 3, none⟩ v) ∧
    OwnI w0.heap.size D v ((((w.setCell ⟨gr, 0, none⟩ (.int .i64 id)).setCell ⟨gr, 1, none⟩ (.bool rm)).setCell ⟨gr, 2, none⟩ (.int .i64 ln)).setCell ⟨gr, 3, none⟩ v) ∧
    w0.grownBy ((((w.setCell ⟨gr, 0, none⟩ (.int .i64 id)).setCell ⟨gr, 1, none⟩ (.bool rm)).setCell ⟨gr, 2, none⟩ (.int .i64 ln)).setCell ⟨gr, 3, none⟩ v) (some p) ∧
    St B p a len cap ((((w.setCell ⟨gr, 0, none⟩ (.int .i64 id)).setCell ⟨gr, 1, none⟩ (.bool rm)).setCell ⟨gr, 2, none⟩ (.int .i64 ln)).setCell ⟨gr, 3, none⟩ v) := by
  have h1 := F.pl; have h2 := F.rl
  have k : w.grownBy ((((w.setCell ⟨gr, 0, none⟩ (.int .i64 id)).setCell ⟨gr, 1, none⟩ (.bool rm)).setCell ⟨gr, 2, none⟩ (.int .i64 ln)).setCell ⟨gr, 3, none⟩ v) (some gr) :=
    grown_trans (grown_trans (grown_trans (grown_set _ _ _ _) (grown_set _ _ _ _)) (grown_set _ _ _ _)) (grown_set _ _ _ _)
  exact ⟨(((F.res.set0 _).set1 _).set2 _).set3 _, F.own.kept k (.inr (F.own.ne_box F.res)), grown_own F.grown k h2, F.st.step k (fun j e => by cases e; omega)⟩
end
end Go.Proofs.YtnhmecabppaboaaGreat

/- Contracts of the model's draws of frames (l4Draw, l4DrawAny): each answers some frame whose row is its own, and writes into nothing that was there but the cursor. -/

set_option linter.unusedSimpArgs false
set_option linter.unusedVariables false
set_option maxRecDepth 20000
namespace Go.Proofs.YtnhmecabppaboaaGreat
open Go.RowKit

/-- What a draw of a frame leaves. -/
def Drawn (B p : Nat) (a : Option Addr) (len cap : Nat) (N : Nat) (w : World) (e : Ending) (w' : World) : Prop :=
  ∃ (id : Int) (rm : Bool) (ln : Int) (D : List Int) (v : Value), e = .returned (.agg #[.int .i64 id, .bool rm, .int .i64 ln, v]) ∧ OwnI w.heap.size D v w' ∧ D.length ≤ N ∧ (Lit.int .i64 id).wf = true ∧ (Lit.int .i64 ln).wf = true ∧ w.grownBy w' (some p) ∧ St B p a len cap w'

/-- What a draw of a right frame leaves. -/
def DrawnOk (B p : Nat) (a : Option Addr) (len cap : Nat) (w : World) (e : Ending) (w' : World) : Prop :=
  ∃ (id : Int) (rm : Bool) (ln : Int) (D : List Int) (v : Value), e = .returned (.agg #[.int .i64 id, .bool rm, .int .i64 ln, v]) ∧ OwnI w.heap.size D v w' ∧ frOk id rm ln D = true ∧ w.grownBy w' (some p) ∧ St B p a len cap w'
theorem DrawnOk.drawn {B p : Nat} {a : Option Addr} {len cap : Nat} {w w' : World} {e : Ending} (h : DrawnOk B p a len cap w e w') : Drawn B p a len cap 8 w e w' := by
  obtain ⟨id, rm, ln, D, v, he, o, hok, g, s⟩ := h
  simp only [frOk, inR, Bool.and_eq_true, decide_eq_true_eq] at hok
  obtain ⟨⟨⟨⟨⟨h0, h1⟩, h2⟩, h3⟩, h4⟩, _⟩ := hok
  exact ⟨id, rm, ln, D, v, he, o, by split at h4 <;> omega, Go.WalkArith.wf_i64 ⟨by omega, by omega⟩, Go.WalkArith.wf_i64 ⟨by omega, by omega⟩, g, s⟩
set_option maxHeartbeats 4000000 in
/-- spec.l4Draw. -/
theorem drawRight {B p : Nat} {a : Option Addr} {len cap : Nat} (w : World) (st : St B p a len cap w) :
    Calls Tryz.prog 75 #[.pointer (some ⟨p, 0, none⟩)] w (DrawnOk B p a len cap w) := by
  have hp := st.lt
  have R0 := Bx.made w (.int .i64 0) (.bool false) (.int .i64 0) (.slice none 0 0)
  have g0 := World.grownBy_alloc w (.cells #[.int .i64 0, .bool false, .int .i64 0, .slice none 0 0] 35) (some p)
  go_enter Tryz.func75, Tryz.ntmps75
  go_wp2_with fail
  refine (belowPos (B := B) (a := a) (len := len) (cap := cap) 12 _ (by omega) (by omega) (st.alloc _)).mono ?_
  rintro e w1 ⟨id, id0, id1, rfl, g1, s1⟩
  replace R0 := R0.kept g1 (by simp; omega)
  replace g1 := grown_trans g0 g1
  clear g0
  go_wp2_with fail
  refine (belowPos (B := B) (a := a) (len := len) (cap := cap) 4 _ (by omega) (by omega) s1).mono ?_
  rintro e w2 ⟨ln, ln0, ln1, rfl, g2, s2⟩
  replace R0 := R0.kept g2 (by simp; omega)
  replace g1 := grown_trans g1 g2
  clear g2 s1
  go_upto_region 2 with fail
  have F : FS w B p a len cap w.heap.size w2.heap.size id false ln [] (.slice none 0 0) (w2.alloc (.cells #[.int .i64 id, .bool false, .int .i64 ln, .slice none 0 0] 35)) := by
    have k := World.grownBy_alloc w2 (.cells #[.int .i64 id, .bool false, .int .i64 ln, .slice none 0 0] 35) (some p)
    have h1 := R0.lt
    exact ⟨s2.alloc _, grown_trans g1 k, R0.kept k (by simp; omega), Bx.made _ _ _ _ _, OwnI.nil _ _, hp, Nat.le_refl _, g1.size, by omega⟩
  generalize w2.alloc (.cells #[.int .i64 id, .bool false, .int .i64 ln, .slice none 0 0] 35) = W at F ⊢
  generalize w2.heap.size = gf at F ⊢
  generalize hgr : w.heap.size = gr at F ⊢
  clear R0 s2 g1 w2 w1
  go_wp2_with fail
  refine (onceAny (B := B) (a := a) (len := len) (cap := cap) 3 _ (by omega) (by omega) F.st).mono ?_
  rintro e w3 ⟨b, rfl, g3, s3⟩
  replace F := F.step g3 s3
  clear g3 s3
  go_upto_if 11 with fail
  go_cut [] (fun wx => ∃ id', 0 ≤ id' ∧ id' ≤ 2047 ∧ FS w B p a len cap gr gf id' false ln [] (.slice none 0 0) wx)
  case first =>
    cases b with
    | true =>
      go_wp2_with fail
      refine (belowPos (B := B) (a := a) (len := len) (cap := cap) 2048 _ (by omega) (by omega) F.st).mono ?_
      rintro e w4 ⟨i2, i20, i21, rfl, g4, s4⟩
      replace F := F.step g4 s4
      have c0 := F.box.c0
      have f0 := F.box.free 0
      go_wp2_with fail
      go_meet
      exact ⟨i2, i20, by omega, F.putId i2⟩
    | false =>
      go_wp2_with fail
      go_meet
      exact ⟨id, id0, by omega, F⟩
  case rest =>
  clear F
  obtain ⟨id', hid0, hid1, F⟩ := hcut
  clear id0 id1
  go_wp2_with fail
  refine (onceAny (B := B) (a := a) (len := len) (cap := cap) 6 _ (by omega) (by omega) F.st).mono ?_
  rintro e w3 ⟨b, rfl, g3, s3⟩
  replace F := F.step g3 s3
  clear g3 s3
  go_upto_if 16 with fail
  go_cut [] (fun wx => ∃ ln', 0 ≤ ln' ∧ ln' ≤ 8 ∧ FS w B p a len cap gr gf id' false ln' [] (.slice none 0 0) wx)
  case first =>
    cases b with
    | true =>
      go_wp2_with fail
      refine (belowPos (B := B) (a := a) (len := len) (cap := cap) 9 _ (by omega) (by omega) F.st).mono ?_
      rintro e w4 ⟨i2, i20, i21, rfl, g4, s4⟩
      replace F := F.step g4 s4
      have c2 := F.box.c2
      have f2 := F.box.free 2
      go_wp2_with fail
      go_meet
      exact ⟨i2, i20, by omega, F.putLn i2⟩
    | false =>
      go_wp2_with fail
      go_meet
      exact ⟨ln, ln0, by omega, F⟩
  case rest =>
  clear F
  obtain ⟨ln', l0, l1, F⟩ := hcut
  clear ln0 ln1
  go_wp2_with fail
  refine (onceAny (B := B) (a := a) (len := len) (cap := cap) 6 _ (by omega) (by omega) F.st).mono ?_
  rintro e w4 ⟨b, rfl, g3, s3⟩
  replace F := F.step g3 s3
  clear g3 s3
  cases b with
  | true =>
    have c1 := F.box.c1
    have f1 := F.box.free 1
    go_upto_region 8 with fail
    replace F := F.putRm true
    generalize w4.setCell ⟨gf, 1, none⟩ (.bool true) = W4 at F ⊢
    have r0 := F.box.c0
    have r1 := F.box.c1
    have r2 := F.box.c2
    have r3 := F.box.c3
    have y0 := F.res.c0
    have y1 := F.res.c1
    have y2 := F.res.c2
    have y3 := F.res.c3
    have q0 := F.res.free 0
    have q1 := F.res.free 1
    have q2 := F.res.free 2
    have q3 := F.res.free 3
    go_wp2_with fail
    obtain ⟨d0, d1, d2, d3⟩ := F.done
    generalize (((W4.setCell ⟨gr, 0, none⟩ (.int .i64 id')).setCell ⟨gr, 1, none⟩ (.bool true)).setCell ⟨gr, 2, none⟩ (.int .i64 ln')).setCell ⟨gr, 3, none⟩ (.slice none 0 0) = Wx at d0 d1 d2 d3 ⊢
    have z0 := d0.c0
    have z1 := d0.c1
    have z2 := d0.c2
    have z3 := d0.c3
    exact bodyPost_ret (v := .agg #[.int .i64 id', .bool true, .int .i64 ln', (.slice none 0 0)]) (by simp [results, Tryz.results75, go_sem, z0, z1, z2, z3]) rfl ⟨id', true, ln', [], (.slice none 0 0), rfl, d1, frOk_yes ⟨hid0, hid1, l0, l1⟩ rfl, d2, d3⟩
  | false =>
    have c2 := F.box.c2
    go_wp2_with fail
    clear c2
    go_loopw [4] (fun n wr => ∃ (i : Int) (D : List Int) (v : Value), n = .int .i64 i ∧ 0 ≤ i ∧ (D.length : Int) + i = ln' ∧ D.all byOk = true ∧ FS w B p a len cap gr gf id' false ln' D v wr) (fun n _ => (intOf n).toNat)
    case atStart => exact ⟨ln', [], _, rfl, l0, by simp, rfl, F⟩
    case round =>
      clear F
      obtain ⟨i, D, v, rfl, hi, hD, hby, F⟩ := hrel
      by_cases hlt : 0 < i
      · have G1 := F.drew
        have hp1 := G1.st.lt
        have hnf := World.new_ne wr _ F.box.c3
        have c3 := F.box.c3
        go_wp2_with fail
        go_region_law (first
          | (go_simp
             go_at_call_of 31 (Value.int .i64 256)
             refine (belowPos (B := B) (a := a) (len := len) (cap := cap) 256 _ (by omega) (by omega) G1.st).mono ?_
             rintro e w5 ⟨y, y0, y1, rfl, g5, s5⟩
             have G5 := G1.step g5 s5
             have c5 := G5.box.c3
             have c5a := (G5.alloc (.cells #[.int .i64 0, .int .i64 255, .int .i64 y] 2)).box.c3
             have hp5 := G5.st.lt)
          | (go_simp
             go_at_call_of 31 (Value.int .i64 3)
             refine (belowPos (B := B) (a := a) (len := len) (cap := cap) 3 _ (by omega) (by omega) ?_).mono ?_
             · first | exact (G5.alloc _).st | exact G5.st
             rintro e w6 ⟨x, x0, x1, rfl, g6, s6⟩
             have x2 : x < 3 := by omega
             have G6 : FS w B p a len cap gr gf id' false ln' D v w6 := by first | exact (G5.alloc _).step g6 s6 | exact G5.step g6 s6
             have c6 := G6.box.c3
             have hs6 : Hid (w6.heap.size + 1 = (w6.alloc (.cells #[.int .i64 0, .int .i64 255, .int .i64 y] 2)).heap.size) := Lib.hid (by simp)
             obtain ⟨z, hzw, hzb, hz, hzB⟩ : ∃ z, (Lit.int .i64 z).wf = true ∧ byOk z = true ∧ (#[.int .i64 0, .int .i64 255, .int .i64 y] : Array Value)[x.toNat]? = some (.int .i64 z) ∧
                 ∀ h : x.toNat < ([.int .i64 0, .int .i64 255, .int .i64 y] : List Value).length, ([.int .i64 0, .int .i64 255, .int .i64 y] : List Value)[x.toNat]'h = .int .i64 z := by
               have hx : x = 0 ∨ x = 1 ∨ x = 2 := by omega
               rcases hx with rfl | rfl | rfl
               · exact ⟨0, by decide, by decide, rfl, fun _ => rfl⟩
               · exact ⟨255, by decide, by decide, rfl, fun _ => rfl⟩
               · exact ⟨y, Go.WalkArith.wf_i64 ⟨by omega, by omega⟩, byOk_yes y0 (by omega), rfl, fun _ => rfl⟩
             have c6a := (G6.alloc (.cells #[.int .i64 0, .int .i64 255, .int .i64 y] 2)).box.c3
             have c6b := (G6.alloc (.cells #[.int .i64 z] 2)).box.c3
             have c6c := ((G6.alloc (.cells #[.int .i64 0, .int .i64 255, .int .i64 y] 2)).alloc (.cells #[.int .i64 z] 2)).box.c3
             first | (have hzA := row_at _ _ g6 hp5 _ _ hz) | skip)
          | (refine step_appI rfl (.tmp 31) (.tmp 39) rfl w.heap.size D z v ?_ ?_ w6.heap.size 1 ?_ ?_ hzw ?_ ?_ ?_
             · simp [Act.eval, Act.put]
             · exact (G6.alloc _).own
             · simp [Act.eval, Act.put]
             · exact World.cell?_alloc_at _ _ _ _ rfl
             · omega
             · have := G6.grown.size
               simp
               try omega
             intro av cv w8 own8 g8
             have G7 := G6.alloc (.cells #[.int .i64 z] 2)
             have B8 := G7.box.kept g8 (G7.own.ne_box G7.box).symm
             have c8 := B8.c3
             have f8 := B8.free 3
             have G9 := G7.app own8 g8)
          | (refine step_appI rfl (.tmp 31) (.tmp 39) rfl w.heap.size D z v ?_ ?_ (w6.heap.size + 1) 1 ?_ ?_ hzw ?_ ?_ ?_
             · simp [Act.eval, Act.put]
             · exact ((G6.alloc _).alloc _).own
             · simp [Act.eval, Act.put]
             · exact World.cell?_alloc_at _ _ _ _ hs6.out
             · omega
             · have := G6.grown.size
               simp
               try omega
             intro av cv w8 own8 g8
             have G7 := (G6.alloc (.cells #[.int .i64 0, .int .i64 255, .int .i64 y] 2)).alloc (.cells #[.int .i64 z] 2)
             have B8 := G7.box.kept g8 (G7.own.ne_box G7.box).symm
             have c8 := B8.c3
             have f8 := B8.free 3
             have G9 := G7.app own8 g8))
        all_goals
          clear hzB hz c3 c5 c5a c6 c6a c6b c6c
          go_wp2_with fail
          go_roundw
          case rel => exact ⟨i - 1, D ++ [z], _, rfl, by omega, by simp; omega, by rw [List.all_append, hby]; simp [hzb], G9⟩
          case measure => simp [intOf]; omega
      · obtain ⟨av, cv, rfl, _⟩ := F.own.nums
        have c0 := F.box.c0
        have r0 := F.box.c0
        have r1 := F.box.c1
        have r2 := F.box.c2
        have r3 := F.box.c3
        have y0 := F.res.c0
        have y1 := F.res.c1
        have y2 := F.res.c2
        have y3 := F.res.c3
        have q0 := F.res.free 0
        have q1 := F.res.free 1
        have q2 := F.res.free 2
        have q3 := F.res.free 3
        go_wp2_with fail
        obtain ⟨d0, d1, d2, d3⟩ := F.done
        generalize (((wr.setCell ⟨gr, 0, none⟩ (.int .i64 id')).setCell ⟨gr, 1, none⟩ (.bool false)).setCell ⟨gr, 2, none⟩ (.int .i64 ln')).setCell ⟨gr, 3, none⟩ (.slice av D.length cv) = Wx at d0 d1 d2 d3 ⊢
        have z0 := d0.c0
        have z1 := d0.c1
        have z2 := d0.c2
        have z3 := d0.c3
        exact bodyPost_ret (v := .agg #[.int .i64 id', .bool false, .int .i64 ln', .slice av D.length cv]) (by simp [results, Tryz.results75, go_sem, z0, z1, z2, z3]) rfl ⟨id', false, ln', D, .slice av D.length cv, rfl, d1, (frOk_yes ⟨hid0, hid1, l0, l1⟩ (by rw [if_neg (by decide)]; omega)).trans hby, d2, d3⟩
theorem drawFr {B p : Nat} {a : Option Addr} {len cap : Nat} (w : World) (st : St B p a len cap w) :
    Calls Tryz.prog 75 #[.pointer (some ⟨p, 0, none⟩)] w (Drawn B p a len cap 8 w) := (drawRight w st).mono fun _ _ h => h.drawn
end Go.Proofs.YtnhmecabppaboaaGreat

/- Contract of the model's l4DrawAny: it answers some frame whose row is its own, and writes into nothing that was there but the cursor. -/

set_option linter.unusedSimpArgs false
set_option linter.unusedVariables false
set_option maxRecDepth 20000
namespace Go.Proofs.YtnhmecabppaboaaGreat
open Go.RowKit

set_option maxHeartbeats 4000000 in
/-- spec.l4DrawAny. -/
theorem drawAnyFr {B p : Nat} {a : Option Addr} {len cap : Nat} (w : World) (st : St B p a len cap w) :
    Calls Tryz.prog 41 #[.pointer (some ⟨p, 0, none⟩)] w (Drawn B p a len cap 9 w) := by
  have hp := st.lt
  have R0 := Bx.made w (.int .i64 0) (.bool false) (.int .i64 0) (.slice none 0 0)
  have g0 := World.grownBy_alloc w (.cells #[.int .i64 0, .bool false, .int .i64 0, .slice none 0 0] 35) (some p)
  go_enter Tryz.func41, Tryz.ntmps41
  go_wp2_with fail
  refine (drawFr (B := B) (a := a) (len := len) (cap := cap) _ (st.alloc _)).mono ?_
  rintro e w1 ⟨id, rm, ln, D, v, rfl, own, hD, hid, hln, g1, s1⟩
  obtain ⟨av, cv, rfl, _⟩ := own.nums
  have hsz := g0.size
  replace R0 := R0.kept g1 (by simp; omega)
  replace own := own.mono hsz
  replace g1 := grown_trans g0 g1
  clear g0 hsz
  go_upto_region 2 with fail
  have F : FS w B p a len cap w.heap.size w1.heap.size id rm ln D (.slice av D.length cv) (w1.alloc (.cells #[.int .i64 id, .bool rm, .int .i64 ln, .slice av D.length cv] 35)) := by
    have k := World.grownBy_alloc w1 (.cells #[.int .i64 id, .bool rm, .int .i64 ln, .slice av D.length cv] 35) (some p)
    have h1 := R0.lt
    exact ⟨s1.alloc _, grown_trans g1 k, R0.kept k (by simp; omega), Bx.made _ _ _ _ _, ⟨own.1.alloc _, own.2⟩, hp, Nat.le_refl _, g1.size, by omega⟩
  generalize w1.alloc (.cells #[.int .i64 id, .bool rm, .int .i64 ln, .slice av D.length cv] 35) = W at F ⊢
  generalize w1.heap.size = gf at F ⊢
  generalize hgr : w.heap.size = gr at F ⊢
  clear R0 s1 g1 own
  go_wp2_with fail
  refine (onceAny (B := B) (a := a) (len := len) (cap := cap) 6 _ (by omega) (by omega) F.st).mono ?_
  rintro e w2 ⟨b, rfl, g3, s3⟩
  replace F := F.step g3 s3
  clear g3 s3
  go_upto_if 7 with fail
  go_cut [] (fun wx => ∃ (id : Int) (rm : Bool) (ln : Int) (D : List Int) (av : Option Addr) (cv : Nat), (Lit.int .i64 id).wf = true ∧ (Lit.int .i64 ln).wf = true ∧ D.length ≤ 9 ∧ FS w B p a len cap gr gf id rm ln D (.slice av D.length cv) wx)
  case first =>
    cases b with
    | false =>
      go_wp2_with fail
      go_meet
      exact ⟨id, rm, ln, D, av, cv, hid, hln, by omega, F⟩
    | true =>
      go_wp2_with fail
      refine (belowPos (B := B) (a := a) (len := len) (cap := cap) 4 _ (by omega) (by omega) F.st).mono ?_
      rintro e w3 ⟨x, x0, x1, rfl, g3, s3⟩
      replace F := F.step g3 s3
      clear g3 s3
      have hx : x = 0 ∨ x = 1 ∨ x = 2 ∨ x = 3 := by omega
      rcases hx with rfl | rfl | rfl | rfl
      · go_wp2_with fail
        refine (numAny (B := B) (a := a) (len := len) (cap := cap) 2047 _ (by omega) (by omega) F.st).mono ?_
        rintro e w4 ⟨n, n0, n1, rfl, g4, s4⟩
        replace F := F.step g4 s4
        have c0 := F.box.c0
        have f0 := F.box.free 0
        go_wp2_with fail
        go_meet
        exact ⟨n, rm, ln, D, av, cv, Go.WalkArith.wf_i64 ⟨by omega, by omega⟩, hln, by omega, F.putId n⟩
      · go_wp2_with fail
        refine (numAny (B := B) (a := a) (len := len) (cap := cap) 8 _ (by omega) (by omega) F.st).mono ?_
        rintro e w4 ⟨n, n0, n1, rfl, g4, s4⟩
        replace F := F.step g4 s4
        have c2 := F.box.c2
        have f2 := F.box.free 2
        go_wp2_with fail
        go_meet
        exact ⟨id, rm, n, D, av, cv, hid, Go.WalkArith.wf_i64 ⟨by omega, by omega⟩, by omega, F.putLn n⟩
      · have G1 := F.drew
        have c3 := F.box.c3
        go_wp2_with fail
        go_region_law (first
          | (go_simp
             go_at_call 30
             refine (numAny (B := B) (a := a) (len := len) (cap := cap) 255 _ (by omega) (by omega) G1.st).mono ?_
             rintro e w5 ⟨z, z0, z1, rfl, g5, s5⟩
             have hzw : (Lit.int .i64 z).wf = true := Go.WalkArith.wf_i64 ⟨by omega, by omega⟩
             have G5 := G1.step g5 s5
             have c5 := G5.box.c3
             have c5b := (G5.alloc (.cells #[.int .i64 z] 2)).box.c3)
          | (refine step_appI rfl (.tmp 23) (.tmp 26) rfl w.heap.size D z (.slice av D.length cv) ?_ ?_ w5.heap.size 1 ?_ ?_ hzw ?_ ?_ ?_
             · simp [Act.eval, Act.put]
             · exact (G5.alloc _).own
             · simp [Act.eval, Act.put]
             · exact World.cell?_alloc_at _ _ _ _ rfl
             · omega
             · have := G5.grown.size
               simp
               try omega
             intro av' cv' w8 own8 g8
             have G7 := G5.alloc (.cells #[.int .i64 z] 2)
             have B8 := G7.box.kept g8 (G7.own.ne_box G7.box).symm
             have c8 := B8.c3
             have f8 := B8.free 3
             have G9 := G7.app own8 g8))
        all_goals
          clear c3 c5 c5b
          go_wp2_with fail
          go_meet
          refine ⟨id, rm, ln, D ++ [z], av', cv', hid, hln, by simp; omega, ?_⟩
          rw [show (D ++ [z]).length = D.length + 1 by simp]
          exact G9
      · have c1 := F.box.c1
        have f1 := F.box.free 1
        go_wp2_with fail
        go_meet
        exact ⟨id, !rm, ln, D, av, cv, hid, hln, by omega, F.putRm (!rm)⟩
  case rest =>
    clear F
    obtain ⟨id, rm, ln, D, av, cv, hid, hln, hD, F⟩ := hcut
    have r0 := F.box.c0
    have r1 := F.box.c1
    have r2 := F.box.c2
    have r3 := F.box.c3
    have y0 := F.res.c0
    have y1 := F.res.c1
    have y2 := F.res.c2
    have y3 := F.res.c3
    have q0 := F.res.free 0
    have q1 := F.res.free 1
    have q2 := F.res.free 2
    have q3 := F.res.free 3
    go_wp2_with fail
    obtain ⟨d0, d1, d2, d3⟩ := F.done
    generalize (((wc.setCell ⟨gr, 0, none⟩ (.int .i64 id)).setCell ⟨gr, 1, none⟩ (.bool rm)).setCell ⟨gr, 2, none⟩ (.int .i64 ln)).setCell ⟨gr, 3, none⟩ (.slice av D.length cv) = Wx at d0 d1 d2 d3 ⊢
    have z0 := d0.c0
    have z1 := d0.c1
    have z2 := d0.c2
    have z3 := d0.c3
    exact bodyPost_ret (v := .agg #[.int .i64 id, .bool rm, .int .i64 ln, .slice av D.length cv]) (by simp [results, Tryz.results41, go_sem, z0, z1, z2, z3]) rfl ⟨id, rm, ln, D, .slice av D.length cv, rfl, d1, hD, hid, hln, d2, d3⟩
section
variable {Bn B p g : Nat} {a : Option Addr} {len cap : Nat} {D : List Int} {v : Value} {x0 x1 x2 x3 : Value} {w : World}
theorem OwnI.ne_cur (h : OwnI Bn D v w) (s : St B p a len cap w) : v.ownBlock ≠ some p := by
  rcases h.1.2 with ⟨rfl, _⟩ | ⟨g', cap', cur, rfl, _, hg, _⟩
  · simp [Value.ownBlock]
  · intro e
    simp only [Value.ownBlock, Option.some.injEq] at e
    subst e
    obtain ⟨⟨i, h', c⟩, _⟩ := s
    rw [c.block] at hg
    simp at hg
theorem OwnI.stay {w' : World} (h : OwnI Bn D v w) (k : w.grownBy w' none) : OwnI Bn D v w' := h.kept k (Classical.em _)
theorem Bx.ne_cur (h : Bx g x0 x1 x2 x3 w) (s : St B p a len cap w) : some g ≠ some p := by
  intro e
  rw [Option.some.inj e] at h
  obtain ⟨⟨i, h', c⟩, _⟩ := s
  have k := c.block
  rw [show w.heap[p]? = _ from h] at k
  simp at k
theorem OwnI.numsAt {av : Option Addr} {n cv : Nat} (h : OwnI Bn D (.slice av n cv) w) : n = D.length ∧ Nums av D w := by
  obtain ⟨a', c', e, k⟩ := h.nums
  simp only [Value.slice.injEq] at e
  obtain ⟨rfl, rfl, rfl⟩ := e
  exact ⟨rfl, k⟩
end

end Go.Proofs.YtnhmecabppaboaaGreat

/- laws.toFrameS: a copy of a slice of frames, in a row of its own, each frame's data in a row of its own. -/

set_option maxRecDepth 20000
namespace Go.Proofs.YtnhmecabppaboaaGreat
open Go.RowKit

theorem OwnI.made_row {D : List Int} (hw : ∀ x ∈ D, (Lit.int .i64 x).wf = true) (hm : D.length ≤ maxLen) (w1 : World) {B : Nat} (hB : B ≤ w1.heap.size) :
    OwnI B D (.slice (some ⟨w1.heap.size, 0, none⟩) D.length D.length) (w1.alloc (.cells (irow D.length fun j => nth D j) 2)) := by
  refine ⟨⟨by simp, .inr ⟨w1.heap.size, D.length, irow D.length fun j => nth D j, rfl, hB, heap_alloc_new _ _, Nat.le_refl _, hm, by simp [irow_size], ?_⟩⟩, hw⟩
  apply List.ext_getElem?
  intro j
  by_cases hj : j < D.length
  · simp [irow, hj, nth, List.getD_eq_getElem?_getD]
  · rw [List.getElem?_eq_none (by simp [irow]; omega), List.getElem?_eq_none (by simp; omega)]
theorem OwnI.made_at {D : List Int} {g : Nat} {B : Nat} {w1 : World} (hg : g = w1.heap.size) (hw : ∀ x ∈ D, (Lit.int .i64 x).wf = true) (hm : D.length ≤ maxLen) (hB : B ≤ w1.heap.size) :
    OwnI B D (.slice (some ⟨g, 0, none⟩) D.length D.length) (w1.alloc (.cells (irow D.length fun j => nth D j) 2)) := by
  subst hg; exact OwnI.made_row hw hm w1 hB
theorem ownInts_below {B : Nat} {D : List Int} {v : Value} {w w' : World} (h : OwnI B D v w) (b : Below w.heap.size w w') : OwnI B D v w' :=
  h.kept (row := none) ⟨b.os, b.tape, b.output, b.size, fun k hk _ => b.block k hk⟩ (by cases v.ownBlock <;> simp)

/-- laws.toFrame, its data in a row of its own. -/
theorem toFrOwn (id : Int) (rm : Bool) (ln : Int) (a : Option Addr) (D : List Int) (c : Nat) (w : World) (hd : Nums a D w) (h : D.length ≤ 1048576) :
    Calls Tryz.prog 100 #[frV id rm ln a D.length c] w fun e w' =>
      ∃ a', e = .returned (frV id rm ln a' D.length D.length) ∧ OwnI w.heap.size D (.slice a' D.length D.length) w' ∧ Below w.heap.size w w' := by
  go_enter Tryz.func100, Tryz.ntmps100
  go_wp2_with fail
  refine (toInts _ _ _ _ (hd.below ?_) h).mono ?_
  · exact (((Below.refl _ _).alloc (Nat.le_refl _) _).alloc (by simp) _).alloc (by simp; omega) _
  rintro e w' ⟨rfl, rfl⟩
  go_wp2
  refine bodyPost_ret (v := frV id rm ln (some ⟨w.heap.size + 1 + 1 + 1, 0, none⟩) D.length D.length) (by simp [results, Tryz.results100, go_sem]) rfl ⟨_, rfl, ?_, ?_⟩
  · exact OwnI.made_at (by simp) hd.2.1 hd.1 (by simp; omega)
  exact ((((Below.refl _ _).alloc (Nat.le_refl _) _).alloc (by simp) _).alloc (by simp; omega) _).alloc (by simp; omega) _

/-- Block G is a row of n frames; the first k are those of L. -/
structure RowF (G n k : Nat) (L : List Frm) (cur : Array Value) (w : World) : Prop where
  blk : w.heap[G]? = some (.cells cur 35 (0, 0))
  len : cur.size = n * 4
  fr : ∀ j, j < k → ∃ dv, cur[j * 4]? = some (.int .i64 (nthF L j).id) ∧ cur[j * 4 + 1]? = some (.bool (nthF L j).rm) ∧ cur[j * 4 + 2]? = some (.int .i64 (nthF L j).ln) ∧ cur[j * 4 + 3]? = some dv ∧ OwnI (G + 1) (nthF L j).D dv w
section
variable {G n k : Nat} {L : List Frm} {cur : Array Value} {w w' : World}
theorem RowF.lt (h : RowF G n k L cur w) : G < w.heap.size := (Array.getElem?_eq_some_iff.1 h.blk).1
theorem RowF.below (h : RowF G n k L cur w) (b : Below w.heap.size w w') : RowF G n k L cur w' := by
  refine ⟨(b.block G h.lt).trans h.blk, h.len, fun j hj => ?_⟩
  obtain ⟨dv, e0, e1, e2, e3, ho⟩ := h.fr j hj
  exact ⟨dv, e0, e1, e2, e3, ownInts_below ho b⟩
theorem RowF.free (h : RowF G n k L cur w) (j : Nat) : w.frozen? ⟨G, j, none⟩ = false := frozen_of_row w G j _ _ h.blk
theorem RowF.cell (h : RowF G n k L cur w) (j : Nat) : w.cell? ⟨G, j, none⟩ = cur[j]? := cell_of_row w G j _ _ _ h.blk
theorem RowF.cells (h : RowF G n k L cur w) (hk : k < n) : ∃ x0 x1 x2 x3, w.cell? ⟨G, k * 4, none⟩ = some x0 ∧ w.cell? ⟨G, k * 4 + 1, none⟩ = some x1 ∧ w.cell? ⟨G, k * 4 + 2, none⟩ = some x2 ∧ w.cell? ⟨G, k * 4 + 3, none⟩ = some x3 := by
  have hl := h.len
  refine ⟨cur[k * 4], cur[k * 4 + 1], cur[k * 4 + 2], cur[k * 4 + 3], ?_, ?_, ?_, ?_⟩ <;> rw [h.cell] <;> exact Array.getElem?_eq_getElem (by omega)
/-- The world behind the stores of frame k. -/
def putF (G k : Nat) (id : Int) (rm : Bool) (ln : Int) (dv : Value) (w : World) : World :=
  (((w.setCell ⟨G, k * 4, none⟩ (.int .i64 id)).setCell ⟨G, k * 4 + 1, none⟩ (.bool rm)).setCell ⟨G, k * 4 + 2, none⟩ (.int .i64 ln)).setCell ⟨G, k * 4 + 3, none⟩ dv
theorem putF_grown (G k : Nat) (id : Int) (rm : Bool) (ln : Int) (dv : Value) (w : World) : w.grownBy (putF G k id rm ln dv w) (some G) :=
  grown_trans (grown_trans (grown_trans (grown_set _ _ _ _) (grown_set _ _ _ _)) (grown_set _ _ _ _)) (grown_set _ _ _ _)
theorem RowF.put (h : RowF G n k L cur w) (hk : k < n) {id : Int} {rm : Bool} {ln : Int} {D : List Int} (hf : nthF L k = ⟨id, rm, ln, D⟩) {dv : Value} (ho : OwnI (G + 1) D dv w) :
    ∃ cur', RowF G n (k + 1) L cur' (putF G k id rm ln dv w) ∧ cur'[k * 4 + 3]? = some dv ∧ ∀ i, i < k * 4 → cur'[i]? = cur[i]? := by
  have hl := h.len
  have kg := putF_grown G k id rm ln dv w
  refine ⟨_, ⟨heap_setCell_same _ _ _ _ _ _ (heap_setCell_same _ _ _ _ _ _ (heap_setCell_same _ _ _ _ _ _ (heap_setCell_same _ _ _ _ _ _ h.blk))), by simp [hl], fun j hj => ?_⟩, by simp [Array.getElem?_setIfInBounds, hl]; omega, fun i hi => by simp only [Array.getElem?_setIfInBounds]; repeat rw [if_neg (by omega)]⟩
  by_cases e : j = k
  · subst e
    refine ⟨dv, ?_, ?_, ?_, ?_, ?_⟩
    · rw [hf]; simp [Array.getElem?_setIfInBounds, hl]; omega
    · rw [hf]; simp [Array.getElem?_setIfInBounds, hl]; omega
    · rw [hf]; simp [Array.getElem?_setIfInBounds, hl]; omega
    · simp [Array.getElem?_setIfInBounds, hl]; omega
    · rw [hf]; exact ho.kept kg (.inr fun e => by have := ho.low e; omega)
  · obtain ⟨dj, e0, e1, e2, e3, hj'⟩ := h.fr j (by omega)
    refine ⟨dj, ?_, ?_, ?_, ?_, hj'.kept kg (.inr fun e => by have := hj'.low e; omega)⟩
    all_goals (simp only [Array.getElem?_setIfInBounds]; repeat rw [if_neg (by omega)])
    all_goals assumption
theorem RowF.frs (h : RowF G n L.length L cur w) (hm : L.length ≤ maxLen) : Frs (some ⟨G, 0, none⟩) L w := by
  refine ⟨hm, fun j hj => ?_⟩
  obtain ⟨dv, e0, e1, e2, e3, ho⟩ := h.fr j hj
  obtain ⟨a, c, rfl, hn⟩ := ho.nums
  refine ⟨G, 0, a, c, rfl, ⟨?_, ?_, ?_, ?_⟩, hn⟩ <;> rw [h.cell, Nat.zero_add] <;> assumption
end
theorem make_frames (c : Nat) (hc : c ≤ 1048576) (W : World) : (Instr.makeSlice 64 (.int .i64 c) (.int .i64 c)).run Tryz.prog W =
    .ok (.slice (some ⟨W.heap.size, 0, none⟩) c c) (W.alloc (.cells (madeCells #[.int .i64 0, .bool false, .int .i64 0, .slice none 0 0] (c * 4)) 35)) := by
  obtain ⟨i0, hi, hz0, hz1, hz2⟩ := info_parts (show (Tryz.prog.info? 35).map (fun i => (i.zero, i.size, i.bytes)) = some (some (.agg #[.int .i64 0, .bool false, .int .i64 0, .slice none 0 0]), 4, 48) by kernel_rfl)
  have := run_make (P := Tryz.prog) W 64 35 i0 (.agg #[.int .i64 0, .bool false, .int .i64 0, .slice none 0 0]) Tryz.underlying64 hi hz0 .i64 .i64 c c (by omega) (Int.le_refl _) (by rw [hz2]; omega) (by omega)
  rw [this, hz1]
  simp only [Int.toNat_natCast]
  rfl

/-- laws.toFrameS. -/
theorem toFrames (a : Option Addr) (L : List Frm) (c : Nat) (w : World) (hd : Frs a L w) (h : L.length + room L L.length ≤ 1048576) :
    Calls Tryz.prog 81 #[.slice a L.length c] w fun e w' =>
      ∃ a', e = .returned (.slice a' L.length L.length) ∧ Frs a' L w' ∧ Below w.heap.size w w' := by
  have hmk := make_frames L.length (by omega)
  go_enter Tryz.func81, Tryz.ntmps81
  go_wp2_with fail
  clear hmk
  go_loopw [4] (fun i wr => ∃ (k : Nat) (cur : Array Value), k ≤ L.length ∧ i = .int .i64 k ∧ RowF w.heap.size L.length k L cur wr ∧ Below w.heap.size w wr) (fun i _ => L.length - (intOf i).toNat)
  case atStart => exact ⟨0, _, Nat.zero_le _, rfl, ⟨heap_alloc_new _ _, by simp [madeCells], fun j hj => absurd hj (by omega)⟩, (Below.refl _ _).alloc (Nat.le_refl _) _⟩
  case round =>
    obtain ⟨k, cur, hk, rfl, R, b⟩ := hrel
    by_cases hlt : k < L.length
    · obtain ⟨g, o, ad, cc, rfl, ⟨c0, c1, c2, c3⟩, hn⟩ := (hd.below b).2 k hlt
      have hs := room_succ L k hlt
      have hl := room_le L (show k + 1 ≤ L.length by omega)
      have hf0 : nthF L k = ⟨(nthF L k).id, (nthF L k).rm, (nthF L k).ln, (nthF L k).D⟩ := rfl
      generalize (nthF L k).id = id at *
      generalize (nthF L k).rm = rm at *
      generalize (nthF L k).ln = ln at *
      generalize (nthF L k).D = D at *
      have hf := Lib.hid hf0
      clear hf0
      go_wp2_with fail
      refine (toFrOwn _ _ _ _ _ _ _ hn (by omega)).mono ?_
      rintro e w2 ⟨a', rfl, ho, b2⟩
      have ho' := ho.mono (B' := w.heap.size + 1) R.lt
      replace R := R.below b2
      replace b := Below.then2 b b2
      clear b2 hn c0 c1 c2 c3 ho
      obtain ⟨x0, x1, x2, x3, y0, y1, y2, y3⟩ := R.cells hlt
      have z0 := R.free (k * 4)
      have z1 := R.free (k * 4 + 1)
      have z2 := R.free (k * 4 + 2)
      have z3 := R.free (k * 4 + 3)
      go_wp2_with fail
      go_roundw
      case rel =>
        obtain ⟨cur', R', -, -⟩ := R.put hlt hf.out ho'
        exact ⟨k + 1, cur', by omega, by go_num, R', (((b.setCell (Nat.le_refl _) _).setCell (Nat.le_refl _) _).setCell (Nat.le_refl _) _).setCell (Nat.le_refl _) _⟩
      case measure => simp [intOf]; omega
    · obtain rfl : k = L.length := by omega
      go_wp2_with fail
      go_ret
      exact ⟨_, rfl, R.frs hd.1, b⟩
end Go.Proofs.YtnhmecabppaboaaGreat

/- The model's draw of some frames (DrawWinnerOf): they stand in a row of the call's own, each one's data in a row of its own. -/

set_option linter.unusedVariables false
set_option maxRecDepth 20000
namespace Go.Proofs.YtnhmecabppaboaaGreat
open Go.RowKit

def flatF (M : List (Frm × Value)) : List Value := M.flatMap fun f => [.int .i64 f.1.id, .bool f.1.rm, .int .i64 f.1.ln, f.2]
theorem flatF_app (M : List (Frm × Value)) (x : Frm × Value) : flatF (M ++ [x]) = flatF M ++ [.int .i64 x.1.id, .bool x.1.rm, .int .i64 x.1.ln, x.2] := by simp [flatF]
theorem flatF_at : ∀ (M : List (Frm × Value)) (j : Nat) (h : j < M.length), (flatF M)[j * 4]? = some (.int .i64 M[j].1.id) ∧ (flatF M)[j * 4 + 1]? = some (.bool M[j].1.rm) ∧ (flatF M)[j * 4 + 2]? = some (.int .i64 M[j].1.ln) ∧ (flatF M)[j * 4 + 3]? = some M[j].2 := by
  intro M
  induction M with
  | nil => intro j h; simp at h
  | cons m M ih =>
    intro j h
    cases j with
    | zero => exact ⟨rfl, rfl, rfl, rfl⟩
    | succ j =>
      have k := ih j (by simpa using h)
      have e1 : (j + 1) * 4 = j * 4 + 1 + 1 + 1 + 1 := by omega
      rw [e1]
      simpa [flatF] using k
/-- The slice v, in a row of the call's own, holds frames, each one's data in a row of its own. -/
def OwnF (B : Nat) (M : List (Frm × Value)) (v : Value) (w : World) : Prop := w.ownsRow B 35 4 v M.length (flatF M) ∧ ∀ m ∈ M, OwnI B m.1.D m.2 w
section
variable {B : Nat} {M : List (Frm × Value)} {v : Value} {w w' : World}
theorem OwnF.kept {row : Option Nat} (h : OwnF B M v w) (k : w.grownBy w' row) (hne : v.ownBlock = none ∨ v.ownBlock ≠ row) (hd : ∀ m ∈ M, m.2.ownBlock = none ∨ m.2.ownBlock ≠ row) : OwnF B M v w' :=
  ⟨h.1.kept k hne, fun m hm => (h.2 m hm).kept k (hd m hm)⟩
theorem OwnF.stay (h : OwnF B M v w) (k : w.grownBy w' none) : OwnF B M v w' := h.kept k (Classical.em _) fun m hm => Classical.em _
theorem OwnF.is (h : OwnF B M v w) : ∃ a c, v = .slice a M.length c := by
  rcases h.1.2 with ⟨rfl, hn⟩ | ⟨g, cap, cur, rfl, _⟩
  · exact ⟨none, 0, by rw [hn]⟩
  · exact ⟨_, cap, rfl⟩
theorem OwnF.ne_cur {B' p : Nat} {a : Option Addr} {len cap : Nat} (h : OwnF B M v w) (s : St B' p a len cap w) : v.ownBlock ≠ some p := by
  rcases h.1.2 with ⟨rfl, _⟩ | ⟨g', cap', cur, rfl, _, hg, _⟩
  · simp [Value.ownBlock]
  · intro e
    simp only [Value.ownBlock, Option.some.injEq] at e
    subst e
    obtain ⟨⟨i, h', c⟩, _⟩ := s
    rw [c.block] at hg
    simp at hg
theorem OwnF.cur {B' p : Nat} {a : Option Addr} {len cap : Nat} (h : OwnF B M v w) (s : St B' p a len cap w) (k : w.grownBy w' (some p)) : OwnF B M v w' :=
  h.kept k (.inr (h.ne_cur s)) fun m hm => .inr ((h.2 m hm).ne_cur s)
/-- A row of numbers is no row of frames. -/
theorem OwnI.ne_row {B' : Nat} {D : List Int} {u : Value} (h : OwnF B M v w) (k : OwnI B' D u w) : u.ownBlock = none ∨ u.ownBlock ≠ v.ownBlock := by
  rcases k.1.2 with ⟨rfl, _⟩ | ⟨g', cap', cur, rfl, _, hg, _⟩
  · left; rfl
  · right
    rcases h.1.2 with ⟨rfl, _⟩ | ⟨g2, cap2, cur2, rfl, _, hg2, _⟩
    · simp [Value.ownBlock]
    · intro e
      simp only [Value.ownBlock, Option.some.injEq] at e
      subst e
      rw [hg] at hg2
      simp at hg2
theorem OwnF.frs (h : OwnF B M v w) (hm : M.length ≤ 2000000) : ∃ a c, v = .slice a M.length c ∧ Frs a (M.map fun m => m.1) w := by
  obtain ⟨hr, hd⟩ := h
  rcases hr.2 with ⟨rfl, hn⟩ | ⟨g, cap, cur, rfl, hrest⟩
  · have e : M = [] := List.length_eq_zero_iff.1 hn
    subst e
    exact ⟨none, 0, rfl, by simp, fun j hj => by simp at hj⟩
  · refine ⟨_, cap, rfl, by simp [maxLen]; omega, fun j hj => ?_⟩
    have hj' : j < M.length := by simpa using hj
    have e : nthF (M.map fun m => m.1) j = M[j].1 := by simp [nthF, List.getD_eq_getElem?_getD, hj']
    rw [e]
    obtain ⟨ad, c, hv, hn⟩ := (hd M[j] (List.getElem_mem hj')).nums
    obtain ⟨f0, f1, f2, f3⟩ := flatF_at M j hj'
    rw [hv] at f3
    refine ⟨g, 0, ad, c, rfl, ⟨?_, ?_, ?_, ?_⟩, hn⟩ <;> rw [Nat.zero_add, hr.cellAt _ (by omega)] <;> assumption
end

theorem infoF : (Tryz.prog.info? 35).map (fun i => (i.zero, i.size, i.bytes)) = some (some (.agg #[.int .i64 0, .bool false, .int .i64 0, .slice none 0 0]), 4, 48) := by kernel_rfl
/-- 'append' of one frame. -/
theorem wpList_appF {ops : Array Oper} {rest : List Oper} {p : Oper} {a : Act} {w : World} {Q : Exit → Act → World → Prop} (hgd : p.guard = none) (s x : Operand)
    (ho : p.op = .call { callee := .builtin .append, args := #[s, x], argTypes := #[64, 64] })
    (Bn : Nat) (M : List (Frm × Value)) (f : Frm) (dv : Value) (v : Value) (hs : a.eval s = v) (hown : OwnF Bn M v w) (hdv : OwnI Bn f.D dv w) (g1 c1 : Nat) (hx : a.eval x = .slice (some ⟨g1, 0, none⟩) 1 c1)
    (h0 : w.cell? ⟨g1, 0, none⟩ = some (.int .i64 f.id)) (h1 : w.cell? ⟨g1, 1, none⟩ = some (.bool f.rm)) (h2 : w.cell? ⟨g1, 2, none⟩ = some (.int .i64 f.ln)) (h3 : w.cell? ⟨g1, 3, none⟩ = some dv) (hsz : M.length ≤ 2000000) (hB : Bn ≤ w.heap.size)
    (h : ∀ av cv w', OwnF Bn (M ++ [(f, dv)]) (.slice av (M.length + 1) cv) w' → w.grownBy w' v.ownBlock → wpList Tryz.prog ops Q rest (a.put p.dst (.slice av (M.length + 1) cv)) w') : wpList Tryz.prog ops Q (p :: rest) a w := by
  obtain ⟨i0, hi, hz0, hz1, hz2⟩ := info_parts infoF
  have hone : dv.oneCell' = true := by
    obtain ⟨ad, c, rfl, _⟩ := hdv.nums
    rfl
  refine wpList_append_own _ hgd s x 64 ho Bn 35 i0 (.agg #[.int .i64 0, .bool false, .int .i64 0, .slice none 0 0]) 4 48 Tryz.underlying64 hi hz0 hz1 hz2 rfl (by decide) v M.length (flatF M) hs hown.1 ⟨g1, 0, none⟩ 1 c1 [.int .i64 f.id, .bool f.rm, .int .i64 f.ln, dv] hx rfl ?_ ?_ ?_ ?_ hB ?_
  · intro j u hu
    match j, hu with
    | 0, hu => simp at hu; subst hu; exact h0
    | 1, hu => simp at hu; subst hu; exact h1
    | 2, hu => simp at hu; subst hu; exact h2
    | 3, hu => simp at hu; subst hu; exact h3
  · intro u hu; simp at hu; rcases hu with rfl | rfl | rfl | rfl <;> first | rfl | exact hone
  · unfold maxLen; omega
  · omega
  · intro v' w' k2 k3 k4
    have hown' : OwnF Bn (M ++ [(f, dv)]) v' w' := by
      refine ⟨?_, fun m hm => ?_⟩
      · rw [flatF_app, List.length_append, List.length_singleton]; exact k2
      · rcases List.mem_append.1 hm with hm | hm
        · exact (hown.2 m hm).kept k3 (OwnI.ne_row hown (hown.2 m hm))
        · simp at hm; subst hm; exact hdv.kept k3 (OwnI.ne_row hown hdv)
    obtain ⟨av, cv, rfl⟩ := hown'.is
    rw [List.length_append, List.length_singleton] at hown'
    simp only [List.length_append, List.length_singleton]
    exact h av cv w' hown' k3

end Go.Proofs.YtnhmecabppaboaaGreat

/- Contracts of the model's copies (l1Copy, l4Copy): the copy's row is its own. -/

set_option linter.unusedSimpArgs false
set_option linter.unusedVariables false
set_option maxRecDepth 20000
namespace Go.Proofs.YtnhmecabppaboaaGreat
open Go.RowKit

/-- 'append' of a list of numbers to an empty row of the call's own. -/
theorem wpList_appL {ops : Array Oper} {rest : List Oper} {p : Oper} {a : Act} {w : World} {Q : Exit → Act → World → Prop} (hgd : p.guard = none) (s x : Operand)
    (ho : p.op = .call { callee := .builtin .append, args := #[s, x], argTypes := #[33, 33] })
    (B : Nat) (D : List Int) (v : Value) (hs : a.eval s = v) (hown : OwnI B [] v w) (ad : Addr) (c : Nat) (hx : a.eval x = .slice (some ad) D.length c) (hd : Nums (some ad) D w)
    (hsz : D.length ≤ 2000000) (hB : B ≤ w.heap.size)
    (h : ∀ av cv w', OwnI B D (.slice av D.length cv) w' → w.grownBy w' v.ownBlock → wpList Tryz.prog ops Q rest (a.put p.dst (.slice av D.length cv)) w') : wpList Tryz.prog ops Q (p :: rest) a w := by
  obtain ⟨i0, hi, hz0, hz1, hz2⟩ := info_parts info64
  refine wpList_append_own _ hgd s x 33 ho B 2 i0 (.int .i64 0) 1 8 Tryz.underlying33 hi hz0 hz1 hz2 rfl (by decide) v 0 [] hs (by simpa using hown.1) ad D.length c (D.map (Value.int .i64)) hx (by simp) ?_ ?_ ?_ ?_ hB ?_
  · intro j u hu
    have hj : j < D.length := by
      have := (List.getElem?_eq_some_iff.1 hu).1
      simpa using this
    obtain ⟨g, o, e, hc⟩ := hd.2.2 j hj
    cases e
    have hadd : (⟨g, o, none⟩ : Addr).add j = ⟨g, o + j, none⟩ := by unfold Addr.add; split <;> simp_all
    rw [hadd, hc, ← hu]
    simp [nth, List.getD_eq_getElem?_getD, List.getElem?_eq_getElem hj]
  · intro u hu
    obtain ⟨z, _, rfl⟩ := List.mem_map.1 hu
    rfl
  · unfold maxLen; omega
  · omega
  · intro v' w' h2 h3 h4
    have hown' : OwnI B D v' w' := ⟨by simpa using h2, hd.2.1⟩
    obtain ⟨av, cv, rfl, _⟩ := hown'.nums
    exact h av cv w' hown' h3

/-- What a copy of a list leaves. -/
def Copied (D : List Int) (w : World) (e : Ending) (w' : World) : Prop :=
  ∃ (av : Option Addr) (cv : Nat), e = .returned (.slice av D.length cv) ∧ OwnI w.heap.size D (.slice av D.length cv) w' ∧ w.grownBy w' none

/-- spec.l1Copy. -/
theorem copyIntsB (a : Option Addr) (D : List Int) (c : Nat) (w : World) (hd : Nums a D w) (h : D.length ≤ 1048576) :
    Calls Tryz.prog 74 #[.slice a D.length c] w (Copied D w) := by
  have own0 := World.ownsRow_made (base := w.heap.size) (e := 2) (size := 1) w #[] 0 (Nat.le_refl _) (Nat.zero_le _) rfl
  cases a with
  | none =>
    have hD : D = [] := by
      cases D with
      | nil => rfl
      | cons x l =>
        obtain ⟨g, o, e, _⟩ := hd.2.2 0 (by simp)
        cases e
    subst hD
    go_enter Tryz.func74, Tryz.ntmps74
    go_wp2_with fail
    go_ret
    exact ⟨some ⟨w.heap.size, 0, none⟩, 0, rfl, ⟨own0, by simp⟩, World.grownBy_alloc w _ none⟩
  | some ad =>
    go_enter Tryz.func74, Tryz.ntmps74
    have hd' := hd.below ((Below.refl _ _).alloc (Nat.le_refl _) (.cells #[] 2))
    go_wp2_with (at_builtin; refine wpList_appL rfl _ _ rfl w.heap.size D _ rfl ⟨own0, by simp⟩ ad c rfl hd' ?c1 ?c2 ?_)
    case c1 => omega
    case c2 => simp
    intro av cv w' own' gr'
    go_wp2_with fail
    go_ret
    refine ⟨av, cv, rfl, own', ?_⟩
    have g0 := World.grownBy_alloc w (.cells #[] 2) none
    exact grown_own g0 gr' (Nat.le_refl _)
theorem copyInts (a : Option Addr) (D : List Int) (c : Nat) (w : World) (hd : Nums a D w) (h : D.length ≤ 1000) :
    Calls Tryz.prog 74 #[.slice a D.length c] w (Copied D w) := copyIntsB a D c w hd (by omega)
/-- spec.l4Copy. -/
theorem copyFrB (id : Int) (rm : Bool) (ln : Int) (a : Option Addr) (D : List Int) (c : Nat) (w : World) (hd : Nums a D w) (h : D.length ≤ 1048576) :
    Calls Tryz.prog 40 #[frV id rm ln a D.length c] w fun e w' =>
      ∃ (av : Option Addr) (cv : Nat), e = .returned (frV id rm ln av D.length cv) ∧ OwnI w.heap.size D (.slice av D.length cv) w' ∧ w.grownBy w' none := by
  go_enter Tryz.func40, Tryz.ntmps40
  have k0 := World.grownBy_alloc w (.cells #[.int .i64 id, .bool rm, .int .i64 ln, .slice a D.length c] 35) none
  have B0 := Bx.made w (.int .i64 id) (.bool rm) (.int .i64 ln) (.slice a D.length c)
  have k1 := World.grownBy_alloc (w.alloc (.cells #[.int .i64 id, .bool rm, .int .i64 ln, .slice a D.length c] 35)) (.cells #[.int .i64 0, .bool false, .int .i64 0, .slice none 0 0] 35) none
  have R0 := Bx.made (w.alloc (.cells #[.int .i64 id, .bool rm, .int .i64 ln, .slice a D.length c] 35)) (.int .i64 0) (.bool false) (.int .i64 0) (.slice none 0 0)
  replace B0 := B0.kept k1 (by simp)
  have G := grown_trans k0 k1
  clear k0 k1
  go_upto_region 1 with fail
  have hsz : (w.alloc (.cells #[.int .i64 id, .bool rm, .int .i64 ln, .slice a D.length c] 35)).heap.size = w.heap.size + 1 := by simp
  rw [hsz] at R0
  clear hsz
  generalize (w.alloc (.cells #[.int .i64 id, .bool rm, .int .i64 ln, .slice a D.length c] 35)).alloc (.cells #[.int .i64 0, .bool false, .int .i64 0, .slice none 0 0] 35) = W at G B0 R0 ⊢
  have hne : w.heap.size ≠ w.heap.size + 1 := by omega
  have hlow : w.heap.size ≤ w.heap.size + 1 := by omega
  generalize w.heap.size + 1 = gr at R0 hne hlow ⊢
  have hd2 := hd.below (below_new G)
  have c3 := B0.c3
  go_wp2_with fail
  refine (copyIntsB _ _ _ _ hd2 h).mono ?_
  rintro e w2 ⟨av, cv, rfl, own, g2⟩
  replace own := own.mono G.size
  replace B0 := B0.kept g2 (by simp)
  replace R0 := R0.kept g2 (by simp)
  replace G := grown_trans G g2
  clear hd2 g2 c3 hd
  have c3 := B0.c3
  have f3 := B0.free 3
  go_upto_region 2 with fail
  have kk := grown_set w2 w.heap.size 3 (.slice av D.length cv)
  replace own := own.kept kk (.inr (own.ne_box B0))
  replace G := grown_own G kk (Nat.le_refl _)
  replace B0 := B0.set3 (.slice av D.length cv)
  replace R0 := R0.kept kk (by simp; omega)
  clear kk c3 f3
  generalize w2.setCell ⟨w.heap.size, 3, none⟩ (.slice av D.length cv) = W3 at own G B0 R0 ⊢
  have r0 := B0.c0
  have r1 := B0.c1
  have r2 := B0.c2
  have r3 := B0.c3
  have y0 := R0.c0
  have y1 := R0.c1
  have y2 := R0.c2
  have y3 := R0.c3
  have q0 := R0.free 0
  have q1 := R0.free 1
  have q2 := R0.free 2
  have q3 := R0.free 3
  go_wp2_with fail
  have k : W3.grownBy ((((W3.setCell ⟨gr, 0, none⟩ (.int .i64 id)).setCell ⟨gr, 1, none⟩ (.bool rm)).setCell ⟨gr, 2, none⟩ (.int .i64 ln)).setCell ⟨gr, 3, none⟩ (.slice av D.length cv)) (some gr) :=
    grown_trans (grown_trans (grown_trans (grown_set _ _ _ _) (grown_set _ _ _ _)) (grown_set _ _ _ _)) (grown_set _ _ _ _)
  have dR := (((R0.set0 (.int .i64 id)).set1 (.bool rm)).set2 (.int .i64 ln)).set3 (.slice av D.length cv)
  have dO := own.kept k (.inr (own.ne_box R0))
  have dG := grown_own G k hlow
  generalize (((W3.setCell ⟨gr, 0, none⟩ (.int .i64 id)).setCell ⟨gr, 1, none⟩ (.bool rm)).setCell ⟨gr, 2, none⟩ (.int .i64 ln)).setCell ⟨gr, 3, none⟩ (.slice av D.length cv) = Wx at dR dO dG ⊢
  have z0 := dR.c0
  have z1 := dR.c1
  have z2 := dR.c2
  have z3 := dR.c3
  exact bodyPost_ret (v := frV id rm ln av D.length cv) (by simp [results, Tryz.results40, go_sem, z0, z1, z2, z3]) rfl ⟨av, cv, rfl, dO, dG⟩
theorem copyFr (id : Int) (rm : Bool) (ln : Int) (a : Option Addr) (D : List Int) (c : Nat) (w : World) (hd : Nums a D w) (h : D.length ≤ 1000) :
    Calls Tryz.prog 40 #[frV id rm ln a D.length c] w fun e w' =>
      ∃ (av : Option Addr) (cv : Nat), e = .returned (frV id rm ln av D.length cv) ∧ OwnI w.heap.size D (.slice av D.length cv) w' ∧ w.grownBy w' none := copyFrB id rm ln a D c w hd (by omega)
end Go.Proofs.YtnhmecabppaboaaGreat
