/- A frame that a call builds up in memory: its box, the row of numbers that it owns, the cursor beside it. No program's walk in it. -/
import Derived.Test.YthhhhfpgmolcmabFok
import Derived.Test.YthhhhfpgmolcmabDrawT
import Derived.Test.YthhhhfpgmolcmabDraws1
import Derived.Laws.OwnMore
namespace Go.Proofs.Ythhhhfpgmolcmab
open Go.RowKit

/-- Block g is a frame. -/
def Bx (g : Nat) (x0 x1 x2 x3 : Value) (w : World) : Prop := w.heap[g]? = some (.cells #[x0, x1, x2, x3] 26 (0, 0))
section
variable {g : Nat} {x0 x1 x2 x3 : Value} {w : World}
theorem Bx.c0 (h : Bx g x0 x1 x2 x3 w) : w.cell? ⟨g, 0, none⟩ = some x0 := cell_of_row w g 0 _ _ _ h
theorem Bx.c1 (h : Bx g x0 x1 x2 x3 w) : w.cell? ⟨g, 1, none⟩ = some x1 := cell_of_row w g 1 _ _ _ h
theorem Bx.c2 (h : Bx g x0 x1 x2 x3 w) : w.cell? ⟨g, 2, none⟩ = some x2 := cell_of_row w g 2 _ _ _ h
theorem Bx.c3 (h : Bx g x0 x1 x2 x3 w) : w.cell? ⟨g, 3, none⟩ = some x3 := cell_of_row w g 3 _ _ _ h
theorem Bx.free (h : Bx g x0 x1 x2 x3 w) (k : Nat) : w.frozen? ⟨g, k, none⟩ = false := frozen_of_row w g k _ _ h
theorem Bx.lt (h : Bx g x0 x1 x2 x3 w) : g < w.heap.size := (Array.getElem?_eq_some_iff.1 h).1
theorem Bx.kept {w' : World} {row : Option Nat} (h : Bx g x0 x1 x2 x3 w) (k : w.grownBy w' row) (hne : some g ≠ row) : Bx g x0 x1 x2 x3 w' := (k.block g h.lt hne).trans h
theorem Bx.made (w : World) (x0 x1 x2 x3 : Value) : Bx w.heap.size x0 x1 x2 x3 (w.alloc (.cells #[x0, x1, x2, x3] 26)) := heap_alloc_new w _
theorem Bx.set0 (h : Bx g x0 x1 x2 x3 w) (y : Value) : Bx g y x1 x2 x3 (w.setCell ⟨g, 0, none⟩ y) := heap_setCell_same w g 0 _ _ y h
theorem Bx.set1 (h : Bx g x0 x1 x2 x3 w) (y : Value) : Bx g x0 y x2 x3 (w.setCell ⟨g, 1, none⟩ y) := heap_setCell_same w g 1 _ _ y h
theorem Bx.set2 (h : Bx g x0 x1 x2 x3 w) (y : Value) : Bx g x0 x1 y x3 (w.setCell ⟨g, 2, none⟩ y) := heap_setCell_same w g 2 _ _ y h
theorem Bx.set3 (h : Bx g x0 x1 x2 x3 w) (y : Value) : Bx g x0 x1 x2 y (w.setCell ⟨g, 3, none⟩ y) := heap_setCell_same w g 3 _ _ y h
end

/-- The slice v, made from block Bn on, holds just the numbers D. -/
def OwnI (Bn : Nat) (D : List Int) (v : Value) (w : World) : Prop := w.ownsRow Bn 2 1 v D.length (D.map (Value.int .i64)) ∧ ∀ x ∈ D, (Lit.int .i64 x).wf = true
section
variable {Bn : Nat} {D : List Int} {v : Value} {w : World}
theorem OwnI.nil (w : World) (Bn : Nat) : OwnI Bn [] (.slice none 0 0) w := ⟨World.ownsRow_nil w Bn _ 1, by simp⟩
theorem OwnI.kept {w' : World} {row : Option Nat} (h : OwnI Bn D v w) (k : w.grownBy w' row) (hne : v.ownBlock = none ∨ v.ownBlock ≠ row) : OwnI Bn D v w' := ⟨h.1.kept k hne, h.2⟩
theorem OwnI.mono {B' : Nat} (h : OwnI Bn D v w) (hb : B' ≤ Bn) : OwnI B' D v w := by
  refine ⟨⟨h.1.1, ?_⟩, h.2⟩
  rcases h.1.2 with k | ⟨g, cap, cur, e, hg, r⟩
  · exact .inl k
  · exact .inr ⟨g, cap, cur, e, Nat.le_trans hb hg, r⟩
theorem OwnI.ne_box {g : Nat} {x0 x1 x2 x3 : Value} (h : OwnI Bn D v w) (k : Bx g x0 x1 x2 x3 w) : v.ownBlock ≠ some g := by
  rcases h.1.2 with ⟨rfl, _⟩ | ⟨g', cap, cur, rfl, _, hg, _⟩
  · simp [Value.ownBlock]
  · intro e
    simp only [Value.ownBlock, Option.some.injEq] at e
    subst e
    rw [show w.heap[g']? = _ from k] at hg
    simp at hg
theorem OwnI.low (h : OwnI Bn D v w) {k : Nat} (hk : v.ownBlock = some k) : Bn ≤ k := (h.1.lt k hk).1
theorem OwnI.nums (h : OwnI Bn D v w) : ∃ a c, v = .slice a D.length c ∧ Nums a D w := by
  rcases h.1.2 with ⟨rfl, hn⟩ | ⟨g, cap, cur, rfl, _, hg, hle, hm, _⟩
  · exact ⟨none, 0, by rw [hn], by rw [hn]; exact Nat.zero_le _, h.2, fun j hj => absurd hj (by omega)⟩
  · refine ⟨some ⟨g, 0, none⟩, cap, rfl, Nat.le_trans hle hm, h.2, fun j hj => ⟨g, 0, rfl, ?_⟩⟩
    rw [Nat.zero_add, h.1.cellAt j (by omega)]
    simp [nth, List.getD_eq_getElem?_getD, List.getElem?_eq_getElem hj]
end

theorem info64 : (Try.prog.info? 2).map (fun i => (i.zero, i.size, i.bytes)) = some (some (.int .i64 0), 1, 8) := by kernel_rfl

/-- 'append' of one number to a row of the call's own: at a step of a region that draws its order. -/
theorem step_appI {ops : Array Oper} {o : Oper} {a : Act} {w : World} {K : Act → World → Prop} {Q : Exit → Act → World → Prop} {E : Prop} (hgd : o.guard = none) (s x : Operand)
    (ho : o.op = .call { callee := .builtin .append, args := #[s, x], argTypes := #[24, 24] })
    (Bn : Nat) (D : List Int) (z : Int) (v : Value) (hs : a.eval s = v) (hown : OwnI Bn D v w) (g1 c1 : Nat) (hx : a.eval x = .slice (some ⟨g1, 0, none⟩) 1 c1) (hcell : w.cell? ⟨g1, 0, none⟩ = some (.int .i64 z))
    (hz : (Lit.int .i64 z).wf = true) (hsz : D.length ≤ 1000000) (hB : Bn ≤ w.heap.size)
    (h : ∀ av cv w', OwnI Bn (D ++ [z]) (.slice av (D.length + 1) cv) w' → w.grownBy w' v.ownBlock → K (a.put o.dst (.slice av (D.length + 1) cv)) w') :
    if Region.wanted o (yielded ops a.tmps) = true then Oper.wp Try.prog o a w K Q else E := by
  have hw : Region.wanted o (yielded ops a.tmps) = true := by simp [Region.wanted, hgd]
  rw [if_pos hw]
  obtain ⟨i0, hi, hz0, hz1, hz2⟩ := info_parts info64
  obtain ⟨v', w', hr, h2, h3, h4⟩ := run_append_own (P := Try.prog) w Bn 24 o.type 2 i0 (.int .i64 0) 1 8 Try.underlying24 hi hz0 hz1 hz2 rfl (by decide)
    v D.length (D.map (Value.int .i64)) hown.1 ⟨g1, 0, none⟩ 1 c1 [.int .i64 z] rfl
    (fun j u hu => by
      match j, hu with
      | 0, hu => simp at hu; subst hu; exact hcell) (fun u hu => by simp at hu; subst hu; rfl) (by unfold maxLen; omega) (by omega) hB
  have hown' : OwnI Bn (D ++ [z]) v' w' := by
    refine ⟨?_, ?_⟩
    · rw [List.length_append, List.length_singleton, List.map_append]; exact h2
    · intro y hy
      rcases List.mem_append.1 hy with hy | hy
      · exact hown.2 y hy
      · simp at hy; subst hy; exact hz
  obtain ⟨av, cv, rfl, _⟩ := hown'.nums
  unfold Oper.wp
  simp [execOp, ho, resolve, invoke, builtin, hs, hx, hr, Result.andThen]
  rw [List.length_append, List.length_singleton] at hown'
  exact h av cv w' hown' h3

/-- What stands while a frame is drawn: the cursor, the result's box, the frame's own box and row. -/
structure FS (w0 : World) (B p : Nat) (a : Option Addr) (len cap : Nat) (gr gf : Nat) (id : Int) (rm : Bool) (ln : Int) (D : List Int) (v : Value) (w : World) : Prop where
  st : St B p a len cap w
  grown : w0.grownBy w (some p)
  res : Bx gr (.int .i64 0) (.bool false) (.int .i64 0) (.slice none 0 0) w
  box : Bx gf (.int .i64 id) (.bool rm) (.int .i64 ln) v w
  own : OwnI w0.heap.size D v w
  pl : p < w0.heap.size
  rl : w0.heap.size ≤ gr
  fl : w0.heap.size ≤ gf
  ne : gr ≠ gf
section
variable {w0 : World} {B p : Nat} {a : Option Addr} {len cap : Nat} {gr gf : Nat} {id : Int} {rm : Bool} {ln : Int} {D : List Int} {v : Value} {w : World}
theorem FS.step {w' : World} (F : FS w0 B p a len cap gr gf id rm ln D v w) (k : w.grownBy w' (some p)) (s : St B p a len cap w') : FS w0 B p a len cap gr gf id rm ln D v w' := by
  have h1 := F.pl; have h2 := F.rl; have h3 := F.fl
  refine ⟨s, grown_trans F.grown k, F.res.kept k (by simp; omega), F.box.kept k (by simp; omega), F.own.kept k (.inr fun e => ?_), h1, h2, h3, F.ne⟩
  have := F.own.low e
  omega
theorem FS.alloc (F : FS w0 B p a len cap gr gf id rm ln D v w) (o : Obj) : FS w0 B p a len cap gr gf id rm ln D v (w.alloc o) := F.step (World.grownBy_alloc w o _) (F.st.alloc o)
theorem FS.drew (F : FS w0 B p a len cap gr gf id rm ln D v w) : FS w0 B p a len cap gr gf id rm ln D v w.drew := F.step (grown_drew (grown_refl w _)) F.st.drew
theorem FS.cell3 (F : FS w0 B p a len cap gr gf id rm ln D v w) : w.cell? ⟨gf, 3, none⟩ = some v := F.box.c3
theorem FS.put {id' : Int} {rm' : Bool} {ln' : Int} (F : FS w0 B p a len cap gr gf id rm ln D v w) (k : Nat) (y : Value) (hb : Bx gf (.int .i64 id') (.bool rm') (.int .i64 ln') v (w.setCell ⟨gf, k, none⟩ y)) : FS w0 B p a len cap gr gf id' rm' ln' D v (w.setCell ⟨gf, k, none⟩ y) := by
  have h1 := F.pl; have h2 := F.rl; have h3 := F.fl
  have kk := grown_set w gf k y
  exact ⟨F.st.step kk (fun j e => by cases e; omega), grown_own F.grown kk h3, F.res.kept kk (by simp; exact F.ne), hb, F.own.kept kk (.inr (F.own.ne_box F.box)), h1, h2, h3, F.ne⟩
theorem FS.putId (F : FS w0 B p a len cap gr gf id rm ln D v w) (n : Int) : FS w0 B p a len cap gr gf n rm ln D v (w.setCell ⟨gf, 0, none⟩ (.int .i64 n)) := F.put 0 _ (F.box.set0 _)
theorem FS.putRm (F : FS w0 B p a len cap gr gf id rm ln D v w) (b : Bool) : FS w0 B p a len cap gr gf id b ln D v (w.setCell ⟨gf, 1, none⟩ (.bool b)) := F.put 1 _ (F.box.set1 _)
theorem FS.putLn (F : FS w0 B p a len cap gr gf id rm ln D v w) (n : Int) : FS w0 B p a len cap gr gf id rm n D v (w.setCell ⟨gf, 2, none⟩ (.int .i64 n)) := F.put 2 _ (F.box.set2 _)
theorem FS.app {D' : List Int} {v' : Value} {w' : World} (F : FS w0 B p a len cap gr gf id rm ln D v w) (own' : OwnI w0.heap.size D' v' w') (k : w.grownBy w' v.ownBlock) : FS w0 B p a len cap gr gf id rm ln D' v' (w'.setCell ⟨gf, 3, none⟩ v') := by
  have h1 := F.pl; have h2 := F.rl; have h3 := F.fl
  have b' := F.box.kept k (F.own.ne_box F.box).symm
  have r' := F.res.kept k (F.own.ne_box F.res).symm
  have gr' : w0.grownBy w' (some p) := by
    cases hv : v.ownBlock with
    | none => rw [hv] at k; exact grown_trans F.grown (grown_some k _)
    | some q => rw [hv] at k; exact grown_own F.grown k (F.own.low hv)
  have st' : St B p a len cap w' := F.st.step k (fun j e => by have := F.own.low e; omega)
  have kk := grown_set w' gf 3 v'
  exact ⟨st'.step kk (fun j e => by cases e; omega), grown_own gr' kk h3, r'.kept kk (by simp; exact F.ne), b'.set3 v', own'.kept kk (.inr (own'.ne_box b')), h1, h2, h3, F.ne⟩
/-- The frame laid in the result's box. -/
theorem FS.done (F : FS w0 B p a len cap gr gf id rm ln D v w) :
    Bx gr (.int .i64 id) (.bool rm) (.int .i64 ln) v ((((w.setCell ⟨gr, 0, none⟩ (.int .i64 id)).setCell ⟨gr, 1, none⟩ (.bool rm)).setCell ⟨gr, 2, none⟩ (.int .i64 ln)).setCell ⟨gr, 3, none⟩ v) ∧
    OwnI w0.heap.size D v ((((w.setCell ⟨gr, 0, none⟩ (.int .i64 id)).setCell ⟨gr, 1, none⟩ (.bool rm)).setCell ⟨gr, 2, none⟩ (.int .i64 ln)).setCell ⟨gr, 3, none⟩ v) ∧
    w0.grownBy ((((w.setCell ⟨gr, 0, none⟩ (.int .i64 id)).setCell ⟨gr, 1, none⟩ (.bool rm)).setCell ⟨gr, 2, none⟩ (.int .i64 ln)).setCell ⟨gr, 3, none⟩ v) (some p) ∧
    St B p a len cap ((((w.setCell ⟨gr, 0, none⟩ (.int .i64 id)).setCell ⟨gr, 1, none⟩ (.bool rm)).setCell ⟨gr, 2, none⟩ (.int .i64 ln)).setCell ⟨gr, 3, none⟩ v) := by
  have h1 := F.pl; have h2 := F.rl
  have k : w.grownBy ((((w.setCell ⟨gr, 0, none⟩ (.int .i64 id)).setCell ⟨gr, 1, none⟩ (.bool rm)).setCell ⟨gr, 2, none⟩ (.int .i64 ln)).setCell ⟨gr, 3, none⟩ v) (some gr) :=
    grown_trans (grown_trans (grown_trans (grown_set _ _ _ _) (grown_set _ _ _ _)) (grown_set _ _ _ _)) (grown_set _ _ _ _)
  exact ⟨(((F.res.set0 _).set1 _).set2 _).set3 _, F.own.kept k (.inr (F.own.ne_box F.res)), grown_own F.grown k h2, F.st.step k (fun j e => by cases e; omega)⟩
end
end Go.Proofs.Ythhhhfpgmolcmab
