/- What stands while a frame is read, and 'append' of one number outside a drawn region. No program's walk in it. -/
import Derived.Test.YtngcekegngmedaaGreatM14
import Derived.Test.YtngcekegngmedaaGreatM8
import Derived.Lib.AppendStr

set_option linter.unusedVariables false
set_option maxRecDepth 20000
namespace Go.Proofs.YtngcekegngmedaaGreat
open Go.RowKit

/-- 'append' of one number to a row of the call's own. -/
theorem wpList_appI {ops : Array Oper} {rest : List Oper} {p : Oper} {a : Act} {w : World} {Q : Exit → Act → World → Prop} (hgd : p.guard = none) (s x : Operand)
    (ho : p.op = .call { callee := .builtin .append, args := #[s, x], argTypes := #[38, 38] })
    (Bn : Nat) (D : List Int) (z : Int) (v : Value) (hs : a.eval s = v) (hown : OwnI Bn D v w) (g1 c1 : Nat) (hx : a.eval x = .slice (some ⟨g1, 0, none⟩) 1 c1) (hcell : w.cell? ⟨g1, 0, none⟩ = some (.int .i64 z))
    (hz : (Lit.int .i64 z).wf = true) (hsz : D.length ≤ 1000000) (hB : Bn ≤ w.heap.size)
    (h : ∀ av cv w', OwnI Bn (D ++ [z]) (.slice av (D.length + 1) cv) w' → w.grownBy w' v.ownBlock → wpList Tryz.prog ops Q rest (a.put p.dst (.slice av (D.length + 1) cv)) w') : wpList Tryz.prog ops Q (p :: rest) a w := by
  obtain ⟨i0, hi, hz0, hz1, hz2⟩ := info_parts info64
  refine wpList_append_own _ hgd s x 38 ho Bn 2 i0 (.int .i64 0) 1 8 Tryz.underlying38 hi hz0 hz1 hz2 rfl (by decide) v D.length (D.map (Value.int .i64)) hs hown.1 ⟨g1, 0, none⟩ 1 c1 [.int .i64 z] hx rfl ?_ ?_ ?_ ?_ hB ?_
  · intro j u hu
    match j, hu with
    | 0, hu => simp at hu; subst hu; exact hcell
  · intro u hu; simp at hu; subst hu; rfl
  · unfold maxLen; omega
  · omega
  · intro v' w' h2 h3 h4
    have hown' : OwnI Bn (D ++ [z]) v' w' := by
      refine ⟨?_, ?_⟩
      · rw [List.length_append, List.length_singleton, List.map_append]; exact h2
      · intro y hy
        rcases List.mem_append.1 hy with hy | hy
        · exact hown.2 y hy
        · simp at hy; subst hy; exact hz
    obtain ⟨av, cv, rfl, _⟩ := hown'.nums
    rw [List.length_append, List.length_singleton] at hown'
    simp only [List.length_append, List.length_singleton]
    exact h av cv w' hown' h3

/-- What a reading of a frame answers. -/
def ReadR (s : ByteArray) (w : World) (e : Ending) (w' : World) : Prop :=
  ∃ v, e = .returned (.tuple #[.agg #[.int .i64 (rdId s), .bool (rdRm s), .int .i64 (rdLn s), v], .int .i64 (rdCode s)]) ∧ OwnI w.heap.size (rdD s) v w' ∧ Below w.heap.size w w'

section
variable {w0 w W : World} {gr gf : Nat} {id ln : Int} {rm : Bool} {D : List Int} {v : Value}
/-- Zeros laid in a box of zeros. -/
theorem zero_laid (G : w0.grownBy w none) (R : Bx gr (.int .i64 0) (.bool false) (.int .i64 0) (.slice none 0 0) w) (hl : w0.heap.size ≤ gr)
    (hW : W = (((w.setCell ⟨gr, 0, none⟩ (.int .i64 0)).setCell ⟨gr, 1, none⟩ (.bool false)).setCell ⟨gr, 2, none⟩ (.int .i64 0)).setCell ⟨gr, 3, none⟩ (.slice none 0 0)) :
    Bx gr (.int .i64 0) (.bool false) (.int .i64 0) (.slice none 0 0) W ∧ Below w0.heap.size w0 W := by
  subst hW
  have ka := grown_trans (grown_trans (grown_trans (grown_set w gr 0 (.int .i64 0)) (grown_set _ gr 1 (.bool false))) (grown_set _ gr 2 (.int .i64 0))) (grown_set _ gr 3 (.slice none 0 0))
  exact ⟨(((R.set0 (.int .i64 0)).set1 (.bool false)).set2 (.int .i64 0)).set3 (.slice none 0 0), below_of_grown (grown_own G ka hl) (Nat.le_refl _) (fun _ e => by cases e)⟩

/-- The frame that is being read: the result's box, its own, its row. -/
structure RS (w0 : World) (gr gf : Nat) (id : Int) (rm : Bool) (ln : Int) (D : List Int) (v : Value) (w : World) : Prop where
  grown : w0.grownBy w none
  res : Bx gr (.int .i64 0) (.bool false) (.int .i64 0) (.slice none 0 0) w
  box : Bx gf (.int .i64 id) (.bool rm) (.int .i64 ln) v w
  own : OwnI w0.heap.size D v w
  rl : w0.heap.size ≤ gr
  fl : w0.heap.size ≤ gf
  ne : gr ≠ gf
theorem RS.step {w' : World} (F : RS w0 gr gf id rm ln D v w) (k : w.grownBy w' none) : RS w0 gr gf id rm ln D v w' :=
  ⟨grown_trans F.grown k, F.res.kept k (by simp), F.box.kept k (by simp), F.own.kept k (Classical.em _), F.rl, F.fl, F.ne⟩
theorem RS.alloc (F : RS w0 gr gf id rm ln D v w) (o : Obj) : RS w0 gr gf id rm ln D v (w.alloc o) := F.step (World.grownBy_alloc w o _)
theorem RS.put {id' : Int} {rm' : Bool} {ln' : Int} (F : RS w0 gr gf id rm ln D v w) (k : Nat) (y : Value) (hb : Bx gf (.int .i64 id') (.bool rm') (.int .i64 ln') v (w.setCell ⟨gf, k, none⟩ y)) : RS w0 gr gf id' rm' ln' D v (w.setCell ⟨gf, k, none⟩ y) := by
  have kk := grown_set w gf k y
  exact ⟨grown_own F.grown kk F.fl, F.res.kept kk (by simp; exact F.ne), hb, F.own.kept kk (.inr (F.own.ne_box F.box)), F.rl, F.fl, F.ne⟩
theorem RS.putId (F : RS w0 gr gf id rm ln D v w) (n : Int) : RS w0 gr gf n rm ln D v (w.setCell ⟨gf, 0, none⟩ (.int .i64 n)) := F.put 0 _ (F.box.set0 _)
theorem RS.putRm (F : RS w0 gr gf id rm ln D v w) (b : Bool) : RS w0 gr gf id b ln D v (w.setCell ⟨gf, 1, none⟩ (.bool b)) := F.put 1 _ (F.box.set1 _)
theorem RS.putLn (F : RS w0 gr gf id rm ln D v w) (n : Int) : RS w0 gr gf id rm n D v (w.setCell ⟨gf, 2, none⟩ (.int .i64 n)) := F.put 2 _ (F.box.set2 _)
theorem RS.app {D' : List Int} {v' : Value} {w' : World} (F : RS w0 gr gf id rm ln D v w) (own' : OwnI w0.heap.size D' v' w') (k : w.grownBy w' v.ownBlock) : RS w0 gr gf id rm ln D' v' (w'.setCell ⟨gf, 3, none⟩ v') := by
  have b' := F.box.kept k (F.own.ne_box F.box).symm
  have r' := F.res.kept k (F.own.ne_box F.res).symm
  have gr' : w0.grownBy w' none := by
    cases hv : v.ownBlock with
    | none => rw [hv] at k; exact grown_trans F.grown k
    | some q => rw [hv] at k; exact grown_own F.grown k (F.own.low hv)
  have kk := grown_set w' gf 3 v'
  exact ⟨grown_own gr' kk F.fl, r'.kept kk (by simp; exact F.ne), b'.set3 v', own'.kept kk (.inr (own'.ne_box b')), F.rl, F.fl, F.ne⟩
/-- The frame laid in the result's box. -/
theorem RS.done (F : RS w0 gr gf id rm ln D v w)
    (hW : W = (((w.setCell ⟨gr, 0, none⟩ (.int .i64 id)).setCell ⟨gr, 1, none⟩ (.bool rm)).setCell ⟨gr, 2, none⟩ (.int .i64 ln)).setCell ⟨gr, 3, none⟩ v) :
    Bx gr (.int .i64 id) (.bool rm) (.int .i64 ln) v W ∧ OwnI w0.heap.size D v W ∧ Below w0.heap.size w0 W := by
  subst hW
  have k : w.grownBy ((((w.setCell ⟨gr, 0, none⟩ (.int .i64 id)).setCell ⟨gr, 1, none⟩ (.bool rm)).setCell ⟨gr, 2, none⟩ (.int .i64 ln)).setCell ⟨gr, 3, none⟩ v) (some gr) :=
    grown_trans (grown_trans (grown_trans (grown_set _ _ _ _) (grown_set _ _ _ _)) (grown_set _ _ _ _)) (grown_set _ _ _ _)
  exact ⟨(((F.res.set0 _).set1 _).set2 _).set3 _, F.own.kept k (.inr (F.own.ne_box F.res)), below_of_grown (grown_own F.grown k F.rl) (Nat.le_refl _) (fun _ e => by cases e)⟩
end
end Go.Proofs.YtngcekegngmedaaGreat
