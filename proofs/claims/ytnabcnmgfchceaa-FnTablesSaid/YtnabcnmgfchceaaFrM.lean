/- A frame that a call builds up in memory: its box, the row of numbers that it owns, the cursor beside it. No program's walk in it. -/
import Derived.Test.YtnabcnmgfchceaaFok
import Derived.Test.YtnabcnmgfchceaaDrawT
import Derived.Test.YtnabcnmgfchceaaDraws1
import Derived.Laws.OwnMore
namespace Go.Proofs.Ytnabcnmgfchceaa
open Go.RowKit

section
variable {g : Nat} {x0 x1 x2 x3 : Value} {w : World}
end

/-- The slice v, made from block Bn on, holds just the numbers D. -/
def OwnI (Bn : Nat) (D : List Int) (v : Value) (w : World) : Prop := w.ownsRow Bn 2 1 v D.length (D.map (Value.int .i64)) ∧ ∀ x ∈ D, (Lit.int .i64 x).wf = true
section
variable {Bn : Nat} {D : List Int} {v : Value} {w : World}
theorem OwnI.nil (w : World) (Bn : Nat) : OwnI Bn [] (.slice none 0 0) w := ⟨World.ownsRow_nil w Bn _ 1, by simp⟩
theorem OwnI.kept {w' : World} {row : Option Nat} (h : OwnI Bn D v w) (k : w.grownBy w' row) (hne : v.ownBlock = none ∨ v.ownBlock ≠ row) : OwnI Bn D v w' := ⟨h.1.kept k hne, h.2⟩
theorem OwnI.mono {B' : Nat} (h : OwnI Bn D v w) (hb : B' ≤ Bn) : OwnI B' D v w := by
  refine ⟨⟨h.1.1, ?_⟩, h.2⟩
  rcases h.1.2 with k | ⟨g, cap, cur, e, hg, r⟩
  · exact .inl k
  · exact .inr ⟨g, cap, cur, e, Nat.le_trans hb hg, r⟩
theorem OwnI.low (h : OwnI Bn D v w) {k : Nat} (hk : v.ownBlock = some k) : Bn ≤ k := (h.1.lt k hk).1
theorem OwnI.nums (h : OwnI Bn D v w) : ∃ a c, v = .slice a D.length c ∧ Nums a D w := by
  rcases h.1.2 with ⟨rfl, hn⟩ | ⟨g, cap, cur, rfl, _, hg, hle, hm, _⟩
  · exact ⟨none, 0, by rw [hn], by rw [hn]; exact Nat.zero_le _, h.2, fun j hj => absurd hj (by omega)⟩
  · refine ⟨some ⟨g, 0, none⟩, cap, rfl, Nat.le_trans hle hm, h.2, fun j hj => ⟨g, 0, rfl, ?_⟩⟩
    rw [Nat.zero_add, h.1.cellAt j (by omega)]
    simp [nth, List.getD_eq_getElem?_getD, List.getElem?_eq_getElem hj]
end

theorem info64 : (Try.prog.info? 2).map (fun i => (i.zero, i.size, i.bytes)) = some (some (.int .i64 0), 1, 8) := by kernel_rfl

/-- 'append' of one number to a row of the call's own: at a step of a region that draws its order. -/
theorem step_appI {ops : Array Oper} {o : Oper} {a : Act} {w : World} {K : Act → World → Prop} {Q : Exit → Act → World → Prop} {E : Prop} (hgd : o.guard = none) (s x : Operand)
    (ho : o.op = .call { callee := .builtin .append, args := #[s, x], argTypes := #[29, 29] })
    (Bn : Nat) (D : List Int) (z : Int) (v : Value) (hs : a.eval s = v) (hown : OwnI Bn D v w) (g1 c1 : Nat) (hx : a.eval x = .slice (some ⟨g1, 0, none⟩) 1 c1) (hcell : w.cell? ⟨g1, 0, none⟩ = some (.int .i64 z))
    (hz : (Lit.int .i64 z).wf = true) (hsz : D.length ≤ 1000000) (hB : Bn ≤ w.heap.size)
    (h : ∀ av cv w', OwnI Bn (D ++ [z]) (.slice av (D.length + 1) cv) w' → w.grownBy w' v.ownBlock → K (a.put o.dst (.slice av (D.length + 1) cv)) w') :
    if Region.wanted o (yielded ops a.tmps) = true then Oper.wp Try.prog o a w K Q else E := by
  have hw : Region.wanted o (yielded ops a.tmps) = true := by simp [Region.wanted, hgd]
  rw [if_pos hw]
  obtain ⟨i0, hi, hz0, hz1, hz2⟩ := info_parts info64
  obtain ⟨v', w', hr, h2, h3, h4⟩ := run_append_own (P := Try.prog) w Bn 29 o.type 2 i0 (.int .i64 0) 1 8 Try.underlying29 hi hz0 hz1 hz2 rfl (by decide)
    v D.length (D.map (Value.int .i64)) hown.1 ⟨g1, 0, none⟩ 1 c1 [.int .i64 z] rfl
    (fun j u hu => by
      match j, hu with
      | 0, hu => simp at hu; subst hu; exact hcell) (fun u hu => by simp at hu; subst hu; rfl) (by unfold maxLen; omega) (by omega) hB
  have hown' : OwnI Bn (D ++ [z]) v' w' := by
    refine ⟨?_, ?_⟩
    · rw [List.length_append, List.length_singleton, List.map_append]; exact h2
    · intro y hy
      rcases List.mem_append.1 hy with hy | hy
      · exact hown.2 y hy
      · simp at hy; subst hy; exact hz
  obtain ⟨av, cv, rfl, _⟩ := hown'.nums
  unfold Oper.wp
  simp [execOp, ho, resolve, invoke, builtin, hs, hx, hr, Result.andThen]
  rw [List.length_append, List.length_singleton] at hown'
  exact h av cv w' hown' h3

/-- 'append' of one number to a row of the call's own. -/
theorem wpList_appI {ops : Array Oper} {rest : List Oper} {p : Oper} {a : Act} {w : World} {Q : Exit → Act → World → Prop} (hgd : p.guard = none) (s x : Operand)
    (ho : p.op = .call { callee := .builtin .append, args := #[s, x], argTypes := #[29, 29] })
    (Bn : Nat) (D : List Int) (z : Int) (v : Value) (hs : a.eval s = v) (hown : OwnI Bn D v w) (g1 c1 : Nat) (hx : a.eval x = .slice (some ⟨g1, 0, none⟩) 1 c1) (hcell : w.cell? ⟨g1, 0, none⟩ = some (.int .i64 z))
    (hz : (Lit.int .i64 z).wf = true) (hsz : D.length ≤ 1000000) (hB : Bn ≤ w.heap.size)
    (h : ∀ av cv w', OwnI Bn (D ++ [z]) (.slice av (D.length + 1) cv) w' → w.grownBy w' v.ownBlock → wpList Try.prog ops Q rest (a.put p.dst (.slice av (D.length + 1) cv)) w') : wpList Try.prog ops Q (p :: rest) a w := by
  obtain ⟨i0, hi, hz0, hz1, hz2⟩ := info_parts info64
  refine wpList_append_own _ hgd s x 29 ho Bn 2 i0 (.int .i64 0) 1 8 Try.underlying29 hi hz0 hz1 hz2 rfl (by decide) v D.length (D.map (Value.int .i64)) hs hown.1 ⟨g1, 0, none⟩ 1 c1 [.int .i64 z] hx rfl ?_ ?_ ?_ ?_ hB ?_
  · intro j u hu
    match j, hu with
    | 0, hu => simp at hu; subst hu; exact hcell
  · intro u hu; simp at hu; subst hu; rfl
  · unfold maxLen; omega
  · omega
  · intro v' w' h2 h3 h4
    have hown' : OwnI Bn (D ++ [z]) v' w' := by
      refine ⟨?_, ?_⟩
      · rw [List.length_append, List.length_singleton, List.map_append]; exact h2
      · intro y hy
        rcases List.mem_append.1 hy with hy | hy
        · exact hown.2 y hy
        · simp at hy; subst hy; exact hz
    obtain ⟨av, cv, rfl, _⟩ := hown'.nums
    rw [List.length_append, List.length_singleton] at hown'
    simp only [List.length_append, List.length_singleton]
    exact h av cv w' hown' h3

section
variable {w0 : World} {B p : Nat} {a : Option Addr} {len cap : Nat} {gr gf : Nat} {id : Int} {rm : Bool} {ln : Int} {D : List Int} {v : Value} {w : World}
end
end Go.Proofs.Ytnabcnmgfchceaa
