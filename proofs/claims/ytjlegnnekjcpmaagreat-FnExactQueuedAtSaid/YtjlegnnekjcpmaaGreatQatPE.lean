/- What QueuedAt makes of a bus, plainly; steps that both sides take. -/
import Derived.Test.YtjlegnnekjcpmaaGreatBusSE
import Derived.Test.YtjlegnnekjcpmaaGreatM28
import Derived.Test.YtjlegnnekjcpmaaGreatM26
set_option linter.unusedVariables false
set_option linter.unusedSimpArgs false
set_option maxRecDepth 20000
namespace Go.Proofs.YtjlegnnekjcpmaaGreat
open Go.RowKit

/-- What QueuedAt makes of a bus, plainly. -/
def qatN (N : List Nd) (now node : Int) (f : Frm) : List Nd := if busB N now = true then (if rng node 0 ((N.length : Int) - 1) = true then N.set node.toNat (queA (nthN N node.toNat) f).1 else N) else []
def qatT (N : List Nd) (now : Int) : Int := if busB N now = true then now else 0
def qatK (N : List Nd) (now node : Int) (f : Frm) : Int := if busB N now = true then (if rng node 0 ((N.length : Int) - 1) = true then (queA (nthN N node.toNat) f).2 else 3) else 3

theorem results_bus {fn : Func} {p q : Tmp} (h : fn.results = #[.cell p 29, .tmp q]) (tmps : Array Value) (w : World) (g : Nat) (C : Array Value) (v : Value) (hp : tmps.getD p undef = .pointer (some ⟨g, 0, none⟩)) (hq : tmps.getD q undef = v)
    (hg : w.heap[g]? = some (.cells C 29 (0, 0))) (hC : C.size = 2) : (results fn tmps).run Tryz.prog w = .ok (.tuple #[.agg C, v]) w := by
  have hp' : tmps[p]?.getD undef = .pointer (some ⟨g, 0, none⟩) := by simpa using hp
  have hq' : tmps[q]?.getD undef = v := by simpa using hq
  have hl := run_loadVar_row (P := Tryz.prog) w g 29 29 C (0, 0) _ hg Tryz.underlying29 rfl (by rw [hC]; kernel_rfl)
  simp [results, h, hp', hq', asAddr, hl]
/-- A frame read out of its block. -/
theorem fr_tookI (g : Nat) (f : Frm) (af : Option Addr) (cf : Nat) (w : World) (h : w.heap[g]? = some (.cells (frC f af cf) 50 (0, 0))) {x : Oper} {act : Act} {y : Operand} (ho : x.op = .load 50 y) (hx : act.eval y = .pointer (some ⟨g, 0, none⟩)) : (execOp act.eval x).run Tryz.prog w = .ok (.value (frV f.id f.rm f.ln af f.D.length cf)) w := by
  unfold execOp
  simp only [ho, hx, Instr.loadAt, Instr.sureAddr, Sem.run_bind, Sem.run_pure, Result.andThen_ok, run_loadVar_row w g 50 50 (frC f af cf) (0, 0) _ h Tryz.underlying50 rfl (by kernel_rfl)]
/-- A node goes into a fresh block, in a region that draws its order. -/
theorem h_put {md : Region.Mode} {ops : Array Oper} {Q : Exit → Act → World → Prop} {S : World → Prop} (i g : Nat) {oi : Oper} {fuel : Nat} {listed : Array Bool} {a : Act} {w : World} {n : Nd} {p : NdP} {x y : Operand} {C : Array Value}
    (hi : ops.toList[i]? = some oi) (hd : oi.dst = none) (hr : Region.ready md ops listed = [i]) (hw : Region.wanted oi (yielded ops a.tmps) = true) (ho : oi.op = .store 66 x y) (hx : a.eval x = .pointer (some ⟨g, 0, none⟩)) (hy : a.eval y = ndV n p)
    (hg : w.heap[g]? = some (.cells C 66 (0, 0))) (hC : C.size = 18) (hS : S (w.setRow g (ndC n p)))
    (k : wpAnyH Tryz.prog md ops Q S fuel (listed.setIfInBounds i true) a (w.setRow g (ndC n p))) : wpAnyH Tryz.prog md ops Q S (fuel + 1) listed a w := by
  refine held_op i (op_at hi) hr hw (wp_store_row 66 x y ho g (ndC n p) hx hy 66 C hg (by kernel_rfl) (hC.trans rfl) (ndC_one n p) ⟨hS, ?_⟩)
  rw [hd]
  exact k
theorem set_nth {N : List Nd} {k : Nat} (hk : k < N.length) (n : Nd) (i : Nat) : nthN (N.set k n) i = if i = k then n else nthN N i := by
  simp only [nthN, List.getD_eq_getElem?_getD, List.getElem?_set]
  by_cases e : i = k
  · subst e; simp [hk]
  · rw [if_neg (fun h => e h.symm), if_neg e]
end Go.Proofs.YtjlegnnekjcpmaaGreat

