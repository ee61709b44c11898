/- Contracts of the model's draws of frames (l4Draw, l4DrawAny): each answers some frame whose row is its own, and writes into nothing that was there but the cursor. -/
import Derived.Test.YtnabcnmgfchceaaFrM
import Derived.Deep.RegionLaw
import Derived.Deep.CutRange
set_option linter.unusedSimpArgs false
set_option linter.unusedVariables false
namespace Go.Proofs.Ytnabcnmgfchceaa
open Go.RowKit

/-- What a draw of a frame leaves. -/
def Drawn (B p : Nat) (a : Option Addr) (len cap : Nat) (N : Nat) (w : World) (e : Ending) (w' : World) : Prop :=
  ∃ (id : Int) (rm : Bool) (ln : Int) (D : List Int) (v : Value), e = .returned (.agg #[.int .i64 id, .bool rm, .int .i64 ln, v]) ∧ OwnI w.heap.size D v w' ∧ D.length ≤ N ∧ (Lit.int .i64 id).wf = true ∧ (Lit.int .i64 ln).wf = true ∧ w.grownBy w' (some p) ∧ St B p a len cap w'

/-- What a draw of a right frame leaves. -/
def DrawnOk (B p : Nat) (a : Option Addr) (len cap : Nat) (w : World) (e : Ending) (w' : World) : Prop :=
  ∃ (id : Int) (rm : Bool) (ln : Int) (D : List Int) (v : Value), e = .returned (.agg #[.int .i64 id, .bool rm, .int .i64 ln, v]) ∧ OwnI w.heap.size D v w' ∧ frOk id rm ln D = true ∧ w.grownBy w' (some p) ∧ St B p a len cap w'
theorem DrawnOk.drawn {B p : Nat} {a : Option Addr} {len cap : Nat} {w w' : World} {e : Ending} (h : DrawnOk B p a len cap w e w') : Drawn B p a len cap 8 w e w' := by
  obtain ⟨id, rm, ln, D, v, he, o, hok, g, s⟩ := h
  simp only [frOk, inR, Bool.and_eq_true, decide_eq_true_eq] at hok
  obtain ⟨⟨⟨⟨⟨h0, h1⟩, h2⟩, h3⟩, h4⟩, _⟩ := hok
  exact ⟨id, rm, ln, D, v, he, o, by split at h4 <;> omega, Go.WalkArith.wf_i64 ⟨by omega, by omega⟩, Go.WalkArith.wf_i64 ⟨by omega, by omega⟩, g, s⟩
end Go.Proofs.Ytnabcnmgfchceaa
