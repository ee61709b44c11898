/- The walk of laws.FnExactReadFrame. -/
import Derived.Test.YtcciabalbdnakaaDoorRead
import Derived.Test.YtcciabalbdnakaaDoorReadI
import Derived.Test.YtcciabalbdnakaaDoorMark
import Derived.Test.YtcciabalbdnakaaDoorLiftF
set_option linter.unusedVariables false
set_option linter.unusedSimpArgs false
set_option maxRecDepth 20000
namespace Go.Proofs.YtcciabalbdnakaaDoor
open Go.RowKit

theorem OwnI.below {Bn : Nat} {D : List Int} {v : Value} {w w' : World} (h : OwnI Bn D v w) (b : Below w.heap.size w w') : OwnI Bn D v w' := h.kept (grown_of_below b) (Classical.em _)
theorem Bx.below {g : Nat} {x0 x1 x2 x3 : Value} {w w' : World} (h : Bx g x0 x1 x2 x3 w) (b : Below w.heap.size w w') : Bx g x0 x1 x2 x3 w' := (b.block g h.lt).trans h
theorem OwnI.nums' {Bn : Nat} {D : List Int} {a : Option Addr} {n c : Nat} {w : World} (h : OwnI Bn D (.slice a n c) w) : Nums a D w := by
  obtain ⟨a', c', e, hn⟩ := h.nums
  simp only [Value.slice.injEq] at e
  obtain ⟨rfl, _, _⟩ := e
  exact hn
theorem own_apart {v : Value} {row : Option Nat} {B : Nat} (lo : ∀ q, v.ownBlock = some q → q < B) (hi : ∀ q, row = some q → B ≤ q) : v.ownBlock = none ∨ v.ownBlock ≠ row := by
  cases hq : v.ownBlock with
  | none => exact .inl rfl
  | some q => exact .inr fun e => by have h1 := lo q hq; have h2 := hi q e.symm; omega
theorem rdD_len (s : ByteArray) : (rdD s).length ≤ 100 := by
  by_cases h : rdCode s = 0
  · rw [(rd_yes h).2.2.2, readD_len]
    have h2 := (rd_of_0 h).2.1
    have := needV_bd s
    omega
  · rw [(rd_not h).2.2.2]; decide

/-- What a reading answers, by the names of its parts. -/
def Got (id : Int) (rm : Bool) (ln : Int) (D : List Int) (cd : Int) (w : World) (e : Ending) (w' : World) : Prop :=
  ∃ a c, e = .returned (.tuple #[.agg #[.int .i64 id, .bool rm, .int .i64 ln, .slice a D.length c], .int .i64 cd]) ∧ OwnI w.heap.size D (.slice a D.length c) w' ∧ Below w.heap.size w w'
theorem got_of {s : ByteArray} {id ln cd : Int} {rm : Bool} {D : List Int} (hid : rdId s = id) (hrm : rdRm s = rm) (hln : rdLn s = ln) (hdd : rdD s = D) (hcc : rdCode s = cd) {w w' : World} {e : Ending} (h : ReadR s w e w') : Got id rm ln D cd w e w' := by
  obtain ⟨v, rfl, O, b⟩ := h
  obtain ⟨a, c, rfl, -⟩ := O.nums
  subst hid hrm hln hdd hcc
  exact ⟨a, c, rfl, O, b⟩

end Go.Proofs.YtcciabalbdnakaaDoor
