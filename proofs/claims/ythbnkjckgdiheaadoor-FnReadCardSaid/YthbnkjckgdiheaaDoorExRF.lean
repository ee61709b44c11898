/- The walk of laws.FnExactReadFrame. -/
import Derived.Test.YthbnkjckgdiheaaDoorRead
import Derived.Test.YthbnkjckgdiheaaDoorReadI
import Derived.Test.YthbnkjckgdiheaaDoorMark
import Derived.Test.YthbnkjckgdiheaaDoorLiftF
set_option linter.unusedVariables false
set_option linter.unusedSimpArgs false
set_option maxRecDepth 20000
namespace Go.Proofs.YthbnkjckgdiheaaDoor
open Go.RowKit

theorem OwnI.below {Bn : Nat} {D : List Int} {v : Value} {w w' : World} (h : OwnI Bn D v w) (b : Below w.heap.size w w') : OwnI Bn D v w' := h.kept (grown_of_below b) (Classical.em _)
theorem Bx.below {g : Nat} {x0 x1 x2 x3 : Value} {w w' : World} (h : Bx g x0 x1 x2 x3 w) (b : Below w.heap.size w w') : Bx g x0 x1 x2 x3 w' := (b.block g h.lt).trans h
theorem OwnI.nums' {Bn : Nat} {D : List Int} {a : Option Addr} {n c : Nat} {w : World} (h : OwnI Bn D (.slice a n c) w) : Nums a D w := by
  obtain ⟨a', c', e, hn⟩ := h.nums
  simp only [Value.slice.injEq] at e
  obtain ⟨rfl, _, _⟩ := e
  exact hn
theorem own_apart {v : Value} {row : Option Nat} {B : Nat} (lo : ∀ q, v.ownBlock = some q → q < B) (hi : ∀ q, row = some q → B ≤ q) : v.ownBlock = none ∨ v.ownBlock ≠ row := by
  cases hq : v.ownBlock with
  | none => exact .inl rfl
  | some q => exact .inr fun e => by have h1 := lo q hq; have h2 := hi q e.symm; omega
theorem rdD_len (s : ByteArray) : (rdD s).length ≤ 100 := by
  by_cases h : rdCode s = 0
  · rw [(rd_yes h).2.2.2, readD_len]
    have h2 := (rd_of_0 h).2.1
    have := needV_bd s
    omega
  · rw [(rd_not h).2.2.2]; decide

/-- What a reading answers, by the names of its parts. -/
def Got (id : Int) (rm : Bool) (ln : Int) (D : List Int) (cd : Int) (w : World) (e : Ending) (w' : World) : Prop :=
  ∃ a c, e = .returned (.tuple #[.agg #[.int .i64 id, .bool rm, .int .i64 ln, .slice a D.length c], .int .i64 cd]) ∧ OwnI w.heap.size D (.slice a D.length c) w' ∧ Below w.heap.size w w'
theorem got_of {s : ByteArray} {id ln cd : Int} {rm : Bool} {D : List Int} (hid : rdId s = id) (hrm : rdRm s = rm) (hln : rdLn s = ln) (hdd : rdD s = D) (hcc : rdCode s = cd) {w w' : World} {e : Ending} (h : ReadR s w e w') : Got id rm ln D cd w e w' := by
  obtain ⟨v, rfl, O, b⟩ := h
  obtain ⟨a, c, rfl, -⟩ := O.nums
  subst hid hrm hln hdd hcc
  exact ⟨a, c, rfl, O, b⟩

set_option maxHeartbeats 4000000 in
theorem walkFnExactReadFrame (s : ByteArray) (w : World) (hs : s.size ≤ maxLen) (hg : ErrHeld w) :
    Calls Tryd.prog 4 #[.string s] w fun e w' => e = .returned (.bool true) ∧ Below w.heap.size w w' := by
  have hs' := hs
  unfold maxLen at hs'
  have hD := rdD_len s
  obtain ⟨id, hid⟩ : ∃ id, rdId s = id := ⟨_, rfl⟩
  obtain ⟨rm, hrm⟩ : ∃ rm, rdRm s = rm := ⟨_, rfl⟩
  obtain ⟨ln, hln⟩ : ∃ ln, rdLn s = ln := ⟨_, rfl⟩
  obtain ⟨D, hdd⟩ : ∃ D, rdD s = D := ⟨_, rfl⟩
  obtain ⟨cd, hcc⟩ : ∃ cd, rdCode s = cd := ⟨_, rfl⟩
  rw [hdd] at hD
  have HG := Lib.hid (fun w w' e => got_of (w := w) (w' := w') (e := e) hid hrm hln hdd hcc)
  clear hid hrm hln hdd hcc
  go_enter Tryd.func4, Tryd.ntmps4
  go_wp2_with fail
  · go_ret
    exact ⟨rfl, Below.refl _ _⟩
  refine (specRead s _ hs).mono ?_
  intro e w1 h
  obtain ⟨a0, c0, rfl, O0, b0⟩ := HG.out _ _ _ h
  clear h
  replace hg := hg.below b0
  go_upto_region 4 with fail
  have X3 := Bx.made w1 (.int .i64 id) (.bool rm) (.int .i64 ln) (.slice a0 D.length c0)
  have k3 : Below w1.heap.size w1 (w1.alloc (.cells #[.int .i64 id, .bool rm, .int .i64 ln, .slice a0 D.length c0] 26)) := (Below.refl _ _).alloc (Nat.le_refl _) _
  replace hg := hg.below k3
  replace O0 := O0.below k3
  replace b0 := b0.trans (k3.mono b0.size)
  clear k3
  generalize w1.alloc (.cells #[.int .i64 id, .bool rm, .int .i64 ln, .slice a0 D.length c0] 26) = W1 at *
  generalize w1.heap.size = g3 at *
  clear w1
  have lo : ∀ q, (Value.slice a0 D.length c0).ownBlock = some q → q < W1.heap.size := fun q hq => (O0.1.lt q hq).2
  have hB1 := b0.size
  have x3lt := X3.lt
  have hgb : 0 < W1.heap.size := World.block_lt_of_cell? W1 _ hg
  go_wp2_with fail
  refine (implRead s _ hs hg).mono ?_
  intro e w1 h
  obtain ⟨a1, c1, rfl, O1, b1⟩ := HG.out _ _ _ h
  clear h
  replace hg := hg.below b1
  replace O0 := O0.below b1
  replace X3 := X3.below b1
  replace b0 := b0.trans (b1.mono b0.size)
  clear b1
  generalize W1.heap.size = B1 at *
  clear W1
  go_upto_region 5 with fail
  have X5 := Bx.made w1 (.int .i64 id) (.bool rm) (.int .i64 ln) (.slice a1 D.length c1)
  have k3 : Below w1.heap.size w1 (w1.alloc (.cells #[.int .i64 id, .bool rm, .int .i64 ln, .slice a1 D.length c1] 26)) := (Below.refl _ _).alloc (Nat.le_refl _) _
  replace hg := hg.below k3
  replace O0 := O0.below k3
  replace O1 := O1.below k3
  have hne : g3 ≠ w1.heap.size := by have := X3.lt; omega
  replace X3 := X3.below k3
  replace b0 := b0.trans (k3.mono b0.size)
  clear k3
  generalize w1.alloc (.cells #[.int .i64 id, .bool rm, .int .i64 ln, .slice a1 D.length c1] 26) = W1 at *
  generalize w1.heap.size = g5 at *
  clear w1
  have n0 := O0.nums'
  have n1 := O1.nums'
  have x0 := X3.c0
  have x1 := X3.c1
  have x2 := X3.c2
  have x3 := X3.c3
  have y0 := X5.c0
  have y1 := X5.c1
  have y2 := X5.c2
  have y3 := X5.c3
  go_wp2_with fail
  refine (eqFr id rm ln a1 a0 D c1 c0 _ n1 n0).mono ?_
  rintro e w2 ⟨rfl, b2⟩
  replace hg := hg.below b2
  replace O0 := O0.below b2
  replace O1 := O1.below b2
  replace X3 := X3.below b2
  replace X5 := X5.below b2
  replace b0 := b0.trans (b2.mono b0.size)
  clear b2 n0 n1 x0 x1 x2 x3 y0 y1 y2 y3 W1
  have y0 := X5.c0
  have y1 := X5.c1
  have y2 := X5.c2
  have y3 := X5.c3
  go_wp2_with fail
  refine (markFr B1 id rm ln D a1 c1 1 _ O1 (by omega) (by omega) (by omega)).mono ?_
  rintro e w3 ⟨rfl, P1, k1⟩
  replace hg : ErrHeld w3 := k1.cell hg (fun e => by have := (O1.1.lt _ e.symm).1; simp at this; omega)
  replace X3 := X3.kept k1 (O1.ne_box X3).symm
  replace X5 := X5.kept k1 (O1.ne_box X5).symm
  replace O0 := O0.kept k1 (own_apart lo fun q hq => (O1.1.lt q hq).1)
  replace b0 := b0.grown k1 b0.size (fun q hq => by have := (O1.1.lt q hq).1; omega)
  clear k1 O1 y0 y1 y2 y3 w2
  have y0 := X5.c0
  have y1 := X5.c1
  have y2 := X5.c2
  have y3 := X5.c3
  have n1 := P1.nums'
  go_wp2_with fail
  refine (heldFr id rm ln a1 D.length c1 1 _ n1 (by omega) (by omega) (by omega)).mono ?_
  rintro e w4 ⟨rfl, b2⟩
  replace hg := hg.below b2
  replace O0 := O0.below b2
  replace P1 := P1.below b2
  replace X3 := X3.below b2
  replace X5 := X5.below b2
  replace b0 := b0.trans (b2.mono b0.size)
  clear b2 n1 y0 y1 y2 y3 w3
  go_wp2_with fail
  refine (implRead s _ hs hg).mono ?_
  intro e w1 h
  obtain ⟨a2, c2, rfl, O2, b1⟩ := HG.out _ _ _ h
  clear h
  replace hg := hg.below b1
  replace O0 := O0.below b1
  replace P1 := P1.below b1
  replace X3 := X3.below b1
  replace X5 := X5.below b1
  replace b0 := b0.trans (b1.mono b0.size)
  clear b1
  generalize w4.heap.size = B2 at *
  clear w4
  go_upto_region 16 with fail
  have X9 := Bx.made w1 (.int .i64 id) (.bool rm) (.int .i64 ln) (.slice a2 D.length c2)
  have k3 : Below w1.heap.size w1 (w1.alloc (.cells #[.int .i64 id, .bool rm, .int .i64 ln, .slice a2 D.length c2] 26)) := (Below.refl _ _).alloc (Nat.le_refl _) _
  replace O0 := O0.below k3
  replace P1 := P1.below k3
  replace O2 := O2.below k3
  replace X3 := X3.below k3
  replace X5 := X5.below k3
  replace b0 := b0.trans (k3.mono b0.size)
  clear k3 hg
  generalize w1.alloc (.cells #[.int .i64 id, .bool rm, .int .i64 ln, .slice a2 D.length c2] 26) = W1 at *
  generalize w1.heap.size = g9 at *
  clear w1
  have n0 := O0.nums'
  have n2 := O2.nums'
  have x0 := X3.c0
  have x1 := X3.c1
  have x2 := X3.c2
  have x3 := X3.c3
  have y0 := X9.c0
  have y1 := X9.c1
  have y2 := X9.c2
  have y3 := X9.c3
  go_wp2_with fail
  refine (eqFr id rm ln a2 a0 D c2 c0 _ n2 n0).mono ?_
  rintro e w2 ⟨rfl, b2⟩
  replace P1 := P1.below b2
  replace X5 := X5.below b2
  replace b0 := b0.trans (b2.mono b0.size)
  clear b2 n0 n2 x0 x1 x2 x3 y0 y1 y2 y3 X3 X9 O0 O2 W1
  have y0 := X5.c0
  have y1 := X5.c1
  have y2 := X5.c2
  have y3 := X5.c3
  have n1 := P1.nums'
  go_wp2_with fail
  refine (heldFr id rm ln a1 D.length c1 1 _ n1 (by omega) (by omega) (by omega)).mono ?_
  rintro e w4 ⟨rfl, b2⟩
  replace b0 := b0.trans (b2.mono b0.size)
  clear b2 n1 y0 y1 y2 y3 w2 X5 P1
  go_wp2_with fail
  go_ret
  exact ⟨rfl, b0⟩
end Go.Proofs.YthbnkjckgdiheaaDoor
