/- Contracts of l1DrawAny and of the draws of chapter 1 (DrawBitsOk, DrawRunOf, DrawBitsOf): each answers some arguments within bounds, and turns nothing that was there. -/
import Derived.Test.YtohjfjcpkloigaaM7
import Derived.Test.YtohjfjcpkloigaaM1
import Derived.OpenShut

set_option linter.unusedSimpArgs false
set_option linter.unusedVariables false
set_option maxRecDepth 20000
namespace Go.Proofs.Ytohjfjcpkloigaa
open Go.RowKit

theorem Text.wide {B p : Nat} {a : Option Addr} {len cap : Nat} {N N' : Nat} {w w0 w' : World} {e : Ending} (h : Text B p a len cap N w e w') (g : w0.grownBy w (some p)) (hN : N ≤ N') : Text B p a len cap N' w0 e w' := by
  obtain ⟨t, ht, he, hg, s⟩ := h
  exact ⟨t, by omega, he, grown_trans g hg, s⟩

/-- The text in a slot: for a loop's measure. -/
def strOf : Value → ByteArray | .string s => s | _ => ByteArray.empty

theorem grown_new {w w1 w' : World} (g : w.grownBy w1 none) (h : w1.grownBy w' (some w.heap.size)) : w.grownBy w' none :=
  ⟨h.os.trans g.os, h.tape.trans g.tape, h.output.trans g.output, Nat.le_trans g.size h.size,
    fun k hk _ => (h.block k (Nat.lt_of_lt_of_le hk g.size) (fun e => by cases e; omega)).trans (g.block k hk (fun e => by cases e))⟩

/-- What a drawn text leaves: nothing that was there has been turned. -/
def DrawnText (B : Nat) (a : Option Addr) (len : Nat) (N : Nat) (w : World) (e : Ending) (w' : World) : Prop :=
  ∃ t : ByteArray, t.size ≤ N ∧ e = .returned (.string t) ∧ w.grownBy w' none ∧ Code B a len w'

/-- A slice of bytes that came in and was read as data. -/
theorem code_of {x : Addr} {l c : Nat} {zs : List Int} {w : World} (hl : l ≤ c) (hm : c ≤ maxLen) (hz : zs.length = c)
    (hcell : ∀ i, i < zs.length → w.cell? (x.add i) = some (.int .u8 (zs.getD i 0))) (hwz : ∀ n ∈ zs, (Lit.int .u8 n).wf = true) : Code w.heap.size (some x) l w := by
  unfold maxLen at hm
  refine ⟨by omega, fun j hj => ?_⟩
  obtain ⟨b, off, spot⟩ := x
  have hs0 := hcell 0 (by omega)
  have hspot : spot = none := by simpa [Addr.add] using World.cell?_spot hs0
  subst hspot
  have hadd : (⟨b, off, none⟩ : Addr).add j = ⟨b, off + j, none⟩ := by unfold Addr.add; split <;> simp_all
  have hc' : w.cell? ⟨b, off + j, none⟩ = some (.int .u8 (zs.getD j 0)) := by rw [← hadd]; exact hcell j (by omega)
  have hmem : zs.getD j 0 ∈ zs := by
    rw [List.getD_eq_getElem?_getD, List.getElem?_eq_getElem (show j < zs.length by omega)]
    exact List.getElem_mem _
  have hw := hwz _ hmem
  have hw0 := Go.bounds_u8 hw
  exact ⟨b, off, rfl, World.block_lt_of_cell? w _ hc', _, hc', by omega, by omega⟩

theorem Code.below {B k : Nat} {a : Option Addr} {len : Nat} {w w' : World} (h : Code B a len w) (b : Below k w w') (hk : B ≤ k) : Code B a len w' := by
  refine ⟨h.1, fun j hj => ?_⟩
  obtain ⟨bl, off, ha, hb, z, hz, h0, h1⟩ := h.2 j hj
  exact ⟨bl, off, ha, hb, z, (b.cell (p := ⟨bl, off + j, none⟩) (Nat.lt_of_lt_of_le hb hk)).trans hz, h0, h1⟩
theorem St.below {B p : Nat} {a : Option Addr} {len cap : Nat} {w w' : World} (s : St B p a len cap w) (b : Below w.heap.size w w') : St B p a len cap w' := by
  have hlt := s.lt
  obtain ⟨⟨i, h, c⟩, cd⟩ := s
  refine ⟨⟨i, h, c.base, ?_, c.at0, c.atL⟩, cd.1, fun j hj => ?_⟩
  · rw [b.block p hlt]; exact c.block
  · obtain ⟨bl, off, ha, hb, z, hz, h0, h1⟩ := cd.2 j hj
    have := c.base
    exact ⟨bl, off, ha, hb, z, (b.cell (p := ⟨bl, off + j, none⟩) (by show bl < _; omega)).trans hz, h0, h1⟩
theorem below_new {w w' : World} (g : w.grownBy w' none) : Below w.heap.size w w' := below_of_grown g (Nat.le_refl _) (fun _ e => by cases e)

/-- laws.big. -/
theorem bigAny (a : Option Addr) (len cap : Nat) (w : World) (hl : len ≤ 9223372036854775807) :
    Calls Try.prog 12 #[.slice a len cap] w fun e w' => e = .returned (.bool (decide (4096 < (len : Int)))) ∧ w = w' := by
  go_enter Try.func12, Try.ntmps12
  go_wp2
  go_ret
  exact ⟨rfl, rfl⟩

end Go.Proofs.Ytohjfjcpkloigaa
