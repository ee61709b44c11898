/- Contracts of l1DrawAny and of the draws of chapter 1 (DrawBitsOk, DrawRunOf, DrawBitsOf): each answers some arguments within bounds, and turns nothing that was there. -/
import Derived.Test.YtngcekegngmedaaGreatDoorM7
import Derived.Test.YtngcekegngmedaaGreatDoorM1
import Derived.OpenShut

set_option linter.unusedSimpArgs false
set_option linter.unusedVariables false
set_option maxRecDepth 20000
namespace Go.Proofs.YtngcekegngmedaaGreatDoor
open Go.RowKit

theorem Text.wide {B p : Nat} {a : Option Addr} {len cap : Nat} {N N' : Nat} {w w0 w' : World} {e : Ending} (h : Text B p a len cap N w e w') (g : w0.grownBy w (some p)) (hN : N ≤ N') : Text B p a len cap N' w0 e w' := by
  obtain ⟨t, ht, he, hg, s⟩ := h
  exact ⟨t, by omega, he, grown_trans g hg, s⟩





theorem Code.below {B k : Nat} {a : Option Addr} {len : Nat} {w w' : World} (h : Code B a len w) (b : Below k w w') (hk : B ≤ k) : Code B a len w' := by
  refine ⟨h.1, fun j hj => ?_⟩
  obtain ⟨bl, off, ha, hb, z, hz, h0, h1⟩ := h.2 j hj
  exact ⟨bl, off, ha, hb, z, (b.cell (p := ⟨bl, off + j, none⟩) (Nat.lt_of_lt_of_le hb hk)).trans hz, h0, h1⟩
theorem St.below {B p : Nat} {a : Option Addr} {len cap : Nat} {w w' : World} (s : St B p a len cap w) (b : Below w.heap.size w w') : St B p a len cap w' := by
  have hlt := s.lt
  obtain ⟨⟨i, h, c⟩, cd⟩ := s
  refine ⟨⟨i, h, c.base, ?_, c.at0, c.atL⟩, cd.1, fun j hj => ?_⟩
  · rw [b.block p hlt]; exact c.block
  · obtain ⟨bl, off, ha, hb, z, hz, h0, h1⟩ := cd.2 j hj
    have := c.base
    exact ⟨bl, off, ha, hb, z, (b.cell (p := ⟨bl, off + j, none⟩) (by show bl < _; omega)).trans hz, h0, h1⟩
theorem below_new {w w' : World} (g : w.grownBy w' none) : Below w.heap.size w w' := below_of_grown g (Nat.le_refl _) (fun _ e => by cases e)


end Go.Proofs.YtngcekegngmedaaGreatDoor
