/- Contracts of the model's draws of numbers and of bits (l1Odd, l1Num, l1DrawBits): each answers some value within its bounds, and writes into nothing but its own cursor. -/
import Derived.Test.YtngcekegngmedaaGreatDoorM4
import Derived.Test.YtngcekegngmedaaGreatDoorM5
import Derived.WalkLawsBesides

set_option maxRecDepth 20000
namespace Go.Proofs.YtngcekegngmedaaGreatDoor
open Go.RowKit

section
variable {B p : Nat} {a : Option Addr} {len cap : Nat} {w : World}
theorem St.lt (s : St B p a len cap w) : p < w.heap.size := by
  obtain ⟨⟨i, h, c⟩, _⟩ := s
  exact (Array.getElem?_eq_some_iff.1 c.block).1
theorem St.base (s : St B p a len cap w) : B ≤ p := by
  obtain ⟨⟨i, h, c⟩, _⟩ := s; exact c.base
theorem St.step {w' : World} {r : Option Nat} (s : St B p a len cap w) (g : w.grownBy w' r) (hr : ∀ k, r = some k → p < k) : St B p a len cap w' := by
  have hlt := s.lt
  obtain ⟨⟨i, h, c⟩, cd⟩ := s
  refine ⟨⟨i, h, c.base, ?_, c.at0, c.atL⟩, cd.1, fun j hj => ?_⟩
  · rw [g.block p hlt (fun e => by have := hr p e.symm; omega)]; exact c.block
  · obtain ⟨b, off, ha, hb, z, hz, h0, h1⟩ := cd.2 j hj
    have := c.base
    exact ⟨b, off, ha, hb, z, g.cell hz (fun e => by have := hr b e.symm; omega), h0, h1⟩
theorem St.alloc (s : St B p a len cap w) (o : Obj) : St B p a len cap (w.alloc o) := s.step (World.grownBy_alloc w o none) (fun _ h => by cases h)
theorem grown_some {w w' : World} (g : w.grownBy w' none) (r : Option Nat) : w.grownBy w' r := ⟨g.os, g.tape, g.output, g.size, fun k hk _ => g.block k hk (fun e => by cases e)⟩
end



theorem Num.wide {B p : Nat} {a : Option Addr} {len cap : Nat} {lo hi lo' hi' : Int} {w w0 w' : World} {e : Ending} (h : Num B p a len cap lo hi w e w') (g : w0.grownBy w (some p)) (h0 : lo' ≤ lo) (h1 : hi ≤ hi') : Num B p a len cap lo' hi' w0 e w' := by
  obtain ⟨x, x0, x1, he, hg, s⟩ := h
  exact ⟨x, by omega, by omega, he, grown_trans g hg, s⟩


/-- What a draw of a text leaves: a text of at most N bytes. -/
def Text (B p : Nat) (a : Option Addr) (len cap : Nat) (N : Nat) (w : World) (e : Ending) (w' : World) : Prop :=
  ∃ t : ByteArray, t.size ≤ N ∧ e = .returned (.string t) ∧ w.grownBy w' (some p) ∧ St B p a len cap w'


end Go.Proofs.YtngcekegngmedaaGreatDoor
