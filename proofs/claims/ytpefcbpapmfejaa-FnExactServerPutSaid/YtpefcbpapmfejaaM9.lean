/- Contracts of the model's draws of numbers and of bits (l1Odd, l1Num, l1DrawBits): each answers some value within its bounds, and writes into nothing but its own cursor. -/
import Derived.Test.YtpefcbpapmfejaaM7
import Derived.Test.YtpefcbpapmfejaaM8
import Derived.WalkLawsBesides
import Derived.Test.YtpefcbpapmfejaaM0
import Derived.WalkArith

set_option maxRecDepth 20000
namespace Go.Proofs.Ytpefcbpapmfejaa
open Go.RowKit

section
variable {B p : Nat} {a : Option Addr} {len cap : Nat} {w : World}
theorem St.lt (s : St B p a len cap w) : p < w.heap.size := by
  obtain ⟨⟨i, h, c⟩, _⟩ := s
  exact (Array.getElem?_eq_some_iff.1 c.block).1
theorem St.base (s : St B p a len cap w) : B ≤ p := by
  obtain ⟨⟨i, h, c⟩, _⟩ := s; exact c.base
theorem St.step {w' : World} {r : Option Nat} (s : St B p a len cap w) (g : w.grownBy w' r) (hr : ∀ k, r = some k → p < k) : St B p a len cap w' := by
  have hlt := s.lt
  obtain ⟨⟨i, h, c⟩, cd⟩ := s
  refine ⟨⟨i, h, c.base, ?_, c.at0, c.atL⟩, cd.1, fun j hj => ?_⟩
  · rw [g.block p hlt (fun e => by have := hr p e.symm; omega)]; exact c.block
  · obtain ⟨b, off, ha, hb, z, hz, h0, h1⟩ := cd.2 j hj
    have := c.base
    exact ⟨b, off, ha, hb, z, g.cell hz (fun e => by have := hr b e.symm; omega), h0, h1⟩
theorem St.alloc (s : St B p a len cap w) (o : Obj) : St B p a len cap (w.alloc o) := s.step (World.grownBy_alloc w o none) (fun _ h => by cases h)
theorem grown_some {w w' : World} (g : w.grownBy w' none) (r : Option Nat) : w.grownBy w' r := ⟨g.os, g.tape, g.output, g.size, fun k hk _ => g.block k hk (fun e => by cases e)⟩
end

/-- A row of numbers that has just been laid still reads, behind a draw. -/
theorem row_at {w w1 : World} {p : Nat} (C : Array Value) (T : TypeId) (g : (w.alloc (.cells C T)).grownBy w1 (some p)) (hp : p < w.heap.size) (j : Nat) (v : Value) (hj : C[j]? = some v) :
    w1.cell? ⟨w.heap.size, j, none⟩ = some v :=
  g.cell (a := ⟨w.heap.size, j, none⟩) (by rw [World.cell?_alloc_at _ _ _ _ rfl]; exact hj) (fun e => by simp at e; omega)

def lo64 : Int := -9223372036854775808
def hi64 : Int := 9223372036854775807
theorem Num.wide {B p : Nat} {a : Option Addr} {len cap : Nat} {lo hi lo' hi' : Int} {w w0 w' : World} {e : Ending} (h : Num B p a len cap lo hi w e w') (g : w0.grownBy w (some p)) (h0 : lo' ≤ lo) (h1 : hi ≤ hi') : Num B p a len cap lo' hi' w0 e w' := by
  obtain ⟨x, x0, x1, he, hg, s⟩ := h
  exact ⟨x, by omega, by omega, he, grown_trans g hg, s⟩

/-- What a draw of a text leaves: a text of at most N bytes. -/
def Text (B p : Nat) (a : Option Addr) (len cap : Nat) (N : Nat) (w : World) (e : Ending) (w' : World) : Prop :=
  ∃ t : ByteArray, t.size ≤ N ∧ e = .returned (.string t) ∧ w.grownBy w' (some p) ∧ St B p a len cap w'

theorem size_last (t : ByteArray) (h : 0 < t.size) : (t ++ t.extract (t.size - 1) t.size).size = t.size + 1 := by
  rw [ByteArray.size_append, ByteArray.size_extract]; omega

end Go.Proofs.Ytpefcbpapmfejaa

/- Contracts of MostStuffs, of the program and of the model. -/

set_option maxRecDepth 20000
namespace Go.Proofs.Ytpefcbpapmfejaa
open Go.RowKit

/-- How many bits are put in at most, of n. -/
def mostV (n : Int) : Int := if n < 0 ∨ 400 < n then -1 else if n = 0 then 0 else (n - 1) / 4
theorem mostV_no {n : Int} (h : n < 0 ∨ 400 < n) : mostV n = -1 := by simp [mostV, h]
theorem mostV_0 : mostV 0 = 0 := by decide
theorem mostV_yes {n : Int} (h1 : 1 ≤ n) (h2 : n ≤ 400) : mostV n = (n - 1) / 4 := by
  unfold mostV; rw [if_neg (by omega), if_neg (by omega)]



end Go.Proofs.Ytpefcbpapmfejaa
