/- Contracts of the model's draws (l1New, l1Byte, l1Below and what is built on them): each answers some value within its bounds, and writes into nothing but its own cursor. -/
import Derived.Test.YtpefcbpapmfejaaM1
import Derived.WalkKit
import Derived.WalkSpells
import Derived.LoopTactic
import Derived.Lib.Hide
import Derived.Deep.QuietTactic
import Derived.BigQuiet
import Derived.IntWalk
import Derived.WalkSmall

set_option maxRecDepth 20000
namespace Go.Proofs.Ytpefcbpapmfejaa
open Go.RowKit

theorem grown_refl (w : World) (r : Option Nat) : w.grownBy w r := ⟨rfl, rfl, rfl, Nat.le_refl _, fun _ _ _ => rfl⟩
theorem grown_trans {a b c : World} {r : Option Nat} (h : a.grownBy b r) (k : b.grownBy c r) : a.grownBy c r :=
  ⟨k.os.trans h.os, k.tape.trans h.tape, k.output.trans h.output, Nat.le_trans h.size k.size,
    fun i hi hr => (k.block i (Nat.lt_of_lt_of_le hi h.size) hr).trans (h.block i hi hr)⟩
theorem grown_set (w : World) (p k : Nat) (v : Value) : w.grownBy (w.setCell ⟨p, k, none⟩ v) (some p) :=
  ⟨rfl, rfl, rfl, by simp [World.setCell], fun i _ hr => Below.heap_setCell _ _ _ _ (fun e => hr (by rw [e]))⟩
theorem grown_drewN (w : World) (n : Nat) (r : Option Nat) : w.grownBy (w.drewN n) r := ⟨rfl, rfl, rfl, Nat.le_refl _, fun _ _ _ => rfl⟩
theorem below_of_grown {w w' : World} {r : Option Nat} {B : Nat} (h : w.grownBy w' r) (hB : B ≤ w.heap.size) (hr : ∀ k, r = some k → B ≤ k) : Below B w w' :=
  (Below.refl B w).grown h hB hr

/-- The cursor's block: what was handed in (a slice), how far it has been read, the number. -/
structure Cur (B p : Nat) (a : Option Addr) (len cap : Nat) (i h : Int) (w : World) : Prop where
  base : B ≤ p
  block : w.heap[p]? = some (.cells #[.slice a len cap, .int .i64 i, .int .i64 h] 0 (0, 0))
  at0 : 0 ≤ i
  atL : i ≤ len
/-- The bytes that were handed in lie below B. -/
def Code (B : Nat) (a : Option Addr) (len : Nat) (w : World) : Prop :=
  len ≤ 9223372036854775807 ∧ ∀ j, j < len → ∃ b off, a = some ⟨b, off, none⟩ ∧ b < B ∧ ∃ z : Int, w.cell? ⟨b, off + j, none⟩ = some (.int .u8 z) ∧ 0 ≤ z ∧ z ≤ 255
/-- The state that a draw keeps. -/
def St (B p : Nat) (a : Option Addr) (len cap : Nat) (w : World) : Prop := (∃ i h, Cur B p a len cap i h w) ∧ Code B a len w

theorem Code.kept {B p : Nat} {a : Option Addr} {len : Nat} {w w' : World} (h : Code B a len w) (hg : w.grownBy w' (some p)) (hp : B ≤ p) : Code B a len w' := by
  refine ⟨h.1, fun j hj => ?_⟩
  obtain ⟨b, off, ha, hb, z, hz, h0, h1⟩ := h.2 j hj
  exact ⟨b, off, ha, hb, z, hg.cell hz (by simp; omega), h0, h1⟩

section
variable {B p : Nat} {a : Option Addr} {len cap : Nat} {i h : Int} {w : World}
theorem Cur.c0 (c : Cur B p a len cap i h w) : w.cell? ⟨p, 0, none⟩ = some (.slice a len cap) := by simp [World.cell?, c.block]
theorem Cur.c1 (c : Cur B p a len cap i h w) : w.cell? ⟨p, 1, none⟩ = some (.int .i64 i) := by simp [World.cell?, c.block]
theorem Cur.c2 (c : Cur B p a len cap i h w) : w.cell? ⟨p, 2, none⟩ = some (.int .i64 h) := by simp [World.cell?, c.block]
theorem Cur.f (c : Cur B p a len cap i h w) (k : Nat) : w.frozen? ⟨p, k, none⟩ = false := by simp [World.frozen?, c.block]
theorem Cur.set1 (c : Cur B p a len cap i h w) (n : Int) (h0 : 0 ≤ n) (hL : n ≤ len) : Cur B p a len cap n h (w.setCell ⟨p, 1, none⟩ (.int .i64 n)) :=
  ⟨c.base, by simp [World.setCell, Array.getElem?_modify, c.block], h0, hL⟩
theorem Cur.set2 (c : Cur B p a len cap i h w) (n : Int) : Cur B p a len cap i n (w.setCell ⟨p, 2, none⟩ (.int .i64 n)) :=
  ⟨c.base, by simp [World.setCell, Array.getElem?_modify, c.block], c.at0, c.atL⟩
theorem Cur.drewN (c : Cur B p a len cap i h w) (n : Nat) : Cur B p a len cap i h (w.drewN n) := ⟨c.base, c.block, c.at0, c.atL⟩
end

/-- What a draw of a number leaves: a number from lo to hi; nothing but the cursor has been written. -/
def Num (B p : Nat) (a : Option Addr) (len cap : Nat) (lo hi : Int) (w : World) (e : Ending) (w' : World) : Prop :=
  ∃ x : Int, lo ≤ x ∧ x ≤ hi ∧ e = .returned (.int .i64 x) ∧ w.grownBy w' (some p) ∧ St B p a len cap w'

theorem i64_and255 (n : Int) : bits .and .i64 n 255 = n % 256 := by
  have h1 : (BitVec.ofInt 64 255).toNat = 2 ^ 8 - 1 := by decide
  have key : (BitVec.ofInt 64 n &&& BitVec.ofInt 64 255).toNat = (n % ((2 ^ 64 : Nat) : Int)).toNat % 2 ^ 8 := by
    rw [BitVec.toNat_and, BitVec.toNat_ofInt, h1, Nat.and_two_pow_sub_one_eq_mod]
  show IntKind.i64.wrap ((BitVec.ofInt 64 n &&& BitVec.ofInt 64 255).toNat : Nat) = n % 256
  rw [key, IntKind.wrap_i64]
  omega


theorem mod_bd (x n : Int) (hn : 1 ≤ n) : 0 ≤ x % n ∧ x % n ≤ n - 1 := ⟨Int.emod_nonneg _ (by omega), by have := Int.emod_lt_of_pos x (show 0 < n by omega); omega⟩


/-- What a draw of a flag leaves. -/
def Flag (B p : Nat) (a : Option Addr) (len cap : Nat) (w : World) (e : Ending) (w' : World) : Prop :=
  ∃ b : Bool, e = .returned (.bool b) ∧ w.grownBy w' (some p) ∧ St B p a len cap w'

end Go.Proofs.Ytpefcbpapmfejaa
