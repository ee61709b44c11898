/- Contracts of the model's draws (l1New, l1Byte, l1Below and what is built on them): each answers some value within its bounds, and writes into nothing but its own cursor. -/
import Derived.Test.YtohjfjcpkloigaaM1
import Derived.WalkKit
import Derived.WalkSpells
import Derived.LoopTactic
import Derived.Lib.Hide
import Derived.Deep.QuietTactic
import Derived.BigQuiet
import Derived.IntWalk
import Derived.WalkSmall

set_option maxRecDepth 20000
namespace Go.Proofs.Ytohjfjcpkloigaa
open Go.RowKit

theorem grown_refl (w : World) (r : Option Nat) : w.grownBy w r := ⟨rfl, rfl, rfl, Nat.le_refl _, fun _ _ _ => rfl⟩
theorem grown_at {w w' : World} (b : Below w.heap.size w w') : w.grownBy w' none := ⟨b.os, b.tape, b.output, b.size, fun k hk _ => b.block k hk⟩
theorem grown_trans {a b c : World} {r : Option Nat} (h : a.grownBy b r) (k : b.grownBy c r) : a.grownBy c r :=
  ⟨k.os.trans h.os, k.tape.trans h.tape, k.output.trans h.output, Nat.le_trans h.size k.size,
    fun i hi hr => (k.block i (Nat.lt_of_lt_of_le hi h.size) hr).trans (h.block i hi hr)⟩
theorem grown_set (w : World) (p k : Nat) (v : Value) : w.grownBy (w.setCell ⟨p, k, none⟩ v) (some p) :=
  ⟨rfl, rfl, rfl, by simp [World.setCell], fun i _ hr => Below.heap_setCell _ _ _ _ (fun e => hr (by rw [e]))⟩
theorem grown_drewN (w : World) (n : Nat) (r : Option Nat) : w.grownBy (w.drewN n) r := ⟨rfl, rfl, rfl, Nat.le_refl _, fun _ _ _ => rfl⟩
theorem below_of_grown {w w' : World} {r : Option Nat} {B : Nat} (h : w.grownBy w' r) (hB : B ≤ w.heap.size) (hr : ∀ k, r = some k → B ≤ k) : Below B w w' :=
  (Below.refl B w).grown h hB hr

/-- The cursor's block: what was handed in (a slice), how far it has been read, the number. -/
structure Cur (B p : Nat) (a : Option Addr) (len cap : Nat) (i h : Int) (w : World) : Prop where
  base : B ≤ p
  block : w.heap[p]? = some (.cells #[.slice a len cap, .int .i64 i, .int .i64 h] 83 (0, 0))
  at0 : 0 ≤ i
  atL : i ≤ len
/-- The bytes that were handed in lie below B. -/
def Code (B : Nat) (a : Option Addr) (len : Nat) (w : World) : Prop :=
  len ≤ 9223372036854775807 ∧ ∀ j, j < len → ∃ b off, a = some ⟨b, off, none⟩ ∧ b < B ∧ ∃ z : Int, w.cell? ⟨b, off + j, none⟩ = some (.int .u8 z) ∧ 0 ≤ z ∧ z ≤ 255
/-- The state that a draw keeps. -/
def St (B p : Nat) (a : Option Addr) (len cap : Nat) (w : World) : Prop := (∃ i h, Cur B p a len cap i h w) ∧ Code B a len w

theorem Code.kept {B p : Nat} {a : Option Addr} {len : Nat} {w w' : World} (h : Code B a len w) (hg : w.grownBy w' (some p)) (hp : B ≤ p) : Code B a len w' := by
  refine ⟨h.1, fun j hj => ?_⟩
  obtain ⟨b, off, ha, hb, z, hz, h0, h1⟩ := h.2 j hj
  exact ⟨b, off, ha, hb, z, hg.cell hz (by simp; omega), h0, h1⟩

section
variable {B p : Nat} {a : Option Addr} {len cap : Nat} {i h : Int} {w : World}
theorem Cur.c0 (c : Cur B p a len cap i h w) : w.cell? ⟨p, 0, none⟩ = some (.slice a len cap) := by simp [World.cell?, c.block]
theorem Cur.c1 (c : Cur B p a len cap i h w) : w.cell? ⟨p, 1, none⟩ = some (.int .i64 i) := by simp [World.cell?, c.block]
theorem Cur.c2 (c : Cur B p a len cap i h w) : w.cell? ⟨p, 2, none⟩ = some (.int .i64 h) := by simp [World.cell?, c.block]
theorem Cur.f (c : Cur B p a len cap i h w) (k : Nat) : w.frozen? ⟨p, k, none⟩ = false := by simp [World.frozen?, c.block]
theorem Cur.set1 (c : Cur B p a len cap i h w) (n : Int) (h0 : 0 ≤ n) (hL : n ≤ len) : Cur B p a len cap n h (w.setCell ⟨p, 1, none⟩ (.int .i64 n)) :=
  ⟨c.base, by simp [World.setCell, Array.getElem?_modify, c.block], h0, hL⟩
theorem Cur.set2 (c : Cur B p a len cap i h w) (n : Int) : Cur B p a len cap i n (w.setCell ⟨p, 2, none⟩ (.int .i64 n)) :=
  ⟨c.base, by simp [World.setCell, Array.getElem?_modify, c.block], c.at0, c.atL⟩
theorem Cur.drewN (c : Cur B p a len cap i h w) (n : Nat) : Cur B p a len cap i h (w.drewN n) := ⟨c.base, c.block, c.at0, c.atL⟩
end

/-- What a draw of a number leaves: a number from lo to hi; nothing but the cursor has been written. -/
def Num (B p : Nat) (a : Option Addr) (len cap : Nat) (lo hi : Int) (w : World) (e : Ending) (w' : World) : Prop :=
  ∃ x : Int, lo ≤ x ∧ x ≤ hi ∧ e = .returned (.int .i64 x) ∧ w.grownBy w' (some p) ∧ St B p a len cap w'

theorem i64_and255 (n : Int) : bits .and .i64 n 255 = n % 256 := by
  have h1 : (BitVec.ofInt 64 255).toNat = 2 ^ 8 - 1 := by decide
  have key : (BitVec.ofInt 64 n &&& BitVec.ofInt 64 255).toNat = (n % ((2 ^ 64 : Nat) : Int)).toNat % 2 ^ 8 := by
    rw [BitVec.toNat_and, BitVec.toNat_ofInt, h1, Nat.and_two_pow_sub_one_eq_mod]
  show IntKind.i64.wrap ((BitVec.ofInt 64 n &&& BitVec.ofInt 64 255).toNat : Nat) = n % 256
  rw [key, IntKind.wrap_i64]
  omega

/-- spec.l1Byte. -/
theorem byteAny {B p : Nat} {a : Option Addr} {len cap : Nat} (w : World) (st : St B p a len cap w) :
    Calls Try.prog 79 #[.pointer (some ⟨p, 0, none⟩)] w (Num B p a len cap 0 255 w) := by
  obtain ⟨⟨i, h, c⟩, cd⟩ := st
  have c0 := c.c0; have c1 := c.c1; have c2 := c.c2; have f1 := c.f 1; have f2 := c.f 2
  have a0 := c.at0; have aL := c.atL; have cl := cd.1
  go_enter Try.func79, Try.ntmps79
  go_wp2
  generalize wrap64 (wrap64 (h * 6364136223846793005) + 1442695040888963407) = h'
  generalize wrap64 (h * 6364136223846793005) = h''
  have C2 := c.set2 h'
  have G2 := grown_set w p 2 (.int .i64 h')
  have D2 := cd.kept G2 c.base
  generalize w.setCell ⟨p, 2, none⟩ (.int .i64 h') = w2 at C2 G2 D2 ⊢
  clear c0 c1 c2 f1 f2
  have c0 := C2.c0; have c1 := C2.c1; have c2 := C2.c2; have f1 := C2.f 1
  go_quiet (fail)
  go_wp2
  rw [i64_and255]
  generalize bits BinOp.xor IntKind.i64 (h' / 8589934592) (h' / 35184372088832) = y
  have x0 : 0 ≤ y % 256 := by omega
  have x1 : y % 256 ≤ 255 := by omega
  generalize y % 256 = x at x0 x1 ⊢
  have C3 := C2.drewN nq
  have G3 := grown_trans G2 (grown_drewN w2 nq _)
  have D3 := D2.kept (grown_drewN w2 nq _) c.base
  generalize w2.drewN nq = w3 at C3 G3 D3 ⊢
  clear c0 c1 c2 f1 C2 G2 D2
  have c0 := C3.c0; have c1 := C3.c1
  by_cases hlt : i < len
  · go_quiet (fail)
    go_wp2
    have C4 := C3.drewN nq
    have G4 := grown_trans G3 (grown_drewN w3 nq _)
    have D4 := D3.kept (grown_drewN w3 nq _) c.base
    generalize w3.drewN nq = w4 at C4 G4 D4 ⊢
    clear c0 c1 C3 G3 D3
    have c0 := C4.c0; have c1 := C4.c1; have f1 := C4.f 1
    obtain ⟨b, off, rfl, hb, z, hz, z0, z1⟩ := D4.2 i.toNat (by omega)
    go_quiet (fail)
    go_wp2
    go_ret
    refine ⟨(x + z) % 256, by omega, by omega, ret_int (by rw [i64_and255]), ?_, ⟨_, _, (C4.drewN nq).set1 (i + 1) (by omega) (by omega)⟩, ?_⟩
    · exact grown_trans (grown_trans G4 (grown_drewN w4 nq _)) (grown_set _ _ _ _)
    · exact (D4.kept (grown_drewN w4 nq _) c.base).kept (grown_set _ _ _ _) c.base
  · go_quiet (fail)
    go_wp2
    go_ret
    exact ⟨x, x0, x1, rfl, grown_trans G3 (grown_drewN w3 _ _), ⟨_, _, C3.drewN _⟩, D3.kept (grown_drewN w3 _ _) c.base⟩

theorem mod_bd (x n : Int) (hn : 1 ≤ n) : 0 ≤ x % n ∧ x % n ≤ n - 1 := ⟨Int.emod_nonneg _ (by omega), by have := Int.emod_lt_of_pos x (show 0 < n by omega); omega⟩

/-- spec.l1Below, of a number above 0. -/
theorem belowPos {B p : Nat} {a : Option Addr} {len cap : Nat} (n : Int) (w : World) (hn : 1 ≤ n) (hn' : n ≤ 9223372036854775807) (st : St B p a len cap w) :
    Calls Try.prog 57 #[.pointer (some ⟨p, 0, none⟩), .int .i64 n] w (Num B p a len cap 0 (n - 1) w) := by
  by_cases h : n ≤ 256
  · go_enter Try.func57, Try.ntmps57
    go_wp2_with fail
    refine (byteAny (B := B) (a := a) (len := len) (cap := cap) _ st).mono ?_
    rintro e w1 ⟨x, x0, x1, rfl, g, s⟩
    go_wp2_with fail
    go_ret
    have := mod_bd x n hn
    exact ⟨x % n, this.1, this.2, rfl, g, s⟩
  · go_enter Try.func57, Try.ntmps57
    go_wp2_with fail
    refine (byteAny (B := B) (a := a) (len := len) (cap := cap) _ st).mono ?_
    rintro e w1 ⟨x, x0, x1, rfl, g1, s1⟩
    go_wp2_with fail
    refine (byteAny (B := B) (a := a) (len := len) (cap := cap) _ s1).mono ?_
    rintro e w2 ⟨y, y0, y1, rfl, g2, s2⟩
    go_wp2_with fail
    refine (byteAny (B := B) (a := a) (len := len) (cap := cap) _ s2).mono ?_
    rintro e w3 ⟨z, z0, z1, rfl, g3, s3⟩
    go_wp2_with fail
    refine (byteAny (B := B) (a := a) (len := len) (cap := cap) _ s3).mono ?_
    rintro e w4 ⟨u, u0, u1, rfl, g4, s4⟩
    go_wp2_with fail
    go_ret
    have := mod_bd (x * 16777216 + y * 65536 + z * 256 + u) n hn
    exact ⟨_, this.1, this.2, rfl, grown_trans (grown_trans g1 g2) (grown_trans g3 g4), s4⟩

/-- spec.l1Below, of a number not above 0. -/
theorem belowNo {B p : Nat} {a : Option Addr} {len cap : Nat} (n : Int) (w : World) (hn : n ≤ 0) (st : St B p a len cap w) :
    Calls Try.prog 57 #[.pointer (some ⟨p, 0, none⟩), .int .i64 n] w (Num B p a len cap 0 0 w) := by
  go_enter Try.func57, Try.ntmps57
  go_wp2
  go_ret
  exact ⟨0, Int.le_refl _, Int.le_refl _, rfl, grown_refl _ _, st⟩

/-- What a draw of a flag leaves. -/
def Flag (B p : Nat) (a : Option Addr) (len cap : Nat) (w : World) (e : Ending) (w' : World) : Prop :=
  ∃ b : Bool, e = .returned (.bool b) ∧ w.grownBy w' (some p) ∧ St B p a len cap w'

/-- spec.l1Once. -/
theorem onceAny {B p : Nat} {a : Option Addr} {len cap : Nat} (n : Int) (w : World) (hn : 1 ≤ n) (hn' : n ≤ 9223372036854775807) (st : St B p a len cap w) :
    Calls Try.prog 55 #[.pointer (some ⟨p, 0, none⟩), .int .i64 n] w (Flag B p a len cap w) := by
  go_enter Try.func55, Try.ntmps55
  go_wp2_with fail
  refine (belowPos (B := B) (a := a) (len := len) (cap := cap) n _ hn hn' st).mono ?_
  rintro e w1 ⟨x, x0, x1, rfl, g1, s1⟩
  go_wp2_with fail
  go_ret
  exact ⟨_, rfl, g1, s1⟩

/-- spec.l1From. -/
theorem fromAny {B p : Nat} {a : Option Addr} {len cap : Nat} (lo hi : Int) (w : World) (h0 : lo ≤ hi) (h1 : -1099511627776 ≤ lo) (h2 : hi ≤ 1099511627776) (st : St B p a len cap w) :
    Calls Try.prog 76 #[.pointer (some ⟨p, 0, none⟩), .int .i64 lo, .int .i64 hi] w (Num B p a len cap lo hi w) := by
  go_enter Try.func76, Try.ntmps76
  go_wp2_with fail
  refine (belowPos (B := B) (a := a) (len := len) (cap := cap) (hi - lo + 1) _ (by omega) (by omega) st).mono ?_
  rintro e w1 ⟨x, x0, x1, rfl, g1, s1⟩
  go_wp2_with fail
  go_ret
  exact ⟨lo + x, by omega, by omega, rfl, g1, s1⟩

end Go.Proofs.Ytohjfjcpkloigaa
