/- Contracts of the laws' own draws (roll, dice.below, bits, turned): each answers some value within its bounds, and writes into nothing but its own cursor. -/
import Derived.Test.YtadnnbinmghabaaDrawT
import Derived.RegionTactic
import Derived.ChangeAlike
import Derived.BigRegion
set_option linter.unusedSimpArgs false
set_option linter.unusedVariables false
set_option maxRecDepth 20000
namespace Go.Proofs.Ytadnnbinmghabaa
open Go.RowKit

/-- The laws' cursor: what was handed in (a slice), how far it has been read, the number. -/
structure Die (B p : Nat) (a : Option Addr) (len cap : Nat) (i h : Int) (w : World) : Prop where
  base : B ≤ p
  block : w.heap[p]? = some (.cells #[.slice a len cap, .int .i64 i, .int .u64 h] 59 (0, 0))
  at0 : 0 ≤ i
  atL : i ≤ len
/-- The state that a throw keeps. -/
def Dt (B p : Nat) (a : Option Addr) (len cap : Nat) (w : World) : Prop := (∃ i h, Die B p a len cap i h w) ∧ Code B a len w

section
variable {B p : Nat} {a : Option Addr} {len cap : Nat} {i h : Int} {w : World}
theorem Die.c0 (c : Die B p a len cap i h w) : w.cell? ⟨p, 0, none⟩ = some (.slice a len cap) := by simp [World.cell?, c.block]
theorem Die.c1 (c : Die B p a len cap i h w) : w.cell? ⟨p, 1, none⟩ = some (.int .i64 i) := by simp [World.cell?, c.block]
theorem Die.c2 (c : Die B p a len cap i h w) : w.cell? ⟨p, 2, none⟩ = some (.int .u64 h) := by simp [World.cell?, c.block]
theorem Die.f (c : Die B p a len cap i h w) (k : Nat) : w.frozen? ⟨p, k, none⟩ = false := by simp [World.frozen?, c.block]
theorem Die.set1 (c : Die B p a len cap i h w) (n : Int) (h0 : 0 ≤ n) (hL : n ≤ len) : Die B p a len cap n h (w.setCell ⟨p, 1, none⟩ (.int .i64 n)) :=
  ⟨c.base, by simp [World.setCell, Array.getElem?_modify, c.block], h0, hL⟩
theorem Die.set2 (c : Die B p a len cap i h w) (n : Int) : Die B p a len cap i n (w.setCell ⟨p, 2, none⟩ (.int .u64 n)) :=
  ⟨c.base, by simp [World.setCell, Array.getElem?_modify, c.block], c.at0, c.atL⟩
theorem Die.drewN (c : Die B p a len cap i h w) (n : Nat) : Die B p a len cap i h (w.drewN n) := ⟨c.base, c.block, c.at0, c.atL⟩
theorem Dt.lt (s : Dt B p a len cap w) : p < w.heap.size := by
  obtain ⟨⟨i, h, c⟩, _⟩ := s
  exact (Array.getElem?_eq_some_iff.1 c.block).1
theorem Dt.base (s : Dt B p a len cap w) : B ≤ p := by
  obtain ⟨⟨i, h, c⟩, _⟩ := s; exact c.base
theorem Dt.step {w' : World} {r : Option Nat} (s : Dt B p a len cap w) (g : w.grownBy w' r) (hr : ∀ k, r = some k → p < k) : Dt B p a len cap w' := by
  have hlt := s.lt
  obtain ⟨⟨i, h, c⟩, cd⟩ := s
  refine ⟨⟨i, h, c.base, ?_, c.at0, c.atL⟩, cd.1, fun j hj => ?_⟩
  · rw [g.block p hlt (fun e => by have := hr p e.symm; omega)]; exact c.block
  · obtain ⟨b, off, ha, hb, z, hz, h0, h1⟩ := cd.2 j hj
    have := c.base
    exact ⟨b, off, ha, hb, z, g.cell hz (fun e => by have := hr b e.symm; omega), h0, h1⟩
/-- A step that turns nothing that was there when it began. -/
theorem Dt.below {w' : World} (s : Dt B p a len cap w) (b : Below w.heap.size w w') : Dt B p a len cap w' := by
  have hlt := s.lt
  obtain ⟨⟨i, h, c⟩, cd⟩ := s
  refine ⟨⟨i, h, c.base, ?_, c.at0, c.atL⟩, cd.1, fun j hj => ?_⟩
  · rw [b.block p hlt]; exact c.block
  · obtain ⟨bl, off, ha, hb, z, hz, h0, h1⟩ := cd.2 j hj
    have := c.base
    exact ⟨bl, off, ha, hb, z, (b.cell (p := ⟨bl, off + j, none⟩) (by show bl < _; omega)).trans hz, h0, h1⟩
end

/-- What a throw leaves: a number from lo to hi; nothing but the cursor has been written. -/
def Thrown (B p : Nat) (a : Option Addr) (len cap : Nat) (lo hi : Int) (w : World) (e : Ending) (w' : World) : Prop :=
  ∃ x : Int, lo ≤ x ∧ x ≤ hi ∧ e = .returned (.int .i64 x) ∧ w.grownBy w' (some p) ∧ Dt B p a len cap w'

theorem u64_and24 (n : Int) : Go.bits .and .u64 n 16777215 = n % 16777216 := by
  have h1 : (BitVec.ofInt 64 16777215).toNat = 2 ^ 24 - 1 := by decide
  have key : (BitVec.ofInt 64 n &&& BitVec.ofInt 64 16777215).toNat = (n % ((2 ^ 64 : Nat) : Int)).toNat % 2 ^ 24 := by
    rw [BitVec.toNat_and, BitVec.toNat_ofInt, h1, Nat.and_two_pow_sub_one_eq_mod]
  show IntKind.u64.wrap ((BitVec.ofInt 64 n &&& BitVec.ofInt 64 16777215).toNat : Nat) = n % 16777216
  rw [key, IntKind.wrap_u64]
  omega

/-- (*dice).below, of a number above 0. -/
theorem throwAny {B p : Nat} {a : Option Addr} {len cap : Nat} (n : Int) (w : World) (hn : 1 ≤ n) (hn' : n ≤ 9223372036854775807) (st : Dt B p a len cap w) :
    Calls Try.prog 8 #[.pointer (some ⟨p, 0, none⟩), .int .i64 n] w (Thrown B p a len cap 0 (n - 1) w) := by
  obtain ⟨⟨i, h, c⟩, cd⟩ := st
  have c0 := c.c0; have c1 := c.c1; have c2 := c.c2; have f1 := c.f 1; have f2 := c.f 2
  have a0 := c.at0; have aL := c.atL; have cl := cd.1
  go_enter Try.func8, Try.ntmps8
  go_wp2
  rw [u64_and24]
  generalize IntKind.u64.wrap (IntKind.u64.wrap (h * 6364136223846793005) + 1442695040888963407) = h'
  generalize IntKind.u64.wrap (h * 6364136223846793005) = h''
  generalize h' / 8589934592 = y
  have x0 : 0 ≤ y % 16777216 := by omega
  have x1 : y % 16777216 ≤ 16777215 := by omega
  generalize y % 16777216 = x at x0 x1 ⊢
  have ex : wrap64 x = x := IntWalk.wrap64_in _ (by omega)
  rw [ex]
  clear ex
  have C2 := c.set2 h'
  have G2 := grown_set w p 2 (.int .u64 h')
  have D2 := cd.kept G2 c.base
  generalize w.setCell ⟨p, 2, none⟩ (.int .u64 h') = w2 at C2 G2 D2 ⊢
  clear c0 c1 c2 f1 f2
  have c0 := C2.c0; have c1 := C2.c1; have c2 := C2.c2; have f1 := C2.f 1
  by_cases hlt : i < len
  · go_quiet (fail)
    go_wp2
    have C3 := C2.drewN nq
    have G3 := grown_trans G2 (grown_drewN w2 nq _)
    have D3 := D2.kept (grown_drewN w2 nq _) c.base
    generalize w2.drewN nq = w3 at C3 G3 D3 ⊢
    clear c0 c1 c2 f1 C2 G2 D2
    have c0 := C3.c0; have c1 := C3.c1; have f1 := C3.f 1
    obtain ⟨b, off, rfl, hb, z, hz, z0, z1⟩ := D3.2 i.toNat (by omega)
    go_quiet (fail)
    go_wp2
    go_ret
    have hm := mod_bd (x + z) n hn
    refine ⟨(x + z) % n, hm.1, hm.2, rfl, ?_, ⟨_, _, (C3.drewN nq).set1 (i + 1) (by omega) (by omega)⟩, ?_⟩
    · exact grown_trans (grown_trans G3 (grown_drewN w3 nq _)) (grown_set _ _ _ _)
    · exact (D3.kept (grown_drewN w3 nq _) c.base).kept (grown_set _ _ _ _) c.base
  · go_quiet (fail)
    go_wp2
    go_ret
    have hm := mod_bd x n hn
    exact ⟨x % n, hm.1, hm.2, rfl, grown_trans G2 (grown_drewN w2 _ _), ⟨_, _, C2.drewN _⟩, D2.kept (grown_drewN w2 _ _) c.base⟩

/-- laws.roll. -/
theorem rollAny {B : Nat} {a : Option Addr} {len cap : Nat} (seed : Int) (w : World) (cd : Code B a len w) (hB : B ≤ w.heap.size) :
    Calls Try.prog 7 #[.slice a len cap, .int .u64 seed] w fun e w' => e = .returned (.pointer (some ⟨w.heap.size, 0, none⟩)) ∧ w.grownBy w' none ∧ Dt B w.heap.size a len cap w' := by
  have hl := cd.1
  go_enter Try.func7, Try.ntmps7
  go_wp2
  have c0 : Die w.heap.size w.heap.size a len cap 0 (IntKind.u64.wrap (IntKind.u64.wrap (seed * 7919) + (len : Int))) (w.alloc (.cells #[.slice a len cap, .int .i64 0, .int .u64 (IntKind.u64.wrap (IntKind.u64.wrap (seed * 7919) + (len : Int)))] 59)) :=
    ⟨Nat.le_refl _, heap_alloc_new w _, Int.le_refl _, by omega⟩
  have g0 : w.grownBy (w.alloc (.cells #[.slice a len cap, .int .i64 0, .int .u64 (IntKind.u64.wrap (IntKind.u64.wrap (seed * 7919) + (len : Int)))] 59)) none := World.grownBy_alloc w _ none
  generalize IntKind.u64.wrap (IntKind.u64.wrap (seed * 7919) + (len : Int)) = h0 at c0 g0 ⊢
  go_loopw [6] (fun i wr => ∃ (k : Nat) (h : Int), i = .int .i64 k ∧ k ≤ len ∧ Die w.heap.size w.heap.size a len cap 0 h wr ∧ w.grownBy wr none) (fun i _ => len - (intOf i).toNat)
  case atStart => exact ⟨0, h0, rfl, Nat.zero_le _, c0, g0⟩
  case round =>
    obtain ⟨k, h, rfl, hk, c, g⟩ := hrel
    clear c0 g0
    by_cases hlt : k < len
    · obtain ⟨b, off, rfl, hb, z, hz, z0, z1⟩ := cd.2 k hlt
      have hz' : wr.cell? ⟨b, off + k, none⟩ = some (.int .u8 z) := g.cell hz (by simp)
      have c2 := c.c2; have f2 := c.f 2
      clear hz
      go_wp2
      go_region
      go_wp2
      go_roundw
      case rel => exact ⟨k + 1, _, by go_num, by omega, (c.set2 _).drewN 1, grown_drew (grown_own g (grown_set _ _ _ _) (Nat.le_refl _))⟩
      case measure => simp [intOf]; omega
    · go_wp2
      go_ret
      refine ⟨rfl, g, ⟨0, h, hB, c.block, c.at0, c.atL⟩, hl, fun j hj => ?_⟩
      obtain ⟨b, off, ha, hb, z, hz, z0, z1⟩ := cd.2 j hj
      exact ⟨b, off, ha, hb, z, g.cell hz (by simp), z0, z1⟩

end Go.Proofs.Ytadnnbinmghabaa
