/- Contracts of the model's cursor (l1New) and of its draws of texts (l1Bend, l1DrawAny): each answers some text within its bounds, and writes into nothing that was there. -/
import Derived.Test.YtnabcnmgfchceaaRows2
namespace Go.Proofs.Ytnabcnmgfchceaa
open Go.RowKit

theorem grown_own {w wr w' : World} {r : Option Nat} {g : Nat} (h : w.grownBy wr r) (k : wr.grownBy w' (some g)) (hg : w.heap.size ≤ g) : w.grownBy w' r :=
  ⟨k.os.trans h.os, k.tape.trans h.tape, k.output.trans h.output, Nat.le_trans h.size k.size,
    fun i hi hr => (k.block i (Nat.lt_of_lt_of_le hi h.size) (fun e => by cases e; omega)).trans (h.block i hi hr)⟩
theorem grown_drew {w w' : World} {r : Option Nat} (h : w.grownBy w' r) : w.grownBy w'.drew r := ⟨h.os, h.tape, h.output, h.size, h.block⟩
theorem grown_of_drew {w w' : World} {r : Option Nat} (h : w.drew.grownBy w' r) : w.grownBy w' r := ⟨h.os, h.tape, h.output, h.size, h.block⟩
theorem St.drew {B p : Nat} {a : Option Addr} {len cap : Nat} {w : World} (s : St B p a len cap w) : St B p a len cap w.drew := s.step (r := none) ⟨rfl, rfl, rfl, Nat.le_refl _, fun _ _ _ => rfl⟩ (fun _ h => by cases h)
theorem grown_none {w wr w' : World} {r : Option Nat} (h : w.grownBy wr r) (k : wr.grownBy w' none) : w.grownBy w' r := grown_trans h (grown_some k r)

/-- spec.l1New. -/
theorem newAny {B : Nat} {a : Option Addr} {len cap : Nat} (w : World) (cd : Code B a len w) (hB : B ≤ w.heap.size) :
    Calls Try.prog 29 #[.slice a len cap] w fun e w' => e = .returned (.pointer (some ⟨w.heap.size, 0, none⟩)) ∧ w.grownBy w' none ∧ St B w.heap.size a len cap w' := by
  have hl := cd.1
  go_enter Try.func29, Try.ntmps29
  go_wp2
  go_loop [3, 4] (fun h i => ∃ (n : Int) (k : Nat), h = .int .i64 n ∧ i = .int .i64 k ∧ k ≤ len) (fun _ i => len - (intOf i).toNat)
  case atStart => exact ⟨_, 0, rfl, rfl, Nat.zero_le _⟩
  case round =>
    obtain ⟨n, k, rfl, rfl, hk⟩ := hrel
    by_cases hlt : k < len
    · obtain ⟨b, off, rfl, hb, z, hz, z0, z1⟩ := cd.2 k hlt
      go_wp2
      go_round
      case rel => exact ⟨_, k + 1, rfl, by go_num, by omega⟩
      case measure => simp [intOf]; omega
    · go_wp2
      go_ret
      have g : w.grownBy (w.alloc (.cells #[.slice a len cap, .int .i64 0, .int .i64 n] 67)) none := World.grownBy_alloc w _ none
      refine ⟨rfl, g, ⟨0, n, hB, heap_alloc_new w _, Int.le_refl _, by omega⟩, hl, fun j hj => ?_⟩
      obtain ⟨b, off, ha, hb, z, hz, z0, z1⟩ := cd.2 j hj
      exact ⟨b, off, ha, hb, z, g.cell hz (by simp), z0, z1⟩

end Go.Proofs.Ytnabcnmgfchceaa
