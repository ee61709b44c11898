/- Contracts of the model's cursor (l1New) and of its draws of texts (l1Bend, l1DrawAny): each answers some text within its bounds, and writes into nothing that was there. -/
import Derived.Test.YtfejoehmfobfkaaRows2
namespace Go.Proofs.Ytfejoehmfobfkaa
open Go.RowKit

/-- spec.l1New. -/
theorem newAny {B : Nat} {a : Option Addr} {len cap : Nat} (w : World) (cd : Code B a len w) (hB : B ≤ w.heap.size) :
    Calls Try.prog 20 #[.slice a len cap] w fun e w' => e = .returned (.pointer (some ⟨w.heap.size, 0, none⟩)) ∧ w.grownBy w' none ∧ St B w.heap.size a len cap w' := by
  have hl := cd.1
  go_enter Try.func20, Try.ntmps20
  go_wp2
  go_loop [3, 4] (fun h i => ∃ (n : Int) (k : Nat), h = .int .i64 n ∧ i = .int .i64 k ∧ k ≤ len) (fun _ i => len - (intOf i).toNat)
  case atStart => exact ⟨_, 0, rfl, rfl, Nat.zero_le _⟩
  case round =>
    obtain ⟨n, k, rfl, rfl, hk⟩ := hrel
    by_cases hlt : k < len
    · obtain ⟨b, off, rfl, hb, z, hz, z0, z1⟩ := cd.2 k hlt
      go_wp2
      go_round
      case rel => exact ⟨_, k + 1, rfl, by go_num, by omega⟩
      case measure => simp [intOf]; omega
    · go_wp2
      go_ret
      have g : w.grownBy (w.alloc (.cells #[.slice a len cap, .int .i64 0, .int .i64 n] 44)) none := World.grownBy_alloc w _ none
      refine ⟨rfl, g, ⟨0, n, hB, heap_alloc_new w _, Int.le_refl _, by omega⟩, hl, fun j hj => ?_⟩
      obtain ⟨b, off, ha, hb, z, hz, z0, z1⟩ := cd.2 j hj
      exact ⟨b, off, ha, hb, z, g.cell hz (by simp), z0, z1⟩

end Go.Proofs.Ytfejoehmfobfkaa
