/- The exact laws' own small functions over lists of int64: szInt64S, toInt64S, eqInt64S. -/
import Derived.Test.YtnabcnmgfchceaaFok
namespace Go.Proofs.Ytnabcnmgfchceaa
open Go.RowKit

/-- A row of c int64s, number i being f i. -/
def irow (c : Nat) (f : Nat → Int) : Array Value := ((List.range c).map fun i => Value.int .i64 (f i)).toArray
theorem irow_size (c : Nat) (f : Nat → Int) : (irow c f).size = c := by simp [irow]
theorem irow_get {c : Nat} (f : Nat → Int) {i : Nat} (h : i < c) : (irow c f)[i]? = some (.int .i64 (f i)) := by
  simp [irow, h]
theorem irow_set {c : Nat} (f g : Nat → Int) (i : Nat) (v : Int) (hv : ∀ j, j < c → g j = if j = i then v else f j) :
    (irow c f).setIfInBounds i (.int .i64 v) = irow c g := by
  apply Array.ext
  · simp [irow]
  · intro j h1 h2
    have hj : j < c := by simpa [irow_size] using h2
    have := hv j hj
    simp only [irow, List.getElem_toArray, List.getElem_map, List.getElem_range] at *
    rw [Array.getElem_setIfInBounds (by simpa using hj)]
    by_cases e : i = j
    · subst e; simp [this]
    · rw [if_neg e, this, if_neg (Ne.symm e)]; simp
theorem irow_made (c : Nat) : madeCells #[.int .i64 0] (c * 1) = irow c fun _ => 0 := by
  apply Array.ext
  · simp [madeCells, irow]
  · intro j h1 h2
    simp [madeCells, irow, Nat.mod_one]
theorem make_ints (c : Nat) (hc : c ≤ 1048576) (W : World) : (Instr.makeSlice 29 (.int .i64 c) (.int .i64 c)).run Try.prog W =
    .ok (.slice (some ⟨W.heap.size, 0, none⟩) c c) (W.alloc (.cells (irow c fun _ => 0) 2)) := by
  obtain ⟨i0, hi, hz0, hz1, hz2⟩ := info_parts (show (Try.prog.info? 2).map (fun i => (i.zero, i.size, i.bytes)) = some (some (.int .i64 0), 1, 8) by kernel_rfl)
  have := run_make (P := Try.prog) W 29 2 i0 (.int .i64 0) Try.underlying29 hi hz0 .i64 .i64 c c (by omega) (Int.le_refl _) (by rw [hz2]; omega) (by omega)
  rw [this, hz1]
  simp only [Int.toNat_natCast]
  rw [show (Value.int .i64 0).cells = #[.int .i64 0] from rfl, irow_made]


theorem Nums.made {a : Option Addr} {D : List Int} {w : World} (hd : Nums a D w) (w1 : World) (T : TypeId) :
    Nums (some ⟨w1.heap.size, 0, none⟩) D (w1.alloc (.cells (irow D.length fun j => nth D j) T)) := by
  refine ⟨hd.1, hd.2.1, fun j hj => ⟨w1.heap.size, 0, rfl, ?_⟩⟩
  rw [World.cell?_alloc_at _ _ _ _ rfl, Nat.zero_add, irow_get _ hj]

/-- laws.eqInt64S, of two lists that hold the same. -/
theorem eqInts (a b : Option Addr) (D : List Int) (c c' : Nat) (w : World) (ha : Nums a D w) (hb : Nums b D w) :
    Calls Try.prog 24 #[.slice a D.length c, .slice b D.length c'] w fun e w' => e = .returned (.bool true) ∧ ∃ n, w' = w.drewN n := by
  have hm := ha.1
  unfold maxLen at hm
  go_enter Try.func24, Try.ntmps24
  go_wp2
  go_loopw [5] (fun i wr => ∃ k n : Nat, k ≤ D.length ∧ i = .int .i64 k ∧ wr = w.drewN n) (fun i _ => D.length - (intOf i).toNat)
  case atStart => exact ⟨0, 0, Nat.zero_le _, rfl, rfl⟩
  case round =>
    obtain ⟨k, n, hk, rfl, rfl⟩ := hrel
    by_cases hlt : k < D.length
    · obtain ⟨bl, o, rfl, hc⟩ := ha.2.2 k hlt
      obtain ⟨bl', o', rfl, hc'⟩ := hb.2.2 k hlt
      have hki : (k : Int) < D.length := by omega
      generalize nth D k = v at hc hc'
      go_wp2
      go_quiet (fail)
      go_wp2
      go_roundw
      case rel => exact ⟨k + 1, _, by omega, by go_num, rfl⟩
      case measure => simp [intOf]; omega
    · go_wp2
      go_ret
      exact ⟨rfl, n, rfl⟩

end Go.Proofs.Ytnabcnmgfchceaa
