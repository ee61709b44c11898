/- Contracts of BitsOf, of the program and of the model: at every two numbers both answer ofS of them and ofOk of them. -/
import Derived.Test.YthhhhfpgmolcmabOk
import Derived.Laws.BytesArg
import Derived.IntWalk
namespace Go.Proofs.Ythhhhfpgmolcmab
open Go.RowKit

/-- Does n fit in count bits? -/
def ofOk (n count : Int) : Bool := decide (0 ≤ count) && decide (count ≤ 32) && decide (0 ≤ n) && decide (n < 2 ^ count.toNat)
/-- The byte at place i of the c bits of n. -/
def dig (n : Int) (c i : Nat) : Int := 48 + n / 2 ^ (c - 1 - i) % 2
def digs (n : Int) (c : Nat) : List Int := (List.range c).map (dig n c)
def ofS (n count : Int) : ByteArray := if ofOk n count then strOfNums (digs n count.toNat) else ByteArray.empty
theorem ofOk_no {n count : Int} (h : count < 0 ∨ 32 < count ∨ n < 0 ∨ ¬ n < 2 ^ count.toNat) : ofOk n count = false := by
  simp only [ofOk, Bool.and_eq_false_iff, decide_eq_false_iff_not]; omega
theorem ofOk_yes {n : Int} {c : Nat} (h1 : c ≤ 32) (h2 : 0 ≤ n) (h3 : n < 2 ^ c) : ofOk n (c : Int) = true := by
  simp only [ofOk, Bool.and_eq_true, decide_eq_true_eq, Int.toNat_natCast]; omega
theorem ofS_no {n count : Int} (h : ofOk n count = false) : ofS n count = ByteArray.empty := by simp [ofS, h]
theorem ofS_yes {n : Int} {c : Nat} (h : ofOk n (c : Int) = true) : ofS n (c : Int) = strOfNums (digs n c) := by simp [ofS, h]
theorem ret_text {a b : ByteArray} {c d : Bool} (h : a = b) (k : c = d) : Ending.returned (.tuple #[.string a, .bool c]) = .returned (.tuple #[.string b, .bool d]) := by rw [h, k]

/-- A row of c bytes, byte i being f i. -/
def brow (c : Nat) (f : Nat → Int) : Array Value := ((List.range c).map fun i => Value.int .u8 (f i)).toArray
theorem brow_size (c : Nat) (f : Nat → Int) : (brow c f).size = c := by simp [brow]
theorem brow_get {c : Nat} (f : Nat → Int) {i : Nat} (h : i < c) : (brow c f)[i]? = some (.int .u8 (f i)) := by
  simp [brow, h]
theorem brow_set {c : Nat} (f g : Nat → Int) (i : Nat) (v : Int) (hv : ∀ j, j < c → g j = if j = i then v else f j) :
    (brow c f).setIfInBounds i (.int .u8 v) = brow c g := by
  apply Array.ext
  · simp [brow]
  · intro j h1 h2
    have hj : j < c := by simpa [brow_size] using h2
    have := hv j hj
    simp only [brow, List.getElem_toArray, List.getElem_map, List.getElem_range] at *
    rw [Array.getElem_setIfInBounds (by simpa using hj)]
    by_cases e : i = j
    · subst e; simp [this]
    · rw [if_neg e, this, if_neg (Ne.symm e)]; simp
theorem brow_made (c : Nat) : madeCells #[.int .u8 0] (c * 1) = brow c fun _ => 0 := by
  apply Array.ext
  · simp [madeCells, brow]
  · intro j h1 h2
    simp [madeCells, brow, Nat.mod_one]

theorem i64_and1 (n : Int) : bits .and .i64 n 1 = n % 2 := by
  have h1 : (BitVec.ofInt 64 1).toNat = 2 ^ 1 - 1 := by decide
  have key : (BitVec.ofInt 64 n &&& BitVec.ofInt 64 1).toNat = (n % ((2 ^ 64 : Nat) : Int)).toNat % 2 ^ 1 := by
    rw [BitVec.toNat_and, BitVec.toNat_ofInt, h1, Nat.and_two_pow_sub_one_eq_mod]
  show IntKind.i64.wrap ((BitVec.ofInt 64 n &&& BitVec.ofInt 64 1).toNat : Nat) = n % 2
  rw [key, IntKind.wrap_i64]
  omega
theorem dig_of (n : Int) (c k : Nat) : (48 + bits .and .i64 (n / 2 ^ (c - 1 - k)) 1) % 256 = dig n c k := by
  rw [i64_and1]; unfold dig; omega

theorem implOf_no (n count : Int) (w : World) (h : ofOk n count = false) :
    Calls Try.prog 59 #[.int .i64 n, .int .i64 count] w fun e w' => e = .returned (.tuple #[.string (ofS n count), .bool (ofOk n count)]) ∧ Below w.heap.size w w' := by
  have HS := Lib.hid (ofS_no h)
  have HO := Lib.hid h
  by_cases h1 : count < 0
  · clear h
    go_enter Try.func59, Try.ntmps59
    go_wp2
    go_ret2
    exact ⟨ret_text HS.out.symm HO.out.symm, Below.refl _ _⟩
  by_cases h2 : 32 < count
  · clear h
    go_enter Try.func59, Try.ntmps59
    go_wp2
    go_ret2
    exact ⟨ret_text HS.out.symm HO.out.symm, Below.refl _ _⟩
  by_cases h3 : n < 0
  · clear h
    go_enter Try.func59, Try.ntmps59
    go_wp2
    go_ret2
    exact ⟨ret_text HS.out.symm HO.out.symm, Below.refl _ _⟩
  obtain ⟨c, rfl⟩ := Int.eq_ofNat_of_zero_le (show 0 ≤ count by omega)
  clear h
  go_enter Try.func59, Try.ntmps59
  have h4 : (n / 2 ^ c != 0) = true := by
    rw [bne_iff_ne]
    intro e
    have : n < 2 ^ c := by
      have h5 := Int.lt_ediv_add_one_mul_self n (show (0 : Int) < 2 ^ c from Int.pow_pos (by decide))
      rw [e] at h5; simpa using h5
    rw [ofOk_yes (by omega) (by omega) this] at HO
    cases HO.out
  go_wp2
  go_ret2
  exact ⟨ret_text HS.out.symm HO.out.symm, Below.refl _ _⟩

theorem make_bytes (c : Nat) (hc : c ≤ 32) (W : World) : (Instr.makeSlice 22 (.int .i64 c) (.int .i64 c)).run Try.prog W =
    .ok (.slice (some ⟨W.heap.size, 0, none⟩) c c) (W.alloc (.cells (brow c fun _ => 0) 5)) := by
  obtain ⟨i0, hi, hz0, hz1, hz2⟩ := info_parts (show (Try.prog.info? 5).map (fun i => (i.zero, i.size, i.bytes)) = some (some (.int .u8 0), 1, 1) by kernel_rfl)
  have := run_make (P := Try.prog) W 22 5 i0 (.int .u8 0) Try.underlying22 hi hz0 .i64 .i64 c c (by omega) (Int.le_refl _) (by rw [hz2]; omega) (by omega)
  rw [this, hz1]
  simp only [Int.toNat_natCast]
  rw [show (Value.int .u8 0).cells = #[.int .u8 0] from rfl, brow_made]

theorem implOf_yes (n : Int) (c : Nat) (w : World) (h1 : c ≤ 32) (h2 : 0 ≤ n) (h3 : n < 2 ^ c) :
    Calls Try.prog 59 #[.int .i64 n, .int .i64 c] w fun e w' => e = .returned (.tuple #[.string (ofS n c), .bool (ofOk n c)]) ∧ Below w.heap.size w w' := by
  have HO := Lib.hid (ofOk_yes h1 h2 h3)
  have HS := Lib.hid (ofS_yes (ofOk_yes h1 h2 h3))
  have h4 : (n / 2 ^ c != 0) = false := by
    rw [bne_eq_false_iff_eq]; exact Int.ediv_eq_zero_of_lt h2 h3
  have hmk := make_bytes c h1
  clear h3
  go_enter Try.func59, Try.ntmps59
  go_wp2
  clear hmk
  go_loopw [7, 8, 29] (fun _ _ i wr => ∃ k : Nat, k ≤ c ∧ i = .int .i64 k ∧ wr = w.alloc (.cells (brow c fun j => if j < k then dig n c j else 0) 5)) (fun _ _ i _ => c - (intOf i).toNat)
  case atStart => exact ⟨0, Nat.zero_le _, rfl, by simp⟩
  case round =>
    obtain ⟨k, hk, rfl, rfl⟩ := hrel
    by_cases hlt : k < c
    · have hcell := brow_get (fun j => if j < k then dig n c j else 0) hlt
      rw [if_neg (Nat.lt_irrefl k)] at hcell
      go_wp2
      go_roundw
      case rel =>
        refine ⟨k + 1, by omega, by go_num, ?_⟩
        rw [dig_of, brow_set _ (fun j => if j < k + 1 then dig n c j else 0) k (dig n c k)]
        intro j _
        by_cases e : j = k
        · subst e; simp
        · rw [if_neg e]
          by_cases e2 : j < k
          · rw [if_pos e2, if_pos (by omega)]
          · rw [if_neg e2, if_neg (by omega)]
      case measure => simp [intOf]; omega
    · obtain rfl : k = c := by omega
      have hcv := run_convert_bytes_arg (P := Try.prog) (w.alloc (.cells (brow k fun j => if j < k then dig n k j else 0) 5)) 22 5 Try.underlying22 Try.underlying5 w.heap.size 0 k k (digs n k) (by simp [digs])
        (by
          intro i hi
          rw [World.cell?_alloc_at _ _ _ _ rfl, Nat.zero_add, brow_get _ hi, if_pos hi]
          simp [digs, hi]) 9 Try.underlying9
      go_wp2
      go_ret2
      exact ⟨ret_text HS.out.symm HO.out.symm, (Below.refl _ _).alloc (Nat.le_refl _) _⟩

/-- impl.BitsOf. -/
theorem implOf (n count : Int) (w : World) :
    Calls Try.prog 59 #[.int .i64 n, .int .i64 count] w fun e w' => e = .returned (.tuple #[.string (ofS n count), .bool (ofOk n count)]) ∧ Below w.heap.size w w' := by
  cases h : ofOk n count with
  | false => have := implOf_no n count w h; rwa [h] at this
  | true =>
    simp only [ofOk, Bool.and_eq_true, decide_eq_true_eq] at h
    obtain ⟨⟨⟨h0, h1⟩, h2⟩, h3⟩ := h
    obtain ⟨c, rfl⟩ := Int.eq_ofNat_of_zero_le h0
    have h3' : n < 2 ^ c := by simpa using h3
    have := implOf_yes n c w (by omega) h2 h3'
    rwa [ofOk_yes (by omega) h2 h3'] at this

theorem wrap_pow {c : Nat} (h : c ≤ 32) : wrap64 (2 ^ c) = 2 ^ c := by
  have h3 : (2 : Int) ^ c ≤ 2 ^ 32 := by exact_mod_cast Nat.pow_le_pow_right (n := 2) (by decide) h
  have h4 : (0 : Int) ≤ 2 ^ c := Int.le_of_lt (Int.pow_pos (by decide))
  exact IntWalk.wrap64_in _ ⟨by omega, by omega⟩

theorem specOf_no (n count : Int) (w : World) (h : ofOk n count = false) :
    Calls Try.prog 64 #[.int .i64 n, .int .i64 count] w fun e w' => e = .returned (.tuple #[.string (ofS n count), .bool (ofOk n count)]) ∧ Below w.heap.size w w' := by
  have HS := Lib.hid (ofS_no h)
  have HO := Lib.hid h
  by_cases h1 : count < 0
  · clear h
    go_enter Try.func64, Try.ntmps64
    go_wp2
    go_ret2
    exact ⟨ret_text HS.out.symm HO.out.symm, Below.refl _ _⟩
  by_cases h2 : 32 < count
  · clear h
    go_enter Try.func64, Try.ntmps64
    go_wp2
    go_ret2
    exact ⟨ret_text HS.out.symm HO.out.symm, Below.refl _ _⟩
  by_cases h3 : n < 0
  · clear h
    go_enter Try.func64, Try.ntmps64
    go_wp2
    go_ret2
    exact ⟨ret_text HS.out.symm HO.out.symm, Below.refl _ _⟩
  obtain ⟨c, rfl⟩ := Int.eq_ofNat_of_zero_le (show 0 ≤ count by omega)
  clear h
  have h4 : wrap64 (2 ^ c) ≤ n := by
    rw [wrap_pow (by omega)]
    apply Classical.byContradiction
    intro e
    rw [ofOk_yes (by omega) (by omega) (by omega)] at HO
    cases HO.out
  go_enter Try.func64, Try.ntmps64
  go_wp2
  go_ret2
  exact ⟨ret_text HS.out.symm HO.out.symm, Below.refl _ _⟩

theorem div_pow (n : Int) (j : Nat) : n / 2 ^ j / 2 = n / 2 ^ (j + 1) := by
  rw [Int.ediv_ediv_of_nonneg (Int.le_of_lt (Int.pow_pos (by decide))), Int.pow_succ]

set_option maxRecDepth 4000 in
theorem specOf_yes (n : Int) (c : Nat) (w : World) (h1 : c ≤ 32) (h2 : 0 ≤ n) (h3 : n < 2 ^ c) :
    Calls Try.prog 64 #[.int .i64 n, .int .i64 c] w fun e w' => e = .returned (.tuple #[.string (ofS n c), .bool (ofOk n c)]) ∧ Below w.heap.size w w' := by
  have HO := Lib.hid (ofOk_yes h1 h2 h3)
  have HS := Lib.hid (ofS_yes (ofOk_yes h1 h2 h3))
  have h4 : n < wrap64 (2 ^ c) := by rw [wrap_pow h1]; exact h3
  have hmk := make_bytes c h1
  have hb : (2 : Int) ^ c ≤ 2 ^ 32 := by exact_mod_cast Nat.pow_le_pow_right (n := 2) (by decide) h1
  have hn : n ≤ 4294967296 := by omega
  clear h3 hb
  go_enter Try.func64, Try.ntmps64
  go_wp2
  clear hmk
  go_loopw [0, 7] (fun v i wr => ∃ j : Nat, j ≤ c ∧ i = .int .i64 ((c : Int) - 1 - j) ∧ v = .int .i64 (n / 2 ^ j) ∧ wr = w.alloc (.cells (brow c fun q => if c ≤ q + j then dig n c q else 0) 5)) (fun _ i _ => (intOf i + 1).toNat)
  case atStart => exact ⟨0, Nat.zero_le _, by simp, by simp, by
    congr 2
    apply Array.ext
    · simp [brow]
    · intro i h5 h6
      have : i < c := by simpa [brow_size] using h5
      simp [brow]; omega⟩
  case round =>
    obtain ⟨j, hj, rfl, rfl, rfl⟩ := hrel
    have q1 : 0 ≤ n / 2 ^ j := Int.ediv_nonneg h2 (Int.le_of_lt (Int.pow_pos (by decide)))
    have q2 : n / 2 ^ j ≤ n := Int.ediv_le_self _ h2
    by_cases hlt : j < c
    · have hcell := brow_get (fun q => if c ≤ q + j then dig n c q else 0) (show c - 1 - j < c by omega)
      rw [if_neg (by omega)] at hcell
      have HD : Hid (48 + n / 2 ^ j % 2 = dig n c (c - 1 - j)) := by
        unfold dig; rw [show c - 1 - (c - 1 - j) = j from by omega]; rfl
      have HP := Lib.hid (div_pow n j)
      go_wp2
      go_roundw
      case rel =>
        refine ⟨j + 1, by omega, by congr 1; omega, by rw [HP.out], ?_⟩
        rw [HD.out, brow_set _ (fun q => if c ≤ q + (j + 1) then dig n c q else 0) (c - 1 - j) (dig n c (c - 1 - j))]
        intro q hq
        by_cases e : q = c - 1 - j
        · rw [if_pos e, if_pos (by omega), e]
        · rw [if_neg e]
          by_cases e2 : c ≤ q + j
          · rw [if_pos e2, if_pos (by omega)]
          · rw [if_neg e2, if_neg (by omega)]
      case measure => simp [intOf]; omega
    · obtain rfl : j = c := by omega
      rw [show (fun q => if j ≤ q + j then dig n j q else 0) = dig n j from funext fun q => if_pos (by omega)]
      have hcv := run_convert_bytes_arg (P := Try.prog) (w.alloc (.cells (brow j (dig n j)) 5)) 22 5 Try.underlying22 Try.underlying5 w.heap.size 0 j j (digs n j) (by simp [digs])
        (by
          intro i hi
          rw [World.cell?_alloc_at _ _ _ _ rfl, Nat.zero_add, brow_get _ hi]
          simp [digs, hi]) 9 Try.underlying9
      go_wp2
      go_ret2
      exact ⟨ret_text HS.out.symm HO.out.symm, (Below.refl _ _).alloc (Nat.le_refl _) _⟩

/-- spec.BitsOf. -/
theorem specOf (n count : Int) (w : World) :
    Calls Try.prog 64 #[.int .i64 n, .int .i64 count] w fun e w' => e = .returned (.tuple #[.string (ofS n count), .bool (ofOk n count)]) ∧ Below w.heap.size w w' := by
  cases h : ofOk n count with
  | false => have := specOf_no n count w h; rwa [h] at this
  | true =>
    simp only [ofOk, Bool.and_eq_true, decide_eq_true_eq] at h
    obtain ⟨⟨⟨h0, h1⟩, h2⟩, h3⟩ := h
    obtain ⟨c, rfl⟩ := Int.eq_ofNat_of_zero_le h0
    have h3' : n < 2 ^ c := by simpa using h3
    have := specOf_yes n c w (by omega) h2 h3'
    rwa [ofOk_yes (by omega) h2 h3'] at this

end Go.Proofs.Ythhhhfpgmolcmab
