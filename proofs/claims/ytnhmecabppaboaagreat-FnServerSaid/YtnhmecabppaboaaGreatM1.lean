/- Contracts of BitsOk, of the program and of the model: at every text both answer okB of it; the program's goes through the text by runes, the model's by bytes. -/
import Derived.Test.YtnhmecabppaboaaGreatM0
import Derived.Test.YtnhmecabppaboaaGreatRows
import Derived.WalkKit
import Derived.WalkSpells
import Derived.LoopTactic
import Derived.Lib.Hide
import Derived.Laws.BytesArg
import Derived.IntWalk

set_option maxRecDepth 20000
namespace Go.Proofs.YtnhmecabppaboaaGreat
open Go.RowKit

/-- A byte out of a text at a place that is in it. -/
theorem index_at (s : ByteArray) (i : Int) (n : Nat) (w : World) (hn : n < s.size) (hi : i = n) :
    (Instr.index 9 (.string s) (.int .i64 i)).run Tryz.prog w = .ok (.int .u8 (s[n]'hn).toNat) w := by
  subst hi
  rw [run_index_string w _ s .i64 _ Tryz.underlying9, dif_pos (by omega)]
  rfl

/-- spec.BitsOk. -/
theorem specOk (s : ByteArray) (w : World) (hs : s.size ≤ maxLen) :
    Calls Tryz.prog 117 #[.string s] w fun e w' => e = .returned (.bool (okB s)) ∧ w = w' := by
  unfold maxLen at hs
  go_enter Tryz.func117, Tryz.ntmps117
  go_wp2
  go_loop [3] (fun i => ∃ k : Nat, k ≤ s.size ∧ i = .int .i64 k ∧ Upto s k) (fun i => s.size - (intOf i).toNat)
  case atStart => exact ⟨0, Nat.zero_le _, rfl, Upto.zero s⟩
  case round =>
    obtain ⟨k, hk, rfl, hr⟩ := hrel
    by_cases hlt : k < s.size
    · go_wp2
      all_goals first
        | (go_ret; exact ⟨ret_bool (okB_no hlt (bit_of_and ‹_›)).symm, rfl⟩)
        | (go_round
           case rel => exact ⟨k + 1, by omega, by go_num, hr.succ hlt (by first | exact bit_48 (by omega) | exact bit_of_or ‹_›)⟩
           case measure => simp [intOf]; omega)
    · go_wp2
      go_ret
      exact ⟨ret_bool (okB_upto_dec hr (by omega)).symm, rfl⟩

/-- What the program's range over the text meets at place k: the byte itself where it is a bit; else a rune that is neither. -/
theorem rune_no (s : ByteArray) (k : Nat) (hk : k < s.size) (h : bit s[k] = false) : ((Utf8.decode s k).1 : Int) ≠ 48 ∧ ((Utf8.decode s k).1 : Int) ≠ 49 := by
  have hn := bit_no h
  by_cases ha : (s[k]'hk).toNat < 128
  · rw [decode_ascii s k hk ha]
    show ((s[k].toNat : Nat) : Int) ≠ 48 ∧ ((s[k].toNat : Nat) : Int) ≠ 49
    omega
  · have := (decode_high s k hk (by omega)).1
    omega

theorem below_iter (w : World) (s : ByteArray) (k : Nat) : Below w.heap.size w (w.iter s k) := (Below.refl _ _).alloc (Nat.le_refl _) _

/-- impl.BitsOk. -/
theorem implOk (s : ByteArray) (w : World) (hs : s.size ≤ maxLen) :
    Calls Tryz.prog 121 #[.string s] w fun e w' => e = .returned (.bool (okB s)) ∧ Below w.heap.size w w' := by
  unfold maxLen at hs
  by_cases hl : 400 < s.size
  · go_enter Tryz.func121, Tryz.ntmps121
    go_wp2
    go_ret
    exact ⟨ret_bool (okB_long hl).symm, Below.refl _ _⟩
  · go_enter Tryz.func121, Tryz.ntmps121
    go_wp2
    go_loopw [4] (fun _ wr => ∃ k : Nat, k ≤ s.size ∧ wr = w.iter s k ∧ Upto s k) (fun _ wr => s.size - wr.iterPos w.heap.size)
    case atStart => exact ⟨0, Nat.zero_le _, rfl, Upto.zero s⟩
    case round =>
      obtain ⟨k, hk, rfl, hr⟩ := hrel
      by_cases hlt : k < s.size
      · cases hb : bit s[k] with
        | true =>
          have hnx : ∀ ty, (Instr.next (.pointer (some ⟨w.heap.size, 0, none⟩)) true ty).run Tryz.prog (w.iter s k) = _ := fun ty => run_next_ascii w s k ty hlt (by have := bit_cases hb; omega)
          go_wp2
          all_goals first
            | (go_ret; exact absurd hb (by rw [bit_of_and ‹_›]; simp))
            | (go_roundw
               case rel => exact ⟨k + 1, by omega, rfl, hr.succ hlt hb⟩
               case measure => simp; omega)
        | false =>
          have hnx : ∀ ty, (Instr.next (.pointer (some ⟨w.heap.size, 0, none⟩)) true ty).run Tryz.prog (w.iter s k) = _ := fun ty => run_next_any w s k ty hlt
          have hn := rune_no s k hlt hb
          go_wp2
          all_goals first
            | (go_ret; exact ⟨ret_bool (okB_no hlt hb).symm, below_iter w s _⟩)
            | exact absurd hn (fun hn => not_or_ne ‹_› hn)
      · have hnx : ∀ ty, (Instr.next (.pointer (some ⟨w.heap.size, 0, none⟩)) true ty).run Tryz.prog (w.iter s k) = _ := fun ty => run_next_end w s k ty hlt
        go_wp2
        go_ret
        exact ⟨ret_bool (okB_upto hr (by omega) (by omega)).symm, below_iter w s k⟩

end Go.Proofs.YtnhmecabppaboaaGreat

/- Contracts of BitsOf, of the program and of the model: at every two numbers both answer ofS of them and ofOk of them. -/

namespace Go.Proofs.YtnhmecabppaboaaGreat
open Go.RowKit

/-- Does n fit in count bits? -/
def ofOk (n count : Int) : Bool := decide (0 ≤ count) && decide (count ≤ 32) && decide (0 ≤ n) && decide (n < 2 ^ count.toNat)
/-- The byte at place i of the c bits of n. -/
def dig (n : Int) (c i : Nat) : Int := 48 + n / 2 ^ (c - 1 - i) % 2
def digs (n : Int) (c : Nat) : List Int := (List.range c).map (dig n c)
def ofS (n count : Int) : ByteArray := if ofOk n count then strOfNums (digs n count.toNat) else ByteArray.empty
theorem ofOk_no {n count : Int} (h : count < 0 ∨ 32 < count ∨ n < 0 ∨ ¬ n < 2 ^ count.toNat) : ofOk n count = false := by
  simp only [ofOk, Bool.and_eq_false_iff, decide_eq_false_iff_not]; omega
theorem ofOk_yes {n : Int} {c : Nat} (h1 : c ≤ 32) (h2 : 0 ≤ n) (h3 : n < 2 ^ c) : ofOk n (c : Int) = true := by
  simp only [ofOk, Bool.and_eq_true, decide_eq_true_eq, Int.toNat_natCast]; omega
theorem ofS_no {n count : Int} (h : ofOk n count = false) : ofS n count = ByteArray.empty := by simp [ofS, h]
theorem ofS_yes {n : Int} {c : Nat} (h : ofOk n (c : Int) = true) : ofS n (c : Int) = strOfNums (digs n c) := by simp [ofS, h]
theorem ret_text {a b : ByteArray} {c d : Bool} (h : a = b) (k : c = d) : Ending.returned (.tuple #[.string a, .bool c]) = .returned (.tuple #[.string b, .bool d]) := by rw [h, k]

/-- A row of c bytes, byte i being f i. -/
def brow (c : Nat) (f : Nat → Int) : Array Value := ((List.range c).map fun i => Value.int .u8 (f i)).toArray
theorem brow_size (c : Nat) (f : Nat → Int) : (brow c f).size = c := by simp [brow]
theorem brow_get {c : Nat} (f : Nat → Int) {i : Nat} (h : i < c) : (brow c f)[i]? = some (.int .u8 (f i)) := by
  simp [brow, h]
theorem brow_set {c : Nat} (f g : Nat → Int) (i : Nat) (v : Int) (hv : ∀ j, j < c → g j = if j = i then v else f j) :
    (brow c f).setIfInBounds i (.int .u8 v) = brow c g := by
  apply Array.ext
  · simp [brow]
  · intro j h1 h2
    have hj : j < c := by simpa [brow_size] using h2
    have := hv j hj
    simp only [brow, List.getElem_toArray, List.getElem_map, List.getElem_range] at *
    rw [Array.getElem_setIfInBounds (by simpa using hj)]
    by_cases e : i = j
    · subst e; simp [this]
    · rw [if_neg e, this, if_neg (Ne.symm e)]; simp
theorem brow_made (c : Nat) : madeCells #[.int .u8 0] (c * 1) = brow c fun _ => 0 := by
  apply Array.ext
  · simp [madeCells, brow]
  · intro j h1 h2
    simp [madeCells, brow, Nat.mod_one]

theorem i64_and1 (n : Int) : bits .and .i64 n 1 = n % 2 := by
  have h1 : (BitVec.ofInt 64 1).toNat = 2 ^ 1 - 1 := by decide
  have key : (BitVec.ofInt 64 n &&& BitVec.ofInt 64 1).toNat = (n % ((2 ^ 64 : Nat) : Int)).toNat % 2 ^ 1 := by
    rw [BitVec.toNat_and, BitVec.toNat_ofInt, h1, Nat.and_two_pow_sub_one_eq_mod]
  show IntKind.i64.wrap ((BitVec.ofInt 64 n &&& BitVec.ofInt 64 1).toNat : Nat) = n % 2
  rw [key, IntKind.wrap_i64]
  omega
theorem dig_of (n : Int) (c k : Nat) : (48 + bits .and .i64 (n / 2 ^ (c - 1 - k)) 1) % 256 = dig n c k := by
  rw [i64_and1]; unfold dig; omega

theorem implOf_no (n count : Int) (w : World) (h : ofOk n count = false) :
    Calls Tryz.prog 136 #[.int .i64 n, .int .i64 count] w fun e w' => e = .returned (.tuple #[.string (ofS n count), .bool (ofOk n count)]) ∧ Below w.heap.size w w' := by
  have HS := Lib.hid (ofS_no h)
  have HO := Lib.hid h
  by_cases h1 : count < 0
  · clear h
    go_enter Tryz.func136, Tryz.ntmps136
    go_wp2
    go_ret2
    exact ⟨ret_text HS.out.symm HO.out.symm, Below.refl _ _⟩
  by_cases h2 : 32 < count
  · clear h
    go_enter Tryz.func136, Tryz.ntmps136
    go_wp2
    go_ret2
    exact ⟨ret_text HS.out.symm HO.out.symm, Below.refl _ _⟩
  by_cases h3 : n < 0
  · clear h
    go_enter Tryz.func136, Tryz.ntmps136
    go_wp2
    go_ret2
    exact ⟨ret_text HS.out.symm HO.out.symm, Below.refl _ _⟩
  obtain ⟨c, rfl⟩ := Int.eq_ofNat_of_zero_le (show 0 ≤ count by omega)
  clear h
  go_enter Tryz.func136, Tryz.ntmps136
  have h4 : (n / 2 ^ c != 0) = true := by
    rw [bne_iff_ne]
    intro e
    have : n < 2 ^ c := by
      have h5 := Int.lt_ediv_add_one_mul_self n (show (0 : Int) < 2 ^ c from Int.pow_pos (by decide))
      rw [e] at h5; simpa using h5
    rw [ofOk_yes (by omega) (by omega) this] at HO
    cases HO.out
  go_wp2
  go_ret2
  exact ⟨ret_text HS.out.symm HO.out.symm, Below.refl _ _⟩

theorem make_bytes (c : Nat) (hc : c ≤ 32) (W : World) : (Instr.makeSlice 22 (.int .i64 c) (.int .i64 c)).run Tryz.prog W =
    .ok (.slice (some ⟨W.heap.size, 0, none⟩) c c) (W.alloc (.cells (brow c fun _ => 0) 5)) := by
  obtain ⟨i0, hi, hz0, hz1, hz2⟩ := info_parts (show (Tryz.prog.info? 5).map (fun i => (i.zero, i.size, i.bytes)) = some (some (.int .u8 0), 1, 1) by kernel_rfl)
  have := run_make (P := Tryz.prog) W 22 5 i0 (.int .u8 0) Tryz.underlying22 hi hz0 .i64 .i64 c c (by omega) (Int.le_refl _) (by rw [hz2]; omega) (by omega)
  rw [this, hz1]
  simp only [Int.toNat_natCast]
  rw [show (Value.int .u8 0).cells = #[.int .u8 0] from rfl, brow_made]

theorem implOf_yes (n : Int) (c : Nat) (w : World) (h1 : c ≤ 32) (h2 : 0 ≤ n) (h3 : n < 2 ^ c) :
    Calls Tryz.prog 136 #[.int .i64 n, .int .i64 c] w fun e w' => e = .returned (.tuple #[.string (ofS n c), .bool (ofOk n c)]) ∧ Below w.heap.size w w' := by
  have HO := Lib.hid (ofOk_yes h1 h2 h3)
  have HS := Lib.hid (ofS_yes (ofOk_yes h1 h2 h3))
  have h4 : (n / 2 ^ c != 0) = false := by
    rw [bne_eq_false_iff_eq]; exact Int.ediv_eq_zero_of_lt h2 h3
  have hmk := make_bytes c h1
  clear h3
  go_enter Tryz.func136, Tryz.ntmps136
  go_wp2
  clear hmk
  go_loopw [7, 8, 29] (fun _ _ i wr => ∃ k : Nat, k ≤ c ∧ i = .int .i64 k ∧ wr = w.alloc (.cells (brow c fun j => if j < k then dig n c j else 0) 5)) (fun _ _ i _ => c - (intOf i).toNat)
  case atStart => exact ⟨0, Nat.zero_le _, rfl, by simp⟩
  case round =>
    obtain ⟨k, hk, rfl, rfl⟩ := hrel
    by_cases hlt : k < c
    · have hcell := brow_get (fun j => if j < k then dig n c j else 0) hlt
      rw [if_neg (Nat.lt_irrefl k)] at hcell
      go_wp2
      go_roundw
      case rel =>
        refine ⟨k + 1, by omega, by go_num, ?_⟩
        rw [dig_of, brow_set _ (fun j => if j < k + 1 then dig n c j else 0) k (dig n c k)]
        intro j _
        by_cases e : j = k
        · subst e; simp
        · rw [if_neg e]
          by_cases e2 : j < k
          · rw [if_pos e2, if_pos (by omega)]
          · rw [if_neg e2, if_neg (by omega)]
      case measure => simp [intOf]; omega
    · obtain rfl : k = c := by omega
      have hcv := run_convert_bytes_arg (P := Tryz.prog) (w.alloc (.cells (brow k fun j => if j < k then dig n k j else 0) 5)) 22 5 Tryz.underlying22 Tryz.underlying5 w.heap.size 0 k k (digs n k) (by simp [digs])
        (by
          intro i hi
          rw [World.cell?_alloc_at _ _ _ _ rfl, Nat.zero_add, brow_get _ hi, if_pos hi]
          simp [digs, hi]) 9 Tryz.underlying9
      go_wp2
      go_ret2
      exact ⟨ret_text HS.out.symm HO.out.symm, (Below.refl _ _).alloc (Nat.le_refl _) _⟩

/-- impl.BitsOf. -/
theorem implOf (n count : Int) (w : World) :
    Calls Tryz.prog 136 #[.int .i64 n, .int .i64 count] w fun e w' => e = .returned (.tuple #[.string (ofS n count), .bool (ofOk n count)]) ∧ Below w.heap.size w w' := by
  cases h : ofOk n count with
  | false => have := implOf_no n count w h; rwa [h] at this
  | true =>
    simp only [ofOk, Bool.and_eq_true, decide_eq_true_eq] at h
    obtain ⟨⟨⟨h0, h1⟩, h2⟩, h3⟩ := h
    obtain ⟨c, rfl⟩ := Int.eq_ofNat_of_zero_le h0
    have h3' : n < 2 ^ c := by simpa using h3
    have := implOf_yes n c w (by omega) h2 h3'
    rwa [ofOk_yes (by omega) h2 h3'] at this

theorem wrap_pow {c : Nat} (h : c ≤ 32) : wrap64 (2 ^ c) = 2 ^ c := by
  have h3 : (2 : Int) ^ c ≤ 2 ^ 32 := by exact_mod_cast Nat.pow_le_pow_right (n := 2) (by decide) h
  have h4 : (0 : Int) ≤ 2 ^ c := Int.le_of_lt (Int.pow_pos (by decide))
  exact IntWalk.wrap64_in _ ⟨by omega, by omega⟩

theorem specOf_no (n count : Int) (w : World) (h : ofOk n count = false) :
    Calls Tryz.prog 131 #[.int .i64 n, .int .i64 count] w fun e w' => e = .returned (.tuple #[.string (ofS n count), .bool (ofOk n count)]) ∧ Below w.heap.size w w' := by
  have HS := Lib.hid (ofS_no h)
  have HO := Lib.hid h
  by_cases h1 : count < 0
  · clear h
    go_enter Tryz.func131, Tryz.ntmps131
    go_wp2
    go_ret2
    exact ⟨ret_text HS.out.symm HO.out.symm, Below.refl _ _⟩
  by_cases h2 : 32 < count
  · clear h
    go_enter Tryz.func131, Tryz.ntmps131
    go_wp2
    go_ret2
    exact ⟨ret_text HS.out.symm HO.out.symm, Below.refl _ _⟩
  by_cases h3 : n < 0
  · clear h
    go_enter Tryz.func131, Tryz.ntmps131
    go_wp2
    go_ret2
    exact ⟨ret_text HS.out.symm HO.out.symm, Below.refl _ _⟩
  obtain ⟨c, rfl⟩ := Int.eq_ofNat_of_zero_le (show 0 ≤ count by omega)
  clear h
  have h4 : wrap64 (2 ^ c) ≤ n := by
    rw [wrap_pow (by omega)]
    apply Classical.byContradiction
    intro e
    rw [ofOk_yes (by omega) (by omega) (by omega)] at HO
    cases HO.out
  go_enter Tryz.func131, Tryz.ntmps131
  go_wp2
  go_ret2
  exact ⟨ret_text HS.out.symm HO.out.symm, Below.refl _ _⟩

theorem div_pow (n : Int) (j : Nat) : n / 2 ^ j / 2 = n / 2 ^ (j + 1) := by
  rw [Int.ediv_ediv_of_nonneg (Int.le_of_lt (Int.pow_pos (by decide))), Int.pow_succ]

set_option maxRecDepth 4000 in
theorem specOf_yes (n : Int) (c : Nat) (w : World) (h1 : c ≤ 32) (h2 : 0 ≤ n) (h3 : n < 2 ^ c) :
    Calls Tryz.prog 131 #[.int .i64 n, .int .i64 c] w fun e w' => e = .returned (.tuple #[.string (ofS n c), .bool (ofOk n c)]) ∧ Below w.heap.size w w' := by
  have HO := Lib.hid (ofOk_yes h1 h2 h3)
  have HS := Lib.hid (ofS_yes (ofOk_yes h1 h2 h3))
  have h4 : n < wrap64 (2 ^ c) := by rw [wrap_pow h1]; exact h3
  have hmk := make_bytes c h1
  have hb : (2 : Int) ^ c ≤ 2 ^ 32 := by exact_mod_cast Nat.pow_le_pow_right (n := 2) (by decide) h1
  have hn : n ≤ 4294967296 := by omega
  clear h3 hb
  go_enter Tryz.func131, Tryz.ntmps131
  go_wp2
  clear hmk
  go_loopw [0, 7] (fun v i wr => ∃ j : Nat, j ≤ c ∧ i = .int .i64 ((c : Int) - 1 - j) ∧ v = .int .i64 (n / 2 ^ j) ∧ wr = w.alloc (.cells (brow c fun q => if c ≤ q + j then dig n c q else 0) 5)) (fun _ i _ => (intOf i + 1).toNat)
  case atStart => exact ⟨0, Nat.zero_le _, by simp, by simp, by
    congr 2
    apply Array.ext
    · simp [brow]
    · intro i h5 h6
      have : i < c := by simpa [brow_size] using h5
      simp [brow]; omega⟩
  case round =>
    obtain ⟨j, hj, rfl, rfl, rfl⟩ := hrel
    have q1 : 0 ≤ n / 2 ^ j := Int.ediv_nonneg h2 (Int.le_of_lt (Int.pow_pos (by decide)))
    have q2 : n / 2 ^ j ≤ n := Int.ediv_le_self _ h2
    by_cases hlt : j < c
    · have hcell := brow_get (fun q => if c ≤ q + j then dig n c q else 0) (show c - 1 - j < c by omega)
      rw [if_neg (by omega)] at hcell
      have HD : Hid (48 + n / 2 ^ j % 2 = dig n c (c - 1 - j)) := by
        unfold dig; rw [show c - 1 - (c - 1 - j) = j from by omega]; rfl
      have HP := Lib.hid (div_pow n j)
      go_wp2
      go_roundw
      case rel =>
        refine ⟨j + 1, by omega, by congr 1; omega, by rw [HP.out], ?_⟩
        rw [HD.out, brow_set _ (fun q => if c ≤ q + (j + 1) then dig n c q else 0) (c - 1 - j) (dig n c (c - 1 - j))]
        intro q hq
        by_cases e : q = c - 1 - j
        · rw [if_pos e, if_pos (by omega), e]
        · rw [if_neg e]
          by_cases e2 : c ≤ q + j
          · rw [if_pos e2, if_pos (by omega)]
          · rw [if_neg e2, if_neg (by omega)]
      case measure => simp [intOf]; omega
    · obtain rfl : j = c := by omega
      rw [show (fun q => if j ≤ q + j then dig n j q else 0) = dig n j from funext fun q => if_pos (by omega)]
      have hcv := run_convert_bytes_arg (P := Tryz.prog) (w.alloc (.cells (brow j (dig n j)) 5)) 22 5 Tryz.underlying22 Tryz.underlying5 w.heap.size 0 j j (digs n j) (by simp [digs])
        (by
          intro i hi
          rw [World.cell?_alloc_at _ _ _ _ rfl, Nat.zero_add, brow_get _ hi]
          simp [digs, hi]) 9 Tryz.underlying9
      go_wp2
      go_ret2
      exact ⟨ret_text HS.out.symm HO.out.symm, (Below.refl _ _).alloc (Nat.le_refl _) _⟩

/-- spec.BitsOf. -/
theorem specOf (n count : Int) (w : World) :
    Calls Tryz.prog 131 #[.int .i64 n, .int .i64 count] w fun e w' => e = .returned (.tuple #[.string (ofS n count), .bool (ofOk n count)]) ∧ Below w.heap.size w w' := by
  cases h : ofOk n count with
  | false => have := specOf_no n count w h; rwa [h] at this
  | true =>
    simp only [ofOk, Bool.and_eq_true, decide_eq_true_eq] at h
    obtain ⟨⟨⟨h0, h1⟩, h2⟩, h3⟩ := h
    obtain ⟨c, rfl⟩ := Int.eq_ofNat_of_zero_le h0
    have h3' : n < 2 ^ c := by simpa using h3
    have := specOf_yes n c w (by omega) h2 h3'
    rwa [ofOk_yes (by omega) h2 h3'] at this

end Go.Proofs.YtnhmecabppaboaaGreat

/- Contracts of the small functions about a frame's head: headedOf, inRange, dataSize of the program, l1In of the model. -/

set_option maxRecDepth 20000
namespace Go.Proofs.YtnhmecabppaboaaGreat
open Go.RowKit

/-- A frame (or a headed frame of the program's own) as the machine's value. -/
abbrev frV (id : Int) (rm : Bool) (ln : Int) (a : Option Addr) (n c : Nat) : Value := .agg #[.int .i64 id, .bool rm, .int .i64 ln, .slice a n c]
abbrev hdV (id : Int) (rm : Bool) (ln : Int) : Value := .agg #[.int .i64 id, .bool rm, .int .i64 ln]

/-- What impl.head.inRange asks. -/
def inR (id ln : Int) : Bool := decide (0 ≤ id) && decide (id ≤ 2047) && decide (0 ≤ ln) && decide (ln ≤ 8)
/-- impl.headedOf, the world written out. -/
theorem headedOfX (id : Int) (rm : Bool) (ln : Int) (a : Option Addr) (n c : Nat) (w : World) :
    Calls Tryz.prog 93 #[frV id rm ln a n c] w fun e w' => e = .returned (frV id rm ln a n c) ∧
      w' = (w.alloc (.cells #[.int .i64 id, .bool rm, .int .i64 ln, .slice a n c] 35)).alloc (.cells #[.int .i64 id, .bool rm, .int .i64 ln, .slice a n c] 106) := by
  go_enter Tryz.func93, Tryz.ntmps93
  go_wp2
  exact bodyPost_ret (v := frV id rm ln a n c) (by simp [results, Tryz.results93, go_sem]) rfl ⟨rfl, rfl⟩

/-- impl.headedOf. -/
theorem headedOf (id : Int) (rm : Bool) (ln : Int) (a : Option Addr) (n c : Nat) (w : World) :
    Calls Tryz.prog 93 #[frV id rm ln a n c] w fun e w' => e = .returned (frV id rm ln a n c) ∧ Below w.heap.size w w' := by
  go_enter Tryz.func93, Tryz.ntmps93
  go_wp2
  refine bodyPost_ret (v := frV id rm ln a n c) (by simp [results, Tryz.results93, go_sem]) rfl ⟨rfl, ?_⟩
  exact ((Below.refl _ _).alloc (Nat.le_refl _) _).alloc (by simp) _

/-- impl.head.inRange. -/
theorem inRange (id : Int) (rm : Bool) (ln : Int) (w : World) :
    Calls Tryz.prog 94 #[hdV id rm ln] w fun e w' => e = .returned (.bool (inR id ln)) ∧ Below w.heap.size w w' := by
  go_enter Tryz.func94, Tryz.ntmps94
  go_wp2
  all_goals (go_ret; exact ⟨ret_bool (by simp only [inR]; simp_all; try omega), (Below.refl _ _).alloc (Nat.le_refl _) _⟩)

/-- impl.head.dataSize. -/
theorem dataSize (id : Int) (rm : Bool) (ln : Int) (w : World) :
    Calls Tryz.prog 95 #[hdV id rm ln] w fun e w' => e = .returned (.int .i64 (if rm then 0 else ln)) ∧ Below w.heap.size w w' := by
  go_enter Tryz.func95, Tryz.ntmps95
  cases rm <;>
  · go_wp2
    go_ret
    exact ⟨rfl, (Below.refl _ _).alloc (Nat.le_refl _) _⟩

/-- spec.l1In. -/
theorem l1In (x lo hi : Int) (w : World) :
    Calls Tryz.prog 35 #[.int .i64 x, .int .i64 lo, .int .i64 hi] w fun e w' => e = .returned (.bool (decide (lo ≤ x) && decide (x ≤ hi))) ∧ w = w' := by
  go_enter Tryz.func35, Tryz.ntmps35
  go_wp2
  all_goals (go_ret; exact ⟨ret_bool (by first | (simp_all; done) | (simp_all; omega)), rfl⟩)
end Go.Proofs.YtnhmecabppaboaaGreat

/- Plain facts on the bits of a number and on texts put behind one another: what BitsOf's text is, and of which number it is. -/

set_option linter.unusedSimpArgs false
set_option linter.unusedVariables false
set_option maxRecDepth 20000
namespace Go.Proofs.YtnhmecabppaboaaGreat
open Go.RowKit

/-! ### The number of its bits is the number. -/
theorem digs_succ (n : Int) (c : Nat) (h : 0 ≤ n) : digs n (c + 1) = digs (n / 2) c ++ [48 + n % 2] := by
  unfold digs
  rw [List.range_succ, List.map_append, List.map_singleton]
  congr 1
  · apply List.map_congr_left
    intro i hi
    have hi' : i < c := by simpa using hi
    unfold dig
    rw [show c + 1 - 1 - i = (c - 1 - i) + 1 from by omega, ← div_pow, Int.ediv_ediv_of_nonneg (Int.le_of_lt (Int.pow_pos (by decide))), Int.ediv_ediv_of_nonneg (by decide), Int.mul_comm]
  · unfold dig
    simp
theorem num_digs : ∀ (c : Nat) (n : Int), 0 ≤ n → n < 2 ^ c → num ((digs n c).map fun z => UInt8.ofNat z.toNat) = n ∧ ∀ x ∈ (digs n c).map fun z => UInt8.ofNat z.toNat, bit x = true
  | 0, n, h0, h1 => by
    simp [digs, num]; simp at h1; omega
  | c + 1, n, h0, h1 => by
    have h2 : n / 2 < 2 ^ c := by rw [Int.pow_succ] at h1; omega
    obtain ⟨i1, i2⟩ := num_digs c (n / 2) (by omega) h2
    have hx : (48 + n % 2).toNat = 48 ∨ (48 + n % 2).toNat = 49 := by omega
    have hb : ((UInt8.ofNat (48 + n % 2).toNat).toNat : Int) = 48 + n % 2 := by
      rcases hx with hx | hx <;> rw [hx] <;> simp <;> omega
    rw [digs_succ n c h0, List.map_append, List.map_singleton]
    refine ⟨?_, fun x hxm => ?_⟩
    · rw [num_snoc, i1, hb]; omega
    · rcases List.mem_append.1 hxm with hxm | hxm
      · exact i2 x hxm
      · rw [List.mem_singleton] at hxm
        subst hxm
        simp only [bit, Bool.or_eq_true, beq_iff_eq]
        omega
theorem facts {n : Int} {c : Nat} (h1 : c ≤ 32) (h0 : 0 ≤ n) (h2 : n < 2 ^ c) : (ofS n c).size = c ∧ okB (ofS n c) = true ∧ numOk (ofS n c) = true ∧ numV (ofS n c) = n := by
  obtain ⟨i1, i2⟩ := num_digs c n h0 h2
  have hs : ofS n c = strOfNums (digs n c) := ofS_yes (ofOk_yes h1 h0 h2)
  have hz : (ofS n c).size = c := by rw [hs, strOfNums_size]; simp [digs]
  have hd : (ofS n c).data.toList = (digs n c).map fun z => UInt8.ofNat z.toNat := by rw [hs, strOfNums_data]
  have hok : okB (ofS n c) = true := by
    simp only [okB, Bool.and_eq_true, List.all_eq_true, decide_eq_true_eq]
    exact ⟨by omega, by rw [hd]; exact i2⟩
  have hno := numOk_yes hok (by omega)
  exact ⟨hz, hok, hno, by rw [numV_yes hno, hd]; exact i1⟩


theorem append_toList (a b : ByteArray) : (a ++ b).data.toList = a.data.toList ++ b.data.toList := by simp
theorem okB_iff (s : ByteArray) : okB s = true ↔ s.size ≤ 400 ∧ ∀ c ∈ s.data.toList, bit c = true := by
  simp only [okB, Bool.and_eq_true, List.all_eq_true, decide_eq_true_eq]
theorem okB_append {a b : ByteArray} (ha : okB a = true) (hb : okB b = true) : okB (a ++ b) = decide (a.size + b.size ≤ 400) := by
  rw [Bool.eq_iff_iff, okB_iff, decide_eq_true_eq, ByteArray.size_append, append_toList]
  constructor
  · intro h; exact h.1
  · intro h
    refine ⟨h, fun c hc => ?_⟩
    rcases List.mem_append.1 hc with hc | hc
    · exact mem_bit ha c hc
    · exact mem_bit hb c hc
theorem numN_inj : ∀ (a b : List UInt8), (∀ c ∈ a, bit c = true) → (∀ c ∈ b, bit c = true) → a.length = b.length → numN a = numN b → a = b
  | [], [], _, _, _, _ => rfl
  | [], _ :: _, _, _, h, _ => by simp at h
  | _ :: _, [], _, _, h, _ => by simp at h
  | c :: a, d :: b, ha, hb, hl, hn => by
    have hl' : a.length = b.length := by simpa using hl
    have h1 := numN_lt a fun x hx => ha x (by simp [hx])
    have h2 := numN_lt b fun x hx => hb x (by simp [hx])
    have hc := bit_cases (ha c (by simp))
    have hd := bit_cases (hb d (by simp))
    rw [numN_cons, numN_cons, hl'] at hn
    rw [hl'] at h1
    generalize 2 ^ b.length = p at hn h1 h2
    have e : bitN c = bitN d := by
      rcases hc with hc | hc <;> rcases hd with hd | hd <;> unfold bitN at hn ⊢ <;> rw [hc, hd] at hn ⊢ <;> simp at hn ⊢ <;> omega
    have e2 : c = d := UInt8.toNat_inj.1 (by unfold bitN at e; omega)
    subst e2
    rw [numN_inj a b (fun x hx => ha x (by simp [hx])) (fun x hx => hb x (by simp [hx])) hl' (by omega)]
/-- Fifteen bits of a number: how long, bits, and the number. -/
theorem facts15 {n : Nat} (h : n < 32768) : (ofS n 15).size = 15 ∧ okB (ofS n 15) = true ∧ numN (ofS n 15).data.toList = n := by
  have hp : (n : Int) < 2 ^ 15 := by omega
  obtain ⟨f1, f2, f3, f4⟩ := facts (n := n) (c := 15) (by omega) (by omega) hp
  rw [numV_yes f3, num_numN _ (mem_bit f2)] at f4
  have e : ((15 : Nat) : Int) = 15 := rfl
  rw [e] at f1 f2 f4
  exact ⟨f1, f2, by omega⟩
theorem same_bits {u t : ByteArray} {n : Nat} (f2 : okB u = true) (ht : okB t = true) (f1 : u.size = t.size) (f4 : numN u.data.toList = n) (e : n = numN t.data.toList) : u = t := by
  apply ba_inj
  have hl1 : u.data.toList.length = t.data.toList.length := by simpa using f1
  exact numN_inj _ _ (mem_bit f2) (mem_bit ht) hl1 (f4.trans e)
/-- The bits of the number of fifteen bits are these bits. -/
theorem ofS_num {t : ByteArray} {n : Nat} (ht : okB t = true) (hl : t.size = 15) (h : n < 32768) : ofS n 15 = t ↔ n = numN t.data.toList :=
  ⟨fun e => by subst e; exact (facts15 h).2.2.symm, fun e => same_bits (facts15 h).2.1 ht ((facts15 h).1.trans hl.symm) (facts15 h).2.2 e⟩

/-! ### With the check. -/
def withOk (s : ByteArray) : Bool := okB s && decide (s.size + 15 ≤ 400)
def withV (s : ByteArray) : ByteArray := if withOk s then s ++ ofS (crc s.data.toList) 15 else ByteArray.empty
theorem withOk_no {s : ByteArray} (h : okB s = false) : withOk s = false := by simp [withOk, h]
theorem withOk_long {s : ByteArray} (h : 385 < s.size) : withOk s = false := by simp [withOk]; intro _; omega
theorem withOk_yes {s : ByteArray} (h : okB s = true) (hl : s.size ≤ 385) : withOk s = true := by simp [withOk, h]; omega
theorem withV_no {s : ByteArray} (h : withOk s = false) : withV s = ByteArray.empty := by simp [withV, h]
theorem withV_yes {s : ByteArray} (h : withOk s = true) : withV s = s ++ ofS (crc s.data.toList) 15 := by simp [withV, h]
theorem tail15 (l : List UInt8) : (ofS (crc l) 15).size = 15 ∧ okB (ofS (crc l) 15) = true := by
  obtain ⟨f1, f2, _⟩ := facts15 (crc_lt l)
  exact ⟨f1, f2⟩
/-- The text and its check is bits just where there is room. -/
theorem okB_with {s : ByteArray} (h : okB s = true) : okB (s ++ ofS (crc s.data.toList) 15) = decide (s.size + 15 ≤ 400) := by
  obtain ⟨f1, f2⟩ := tail15 s.data.toList
  rw [okB_append h f2, f1]

/-! ### Right by the check. -/
def rightB (s : ByteArray) : Bool := okB s && decide (15 ≤ s.size) && decide (crc s.data.toList = 0)
theorem rightB_short {s : ByteArray} (h : s.size < 15) : rightB s = false := by simp [rightB]; intro _ _; omega
theorem rightB_no {s : ByteArray} (h : okB s = false) : rightB s = false := by simp [rightB, h]
theorem front_list (s : ByteArray) (k : Nat) : (s.extract 0 k).data.toList = s.data.toList.take k := by
  simp [ByteArray.data_extract, List.extract_eq_take_drop]
theorem back_list (s : ByteArray) (k : Nat) : (s.extract k s.size).data.toList = s.data.toList.drop k := by
  simp only [ByteArray.data_extract, Array.toList_extract, List.extract_eq_take_drop]
  exact List.take_of_length_le (by simp)
theorem split_at (s : ByteArray) (k : Nat) (h : k ≤ s.size) : s = s.extract 0 k ++ s.extract k s.size := by
  apply ba_inj
  rw [append_toList, front_list, back_list, List.take_append_drop]
theorem size_front (s : ByteArray) (k : Nat) (h : k ≤ s.size) : (s.extract 0 k).size = k := by rw [ByteArray.size_extract]; omega
theorem size_back (s : ByteArray) (k : Nat) : (s.extract k s.size).size = s.size - k := by rw [ByteArray.size_extract]; omega
theorem okB_parts {s : ByteArray} (h : okB s = true) (k : Nat) (hk : k ≤ s.size) : okB (s.extract 0 k) = true ∧ okB (s.extract k s.size) = true := by
  have e := split_at s k hk
  have hm : ∀ c ∈ (s.extract 0 k).data.toList ++ (s.extract k s.size).data.toList, bit c = true := by
    rw [← append_toList, ← e]; exact mem_bit h
  have hz := okB_size h
  have h1 := size_front s k hk
  have h2 := size_back s k
  exact ⟨(okB_iff _).2 ⟨by omega, fun c hc => hm c (List.mem_append_left _ hc)⟩, (okB_iff _).2 ⟨by omega, fun c hc => hm c (List.mem_append_right _ hc)⟩⟩

theorem right_eq {s : ByteArray} (h : okB s = true) (hl : 15 ≤ s.size) : rightB s = decide (crc (s.extract 0 (s.size - 15)).data.toList = numN (s.extract (s.size - 15) s.size).data.toList) := by
  have e := congrArg (fun x : ByteArray => x.data.toList) (split_at s (s.size - 15) (by omega))
  simp only [append_toList] at e
  have hp := okB_parts h (s.size - 15) (by omega)
  have hz := size_back s (s.size - 15)
  have := crc_right (s.extract 0 (s.size - 15)).data.toList (s.extract (s.size - 15) s.size).data.toList (mem_bit hp.2) (by
    have : (s.extract (s.size - 15) s.size).data.toList.length = (s.extract (s.size - 15) s.size).size := by simp
    omega)
  rw [← e] at this
  rw [rightB, h, decide_eq_true hl, Bool.and_self, Bool.true_and, decide_eq_decide]
  exact this
/-- The program's way: what the others are with their check is the text. -/
theorem right_impl {s : ByteArray} (hl : 15 ≤ s.size) : (withOk (s.extract 0 (s.size - 15)) = true ∧ withV (s.extract 0 (s.size - 15)) = s) ↔ rightB s = true := by
  have hm := size_front s (s.size - 15) (by omega)
  have hz := size_back s (s.size - 15)
  have e := split_at s (s.size - 15) (by omega)
  constructor
  · intro ⟨h1, h2⟩
    rw [withV_yes h1] at h2
    have h3 := h1
    simp only [withOk, Bool.and_eq_true, decide_eq_true_eq] at h3
    obtain ⟨h3, h4⟩ := h3
    obtain ⟨g1, g2⟩ := tail15 (s.extract 0 (s.size - 15)).data.toList
    have hs : okB s = true := by rw [← h2, okB_with h3]; simpa using h4
    rw [right_eq hs hl, decide_eq_true_eq]
    have ht : ofS (crc (s.extract 0 (s.size - 15)).data.toList) 15 = s.extract (s.size - 15) s.size := by
      apply ba_inj
      have e1 := congrArg (fun x : ByteArray => x.data.toList) h2
      have e2 := congrArg (fun x : ByteArray => x.data.toList) e
      simp only [append_toList] at e1 e2
      exact List.append_cancel_left (e1.trans e2)
    exact (ofS_num (okB_parts hs _ (by omega)).2 (by omega) (crc_lt _)).1 ht
  · intro h
    have hs : okB s = true := by
      cases ho : okB s with
      | true => rfl
      | false => rw [rightB_no ho] at h; cases h
    have hsz := okB_size hs
    obtain ⟨p1, p2⟩ := okB_parts hs (s.size - 15) (by omega)
    have hw : withOk (s.extract 0 (s.size - 15)) = true := withOk_yes p1 (by omega)
    rw [right_eq hs hl, decide_eq_true_eq] at h
    refine ⟨hw, ?_⟩
    rw [withV_yes hw, (ofS_num p2 (by omega) (crc_lt _)).2 h, ← e]
theorem right_impl_teq {s : ByteArray} (hl : 15 ≤ s.size) : (withOk (s.extract 0 (s.size - 15)) && ((withV (s.extract 0 (s.size - 15))).toList == s.toList)) = rightB s := by
  rw [teq, Bool.eq_iff_iff, ← right_impl hl, Bool.and_eq_true, decide_eq_true_eq]
theorem right_spec {s : ByteArray} (h : okB s = true) (hl : 15 ≤ s.size) : rightB s = (numV (s.extract (s.size - 15) s.size) == (crc (s.data.toList.take (s.size - 15)) : Int)) := by
  obtain ⟨p1, p2⟩ := okB_parts h (s.size - 15) (by omega)
  have hz := size_back s (s.size - 15)
  rw [← front_list, right_eq h hl, numV_yes (numOk_yes p2 (by omega)), num_numN _ (mem_bit p2), Bool.eq_iff_iff, decide_eq_true_eq, beq_iff_eq]
  omega

end Go.Proofs.YtnhmecabppaboaaGreat

/- Numbers within a range; impl.within. -/

set_option linter.unusedVariables false
set_option linter.unusedSimpArgs false
set_option maxRecDepth 20000
namespace Go.Proofs.YtnhmecabppaboaaGreat
open Go.RowKit

def rng (x lo hi : Int) : Bool := decide (lo ≤ x) && decide (x ≤ hi)
theorem rng_iff {x lo hi : Int} : rng x lo hi = true ↔ lo ≤ x ∧ x ≤ hi := by simp [rng]
/-- impl.within. -/
theorem implWithin (x lo hi : Int) (w : World) :
    Calls Tryz.prog 33 #[.int .i64 x, .int .i64 lo, .int .i64 hi] w fun e w' => e = .returned (.bool (rng x lo hi)) ∧ w = w' := by
  go_enter Tryz.func33, Tryz.ntmps33
  go_wp2
  all_goals (go_ret; exact ⟨ret_bool (by simp only [rng]; first | (simp_all; done) | (simp_all; omega)), rfl⟩)
end Go.Proofs.YtnhmecabppaboaaGreat

/- Contracts of CheckOf, of the program and of the model: at every text of bits both answer its check of 15 bits, -1 at any other. -/

set_option linter.unusedSimpArgs false
set_option linter.unusedVariables false
set_option maxRecDepth 20000
namespace Go.Proofs.YtnhmecabppaboaaGreat
open Go.RowKit

/-- The check of a text of bits; -1 of another text. -/
def crcV (s : ByteArray) : Int := if okB s then (crc s.data.toList : Int) else -1
theorem crcV_no {s : ByteArray} (h : okB s = false) : crcV s = -1 := by simp [crcV, h]
theorem crcV_yes {s : ByteArray} (h : okB s = true) : crcV s = (crc s.data.toList : Int) := by simp [crcV, h]

theorem i64_xor {a b : Nat} (ha : a < 32768) (hb : b < 32768) : Go.bits .xor .i64 (a : Int) (b : Int) = ((a ^^^ b : Nat) : Int) := by
  have h1 : (BitVec.ofInt 64 (a : Int)).toNat = a := by rw [BitVec.toNat_ofInt]; omega
  have h2 : (BitVec.ofInt 64 (b : Int)).toNat = b := by rw [BitVec.toNat_ofInt]; omega
  have key : (BitVec.ofInt 64 (a : Int) ^^^ BitVec.ofInt 64 (b : Int)).toNat = a ^^^ b := by
    rw [BitVec.toNat_xor, h1, h2]
  have hlt := xor_lt ha hb
  show IntKind.i64.wrap ((BitVec.ofInt 64 (a : Int) ^^^ BitVec.ofInt 64 (b : Int)).toNat : Nat) = _
  rw [key, IntKind.wrap_i64]
  omega

theorem stepC_same {x : Nat} {c : UInt8} (hx : x < 32768) (hc : bit c = true) (h : (c.toNat = 49 ↔ 16384 ≤ x)) : (stepC x c : Int) = (x : Int) * 2 % 32768 := by
  have hb := bit_cases hc
  have : bitN c = x / 16384 := by unfold bitN; omega
  unfold stepC
  rw [if_neg (by simpa using this)]; omega
theorem stepC_other {x : Nat} {c : UInt8} (hx : x < 32768) (hc : bit c = true) (h : ¬ (c.toNat = 49 ↔ 16384 ≤ x)) : (stepC x c : Int) = Go.bits .xor .i64 ((x : Int) * 2 % 32768) 17817 := by
  have hb := bit_cases hc
  have : ¬ bitN c = x / 16384 := by unfold bitN; omega
  unfold stepC
  rw [if_pos this]
  have := i64_xor (a := x * 2 % 32768) (b := 17817) (Nat.mod_lt _ (by decide)) (by decide)
  rw [← this]; congr 1

/-- spec.l1Bit, at a place in a text. -/
theorem specBit (s : ByteArray) (i : Nat) (w : World) (hi : i < s.size) (hs : s.size ≤ maxLen) (hb : bit (s[i]'hi) = true) :
    Calls Tryz.prog 140 #[.string s, .int .i64 i] w fun e w' => e = .returned (.int .i64 ((s[i]'hi).toNat - 48)) ∧ w = w' := by
  unfold maxLen at hs
  have hc := bit_cases hb
  have c1 : 48 ≤ (s[i].toNat : Int) := by omega
  have c2 : (s[i].toNat : Int) ≤ 49 := by omega
  clear hb hc
  go_enter Tryz.func140, Tryz.ntmps140
  go_wp2
  go_ret
  exact ⟨rfl, rfl⟩
/-- spec.CheckOf. -/
theorem specCheck (s : ByteArray) (w : World) (hs : s.size ≤ maxLen) :
    Calls Tryz.prog 130 #[.string s] w fun e w' => e = .returned (.int .i64 (crcV s)) ∧ w = w' := by
  have hs' := hs
  unfold maxLen at hs'
  cases hb : okB s with
  | false =>
    go_enter Tryz.func130, Tryz.ntmps130
    go_wp2_with (go_at_call 117; refine (specOk _ _ hs).mono ?_; rintro e w' ⟨rfl, rfl⟩)
    go_ret
    exact ⟨ret_int (crcV_no hb).symm, rfl⟩
  | true =>
    have HV := Lib.hid (crcV_yes hb)
    have HB := Lib.hid hb
    have hl := okB_size hb
    go_enter Tryz.func130, Tryz.ntmps130
    go_wp2_with (go_at_call 117; refine (specOk _ _ hs).mono ?_; rintro e w' ⟨rfl, rfl⟩)
    clear hb
    go_loop [3, 4, 5] (fun x i _ => ∃ k n : Nat, k ≤ s.size ∧ i = .int .i64 k ∧ x = .int .i64 n ∧ Hid (n = crc (s.data.toList.take k))) (fun _ i _ => s.size - (intOf i).toNat)
    case atStart => exact ⟨0, 0, Nat.zero_le _, rfl, rfl, Lib.hid rfl⟩
    case round =>
      obtain ⟨k, n, hk, rfl, rfl, HN⟩ := hrel
      have hn : n < 32768 := by rw [HN.out]; exact crc_lt _
      by_cases hlt : k < s.size
      · have hbk := okB_bit HB.out k hlt
        have hc := bit_cases hbk
        have HS : Hid (stepC n s[k] = crc (s.data.toList.take (k + 1))) := Lib.hid (by rw [take_snoc s k hlt, crc_snoc, HN.out])
        have d0 : 0 ≤ (n : Int) := by omega
        have d1 : (n : Int) ≤ 32767 := by omega
        by_cases ht : (s[k].toNat = 49 ↔ 16384 ≤ n)
        · have HC := Lib.hid (stepC_same hn hbk ht)
          have ht' : ((s[k].toNat : Int) - 48 != (n : Int) / 16384) = false := by rw [bne_eq_false_iff_eq]; omega
          have HBK := Lib.hid hbk
          clear hc hbk ht hn
          go_wp2_with (go_at_call 140; refine (specBit s k _ hlt hs HBK.out).mono ?_; rintro e w' ⟨rfl, rfl⟩)
          go_round
          case rel => exact ⟨k + 1, stepC n s[k], by omega, by go_num, by rw [HC.out], HS⟩
          case measure => simp [intOf]; omega
        · have HC := Lib.hid (stepC_other hn hbk ht)
          have ht' : ((s[k].toNat : Int) - 48 != (n : Int) / 16384) = true := by rw [bne_iff_ne]; omega
          have HBK := Lib.hid hbk
          clear hc hbk ht hn
          go_wp2_with (go_at_call 140; refine (specBit s k _ hlt hs HBK.out).mono ?_; rintro e w' ⟨rfl, rfl⟩)
          go_round
          case rel => exact ⟨k + 1, stepC n s[k], by omega, by go_num, by rw [HC.out], HS⟩
          case measure => simp [intOf]; omega
      · go_wp2
        go_ret
        exact ⟨ret_int (by rw [HV.out, ← take_all s k (by omega), HN.out]), rfl⟩

/-- impl's method of the polynomial, at a bit. -/
theorem implStep (n : Nat) (c : UInt8) (w : World) (hn : n < 32768) (hb : bit c = true) :
    Calls Tryz.prog 143 #[.int .i64 17817, .int .i64 n, .int .i32 c.toNat] w fun e w' => e = .returned (.int .i64 (stepC n c)) ∧ w = w' := by
  have hc := bit_cases hb
  have d0 : 0 ≤ (n : Int) := by omega
  have d1 : (n : Int) ≤ 32767 := by omega
  by_cases ht : (c.toNat = 49 ↔ 16384 ≤ n)
  · have HC := Lib.hid (stepC_same hn hb ht)
    have ht' : (((c.toNat : Int) == 49) == ((n : Int) / 16384 == 1)) = true := by
      rw [beq_iff_eq, Bool.eq_iff_iff, beq_iff_eq, beq_iff_eq]; omega
    clear hc hb ht hn
    go_enter Tryz.func143, Tryz.ntmps143
    go_wp2
    go_ret
    exact ⟨ret_int (by rw [HC.out]), rfl⟩
  · have HC := Lib.hid (stepC_other hn hb ht)
    have ht' : (((c.toNat : Int) == 49) == ((n : Int) / 16384 == 1)) = false := by
      rw [beq_eq_false_iff_ne, ne_eq, Bool.eq_iff_iff, beq_iff_eq, beq_iff_eq]; omega
    clear hc hb ht hn
    go_enter Tryz.func143, Tryz.ntmps143
    go_wp2
    go_ret
    exact ⟨ret_int (by rw [HC.out]), rfl⟩

/-- impl.CheckOf. -/
theorem implCheck (s : ByteArray) (w : World) (hs : s.size ≤ maxLen) :
    Calls Tryz.prog 137 #[.string s] w fun e w' => e = .returned (.int .i64 (crcV s)) ∧ Below w.heap.size w w' := by
  have hs' := hs
  unfold maxLen at hs'
  cases hb : okB s with
  | false =>
    go_enter Tryz.func137, Tryz.ntmps137
    go_wp2_with (go_at_call 121; refine (implOk _ _ hs).mono ?_; rintro e w1 ⟨rfl, hb1⟩)
    go_ret
    exact ⟨ret_int (crcV_no hb).symm, ‹_›⟩
  | true =>
    have HV := Lib.hid (crcV_yes hb)
    have HB := Lib.hid hb
    have hl := okB_size hb
    go_enter Tryz.func137, Tryz.ntmps137
    go_wp2_with (go_at_call 121; refine (implOk _ _ hs).mono ?_; rintro e w1 ⟨rfl, hb1⟩)
    have hb1 : Below w.heap.size w w1 := by assumption
    clear hb
    go_loopw [4, 6] (fun x _ wr => ∃ k n : Nat, k ≤ s.size ∧ wr = w1.iter s k ∧ x = .int .i64 n ∧ Hid (n = crc (s.data.toList.take k))) (fun _ _ wr => s.size - wr.iterPos w1.heap.size)
    case atStart => exact ⟨0, 0, Nat.zero_le _, rfl, rfl, Lib.hid rfl⟩
    case round =>
      obtain ⟨k, n, hk, rfl, rfl, HN⟩ := hrel
      have hn : n < 32768 := by rw [HN.out]; exact crc_lt _
      by_cases hlt : k < s.size
      · have hbk := okB_bit HB.out k hlt
        have hc := bit_cases hbk
        have HS : Hid (stepC n s[k] = crc (s.data.toList.take (k + 1))) := Lib.hid (by rw [take_snoc s k hlt, crc_snoc, HN.out])
        have c1 : 48 ≤ (s[k].toNat : Int) := by omega
        have c2 : (s[k].toNat : Int) ≤ 49 := by omega
        have hnx : ∀ ty, (Instr.next (.pointer (some ⟨w1.heap.size, 0, none⟩)) true ty).run Tryz.prog (w1.iter s k) = _ := fun ty => run_next_ascii w1 s k ty hlt (by omega)
        have HBK := Lib.hid hbk
        have HNN := Lib.hid hn
        clear hc hbk hn
        go_wp2_with fail
        refine (implStep n s[k] _ HNN.out HBK.out).mono ?_
        rintro e w' ⟨rfl, rfl⟩
        go_wp2_with fail
        go_roundw
        case rel => exact ⟨k + 1, stepC n s[k], by omega, rfl, rfl, HS⟩
        case measure => simp; omega
      · have hnx : ∀ ty, (Instr.next (.pointer (some ⟨w1.heap.size, 0, none⟩)) true ty).run Tryz.prog (w1.iter s k) = _ := fun ty => run_next_end w1 s k ty hlt
        go_wp2
        go_ret
        exact ⟨ret_int (by rw [HV.out, ← take_all s k (by omega), HN.out]), hb1.trans ((below_iter w1 s k).mono hb1.size)⟩

end Go.Proofs.YtnhmecabppaboaaGreat

/- Contracts of NumberOf, of the program and of the model: at every text both answer numV of it and whether it is a number's text. -/

set_option maxRecDepth 20000
namespace Go.Proofs.YtnhmecabppaboaaGreat
open Go.RowKit

end Go.Proofs.YtnhmecabppaboaaGreat

/- Contracts of WithCheck and CheckRight, of the program and of the model: at every text both answer alike. -/

set_option linter.unusedSimpArgs false
set_option linter.unusedVariables false
set_option maxRecDepth 20000
namespace Go.Proofs.YtnhmecabppaboaaGreat
open Go.RowKit

/-- spec.WithCheck. -/
theorem specWith (s : ByteArray) (w : World) (hs : s.size ≤ maxLen) :
    Calls Tryz.prog 119 #[.string s] w fun e w' => e = .returned (.tuple #[.string (withV s), .bool (withOk s)]) ∧ Below w.heap.size w w' := by
  have hs' := hs
  unfold maxLen at hs'
  cases hb : okB s with
  | false =>
    have HC := Lib.hid (crcV_no hb)
    have HW := Lib.hid (withOk_no hb)
    clear hb
    go_enter Tryz.func119, Tryz.ntmps119
    go_wp2_with (go_at_call 130; refine (specCheck _ _ hs).mono ?_; rw [HC.out]; rintro e w' ⟨rfl, rfl⟩)
    go_ret2
    exact ⟨ret_text (withV_no HW.out).symm HW.out.symm, Below.refl _ _⟩
  | true =>
    have HC := Lib.hid (crcV_yes hb)
    have hl := okB_size hb
    have hlt := crc_lt s.data.toList
    have HB := Lib.hid hb
    have hof : 15 ≤ 32 := by decide
    clear hb
    go_enter Tryz.func119, Tryz.ntmps119
    go_wp2_with fail
    refine (specCheck _ _ hs).mono ?_
    rw [HC.out]
    rintro e w' ⟨rfl, rfl⟩
    go_wp2_with fail
    refine (specOf _ _ _).mono ?_
    rintro e w1 ⟨rfl, hb1⟩
    have hz := (tail15 s.data.toList).1
    have HK := Lib.hid (okB_with HB.out)
    by_cases h385 : s.size ≤ 385
    · have HW := Lib.hid (withOk_yes HB.out h385)
      go_wp2_with fail
      refine (specOk _ _ (by rw [ByteArray.size_append, hz]; unfold maxLen; omega)).mono ?_
      rw [HK.out, decide_eq_true (by omega)]
      rintro e w' ⟨rfl, rfl⟩
      go_wp2_with fail
      go_ret2
      exact ⟨ret_text (withV_yes HW.out).symm HW.out.symm, hb1⟩
    · have HW := Lib.hid (withOk_long (s := s) (by omega))
      go_wp2_with fail
      refine (specOk _ _ (by rw [ByteArray.size_append, hz]; unfold maxLen; omega)).mono ?_
      rw [HK.out, decide_eq_false (by omega)]
      rintro e w' ⟨rfl, rfl⟩
      go_wp2_with fail
      go_ret2
      exact ⟨ret_text (withV_no HW.out).symm HW.out.symm, hb1⟩
/-- impl.WithCheck. -/
theorem implWith (s : ByteArray) (w : World) (hs : s.size ≤ maxLen) :
    Calls Tryz.prog 127 #[.string s] w fun e w' => e = .returned (.tuple #[.string (withV s), .bool (withOk s)]) ∧ Below w.heap.size w w' := by
  have hs' := hs
  unfold maxLen at hs'
  cases hb : okB s with
  | false =>
    have HW := Lib.hid (withOk_no hb)
    go_enter Tryz.func127, Tryz.ntmps127
    go_wp2_with fail
    refine (implOk _ _ hs).mono ?_
    rw [hb]
    rintro e w1 ⟨rfl, hb1⟩
    clear hb
    go_wp2_with fail
    go_ret2
    exact ⟨ret_text (withV_no HW.out).symm HW.out.symm, hb1⟩
  | true =>
    have HC := Lib.hid (crcV_yes hb)
    have hl := okB_size hb
    have HB := Lib.hid hb
    clear hb
    by_cases h385 : s.size ≤ 385
    · have HW := Lib.hid (withOk_yes HB.out h385)
      have d1 : decide (400 < (s.size : Int) + 15) = false := by simp; omega
      go_enter Tryz.func127, Tryz.ntmps127
      go_wp2_with fail
      refine (implOk _ _ hs).mono ?_
      rw [HB.out]
      rintro e w1 ⟨rfl, hb1⟩
      go_wp2_with fail
      refine (implCheck _ _ hs).mono ?_
      rw [HC.out]
      rintro e w2 ⟨rfl, hb2⟩
      go_wp2_with fail
      refine (implOf _ _ _).mono ?_
      rintro e w3 ⟨rfl, hb3⟩
      have hz := (tail15 s.data.toList).1
      go_wp2_with fail
      go_ret2
      exact ⟨ret_text (withV_yes HW.out).symm HW.out.symm, Below.then2 (Below.then2 hb1 hb2) hb3⟩
    · have HW := Lib.hid (withOk_long (s := s) (by omega))
      have d1 : decide (400 < (s.size : Int) + 15) = true := by simp; omega
      go_enter Tryz.func127, Tryz.ntmps127
      go_wp2_with fail
      refine (implOk _ _ hs).mono ?_
      rw [HB.out]
      rintro e w1 ⟨rfl, hb1⟩
      go_wp2_with fail
      go_ret2
      exact ⟨ret_text (withV_no HW.out).symm HW.out.symm, hb1⟩

end Go.Proofs.YtnhmecabppaboaaGreat
