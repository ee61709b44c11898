/- Contracts of the head's bits: the program's bits of a head and HeadOf, the model's HeadOf. -/
import Derived.Test.YthhhhfpgmolcmabFok
import Derived.Test.YthhhhfpgmolcmabDigs
namespace Go.Proofs.Ythhhhfpgmolcmab
open Go.RowKit

theorem ofS_small (n : Int) (c : Nat) (h : c ≤ 32) : (ofS n c).size ≤ 32 := by
  unfold ofS
  split
  · have : (strOfNums (digs n ((c : Int)).toNat)).size = c := by simp [strOfNums, digs, ByteArray.size]
    omega
  · exact Nat.zero_le _

theorem ofS11 (n : Int) : (ofS n 11).size ≤ 32 := ofS_small n 11 (by omega)
theorem ofS8 (n : Int) : (ofS n 8).size ≤ 32 := ofS_small n 8 (by omega)
theorem ofS4 (n : Int) : (ofS n 4).size ≤ 32 := ofS_small n 4 (by omega)
/-- The head's bits, in the walk's own spelling. -/
def headX (x : ByteArray) (rm : Bool) (y : ByteArray) : ByteArray := (((⟨#[48]⟩ : ByteArray) ++ x) ++ (if rm = true then (⟨#[49]⟩ : ByteArray) else ⟨#[48]⟩)) ++ ⟨#[48, 48]⟩ ++ y
def headS (id : Int) (rm : Bool) (ln : Int) : ByteArray := headX (ofS id 11) rm (ofS ln 4)

/-- A block of three cells stays. -/
theorem three {w w1 : World} {x0 x1 x2 : Value} {T : TypeId} (b : Below (w.alloc (.cells #[x0, x1, x2] T)).heap.size (w.alloc (.cells #[x0, x1, x2] T)) w1) :
    w1.cell? ⟨w.heap.size, 0, none⟩ = some x0 ∧ w1.cell? ⟨w.heap.size, 1, none⟩ = some x1 ∧ w1.cell? ⟨w.heap.size, 2, none⟩ = some x2 := by
  refine ⟨(b.cell (by simp)).trans ?_, (b.cell (by simp)).trans ?_, (b.cell (by simp)).trans ?_⟩ <;> rw [World.cell?_alloc_at _ _ _ _ rfl] <;> rfl

theorem headBits (id : Int) (rm : Bool) (ln : Int) (w : World) :
    Calls Try.prog 61 #[hdV id rm ln] w fun e w' => e = .returned (.string (headS id rm ln)) ∧ Below w.heap.size w w' := by
  have q1 := ofS11 id
  have q2 := ofS4 ln
  have HS : Hid (headS id rm ln = headX (ofS id 11) rm (ofS ln 4)) := rfl
  go_enter Try.func61, Try.ntmps61
  go_wp2_with fail
  refine (implOf _ _ _).mono ?_
  rintro e w1 ⟨rfl, b1⟩
  obtain ⟨c0, c1, c2⟩ := three b1
  replace b1 := below_from b1
  generalize ofS id 11 = x at *
  go_wp2_with fail
  refine (implOf _ _ _).mono ?_
  rintro e w2 ⟨rfl, b2⟩
  have hlt : w.heap.size < w1.heap.size := World.block_lt_of_cell? w1 _ c0
  replace c1 := (b2.cell (p := ⟨w.heap.size, 1, none⟩) hlt).trans c1
  replace b1 := Below.then2 b1 b2
  clear b2 c0 c2 hlt
  generalize ofS ln 4 = y at *
  cases rm with
  | true =>
    go_wp2
    go_ret
    exact ⟨by rw [HS.out]; rfl, b1⟩
  | false =>
    go_wp2
    go_ret
    exact ⟨by rw [HS.out]; rfl, b1⟩
/-- HeadOf a frame. -/
def headV (id : Int) (rm : Bool) (ln : Int) (D : List Int) : ByteArray := if frOk id rm ln D = true then headS id rm ln else ByteArray.empty
theorem headV_no {id : Int} {rm : Bool} {ln : Int} {D : List Int} (h : frOk id rm ln D = false) : headV id rm ln D = ByteArray.empty := by simp [headV, h]
theorem headV_yes {id : Int} {rm : Bool} {ln : Int} {D : List Int} (h : frOk id rm ln D = true) : headV id rm ln D = headS id rm ln := by simp [headV, h]

theorem field_head (id : Int) (rm : Bool) (ln : Int) (a : Option Addr) (n c : Nat) (W : World) : (Instr.field 54 (frV id rm ln a n c) 0).run Try.prog W = .ok (hdV id rm ln) W := by kernel_rfl
/-- spec.HeadOf. -/
theorem specHeadOf (id : Int) (rm : Bool) (ln : Int) (a : Option Addr) (D : List Int) (c : Nat) (w : World) (hd : Nums a D w) :
    Calls Try.prog 65 #[frV id rm ln a D.length c] w fun e w' => e = .returned (.string (headV id rm ln D)) ∧ Below w.heap.size w w' := by
  have f0 := Four.made (.int .i64 id) (.bool rm) (.int .i64 ln) (.slice a D.length c) 26 (Below.refl w.heap.size w)
  go_enter Try.func65, Try.ntmps65
  go_wp2_with fail
  refine (specFrameOk _ _ _ _ _ _ _ (hd.alloc _)).mono ?_
  rintro e w1 ⟨rfl, b1⟩
  replace f0 := f0.below b1
  clear b1 hd
  cases hok : frOk id rm ln D with
  | false =>
    have HV := Lib.hid (headV_no hok)
    clear hok
    go_wp2_with fail
    go_ret
    exact ⟨by rw [HV.out]; rfl, f0.2⟩
  | true =>
    have HV : Hid (headV id rm ln D = headX (ofS id 11) rm (ofS ln 4)) := headV_yes hok
    have q1 := ofS11 id
    have q2 := ofS4 ln
    clear hok
    have f0k := f0
    obtain ⟨⟨c0, c1, c2, c3⟩, _⟩ := f0k
    go_wp2_with fail
    refine (specOf _ _ _).mono ?_
    rintro e w2 ⟨rfl, b2⟩
    replace f0 := f0.below b2
    clear b2 c0 c1 c2 c3
    generalize ofS id 11 = x at *
    have f0k := f0
    obtain ⟨⟨c0, c1, c2, c3⟩, _⟩ := f0k
    go_wp2_with fail
    refine (specOf _ _ _).mono ?_
    rintro e w3 ⟨rfl, b2⟩
    replace f0 := f0.below b2
    clear b2 c0 c1 c2 c3
    generalize ofS ln 4 = y at *
    obtain ⟨⟨c0, c1, c2, c3⟩, b1⟩ := f0
    cases rm with
    | true =>
      go_wp2
      go_ret
      exact ⟨by rw [HV.out]; rfl, b1⟩
    | false =>
      go_wp2
      go_ret
      exact ⟨by rw [HV.out]; rfl, b1⟩
end Go.Proofs.Ythhhhfpgmolcmab
