/- Contracts of WireOf and LengthOf, of the program (its pieces joined by strings.Join) and of the model. -/
import Derived.Test.YthhhhfpgmolcmabWires
import Derived.Test.YthhhhfpgmolcmabFullM
import Derived.Test.YthhhhfpgmolcmabChk
import Derived.Test.YthhhhfpgmolcmabShelf
import Derived.Test.YthhhhfpgmolcmabWith
import Derived.Test.YthhhhfpgmolcmabSpst
import Derived.Deep.CutRange
namespace Go.Proofs.Ythhhhfpgmolcmab
open Go.RowKit

/-- impl.joined, of what is stuffed and the ends. -/
theorem five_cells {b : Nat} {s t1 t2 t3 t4 : ByteArray} {w : World} (h0 : w.cell? ⟨b, 0, none⟩ = some (.string s)) (h1 : w.cell? ⟨b, 1, none⟩ = some (.string t1)) (h2 : w.cell? ⟨b, 2, none⟩ = some (.string t2))
    (h3 : w.cell? ⟨b, 3, none⟩ = some (.string t3)) (h4 : w.cell? ⟨b, 4, none⟩ = some (.string t4)) : ∀ (j : Nat) x, [s, t1, t2, t3, t4][j]? = some x → w.cell? ⟨b, 0 + j, none⟩ = some (.string x)
  | 0, x, h => by cases h; exact h0
  | 1, x, h => by cases h; exact h1
  | 2, x, h => by cases h; exact h2
  | 3, x, h => by cases h; exact h3
  | 4, x, h => by cases h; exact h4
  | n + 5, x, h => by simp at h
theorem join_ones (s : ByteArray) : (⟨(Lib.join ([s, ⟨#[49]⟩, ⟨#[49]⟩, ⟨#[49]⟩, ⟨#[49, 49, 49, 49, 49, 49, 49]⟩].map (·.data.toList)) (⟨#[]⟩ : ByteArray).data.toList).toArray⟩ : ByteArray) = s ++ ones := by
  apply ba_inj
  simp [Lib.join_cons, Lib.joinTail, ones]
theorem joined (b : Nat) (s : ByteArray) (w : World) (hs : s.size ≤ 400) (h0 : w.cell? ⟨b, 0, none⟩ = some (.string s)) (h1 : w.cell? ⟨b, 1, none⟩ = some (.string ⟨#[49]⟩)) (h2 : w.cell? ⟨b, 2, none⟩ = some (.string ⟨#[49]⟩))
    (h3 : w.cell? ⟨b, 3, none⟩ = some (.string ⟨#[49]⟩)) (h4 : w.cell? ⟨b, 4, none⟩ = some (.string ⟨#[49, 49, 49, 49, 49, 49, 49]⟩)) (hb : b < w.heap.size) :
    Calls Try.prog 23 #[.slice (some ⟨b, 0, none⟩) 5 5] w fun e w' => e = .returned (.string (s ++ ones)) ∧ Below w.heap.size w w' := by
  have HJ := Lib.hid (join_ones s)
  have hl : (Lib.join ([s, ⟨#[49]⟩, ⟨#[49]⟩, ⟨#[49]⟩, ⟨#[49, 49, 49, 49, 49, 49, 49]⟩].map (·.data.toList)) (⟨#[]⟩ : ByteArray).data.toList).length ≤ 140737488355328 := by
    have e := congrArg ByteArray.size HJ.out
    rw [arr_size, ByteArray.size_append] at e
    have e1 : ones.size = 10 := rfl
    omega
  go_enter Try.func23, Try.ntmps23
  go_wp2_with fail
  refine (joinOf b 0 5 [s, ⟨#[49]⟩, ⟨#[49]⟩, ⟨#[49]⟩, ⟨#[49, 49, 49, 49, 49, 49, 49]⟩] ⟨#[]⟩ _ (five_cells h0 h1 h2 h3 h4) hb (by simp) (by simp) hl).mono ?_
  rintro e w1 ⟨rfl, b1⟩
  clear h0 h1 h2 h3 h4 hl
  rw [HJ.out]
  go_wp2_with fail
  go_ret
  exact ⟨rfl, b1⟩
/-- impl.WireOf. -/
theorem implWireOf (id : Int) (rm : Bool) (ln : Int) (a : Option Addr) (D : List Int) (c : Nat) (w : World) (hd : Nums a D w) :
    Calls Try.prog 8 #[frV id rm ln a D.length c] w fun e w' => e = .returned (.string (wireV id rm ln D)) ∧ Below w.heap.size w w' := by
  have f0 := Four.made (.int .i64 id) (.bool rm) (.int .i64 ln) (.slice a D.length c) 26 (Below.refl w.heap.size w)
  go_enter Try.func8, Try.ntmps8
  go_wp2_with fail
  refine (implFrameOk _ _ _ _ _ _ _ (hd.alloc _)).mono ?_
  rintro e w1 ⟨rfl, b1⟩
  replace f0 := f0.below b1
  clear b1
  cases hok : frOk id rm ln D with
  | false =>
    have HV := Lib.hid (wireV_no hok)
    clear hok
    go_wp2_with fail
    go_ret
    exact ⟨by rw [HV.out]; rfl, f0.2⟩
  | true =>
    have HV := Lib.hid (wireV_yes hok)
    have hfl := full_len id rm ln D
    have hsl := stfV_len (fullV id rm ln D)
    clear hok
    have fk := f0
    obtain ⟨⟨c0, c1, c2, c3⟩, _⟩ := fk
    go_wp2_with fail
    refine (implChecked _ _ _ _ _ _ _ (hd.below f0.2)).mono ?_
    rintro e w2 ⟨rfl, b2⟩
    replace f0 := f0.below b2
    clear b2 c0 c1 c2 c3
    generalize fullV id rm ln D = u at *
    go_wp2_with fail
    refine (implStuffed _ _ (by unfold maxLen; omega)).mono ?_
    rintro e w4 ⟨rfl, b2⟩
    replace f0 := f0.below b2
    clear b2
    generalize stfV u = t at *
    generalize stfOk u = tk at *
    go_wp2_with fail
    have f5 := f0.alloc (.cells #[.string t, .string ⟨#[49]⟩, .string ⟨#[49]⟩, .string ⟨#[49]⟩, .string ⟨#[49, 49, 49, 49, 49, 49, 49]⟩] 9)
    refine (joined _ t _ hsl (by rw [World.cell?_alloc_at _ _ _ _ rfl]; rfl) (by rw [World.cell?_alloc_at _ _ _ _ rfl]; rfl) (by rw [World.cell?_alloc_at _ _ _ _ rfl]; rfl) (by rw [World.cell?_alloc_at _ _ _ _ rfl]; rfl)
      (by rw [World.cell?_alloc_at _ _ _ _ rfl]; rfl) (by simp)).mono ?_
    rintro e w5 ⟨rfl, b2⟩
    replace f5 := f5.below b2
    clear b2 f0
    generalize t ++ ones = v at *
    go_wp2_with fail
    go_ret
    exact ⟨by rw [HV.out]; rfl, f5.2⟩
/-- spec.WireOf. -/
theorem specWireOf (id : Int) (rm : Bool) (ln : Int) (a : Option Addr) (D : List Int) (c : Nat) (w : World) (hd : Nums a D w) :
    Calls Try.prog 10 #[frV id rm ln a D.length c] w fun e w' => e = .returned (.string (wireV id rm ln D)) ∧ Below w.heap.size w w' := by
  have f0 := Four.made (.int .i64 id) (.bool rm) (.int .i64 ln) (.slice a D.length c) 26 (Below.refl w.heap.size w)
  go_enter Try.func10, Try.ntmps10
  go_wp2_with fail
  refine (specFrameOk _ _ _ _ _ _ _ (hd.alloc _)).mono ?_
  rintro e w1 ⟨rfl, b1⟩
  replace f0 := f0.below b1
  clear b1
  cases hok : frOk id rm ln D with
  | false =>
    have HV := Lib.hid (wireV_no hok)
    clear hok
    go_wp2_with fail
    go_ret
    exact ⟨by rw [HV.out]; rfl, f0.2⟩
  | true =>
    have HV := Lib.hid (wireV_yes hok)
    have hfl := full_len id rm ln D
    clear hok
    have fk := f0
    obtain ⟨⟨c0, c1, c2, c3⟩, _⟩ := fk
    go_wp2_with fail
    refine (specFull _ _ _ _ _ _ _ (hd.below f0.2)).mono ?_
    rintro e w2 ⟨rfl, b2⟩
    replace f0 := f0.below b2
    clear b2 c0 c1 c2 c3
    generalize fullV id rm ln D = u at *
    go_wp2_with fail
    refine (specStuffed _ _ (by unfold maxLen; omega)).mono ?_
    rintro e w4 ⟨rfl, b2⟩
    replace f0 := f0.below b2
    clear b2
    have HO : Hid (ones = ⟨#[49, 49, 49, 49, 49, 49, 49, 49, 49, 49]⟩) := Lib.hid rfl
    have hsl := stfV_len u
    generalize stfV u = t at *
    generalize stfOk u = tk at *
    go_wp2_with fail
    go_ret
    exact ⟨by rw [HV.out, HO.out]; rfl, f0.2⟩
/-- impl.LengthOf. -/
theorem implLengthOf (id : Int) (rm : Bool) (ln : Int) (a : Option Addr) (D : List Int) (c : Nat) (w : World) (hd : Nums a D w) :
    Calls Try.prog 9 #[frV id rm ln a D.length c] w fun e w' => e = .returned (.int .i64 (lengthV id rm ln D)) ∧ Below w.heap.size w w' := by
  have f0 := Four.made (.int .i64 id) (.bool rm) (.int .i64 ln) (.slice a D.length c) 26 (Below.refl w.heap.size w)
  go_enter Try.func9, Try.ntmps9
  go_wp2_with fail
  refine (implFrameOk _ _ _ _ _ _ _ (hd.alloc _)).mono ?_
  rintro e w1 ⟨rfl, b1⟩
  replace f0 := f0.below b1
  clear b1
  cases hok : frOk id rm ln D with
  | false =>
    have HV := Lib.hid (lengthV_no hok)
    clear hok
    go_wp2_with fail
    go_ret
    exact ⟨ret_int HV.out.symm, f0.2⟩
  | true =>
    have HV := Lib.hid (lengthV_yes hok)
    have hl := wire_len id rm ln D
    clear hok
    have fk := f0
    obtain ⟨⟨c0, c1, c2, c3⟩, _⟩ := fk
    go_wp2_with fail
    refine (implWireOf _ _ _ _ _ _ _ (hd.below f0.2)).mono ?_
    rintro e w2 ⟨rfl, b2⟩
    replace f0 := f0.below b2
    clear b2 c0 c1 c2 c3
    generalize wireV id rm ln D = u at *
    go_wp2_with fail
    go_ret
    exact ⟨ret_int HV.out.symm, f0.2⟩
/-- spec.LengthOf. -/
theorem specLengthOf (id : Int) (rm : Bool) (ln : Int) (a : Option Addr) (D : List Int) (c : Nat) (w : World) (hd : Nums a D w) :
    Calls Try.prog 11 #[frV id rm ln a D.length c] w fun e w' => e = .returned (.int .i64 (lengthV id rm ln D)) ∧ Below w.heap.size w w' := by
  have f0 := Four.made (.int .i64 id) (.bool rm) (.int .i64 ln) (.slice a D.length c) 26 (Below.refl w.heap.size w)
  go_enter Try.func11, Try.ntmps11
  go_wp2_with fail
  refine (specFrameOk _ _ _ _ _ _ _ (hd.alloc _)).mono ?_
  rintro e w1 ⟨rfl, b1⟩
  replace f0 := f0.below b1
  clear b1
  cases hok : frOk id rm ln D with
  | false =>
    have HV := Lib.hid (lengthV_no hok)
    clear hok
    go_wp2_with fail
    go_ret
    exact ⟨ret_int HV.out.symm, f0.2⟩
  | true =>
    have HV := Lib.hid (lengthV_yes hok)
    have hl := wire_len id rm ln D
    clear hok
    have fk := f0
    obtain ⟨⟨c0, c1, c2, c3⟩, _⟩ := fk
    go_wp2_with fail
    refine (specWireOf _ _ _ _ _ _ _ (hd.below f0.2)).mono ?_
    rintro e w2 ⟨rfl, b2⟩
    replace f0 := f0.below b2
    clear b2 c0 c1 c2 c3
    generalize wireV id rm ln D = u at *
    go_wp2_with fail
    go_ret
    exact ⟨ret_int HV.out.symm, f0.2⟩

end Go.Proofs.Ythhhhfpgmolcmab
