/- Contracts of BodyOf, of the program (a strings.Builder) and of the model. -/
import Derived.Test.YthhhhfpgmolcmabHead
import Derived.Test.YthhhhfpgmolcmabShelf
import Derived.Lib.OthersKept
import Derived.Deep.CutRange
namespace Go.Proofs.Ythhhhfpgmolcmab
open Go.RowKit

/-- What has been put out behind the first k bytes of data. -/
def upto (h : ByteArray) (D : List Int) (k : Nat) : List UInt8 := h.data.toList ++ (D.take k).flatMap fun b => (ofS b 8).data.toList
def uptoB (h : ByteArray) (D : List Int) (k : Nat) : ByteArray := ⟨(upto h D k).toArray⟩
def bodyV (id : Int) (rm : Bool) (ln : Int) (D : List Int) : ByteArray := if frOk id rm ln D = true then uptoB (headS id rm ln) D D.length else ByteArray.empty
theorem bodyV_no {id : Int} {rm : Bool} {ln : Int} {D : List Int} (h : frOk id rm ln D = false) : bodyV id rm ln D = ByteArray.empty := by simp [bodyV, h]
theorem bodyV_yes {id : Int} {rm : Bool} {ln : Int} {D : List Int} (h : frOk id rm ln D = true) : bodyV id rm ln D = uptoB (headS id rm ln) D D.length := by simp [bodyV, h]
theorem upto_zero (h : ByteArray) (D : List Int) : upto h D 0 = h.data.toList := by simp [upto]
theorem uptoB_zero (h : ByteArray) (D : List Int) : uptoB h D 0 = h := by unfold uptoB; rw [upto_zero]
theorem upto_succ (h : ByteArray) (D : List Int) (k : Nat) (hk : k < D.length) : upto h D (k + 1) = upto h D k ++ (ofS (nth D k) 8).data.toList := by
  have e : nth D k = D[k] := by rw [nth, List.getD_eq_getElem?_getD, List.getElem?_eq_getElem hk]; rfl
  unfold upto
  rw [e, List.take_succ_eq_append_getElem hk, List.flatMap_append, ← List.append_assoc]
  simp only [List.flatMap_cons, List.flatMap_nil, List.append_nil]
theorem uptoB_succ (h : ByteArray) (D : List Int) (k : Nat) (hk : k < D.length) : uptoB h D (k + 1) = uptoB h D k ++ ofS (nth D k) 8 := by
  unfold uptoB; rw [upto_succ h D k hk]
  apply ba_inj; simp
theorem upto_len (h : ByteArray) (D : List Int) : ∀ k, k ≤ D.length → (upto h D k).length ≤ h.size + 32 * k
  | 0, _ => by rw [upto_zero]; exact Nat.le_refl _
  | k + 1, hk => by
    rw [upto_succ h D k (by omega), List.length_append]
    have := upto_len h D k (by omega)
    have h2 : (ofS (nth D k) 8).data.toList.length ≤ 32 := ofS8 (nth D k)
    omega
theorem headX_size (x y : ByteArray) (rm : Bool) (hx : x.size ≤ 32) (hy : y.size ≤ 32) : (headX x rm y).size ≤ 100 := by
  have e1 : (⟨#[48]⟩ : ByteArray).size = 1 := rfl
  have e2 : (⟨#[49]⟩ : ByteArray).size = 1 := rfl
  have e3 : (⟨#[48, 48]⟩ : ByteArray).size = 2 := rfl
  unfold headX
  rw [ByteArray.size_append, ByteArray.size_append, ByteArray.size_append, ByteArray.size_append]
  cases rm
  · rw [if_neg (by decide)]; omega
  · rw [if_pos rfl]; omega
theorem headS_some (id : Int) (rm : Bool) (ln : Int) : (headS id rm ln).toList.isEmpty = false := by
  have e1 : (⟨#[48]⟩ : ByteArray).size = 1 := rfl
  have e3 : (⟨#[48, 48]⟩ : ByteArray).size = 2 := rfl
  have : 0 < (headS id rm ln).size := by
    unfold headS headX
    rw [ByteArray.size_append, ByteArray.size_append, ByteArray.size_append, ByteArray.size_append]
    omega
  rw [ByteArray.toList_eq]
  rw [Bool.eq_false_iff]
  intro e
  rw [List.isEmpty_iff] at e
  have h2 : (headS id rm ln).size = (headS id rm ln).data.toList.length := rfl
  have h3 : (headS id rm ln).data.toList.length = 0 := by rw [e]; rfl
  omega
theorem headS_size (id : Int) (rm : Bool) (ln : Int) : (headS id rm ln).size ≤ 100 := headX_size _ _ _ (ofS11 id) (ofS4 ln)
theorem frOk_len {id : Int} {rm : Bool} {ln : Int} {D : List Int} (h : frOk id rm ln D = true) : D.length ≤ 8 := by
  simp only [frOk, inR, Bool.and_eq_true, decide_eq_true_eq] at h
  obtain ⟨⟨h1, h2⟩, _⟩ := h
  split at h2 <;> omega

theorem bld_at {T e : TypeId} {B b : Nat} {p : Value} {bs : List Value} {w w' : World} (h : Lib.BuilderAtF T e B b p bs w) (k : Below w.heap.size w w') : Lib.BuilderAtF T e B b p bs w' := by
  have hb := h.lt
  obtain ⟨h0, v, h1, h2, h3⟩ := h
  refine ⟨h0, v, (k.block b hb).trans h1, ?_, h3⟩
  exact h2.kept (row := none) ⟨k.os, k.tape, k.output, k.size, fun j hj _ => k.block j hj⟩ (Classical.em _)
theorem bld_keep {T e : TypeId} {B b : Nat} {bs : List Value} {w w' : World} (h : Lib.IsBuilderF T e B b bs w) (k : Below w.heap.size w w') : Lib.IsBuilderF T e B b bs w' := by
  rcases h with h | h
  · exact .inl (bld_at h k)
  · exact .inr (bld_at h k)

/-- What stands while the data are gone through: the frame's box, the builder behind it. -/
structure Bd (w : World) (n : Nat) (x0 x1 x2 x3 : Value) (o : List UInt8) (wr : World) : Prop where
  f : Four w.heap.size x0 x1 x2 x3 w wr
  b : Lib.IsBuilderF 63 5 n n (Lib.byteCells o) wr
  lt : w.heap.size < n
  size : n < wr.heap.size
theorem Bd.start {w w1 : World} {x0 x1 x2 x3 : Value} (h : Four w.heap.size x0 x1 x2 x3 w w1) : Bd w w1.heap.size x0 x1 x2 x3 [] (w1.alloc (.cells #[.pointer none, .slice none 0 0] 63)) :=
  ⟨h.alloc _, Lib.IsBuilderF.of (Lib.fresh_isBuilder 63 5 w1), World.block_lt_of_cell? w1 _ h.1.1, by simp⟩
theorem Bd.below {w : World} {n : Nat} {x0 x1 x2 x3 : Value} {o : List UInt8} {wr W : World} (h : Bd w n x0 x1 x2 x3 o wr) (b : Below wr.heap.size wr W) : Bd w n x0 x1 x2 x3 o W :=
  ⟨h.f.below b, bld_keep h.b b, h.lt, Nat.lt_of_lt_of_le h.size b.size⟩
theorem Bd.wrote {w : World} {n : Nat} {x0 x1 x2 x3 : Value} {o o' : List UInt8} {wr W : World} (h : Bd w n x0 x1 x2 x3 o wr) (hb : Lib.IsBuilderF 63 5 n n (Lib.byteCells o') W) (b : Below n wr W) : Bd w n x0 x1 x2 x3 o' W := by
  obtain ⟨⟨c0, c1, c2, c3⟩, fb⟩ := h.f
  have hl := h.lt
  exact ⟨⟨⟨(b.cell hl).trans c0, (b.cell hl).trans c1, (b.cell hl).trans c2, (b.cell hl).trans c3⟩, fb.trans (b.mono (by omega))⟩, hb, hl, Nat.lt_of_lt_of_le h.size b.size⟩

/-- impl.BodyOf. -/
theorem implBodyOf (id : Int) (rm : Bool) (ln : Int) (a : Option Addr) (D : List Int) (c : Nat) (w : World) (hd : Nums a D w) :
    Calls Try.prog 46 #[frV id rm ln a D.length c] w fun e w' => e = .returned (.string (bodyV id rm ln D)) ∧ Below w.heap.size w w' := by
  have f0 := Four.made (.int .i64 id) (.bool rm) (.int .i64 ln) (.slice a D.length c) 26 (Below.refl w.heap.size w)
  go_enter Try.func46, Try.ntmps46
  go_wp2_with fail
  refine (implFrameOk _ _ _ _ _ _ _ (hd.alloc _)).mono ?_
  rintro e w1 ⟨rfl, b1⟩
  replace f0 := f0.below b1
  clear b1
  cases hok : frOk id rm ln D with
  | false =>
    have HV := Lib.hid (bodyV_no hok)
    clear hok
    go_wp2_with fail
    go_ret
    exact ⟨by rw [HV.out]; rfl, f0.2⟩
  | true =>
    have HV := Lib.hid (bodyV_yes hok)
    have hl := frOk_len hok
    have hs := headS_size id rm ln
    clear hok
    have B := Bd.start f0
    clear f0
    go_upto_region 4 with fail
    generalize w1.alloc (.cells #[.pointer none, .slice none 0 0] 63) = W at B ⊢
    generalize w1.heap.size = n at B ⊢
    have Bk := B
    obtain ⟨⟨c0, c1, c2, c3⟩, _⟩ := Bk.f
    go_wp2_with fail
    clear Bk
    refine (headedOf _ _ _ _ _ _ _).mono ?_
    rintro e w2 ⟨rfl, b2⟩
    replace B := B.below b2
    clear b2 c0 c1 c2 c3
    have hfld := field_head id rm ln a D.length c w2
    go_wp2_with fail
    refine (headBits _ _ _ _).mono ?_
    rintro e w3 ⟨rfl, b2⟩
    replace B := B.below b2
    clear b2 hfld
    generalize headS id rm ln = h at *
    go_wp2_with fail
    have hsz := B.size
    refine (writeString _ _ _ _ _ B.b (by simp [Lib.byteCells_length]; omega) (by omega)).mono ?_
    rintro e w4 ⟨rfl, g1, g2, _⟩
    replace B := B.wrote (o' := upto h D 0) (by rw [upto_zero]; exact Or.inr g1) g2
    clear g1 g2 hsz
    have hm := hd.1
    unfold maxLen at hm
    have Bk := B
    obtain ⟨⟨c0, c1, c2, c3⟩, _⟩ := Bk.f
    go_wp2_with fail
    clear Bk c0 c1 c2 c3
    go_loopw [5, 6, 7, 19] (fun _ _ _ i wr => ∃ k : Nat, k ≤ D.length ∧ i = .int .i64 k ∧ Bd w n (.int .i64 id) (.bool rm) (.int .i64 ln) (.slice a D.length c) (upto h D k) wr) (fun _ _ _ i _ => D.length - (intOf i).toNat)
    case atStart => exact ⟨0, Nat.zero_le _, rfl, B⟩
    case round =>
      clear B
      obtain ⟨k, hk, rfl, B⟩ := hrel
      have hlen := upto_len h D k hk
      by_cases hlt : k < D.length
      · obtain ⟨bl, o, rfl, hc⟩ := (hd.below B.f.2).2.2 k hlt
        have HX := Lib.hid (upto_succ h D k hlt)
        generalize nth D k = v at hc HX
        have q8 := ofS8 v
        go_wp2_with fail
        refine (implOf _ _ _).mono ?_
        rintro e w5 ⟨rfl, b2⟩
        replace B := B.below b2
        clear b2 hc
        generalize ofS v 8 = x at *
        go_wp2_with fail
        have hsz := B.size
        refine (writeString _ _ _ _ _ B.b (by rw [Lib.byteCells_length]; omega) (by omega)).mono ?_
        rintro e w6 ⟨rfl, g1, g2, _⟩
        replace B := B.wrote (o' := upto h D (k + 1)) (by rw [HX.out, Lib.byteCells_append]; exact Or.inr g1) g2
        clear g1 g2 hsz
        go_wp2_with fail
        go_roundw
        case rel => exact ⟨k + 1, by omega, by go_num, B⟩
        case measure => simp [intOf]; omega
      · obtain rfl : k = D.length := by omega
        have hsz := B.size
        go_wp2_with fail
        refine (textOf _ _ _ _ B.b (by omega)).mono ?_
        rintro e w5 ⟨rfl, _, g2, _⟩
        have hB := B.f.2.trans (g2.mono (by have := B.lt; omega))
        clear B g2
        go_wp2_with fail
        go_ret
        exact ⟨by rw [HV.out]; rfl, hB⟩
/-- spec.BodyOf. -/
theorem specBodyOf (id : Int) (rm : Bool) (ln : Int) (a : Option Addr) (D : List Int) (c : Nat) (w : World) (hd : Nums a D w) :
    Calls Try.prog 51 #[frV id rm ln a D.length c] w fun e w' => e = .returned (.string (bodyV id rm ln D)) ∧ Below w.heap.size w w' := by
  have f0 := Four.made (.int .i64 id) (.bool rm) (.int .i64 ln) (.slice a D.length c) 26 (Below.refl w.heap.size w)
  go_enter Try.func51, Try.ntmps51
  go_wp2_with fail
  refine (specHeadOf _ _ _ _ _ _ _ (hd.alloc _)).mono ?_
  rintro e w1 ⟨rfl, b1⟩
  replace f0 := f0.below b1
  clear b1
  cases hok : frOk id rm ln D with
  | false =>
    have HV := Lib.hid (bodyV_no hok)
    rw [headV_no hok]
    clear hok
    go_wp2_with fail
    go_ret
    exact ⟨by rw [HV.out]; rfl, f0.2⟩
  | true =>
    have HV := Lib.hid (bodyV_yes hok)
    have hl := frOk_len hok
    have hs := headS_size id rm ln
    have hne := headS_some id rm ln
    rw [headV_yes hok]
    clear hok
    generalize headS id rm ln = h at *
    go_wp2_with fail
    clear hne
    go_loopw [3, 4, 5, 6] (fun s i _ _ wr => ∃ k : Nat, k ≤ D.length ∧ i = .int .i64 k ∧ s = .string (uptoB h D k) ∧ Four w.heap.size (.int .i64 id) (.bool rm) (.int .i64 ln) (.slice a D.length c) w wr) (fun _ i _ _ _ => D.length - (intOf i).toNat)
    case atStart => exact ⟨0, Nat.zero_le _, rfl, by rw [uptoB_zero], f0⟩
    case round =>
      clear f0
      obtain ⟨k, hk, rfl, rfl, f0⟩ := hrel
      have hlen : (uptoB h D k).size ≤ h.size + 32 * k := upto_len h D k hk
      have f0k := f0
      obtain ⟨⟨c0, c1, c2, c3⟩, b0⟩ := f0k
      by_cases hlt : k < D.length
      · obtain ⟨bl, o, rfl, hc⟩ := (hd.below f0.2).2.2 k hlt
        have HX := Lib.hid (uptoB_succ h D k hlt)
        generalize nth D k = v at hc HX
        have q8 := ofS8 v
        generalize uptoB h D k = u at *
        go_wp2_with fail
        refine (specOf _ _ _).mono ?_
        rintro e w5 ⟨rfl, b2⟩
        replace f0 := f0.below b2
        clear b2 hc c0 c1 c2 c3 b0
        generalize ofS v 8 = x at *
        go_wp2_with fail
        go_roundw
        case rel => exact ⟨k + 1, by omega, by go_num, by rw [HX.out], f0⟩
        case measure => simp [intOf]; omega
      · obtain rfl : k = D.length := by omega
        generalize uptoB h D D.length = u at *
        go_wp2_with fail
        go_ret
        exact ⟨by rw [HV.out]; rfl, b0⟩
end Go.Proofs.Ythhhhfpgmolcmab
