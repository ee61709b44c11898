/- Contracts of BodyOf, of the program (a strings.Builder) and of the model. -/
import Derived.Test.YtnhmecabppaboaaGreatM3
import Derived.Test.YtnhmecabppaboaaGreatM4
import Derived.Lib.OthersKept
import Derived.Deep.CutRange
import Derived.Test.YtnhmecabppaboaaGreatM1
import Derived.Below
import Derived.WalkKit
import Derived.Deep.RegionWith
import Derived.Deep.QuietTactic
import Derived.BigQuiet
import Derived.Deep.DeepCutAuto

set_option maxRecDepth 20000
namespace Go.Proofs.YtnhmecabppaboaaGreat
open Go.RowKit

/-- What has been put out behind the first k bytes of data. -/
def upto (h : ByteArray) (D : List Int) (k : Nat) : List UInt8 := h.data.toList ++ (D.take k).flatMap fun b => (ofS b 8).data.toList
def uptoB (h : ByteArray) (D : List Int) (k : Nat) : ByteArray := ⟨(upto h D k).toArray⟩
def bodyV (id : Int) (rm : Bool) (ln : Int) (D : List Int) : ByteArray := if frOk id rm ln D = true then uptoB (headS id rm ln) D D.length else ByteArray.empty
theorem bodyV_no {id : Int} {rm : Bool} {ln : Int} {D : List Int} (h : frOk id rm ln D = false) : bodyV id rm ln D = ByteArray.empty := by simp [bodyV, h]
theorem bodyV_yes {id : Int} {rm : Bool} {ln : Int} {D : List Int} (h : frOk id rm ln D = true) : bodyV id rm ln D = uptoB (headS id rm ln) D D.length := by simp [bodyV, h]
theorem upto_zero (h : ByteArray) (D : List Int) : upto h D 0 = h.data.toList := by simp [upto]
theorem uptoB_zero (h : ByteArray) (D : List Int) : uptoB h D 0 = h := by unfold uptoB; rw [upto_zero]
theorem upto_succ (h : ByteArray) (D : List Int) (k : Nat) (hk : k < D.length) : upto h D (k + 1) = upto h D k ++ (ofS (nth D k) 8).data.toList := by
  have e : nth D k = D[k] := by rw [nth, List.getD_eq_getElem?_getD, List.getElem?_eq_getElem hk]; rfl
  unfold upto
  rw [e, List.take_succ_eq_append_getElem hk, List.flatMap_append, ← List.append_assoc]
  simp only [List.flatMap_cons, List.flatMap_nil, List.append_nil]
theorem uptoB_succ (h : ByteArray) (D : List Int) (k : Nat) (hk : k < D.length) : uptoB h D (k + 1) = uptoB h D k ++ ofS (nth D k) 8 := by
  unfold uptoB; rw [upto_succ h D k hk]
  apply ba_inj; simp
theorem upto_len (h : ByteArray) (D : List Int) : ∀ k, k ≤ D.length → (upto h D k).length ≤ h.size + 32 * k
  | 0, _ => by rw [upto_zero]; exact Nat.le_refl _
  | k + 1, hk => by
    rw [upto_succ h D k (by omega), List.length_append]
    have := upto_len h D k (by omega)
    have h2 : (ofS (nth D k) 8).data.toList.length ≤ 32 := ofS8 (nth D k)
    omega
theorem headX_size (x y : ByteArray) (rm : Bool) (hx : x.size ≤ 32) (hy : y.size ≤ 32) : (headX x rm y).size ≤ 100 := by
  have e1 : (⟨#[48]⟩ : ByteArray).size = 1 := rfl
  have e2 : (⟨#[49]⟩ : ByteArray).size = 1 := rfl
  have e3 : (⟨#[48, 48]⟩ : ByteArray).size = 2 := rfl
  unfold headX
  rw [ByteArray.size_append, ByteArray.size_append, ByteArray.size_append, ByteArray.size_append]
  cases rm
  · rw [if_neg (by decide)]; omega
  · rw [if_pos rfl]; omega
theorem headS_some (id : Int) (rm : Bool) (ln : Int) : (headS id rm ln).toList.isEmpty = false := by
  have e1 : (⟨#[48]⟩ : ByteArray).size = 1 := rfl
  have e3 : (⟨#[48, 48]⟩ : ByteArray).size = 2 := rfl
  have : 0 < (headS id rm ln).size := by
    unfold headS headX
    rw [ByteArray.size_append, ByteArray.size_append, ByteArray.size_append, ByteArray.size_append]
    omega
  rw [ByteArray.toList_eq]
  rw [Bool.eq_false_iff]
  intro e
  rw [List.isEmpty_iff] at e
  have h2 : (headS id rm ln).size = (headS id rm ln).data.toList.length := rfl
  have h3 : (headS id rm ln).data.toList.length = 0 := by rw [e]; rfl
  omega
theorem headS_size (id : Int) (rm : Bool) (ln : Int) : (headS id rm ln).size ≤ 100 := headX_size _ _ _ (ofS11 id) (ofS4 ln)
theorem frOk_len {id : Int} {rm : Bool} {ln : Int} {D : List Int} (h : frOk id rm ln D = true) : D.length ≤ 8 := by
  simp only [frOk, inR, Bool.and_eq_true, decide_eq_true_eq] at h
  obtain ⟨⟨h1, h2⟩, _⟩ := h
  split at h2 <;> omega

theorem bld_at {T e : TypeId} {B b : Nat} {p : Value} {bs : List Value} {w w' : World} (h : Lib.BuilderAtF T e B b p bs w) (k : Below w.heap.size w w') : Lib.BuilderAtF T e B b p bs w' := by
  have hb := h.lt
  obtain ⟨h0, v, h1, h2, h3⟩ := h
  refine ⟨h0, v, (k.block b hb).trans h1, ?_, h3⟩
  exact h2.kept (row := none) ⟨k.os, k.tape, k.output, k.size, fun j hj _ => k.block j hj⟩ (Classical.em _)
theorem bld_keep {T e : TypeId} {B b : Nat} {bs : List Value} {w w' : World} (h : Lib.IsBuilderF T e B b bs w) (k : Below w.heap.size w w') : Lib.IsBuilderF T e B b bs w' := by
  rcases h with h | h
  · exact .inl (bld_at h k)
  · exact .inr (bld_at h k)

/-- What stands while the data are gone through: the frame's box, the builder behind it. -/
structure Bd (w : World) (n : Nat) (x0 x1 x2 x3 : Value) (o : List UInt8) (wr : World) : Prop where
  f : Four w.heap.size x0 x1 x2 x3 w wr
  b : Lib.IsBuilderF 143 5 n n (Lib.byteCells o) wr
  lt : w.heap.size < n
  size : n < wr.heap.size
theorem Bd.start {w w1 : World} {x0 x1 x2 x3 : Value} (h : Four w.heap.size x0 x1 x2 x3 w w1) : Bd w w1.heap.size x0 x1 x2 x3 [] (w1.alloc (.cells #[.pointer none, .slice none 0 0] 143)) :=
  ⟨h.alloc _, Lib.IsBuilderF.of (Lib.fresh_isBuilder 143 5 w1), World.block_lt_of_cell? w1 _ h.1.1, by simp⟩
theorem Bd.below {w : World} {n : Nat} {x0 x1 x2 x3 : Value} {o : List UInt8} {wr W : World} (h : Bd w n x0 x1 x2 x3 o wr) (b : Below wr.heap.size wr W) : Bd w n x0 x1 x2 x3 o W :=
  ⟨h.f.below b, bld_keep h.b b, h.lt, Nat.lt_of_lt_of_le h.size b.size⟩
theorem Bd.wrote {w : World} {n : Nat} {x0 x1 x2 x3 : Value} {o o' : List UInt8} {wr W : World} (h : Bd w n x0 x1 x2 x3 o wr) (hb : Lib.IsBuilderF 143 5 n n (Lib.byteCells o') W) (b : Below n wr W) : Bd w n x0 x1 x2 x3 o' W := by
  obtain ⟨⟨c0, c1, c2, c3⟩, fb⟩ := h.f
  have hl := h.lt
  exact ⟨⟨⟨(b.cell hl).trans c0, (b.cell hl).trans c1, (b.cell hl).trans c2, (b.cell hl).trans c3⟩, fb.trans (b.mono (by omega))⟩, hb, hl, Nat.lt_of_lt_of_le h.size b.size⟩

/-- impl.BodyOf. -/
theorem implBodyOf (id : Int) (rm : Bool) (ln : Int) (a : Option Addr) (D : List Int) (c : Nat) (w : World) (hd : Nums a D w) :
    Calls Tryz.prog 128 #[frV id rm ln a D.length c] w fun e w' => e = .returned (.string (bodyV id rm ln D)) ∧ Below w.heap.size w w' := by
  have f0 := Four.made (.int .i64 id) (.bool rm) (.int .i64 ln) (.slice a D.length c) 35 (Below.refl w.heap.size w)
  go_enter Tryz.func128, Tryz.ntmps128
  go_wp2_with fail
  refine (implFrameOk _ _ _ _ _ _ _ (hd.alloc _)).mono ?_
  rintro e w1 ⟨rfl, b1⟩
  replace f0 := f0.below b1
  clear b1
  cases hok : frOk id rm ln D with
  | false =>
    have HV := Lib.hid (bodyV_no hok)
    clear hok
    go_wp2_with fail
    go_ret
    exact ⟨by rw [HV.out]; rfl, f0.2⟩
  | true =>
    have HV := Lib.hid (bodyV_yes hok)
    have hl := frOk_len hok
    have hs := headS_size id rm ln
    clear hok
    have B := Bd.start f0
    clear f0
    go_upto_region 4 with fail
    generalize w1.alloc (.cells #[.pointer none, .slice none 0 0] 143) = W at B ⊢
    generalize w1.heap.size = n at B ⊢
    have Bk := B
    obtain ⟨⟨c0, c1, c2, c3⟩, _⟩ := Bk.f
    go_wp2_with fail
    clear Bk
    refine (headedOf _ _ _ _ _ _ _).mono ?_
    rintro e w2 ⟨rfl, b2⟩
    replace B := B.below b2
    clear b2 c0 c1 c2 c3
    have hfld := field_head id rm ln a D.length c w2
    go_wp2_with fail
    refine (headBits _ _ _ _).mono ?_
    rintro e w3 ⟨rfl, b2⟩
    replace B := B.below b2
    clear b2 hfld
    generalize headS id rm ln = h at *
    go_wp2_with fail
    have hsz := B.size
    refine (writeString _ _ _ _ _ B.b (by simp [Lib.byteCells_length]; omega) (by omega)).mono ?_
    rintro e w4 ⟨rfl, g1, g2, _⟩
    replace B := B.wrote (o' := upto h D 0) (by rw [upto_zero]; exact Or.inr g1) g2
    clear g1 g2 hsz
    have hm := hd.1
    unfold maxLen at hm
    have Bk := B
    obtain ⟨⟨c0, c1, c2, c3⟩, _⟩ := Bk.f
    go_wp2_with fail
    clear Bk c0 c1 c2 c3
    go_loopw [5, 6, 7, 19] (fun _ _ _ i wr => ∃ k : Nat, k ≤ D.length ∧ i = .int .i64 k ∧ Bd w n (.int .i64 id) (.bool rm) (.int .i64 ln) (.slice a D.length c) (upto h D k) wr) (fun _ _ _ i _ => D.length - (intOf i).toNat)
    case atStart => exact ⟨0, Nat.zero_le _, rfl, B⟩
    case round =>
      clear B
      obtain ⟨k, hk, rfl, B⟩ := hrel
      have hlen := upto_len h D k hk
      by_cases hlt : k < D.length
      · obtain ⟨bl, o, rfl, hc⟩ := (hd.below B.f.2).2.2 k hlt
        have HX := Lib.hid (upto_succ h D k hlt)
        generalize nth D k = v at hc HX
        have q8 := ofS8 v
        go_wp2_with fail
        refine (implOf _ _ _).mono ?_
        rintro e w5 ⟨rfl, b2⟩
        replace B := B.below b2
        clear b2 hc
        generalize ofS v 8 = x at *
        go_wp2_with fail
        have hsz := B.size
        refine (writeString _ _ _ _ _ B.b (by rw [Lib.byteCells_length]; omega) (by omega)).mono ?_
        rintro e w6 ⟨rfl, g1, g2, _⟩
        replace B := B.wrote (o' := upto h D (k + 1)) (by rw [HX.out, Lib.byteCells_append]; exact Or.inr g1) g2
        clear g1 g2 hsz
        go_wp2_with fail
        go_roundw
        case rel => exact ⟨k + 1, by omega, by go_num, B⟩
        case measure => simp [intOf]; omega
      · obtain rfl : k = D.length := by omega
        have hsz := B.size
        go_wp2_with fail
        refine (textOf _ _ _ _ B.b (by omega)).mono ?_
        rintro e w5 ⟨rfl, _, g2, _⟩
        have hB := B.f.2.trans (g2.mono (by have := B.lt; omega))
        clear B g2
        go_wp2_with fail
        go_ret
        exact ⟨by rw [HV.out]; rfl, hB⟩
/-- spec.BodyOf. -/
theorem specBodyOf (id : Int) (rm : Bool) (ln : Int) (a : Option Addr) (D : List Int) (c : Nat) (w : World) (hd : Nums a D w) :
    Calls Tryz.prog 120 #[frV id rm ln a D.length c] w fun e w' => e = .returned (.string (bodyV id rm ln D)) ∧ Below w.heap.size w w' := by
  have f0 := Four.made (.int .i64 id) (.bool rm) (.int .i64 ln) (.slice a D.length c) 35 (Below.refl w.heap.size w)
  go_enter Tryz.func120, Tryz.ntmps120
  go_wp2_with fail
  refine (specHeadOf _ _ _ _ _ _ _ (hd.alloc _)).mono ?_
  rintro e w1 ⟨rfl, b1⟩
  replace f0 := f0.below b1
  clear b1
  cases hok : frOk id rm ln D with
  | false =>
    have HV := Lib.hid (bodyV_no hok)
    rw [headV_no hok]
    clear hok
    go_wp2_with fail
    go_ret
    exact ⟨by rw [HV.out]; rfl, f0.2⟩
  | true =>
    have HV := Lib.hid (bodyV_yes hok)
    have hl := frOk_len hok
    have hs := headS_size id rm ln
    have hne := headS_some id rm ln
    rw [headV_yes hok]
    clear hok
    generalize headS id rm ln = h at *
    go_wp2_with fail
    clear hne
    go_loopw [3, 4, 5, 6] (fun s i _ _ wr => ∃ k : Nat, k ≤ D.length ∧ i = .int .i64 k ∧ s = .string (uptoB h D k) ∧ Four w.heap.size (.int .i64 id) (.bool rm) (.int .i64 ln) (.slice a D.length c) w wr) (fun _ i _ _ _ => D.length - (intOf i).toNat)
    case atStart => exact ⟨0, Nat.zero_le _, rfl, by rw [uptoB_zero], f0⟩
    case round =>
      clear f0
      obtain ⟨k, hk, rfl, rfl, f0⟩ := hrel
      have hlen : (uptoB h D k).size ≤ h.size + 32 * k := upto_len h D k hk
      have f0k := f0
      obtain ⟨⟨c0, c1, c2, c3⟩, b0⟩ := f0k
      by_cases hlt : k < D.length
      · obtain ⟨bl, o, rfl, hc⟩ := (hd.below f0.2).2.2 k hlt
        have HX := Lib.hid (uptoB_succ h D k hlt)
        generalize nth D k = v at hc HX
        have q8 := ofS8 v
        generalize uptoB h D k = u at *
        go_wp2_with fail
        refine (specOf _ _ _).mono ?_
        rintro e w5 ⟨rfl, b2⟩
        replace f0 := f0.below b2
        clear b2 hc c0 c1 c2 c3 b0
        generalize ofS v 8 = x at *
        go_wp2_with fail
        go_roundw
        case rel => exact ⟨k + 1, by omega, by go_num, by rw [HX.out], f0⟩
        case measure => simp [intOf]; omega
      · obtain rfl : k = D.length := by omega
        generalize uptoB h D D.length = u at *
        go_wp2_with fail
        go_ret
        exact ⟨by rw [HV.out]; rfl, b0⟩
end Go.Proofs.YtnhmecabppaboaaGreat

/- Frames as bits, plain: how long a body is, what stands at its front, and that two right frames of one body are one frame. -/

set_option maxRecDepth 20000
namespace Go.Proofs.YtnhmecabppaboaaGreat
open Go.RowKit

theorem ofs11 {n : Int} (h0 : 0 ≤ n) (h : n ≤ 2047) : (ofS n 11).size = 11 ∧ numV (ofS n 11) = n := by
  have hp : n < 2 ^ 11 := by omega
  obtain ⟨f1, _, _, f4⟩ := facts (n := n) (c := 11) (by omega) h0 hp
  have e : ((11 : Nat) : Int) = 11 := rfl
  rw [e] at f1 f4
  exact ⟨f1, f4⟩
theorem ofs4 {n : Int} (h0 : 0 ≤ n) (h : n ≤ 8) : (ofS n 4).size = 4 ∧ numV (ofS n 4) = n := by
  have hp : n < 2 ^ 4 := by omega
  obtain ⟨f1, _, _, f4⟩ := facts (n := n) (c := 4) (by omega) h0 hp
  have e : ((4 : Nat) : Int) = 4 := rfl
  rw [e] at f1 f4
  exact ⟨f1, f4⟩
theorem ofs8 {n : Int} (h : byOk n = true) : (ofS n 8).size = 8 ∧ numV (ofS n 8) = n := by
  simp only [byOk, Bool.and_eq_true, decide_eq_true_eq] at h
  have hp : n < 2 ^ 8 := by omega
  obtain ⟨f1, _, _, f4⟩ := facts (n := n) (c := 8) (by omega) h.1 hp
  have e : ((8 : Nat) : Int) = 8 := rfl
  rw [e] at f1 f4
  exact ⟨f1, f4⟩

theorem frOk_spec {id : Int} {rm : Bool} {ln : Int} {D : List Int} (h : frOk id rm ln D = true) : (0 ≤ id ∧ id ≤ 2047 ∧ 0 ≤ ln ∧ ln ≤ 8) ∧ (D.length : Int) = (if rm = true then 0 else ln) ∧ D.all byOk = true := by
  simp only [frOk, inR, Bool.and_eq_true, decide_eq_true_eq] at h
  exact ⟨⟨h.1.1.1.1.1, h.1.1.1.1.2, h.1.1.1.2, h.1.1.2⟩, h.1.2, h.2⟩

theorem len_list (s : ByteArray) : s.data.toList.length = s.size := rfl
theorem headX_list (x : ByteArray) (rm : Bool) (y : ByteArray) : (headX x rm y).data.toList = [48] ++ x.data.toList ++ [if rm = true then 49 else 48] ++ [48, 48] ++ y.data.toList := by
  unfold headX
  cases rm <;> simp
theorem headS_19 {id : Int} {rm : Bool} {ln : Int} (h : 0 ≤ id ∧ id ≤ 2047 ∧ 0 ≤ ln ∧ ln ≤ 8) : (headS id rm ln).size = 19 := by
  have h1 := (ofs11 h.1 h.2.1).1
  have h2 := (ofs4 h.2.2.1 h.2.2.2).1
  rw [← len_list, headS, headX_list]
  simp only [List.length_append, List.length_singleton, len_list, h1, h2]
  rfl
theorem headS_inj {i0 i1 : Int} {r0 r1 : Bool} {l0 l1 : Int} (h0 : 0 ≤ i0 ∧ i0 ≤ 2047 ∧ 0 ≤ l0 ∧ l0 ≤ 8) (h1 : 0 ≤ i1 ∧ i1 ≤ 2047 ∧ 0 ≤ l1 ∧ l1 ≤ 8)
    (h : (headS i0 r0 l0).data.toList = (headS i1 r1 l1).data.toList) : i0 = i1 ∧ r0 = r1 ∧ l0 = l1 := by
  obtain ⟨a1, a2⟩ := ofs11 h0.1 h0.2.1
  obtain ⟨b1, b2⟩ := ofs4 h0.2.2.1 h0.2.2.2
  obtain ⟨c1, c2⟩ := ofs11 h1.1 h1.2.1
  obtain ⟨d1, d2⟩ := ofs4 h1.2.2.1 h1.2.2.2
  rw [headS, headS, headX_list, headX_list] at h
  obtain ⟨h, ey⟩ := List.append_inj' h (by rw [len_list, len_list, b1, d1])
  obtain ⟨h, _⟩ := List.append_inj' h rfl
  obtain ⟨h, er⟩ := List.append_inj' h rfl
  obtain ⟨_, ex⟩ := List.append_inj' h (by rw [len_list, len_list, a1, c1])
  have e1 : i0 = i1 := by rw [← a2, ← c2, ba_inj ex]
  have e2 : l0 = l1 := by rw [← b2, ← d2, ba_inj ey]
  refine ⟨e1, ?_, e2⟩
  cases r0 <;> cases r1 <;> simp at er ⊢

theorem flat_len : ∀ (D : List Int), D.all byOk = true → (D.flatMap fun b => (ofS b 8).data.toList).length = 8 * D.length
  | [], _ => rfl
  | b :: D, h => by
    simp only [List.all_cons, Bool.and_eq_true] at h
    rw [List.flatMap_cons, List.length_append, flat_len D h.2, len_list, (ofs8 h.1).1, List.length_cons]
    omega
theorem flat_inj : ∀ (D E : List Int), D.all byOk = true → E.all byOk = true → (D.flatMap fun b => (ofS b 8).data.toList) = (E.flatMap fun b => (ofS b 8).data.toList) → D = E
  | [], [], _, _, _ => rfl
  | [], e :: E, _, hE, h => by
    have h1 := flat_len (e :: E) hE
    rw [← h] at h1
    simp at h1
  | d :: D, [], hD, _, h => by
    have h1 := flat_len (d :: D) hD
    rw [h] at h1
    simp at h1
  | d :: D, e :: E, hD, hE, h => by
    simp only [List.all_cons, Bool.and_eq_true] at hD hE
    rw [List.flatMap_cons, List.flatMap_cons] at h
    obtain ⟨h1, h2⟩ := List.append_inj h (by rw [len_list, len_list, (ofs8 hD.1).1, (ofs8 hE.1).1])
    have e1 : d = e := by rw [← (ofs8 hD.1).2, ← (ofs8 hE.1).2, ba_inj h1]
    rw [e1, flat_inj D E hD.2 hE.2 h2]

theorem body_list {id : Int} {rm : Bool} {ln : Int} {D : List Int} (h : frOk id rm ln D = true) : (bodyV id rm ln D).data.toList = (headS id rm ln).data.toList ++ D.flatMap fun b => (ofS b 8).data.toList := by
  rw [bodyV_yes h, uptoB, upto, List.take_length]
theorem body_size {id : Int} {rm : Bool} {ln : Int} {D : List Int} (h : frOk id rm ln D = true) : (bodyV id rm ln D).size = 19 + 8 * D.length := by
  obtain ⟨h1, h2, h3⟩ := frOk_spec h
  rw [← len_list, body_list h, List.length_append, flat_len D h3, len_list, headS_19 h1]
theorem body_head {id : Int} {rm : Bool} {ln : Int} {D : List Int} (h : frOk id rm ln D = true) : (bodyV id rm ln D).extract 0 19 = headV id rm ln D := by
  obtain ⟨h1, h2, h3⟩ := frOk_spec h
  apply ba_inj
  have h19 := headS_19 (rm := rm) h1
  rw [front_list, body_list h, headV_yes h, List.take_left' (by rw [len_list, h19])]
theorem body_same {i0 : Int} {r0 : Bool} {l0 : Int} {D0 : List Int} {i1 : Int} {r1 : Bool} {l1 : Int} {D1 : List Int} (h0 : frOk i0 r0 l0 D0 = true) :
    ((bodyV i0 r0 l0 D0).toList == (bodyV i1 r1 l1 D1).toList) = sameFr i0 r0 l0 D0 i1 r1 l1 D1 := by
  rw [teq]
  obtain ⟨a1, a2, a3⟩ := frOk_spec h0
  cases h1 : frOk i1 r1 l1 D1 with
  | false =>
    have hne : ¬ bodyV i0 r0 l0 D0 = bodyV i1 r1 l1 D1 := by
      intro e
      have h2 := body_size h0
      rw [e, bodyV_no h1] at h2
      have : ByteArray.empty.size = 0 := rfl
      omega
    rw [decide_eq_false hne]
    symm
    rw [Bool.eq_false_iff]
    intro e
    simp only [sameFr, Bool.and_eq_true, decide_eq_true_eq] at e
    obtain ⟨⟨⟨rfl, rfl⟩, rfl⟩, rfl⟩ := e
    rw [h0] at h1
    cases h1
  | true =>
    obtain ⟨b1, b2, b3⟩ := frOk_spec h1
    rw [Bool.eq_iff_iff, decide_eq_true_eq]
    simp only [sameFr, Bool.and_eq_true, decide_eq_true_eq]
    constructor
    · intro e
      have e' : (bodyV i0 r0 l0 D0).data.toList = (bodyV i1 r1 l1 D1).data.toList := by rw [e]
      rw [body_list h0, body_list h1] at e'
      obtain ⟨eh, ed⟩ := List.append_inj e' (by rw [len_list, len_list, headS_19 a1, headS_19 b1])
      obtain ⟨e1, e2, e3⟩ := headS_inj a1 b1 eh
      exact ⟨⟨⟨e1, e2⟩, e3⟩, flat_inj D0 D1 a3 b3 ed⟩
    · rintro ⟨⟨⟨rfl, rfl⟩, rfl⟩, rfl⟩
      rfl
end Go.Proofs.YtnhmecabppaboaaGreat

/- A right frame's bits with their check, plain: they are bits, and how many. -/

set_option maxRecDepth 20000
namespace Go.Proofs.YtnhmecabppaboaaGreat
open Go.RowKit

def fullV (id : Int) (rm : Bool) (ln : Int) (D : List Int) : ByteArray := withV (bodyV id rm ln D)

theorem flat_bits : ∀ (D : List Int), D.all byOk = true → ∀ c ∈ (D.flatMap fun b => (ofS b 8).data.toList), bit c = true
  | [], _, c, hc => by cases hc
  | b :: D, h, c, hc => by
    simp only [List.all_cons, Bool.and_eq_true] at h
    rw [List.flatMap_cons, List.mem_append] at hc
    rcases hc with hc | hc
    · have hb : 0 ≤ b ∧ b ≤ 255 := by have := h.1; simp only [byOk, Bool.and_eq_true, decide_eq_true_eq] at this; exact this
      exact mem_bit (facts (n := b) (c := 8) (by omega) hb.1 (by omega)).2.1 c hc
    · exact flat_bits D h.2 c hc
theorem headS_bits {id : Int} {rm : Bool} {ln : Int} (h : 0 ≤ id ∧ id ≤ 2047 ∧ 0 ≤ ln ∧ ln ≤ 8) : ∀ c ∈ (headS id rm ln).data.toList, bit c = true := by
  intro c hc
  unfold headS at hc
  rw [headX_list] at hc
  simp only [List.mem_append, List.mem_cons, List.not_mem_nil, or_false] at hc
  rcases hc with (((hc | hc) | hc) | hc) | hc
  · subst hc; decide
  · exact mem_bit (facts (n := id) (c := 11) (by omega) h.1 (by omega)).2.1 c hc
  · subst hc; cases rm <;> decide
  · rcases hc with rfl | rfl <;> decide
  · exact mem_bit (facts (n := ln) (c := 4) (by omega) h.2.2.1 (by omega)).2.1 c hc
theorem body_ok {id : Int} {rm : Bool} {ln : Int} {D : List Int} (h : frOk id rm ln D = true) : okB (bodyV id rm ln D) = true := by
  obtain ⟨h1, h2, h3⟩ := frOk_spec h
  have hl := frOk_len h
  rw [okB_iff, body_size h]
  refine ⟨by omega, ?_⟩
  intro c hc
  rw [body_list h, List.mem_append] at hc
  rcases hc with hc | hc
  · exact headS_bits h1 c hc
  · exact flat_bits D h3 c hc
theorem body_with {id : Int} {rm : Bool} {ln : Int} {D : List Int} (h : frOk id rm ln D = true) : withOk (bodyV id rm ln D) = true := by
  have hl := frOk_len h
  exact withOk_yes (body_ok h) (by rw [body_size h]; omega)
theorem full_size {id : Int} {rm : Bool} {ln : Int} {D : List Int} (h : frOk id rm ln D = true) : (fullV id rm ln D).size = 34 + 8 * D.length := by
  rw [fullV, withV_yes (body_with h), ByteArray.size_append, body_size h, (tail15 _).1]
  omega
theorem full_ok {id : Int} {rm : Bool} {ln : Int} {D : List Int} (h : frOk id rm ln D = true) : okB (fullV id rm ln D) = true := by
  have hl := frOk_len h
  rw [fullV, withV_yes (body_with h), okB_with (body_ok h), decide_eq_true_eq, body_size h]
  omega
theorem full_len (id : Int) (rm : Bool) (ln : Int) (D : List Int) : (fullV id rm ln D).size ≤ 98 := by
  cases h : frOk id rm ln D with
  | true => have := frOk_len h; rw [full_size h]; omega
  | false =>
    have e : (fullV id rm ln D) = withV ByteArray.empty := by rw [fullV, bodyV_no h]
    have e2 : withOk ByteArray.empty = true := by decide
    rw [e, withV_yes e2, ByteArray.size_append, (tail15 _).1]
    decide

end Go.Proofs.YtnhmecabppaboaaGreat

/- Contracts of ParesAt, of the program and of the model: the first place at which the two bodies are not one; -1 where a frame is not right. -/

set_option maxRecDepth 20000
namespace Go.Proofs.YtnhmecabppaboaaGreat
open Go.RowKit

/-- The first place at which two texts part, or the end of the shorter one. -/
def pare : List UInt8 → List UInt8 → Nat
  | x :: s, y :: t => if x = y then pare s t + 1 else 0
  | _, _ => 0
theorem pare_is : ∀ (s t : List UInt8) (k : Nat), k ≤ s.length → k ≤ t.length → (∀ j, j < k → s[j]? = t[j]?) → (k = s.length ∨ k = t.length ∨ s[k]? ≠ t[k]?) → pare s t = k := by
  intro s
  induction s with
  | nil => intro t k hs _ _ _; cases t <;> simp [pare] <;> simp at hs <;> omega
  | cons x s ih =>
    intro t k hs ht he hn
    cases t with
    | nil => simp at ht; simp [pare]; omega
    | cons y t =>
      cases k with
      | zero =>
        simp at hn
        simp [pare, hn]
      | succ k =>
        have h0 := he 0 (by omega)
        simp at h0
        simp only [pare, if_pos h0]
        rw [ih t k (by simpa using hs) (by simpa using ht) (fun j hj => by have := he (j + 1) (by omega); simpa using this) (by simpa using hn)]
def pareB (s t : ByteArray) : Nat := pare s.data.toList t.data.toList
theorem at_list (s : ByteArray) (k : Nat) (h : k < s.size) : s.data.toList[k]? = some (s[k]'h) := by
  have hk : k < s.data.toList.length := h
  rw [List.getElem?_eq_getElem hk]; rfl
/-- Up to k the two texts are one. -/
def Agree (s t : ByteArray) (k : Nat) : Prop := k ≤ s.size ∧ k ≤ t.size ∧ ∀ j, j < k → s.data.toList[j]? = t.data.toList[j]?
theorem Agree.zero (s t : ByteArray) : Agree s t 0 := ⟨Nat.zero_le _, Nat.zero_le _, fun j hj => absurd hj (by omega)⟩
theorem Agree.next {s t : ByteArray} {k : Nat} (h : Agree s t k) (hs : k < s.size) (ht : k < t.size) (e : s[k]'hs = t[k]'ht) : Agree s t (k + 1) := by
  refine ⟨hs, ht, fun j hj => ?_⟩
  by_cases hjk : j = k
  · subst hjk; rw [at_list s j hs, at_list t j ht, e]
  · exact h.2.2 j (by omega)
theorem Agree.part {s t : ByteArray} {k : Nat} (h : Agree s t k) (hs : k < s.size) (ht : k < t.size) (e : s[k]'hs ≠ t[k]'ht) : pareB s t = k :=
  pare_is _ _ k h.1 h.2.1 h.2.2 (.inr (.inr (by rw [at_list s k hs, at_list t k ht]; simpa using e)))
theorem Agree.stop {s t : ByteArray} {k : Nat} (h : Agree s t k) (e : k = s.size ∨ k = t.size) : pareB s t = k :=
  pare_is _ _ k h.1 h.2.1 h.2.2 (e.elim .inl fun e => .inr (.inl e))

def paresV (ia : Int) (xa : Bool) (la : Int) (Da : List Int) (ib : Int) (xb : Bool) (lb : Int) (Db : List Int) : Int :=
  if frOk ia xa la Da = true ∧ frOk ib xb lb Db = true then pareB (bodyV ia xa la Da) (bodyV ib xb lb Db) else -1
section
variable {ia : Int} {xa : Bool} {la : Int} {Da : List Int} {ib : Int} {xb : Bool} {lb : Int} {Db : List Int}
theorem paresV_a (h : frOk ia xa la Da = false) : paresV ia xa la Da ib xb lb Db = -1 := by simp [paresV, h]
theorem paresV_b (h : frOk ib xb lb Db = false) : paresV ia xa la Da ib xb lb Db = -1 := by simp [paresV, h]
theorem paresV_yes (h : frOk ia xa la Da = true) (k : frOk ib xb lb Db = true) : paresV ia xa la Da ib xb lb Db = pareB (bodyV ia xa la Da) (bodyV ib xb lb Db) := by simp [paresV, h, k]
end

/-- What stands in every world of a call over two frames: the two frames' boxes and their data. -/
def Two (w0 : World) (ga gb : Nat) (ia : Int) (xa : Bool) (la : Int) (Da : List Int) (av : Option Addr) (ca : Nat) (ib : Int) (xb : Bool) (lb : Int) (Db : List Int) (bv : Option Addr) (cb : Nat) (u : World) : Prop :=
  Four ga (.int .i64 ia) (.bool xa) (.int .i64 la) (.slice av Da.length ca) w0 u ∧ Four gb (.int .i64 ib) (.bool xb) (.int .i64 lb) (.slice bv Db.length cb) w0 u ∧ Nums av Da u ∧ Nums bv Db u
section
variable {w0 : World} {ga gb : Nat} {ia : Int} {xa : Bool} {la : Int} {Da : List Int} {av : Option Addr} {ca : Nat} {ib : Int} {xb : Bool} {lb : Int} {Db : List Int} {bv : Option Addr} {cb : Nat} {u u' : World}
theorem Two.below (h : Two w0 ga gb ia xa la Da av ca ib xb lb Db bv cb u) (b : Below u.heap.size u u') : Two w0 ga gb ia xa la Da av ca ib xb lb Db bv cb u' := ⟨h.1.below b, h.2.1.below b, h.2.2.1.below b, h.2.2.2.below b⟩
theorem Two.drew (h : Two w0 ga gb ia xa la Da av ca ib xb lb Db bv cb u) : Two w0 ga gb ia xa la Da av ca ib xb lb Db bv cb u.drew := ⟨h.1.drew, h.2.1.drew, h.2.2.1.drew, h.2.2.2.drew⟩
theorem Two.made (w1 : World) (T : TypeId) (b1 : Below w0.heap.size w0 w1) (nA : Nums av Da w1) (nB : Nums bv Db w1) :
    Two w0 w1.heap.size (w1.heap.size + 1) ia xa la Da av ca ib xb lb Db bv cb ((w1.alloc (.cells #[.int .i64 ia, .bool xa, .int .i64 la, .slice av Da.length ca] T)).alloc (.cells #[.int .i64 ib, .bool xb, .int .i64 lb, .slice bv Db.length cb] T)) := by
  have f0 := Four.made (.int .i64 ia) (.bool xa) (.int .i64 la) (.slice av Da.length ca) T b1
  have f1 := Four.made (.int .i64 ib) (.bool xb) (.int .i64 lb) (.slice bv Db.length cb) T f0.2
  have hg : (w1.alloc (.cells #[.int .i64 ia, .bool xa, .int .i64 la, .slice av Da.length ca] T)).heap.size = w1.heap.size + 1 := by simp
  rw [hg] at f1
  exact ⟨f0.alloc _, f1, (nA.alloc _).alloc _, (nB.alloc _).alloc _⟩
end

theorem index_part {s t : ByteArray} (k : Nat) (hs : k < s.size) (ht : k < t.size) : ∃ x y : Int, (s[k]'hs = t[k]'ht ↔ x = y) ∧ (0 ≤ x ∧ x < 256) ∧ (0 ≤ y ∧ y < 256) ∧
    (∀ u : World, (Instr.index 9 (.string s) (.int .i64 (k : Int))).run Tryz.prog u = .ok (.int .u8 x) u) ∧
    (∀ u : World, (Instr.index 9 (.string t) (.int .i64 (k : Int))).run Tryz.prog u = .ok (.int .u8 y) u) := by
  refine ⟨((s[k]'hs).toNat : Int), ((t[k]'ht).toNat : Int), ⟨fun h => by rw [h], fun h => UInt8.toNat_inj.1 (by omega)⟩, ?_, ?_, fun u => index_at s k k u hs rfl, fun u => index_at t k k u ht rfl⟩
  · have := (s[k]'hs).toNat_lt; omega
  · have := (t[k]'ht).toNat_lt; omega


end Go.Proofs.YtnhmecabppaboaaGreat

/- Contract of the model's bits that are said (l5Full). -/

set_option linter.unusedVariables false
set_option maxRecDepth 20000
namespace Go.Proofs.YtnhmecabppaboaaGreat
open Go.RowKit

/-- spec.l5Full. -/
theorem specFull (id : Int) (rm : Bool) (ln : Int) (a : Option Addr) (D : List Int) (c : Nat) (w : World) (hd : Nums a D w) :
    Calls Tryz.prog 107 #[frV id rm ln a D.length c] w fun e w' => e = .returned (.string (fullV id rm ln D)) ∧ Below w.heap.size w w' := by
  have f0 := Four.made (.int .i64 id) (.bool rm) (.int .i64 ln) (.slice a D.length c) 35 (Below.refl w.heap.size w)
  have hbl : (bodyV id rm ln D).size ≤ 100 := by
    cases h : frOk id rm ln D with
    | true => have := frOk_len h; rw [body_size h]; omega
    | false => rw [bodyV_no h]; decide
  have HV : Hid (fullV id rm ln D = withV (bodyV id rm ln D)) := Lib.hid rfl
  go_enter Tryz.func107, Tryz.ntmps107
  go_wp2_with fail
  refine (specBodyOf _ _ _ _ _ _ _ (hd.alloc _)).mono ?_
  rintro e w1 ⟨rfl, b1⟩
  replace f0 := f0.below b1
  clear b1
  generalize bodyV id rm ln D = b at *
  go_wp2_with fail
  refine (specWith _ _ (by unfold maxLen; omega)).mono ?_
  rintro e w3 ⟨rfl, b2⟩
  replace f0 := f0.below b2
  clear b2
  generalize withV b = u at *
  generalize withOk b = uo at *
  go_wp2_with fail
  go_ret
  exact ⟨by rw [HV.out]; rfl, f0.2⟩

end Go.Proofs.YtnhmecabppaboaaGreat

/- Contract of the program's bits that a frame says ahead of its tail (checkedBody). -/

set_option linter.unusedVariables false
set_option maxRecDepth 20000
namespace Go.Proofs.YtnhmecabppaboaaGreat
open Go.RowKit

/-- impl.checkedBody. -/
theorem implChecked (id : Int) (rm : Bool) (ln : Int) (a : Option Addr) (D : List Int) (c : Nat) (w : World) (hd : Nums a D w) :
    Calls Tryz.prog 115 #[frV id rm ln a D.length c] w fun e w' => e = .returned (.string (fullV id rm ln D)) ∧ Below w.heap.size w w' := by
  have f0 := Four.made (.int .i64 id) (.bool rm) (.int .i64 ln) (.slice a D.length c) 35 (Below.refl w.heap.size w)
  have hbl : (bodyV id rm ln D).size ≤ 100 := by
    cases h : frOk id rm ln D with
    | true => have := frOk_len h; rw [body_size h]; omega
    | false => rw [bodyV_no h]; decide
  have HV : Hid (fullV id rm ln D = withV (bodyV id rm ln D)) := Lib.hid rfl
  go_enter Tryz.func115, Tryz.ntmps115
  go_wp2_with fail
  refine (implBodyOf _ _ _ _ _ _ _ (hd.alloc _)).mono ?_
  rintro e w1 ⟨rfl, b1⟩
  replace f0 := f0.below b1
  clear b1
  generalize bodyV id rm ln D = b at *
  go_wp2_with fail
  refine (implWith _ _ (by unfold maxLen; omega)).mono ?_
  rintro e w3 ⟨rfl, b2⟩
  replace f0 := f0.below b2
  clear b2
  generalize withV b = u at *
  generalize withOk b = uo at *
  go_wp2_with fail
  go_ret
  exact ⟨by rw [HV.out]; rfl, f0.2⟩

end Go.Proofs.YtnhmecabppaboaaGreat
