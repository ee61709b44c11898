/- Contracts of BodyOf, of the program (a strings.Builder) and of the model. -/
import Derived.Test.YtngcekegngmedaaGreatDoorM3
import Derived.Test.YtngcekegngmedaaGreatDoorM10
import Derived.Lib.OthersKept
import Derived.Deep.CutRange
import Derived.Test.YtngcekegngmedaaGreatDoorM1
import Derived.Test.YtngcekegngmedaaGreatDoorM0

set_option maxRecDepth 20000
namespace Go.Proofs.YtngcekegngmedaaGreatDoor
open Go.RowKit

/-- What has been put out behind the first k bytes of data. -/
def upto (h : ByteArray) (D : List Int) (k : Nat) : List UInt8 := h.data.toList ++ (D.take k).flatMap fun b => (ofS b 8).data.toList
def uptoB (h : ByteArray) (D : List Int) (k : Nat) : ByteArray := ⟨(upto h D k).toArray⟩
def bodyV (id : Int) (rm : Bool) (ln : Int) (D : List Int) : ByteArray := if frOk id rm ln D = true then uptoB (headS id rm ln) D D.length else ByteArray.empty
theorem bodyV_no {id : Int} {rm : Bool} {ln : Int} {D : List Int} (h : frOk id rm ln D = false) : bodyV id rm ln D = ByteArray.empty := by simp [bodyV, h]
theorem bodyV_yes {id : Int} {rm : Bool} {ln : Int} {D : List Int} (h : frOk id rm ln D = true) : bodyV id rm ln D = uptoB (headS id rm ln) D D.length := by simp [bodyV, h]
theorem upto_zero (h : ByteArray) (D : List Int) : upto h D 0 = h.data.toList := by simp [upto]
theorem uptoB_zero (h : ByteArray) (D : List Int) : uptoB h D 0 = h := by unfold uptoB; rw [upto_zero]
theorem upto_succ (h : ByteArray) (D : List Int) (k : Nat) (hk : k < D.length) : upto h D (k + 1) = upto h D k ++ (ofS (nth D k) 8).data.toList := by
  have e : nth D k = D[k] := by rw [nth, List.getD_eq_getElem?_getD, List.getElem?_eq_getElem hk]; rfl
  unfold upto
  rw [e, List.take_succ_eq_append_getElem hk, List.flatMap_append, ← List.append_assoc]
  simp only [List.flatMap_cons, List.flatMap_nil, List.append_nil]
theorem uptoB_succ (h : ByteArray) (D : List Int) (k : Nat) (hk : k < D.length) : uptoB h D (k + 1) = uptoB h D k ++ ofS (nth D k) 8 := by
  unfold uptoB; rw [upto_succ h D k hk]
  apply ba_inj; simp
theorem upto_len (h : ByteArray) (D : List Int) : ∀ k, k ≤ D.length → (upto h D k).length ≤ h.size + 32 * k
  | 0, _ => by rw [upto_zero]; exact Nat.le_refl _
  | k + 1, hk => by
    rw [upto_succ h D k (by omega), List.length_append]
    have := upto_len h D k (by omega)
    have h2 : (ofS (nth D k) 8).data.toList.length ≤ 32 := ofS8 (nth D k)
    omega
theorem headX_size (x y : ByteArray) (rm : Bool) (hx : x.size ≤ 32) (hy : y.size ≤ 32) : (headX x rm y).size ≤ 100 := by
  have e1 : (⟨#[48]⟩ : ByteArray).size = 1 := rfl
  have e2 : (⟨#[49]⟩ : ByteArray).size = 1 := rfl
  have e3 : (⟨#[48, 48]⟩ : ByteArray).size = 2 := rfl
  unfold headX
  rw [ByteArray.size_append, ByteArray.size_append, ByteArray.size_append, ByteArray.size_append]
  cases rm
  · rw [if_neg (by decide)]; omega
  · rw [if_pos rfl]; omega
theorem headS_some (id : Int) (rm : Bool) (ln : Int) : (headS id rm ln).toList.isEmpty = false := by
  have e1 : (⟨#[48]⟩ : ByteArray).size = 1 := rfl
  have e3 : (⟨#[48, 48]⟩ : ByteArray).size = 2 := rfl
  have : 0 < (headS id rm ln).size := by
    unfold headS headX
    rw [ByteArray.size_append, ByteArray.size_append, ByteArray.size_append, ByteArray.size_append]
    omega
  rw [ByteArray.toList_eq]
  rw [Bool.eq_false_iff]
  intro e
  rw [List.isEmpty_iff] at e
  have h2 : (headS id rm ln).size = (headS id rm ln).data.toList.length := rfl
  have h3 : (headS id rm ln).data.toList.length = 0 := by rw [e]; rfl
  omega
theorem headS_size (id : Int) (rm : Bool) (ln : Int) : (headS id rm ln).size ≤ 100 := headX_size _ _ _ (ofS11 id) (ofS4 ln)
theorem frOk_len {id : Int} {rm : Bool} {ln : Int} {D : List Int} (h : frOk id rm ln D = true) : D.length ≤ 8 := by
  simp only [frOk, inR, Bool.and_eq_true, decide_eq_true_eq] at h
  obtain ⟨⟨h1, h2⟩, _⟩ := h
  split at h2 <;> omega

theorem bld_at {T e : TypeId} {B b : Nat} {p : Value} {bs : List Value} {w w' : World} (h : Lib.BuilderAtF T e B b p bs w) (k : Below w.heap.size w w') : Lib.BuilderAtF T e B b p bs w' := by
  have hb := h.lt
  obtain ⟨h0, v, h1, h2, h3⟩ := h
  refine ⟨h0, v, (k.block b hb).trans h1, ?_, h3⟩
  exact h2.kept (row := none) ⟨k.os, k.tape, k.output, k.size, fun j hj _ => k.block j hj⟩ (Classical.em _)
theorem bld_keep {T e : TypeId} {B b : Nat} {bs : List Value} {w w' : World} (h : Lib.IsBuilderF T e B b bs w) (k : Below w.heap.size w w') : Lib.IsBuilderF T e B b bs w' := by
  rcases h with h | h
  · exact .inl (bld_at h k)
  · exact .inr (bld_at h k)

/-- What stands while the data are gone through: the frame's box, the builder behind it. -/
structure Bd (w : World) (n : Nat) (x0 x1 x2 x3 : Value) (o : List UInt8) (wr : World) : Prop where
  f : Four w.heap.size x0 x1 x2 x3 w wr
  b : Lib.IsBuilderF 229 5 n n (Lib.byteCells o) wr
  lt : w.heap.size < n
  size : n < wr.heap.size
theorem Bd.start {w w1 : World} {x0 x1 x2 x3 : Value} (h : Four w.heap.size x0 x1 x2 x3 w w1) : Bd w w1.heap.size x0 x1 x2 x3 [] (w1.alloc (.cells #[.pointer none, .slice none 0 0] 229)) :=
  ⟨h.alloc _, Lib.IsBuilderF.of (Lib.fresh_isBuilder 229 5 w1), World.block_lt_of_cell? w1 _ h.1.1, by simp⟩
theorem Bd.below {w : World} {n : Nat} {x0 x1 x2 x3 : Value} {o : List UInt8} {wr W : World} (h : Bd w n x0 x1 x2 x3 o wr) (b : Below wr.heap.size wr W) : Bd w n x0 x1 x2 x3 o W :=
  ⟨h.f.below b, bld_keep h.b b, h.lt, Nat.lt_of_lt_of_le h.size b.size⟩
theorem Bd.wrote {w : World} {n : Nat} {x0 x1 x2 x3 : Value} {o o' : List UInt8} {wr W : World} (h : Bd w n x0 x1 x2 x3 o wr) (hb : Lib.IsBuilderF 229 5 n n (Lib.byteCells o') W) (b : Below n wr W) : Bd w n x0 x1 x2 x3 o' W := by
  obtain ⟨⟨c0, c1, c2, c3⟩, fb⟩ := h.f
  have hl := h.lt
  exact ⟨⟨⟨(b.cell hl).trans c0, (b.cell hl).trans c1, (b.cell hl).trans c2, (b.cell hl).trans c3⟩, fb.trans (b.mono (by omega))⟩, hb, hl, Nat.lt_of_lt_of_le h.size b.size⟩

/-- impl.BodyOf. -/
theorem implBodyOf (id : Int) (rm : Bool) (ln : Int) (a : Option Addr) (D : List Int) (c : Nat) (w : World) (hd : Nums a D w) :
    Calls Tryz.prog 223 #[frV id rm ln a D.length c] w fun e w' => e = .returned (.string (bodyV id rm ln D)) ∧ Below w.heap.size w w' := by
  have f0 := Four.made (.int .i64 id) (.bool rm) (.int .i64 ln) (.slice a D.length c) 26 (Below.refl w.heap.size w)
  go_enter Tryz.func223, Tryz.ntmps223
  go_wp2_with fail
  refine (implFrameOk _ _ _ _ _ _ _ (hd.alloc _)).mono ?_
  rintro e w1 ⟨rfl, b1⟩
  replace f0 := f0.below b1
  clear b1
  cases hok : frOk id rm ln D with
  | false =>
    have HV := Lib.hid (bodyV_no hok)
    clear hok
    go_wp2_with fail
    go_ret
    exact ⟨by rw [HV.out]; rfl, f0.2⟩
  | true =>
    have HV := Lib.hid (bodyV_yes hok)
    have hl := frOk_len hok
    have hs := headS_size id rm ln
    clear hok
    have B := Bd.start f0
    clear f0
    go_upto_region 4 with fail
    generalize w1.alloc (.cells #[.pointer none, .slice none 0 0] 229) = W at B ⊢
    generalize w1.heap.size = n at B ⊢
    have Bk := B
    obtain ⟨⟨c0, c1, c2, c3⟩, _⟩ := Bk.f
    go_wp2_with fail
    clear Bk
    refine (headedOf _ _ _ _ _ _ _).mono ?_
    rintro e w2 ⟨rfl, b2⟩
    replace B := B.below b2
    clear b2 c0 c1 c2 c3
    have hfld := field_head id rm ln a D.length c w2
    go_wp2_with fail
    refine (headBits _ _ _ _).mono ?_
    rintro e w3 ⟨rfl, b2⟩
    replace B := B.below b2
    clear b2 hfld
    generalize headS id rm ln = h at *
    go_wp2_with fail
    have hsz := B.size
    refine (writeString _ _ _ _ _ B.b (by simp [Lib.byteCells_length]; omega) (by omega)).mono ?_
    rintro e w4 ⟨rfl, g1, g2, _⟩
    replace B := B.wrote (o' := upto h D 0) (by rw [upto_zero]; exact Or.inr g1) g2
    clear g1 g2 hsz
    have hm := hd.1
    unfold maxLen at hm
    have Bk := B
    obtain ⟨⟨c0, c1, c2, c3⟩, _⟩ := Bk.f
    go_wp2_with fail
    clear Bk c0 c1 c2 c3
    go_loopw [5, 6, 7, 19] (fun _ _ _ i wr => ∃ k : Nat, k ≤ D.length ∧ i = .int .i64 k ∧ Bd w n (.int .i64 id) (.bool rm) (.int .i64 ln) (.slice a D.length c) (upto h D k) wr) (fun _ _ _ i _ => D.length - (intOf i).toNat)
    case atStart => exact ⟨0, Nat.zero_le _, rfl, B⟩
    case round =>
      clear B
      obtain ⟨k, hk, rfl, B⟩ := hrel
      have hlen := upto_len h D k hk
      by_cases hlt : k < D.length
      · obtain ⟨bl, o, rfl, hc⟩ := (hd.below B.f.2).2.2 k hlt
        have HX := Lib.hid (upto_succ h D k hlt)
        generalize nth D k = v at hc HX
        have q8 := ofS8 v
        go_wp2_with fail
        refine (implOf _ _ _).mono ?_
        rintro e w5 ⟨rfl, b2⟩
        replace B := B.below b2
        clear b2 hc
        generalize ofS v 8 = x at *
        go_wp2_with fail
        have hsz := B.size
        refine (writeString _ _ _ _ _ B.b (by rw [Lib.byteCells_length]; omega) (by omega)).mono ?_
        rintro e w6 ⟨rfl, g1, g2, _⟩
        replace B := B.wrote (o' := upto h D (k + 1)) (by rw [HX.out, Lib.byteCells_append]; exact Or.inr g1) g2
        clear g1 g2 hsz
        go_wp2_with fail
        go_roundw
        case rel => exact ⟨k + 1, by omega, by go_num, B⟩
        case measure => simp [intOf]; omega
      · obtain rfl : k = D.length := by omega
        have hsz := B.size
        go_wp2_with fail
        refine (textOf _ _ _ _ B.b (by omega)).mono ?_
        rintro e w5 ⟨rfl, _, g2, _⟩
        have hB := B.f.2.trans (g2.mono (by have := B.lt; omega))
        clear B g2
        go_wp2_with fail
        go_ret
        exact ⟨by rw [HV.out]; rfl, hB⟩
/-- spec.BodyOf. -/
theorem specBodyOf (id : Int) (rm : Bool) (ln : Int) (a : Option Addr) (D : List Int) (c : Nat) (w : World) (hd : Nums a D w) :
    Calls Tryz.prog 186 #[frV id rm ln a D.length c] w fun e w' => e = .returned (.string (bodyV id rm ln D)) ∧ Below w.heap.size w w' := by
  have f0 := Four.made (.int .i64 id) (.bool rm) (.int .i64 ln) (.slice a D.length c) 26 (Below.refl w.heap.size w)
  go_enter Tryz.func186, Tryz.ntmps186
  go_wp2_with fail
  refine (specHeadOf _ _ _ _ _ _ _ (hd.alloc _)).mono ?_
  rintro e w1 ⟨rfl, b1⟩
  replace f0 := f0.below b1
  clear b1
  cases hok : frOk id rm ln D with
  | false =>
    have HV := Lib.hid (bodyV_no hok)
    rw [headV_no hok]
    clear hok
    go_wp2_with fail
    go_ret
    exact ⟨by rw [HV.out]; rfl, f0.2⟩
  | true =>
    have HV := Lib.hid (bodyV_yes hok)
    have hl := frOk_len hok
    have hs := headS_size id rm ln
    have hne := headS_some id rm ln
    rw [headV_yes hok]
    clear hok
    generalize headS id rm ln = h at *
    go_wp2_with fail
    clear hne
    go_loopw [3, 4, 5, 6] (fun s i _ _ wr => ∃ k : Nat, k ≤ D.length ∧ i = .int .i64 k ∧ s = .string (uptoB h D k) ∧ Four w.heap.size (.int .i64 id) (.bool rm) (.int .i64 ln) (.slice a D.length c) w wr) (fun _ i _ _ _ => D.length - (intOf i).toNat)
    case atStart => exact ⟨0, Nat.zero_le _, rfl, by rw [uptoB_zero], f0⟩
    case round =>
      clear f0
      obtain ⟨k, hk, rfl, rfl, f0⟩ := hrel
      have hlen : (uptoB h D k).size ≤ h.size + 32 * k := upto_len h D k hk
      have f0k := f0
      obtain ⟨⟨c0, c1, c2, c3⟩, b0⟩ := f0k
      by_cases hlt : k < D.length
      · obtain ⟨bl, o, rfl, hc⟩ := (hd.below f0.2).2.2 k hlt
        have HX := Lib.hid (uptoB_succ h D k hlt)
        generalize nth D k = v at hc HX
        have q8 := ofS8 v
        generalize uptoB h D k = u at *
        go_wp2_with fail
        refine (specOf _ _ _).mono ?_
        rintro e w5 ⟨rfl, b2⟩
        replace f0 := f0.below b2
        clear b2 hc c0 c1 c2 c3 b0
        generalize ofS v 8 = x at *
        go_wp2_with fail
        go_roundw
        case rel => exact ⟨k + 1, by omega, by go_num, by rw [HX.out], f0⟩
        case measure => simp [intOf]; omega
      · obtain rfl : k = D.length := by omega
        generalize uptoB h D D.length = u at *
        go_wp2_with fail
        go_ret
        exact ⟨by rw [HV.out]; rfl, b0⟩
end Go.Proofs.YtngcekegngmedaaGreatDoor

/- Frames as bits, plain: how long a body is, what stands at its front, and that two right frames of one body are one frame. -/

set_option maxRecDepth 20000
namespace Go.Proofs.YtngcekegngmedaaGreatDoor
open Go.RowKit

theorem ofs11 {n : Int} (h0 : 0 ≤ n) (h : n ≤ 2047) : (ofS n 11).size = 11 ∧ numV (ofS n 11) = n := by
  have hp : n < 2 ^ 11 := by omega
  obtain ⟨f1, _, _, f4⟩ := facts (n := n) (c := 11) (by omega) h0 hp
  have e : ((11 : Nat) : Int) = 11 := rfl
  rw [e] at f1 f4
  exact ⟨f1, f4⟩
theorem ofs4 {n : Int} (h0 : 0 ≤ n) (h : n ≤ 8) : (ofS n 4).size = 4 ∧ numV (ofS n 4) = n := by
  have hp : n < 2 ^ 4 := by omega
  obtain ⟨f1, _, _, f4⟩ := facts (n := n) (c := 4) (by omega) h0 hp
  have e : ((4 : Nat) : Int) = 4 := rfl
  rw [e] at f1 f4
  exact ⟨f1, f4⟩
theorem ofs8 {n : Int} (h : byOk n = true) : (ofS n 8).size = 8 ∧ numV (ofS n 8) = n := by
  simp only [byOk, Bool.and_eq_true, decide_eq_true_eq] at h
  have hp : n < 2 ^ 8 := by omega
  obtain ⟨f1, _, _, f4⟩ := facts (n := n) (c := 8) (by omega) h.1 hp
  have e : ((8 : Nat) : Int) = 8 := rfl
  rw [e] at f1 f4
  exact ⟨f1, f4⟩

theorem frOk_spec {id : Int} {rm : Bool} {ln : Int} {D : List Int} (h : frOk id rm ln D = true) : (0 ≤ id ∧ id ≤ 2047 ∧ 0 ≤ ln ∧ ln ≤ 8) ∧ (D.length : Int) = (if rm = true then 0 else ln) ∧ D.all byOk = true := by
  simp only [frOk, inR, Bool.and_eq_true, decide_eq_true_eq] at h
  exact ⟨⟨h.1.1.1.1.1, h.1.1.1.1.2, h.1.1.1.2, h.1.1.2⟩, h.1.2, h.2⟩

theorem len_list (s : ByteArray) : s.data.toList.length = s.size := rfl
theorem headX_list (x : ByteArray) (rm : Bool) (y : ByteArray) : (headX x rm y).data.toList = [48] ++ x.data.toList ++ [if rm = true then 49 else 48] ++ [48, 48] ++ y.data.toList := by
  unfold headX
  cases rm <;> simp
theorem headS_19 {id : Int} {rm : Bool} {ln : Int} (h : 0 ≤ id ∧ id ≤ 2047 ∧ 0 ≤ ln ∧ ln ≤ 8) : (headS id rm ln).size = 19 := by
  have h1 := (ofs11 h.1 h.2.1).1
  have h2 := (ofs4 h.2.2.1 h.2.2.2).1
  rw [← len_list, headS, headX_list]
  simp only [List.length_append, List.length_singleton, len_list, h1, h2]
  rfl

theorem flat_len : ∀ (D : List Int), D.all byOk = true → (D.flatMap fun b => (ofS b 8).data.toList).length = 8 * D.length
  | [], _ => rfl
  | b :: D, h => by
    simp only [List.all_cons, Bool.and_eq_true] at h
    rw [List.flatMap_cons, List.length_append, flat_len D h.2, len_list, (ofs8 h.1).1, List.length_cons]
    omega
theorem flat_inj : ∀ (D E : List Int), D.all byOk = true → E.all byOk = true → (D.flatMap fun b => (ofS b 8).data.toList) = (E.flatMap fun b => (ofS b 8).data.toList) → D = E
  | [], [], _, _, _ => rfl
  | [], e :: E, _, hE, h => by
    have h1 := flat_len (e :: E) hE
    rw [← h] at h1
    simp at h1
  | d :: D, [], hD, _, h => by
    have h1 := flat_len (d :: D) hD
    rw [h] at h1
    simp at h1
  | d :: D, e :: E, hD, hE, h => by
    simp only [List.all_cons, Bool.and_eq_true] at hD hE
    rw [List.flatMap_cons, List.flatMap_cons] at h
    obtain ⟨h1, h2⟩ := List.append_inj h (by rw [len_list, len_list, (ofs8 hD.1).1, (ofs8 hE.1).1])
    have e1 : d = e := by rw [← (ofs8 hD.1).2, ← (ofs8 hE.1).2, ba_inj h1]
    rw [e1, flat_inj D E hD.2 hE.2 h2]

theorem body_list {id : Int} {rm : Bool} {ln : Int} {D : List Int} (h : frOk id rm ln D = true) : (bodyV id rm ln D).data.toList = (headS id rm ln).data.toList ++ D.flatMap fun b => (ofS b 8).data.toList := by
  rw [bodyV_yes h, uptoB, upto, List.take_length]
theorem body_size {id : Int} {rm : Bool} {ln : Int} {D : List Int} (h : frOk id rm ln D = true) : (bodyV id rm ln D).size = 19 + 8 * D.length := by
  obtain ⟨h1, h2, h3⟩ := frOk_spec h
  rw [← len_list, body_list h, List.length_append, flat_len D h3, len_list, headS_19 h1]
end Go.Proofs.YtngcekegngmedaaGreatDoor

/- A right frame's bits with their check, plain: they are bits, and how many. -/

set_option maxRecDepth 20000
namespace Go.Proofs.YtngcekegngmedaaGreatDoor
open Go.RowKit

def fullV (id : Int) (rm : Bool) (ln : Int) (D : List Int) : ByteArray := withV (bodyV id rm ln D)

theorem flat_bits : ∀ (D : List Int), D.all byOk = true → ∀ c ∈ (D.flatMap fun b => (ofS b 8).data.toList), bit c = true
  | [], _, c, hc => by cases hc
  | b :: D, h, c, hc => by
    simp only [List.all_cons, Bool.and_eq_true] at h
    rw [List.flatMap_cons, List.mem_append] at hc
    rcases hc with hc | hc
    · have hb : 0 ≤ b ∧ b ≤ 255 := by have := h.1; simp only [byOk, Bool.and_eq_true, decide_eq_true_eq] at this; exact this
      exact mem_bit (facts (n := b) (c := 8) (by omega) hb.1 (by omega)).2.1 c hc
    · exact flat_bits D h.2 c hc
theorem headS_bits {id : Int} {rm : Bool} {ln : Int} (h : 0 ≤ id ∧ id ≤ 2047 ∧ 0 ≤ ln ∧ ln ≤ 8) : ∀ c ∈ (headS id rm ln).data.toList, bit c = true := by
  intro c hc
  unfold headS at hc
  rw [headX_list] at hc
  simp only [List.mem_append, List.mem_cons, List.not_mem_nil, or_false] at hc
  rcases hc with (((hc | hc) | hc) | hc) | hc
  · subst hc; decide
  · exact mem_bit (facts (n := id) (c := 11) (by omega) h.1 (by omega)).2.1 c hc
  · subst hc; cases rm <;> decide
  · rcases hc with rfl | rfl <;> decide
  · exact mem_bit (facts (n := ln) (c := 4) (by omega) h.2.2.1 (by omega)).2.1 c hc
theorem body_ok {id : Int} {rm : Bool} {ln : Int} {D : List Int} (h : frOk id rm ln D = true) : okB (bodyV id rm ln D) = true := by
  obtain ⟨h1, h2, h3⟩ := frOk_spec h
  have hl := frOk_len h
  rw [okB_iff, body_size h]
  refine ⟨by omega, ?_⟩
  intro c hc
  rw [body_list h, List.mem_append] at hc
  rcases hc with hc | hc
  · exact headS_bits h1 c hc
  · exact flat_bits D h3 c hc
theorem body_with {id : Int} {rm : Bool} {ln : Int} {D : List Int} (h : frOk id rm ln D = true) : withOk (bodyV id rm ln D) = true := by
  have hl := frOk_len h
  exact withOk_yes (body_ok h) (by rw [body_size h]; omega)
theorem full_size {id : Int} {rm : Bool} {ln : Int} {D : List Int} (h : frOk id rm ln D = true) : (fullV id rm ln D).size = 34 + 8 * D.length := by
  rw [fullV, withV_yes (body_with h), ByteArray.size_append, body_size h, (tail15 _).1]
  omega
theorem full_ok {id : Int} {rm : Bool} {ln : Int} {D : List Int} (h : frOk id rm ln D = true) : okB (fullV id rm ln D) = true := by
  have hl := frOk_len h
  rw [fullV, withV_yes (body_with h), okB_with (body_ok h), decide_eq_true_eq, body_size h]
  omega
theorem full_len (id : Int) (rm : Bool) (ln : Int) (D : List Int) : (fullV id rm ln D).size ≤ 98 := by
  cases h : frOk id rm ln D with
  | true => have := frOk_len h; rw [full_size h]; omega
  | false =>
    have e : (fullV id rm ln D) = withV ByteArray.empty := by rw [fullV, bodyV_no h]
    have e2 : withOk ByteArray.empty = true := by decide
    rw [e, withV_yes e2, ByteArray.size_append, (tail15 _).1]
    decide

end Go.Proofs.YtngcekegngmedaaGreatDoor

/- What is read out of bits, plain: the need, the code, the frame; promise 6: what is said of a right frame is read as it, and what is read says just these bits. -/

set_option linter.unusedVariables false
set_option linter.unusedSimpArgs false
set_option maxRecDepth 20000
namespace Go.Proofs.YtngcekegngmedaaGreatDoor
open Go.RowKit

def readD (s : ByteArray) (k : Nat) : List Int := (List.range k).map fun i => numV (byS s i)
theorem readD_succ (s : ByteArray) (k : Nat) : readD s (k + 1) = readD s k ++ [numV (byS s k)] := by simp [readD, List.range_succ]
theorem readD_len (s : ByteArray) (k : Nat) : (readD s k).length = k := by simp [readD]
/-- The three bits that are always 0. -/
def formB (s : ByteArray) : Bool := byteAt s 0 == 48 && byteAt s 13 == 48 && byteAt s 14 == 48
def rdCode (s : ByteArray) : Int :=
  if needV s < 0 then 1 else if needV s ≠ s.size then 2 else if rightB s = false then 3 else if formB s = false then 4 else if 8 < numV (lenS s) then 5 else 0
def rdId (s : ByteArray) : Int := if rdCode s = 0 then numV (idS s) else 0
def rdRm (s : ByteArray) : Bool := if rdCode s = 0 then byteAt s 12 == 49 else false
def rdLn (s : ByteArray) : Int := if rdCode s = 0 then numV (lenS s) else 0
def rdD (s : ByteArray) : List Int := if rdCode s = 0 then readD s ((s.size - 34) / 8) else []
theorem rd_1 {s : ByteArray} (h : needV s < 0) : rdCode s = 1 := by simp [rdCode, h]
theorem rd_2 {s : ByteArray} (h : ¬ needV s < 0) (h2 : needV s ≠ s.size) : rdCode s = 2 := by simp [rdCode, h, h2]
theorem rd_3 {s : ByteArray} (h : ¬ needV s < 0) (h2 : needV s = s.size) (h3 : rightB s = false) : rdCode s = 3 := by simp [rdCode, h, h2, h3]
theorem rd_4 {s : ByteArray} (h : ¬ needV s < 0) (h2 : needV s = s.size) (h3 : rightB s = true) (h4 : formB s = false) : rdCode s = 4 := by simp [rdCode, h, h2, h3, h4]
theorem rd_5 {s : ByteArray} (h : ¬ needV s < 0) (h2 : needV s = s.size) (h3 : rightB s = true) (h4 : formB s = true) (h5 : 8 < numV (lenS s)) : rdCode s = 5 := by simp [rdCode, h, h2, h3, h4, h5]
theorem rd_0 {s : ByteArray} (h : ¬ needV s < 0) (h2 : needV s = s.size) (h3 : rightB s = true) (h4 : formB s = true) (h5 : ¬ 8 < numV (lenS s)) : rdCode s = 0 := by simp [rdCode, h, h2, h3, h4, h5]
theorem rd_of_0 {s : ByteArray} (h : rdCode s = 0) : 0 ≤ needV s ∧ needV s = s.size ∧ rightB s = true ∧ formB s = true ∧ numV (lenS s) ≤ 8 := by
  unfold rdCode at h
  split at h
  · omega
  · split at h
    · omega
    · split at h
      · omega
      · split at h
        · omega
        · split at h
          · omega
          · rename_i h1 h2 h3 h4 h5
            exact ⟨by omega, by omega, by simpa using h3, by simpa using h4, by omega⟩
theorem rd_not {s : ByteArray} (h : rdCode s ≠ 0) : rdId s = 0 ∧ rdRm s = false ∧ rdLn s = 0 ∧ rdD s = [] := by simp [rdId, rdRm, rdLn, rdD, h]
theorem rd_yes {s : ByteArray} (h : rdCode s = 0) : rdId s = numV (idS s) ∧ rdRm s = (byteAt s 12 == 49) ∧ rdLn s = numV (lenS s) ∧ rdD s = readD s ((s.size - 34) / 8) := by simp [rdId, rdRm, rdLn, rdD, h]

/-! ### What is read says just these bits. -/
theorem okB_ext {s : ByteArray} (h : okB s = true) (i j : Nat) : okB (s.extract i j) = true := by
  rw [okB_iff] at h ⊢
  refine ⟨by rw [ByteArray.size_extract]; omega, fun c hc => h.2 c ?_⟩
  rw [ext_list] at hc
  exact List.mem_of_mem_drop (List.mem_of_mem_take hc)
theorem num_bits {x : ByteArray} (h : okB x = true) (n : Nat) (hn : x.size = n) (h32 : n ≤ 32) : 0 ≤ numV x ∧ numV x < 2 ^ n ∧ ofS (numV x) (n : Int) = x := by
  have hb := mem_bit h
  have e1 : numV x = (numN x.data.toList : Int) := by
    rw [numV, if_pos (numOk_yes h (by omega)), num_numN _ hb]
  have h2 := numN_lt _ hb
  rw [len_list, hn] at h2
  have h3 : ((numN x.data.toList : Nat) : Int) < 2 ^ n := by exact_mod_cast h2
  obtain ⟨f1, f2, _, f4⟩ := facts (n := numV x) (c := n) h32 (by omega) (by omega)
  refine ⟨by omega, by omega, ?_⟩
  apply ba_inj
  have g2 := mem_bit f2
  have e2 : numV (ofS (numV x) (n : Int)) = (numN (ofS (numV x) (n : Int)).data.toList : Int) := by
    rw [numV, if_pos (numOk_yes f2 (by omega)), num_numN _ g2]
  exact numN_inj _ _ g2 hb (by rw [len_list, len_list, f1, hn]) (by omega)
theorem idS_bits {s : ByteArray} (h : okB s = true) (hl : 19 ≤ s.size) : 0 ≤ numV (idS s) ∧ numV (idS s) ≤ 2047 ∧ ofS (numV (idS s)) 11 = idS s := by
  obtain ⟨h1, h2, h3⟩ := num_bits (okB_ext h 1 12) 11 (size_ext (by omega)) (by omega)
  have e : ((11 : Nat) : Int) = 11 := rfl
  rw [e] at h3
  have e2 : (2 : Int) ^ 11 = 2048 := by decide
  rw [e2] at h2
  exact ⟨h1, by unfold idS; omega, h3⟩
theorem lenS_bits {s : ByteArray} (h : okB s = true) (hl : 19 ≤ s.size) : 0 ≤ numV (lenS s) ∧ numV (lenS s) ≤ 15 ∧ ofS (numV (lenS s)) 4 = lenS s := by
  obtain ⟨h1, h2, h3⟩ := num_bits (okB_ext h 15 19) 4 (size_ext (by omega)) (by omega)
  have e : ((4 : Nat) : Int) = 4 := rfl
  rw [e] at h3
  have e2 : (2 : Int) ^ 4 = 16 := by decide
  rw [e2] at h2
  exact ⟨h1, by unfold lenS; omega, h3⟩
theorem byS_bits {s : ByteArray} (h : okB s = true) {i : Nat} (hl : 27 + 8 * i ≤ s.size) : 0 ≤ numV (byS s i) ∧ numV (byS s i) ≤ 255 ∧ ofS (numV (byS s i)) 8 = byS s i := by
  obtain ⟨h1, h2, h3⟩ := num_bits (okB_ext h (19 + 8 * i) (27 + 8 * i)) 8 (by rw [size_ext hl]; omega) (by omega)
  have e : ((8 : Nat) : Int) = 8 := rfl
  rw [e] at h3
  have e2 : (2 : Int) ^ 8 = 256 := by decide
  rw [e2] at h2
  exact ⟨h1, by unfold byS; omega, h3⟩
theorem readD_by {s : ByteArray} (h : okB s = true) : ∀ k, 19 + 8 * k ≤ s.size → (readD s k).all byOk = true ∧ ((readD s k).flatMap fun b => (ofS b 8).data.toList) = (s.data.toList.drop 19).take (8 * k)
  | 0, _ => by simp [readD]
  | k + 1, hk => by
    obtain ⟨h1, h2⟩ := readD_by h k (by omega)
    obtain ⟨h3, h4, h5⟩ := byS_bits h (i := k) (by omega)
    rw [readD_succ, List.all_append, h1, List.flatMap_append, h2]
    refine ⟨by simp [byOk, h3, h4], ?_⟩
    simp only [List.flatMap_cons, List.flatMap_nil, List.append_nil]
    rw [h5, byS, ext_list, show 27 + 8 * k - (19 + 8 * k) = 8 by omega, show 8 * (k + 1) = 8 * k + 8 by omega, List.take_add, List.drop_drop]
theorem parts19 (L : List UInt8) (h : 19 ≤ L.length) : L = [L.getD 0 0] ++ (L.drop 1).take 11 ++ [L.getD 12 0] ++ [L.getD 13 0, L.getD 14 0] ++ (L.drop 15).take 4 ++ L.drop 19 := by
  iterate 19 (rcases L with _ | ⟨_, L⟩; · simp at h)
  rfl
/-- What is read is a right frame, and says just these bits. -/
theorem read_back {s : ByteArray} (h : rdCode s = 0) : frOk (rdId s) (rdRm s) (rdLn s) (rdD s) = true ∧ fullV (rdId s) (rdRm s) (rdLn s) (rdD s) = s ∧ withOk (bodyV (rdId s) (rdRm s) (rdLn s) (rdD s)) = true := by
  obtain ⟨h1, h2, h3, h4, h5⟩ := rd_of_0 h
  obtain ⟨y1, y2, y3, y4⟩ := rd_yes h
  have hok : okB s = true := by
    cases hb : okB s with
    | true => rfl
    | false => rw [needV_no hb] at h1; omega
  have h19 : 19 ≤ s.size := by
    by_cases h : 19 ≤ s.size
    · exact h
    · rw [needV_short (by omega)] at h1; omega
  obtain ⟨i1, i2, i3⟩ := idS_bits hok h19
  obtain ⟨l1, l2, l3⟩ := lenS_bits hok h19
  have hz : (s.size : Int) = 34 + 8 * (if rdRm s = true then 0 else rdLn s) := by
    rw [y2, y3]
    by_cases hr : byteAt s 12 = 49
    · rw [needV_rm hok h19 hr] at h2; simp [hr]; omega
    · rw [needV_len hok h19 hr] at h2
      simp only [beq_iff_eq, if_neg hr]
      split at h2 <;> omega
  have hk0 : (((s.size - 34) / 8 : Nat) : Int) = if rdRm s = true then 0 else rdLn s := by
    omega
  generalize hk : (s.size - 34) / 8 = k at y4 hk0
  have hsz : s.size = 34 + 8 * k := by omega
  obtain ⟨d1, d2⟩ := readD_by hok k (by omega)
  have hfr : frOk (rdId s) (rdRm s) (rdLn s) (rdD s) = true := by
    rw [frOk_yes ⟨by rw [y1]; omega, by rw [y1]; omega, by rw [y3]; omega, by rw [y3]; omega⟩ (by rw [y4, readD_len]; exact hk0), y4]
    exact d1
  have hform := h4
  simp only [formB, Bool.and_eq_true, beq_iff_eq] at hform
  obtain ⟨⟨f0, f13⟩, f14⟩ := hform
  have hbit : byteAt s 12 = if rdRm s = true then 49 else 48 := by
    rw [y2]
    have hm : byteAt s 12 ∈ s.data.toList := by
      rw [byteAt, List.getD_eq_getElem?_getD, List.getElem?_eq_getElem (by rw [len_list]; omega)]
      exact List.getElem_mem _
    rcases bit_val (mem_bit hok _ hm) with e | e <;> rw [e] <;> rfl
  have hbody : bodyV (rdId s) (rdRm s) (rdLn s) (rdD s) = s.extract 0 (s.size - 15) := by
    apply ba_inj
    rw [body_list hfr, headS, headX_list, front_list, y4, d2, y1, y3, i3, l3, ← hbit, idS, lenS, ext_list, ext_list]
    have hp := parts19 s.data.toList (by rw [len_list]; exact h19)
    rw [show s.data.toList.getD 0 0 = 48 from f0, show s.data.toList.getD 13 0 = 48 from f13, show s.data.toList.getD 14 0 = 48 from f14] at hp
    rw [show s.size - 15 = 19 + 8 * k by omega, List.take_add]
    have h6 : List.take 19 s.data.toList = [48] ++ List.take 11 (List.drop 1 s.data.toList) ++ [s.data.toList.getD 12 0] ++ [48, 48] ++ List.take 4 (List.drop 15 s.data.toList) := by
      conv => lhs; rw [hp]
      have e1 : (List.take 11 (List.drop 1 s.data.toList)).length = 11 := by rw [List.length_take, List.length_drop, len_list]; omega
      have e2 : (List.take 4 (List.drop 15 s.data.toList)).length = 4 := by rw [List.length_take, List.length_drop, len_list]; omega
      rw [List.take_left']
      simp only [List.length_append, e1, e2, List.length_cons, List.length_nil]
    rw [h6]
    rfl
  obtain ⟨w1, w2⟩ := (right_impl (s := s) (by omega)).2 h3
  refine ⟨hfr, ?_, ?_⟩
  · rw [fullV, hbody]; exact w2
  · rw [hbody]; exact w1

/-! ### What is said is read. -/
theorem full_list {id : Int} {rm : Bool} {ln : Int} {D : List Int} (h : frOk id rm ln D = true) :
    (fullV id rm ln D).data.toList = [48] ++ (ofS id 11).data.toList ++ [if rm = true then 49 else 48] ++ [48, 48] ++ (ofS ln 4).data.toList ++
      ((D.flatMap fun b => (ofS b 8).data.toList) ++ (ofS (crc (bodyV id rm ln D).data.toList) 15).data.toList) := by
  rw [fullV, withV_yes (body_with h), append_toList, body_list h, headS, headX_list, List.append_assoc]
theorem full_front {id : Int} {rm : Bool} {ln : Int} {D : List Int} (h : frOk id rm ln D = true) : (fullV id rm ln D).extract 0 ((fullV id rm ln D).size - 15) = bodyV id rm ln D := by
  apply ba_inj
  have h1 := full_size h
  have h2 := body_size h
  rw [front_list, fullV, withV_yes (body_with h), append_toList, ← withV_yes (body_with h), List.take_left']
  rw [len_list]
  have h3 : (withV (bodyV id rm ln D)).size = 34 + 8 * D.length := h1
  omega
theorem full_right {id : Int} {rm : Bool} {ln : Int} {D : List Int} (h : frOk id rm ln D = true) : rightB (fullV id rm ln D) = true := by
  have h1 := full_size h
  refine (right_impl (s := fullV id rm ln D) (by omega)).1 ?_
  rw [full_front h]
  exact ⟨body_with h, rfl⟩
/-- Promise 6: what is said of a right frame is read as it. -/
theorem read_said {id : Int} {rm : Bool} {ln : Int} {D : List Int} (h : frOk id rm ln D = true) :
    rdCode (fullV id rm ln D) = 0 ∧ rdId (fullV id rm ln D) = id ∧ rdRm (fullV id rm ln D) = rm ∧ rdLn (fullV id rm ln D) = ln ∧ rdD (fullV id rm ln D) = D ∧ needV (fullV id rm ln D) = (fullV id rm ln D).size := by
  have hok := full_ok h
  have hsz := full_size h
  have hr := full_right h
  have hL := full_list h
  obtain ⟨h1, h2, h3⟩ := frOk_spec h
  obtain ⟨x1, x2⟩ := ofs11 h1.1 h1.2.1
  obtain ⟨y1, y2⟩ := ofs4 h1.2.2.1 h1.2.2.2
  have hF := flat_len D h3
  generalize fullV id rm ln D = s at *
  generalize (ofS (crc (bodyV id rm ln D).data.toList) 15).data.toList = T at hL
  have e := (parts19 s.data.toList (by rw [len_list]; omega)).symm.trans hL
  have l1 : (List.take 11 (List.drop 1 s.data.toList)).length = 11 := by rw [List.length_take, List.length_drop, len_list]; omega
  have l2 : (List.take 4 (List.drop 15 s.data.toList)).length = 4 := by rw [List.length_take, List.length_drop, len_list]; omega
  obtain ⟨e, eR⟩ := List.append_inj e (by simp only [List.length_append, List.length_cons, List.length_nil, l1, l2, len_list, x1, y1])
  obtain ⟨e, eY⟩ := List.append_inj' e (by rw [l2, len_list, y1])
  obtain ⟨e, e13⟩ := List.append_inj' e rfl
  obtain ⟨e, e12⟩ := List.append_inj' e rfl
  obtain ⟨e0, eX⟩ := List.append_inj' e (by rw [l1, len_list, x1])
  simp only [List.cons.injEq, and_true] at e0 e12 e13
  have hid : idS s = ofS id 11 := ba_inj (by rw [idS, ext_list]; exact eX)
  have hln : lenS s = ofS ln 4 := ba_inj (by rw [lenS, ext_list]; exact eY)
  have b12 : byteAt s 12 = if rm = true then 49 else 48 := e12
  have hform : formB s = true := by
    rw [formB, show byteAt s 0 = 48 from e0, show byteAt s 13 = 48 from e13.1, show byteAt s 14 = 48 from e13.2]
    rfl
  have vid : numV (idS s) = id := by rw [hid]; exact x2
  have vln : numV (lenS s) = ln := by rw [hln]; exact y2
  have hneed : needV s = s.size := by
    cases rm with
    | true =>
      rw [needV_rm hok (by omega) (by rw [b12]; rfl)]
      simp only [if_true] at h2
      omega
    | false =>
      rw [needV_len hok (by omega) (by rw [b12]; decide), vln]
      simp only [Bool.false_eq_true, if_false] at h2
      split <;> omega
  have hcode : rdCode s = 0 := rd_0 (by omega) hneed hr hform (by omega)
  obtain ⟨z1, z2, z3, z4⟩ := rd_yes hcode
  refine ⟨hcode, by rw [z1, vid], ?_, by rw [z3, vln], ?_, hneed⟩
  · rw [z2, b12]; cases rm <;> rfl
  · have hk : (s.size - 34) / 8 = D.length := by omega
    obtain ⟨d1, d2⟩ := readD_by hok D.length (by omega)
    rw [z4, hk]
    refine flat_inj _ _ d1 h3 ?_
    rw [d2, eR, List.take_left' hF]

end Go.Proofs.YtngcekegngmedaaGreatDoor

/- Contract of the program's bits that a frame says ahead of its tail (checkedBody). -/

set_option linter.unusedVariables false
set_option maxRecDepth 20000
namespace Go.Proofs.YtngcekegngmedaaGreatDoor
open Go.RowKit

/-- impl.checkedBody. -/
theorem implChecked (id : Int) (rm : Bool) (ln : Int) (a : Option Addr) (D : List Int) (c : Nat) (w : World) (hd : Nums a D w) :
    Calls Tryz.prog 174 #[frV id rm ln a D.length c] w fun e w' => e = .returned (.string (fullV id rm ln D)) ∧ Below w.heap.size w w' := by
  have f0 := Four.made (.int .i64 id) (.bool rm) (.int .i64 ln) (.slice a D.length c) 26 (Below.refl w.heap.size w)
  have hbl : (bodyV id rm ln D).size ≤ 100 := by
    cases h : frOk id rm ln D with
    | true => have := frOk_len h; rw [body_size h]; omega
    | false => rw [bodyV_no h]; decide
  have HV : Hid (fullV id rm ln D = withV (bodyV id rm ln D)) := Lib.hid rfl
  go_enter Tryz.func174, Tryz.ntmps174
  go_wp2_with fail
  refine (implBodyOf _ _ _ _ _ _ _ (hd.alloc _)).mono ?_
  rintro e w1 ⟨rfl, b1⟩
  replace f0 := f0.below b1
  clear b1
  generalize bodyV id rm ln D = b at *
  go_wp2_with fail
  refine (implWith _ _ (by unfold maxLen; omega)).mono ?_
  rintro e w3 ⟨rfl, b2⟩
  replace f0 := f0.below b2
  clear b2
  generalize withV b = u at *
  generalize withOk b = uo at *
  go_wp2_with fail
  go_ret
  exact ⟨by rw [HV.out]; rfl, f0.2⟩

end Go.Proofs.YtngcekegngmedaaGreatDoor

/- Contract of the model's bits that are said (l5Full). -/

set_option linter.unusedVariables false
set_option maxRecDepth 20000
namespace Go.Proofs.YtngcekegngmedaaGreatDoor
open Go.RowKit

/-- spec.l5Full. -/
theorem specFull (id : Int) (rm : Bool) (ln : Int) (a : Option Addr) (D : List Int) (c : Nat) (w : World) (hd : Nums a D w) :
    Calls Tryz.prog 110 #[frV id rm ln a D.length c] w fun e w' => e = .returned (.string (fullV id rm ln D)) ∧ Below w.heap.size w w' := by
  have f0 := Four.made (.int .i64 id) (.bool rm) (.int .i64 ln) (.slice a D.length c) 26 (Below.refl w.heap.size w)
  have hbl : (bodyV id rm ln D).size ≤ 100 := by
    cases h : frOk id rm ln D with
    | true => have := frOk_len h; rw [body_size h]; omega
    | false => rw [bodyV_no h]; decide
  have HV : Hid (fullV id rm ln D = withV (bodyV id rm ln D)) := Lib.hid rfl
  go_enter Tryz.func110, Tryz.ntmps110
  go_wp2_with fail
  refine (specBodyOf _ _ _ _ _ _ _ (hd.alloc _)).mono ?_
  rintro e w1 ⟨rfl, b1⟩
  replace f0 := f0.below b1
  clear b1
  generalize bodyV id rm ln D = b at *
  go_wp2_with fail
  refine (specWith _ _ (by unfold maxLen; omega)).mono ?_
  rintro e w3 ⟨rfl, b2⟩
  replace f0 := f0.below b2
  clear b2
  generalize withV b = u at *
  generalize withOk b = uo at *
  go_wp2_with fail
  go_ret
  exact ⟨by rw [HV.out]; rfl, f0.2⟩

end Go.Proofs.YtngcekegngmedaaGreatDoor
