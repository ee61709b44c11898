/- Contracts of ParesAt, of the program and of the model: the first place at which the two bodies are not one; -1 where a frame is not right. -/
import Derived.Test.YtcciabalbdnakabRank
import Derived.Test.YtcciabalbdnakabFrames
import Derived.Below
import Derived.WalkKit
import Derived.Deep.RegionWith
import Derived.Deep.QuietTactic
import Derived.BigQuiet
import Derived.Deep.CutRange
import Derived.Deep.DeepCutAuto
set_option maxRecDepth 20000
namespace Go.Proofs.Ytcciabalbdnakab
open Go.RowKit

/-- The first place at which two texts part, or the end of the shorter one. -/
def pare : List UInt8 → List UInt8 → Nat
  | x :: s, y :: t => if x = y then pare s t + 1 else 0
  | _, _ => 0
theorem pare_is : ∀ (s t : List UInt8) (k : Nat), k ≤ s.length → k ≤ t.length → (∀ j, j < k → s[j]? = t[j]?) → (k = s.length ∨ k = t.length ∨ s[k]? ≠ t[k]?) → pare s t = k := by
  intro s
  induction s with
  | nil => intro t k hs _ _ _; cases t <;> simp [pare] <;> simp at hs <;> omega
  | cons x s ih =>
    intro t k hs ht he hn
    cases t with
    | nil => simp at ht; simp [pare]; omega
    | cons y t =>
      cases k with
      | zero =>
        simp at hn
        simp [pare, hn]
      | succ k =>
        have h0 := he 0 (by omega)
        simp at h0
        simp only [pare, if_pos h0]
        rw [ih t k (by simpa using hs) (by simpa using ht) (fun j hj => by have := he (j + 1) (by omega); simpa using this) (by simpa using hn)]
def pareB (s t : ByteArray) : Nat := pare s.data.toList t.data.toList
theorem at_list (s : ByteArray) (k : Nat) (h : k < s.size) : s.data.toList[k]? = some (s[k]'h) := by
  have hk : k < s.data.toList.length := h
  rw [List.getElem?_eq_getElem hk]; rfl
/-- Up to k the two texts are one. -/
def Agree (s t : ByteArray) (k : Nat) : Prop := k ≤ s.size ∧ k ≤ t.size ∧ ∀ j, j < k → s.data.toList[j]? = t.data.toList[j]?
theorem Agree.zero (s t : ByteArray) : Agree s t 0 := ⟨Nat.zero_le _, Nat.zero_le _, fun j hj => absurd hj (by omega)⟩
theorem Agree.next {s t : ByteArray} {k : Nat} (h : Agree s t k) (hs : k < s.size) (ht : k < t.size) (e : s[k]'hs = t[k]'ht) : Agree s t (k + 1) := by
  refine ⟨hs, ht, fun j hj => ?_⟩
  by_cases hjk : j = k
  · subst hjk; rw [at_list s j hs, at_list t j ht, e]
  · exact h.2.2 j (by omega)
theorem Agree.part {s t : ByteArray} {k : Nat} (h : Agree s t k) (hs : k < s.size) (ht : k < t.size) (e : s[k]'hs ≠ t[k]'ht) : pareB s t = k :=
  pare_is _ _ k h.1 h.2.1 h.2.2 (.inr (.inr (by rw [at_list s k hs, at_list t k ht]; simpa using e)))
theorem Agree.stop {s t : ByteArray} {k : Nat} (h : Agree s t k) (e : k = s.size ∨ k = t.size) : pareB s t = k :=
  pare_is _ _ k h.1 h.2.1 h.2.2 (e.elim .inl fun e => .inr (.inl e))

def paresV (ia : Int) (xa : Bool) (la : Int) (Da : List Int) (ib : Int) (xb : Bool) (lb : Int) (Db : List Int) : Int :=
  if frOk ia xa la Da = true ∧ frOk ib xb lb Db = true then pareB (bodyV ia xa la Da) (bodyV ib xb lb Db) else -1
section
variable {ia : Int} {xa : Bool} {la : Int} {Da : List Int} {ib : Int} {xb : Bool} {lb : Int} {Db : List Int}
theorem paresV_a (h : frOk ia xa la Da = false) : paresV ia xa la Da ib xb lb Db = -1 := by simp [paresV, h]
theorem paresV_b (h : frOk ib xb lb Db = false) : paresV ia xa la Da ib xb lb Db = -1 := by simp [paresV, h]
theorem paresV_yes (h : frOk ia xa la Da = true) (k : frOk ib xb lb Db = true) : paresV ia xa la Da ib xb lb Db = pareB (bodyV ia xa la Da) (bodyV ib xb lb Db) := by simp [paresV, h, k]
end

/-- What stands in every world of a call over two frames: the two frames' boxes and their data. -/
def Two (w0 : World) (ga gb : Nat) (ia : Int) (xa : Bool) (la : Int) (Da : List Int) (av : Option Addr) (ca : Nat) (ib : Int) (xb : Bool) (lb : Int) (Db : List Int) (bv : Option Addr) (cb : Nat) (u : World) : Prop :=
  Four ga (.int .i64 ia) (.bool xa) (.int .i64 la) (.slice av Da.length ca) w0 u ∧ Four gb (.int .i64 ib) (.bool xb) (.int .i64 lb) (.slice bv Db.length cb) w0 u ∧ Nums av Da u ∧ Nums bv Db u
section
variable {w0 : World} {ga gb : Nat} {ia : Int} {xa : Bool} {la : Int} {Da : List Int} {av : Option Addr} {ca : Nat} {ib : Int} {xb : Bool} {lb : Int} {Db : List Int} {bv : Option Addr} {cb : Nat} {u u' : World}
theorem Two.below (h : Two w0 ga gb ia xa la Da av ca ib xb lb Db bv cb u) (b : Below u.heap.size u u') : Two w0 ga gb ia xa la Da av ca ib xb lb Db bv cb u' := ⟨h.1.below b, h.2.1.below b, h.2.2.1.below b, h.2.2.2.below b⟩
theorem Two.drew (h : Two w0 ga gb ia xa la Da av ca ib xb lb Db bv cb u) : Two w0 ga gb ia xa la Da av ca ib xb lb Db bv cb u.drew := ⟨h.1.drew, h.2.1.drew, h.2.2.1.drew, h.2.2.2.drew⟩
theorem Two.made (w1 : World) (T : TypeId) (b1 : Below w0.heap.size w0 w1) (nA : Nums av Da w1) (nB : Nums bv Db w1) :
    Two w0 w1.heap.size (w1.heap.size + 1) ia xa la Da av ca ib xb lb Db bv cb ((w1.alloc (.cells #[.int .i64 ia, .bool xa, .int .i64 la, .slice av Da.length ca] T)).alloc (.cells #[.int .i64 ib, .bool xb, .int .i64 lb, .slice bv Db.length cb] T)) := by
  have f0 := Four.made (.int .i64 ia) (.bool xa) (.int .i64 la) (.slice av Da.length ca) T b1
  have f1 := Four.made (.int .i64 ib) (.bool xb) (.int .i64 lb) (.slice bv Db.length cb) T f0.2
  have hg : (w1.alloc (.cells #[.int .i64 ia, .bool xa, .int .i64 la, .slice av Da.length ca] T)).heap.size = w1.heap.size + 1 := by simp
  rw [hg] at f1
  exact ⟨f0.alloc _, f1, (nA.alloc _).alloc _, (nB.alloc _).alloc _⟩
end

theorem index_part {s t : ByteArray} (k : Nat) (hs : k < s.size) (ht : k < t.size) : ∃ x y : Int, (s[k]'hs = t[k]'ht ↔ x = y) ∧ (0 ≤ x ∧ x < 256) ∧ (0 ≤ y ∧ y < 256) ∧
    (∀ u : World, (Instr.index 9 (.string s) (.int .i64 (k : Int))).run Try.prog u = .ok (.int .u8 x) u) ∧
    (∀ u : World, (Instr.index 9 (.string t) (.int .i64 (k : Int))).run Try.prog u = .ok (.int .u8 y) u) := by
  refine ⟨((s[k]'hs).toNat : Int), ((t[k]'ht).toNat : Int), ⟨fun h => by rw [h], fun h => UInt8.toNat_inj.1 (by omega)⟩, ?_, ?_, fun u => index_at s k k u hs rfl, fun u => index_at t k k u ht rfl⟩
  · have := (s[k]'hs).toNat_lt; omega
  · have := (t[k]'ht).toNat_lt; omega

theorem belowN {B : Nat} {w0 w : World} (h : Below B w0 w) (n : Nat) : Below B w0 (w.drewN n) := ⟨h.os, h.tape, h.output, h.size, h.block⟩

/-- impl.ParesAt. -/
theorem implParesAt (ia : Int) (xa : Bool) (la : Int) (av : Option Addr) (Da : List Int) (ca : Nat) (ib : Int) (xb : Bool) (lb : Int) (bv : Option Addr) (Db : List Int) (cb : Nat) (w : World) (ha : Nums av Da w) (hb : Nums bv Db w) :
    Calls Try.prog 13 #[frV ia xa la av Da.length ca, frV ib xb lb bv Db.length cb] w fun e w' => e = .returned (.int .i64 (paresV ia xa la Da ib xb lb Db)) ∧ Below w.heap.size w w' := by
  go_enter Try.func13, Try.ntmps13
  have L := Two.made (w0 := w) (ia := ia) (xa := xa) (la := la) (ca := ca) (ib := ib) (xb := xb) (lb := lb) (cb := cb) w 26 (Below.refl _ _) ha hb
  clear ha hb
  go_upto_region 1 with fail
  generalize (w.alloc (.cells #[.int .i64 ia, .bool xa, .int .i64 la, .slice av Da.length ca] 26)).alloc (.cells #[.int .i64 ib, .bool xb, .int .i64 lb, .slice bv Db.length cb] 26) = W at L ⊢
  obtain ⟨⟨⟨a0, a1, a2, a3⟩, _⟩, ⟨⟨b0, b1, b2, b3⟩, _⟩, _, _⟩ := id L
  go_wp2_with fail
  refine (implFrameOk _ _ _ _ _ _ _ L.2.2.1).mono ?_
  rintro e w2 ⟨rfl, k2⟩
  replace L := L.below k2
  clear k2 a0 a1 a2 a3 b0 b1 b2 b3
  cases hoa : frOk ia xa la Da with
  | false =>
    have HV := Lib.hid (paresV_a (ib := ib) (xb := xb) (lb := lb) (Db := Db) hoa)
    clear hoa
    go_wp2_with fail
    go_ret
    exact ⟨by rw [HV.out]; rfl, L.1.2⟩
  | true =>
    obtain ⟨⟨⟨a0, a1, a2, a3⟩, _⟩, ⟨⟨b0, b1, b2, b3⟩, _⟩, _, _⟩ := id L
    go_wp2_with fail
    refine (implFrameOk _ _ _ _ _ _ _ L.2.2.2).mono ?_
    rintro e w3 ⟨rfl, k2⟩
    replace L := L.below k2
    clear k2 a0 a1 a2 a3 b0 b1 b2 b3
    cases hob : frOk ib xb lb Db with
    | false =>
      have HV := Lib.hid (paresV_b (ia := ia) (xa := xa) (la := la) (Da := Da) hob)
      clear hob hoa
      go_wp2_with fail
      go_ret
      exact ⟨by rw [HV.out]; rfl, L.1.2⟩
    | true =>
      have HV := Lib.hid (paresV_yes hoa hob)
      have sa := body_size hoa
      have sb := body_size hob
      have hda := frOk_len hoa
      have hdb := frOk_len hob
      clear hoa hob
      go_upto_region 3 with fail
      refine region_class (Two w w.heap.size (w.heap.size + 1) ia xa la Da av ca ib xb lb Db bv cb) (by kernel_rfl) (by kernel_rfl) L.drew ?_
      repeat first
        | go_big_quiet_skip
        | (go_big_quiet_want
           apply Exists.intro
           refine ⟨fun u hu => ?_, ?_⟩
           · apply quietAt_val
             obtain ⟨⟨⟨a0, a1, a2, a3⟩, _⟩, ⟨⟨b0, b1, b2, b3⟩, _⟩, _, _⟩ := hu
             go_simp
             rfl
           simp only [Act.put, List.setIfInBounds_toArray, List.set_cons_zero, List.set_cons_succ]
           go_big_quiet_on)
        | (go_big_quiet_want
           apply Exists.intro
           refine ⟨fun u hu => ?_, ?_⟩
           · apply quietAt_enter 20 #[frV ia xa la av Da.length ca]
             · go_simp
             · refine (implBodyOf ia xa la av Da ca u hu.2.2.1).mono ?_
               rintro e w2 ⟨rfl, b2⟩
               exact ⟨rfl, hu.below b2⟩
           simp only [Act.put, List.setIfInBounds_toArray, List.set_cons_zero, List.set_cons_succ]
           go_big_quiet_on)
        | (go_big_quiet_want
           apply Exists.intro
           refine ⟨fun u hu => ?_, ?_⟩
           · apply quietAt_enter 20 #[frV ib xb lb bv Db.length cb]
             · go_simp
             · refine (implBodyOf ib xb lb bv Db cb u hu.2.2.2).mono ?_
               rintro e w2 ⟨rfl, b2⟩
               exact ⟨rfl, hu.below b2⟩
           simp only [Act.put, List.setIfInBounds_toArray, List.set_cons_zero, List.set_cons_succ]
           go_big_quiet_on)
      refine wpQuiet_nil ?_
      intro W2 L2
      have b := L2.1.2
      clear L L2
      generalize bodyV ia xa la Da = s at *
      generalize bodyV ib xb lb Db = t at *
      have ba : s.size ≤ 100 := by omega
      have bb : t.size ≤ 100 := by omega
      clear sa sb hda hdb
      go_wp2_with fail
      all_goals
        go_loopw [27] (fun i wr => ∃ k : Nat, i = .int .i64 k ∧ Agree s t k ∧ Below w.heap.size w wr) (fun i _ => s.size - (intOf i).toNat)
        case atStart => exact ⟨0, rfl, Agree.zero s t, b⟩
        case round =>
          clear b
          obtain ⟨k, rfl, ag, b⟩ := hrel
          have ag1 := ag.1
          have ag2 := ag.2.1
          by_cases hlt : k < s.size ∧ k < t.size
          · have ck := index_part k hlt.1 hlt.2
            by_cases he : s[k]'hlt.1 = t[k]'hlt.2
            · have AG := Lib.hid (ag.next hlt.1 hlt.2 he)
              have AS := Lib.hid ag
              obtain ⟨x, y, hxy, ⟨hx0, hx1⟩, ⟨hy0, hy1⟩, ixs, iyt⟩ := ck
              have hx := hxy.1 he
              subst hx
              clear hxy he ag
              go_wp2
              go_quiet (fail)
              go_wp2
              go_roundw
              case rel => exact ⟨k + 1, by go_num, AG.out, by first | exact b | exact belowN b _⟩
              case measure => simp [intOf]; omega
            · have AS := Lib.hid (ag.part hlt.1 hlt.2 he)
              obtain ⟨x, y, hxy, ⟨hx0, hx1⟩, ⟨hy0, hy1⟩, ixs, iyt⟩ := ck
              have hx : x ≠ y := fun e => he (hxy.2 e)
              clear hxy he ag
              go_wp2
              go_quiet (fail)
              go_wp2
              go_ret
              exact ⟨by rw [HV.out, AS.out]; rfl, by first | exact b | exact belowN b _⟩
          · have AS := Lib.hid (ag.stop (by omega))
            clear ag
            go_wp2
            go_ret
            exact ⟨by rw [HV.out, AS.out]; first | rfl | (refine ret_int ?_; omega), by first | exact b | exact belowN b _⟩
/-- spec.ParesAt. -/
theorem specParesAt (ia : Int) (xa : Bool) (la : Int) (av : Option Addr) (Da : List Int) (ca : Nat) (ib : Int) (xb : Bool) (lb : Int) (bv : Option Addr) (Db : List Int) (cb : Nat) (w : World) (ha : Nums av Da w) (hb : Nums bv Db w) :
    Calls Try.prog 16 #[frV ia xa la av Da.length ca, frV ib xb lb bv Db.length cb] w fun e w' => e = .returned (.int .i64 (paresV ia xa la Da ib xb lb Db)) ∧ Below w.heap.size w w' := by
  go_enter Try.func16, Try.ntmps16
  have L := Two.made (w0 := w) (ia := ia) (xa := xa) (la := la) (ca := ca) (ib := ib) (xb := xb) (lb := lb) (cb := cb) w 26 (Below.refl _ _) ha hb
  clear ha hb
  go_upto_region 1 with fail
  generalize (w.alloc (.cells #[.int .i64 ia, .bool xa, .int .i64 la, .slice av Da.length ca] 26)).alloc (.cells #[.int .i64 ib, .bool xb, .int .i64 lb, .slice bv Db.length cb] 26) = W at L ⊢
  obtain ⟨⟨⟨a0, a1, a2, a3⟩, _⟩, ⟨⟨b0, b1, b2, b3⟩, _⟩, _, _⟩ := id L
  go_wp2_with fail
  refine (specFrameOk _ _ _ _ _ _ _ L.2.2.1).mono ?_
  rintro e w2 ⟨rfl, k2⟩
  replace L := L.below k2
  clear k2 a0 a1 a2 a3 b0 b1 b2 b3
  cases hoa : frOk ia xa la Da with
  | false =>
    have HV := Lib.hid (paresV_a (ib := ib) (xb := xb) (lb := lb) (Db := Db) hoa)
    clear hoa
    go_wp2_with fail
    go_ret
    exact ⟨by rw [HV.out]; rfl, L.1.2⟩
  | true =>
    obtain ⟨⟨⟨a0, a1, a2, a3⟩, _⟩, ⟨⟨b0, b1, b2, b3⟩, _⟩, _, _⟩ := id L
    go_wp2_with fail
    refine (specFrameOk _ _ _ _ _ _ _ L.2.2.2).mono ?_
    rintro e w3 ⟨rfl, k2⟩
    replace L := L.below k2
    clear k2 a0 a1 a2 a3 b0 b1 b2 b3
    cases hob : frOk ib xb lb Db with
    | false =>
      have HV := Lib.hid (paresV_b (ia := ia) (xa := xa) (la := la) (Da := Da) hob)
      clear hob hoa
      go_wp2_with fail
      go_ret
      exact ⟨by rw [HV.out]; rfl, L.1.2⟩
    | true =>
      have HV := Lib.hid (paresV_yes hoa hob)
      have sa := body_size hoa
      have sb := body_size hob
      have hda := frOk_len hoa
      have hdb := frOk_len hob
      clear hoa hob
      obtain ⟨⟨⟨a0, a1, a2, a3⟩, _⟩, ⟨⟨b0, b1, b2, b3⟩, _⟩, _, _⟩ := id L
      go_wp2_with fail
      refine (specBodyOf _ _ _ _ _ _ _ L.2.2.1).mono ?_
      rintro e w4 ⟨rfl, k2⟩
      replace L := L.below k2
      clear k2 a0 a1 a2 a3 b0 b1 b2 b3
      obtain ⟨⟨⟨a0, a1, a2, a3⟩, _⟩, ⟨⟨b0, b1, b2, b3⟩, _⟩, _, _⟩ := id L
      go_wp2_with fail
      refine (specBodyOf _ _ _ _ _ _ _ L.2.2.2).mono ?_
      rintro e w5 ⟨rfl, k2⟩
      replace L := L.below k2
      clear k2 a0 a1 a2 a3 b0 b1 b2 b3
      have b := L.1.2
      clear L
      generalize bodyV ia xa la Da = s at *
      generalize bodyV ib xb lb Db = t at *
      have ba : s.size ≤ 100 := by omega
      have bb : t.size ≤ 100 := by omega
      clear sa sb hda hdb
      go_wp2_with fail
      go_loopw [7] (fun i wr => ∃ k : Nat, i = .int .i64 k ∧ Agree s t k ∧ Below w.heap.size w wr) (fun i _ => s.size - (intOf i).toNat)
      case atStart => exact ⟨0, rfl, Agree.zero s t, b⟩
      case round =>
        clear b
        obtain ⟨k, rfl, ag, b⟩ := hrel
        have ag1 := ag.1
        have ag2 := ag.2.1
        by_cases hs : k < s.size
        · by_cases ht : k < t.size
          · have ck := index_part k hs ht
            by_cases he : s[k]'hs = t[k]'ht
            · have AG := Lib.hid (ag.next hs ht he)
              obtain ⟨x, y, hxy, ⟨hx0, hx1⟩, ⟨hy0, hy1⟩, ixs, iyt⟩ := ck
              have hx := hxy.1 he
              subst hx
              clear hxy he ag
              go_wp2
              go_quiet (fail)
              go_wp2
              go_roundw
              case rel => exact ⟨k + 1, by go_num, AG.out, by first | exact b | exact belowN b _⟩
              case measure => simp [intOf]; omega
            · have AS := Lib.hid (ag.part hs ht he)
              obtain ⟨x, y, hxy, ⟨hx0, hx1⟩, ⟨hy0, hy1⟩, ixs, iyt⟩ := ck
              have hx : x ≠ y := fun e => he (hxy.2 e)
              clear hxy he ag
              go_wp2
              go_quiet (fail)
              go_wp2
              go_ret
              exact ⟨by rw [HV.out, AS.out]; rfl, by first | exact b | exact belowN b _⟩
          · have AS := Lib.hid (ag.stop (by omega))
            clear ag
            go_wp2
            go_quiet (fail)
            go_wp2
            go_ret
            exact ⟨by rw [HV.out, AS.out]; rfl, by first | exact b | exact belowN b _⟩
        · have AS := Lib.hid (ag.stop (by omega))
          clear ag
          go_wp2
          go_quiet (fail)
          go_wp2
          go_ret
          exact ⟨by rw [HV.out, AS.out]; rfl, by first | exact b | exact belowN b _⟩
end Go.Proofs.Ytcciabalbdnakab
