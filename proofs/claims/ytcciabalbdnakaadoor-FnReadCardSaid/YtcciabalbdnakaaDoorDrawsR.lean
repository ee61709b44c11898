/- Contracts of the model's draws for reading: DrawNeedOf, DrawReadFrame: some text, nothing that was there turned. -/
import Derived.Test.YtcciabalbdnakaaDoorFullM
import Derived.Test.YtcciabalbdnakaaDoorFrDraw
import Derived.Test.YtcciabalbdnakaaDoorDraws1
import Derived.Test.YtcciabalbdnakaaDoorBend
import Derived.Test.YtcciabalbdnakaaDoorReads
import Derived.Test.YtcciabalbdnakaaDoorHeld
import Derived.IntWalk
set_option linter.unusedVariables false
set_option linter.unusedSimpArgs false
set_option maxRecDepth 20000
namespace Go.Proofs.YtcciabalbdnakaaDoor
open Go.RowKit

theorem grown_b {w w' : World} (b : Below w.heap.size w w') : w.grownBy w' none := ⟨b.os, b.tape, b.output, b.size, fun k hk _ => b.block k hk⟩

set_option maxHeartbeats 2000000 in
/-- spec.DrawNeedOf. -/
theorem drawNeedOf {B : Nat} {a : Option Addr} {len cap : Nat} (w : World) (cd : Code B a len w) (hB : B ≤ w.heap.size) :
    Calls Tryd.prog 14 #[.slice a len cap] w (DrawnText B a len 1000 w) := by
  go_enter Tryd.func14, Tryd.ntmps14
  go_wp2_with fail
  refine (newAny (B := B) (a := a) (len := len) (cap := cap) _ cd hB).mono ?_
  rintro e w1 ⟨rfl, g1, s1⟩
  go_wp2_with fail
  refine (onceAny (B := B) (a := a) (len := len) (cap := cap) 3 _ (by omega) (by omega) s1).mono ?_
  rintro e w2 ⟨b, rfl, g2, s2⟩
  replace g1 := grown_new g1 g2
  have hp := cd
  clear g2 s1
  cases b with
  | true =>
    go_wp2_with fail
    refine (drawAny (B := B) (a := a) (len := len) (cap := cap) 40 _ (by omega) (by omega) s2).mono ?_
    rintro e w3 ⟨t, ht, rfl, g3, s3⟩
    go_wp2_with fail
    go_ret
    exact ⟨t, by omega, rfl, grown_new g1 g3, s3.2⟩
  | false =>
    go_wp2_with fail
    refine (drawRight (B := B) (a := a) (len := len) (cap := cap) _ s2).mono ?_
    rintro e w3 ⟨id, rm, ln, D, v, rfl, o, hok, g3, s3⟩
    obtain ⟨av, ca, rfl, hn⟩ := o.nums
    replace g1 := grown_new g1 g3
    clear g3 s2
    have hsz := full_size hok
    have hl8 : D.length ≤ 8 := frOk_len hok
    go_wp2_with fail
    refine (specFull id rm ln av D ca _ hn).mono ?_
    rintro e w4 ⟨rfl, b4⟩
    replace s3 := s3.below b4
    have g4 := grown_b b4
    replace g1 := grown_trans g1 g4
    generalize fullV id rm ln D = s at *
    clear b4 g4 hn o hok
    have hs : s.size ≤ 98 := by omega
    clear hsz hl8
    go_wp2_with fail
    refine (belowPos (B := B) (a := a) (len := len) (cap := cap) ((s.size : Int) + 1) _ (by omega) (by omega) s3).mono ?_
    rintro e w5 ⟨x, x0, x1, rfl, g5, s5⟩
    replace g1 := grown_new g1 g5
    clear g5 s3
    obtain ⟨k, rfl⟩ := Int.eq_ofNat_of_zero_le x0
    go_wp2_with fail
    go_ret
    refine ⟨_, ?_, rfl, g1, s5.2⟩
    rw [ByteArray.size_extract]; omega
def l1T (n : Int) : ByteArray := if n = 0 then ⟨#[48]⟩ else ⟨#[49]⟩
theorem l1T_size (n : Int) : (l1T n).size = 1 := by unfold l1T; split <;> rfl
theorem textL1 (n : Int) (w : World) : Calls Tryd.prog 37 #[.int .i64 n] w fun e w' => e = .returned (.string (l1T n)) ∧ w = w' := by
  go_enter Tryd.func37, Tryd.ntmps37
  by_cases h : n = 0
  · have HL : Hid (l1T n = ⟨#[48]⟩) := Lib.hid (if_pos h)
    go_wp2_with fail
    go_ret
    exact ⟨by rw [HL.out]; rfl, rfl⟩
  · have HL : Hid (l1T n = ⟨#[49]⟩) := Lib.hid (if_neg h)
    go_wp2_with fail
    go_ret
    exact ⟨by rw [HL.out]; rfl, rfl⟩
theorem withV_le (s : ByteArray) : (withV s).size ≤ s.size + 15 := by
  cases h : withOk s with
  | false => rw [withV_no h]; exact Nat.zero_le _
  | true =>
    rw [withV_yes h, ByteArray.size_append]
    have h2 : (ofS ((crc s.data.toList : Nat) : Int) 15).size ≤ 15 := by
      unfold ofS
      split
      · have : (strOfNums (digs ((crc s.data.toList : Nat) : Int) ((15 : Int)).toNat)).size = 15 := by simp [strOfNums, digs, ByteArray.size]
        omega
      · exact Nat.zero_le _
    omega

set_option maxHeartbeats 4000000 in
/-- spec.DrawReadFrame. -/
theorem drawReadFrame {B : Nat} {a : Option Addr} {len cap : Nat} (w : World) (cd : Code B a len w) (hB : B ≤ w.heap.size) :
    Calls Tryd.prog 12 #[.slice a len cap] w (DrawnText B a len 1000 w) := by
  go_enter Tryd.func12, Tryd.ntmps12
  go_wp2_with fail
  refine (newAny (B := B) (a := a) (len := len) (cap := cap) _ cd hB).mono ?_
  rintro e w1 ⟨rfl, g1, s2⟩
  go_wp2_with fail
  refine (drawRight (B := B) (a := a) (len := len) (cap := cap) _ s2).mono ?_
  rintro e w3 ⟨id, rm, ln, D, v, rfl, o, hok, g3, s3⟩
  obtain ⟨av, ca, rfl, hn⟩ := o.nums
  replace g1 := grown_new g1 g3
  clear g3 s2
  have hsz := body_size hok
  have hbb := body_ok hok
  have hl8 : D.length ≤ 8 := frOk_len hok
  go_wp2_with fail
  refine (specBodyOf id rm ln av D ca _ hn).mono ?_
  rintro e w4 ⟨rfl, b4⟩
  replace s3 := s3.below b4
  replace g1 := grown_trans g1 (grown_b b4)
  generalize bodyV id rm ln D = s at *
  clear b4 hn o hok
  have hs : s.size ≤ 83 := by omega
  have hs2 : 19 ≤ s.size := by omega
  clear hsz hl8
  go_wp2_with fail
  refine (onceAny (B := B) (a := a) (len := len) (cap := cap) 3 _ (by omega) (by omega) s3).mono ?_
  rintro e w5 ⟨b, rfl, g5, s5⟩
  replace g1 := grown_new g1 g5
  clear g5 s3
  have s3 := s5
  clear s5
  cases b with
  | false =>
    have ht : s.size ≤ 100 := by omega
    clear hs hs2 hbb
    generalize s = t at *
    go_wp2_with fail
    refine (specWith _ _ (by unfold maxLen; omega)).mono ?_
    rintro e w5 ⟨rfl, b5⟩
    replace g1 := grown_trans g1 (grown_b b5)
    replace s3 := s3.below b5
    clear b5
    have hws := withV_le t
    generalize withV t = u at hws ⊢
    generalize withOk t = uo
    go_wp2_with fail
    refine (onceAny (B := B) (a := a) (len := len) (cap := cap) 5 _ (by omega) (by omega) s3).mono ?_
    rintro e w6 ⟨b, rfl, g6, s6⟩
    replace g1 := grown_new g1 g6
    clear g6 s3
    cases b with
    | false =>
      go_wp2_with fail
      go_ret
      exact ⟨u, by omega, rfl, g1, s6.2⟩
    | true =>
      go_wp2_with fail
      refine (bendAny (B := B) (a := a) (len := len) (cap := cap) u ⟨#[48, 49]⟩ 200 _ (by omega) (by omega) (by decide) (by decide) s6).mono ?_
      rintro e w7 ⟨t7, ht7, rfl, g7, s7⟩
      go_wp2_with fail
      go_ret
      exact ⟨t7, by omega, rfl, grown_new g1 g7, s7.2⟩
  | true =>
    go_wp2_with fail
    refine (belowPos (B := B) (a := a) (len := len) (cap := cap) (s.size : Int) _ (by omega) (by omega) s3).mono ?_
    rintro e w5 ⟨x, x0, x1, rfl, g5, s5⟩
    replace g1 := grown_new g1 g5
    clear g5 s3
    obtain ⟨k, rfl⟩ := Int.eq_ofNat_of_zero_le x0
    have hk : k < s.size := by omega
    have hbit : bit (s[k]'hk) = true := by
      rw [okB_iff] at hbb
      exact hbb.2 _ (by rw [byteAt_eq hk, byteAt, List.getD_eq_getElem?_getD, List.getElem?_eq_getElem (by exact hk)]; exact List.getElem_mem _)
    have hk1 : (k : Int) ≤ (s.size : Int) := by omega
    have hk2 : (k : Int) + 1 ≤ (s.size : Int) := by omega
    have hw : IntKind.i64.wrap ((k : Int) + 1) = (k : Int) + 1 := IntWalk.i64_in _ (by omega)
    have e1 : (s.extract 0 k).size = k := by rw [ByteArray.size_extract]; omega
    have e2 := l1T_size (IntKind.i64.wrap (1 - (((s[k]'hk).toNat : Int) - 48)))
    have e3 : (s.extract (k + 1) s.size).size = s.size - (k + 1) := by rw [ByteArray.size_extract]; omega
    have hz1 : (48 : Int) ≤ (s[k]'hk).toNat ∧ ((s[k]'hk).toNat : Int) ≤ 49 := by have := bit_cases hbit; omega
    go_wp2_with fail
    refine region_class (fun u => w.grownBy u none ∧ St B w.heap.size a len cap u) (by kernel_rfl) (by kernel_rfl) ⟨grown_trans g1 ⟨rfl, rfl, rfl, Nat.le_refl _, fun _ _ _ => rfl⟩, s5.step (r := none) ⟨rfl, rfl, rfl, Nat.le_refl _, fun _ _ _ => rfl⟩ (fun _ h => by cases h)⟩ ?_
    repeat first
      | go_big_quiet_skip
      | (go_big_quiet_want
         apply Exists.intro
         refine ⟨fun u hu => ?_, ?_⟩
         · apply quietAt_val
           go_simp
           first
             | rfl
             | (refine (if_neg ?_).trans ?_
                · omega
                · rfl)
             | (refine (if_pos ?_).trans ?_
                · omega
                · rfl)
         simp only [Act.put, List.setIfInBounds_toArray, List.set_cons_zero, List.set_cons_succ]
         go_big_quiet_on)
      | (go_big_quiet_want
         apply Exists.intro
         refine ⟨fun u hu => ?_, ?_⟩
         · apply quietAt_enter 38 #[.string s, .int .i64 k]
           · go_simp
           · refine (specBit s k u hk (by unfold maxLen; omega) hbit).mono ?_
             rintro e w6 ⟨rfl, rfl⟩
             exact ⟨rfl, hu⟩
         simp only [Act.put, List.setIfInBounds_toArray, List.set_cons_zero, List.set_cons_succ]
         go_big_quiet_on)
      | (go_big_quiet_want
         apply Exists.intro
         refine ⟨fun u hu => ?_, ?_⟩
         · apply quietAt_enter 37 #[.int .i64 (IntKind.i64.wrap (1 - (((s[k]'hk).toNat : Int) - 48)))]
           · go_simp
           · refine (textL1 _ u).mono ?_
             rintro e w6 ⟨rfl, rfl⟩
             exact ⟨rfl, hu⟩
         simp only [Act.put, List.setIfInBounds_toArray, List.set_cons_zero, List.set_cons_succ]
         go_big_quiet_on)
    refine wpQuiet_nil ?_
    intro W2 hu
    obtain ⟨g1, s5⟩ := hu
    have ht : (s.extract 0 k ++ l1T (IntKind.i64.wrap (1 - (((s[k]'hk).toNat : Int) - 48))) ++ s.extract (k + 1) s.size).size ≤ 83 ∧ 19 ≤ (s.extract 0 k ++ l1T (IntKind.i64.wrap (1 - (((s[k]'hk).toNat : Int) - 48))) ++ s.extract (k + 1) s.size).size := by
      rw [ByteArray.size_append, ByteArray.size_append, e1, e2, e3]; omega
    generalize s.extract 0 k ++ l1T (IntKind.i64.wrap (1 - (((s[k]'hk).toNat : Int) - 48))) ++ s.extract (k + 1) s.size = t at ht ⊢
    generalize (IntKind.i64.wrap (1 - (((s[k]'hk).toNat : Int) - 48))) = z1
    generalize (((s[k]'hk).toNat : Int) - 48) = z2
    clear hw e1 e2 e3 hz1 hbit hk hk1 hk2 x0 x1 hbb hs hs2
    have s3 := s5
    clear s5
    go_wp2_with fail
    refine (onceAny (B := B) (a := a) (len := len) (cap := cap) 2 _ (by omega) (by omega) s3).mono ?_
    rintro e w5 ⟨b, rfl, g5, s5⟩
    replace g1 := grown_new g1 g5
    clear g5 s3
    have s3 := s5
    clear s5
    cases b with
    | false =>
      have ht1 : t.size ≤ 100 := by omega
      go_wp2_with fail
      refine (specWith _ _ (by unfold maxLen; omega)).mono ?_
      rintro e w5 ⟨rfl, b5⟩
      replace g1 := grown_trans g1 (grown_b b5)
      replace s3 := s3.below b5
      clear b5
      have hws := withV_le t
      generalize withV t = u at hws ⊢
      generalize withOk t = uo
      go_wp2_with fail
      refine (onceAny (B := B) (a := a) (len := len) (cap := cap) 5 _ (by omega) (by omega) s3).mono ?_
      rintro e w6 ⟨b, rfl, g6, s6⟩
      replace g1 := grown_new g1 g6
      clear g6 s3
      cases b with
      | false =>
        go_wp2_with fail
        go_ret
        exact ⟨u, by omega, rfl, g1, s6.2⟩
      | true =>
        go_wp2_with fail
        refine (bendAny (B := B) (a := a) (len := len) (cap := cap) u ⟨#[48, 49]⟩ 200 _ (by omega) (by omega) (by decide) (by decide) s6).mono ?_
        rintro e w7 ⟨t7, ht7, rfl, g7, s7⟩
        go_wp2_with fail
        go_ret
        exact ⟨t7, by omega, rfl, grown_new g1 g7, s7.2⟩
    | true =>
      have e1 : (t.extract 0 15).size = 15 := by rw [ByteArray.size_extract]; omega
      have e3 : (t.extract 16 t.size).size = t.size - 16 := by rw [ByteArray.size_extract]; omega
      go_wp2_with fail
      go_quiet (fail)
      have ht2 : (t.extract 0 15 ++ ⟨#[49]⟩ ++ t.extract 16 t.size).size ≤ 83 := by
        have h1 : (⟨#[49]⟩ : ByteArray).size = 1 := rfl
        rw [ByteArray.size_append, ByteArray.size_append, e1, e3, h1]; omega
      replace g1 := grown_trans g1 (grown_drewN w5 nq none)
      replace s3 := s3.step (grown_drewN w5 nq none) (fun _ h => by cases h)
      generalize t.extract 0 15 ++ ⟨#[49]⟩ ++ t.extract 16 t.size = t2 at ht2 ⊢
      generalize w5.drewN nq = W at g1 s3 ⊢
      clear e1 e3 ht
      go_wp2_with fail
      go_loopw [4] (fun v wr => ∃ t : ByteArray, v = .string t ∧ t.size ≤ 83 ∧ wr = W) (fun v _ => match v with | .string t => 100 - t.size | _ => 0)
      case atStart => exact ⟨t2, rfl, ht2, rfl⟩
      case round =>
        obtain ⟨t, rfl, ht, rfl⟩ := hrel
        by_cases h83 : t.size < 83
        · have hz : (t ++ ⟨#[48]⟩).size = t.size + 1 := by rw [ByteArray.size_append]; rfl
          go_wp2_with fail
          go_roundw
          case rel => exact ⟨_, rfl, by rw [hz]; omega, trivial⟩
          case measure => simp [hz]; omega
        · have ht1 : t.size ≤ 100 := by omega
          go_wp2_with fail
          refine (specWith _ _ (by unfold maxLen; omega)).mono ?_
          rintro e w5 ⟨rfl, b5⟩
          replace g1 := grown_trans g1 (grown_b b5)
          replace s3 := s3.below b5
          clear b5
          have hws := withV_le t
          generalize withV t = u at hws ⊢
          generalize withOk t = uo
          go_wp2_with fail
          refine (onceAny (B := B) (a := a) (len := len) (cap := cap) 5 _ (by omega) (by omega) s3).mono ?_
          rintro e w6 ⟨b, rfl, g6, s6⟩
          replace g1 := grown_new g1 g6
          clear g6 s3
          cases b with
          | false =>
            go_wp2_with fail
            go_ret
            exact ⟨u, by omega, rfl, g1, s6.2⟩
          | true =>
            go_wp2_with fail
            refine (bendAny (B := B) (a := a) (len := len) (cap := cap) u ⟨#[48, 49]⟩ 200 _ (by omega) (by omega) (by decide) (by decide) s6).mono ?_
            rintro e w7 ⟨t7, ht7, rfl, g7, s7⟩
            go_wp2_with fail
            go_ret
            exact ⟨t7, by omega, rfl, grown_new g1 g7, s7.2⟩
end Go.Proofs.YtcciabalbdnakaaDoor
