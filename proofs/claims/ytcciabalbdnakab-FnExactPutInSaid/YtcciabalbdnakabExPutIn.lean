/- Proved: at every argument the program's PutIn answers as the model's does (laws.FnExactPutIn answers true at every argument), the arguments stay as they were, and the answer owns its memory. No condition. -/
import Derived.Test.YtcciabalbdnakabSizes
import Derived.Test.YtcciabalbdnakabOpenS
import Derived.Test.YtcciabalbdnakabRows
import Derived.WalkKit
import Derived.WalkSpells
import Derived.ProofKit
import Derived.OpenShut
import Derived.ShutString
import Derived.ChangeOld
import Derived.Below
import Derived.Deep.CutRange
import Derived.Deep.DeepCutAuto
import Derived.Deep.RegionLaw
namespace Go.Proofs.Ytcciabalbdnakab.exPutIn
open Go.ChangeShapes Go.WideShapes Go.ChangeAt Go.RowKit
set_option linter.unusedVariables false
set_option linter.unusedSimpArgs false

theorem own : ownKnob Try.prog.godebug = none := by kernel_rfl
theorem laidOut : laidOutB Try.prog = true := by kernel_rfl

/-- laws.szFrameS of frames that are small enough: what is left. -/
theorem szFramesAt (a : Option Addr) (L : List Frm) (c : Nat) (w : World) (hd : Frs a L w) (h : L.length + room L L.length ≤ 1048576) :
    Calls Try.prog 24 #[.slice a L.length c, .int .i64 1048576] w fun e w' => ∃ n : Int, n = 1048576 - (L.length : Int) - room L L.length ∧ e = .returned (.int .i64 n) ∧ Below w.heap.size w w' := by
  go_enter Try.func24, Try.ntmps24
  go_wp2_with fail
  go_loopw [1, 5] (fun l i wr => ∃ k : Nat, k ≤ L.length ∧ i = .int .i64 k ∧ l = .int .i64 (1048576 - (L.length : Int) - room L k) ∧ Below w.heap.size w wr) (fun _ i _ => L.length - (intOf i).toNat)
  case atStart => exact ⟨0, Nat.zero_le _, rfl, by rw [room_zero]; simp, Below.refl _ _⟩
  case round =>
    obtain ⟨k, hk, rfl, rfl, b⟩ := hrel
    by_cases hlt : k < L.length
    · obtain ⟨g, o, ad, cc, rfl, ⟨c0, c1, c2, c3⟩, hn⟩ := (hd.below b).2 k hlt
      have hs := room_succ L k hlt
      have hl := room_le L (show k + 1 ≤ L.length by omega)
      generalize nthF L k = f at *
      go_wp2_with fail
      refine (szFrameOk _ _ _ _ _ _ _ _ (by omega) (by omega)).mono ?_
      rintro e w2 ⟨rfl, b2⟩
      replace b := Below.then2 b b2
      clear b2 hn c0 c1 c2 c3
      go_wp2_with fail
      go_roundw
      case rel => exact ⟨k + 1, by omega, by go_num, by congr 1; omega, b⟩
      case measure => simp [intOf]; omega
    · obtain rfl : k = L.length := by omega
      go_wp2_with fail
      go_ret
      exact ⟨_, rfl, rfl, b⟩

set_option maxHeartbeats 8000000 in
set_option maxRecDepth 20000 in
theorem walkFnExactPutIn (a : Option Addr) (L : List Frm) (c : Nat) (id : Int) (rm : Bool) (ln : Int) (ad : Option Addr) (D : List Int) (cd : Nat) (w : World) (hd : Frs a L w) (hn : Nums ad D w) :
    Calls Try.prog 9 #[.slice a L.length c, frV id rm ln ad D.length cd] w fun e w' => e = .returned (.bool true) ∧ Below w.heap.size w w' := by
  have f0 := Four.made (.int .i64 id) (.bool rm) (.int .i64 ln) (.slice ad D.length cd) 35 (Below.refl w.heap.size w)
  go_enter Try.func9, Try.ntmps9
  have hd0 := hd
  have hn0 := hn
  go_upto_region 2 with fail
  replace hd := hd.below f0.2
  generalize w.alloc (.cells #[.int .i64 id, .bool rm, .int .i64 ln, .slice ad D.length cd] 35) = W0 at *
  by_cases hs : L.length + room L L.length ≤ 1048576
  · have hl : L.length ≤ 1048576 := by omega
    have hlean := lean_put L ⟨id, rm, ln, D⟩
    have HS := fun a c ad cd w h h2 => specPutIn a L c id rm ln ad D cd w h h2
    have HI := fun a c ad cd w h h1 h2 h3 => implPutIn a L c id rm ln ad D cd w h h1 h2 h3
    generalize putV L ⟨id, rm, ln, D⟩ = RR at hlean HS HI
    obtain ⟨X, kc⟩ := RR
    have hfit := hlean.fits
    have hxl := hlean.1
    simp only at hfit hxl
    replace HS := Lib.hid HS
    replace HI := Lib.hid HI
    clear hlean
    go_wp2_with fail
    refine (szFramesAt a L c W0 hd hs).mono ?_
    rintro e w1 ⟨n, hnn, rfl, k⟩
    replace f0 := f0.below k
    have hnb : 0 ≤ n ∧ n ≤ 1048576 := by omega
    clear k hd hnn
    by_cases hD : (D.length : Int) ≤ n
    · have hDl : D.length ≤ 1048576 := by omega
      obtain ⟨⟨x0, x1, x2, x3⟩, bw⟩ := f0
      have f0 : Four w.heap.size (.int .i64 id) (.bool rm) (.int .i64 ln) (.slice ad D.length cd) w w1 := ⟨⟨x0, x1, x2, x3⟩, bw⟩
      go_wp2_with fail
      refine (szFrameOk _ _ _ _ _ _ _ _ (by omega) (by omega)).mono ?_
      rintro e w2 ⟨rfl, k⟩
      replace f0 := f0.below k
      have hnn2 : ¬ n - (D.length : Int) < 0 := by omega
      clear k x0 x1 x2 x3 bw
      go_upto_region 8 with fail
      generalize n - (D.length : Int) = n2 at *
      go_cut [6, 7] (fun s6 s7 wx => ∃ g c', s6 = .slice (some ⟨g, 0, none⟩) X.length c' ∧ s7 = .int .i64 kc ∧ Frs (some ⟨g, 0, none⟩) X wx ∧ Four w.heap.size (.int .i64 id) (.bool rm) (.int .i64 ln) (.slice ad D.length cd) w wx)
      case first =>
        have fd := f0.drew
        obtain ⟨⟨x0, x1, x2, x3⟩, bw⟩ := f0
        have hd2 := (hd0.below bw).drew
        go_region_law (first
          | (go_simp
             go_at_call 25
             refine (toFrames a L c _ hd2 hs).mono ?_
             rintro e w5 ⟨a5, rfl, d5, k5⟩
             have f5 := fd.below k5
             obtain ⟨⟨y0, y1, y2, y3⟩, bw5⟩ := f5
             have n5 := hn0.below bw5
             have f5 : Four w.heap.size (.int .i64 id) (.bool rm) (.int .i64 ln) (.slice ad D.length cd) w w5 := ⟨⟨y0, y1, y2, y3⟩, bw5⟩)
          | (go_simp
             go_at_call 22
             refine (toFrOwn id rm ln ad D cd _ n5 hDl).mono ?_
             rintro e w6 ⟨a6, rfl, o6, k6⟩
             have f6 := f5.below k6
             have d6 := d5.below k6
             have n6 := o6.nums2)
          | (go_simp
             go_at_call 29
             refine (HS.out a5 L.length a6 D.length _ d6 n6).mono ?_
             intro e w7 h7
             obtain ⟨M7, g7, c7, rfl, hM7, O7, k7⟩ := h7.parts
             have f7 := f6.below k7
             have F7 := O7.frsOf hM7))
        all_goals
          have F7' := F7 (by omega)
          clear x0 x1 x2 x3 y0 y1 y2 y3 hM7 k5 k6 k7 n5 n6 d5 d6 F7 h7 fd hd2 HI HS
          go_wp2_with fail
          go_meet
          exact ⟨g7, c7, rfl, rfl, F7', f7⟩
      case rest =>
      clear f0 HS
      obtain ⟨g3, c3, rfl, rfl, F3, f3⟩ := hcut
      generalize wc = w3 at *
      have b := f3.2
      have hb3 := b.size
      have q := Below.refl w3.heap.size w3
      have hd := hd0.below b
      go_wp2_with fail
      refine (toFramesOwn a L c w3 hd hs).mono ?_
      rintro e w4 ⟨M4, a4, c4, rfl, hM4, O4, R4, k⟩
      replace b := b.trans (k.mono b.size)
      replace q := q.trans k
      have U4 := O4.under
      have hi4 := q.size
      clear k hd
      have hn := hn0.below b
      have f4 := f3.below q
      obtain ⟨⟨x0, x1, x2, x3⟩, -⟩ := f4
      go_wp2_with fail
      refine (toFrOwn id rm ln ad D cd w4 hn hDl).mono ?_
      rintro e w5 ⟨a5, rfl, N5, k⟩
      replace O4 := O4.below k
      replace b := b.trans (k.mono b.size)
      replace q := q.trans (k.mono q.size)
      have n5lo := fun p e => N5.1.lt p e
      have hi5 : w4.heap.size ≤ w5.heap.size := k.size
      clear k hn x0 x1 x2 x3
      go_upto_region 11 with fail
      have X9 := Bx.made w5 (.int .i64 id) (.bool rm) (.int .i64 ln) (.slice a5 D.length D.length)
      have k : Below w5.heap.size w5 (w5.alloc (.cells #[.int .i64 id, .bool rm, .int .i64 ln, .slice a5 D.length D.length] 26)) := (Below.refl _ _).alloc (Nat.le_refl _) _
      replace O4 := O4.below k
      replace N5 := N5.below' k
      replace b := b.trans (k.mono b.size)
      replace q := q.trans (k.mono q.size)
      have hi6 := k.size
      clear k
      generalize w5.alloc (.cells #[.int .i64 id, .bool rm, .int .i64 ln, .slice a5 D.length D.length] 26) = W5 at *
      have hg9 : w4.heap.size ≤ w5.heap.size := hi5
      have d4 := O4.frsOf hM4 (by omega)
      have l4 := O4.len.2
      have A4 := O4.addressed
      have x0 := X9.c0
      have x1 := X9.c1
      have x2 := X9.c2
      have x3 := X9.c3
      have hn := N5.nums2
      go_wp2_with fail
      refine (HI.out a4 c4 a5 D.length W5 d4 l4 A4 hn).mono ?_
      intro e w6 h6
      obtain ⟨M6, a6, c6, rfl, hM6, O6, R6, k⟩ := h6.parts
      replace O4 := O4.below k
      replace N5 := N5.below' k
      replace X9 := X9.below' k
      replace b := b.trans (k.mono b.size)
      replace q := q.trans (k.mono q.size)
      clear k d4 l4 A4 hn x0 x1 x2 x3 h6
      have U6 := O6.under
      have hi7 := O6.under
      have hq6 := q.size
      have d6 := O6.frsOf hM6 (by omega)
      go_wp2_with fail
      refine (eqFrames a6 (some ⟨g3, 0, none⟩) X c6 c3 w6 d6 (F3.below q)).mono ?_
      rintro e w7 ⟨rfl, k⟩
      replace O4 := O4.below k
      replace O6 := O6.below k
      replace N5 := N5.below' k
      replace X9 := X9.below' k
      replace b := b.trans (k.mono b.size)
      replace q := q.trans (k.mono q.size)
      clear k d6
      have hd := hd0.below b
      go_wp2_with fail
      refine (toFrames a L c w7 hd hs).mono ?_
      rintro e w8 ⟨a8, rfl, d8, k⟩
      replace O4 := O4.below k
      replace O6 := O6.below k
      replace N5 := N5.below' k
      replace X9 := X9.below' k
      replace b := b.trans (k.mono b.size)
      replace q := q.trans (k.mono q.size)
      clear k hd
      have d4 := O4.frsOf hM4 (by omega)
      go_wp2_with fail
      refine (eqFrames a4 a8 L c4 L.length w8 d4 d8).mono ?_
      rintro e w9 ⟨rfl, k⟩
      replace O4 := O4.below k
      replace O6 := O6.below k
      replace N5 := N5.below' k
      replace X9 := X9.below' k
      replace b := b.trans (k.mono b.size)
      replace q := q.trans (k.mono q.size)
      clear k d4 d8
      go_upto_region 16 with fail
      go_cut [63] (fun s wx => s = .bool false ∧ Below w9.heap.size w9 wx)
      case first =>
        have X9d : Bx w5.heap.size (.int .i64 id) (.bool rm) (.int .i64 ln) (.slice a5 D.length D.length) w9.drew := X9
        have fd := (f3.below q).drew
        obtain ⟨⟨x0, x1, x2, x3⟩, -⟩ := fd
        have y0 := X9d.c0
        have y1 := X9d.c1
        have y2 := X9d.c2
        have y3 := X9d.c3
        have hn := (hn0.below b).drew
        have n5 := N5.nums2
        go_region_law (first
          | (go_simp
             go_at_call 22
             refine (toFrOwn id rm ln ad D cd _ hn hDl).mono ?_
             rintro e v1 ⟨a10, rfl, o10, k10⟩
             have k10' := below_of_drew k10
             have Xv := X9.below' k10'
             have z0 := Xv.c0
             have z1 := Xv.c1
             have z2 := Xv.c2
             have z3 := Xv.c3
             have m5 := n5.below k10'
             have m10 := o10.nums2)
          | (go_simp
             go_at_call 23
             refine (eqFr id rm ln a5 a10 D D.length D.length _ m5 m10).mono ?_
             rintro e v2 ⟨rfl, k11⟩))
        all_goals
          clear x0 x1 x2 x3 y0 y1 y2 y3 z0 z1 z2 z3 n5 m5 m10 hn HI
          go_wp2_with fail
          go_meet
          exact ⟨rfl, Below.then2 k10' k11⟩
      case rest =>
      obtain ⟨rfl, k⟩ := hcut
      replace O4 := O4.below k
      replace O6 := O6.below k
      replace N5 := N5.below' k
      replace X9 := X9.below' k
      replace b := b.trans (k.mono b.size)
      replace q := q.trans (k.mono q.size)
      clear k
      generalize wc = w10 at *
      go_wp2_with fail
      refine (markFrames w3.heap.size w4.heap.size M4 L hM4 a4 c4 1 w10 O4 R4 U4 hs (by omega) (by omega)).mono ?_
      rintro e w11 ⟨M11, rfl, -, -, -, k⟩
      replace O6 := O6.mid k (Nat.le_trans hi5 hi6)
      replace N5 := N5.mid k (Nat.le_refl _)
      replace X9 := X9.mid k (.inr hi5)
      have hk9 := kAt_pos (k := 1) (X := L) (j := L.length) (by omega)
      have hk9b := kAt_le hs (Nat.le_refl _)
      generalize kAt 1 L L.length = k9 at hk9 hk9b ⊢
      replace b := b.trans (k.below hb3 b.size)
      replace q := q.trans (k.below (Nat.le_refl _) q.size)
      clear k O4 R4 U4 hM4
      have x0 := X9.c0
      have x1 := X9.c1
      have x2 := X9.c2
      have x3 := X9.c3
      go_wp2_with fail
      refine (markFr w4.heap.size id rm ln D a5 D.length k9 w11 N5 (by omega) (by omega) (by omega)).mono ?_
      rintro e w12 ⟨rfl, -, k0⟩
      have k := (Mid.refl w4.heap.size w5.heap.size w11).grown k0 n5lo
      replace O6 := O6.mid k hi6
      replace b := b.trans (k.below (Nat.le_trans hb3 hi4) b.size)
      replace q := q.trans (k.below hi4 q.size)
      clear k k0 N5 X9 x0 x1 x2 x3 n5lo
      have hkd : ¬ k9 + (D.length : Int) < 0 := by omega
      have d6 := O6.frsOf hM6 (by omega)
      go_wp2_with fail
      refine (eqFrames a6 (some ⟨g3, 0, none⟩) X c6 c3 w12 d6 (F3.below q)).mono ?_
      rintro e w13 ⟨rfl, k⟩
      replace O6 := O6.below k
      replace b := b.trans (k.mono b.size)
      replace q := q.trans (k.mono q.size)
      clear k d6 hkd
      go_wp2_with fail
      refine (markFrames W5.heap.size w6.heap.size M6 X hM6 a6 c6 1 w13 O6 R6 U6 hfit (by omega) (by omega)).mono ?_
      rintro e w14 ⟨M14, rfl, hM14, O14, R14, k⟩
      replace b := b.trans (k.below (Nat.le_trans hb3 (Nat.le_trans hi4 (Nat.le_trans hi5 hi6))) b.size)
      replace q := q.trans (k.below (Nat.le_trans hi4 (Nat.le_trans hi5 hi6)) q.size)
      clear k O6 R6 U6 hM6
      have h14 := O14.frsOf hM14 (by rw [mkL_len]; omega)
      have hkk := kAt_pos (k := 1) (X := X) (j := X.length) (by omega)
      have HH := Lib.hid (fun w h => heldFrames a6 X c6 1 w h hfit (by omega) (by omega))
      generalize kAt 1 X X.length = kk at hkk HH ⊢
      have hkn : ¬ kk < 0 := by omega
      go_wp2_with fail
      refine (HH.out w14 h14).mono ?_
      rintro e w15 ⟨rfl, k⟩
      replace O14 := O14.below k
      replace b := b.trans (k.mono b.size)
      replace q := q.trans (k.mono q.size)
      clear k h14
      go_upto_region 31 with fail
      go_cut [15, 16] (fun s6 s7 wx => ∃ a' c', s6 = .slice a' X.length c' ∧ s7 = .int .i64 kc ∧ Frs a' X wx ∧ Below w15.heap.size w15 wx)
      case first =>
        have fd := (f3.below q).drew
        have fd0 := fd
        obtain ⟨⟨x0, x1, x2, x3⟩, -⟩ := fd
        have hd2 := (hd0.below b).drew
        have hn2 := (hn0.below b).drew
        go_region_law (first
          | (go_simp
             go_at_call 25
             refine (toFramesOwn a L c _ hd2 hs).mono ?_
             rintro e v5 ⟨M5, b5, c5, rfl, hM5, P5, S5, k5⟩
             have f5 := fd0.below k5
             obtain ⟨⟨y0, y1, y2, y3⟩, bw5⟩ := f5
             have n5 := hn2.below k5
             have j5 := below_of_drew k5)
          | (go_simp
             go_at_call 22
             refine (toFrOwn id rm ln ad D cd _ n5 hDl).mono ?_
             rintro e v6 ⟨b6, rfl, o6, k6⟩
             have P6 := P5.below k6
             have n6 := o6.nums2)
          | (go_simp
             go_at_call 28
             refine (HI.out b5 c5 b6 D.length _ (P6.frsOf hM5 ?_) P6.len.2 P6.addressed n6).mono ?_
             · omega
             intro e v7 h7
             obtain ⟨M7, a7, c7, rfl, hM7, O7, R7, k7⟩ := h7.parts
             have F7 := O7.frsOf hM7))
        all_goals
          have F7' := F7 (by omega)
          clear x0 x1 x2 x3 y0 y1 y2 y3 hM7 n5 n6 F7 h7 hd2 hn2 HI HH
          go_wp2_with fail
          go_meet
          exact ⟨a7, c7, rfl, rfl, F7', Below.then2 (Below.then2 j5 k6) k7⟩
      case rest =>
      obtain ⟨a16, c16, rfl, rfl, d16, k⟩ := hcut
      replace O14 := O14.below k
      replace b := b.trans (k.mono b.size)
      replace q := q.trans (k.mono q.size)
      clear k
      generalize wc = w16 at *
      go_wp2_with fail
      refine (eqFrames a16 (some ⟨g3, 0, none⟩) X c16 c3 w16 d16 (F3.below q)).mono ?_
      rintro e w17 ⟨rfl, k⟩
      replace O14 := O14.below k
      replace b := b.trans (k.mono b.size)
      clear k d16 q F3
      have h14 := O14.frsOf hM14 (by rw [mkL_len]; omega)
      go_wp2_with fail
      refine (HH.out w17 h14).mono ?_
      rintro e w18 ⟨rfl, k⟩
      replace b := b.trans (k.mono b.size)
      clear k h14 O14
      go_wp2_with fail
      go_ret
      exact ⟨rfl, b⟩
    · have hm := hn0.1
      obtain ⟨⟨x0, x1, x2, x3⟩, bw⟩ := f0
      go_wp2_with fail
      refine (szFrameOver _ _ _ _ _ _ _ _ hm (by omega) (by omega) (by omega)).mono ?_
      rintro e w2 ⟨rfl, k⟩
      replace bw := Below.then2 bw k
      go_wp2_with fail
      go_ret
      exact ⟨rfl, bw⟩
  · go_wp2_with fail
    refine (szFramesBig a L c W0 hd (by omega)).mono ?_
    rintro e w1 ⟨rfl, k⟩
    replace f0 := f0.below k
    have bw := f0.2
    go_wp2_with fail
    go_ret
    exact ⟨rfl, bw⟩

/-! ### The row's step of FnExactPutIn. -/
set_option maxRecDepth 100000 in
theorem liftedFnExactPutIn (os : Os) (started : os.Started) (H : Type) (enc : TypeId × Value → H) :
    ReturnsInHanded {} Try.checked os 9 .any (Rows.fnExactPutInSpec.pre6 enc Try.prog Try.f9 Rows.fnExactPutInRow.domain false) (Rows.fnExactPutInSpec.post enc Try.prog Try.f9 false true false false) := by
  refine returnsInHanded_of_change (C := Try.checked) own started (by kernel_rfl) Try.func9
    (ChangeSpec.witness6 (enc := enc) (C := Try.checked) false ⟨#[], #[.slice none 0 0, .agg #[.int .i64 0, .bool false, .int .i64 0, .slice none 0 0]], []⟩ 8 (by kernel_rfl) (by kernel_rfl) (by kernel_rfl) (by kernel_rfl)) ?_
  intro W base args ds gs before hval0 hW hcnd _
  have hval : ∀ (j : Nat) t v, Try.f9.params[j]? = some t → args[j]? = some v → Value.okWide Try.prog W .any base t v := hval0
  have hW' := hW
  obtain ⟨p, q, hA0, hV, rfl, hfz, hnd⟩ := hW
  have hA : DataW.TrodAll enc Try.prog W 0 (fun _ => true) true Try.f9.params.toList args.toList ds p := hA0
  rw [Try.params9] at hA hval
  obtain ⟨v0, vs0, d0, ds0, p0, q0, hargs, rfl, rfl, h0, r0⟩ := trodAll_cons hA
  obtain ⟨v1, vs1, d1, ds1, p1, q1, rfl, rfl, rfl, h1, r1⟩ := trodAll_cons r0
  obtain ⟨rfl, rfl, rfl⟩ := trodAll_nil r1
  obtain rfl : args = #[v0, v1] := by cases args; simp_all
  obtain ⟨rfl, rfl⟩ := trodVars_none hV
  have k0 := h0
  have lt0 : ∀ x ∈ p0, x.block < W.heap.size := by obtain ⟨m, hm⟩ := k0; exact DataW.trod_lt m _ _ _ hm
  obtain ⟨a0, len0, cap0, rfl⟩ := okWide_slice Try.underlying40 (hval 0 40 v0 rfl rfl)
  obtain ⟨L0, w0⟩ : ∃ L : List Frm, L.length = len0 ∧ Frs a0 L W := by
    obtain ⟨fuel, hf⟩ := h0
    obtain ⟨a, L, c, hcs, hn⟩ := frames_open hf
    simp [Value.cells] at hcs
    obtain ⟨rfl, rfl, rfl⟩ := hcs
    exact ⟨L, rfl, hn⟩
  obtain ⟨rfl, n0⟩ := w0
  have k1 := h1
  have lt1 : ∀ x ∈ p1, x.block < W.heap.size := by obtain ⟨m, hm⟩ := k1; exact DataW.trod_lt m _ _ _ hm
  obtain ⟨i1, rm1, l1, a1, D1, c1, rfl, n1, -, -⟩ := frame_open (hval 1 35 v1 rfl rfl) h1
  clear hA0 hval0
  refine (walkFnExactPutIn _ _ _ _ _ _ _ _ _ W n0 n1).mono fun e W' ⟨he, bel⟩ => ?_
  subst he
  exact ⟨_, rfl, _, _, _, [], _, [], hW', trodAll_mk1 (shut_bool Try.underlying4 _), (trodAll_cons_mk (Below.trod laidOut (by kernel_rfl) (of_decide_eq_true (by kernel_rfl)) k0 bel lt0) (trodAll_cons_mk (Below.trod laidOut (by kernel_rfl) (of_decide_eq_true (by kernel_rfl)) k1 bel lt1) trodAll_mk0)), rfl, bel.frame _, fun h => by cases h⟩

theorem fnExactPutIn_holds : Rows.FnExactPutInSaid :=
  OpenClaim.holds_of_wide 9 Try.f9 rfl rfl rfl rfl rfl rfl rfl ⟨rfl, rfl, rfl, rfl, rfl⟩ rfl rfl rfl rfl rfl (by kernel_rfl) Try.func9 (by kernel_rfl)
    (of_decide_eq_true (by kernel_rfl)) (by unfold Func.isWrapper; first | (rw [if_pos (by decide +kernel)]; kernel_rfl) | (rw [if_neg (by decide +kernel)]; exact ⟨rfl, rfl⟩))
    (fun os started H enc _ => liftedFnExactPutIn os started H enc)
#print axioms fnExactPutIn_holds
end Go.Proofs.Ytcciabalbdnakab.exPutIn
