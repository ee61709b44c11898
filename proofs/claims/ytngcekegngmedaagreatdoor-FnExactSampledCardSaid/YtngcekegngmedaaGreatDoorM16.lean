/- Contract of frameIn, of the program: a text of bits read as a frame, or an error with its code. -/
import Derived.Test.YtngcekegngmedaaGreatDoorM12
import Derived.Test.YtngcekegngmedaaGreatDoorM15
import Derived.Test.YtngcekegngmedaaGreatDoorM2
import Derived.Test.YtngcekegngmedaaGreatDoorM3
import Derived.Test.YtngcekegngmedaaGreatDoorM1
import Derived.Test.YtngcekegngmedaaGreatDoorM13
import Derived.RegionTactic
import Derived.ChangeAlike
import Derived.BigRegion

set_option linter.unusedVariables false
set_option linter.unusedSimpArgs false
set_option maxRecDepth 20000
namespace Go.Proofs.YtngcekegngmedaaGreatDoor
open Go.RowKit

theorem form_head {s : ByteArray} (h : okB s = true) (hl : 19 ≤ s.size) : ((headS (numV (idS s)) (byteAt s 12 == 49) (numV (lenS s))).toList == (s.extract 0 19).toList) = formB s := by
  obtain ⟨i1, i2, i3⟩ := idS_bits h hl
  obtain ⟨l1, l2, l3⟩ := lenS_bits h hl
  have hp := parts19 s.data.toList (by rw [len_list]; exact hl)
  have e1 : (List.take 11 (List.drop 1 s.data.toList)).length = 11 := by rw [List.length_take, List.length_drop, len_list]; omega
  have e2 : (List.take 4 (List.drop 15 s.data.toList)).length = 4 := by rw [List.length_take, List.length_drop, len_list]; omega
  have h6 : (s.extract 0 19).data.toList = [byteAt s 0] ++ List.take 11 (List.drop 1 s.data.toList) ++ [byteAt s 12] ++ [byteAt s 13, byteAt s 14] ++ List.take 4 (List.drop 15 s.data.toList) := by
    rw [ext_list, List.drop_zero]
    conv => lhs; rw [hp]
    rw [List.take_left']
    · rfl
    · simp only [List.length_append, e1, e2, List.length_cons, List.length_nil]
  have hbit : byteAt s 12 = if (byteAt s 12 == 49) = true then 49 else 48 := by
    have hm : byteAt s 12 ∈ s.data.toList := by
      rw [byteAt, List.getD_eq_getElem?_getD, List.getElem?_eq_getElem (by rw [len_list]; omega)]
      exact List.getElem_mem _
    rcases bit_val (mem_bit h _ hm) with e | e <;> rw [e] <;> rfl
  have h7 : (headS (numV (idS s)) (byteAt s 12 == 49) (numV (lenS s))).data.toList = [48] ++ List.take 11 (List.drop 1 s.data.toList) ++ [byteAt s 12] ++ [48, 48] ++ List.take 4 (List.drop 15 s.data.toList) := by
    rw [headS, headX_list, i3, l3, ← hbit, idS, lenS, ext_list, ext_list]
  rw [ByteArray.toList_eq, ByteArray.toList_eq, h6, h7, Bool.eq_iff_iff, beq_iff_eq, formB]
  simp only [Bool.and_eq_true, beq_iff_eq]
  constructor
  · intro e
    obtain ⟨e, _⟩ := List.append_inj' e rfl
    obtain ⟨e, e13⟩ := List.append_inj' e rfl
    obtain ⟨e, _⟩ := List.append_inj' e rfl
    obtain ⟨e0, _⟩ := List.append_inj' e rfl
    simp only [List.cons.injEq, and_true] at e0 e13
    exact ⟨⟨e0.symm, e13.1.symm⟩, e13.2.symm⟩
  · rintro ⟨⟨e0, e13⟩, e14⟩
    rw [e0, e13, e14]

theorem byD_read {s : ByteArray} (k : Nat) (h : s.size = 34 + 8 * k) : byD (s.extract 19 (s.size - 15)) k = readD s k := by
  unfold byD readD
  apply List.map_congr_left
  intro i hi
  have hi : i < k := List.mem_range.1 hi
  congr 1
  apply ba_inj
  rw [at8, byS, ext_list, ext_list, ext_list, List.drop_take, List.drop_drop, List.take_take]
  congr 1
  omega

/-- A frame and an error. -/
def FrameR (s : ByteArray) (w : World) (e : Ending) (w' : World) : Prop :=
  ∃ v x, e = .returned (.tuple #[.agg #[.int .i64 (rdId s), .bool (rdRm s), .int .i64 (rdLn s), v], x]) ∧ OwnI w.heap.size (rdD s) v w' ∧ Below w.heap.size w w' ∧
    ((rdCode s = 0 ∧ x = .nilIface) ∨ (rdCode s ≠ 0 ∧ x = .iface 226 (.int .i64 (rdCode s))))

/-- The result's box, the head's box, and what was there when the call began. -/
structure FI (w0 : World) (r g : Nat) (x0 x1 x2 : Value) (w : World) : Prop where
  res : Bx r (.int .i64 0) (.bool false) (.int .i64 0) (.slice none 0 0) w
  hd : Hx g x0 x1 x2 w
  bel : Below w0.heap.size w0 w
  rl : w0.heap.size ≤ r
  gl : w0.heap.size ≤ g
  ne : r ≠ g
section
variable {w0 w w' : World} {r g : Nat} {x0 x1 x2 : Value}
theorem FI.below (h : FI w0 r g x0 x1 x2 w) (b : Below w.heap.size w w') : FI w0 r g x0 x1 x2 w' :=
  ⟨(b.block r h.res.lt).trans h.res, (b.block g h.hd.lt).trans h.hd, h.bel.trans (b.mono h.bel.size), h.rl, h.gl, h.ne⟩
theorem FI.alloc (h : FI w0 r g x0 x1 x2 w) (o : Obj) : FI w0 r g x0 x1 x2 (w.alloc o) := h.below ((Below.refl _ _).alloc (Nat.le_refl _) _)
theorem FI.drew (h : FI w0 r g x0 x1 x2 w) : FI w0 r g x0 x1 x2 w.drew := ⟨h.res, h.hd, h.bel.drew, h.rl, h.gl, h.ne⟩
theorem Below.set4 {B : Nat} (b : Below B w0 w) (hg : B ≤ g) (y0 y1 y2 y3 : Value) : Below B w0 ((((w.setCell ⟨g, 0, none⟩ y0).setCell ⟨g, 1, none⟩ y1).setCell ⟨g, 2, none⟩ y2).setCell ⟨g, 3, none⟩ y3) :=
  (((b.setCell (p := ⟨g, 0, none⟩) hg y0).setCell (p := ⟨g, 1, none⟩) hg y1).setCell (p := ⟨g, 2, none⟩) hg y2).setCell (p := ⟨g, 3, none⟩) hg y3
theorem Bx.set {y0 y1 y2 y3 : Value} {z0 z1 z2 z3 : Value} (h : Bx g y0 y1 y2 y3 w) : Bx g z0 z1 z2 z3 ((((w.setCell ⟨g, 0, none⟩ z0).setCell ⟨g, 1, none⟩ z1).setCell ⟨g, 2, none⟩ z2).setCell ⟨g, 3, none⟩ z3) :=
  (((h.set0 z0).set1 z1).set2 z2).set3 z3
end

set_option maxHeartbeats 4000000 in
/-- impl.frameIn. -/
theorem implFrameIn (s : ByteArray) (w : World) (hs : s.size ≤ maxLen) :
    Calls Tryz.prog 262 #[.string s] w (FrameR s w) := by
  have hs' := hs
  unfold maxLen at hs'
  go_enter Tryz.func262, Tryz.ntmps262
  go_wp2_with fail
  refine (implHeadIn _ _ hs).mono ?_
  rintro e w1 ⟨b1, h⟩
  have R : Bx w.heap.size (.int .i64 0) (.bool false) (.int .i64 0) (.slice none 0 0) w1 := (b1.block w.heap.size (by simp)).trans (Bx.made w _ _ _ _)
  replace b1 : Below w.heap.size w w1 := below_from b1
  have rl : w.heap.size ≤ w.heap.size := Nat.le_refl _
  have hlt := R.lt
  generalize hgr : w.heap.size = r at R rl hlt ⊢
  have finZ : ∀ (c : Int) (a : Act) (W : World), rdCode s = c → c ≠ 0 → a.tmps[2]?.getD undef = .pointer (some ⟨r, 0, none⟩) → a.tmps[3]?.getD undef = .iface 226 (.int .i64 c) → a.defers = [] →
      Bx r (.int .i64 0) (.bool false) (.int .i64 0) (.slice none 0 0) W → Below w.heap.size w W → bodyPost Tryz.prog Tryz.f262 (FrameR s w) .ret a W := by
    intro c a W hc h0 h2 h3 h4 hy b
    have z0 := hy.c0
    have z1 := hy.c1
    have z2 := hy.c2
    have z3 := hy.c3
    have HZ := rd_not (s := s) (by rw [hc]; exact h0)
    refine bodyPost_ret (v := .tuple #[.agg #[.int .i64 0, .bool false, .int .i64 0, .slice none 0 0], .iface 226 (.int .i64 c)]) (by simp [results, Tryz.results262, go_sem, h2, h3, z0, z1, z2, z3]) h4 ⟨.slice none 0 0, _, ?_, ?_, b, .inr ⟨by rw [hc]; exact h0, rfl⟩⟩
    · rw [HZ.1, HZ.2.1, HZ.2.2.1, hc]
    · rw [HZ.2.2.2]; exact OwnI.nil _ _
  rcases h with h | h
  · obtain ⟨hb, h19, rfl⟩ := h
    have HB := Lib.hid hb
    have HN := Lib.hid (needV_eq hb h19)
    have HF := Lib.hid (form_head hb h19)
    have hbd := numV_bd (lenS s)
    clear hb
    obtain ⟨id, hid⟩ : ∃ id, id = numV (idS s) := ⟨_, rfl⟩
    obtain ⟨rm, hrm⟩ : ∃ rm, rm = (byteAt s 12 == 49) := ⟨_, rfl⟩
    obtain ⟨ln, hln⟩ : ∃ ln, ln = numV (lenS s) := ⟨_, rfl⟩
    rw [← hid, ← hrm, ← hln] at HF
    rw [← hrm, ← hln] at HN
    rw [← hln] at hbd
    rw [← hid, ← hrm, ← hln]
    replace hid := Lib.hid hid
    replace hrm := Lib.hid hrm
    replace hln := Lib.hid hln
    go_upto_region 2 with fail
    have F : FI w r w1.heap.size (.int .i64 id) (.bool rm) (.int .i64 ln) (w1.alloc (.cells #[.int .i64 id, .bool rm, .int .i64 ln] 114)) :=
      ⟨((Below.refl w1.heap.size w1).alloc (Nat.le_refl _) _ |>.block r hlt).trans R, Hx.made _ _ _ _, b1.alloc b1.size _, Nat.le_of_eq hgr, b1.size, by omega⟩
    generalize w1.alloc (.cells #[.int .i64 id, .bool rm, .int .i64 ln] 114) = W at F ⊢
    generalize w1.heap.size = g at F ⊢
    clear R b1 hlt w1
    have x0 := F.hd.c0
    have x1 := F.hd.c1
    have x2 := F.hd.c2
    go_wp2_with fail
    obtain ⟨n, hn⟩ : ∃ n : Int, n = (if rm = true then 0 else ln) := ⟨_, rfl⟩
    rw [← hn] at HN
    have hnb : 0 ≤ n ∧ n ≤ 4294967295 := by rw [hn]; split <;> omega
    refine (headNeed id rm ln n (needV s) _ hn hnb HN.out).mono ?_
    rintro e w2 ⟨rfl, b2⟩
    replace F := F.below b2
    have HNN : Hid (¬ needV s < 0) := by
      apply Lib.hid; rw [HN.out]; split <;> omega
    replace hn := Lib.hid hn
    clear x0 x1 x2 b2 W
    by_cases h2 : needV s ≠ s.size
    · have HC := rd_2 (by have := HNN.out; omega) h2
      have h2' : (s.size : Int) ≠ needV s := fun e => h2 e.symm
      clear h2
      generalize needV s = nv at h2'
      have c0 := F.res.c0
      have c1 := F.res.c1
      have c2 := F.res.c2
      have c3 := F.res.c3
      have q0 := F.res.free 0
      have q1 := F.res.free 1
      have q2 := F.res.free 2
      have q3 := F.res.free 3
      go_wp2_with fail
      exact finZ 2 _ _ HC (by decide) rfl rfl rfl F.res.set (Below.set4 F.bel (Nat.le_of_eq hgr) _ _ _ _)
    replace h2 := Decidable.not_not.1 h2
    have H2 := Lib.hid h2
    rw [h2]
    clear h2
    go_wp2_with fail
    refine (implRight _ _ hs).mono ?_
    rintro e w3 ⟨rfl, b2⟩
    replace F := F.below b2
    clear b2
    cases hr : rightB s with
    | false =>
      have HC := rd_3 (by have := HNN.out; omega) H2.out hr
      clear hr
      have c0 := F.res.c0
      have c1 := F.res.c1
      have c2 := F.res.c2
      have c3 := F.res.c3
      have q0 := F.res.free 0
      have q1 := F.res.free 1
      have q2 := F.res.free 2
      have q3 := F.res.free 3
      go_wp2_with fail
      exact finZ 3 _ _ HC (by decide) rfl rfl rfl F.res.set (Below.set4 F.bel (Nat.le_of_eq hgr) _ _ _ _)
    | true =>
      have HR := Lib.hid hr
      clear hr
      have hi19 : (19 : Int) ≤ (s.size : Int) := by omega
      go_wp2_with fail
      refine region_class (FI w r g (.int .i64 id) (.bool rm) (.int .i64 ln)) (by kernel_rfl) (by kernel_rfl) F.drew ?_
      repeat first
        | go_big_quiet_skip
        | (go_big_quiet_want
           apply Exists.intro
           refine ⟨fun u hu => ?_, ?_⟩
           · apply quietAt_val
             have c0 := hu.hd.c0
             have c1 := hu.hd.c1
             have c2 := hu.hd.c2
             go_simp
             first
               | rfl
               | (rw [if_pos hi19]; rfl)
           simp only [Act.put, List.setIfInBounds_toArray, List.set_cons_zero, List.set_cons_succ]
           go_big_quiet_on)
        | (go_big_quiet_want
           apply Exists.intro
           refine ⟨fun u hu => ?_, ?_⟩
           · apply quietAt_enter 259 #[hdV id rm ln]
             · go_simp
             · refine (headBits id rm ln u).mono ?_
               rintro e w4 ⟨rfl, b4⟩
               exact ⟨rfl, hu.below b4⟩
           simp only [Act.put, List.setIfInBounds_toArray, List.set_cons_zero, List.set_cons_succ]
           go_big_quiet_on)
      refine wpQuiet_nil ?_
      intro W2 F2
      rw [HF.out]
      generalize headS id rm ln = hx
      clear F w2 w3
      have F := F2
      clear F2
      cases hf : formB s with
      | false =>
        have HC := rd_4 (by have := HNN.out; omega) H2.out HR.out hf
        clear hf
        have c0 := F.res.c0
        have c1 := F.res.c1
        have c2 := F.res.c2
        have c3 := F.res.c3
        have q0 := F.res.free 0
        have q1 := F.res.free 1
        have q2 := F.res.free 2
        have q3 := F.res.free 3
        go_wp2_with fail
        exact finZ 4 _ _ HC (by decide) rfl rfl rfl F.res.set (Below.set4 F.bel (Nat.le_of_eq hgr) _ _ _ _)
      | true =>
        have HF2 := Lib.hid hf
        clear hf HF
        have x2 := F.hd.c2
        by_cases h5 : 8 < ln
        · have HC := rd_5 (by have := HNN.out; omega) H2.out HR.out HF2.out (by rw [← hln.out]; exact h5)
          have c0 := F.res.c0
          have c1 := F.res.c1
          have c2 := F.res.c2
          have c3 := F.res.c3
          have q0 := F.res.free 0
          have q1 := F.res.free 1
          have q2 := F.res.free 2
          have q3 := F.res.free 3
          go_wp2_with fail
          exact finZ 5 _ _ HC (by decide) rfl rfl rfl F.res.set (Below.set4 F.bel (Nat.le_of_eq hgr) _ _ _ _)
        · have HC := Lib.hid (rd_0 (by have := HNN.out; omega) H2.out HR.out HF2.out (by rw [← hln.out]; exact h5))
          obtain ⟨k, hk, hk8⟩ : ∃ k : Nat, s.size = 34 + 8 * k ∧ k ≤ 8 := by
            have hz : (s.size : Int) = 34 + 8 * (if n < 8 then n else 8) := by rw [← HN.out, H2.out]
            refine ⟨(s.size - 34) / 8, ?_, ?_⟩ <;> (split at hz <;> omega)
          clear HNN H2 HR HF2
          go_wp2_with fail
          have hxs : (s.extract 19 (34 + 8 * k - 15)).size = 8 * k := by rw [ByteArray.size_extract]; omega
          refine (implBytes _ k _ hxs (by omega)).mono ?_
          rintro e w4 ⟨v, rfl, HO, b4⟩
          rw [show 34 + 8 * k - 15 = s.size - 15 by omega, byD_read k hk] at HO
          replace HO := HO.mono F.bel.size
          replace F := F.below b4
          clear b4 x2 hxs
          obtain ⟨HY1, HY2, HY3, HY4⟩ := rd_yes HC.out
          rw [show (s.size - 34) / 8 = k by omega] at HY4
          rw [← HY4] at HO
          rw [← hid.out] at HY1
          rw [← hrm.out] at HY2
          rw [← hln.out] at HY3
          have H1 := Lib.hid HY1
          have H2 := Lib.hid HY2
          have H3 := Lib.hid HY3
          clear HY1 HY2 HY3 HY4
          obtain ⟨av, cv, rfl, -⟩ := HO.nums
          generalize (rdD s).length = nd at HO
          have x0 := F.hd.c0
          have x1 := F.hd.c1
          have x2 := F.hd.c2
          have c0 := F.res.c0
          have c1 := F.res.c1
          have c2 := F.res.c2
          have c3 := F.res.c3
          have q0 := F.res.free 0
          have q1 := F.res.free 1
          have q2 := F.res.free 2
          have q3 := F.res.free 3
          have hne := F.ne
          go_wp2_with fail
          have HB2 := F.res.set (z0 := .int .i64 id) (z1 := .bool rm) (z2 := .int .i64 ln) (z3 := .slice av nd cv)
          have HL2 := Below.set4 F.bel (Nat.le_of_eq hgr) (.int .i64 id) (.bool rm) (.int .i64 ln) (.slice av nd cv)
          have HO2 := HO.kept (grown_trans (grown_trans (grown_trans (grown_set w4 r 0 (.int .i64 id)) (grown_set _ r 1 (.bool rm))) (grown_set _ r 2 (.int .i64 ln))) (grown_set _ r 3 (.slice av nd cv))) (.inr (HO.ne_box F.res))
          generalize (((w4.setCell ⟨r, 0, none⟩ (.int .i64 id)).setCell ⟨r, 1, none⟩ (.bool rm)).setCell ⟨r, 2, none⟩ (.int .i64 ln)).setCell ⟨r, 3, none⟩ (.slice av nd cv) = Wx at HB2 HL2 HO2 ⊢
          have z0 := HB2.c0
          have z1 := HB2.c1
          have z2 := HB2.c2
          have z3 := HB2.c3
          refine bodyPost_ret (v := .tuple #[.agg #[.int .i64 id, .bool rm, .int .i64 ln, .slice av nd cv], .nilIface]) (by simp [results, Tryz.results262, go_sem, z0, z1, z2, z3]) rfl ⟨_, _, ?_, HO2, HL2, .inl ⟨HC.out, rfl⟩⟩
          rw [H1.out, H2.out, H3.out]
  · obtain ⟨hno, rfl⟩ := h
    have HC := rd_1 (s := s) (by rw [needV, if_neg hno]; omega)
    clear hno
    go_upto_region 2 with fail
    have R2 : Bx r (.int .i64 0) (.bool false) (.int .i64 0) (.slice none 0 0) (w1.alloc (.cells #[.int .i64 0, .bool false, .int .i64 0] 114)) := ((Below.refl w1.heap.size w1).alloc (Nat.le_refl _) _ |>.block r hlt).trans R
    have b2 := b1.alloc b1.size (.cells #[.int .i64 0, .bool false, .int .i64 0] 114)
    generalize w1.alloc (.cells #[.int .i64 0, .bool false, .int .i64 0] 114) = W at R2 b2 ⊢
    clear R b1
    have c0 := R2.c0
    have c1 := R2.c1
    have c2 := R2.c2
    have c3 := R2.c3
    have q0 := R2.free 0
    have q1 := R2.free 1
    have q2 := R2.free 2
    have q3 := R2.free 3
    generalize w1.heap.size = g
    go_wp2_with fail
    exact finZ 1 _ _ HC (by decide) rfl rfl rfl R2.set (Below.set4 b2 (Nat.le_of_eq hgr) _ _ _ _)
end Go.Proofs.YtngcekegngmedaaGreatDoor

/- Contract of ReadFrame, of the program. -/

set_option linter.unusedVariables false
set_option linter.unusedSimpArgs false
set_option maxRecDepth 20000
namespace Go.Proofs.YtngcekegngmedaaGreatDoor
open Go.RowKit

/-- What errors.As looks at is held. -/
def ErrHeld (w : World) : Prop := w.cell? ⟨0, 0, none⟩ = some (.iface 258 (.agg #[.pointer (some ⟨1, 222, none⟩)]))
theorem ErrHeld.below {w w' : World} (h : ErrHeld w) (b : Below w.heap.size w w') : ErrHeld w' := (b.cell (World.block_lt_of_cell? w _ h)).trans h
theorem ErrHeld.alloc {w : World} (h : ErrHeld w) (o : Obj) : ErrHeld (w.alloc o) := h.below ((Below.refl _ _).alloc (Nat.le_refl _) _)
theorem ErrHeld.drew {w : World} (h : ErrHeld w) : ErrHeld w.drew := h

set_option maxHeartbeats 4000000 in
/-- impl.ReadFrame. -/
theorem implRead (s : ByteArray) (w : World) (hs : s.size ≤ maxLen) (hg : ErrHeld w) :
    Calls Tryz.prog 240 #[.string s] w (ReadR s w) := by
  go_enter Tryz.func240, Tryz.ntmps240
  go_wp2_with fail
  refine (implFrameIn _ _ hs).mono ?_
  rintro e w1 ⟨v, x, rfl, HO, b1, h⟩
  replace hg := (hg.alloc _).below b1
  have R : Bx w.heap.size (.int .i64 0) (.bool false) (.int .i64 0) (.slice none 0 0) w1 := (b1.block w.heap.size (by simp)).trans (Bx.made w _ _ _ _)
  replace HO : OwnI w.heap.size (rdD s) v w1 := HO.mono (by simp)
  replace b1 : Below w.heap.size w w1 := below_from b1
  have hlt := R.lt
  generalize hgr : w.heap.size = r at R hlt ⊢
  obtain ⟨av, cv, rfl, -⟩ := HO.nums
  generalize (rdD s).length = nd at HO
  go_upto_region 2 with fail
  generalize hid : rdId s = id
  generalize hrm : rdRm s = rm
  generalize hln : rdLn s = ln
  have HID := Lib.hid hid
  have HRM := Lib.hid hrm
  have HLN := Lib.hid hln
  clear hid hrm hln
  have ka : Below w1.heap.size w1 (w1.alloc (.cells #[.int .i64 id, .bool rm, .int .i64 ln, .slice av nd cv] 26)) := (Below.refl _ _).alloc (Nat.le_refl _) _
  have B := Bx.made w1 (.int .i64 id) (.bool rm) (.int .i64 ln) (.slice av nd cv)
  replace R : Bx r _ _ _ _ _ := (ka.block r hlt).trans R
  replace HO := HO.kept (grown_of_below ka) (Classical.em _)
  replace hg := hg.below ka
  have hrf : r ≠ w1.heap.size := by omega
  have hfl := b1.size
  replace b1 := b1.trans (ka.mono b1.size)
  clear ka hlt
  generalize w1.alloc (.cells #[.int .i64 id, .bool rm, .int .i64 ln, .slice av nd cv] 26) = W at *
  generalize w1.heap.size = f at *
  clear w1
  go_upto_region 3 with fail
  have kb : Below W.heap.size W (W.alloc (.cells #[.int .i64 0] 226)) := (Below.refl _ _).alloc (Nat.le_refl _) _
  have ht0 : (W.alloc (.cells #[.int .i64 0] 226)).cell? ⟨W.heap.size, 0, none⟩ = some (.int .i64 0) := by rw [World.cell?_alloc_at _ _ _ _ rfl]; rfl
  have hf0 : (W.alloc (.cells #[.int .i64 0] 226)).frozen? ⟨W.heap.size, 0, none⟩ = false := by simp
  have hrt : r ≠ W.heap.size := by have := R.lt; omega
  have hft : f ≠ W.heap.size := by have := B.lt; omega
  replace R : Bx r _ _ _ _ _ := (kb.block r R.lt).trans R
  replace B : Bx f _ _ _ _ _ := (kb.block f B.lt).trans B
  replace HO := HO.kept (grown_of_below kb) (Classical.em _)
  replace hg := hg.below kb
  have htl := b1.size
  replace b1 := b1.trans (kb.mono b1.size)
  clear kb
  generalize W.alloc (.cells #[.int .i64 0] 226) = W1 at *
  generalize W.heap.size = t at *
  clear W
  rcases h with ⟨HC, rfl⟩ | ⟨HC, rfl⟩
  · have HCC := Lib.hid HC
    clear HC
    go_wp2_with fail
    refine (as_nil _ _).mono ?_
    rintro e w2 ⟨rfl, rfl⟩
    have x0 := B.c0
    have x1 := B.c1
    have x2 := B.c2
    have x3 := B.c3
    have c0 := R.c0
    have c1 := R.c1
    have c2 := R.c2
    have c3 := R.c3
    have q0 := R.free 0
    have q1 := R.free 1
    have q2 := R.free 2
    have q3 := R.free 3
    go_wp2_with fail
    have HB2 := R.set (z0 := .int .i64 id) (z1 := .bool rm) (z2 := .int .i64 ln) (z3 := .slice av nd cv)
    have HL2 := Below.set4 b1 (Nat.le_of_eq hgr) (.int .i64 id) (.bool rm) (.int .i64 ln) (.slice av nd cv)
    have HO2 := HO.kept (grown_trans (grown_trans (grown_trans (grown_set W1 r 0 (.int .i64 id)) (grown_set _ r 1 (.bool rm))) (grown_set _ r 2 (.int .i64 ln))) (grown_set _ r 3 (.slice av nd cv))) (.inr (HO.ne_box R))
    generalize (((W1.setCell ⟨r, 0, none⟩ (.int .i64 id)).setCell ⟨r, 1, none⟩ (.bool rm)).setCell ⟨r, 2, none⟩ (.int .i64 ln)).setCell ⟨r, 3, none⟩ (.slice av nd cv) = Wx at HB2 HL2 HO2 ⊢
    have z0 := HB2.c0
    have z1 := HB2.c1
    have z2 := HB2.c2
    have z3 := HB2.c3
    refine bodyPost_ret (v := .tuple #[.agg #[.int .i64 id, .bool rm, .int .i64 ln, .slice av nd cv], .int .i64 0]) (by simp [results, Tryz.results240, go_sem, z0, z1, z2, z3]) rfl ⟨_, ?_, HO2, HL2⟩
    rw [HID.out, HRM.out, HLN.out, HCC.out]
  · have HCC := Lib.hid HC
    have HZ := rd_not HC
    generalize hk : rdCode s = k
    have HK := Lib.hid hk
    clear HC hk
    go_wp2_with fail
    refine (as_hit k ⟨t, 0, none⟩ (.int .i64 0) _ hg ht0 hf0).mono ?_
    rintro e w2 ⟨rfl, W2, k2, rfl⟩
    have ht2 : W2.cell? ⟨t, 0, none⟩ = some (.int .i64 0) := (k2.cell (World.block_lt_of_cell? W1 _ ht0)).trans ht0
    replace R : Bx r _ _ _ _ (W2.setCell ⟨t, 0, none⟩ (.int .i64 k)) := (Below.heap_setCell W2 ⟨t, 0, none⟩ _ r hrt).trans ((k2.block r R.lt).trans R)
    have ht3 : (W2.setCell ⟨t, 0, none⟩ (.int .i64 k)).cell? ⟨t, 0, none⟩ = some (.int .i64 k) := World.cell?_setCell_same W2 _ _ ht2
    replace b1 := (b1.trans (k2.mono b1.size)).setCell (p := ⟨t, 0, none⟩) htl (.int .i64 k)
    clear HO B hg ht0 hf0 ht2 k2
    generalize W2.setCell ⟨t, 0, none⟩ (.int .i64 k) = W3 at *
    have c0 := R.c0
    have c1 := R.c1
    have c2 := R.c2
    have c3 := R.c3
    have q0 := R.free 0
    have q1 := R.free 1
    have q2 := R.free 2
    have q3 := R.free 3
    go_wp2_with fail
    go_region
    all_goals
      go_wp2_with fail
      have HB2 : Bx r (.int .i64 0) (.bool false) (.int .i64 0) (.slice none 0 0) ((((W3.setCell ⟨r, 0, none⟩ (.int .i64 0)).setCell ⟨r, 1, none⟩ (.bool false)).setCell ⟨r, 2, none⟩ (.int .i64 0)).setCell ⟨r, 3, none⟩ (.slice none 0 0)).drew := R.set
      have HL2 := (Below.set4 b1 (Nat.le_of_eq hgr) (.int .i64 0) (.bool false) (.int .i64 0) (.slice none 0 0)).drew
      generalize ((((W3.setCell ⟨r, 0, none⟩ (.int .i64 0)).setCell ⟨r, 1, none⟩ (.bool false)).setCell ⟨r, 2, none⟩ (.int .i64 0)).setCell ⟨r, 3, none⟩ (.slice none 0 0)).drew = Wx at HB2 HL2 ⊢
      have z0 := HB2.c0
      have z1 := HB2.c1
      have z2 := HB2.c2
      have z3 := HB2.c3
      refine bodyPost_ret (v := .tuple #[.agg #[.int .i64 0, .bool false, .int .i64 0, .slice none 0 0], .int .i64 k]) (by simp [results, Tryz.results240, go_sem, z0, z1, z2, z3]) rfl ⟨.slice none 0 0, ?_, ?_, HL2⟩
      · rw [HZ.1, HZ.2.1, HZ.2.2.1, HK.out]
      · rw [HZ.2.2.2]; exact OwnI.nil _ _
end Go.Proofs.YtngcekegngmedaaGreatDoor
