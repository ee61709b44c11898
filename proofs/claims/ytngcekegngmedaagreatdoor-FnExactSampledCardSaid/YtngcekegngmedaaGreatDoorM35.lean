/- Contracts of the program's NodeOk, and of what it asks. -/
import Derived.Test.YtngcekegngmedaaGreatDoorM32
import Derived.Test.YtngcekegngmedaaGreatDoorM3
import Derived.Test.YtngcekegngmedaaGreatDoorM27
import Derived.Test.YtngcekegngmedaaGreatDoorM15
import Derived.Test.YtngcekegngmedaaGreatDoorM11
import Derived.Test.YtngcekegngmedaaGreatDoorM1

set_option linter.unusedVariables false
set_option linter.unusedSimpArgs false
set_option maxRecDepth 20000
namespace Go.Proofs.YtngcekegngmedaaGreatDoor
open Go.RowKit

/-- impl.within. -/
theorem implWithin (x lo hi : Int) (w : World) :
    Calls Tryz.prog 77 #[.int .i64 x, .int .i64 lo, .int .i64 hi] w fun e w' => e = .returned (.bool (rng x lo hi)) ∧ w = w' := by
  go_enter Tryz.func77, Tryz.ntmps77
  go_wp2
  all_goals (go_ret; exact ⟨ret_bool (by simp only [rng]; first | (simp_all; done) | (simp_all; omega)), rfl⟩)
set_option maxHeartbeats 4000000 in
/-- impl.numbersOk. -/
theorem implNumbers (n : Nd) (p : NdP) (w : World) :
    Calls Tryz.prog 89 #[ndV n p] w fun e w' => e = .returned (.bool (numB n)) ∧ Below w.heap.size w w' := by
  have X := Nx.made n p (Below.refl w.heap.size w)
  unfold ndC at X
  go_enter Tryz.func89, Tryz.ntmps89
  go_upto_region 1 with fail
  generalize w.alloc _ = W at X ⊢
  generalize w.heap.size = g at X ⊢
  obtain ⟨c0, c1, c2, c3, c4, c5, c6, c7, c8, c9, c10, c11, c12, c13, c14, c15, c16, c17⟩ := X.cells
  have hb := X.bel
  have HV : Hid (numB n = (rng n.ph 0 7 && (rng n.run 0 11 && (rng n.last 0 1 && (rng n.pos 0 9 && (rng n.left 0 128 && cOk n.cs n.cg)))))) := Lib.hid rfl
  clear X
  go_wp2_with fail
  refine (implWithin _ _ _ _).mono ?_
  rintro e w' ⟨rfl, rfl⟩
  generalize rng n.ph 0 7 = b0 at *
  cases b0
  · go_wp2_with fail
    go_ret
    exact ⟨by rw [HV.out]; rfl, hb⟩
  go_wp2_with fail
  refine (implWithin _ _ _ _).mono ?_
  rintro e w' ⟨rfl, rfl⟩
  generalize rng n.run 0 11 = b1 at *
  cases b1
  · go_wp2_with fail
    go_ret
    exact ⟨by rw [HV.out]; rfl, hb⟩
  go_wp2_with fail
  refine (implWithin _ _ _ _).mono ?_
  rintro e w' ⟨rfl, rfl⟩
  generalize rng n.last 0 1 = b2 at *
  cases b2
  · go_wp2_with fail
    go_ret
    exact ⟨by rw [HV.out]; rfl, hb⟩
  go_wp2_with fail
  refine (implWithin _ _ _ _).mono ?_
  rintro e w' ⟨rfl, rfl⟩
  generalize rng n.pos 0 9 = b3 at *
  cases b3
  · go_wp2_with fail
    go_ret
    exact ⟨by rw [HV.out]; rfl, hb⟩
  go_wp2_with fail
  refine (implWithin _ _ _ _).mono ?_
  rintro e w' ⟨rfl, rfl⟩
  generalize rng n.left 0 128 = b4 at *
  cases b4
  · go_wp2_with fail
    go_ret
    exact ⟨by rw [HV.out]; rfl, hb⟩
  go_wp2_with fail
  refine (implCountOkB _ _ _).mono ?_
  rintro e w' ⟨rfl, b⟩
  go_wp2_with fail
  go_ret
  exact ⟨by rw [HV.out]; rfl, Below.then2 hb b⟩
/-- impl.fifoOk. -/
theorem implFifoOk (a : Option Addr) (L : List Frm) (c : Nat) (w : World) (hd : Frs a L w) :
    Calls Tryz.prog 170 #[.slice a L.length c] w fun e w' => e = .returned (.bool (fifoB L)) ∧ Below w.heap.size w w' := by
  have hm := hd.1
  unfold maxLen at hm
  go_enter Tryz.func170, Tryz.ntmps170
  by_cases h32 : 32 < L.length
  · have HV : Hid (fifoB L = false) := Lib.hid (by unfold fifoB; rw [decide_eq_false (by omega)]; rfl)
    go_wp2_with fail
    go_ret
    exact ⟨by rw [HV.out]; rfl, Below.refl _ _⟩
  have HU : Hid (fifoB L = L.all frB) := Lib.hid (by unfold fifoB; rw [decide_eq_true (by omega)]; rfl)
  go_wp2_with fail
  go_loopw [10] (fun i wr => ∃ k : Nat, k ≤ L.length ∧ i = .int .i64 k ∧ Hid (∀ j, j < k → frB (nthF L j) = true) ∧ Below w.heap.size w wr) (fun i _ => L.length - (intOf i).toNat)
  case atStart => exact ⟨0, Nat.zero_le _, rfl, Lib.hid (fun j hj => absurd hj (by omega)), Below.refl _ _⟩
  case round =>
    obtain ⟨k, hk, rfl, hr, bw⟩ := hrel
    by_cases hlt : k < L.length
    · obtain ⟨g, o, ad, ca, rfl, ⟨c0, c1, c2, c3⟩, hn⟩ := (hd.below bw).2 k hlt
      have hN := Lib.hid (fun h => allF_no (L := L) hlt h)
      have hY := Lib.hid (fun h : frB (nthF L k) = true => fun j (hj : j < k + 1) => show frB (nthF L j) = true by
        by_cases e : j = k
        · rw [e]; exact h
        · exact hr.out j (by omega))
      have hfk : frB (nthF L k) = frOk (nthF L k).id (nthF L k).rm (nthF L k).ln (nthF L k).D := rfl
      generalize hq : frB (nthF L k) = r at *
      clear hq
      generalize nthF L k = f at *
      obtain ⟨id, rm, ln, D⟩ := f
      simp only at c0 c1 c2 c3 hn hfk
      replace hfk := Lib.hid hfk
      go_upto_region 6 with fail
      have kb : Below wr.heap.size wr (wr.alloc (.cells #[.int .i64 id, .bool rm, .int .i64 ln, .slice ad D.length ca] 26)) := (Below.refl _ _).alloc (Nat.le_refl _) _
      have X := Four.made (.int .i64 id) (.bool rm) (.int .i64 ln) (.slice ad D.length ca) 26 (Below.refl wr.heap.size wr)
      replace hn := hn.below kb
      replace bw := Below.then2 bw kb
      clear kb c0 c1 c2 c3
      generalize wr.alloc (.cells #[.int .i64 id, .bool rm, .int .i64 ln, .slice ad D.length ca] 26) = W1 at *
      generalize wr.heap.size = gb at *
      obtain ⟨⟨x0, x1, x2, x3⟩, -⟩ := X
      go_wp2_with fail
      refine (implFrameOk _ _ _ _ _ _ _ hn).mono ?_
      rintro e w2 ⟨he, b2⟩
      rw [← hfk.out] at he
      subst he
      replace bw := Below.then2 bw b2
      clear b2 x0 x1 x2 x3 hn hfk
      cases r
      · have HV := Lib.hid (hN.out rfl)
        go_wp2_with fail
        go_ret
        exact ⟨by rw [HU.out, HV.out]; rfl, bw⟩
      · go_wp2_with fail
        go_roundw
        case rel => exact ⟨k + 1, by omega, by go_num, Lib.hid (hY.out trivial), bw⟩
        case measure => simp [intOf]; omega
    · obtain rfl : k = L.length := by omega
      have HV := Lib.hid (allF_yes hr.out)
      clear hr
      go_wp2_with fail
      go_ret
      exact ⟨by rw [HU.out, HV.out]; rfl, bw⟩
/-- impl.isWhole. -/
theorem implWhole (s : ByteArray) (w : World) (hs : s.size ≤ maxLen) :
    Calls Tryz.prog 172 #[.string s] w fun e w' => e = .returned (.bool (wholeB s)) ∧ Below w.heap.size w w' := by
  have hs' := hs
  unfold maxLen at hs'
  have hb := needV_bd s
  have HV : Hid (wholeB s = (decide (0 ≤ needV s) && decide (needV s ≤ s.size))) := Lib.hid rfl
  go_enter Tryz.func172, Tryz.ntmps172
  go_wp2_with fail
  refine (implNeed _ _ hs).mono ?_
  rintro e w1 ⟨rfl, b⟩
  generalize needV s = x at *
  by_cases h0 : 0 ≤ x
  · go_wp2_with fail
    go_ret
    exact ⟨by rw [HV.out, decide_eq_true h0]; rfl, b⟩
  · have h1 : decide (0 ≤ x) = false := decide_eq_false h0
    go_wp2_with fail
    go_ret
    exact ⟨by rw [HV.out, h1]; rfl, b⟩
theorem litesPrefix (s t : ByteArray) (w : World) (hs : s.size ≤ maxLen) (ht : t.size ≤ maxLen) :
    Calls Tryz.prog 221 #[.string s, .string t] w fun e w' => e = .returned (.bool (prefB s t)) ∧ w = w' := by
  unfold maxLen at hs ht
  have HV := Lib.hid (prefB_bytes s t)
  go_enter Tryz.func221, Tryz.ntmps221
  by_cases h : t.size ≤ s.size
  · go_wp2_with fail
    go_ret
    exact ⟨by rw [HV.out, decide_eq_true h]; rfl, rfl⟩
  · go_wp2_with fail
    go_ret
    exact ⟨by rw [HV.out, decide_eq_false h]; rfl, rfl⟩
theorem hasPrefix (s t : ByteArray) (w : World) (hs : s.size ≤ maxLen) (ht : t.size ≤ maxLen) :
    Calls Tryz.prog 173 #[.string s, .string t] w fun e w' => e = .returned (.bool (prefB s t)) ∧ w = w' := by
  go_enter Tryz.func173, Tryz.ntmps173
  go_wp2_with fail
  refine (litesPrefix _ _ _ hs ht).mono ?_
  rintro e w1 ⟨rfl, rfl⟩
  go_wp2_with fail
  go_ret
  exact ⟨rfl, rfl⟩
/-- What the box's test reads: the frame's own block, one element of the box, its data and the frame's. -/
structure BH (w0 : World) (gb : Nat) (f : Frm) (ad : Option Addr) (cd : Nat) (g o : Nat) (ae : Option Addr) (ce : Nat) (x : Frm) (u : World) : Prop where
  box : Four gb (.int .i64 f.id) (.bool f.rm) (.int .i64 f.ln) (.slice ad f.D.length cd) w0 u
  el : FrC g o ae ce x u
  nums : Nums ad f.D u
theorem BH.below {w0 : World} {gb : Nat} {f : Frm} {ad : Option Addr} {cd : Nat} {g o : Nat} {ae : Option Addr} {ce : Nat} {x : Frm} {u u' : World} (h : BH w0 gb f ad cd g o ae ce x u) (b : Below u.heap.size u u') : BH w0 gb f ad cd g o ae ce x u' := ⟨h.box.below b, h.el.below b, h.nums.below b⟩
theorem BH.drew {w0 : World} {gb : Nat} {f : Frm} {ad : Option Addr} {cd : Nat} {g o : Nat} {ae : Option Addr} {ce : Nat} {x : Frm} {u : World} (h : BH w0 gb f ad cd g o ae ce x u) : BH w0 gb f ad cd g o ae ce x u.drew := ⟨h.box.drew, h.el.drew, h.nums.drew⟩

set_option maxHeartbeats 4000000 in
/-- impl.boxHas. -/
theorem implBoxHas (a : Option Addr) (L : List Frm) (c : Nat) (f : Frm) (ad : Option Addr) (cd : Nat) (w : World) (hd : Frs a L w) (hn : Nums ad f.D w) (h16 : L.length ≤ 16) (hr : Rise L L.length) :
    Calls Tryz.prog 175 #[.slice a L.length c, frV f.id f.rm f.ln ad f.D.length cd] w fun e w' => e = .returned (.bool (hasB L f)) ∧ Below w.heap.size w w' := by
  have X := Four.made (.int .i64 f.id) (.bool f.rm) (.int .i64 f.ln) (.slice ad f.D.length cd) 26 (Below.refl w.heap.size w)
  have HP := Lib.hid (fun p => hasB_at (L := L) (f := f) (p := p) hr)
  have hrk : Hid (rkF f = rankV f.id f.rm f.ln f.D) := Lib.hid rfl
  go_enter Tryz.func175, Tryz.ntmps175
  go_upto_region 1 with fail
  generalize w.alloc (.cells #[.int .i64 f.id, .bool f.rm, .int .i64 f.ln, .slice ad f.D.length cd] 26) = W at X ⊢
  generalize w.heap.size = gb at X ⊢
  replace hd := hd.below X.2
  replace hn := hn.below X.2
  have Xk := X
  obtain ⟨⟨x0, x1, x2, x3⟩, -⟩ := Xk
  go_wp2_with fail
  refine (implRankOf _ _ _ _ _ _ _ hn).mono ?_
  rintro e w1 ⟨he, b⟩
  rw [← hrk.out] at he
  subst he
  replace X := X.below b
  replace hd := hd.below b
  replace hn := hn.below b
  clear b x0 x1 x2 x3
  go_wp2_with fail
  refine (placeIn a L c _ _ hd h16 hr).mono ?_
  rintro e w2 ⟨p, rfl, hP, b⟩
  replace X := X.below b
  replace hd := hd.below b
  replace hn := hn.below b
  clear b
  have HV := Lib.hid (HP.out p hP)
  have hml : metB L (rkF f) p = true → p < L.length := fun h => (metB_yes.1 h).1
  generalize metB L (rkF f) p = m at *
  clear HP hP hrk
  go_upto_region 2 with fail
  cases m
  · refine region_class (fun u => Four gb (.int .i64 f.id) (.bool f.rm) (.int .i64 f.ln) (.slice ad f.D.length cd) w u) (by kernel_rfl) (by kernel_rfl) X.drew ?_
    repeat first
      | go_big_quiet_skip
      | (go_big_quiet_want
         apply Exists.intro
         refine ⟨fun u hu => ?_, ?_⟩
         · apply quietAt_val
           obtain ⟨⟨x0, x1, x2, x3⟩, _⟩ := hu
           go_simp
           rfl
         simp only [Act.put, List.setIfInBounds_toArray, List.set_cons_zero, List.set_cons_succ]
         go_big_quiet_on)
    refine wpQuiet_nil ?_
    intro W2 h2
    go_wp2_with fail
    go_ret
    exact ⟨by rw [HV.out]; rfl, h2.2⟩
  · have hpl := hml rfl
    obtain ⟨g, o, ae, ce, rfl, hx⟩ := hd.2 p hpl
    generalize nthF L p = x at *
    refine region_class (BH w gb f ad cd g (o + p * 4) ae ce x) (by kernel_rfl) (by kernel_rfl) (BH.drew ⟨X, hx, hn⟩) ?_
    repeat first
      | go_big_quiet_skip
      | (go_big_quiet_want
         apply Exists.intro
         refine ⟨fun u hu => ?_, ?_⟩
         · apply quietAt_val
           obtain ⟨⟨⟨x0, x1, x2, x3⟩, _⟩, ⟨⟨y0, y1, y2, y3⟩, _⟩, _⟩ := hu
           go_simp
           rfl
         simp only [Act.put, List.setIfInBounds_toArray, List.set_cons_zero, List.set_cons_succ]
         go_big_quiet_on)
      | (go_big_quiet_want
         apply Exists.intro
         refine ⟨fun u hu => ?_, ?_⟩
         · apply quietAt_enter 17 #[frV x.id x.rm x.ln ae x.D.length ce, frV f.id f.rm f.ln ad f.D.length cd]
           · go_simp
           · refine (implSame _ _ _ ae _ ce _ _ _ ad _ cd u hu.el.2 hu.nums).mono ?_
             rintro e w2 ⟨rfl, b2⟩
             exact ⟨rfl, hu.below b2⟩
         simp only [Act.put, List.setIfInBounds_toArray, List.set_cons_zero, List.set_cons_succ]
         go_big_quiet_on)
    refine wpQuiet_nil ?_
    intro W2 h2
    go_wp2_with fail
    go_ret
    exact ⟨by rw [HV.out]; rfl, h2.box.2⟩
set_option maxHeartbeats 4000000 in
/-- impl.bodyOk. -/
theorem implBodyIs (n : Nd) (p : NdP) (w : World) (hm : NdM n p w) (h16 : n.box.length ≤ 16) (hr : Rise n.box n.box.length) :
    Calls Tryz.prog 92 #[ndV n p] w fun e w' => e = .returned (.bool (bodyB n)) ∧ Below w.heap.size w w' := by
  obtain ⟨ph, tx, mild, bad, fr, got, run, last, pos, left, cs, cg, box, fifo, flt⟩ := n
  obtain ⟨ad, cd, ab, cb, af, cf, al, cl⟩ := p
  have X := NC.made hm
  dsimp only [ndC] at X h16 hr
  have hE : got.toList.isEmpty = decide (got.size = 0) := by
    rw [ByteArray.toList_eq]
    have h1 : got.size = got.data.toList.length := by simp
    rw [h1]
    cases got.data.toList <;> simp
  have HV : Hid (bodyB ⟨ph, tx, mild, bad, fr, got, run, last, pos, left, cs, cg, box, fifo, flt⟩ = (!(decide (got.size = 0) || (!(rng run 1 5) || (decide (run ≠ 5) && wholeB got))) && (!tx || (prefB (fullF fr) got && hasB box fr)))) := Lib.hid rfl
  have hgs := hm.size
  dsimp only at hgs
  have hfs : (fullV fr.id fr.rm fr.ln fr.D).size ≤ maxLen := Nat.le_trans (full_len _ _ _ _) (by unfold maxLen; decide)
  go_enter Tryz.func92, Tryz.ntmps92
  go_upto_region 1 with fail
  generalize w.alloc _ = W at X ⊢
  generalize w.heap.size = g at X
  have hb := X.nx.bel
  obtain ⟨c0, c1, c2, c3, c4, c5, c6, c7, c8, c9, c10, c11, c12, c13, c14, c15, c16, c17⟩ := X.nx.cells
  dsimp only at c0 c1 c2 c3 c4 c5 c6 c7 c8 c9 c10 c11 c12 c13 c14 c15 c16 c17
  generalize decide (got.size = 0) = z at *
  cases z
  · go_wp2_with fail
    refine (implWithin _ _ _ _).mono ?_
    rintro e w' ⟨rfl, rfl⟩
    generalize rng run 1 5 = b1 at *
    cases b1
    · go_wp2_with fail
      go_ret
      exact ⟨by rw [HV.out]; rfl, hb⟩
    cases h5 : decide (run ≠ 5)
    · have h5' : (run != 5) = false := by simpa using h5
      rw [h5] at HV
      clear h5
      go_wp2_with fail
      go_upto_region 3 with fail
      cases tx
      · refine region_class (NC g ⟨ph, false, mild, bad, fr, got, run, last, pos, left, cs, cg, box, fifo, flt⟩ ⟨ad, cd, ab, cb, af, cf, al, cl⟩ w) (by kernel_rfl) (by kernel_rfl) X.drew ?_
        repeat first
          | go_big_quiet_skip
          | (go_big_quiet_want
             apply Exists.intro
             refine ⟨fun u hu => ?_, ?_⟩
             · apply quietAt_val
               obtain ⟨c0, c1, c2, c3, c4, c5, c6, c7, c8, c9, c10, c11, c12, c13, c14, c15, c16, c17⟩ := hu.nx.cells
               go_simp
               rfl
             simp only [Act.put, List.setIfInBounds_toArray, List.set_cons_zero, List.set_cons_succ]
             go_big_quiet_on)
        refine wpQuiet_nil ?_
        intro W2 h2
        go_wp2_with fail
        go_ret
        exact ⟨by rw [HV.out]; rfl, h2.nx.bel⟩
      · cases hpf : prefB (fullV fr.id fr.rm fr.ln fr.D) got
        · refine region_class (NC g ⟨ph, true, mild, bad, fr, got, run, last, pos, left, cs, cg, box, fifo, flt⟩ ⟨ad, cd, ab, cb, af, cf, al, cl⟩ w) (by kernel_rfl) (by kernel_rfl) X.drew ?_
          repeat first
            | go_big_quiet_skip
            | (go_big_quiet_want
               apply Exists.intro
               refine ⟨fun u hu => ?_, ?_⟩
               · apply quietAt_val
                 obtain ⟨c0, c1, c2, c3, c4, c5, c6, c7, c8, c9, c10, c11, c12, c13, c14, c15, c16, c17⟩ := hu.nx.cells
                 go_simp
                 rfl
               simp only [Act.put, List.setIfInBounds_toArray, List.set_cons_zero, List.set_cons_succ]
               go_big_quiet_on)
            | (go_big_quiet_want
               apply Exists.intro
               refine ⟨fun u hu => ?_, ?_⟩
               · apply quietAt_enter 174 #[frV fr.id fr.rm fr.ln ad fr.D.length cd]
                 · go_simp
                 · refine (implChecked _ _ _ ad _ cd u hu.m.nums).mono ?_
                   rintro e w2 ⟨rfl, b2⟩
                   exact ⟨rfl, hu.below b2⟩
               simp only [Act.put, List.setIfInBounds_toArray, List.set_cons_zero, List.set_cons_succ]
               go_big_quiet_on)
            | (go_big_quiet_want
               apply Exists.intro
               refine ⟨fun u hu => ?_, ?_⟩
               · apply quietAt_enter 173 #[.string (fullV fr.id fr.rm fr.ln fr.D), .string got]
                 · go_simp
                 · refine (hasPrefix _ _ u hfs hgs).mono ?_
                   rintro e w2 ⟨he, rfl⟩
                   rw [hpf] at he
                   exact ⟨he, hu⟩
               simp only [Act.put, List.setIfInBounds_toArray, List.set_cons_zero, List.set_cons_succ]
               go_big_quiet_on)
          refine wpQuiet_nil ?_
          intro W2 h2
          go_wp2_with fail
          go_ret
          exact ⟨by rw [HV.out]; unfold fullF; rw [hpf]; rfl, h2.nx.bel⟩
        · refine region_class (NC g ⟨ph, true, mild, bad, fr, got, run, last, pos, left, cs, cg, box, fifo, flt⟩ ⟨ad, cd, ab, cb, af, cf, al, cl⟩ w) (by kernel_rfl) (by kernel_rfl) X.drew ?_
          repeat first
            | go_big_quiet_skip
            | (go_big_quiet_want
               apply Exists.intro
               refine ⟨fun u hu => ?_, ?_⟩
               · apply quietAt_val
                 obtain ⟨c0, c1, c2, c3, c4, c5, c6, c7, c8, c9, c10, c11, c12, c13, c14, c15, c16, c17⟩ := hu.nx.cells
                 go_simp
                 rfl
               simp only [Act.put, List.setIfInBounds_toArray, List.set_cons_zero, List.set_cons_succ]
               go_big_quiet_on)
            | (go_big_quiet_want
               apply Exists.intro
               refine ⟨fun u hu => ?_, ?_⟩
               · apply quietAt_enter 174 #[frV fr.id fr.rm fr.ln ad fr.D.length cd]
                 · go_simp
                 · refine (implChecked _ _ _ ad _ cd u hu.m.nums).mono ?_
                   rintro e w2 ⟨rfl, b2⟩
                   exact ⟨rfl, hu.below b2⟩
               simp only [Act.put, List.setIfInBounds_toArray, List.set_cons_zero, List.set_cons_succ]
               go_big_quiet_on)
            | (go_big_quiet_want
               apply Exists.intro
               refine ⟨fun u hu => ?_, ?_⟩
               · apply quietAt_enter 173 #[.string (fullV fr.id fr.rm fr.ln fr.D), .string got]
                 · go_simp
                 · refine (hasPrefix _ _ u hfs hgs).mono ?_
                   rintro e w2 ⟨he, rfl⟩
                   rw [hpf] at he
                   exact ⟨he, hu⟩
               simp only [Act.put, List.setIfInBounds_toArray, List.set_cons_zero, List.set_cons_succ]
               go_big_quiet_on)
            | (go_big_quiet_want
               apply Exists.intro
               refine ⟨fun u hu => ?_, ?_⟩
               · apply quietAt_enter 175 #[.slice ab box.length cb, frV fr.id fr.rm fr.ln ad fr.D.length cd]
                 · go_simp
                 · refine (implBoxHas ab box cb fr ad cd u hu.m.box hu.m.nums h16 hr).mono ?_
                   rintro e w2 ⟨rfl, b2⟩
                   exact ⟨rfl, hu.below b2⟩
               simp only [Act.put, List.setIfInBounds_toArray, List.set_cons_zero, List.set_cons_succ]
               go_big_quiet_on)
          refine wpQuiet_nil ?_
          intro W2 h2
          go_wp2_with fail
          go_ret
          exact ⟨by rw [HV.out]; unfold fullF; rw [hpf]; rfl, h2.nx.bel⟩
    · have h5' : (run != 5) = true := by simpa using h5
      rw [h5] at HV
      clear h5
      go_wp2_with fail
      refine (implWhole _ _ hgs).mono ?_
      rintro e w' ⟨rfl, b⟩
      replace X := X.below b
      replace hb := X.nx.bel
      clear b c0 c1 c2 c3 c4 c5 c6 c7 c8 c9 c10 c11 c12 c13 c14 c15 c16 c17
      generalize wholeB got = b2 at *
      cases b2
      · go_wp2_with fail
        go_upto_region 3 with fail
        cases tx
        · refine region_class (NC g ⟨ph, false, mild, bad, fr, got, run, last, pos, left, cs, cg, box, fifo, flt⟩ ⟨ad, cd, ab, cb, af, cf, al, cl⟩ w) (by kernel_rfl) (by kernel_rfl) X.drew ?_
          repeat first
            | go_big_quiet_skip
            | (go_big_quiet_want
               apply Exists.intro
               refine ⟨fun u hu => ?_, ?_⟩
               · apply quietAt_val
                 obtain ⟨c0, c1, c2, c3, c4, c5, c6, c7, c8, c9, c10, c11, c12, c13, c14, c15, c16, c17⟩ := hu.nx.cells
                 go_simp
                 rfl
               simp only [Act.put, List.setIfInBounds_toArray, List.set_cons_zero, List.set_cons_succ]
               go_big_quiet_on)
          refine wpQuiet_nil ?_
          intro W2 h2
          go_wp2_with fail
          go_ret
          exact ⟨by rw [HV.out]; rfl, h2.nx.bel⟩
        · cases hpf : prefB (fullV fr.id fr.rm fr.ln fr.D) got
          · refine region_class (NC g ⟨ph, true, mild, bad, fr, got, run, last, pos, left, cs, cg, box, fifo, flt⟩ ⟨ad, cd, ab, cb, af, cf, al, cl⟩ w) (by kernel_rfl) (by kernel_rfl) X.drew ?_
            repeat first
              | go_big_quiet_skip
              | (go_big_quiet_want
                 apply Exists.intro
                 refine ⟨fun u hu => ?_, ?_⟩
                 · apply quietAt_val
                   obtain ⟨c0, c1, c2, c3, c4, c5, c6, c7, c8, c9, c10, c11, c12, c13, c14, c15, c16, c17⟩ := hu.nx.cells
                   go_simp
                   rfl
                 simp only [Act.put, List.setIfInBounds_toArray, List.set_cons_zero, List.set_cons_succ]
                 go_big_quiet_on)
              | (go_big_quiet_want
                 apply Exists.intro
                 refine ⟨fun u hu => ?_, ?_⟩
                 · apply quietAt_enter 174 #[frV fr.id fr.rm fr.ln ad fr.D.length cd]
                   · go_simp
                   · refine (implChecked _ _ _ ad _ cd u hu.m.nums).mono ?_
                     rintro e w2 ⟨rfl, b2⟩
                     exact ⟨rfl, hu.below b2⟩
                 simp only [Act.put, List.setIfInBounds_toArray, List.set_cons_zero, List.set_cons_succ]
                 go_big_quiet_on)
              | (go_big_quiet_want
                 apply Exists.intro
                 refine ⟨fun u hu => ?_, ?_⟩
                 · apply quietAt_enter 173 #[.string (fullV fr.id fr.rm fr.ln fr.D), .string got]
                   · go_simp
                   · refine (hasPrefix _ _ u hfs hgs).mono ?_
                     rintro e w2 ⟨he, rfl⟩
                     rw [hpf] at he
                     exact ⟨he, hu⟩
                 simp only [Act.put, List.setIfInBounds_toArray, List.set_cons_zero, List.set_cons_succ]
                 go_big_quiet_on)
            refine wpQuiet_nil ?_
            intro W2 h2
            go_wp2_with fail
            go_ret
            exact ⟨by rw [HV.out]; unfold fullF; rw [hpf]; rfl, h2.nx.bel⟩
          · refine region_class (NC g ⟨ph, true, mild, bad, fr, got, run, last, pos, left, cs, cg, box, fifo, flt⟩ ⟨ad, cd, ab, cb, af, cf, al, cl⟩ w) (by kernel_rfl) (by kernel_rfl) X.drew ?_
            repeat first
              | go_big_quiet_skip
              | (go_big_quiet_want
                 apply Exists.intro
                 refine ⟨fun u hu => ?_, ?_⟩
                 · apply quietAt_val
                   obtain ⟨c0, c1, c2, c3, c4, c5, c6, c7, c8, c9, c10, c11, c12, c13, c14, c15, c16, c17⟩ := hu.nx.cells
                   go_simp
                   rfl
                 simp only [Act.put, List.setIfInBounds_toArray, List.set_cons_zero, List.set_cons_succ]
                 go_big_quiet_on)
              | (go_big_quiet_want
                 apply Exists.intro
                 refine ⟨fun u hu => ?_, ?_⟩
                 · apply quietAt_enter 174 #[frV fr.id fr.rm fr.ln ad fr.D.length cd]
                   · go_simp
                   · refine (implChecked _ _ _ ad _ cd u hu.m.nums).mono ?_
                     rintro e w2 ⟨rfl, b2⟩
                     exact ⟨rfl, hu.below b2⟩
                 simp only [Act.put, List.setIfInBounds_toArray, List.set_cons_zero, List.set_cons_succ]
                 go_big_quiet_on)
              | (go_big_quiet_want
                 apply Exists.intro
                 refine ⟨fun u hu => ?_, ?_⟩
                 · apply quietAt_enter 173 #[.string (fullV fr.id fr.rm fr.ln fr.D), .string got]
                   · go_simp
                   · refine (hasPrefix _ _ u hfs hgs).mono ?_
                     rintro e w2 ⟨he, rfl⟩
                     rw [hpf] at he
                     exact ⟨he, hu⟩
                 simp only [Act.put, List.setIfInBounds_toArray, List.set_cons_zero, List.set_cons_succ]
                 go_big_quiet_on)
              | (go_big_quiet_want
                 apply Exists.intro
                 refine ⟨fun u hu => ?_, ?_⟩
                 · apply quietAt_enter 175 #[.slice ab box.length cb, frV fr.id fr.rm fr.ln ad fr.D.length cd]
                   · go_simp
                   · refine (implBoxHas ab box cb fr ad cd u hu.m.box hu.m.nums h16 hr).mono ?_
                     rintro e w2 ⟨rfl, b2⟩
                     exact ⟨rfl, hu.below b2⟩
                 simp only [Act.put, List.setIfInBounds_toArray, List.set_cons_zero, List.set_cons_succ]
                 go_big_quiet_on)
            refine wpQuiet_nil ?_
            intro W2 h2
            go_wp2_with fail
            go_ret
            exact ⟨by rw [HV.out]; unfold fullF; rw [hpf]; rfl, h2.nx.bel⟩
      · go_wp2_with fail
        go_ret
        exact ⟨by rw [HV.out]; rfl, hb⟩
  · go_wp2_with fail
    go_ret
    exact ⟨by rw [HV.out]; rfl, hb⟩

end Go.Proofs.YtngcekegngmedaaGreatDoor

/- Contracts of the program's NodeOk: it tells nodeB of any node. -/

set_option linter.unusedVariables false
set_option linter.unusedSimpArgs false
set_option maxRecDepth 20000
namespace Go.Proofs.YtngcekegngmedaaGreatDoor
open Go.RowKit

theorem listB_box {n : Nd} (h : listB n = true) : n.box.length ≤ 16 ∧ Rise n.box n.box.length := by
  simp only [listB, Bool.and_eq_true] at h
  exact boxB_iff.1 h.2.2.1

set_option maxHeartbeats 4000000 in
/-- impl.listsOk. -/
theorem implLists (n : Nd) (p : NdP) (w : World) (hm : NdM n p w) :
    Calls Tryz.prog 91 #[ndV n p] w fun e w' => e = .returned (.bool (listB n)) ∧ Below w.heap.size w w' := by
  obtain ⟨ph, tx, mild, bad, fr, got, run, last, pos, left, cs, cg, box, fifo, flt⟩ := n
  obtain ⟨ad, cd, ab, cb, af, cf, al, cl⟩ := p
  have X := NC.made hm
  dsimp only [ndC] at X
  have HV : Hid (listB ⟨ph, tx, mild, bad, fr, got, run, last, pos, left, cs, cg, box, fifo, flt⟩ = (decide (got.size ≤ 98) && (okB got && (boxB box && (fifoB fifo && (decide (flt.length ≤ 8) && flt.all flOk)))))) := Lib.hid rfl
  have hgs := hm.size
  have hgs' := hgs
  have hfl := hm.flt.1
  unfold maxLen at hgs' hfl
  dsimp only at hgs hgs' hfl
  go_enter Tryz.func91, Tryz.ntmps91
  go_upto_region 1 with fail
  generalize w.alloc _ = W at X ⊢
  generalize w.heap.size = g at X
  have hb := X.nx.bel
  obtain ⟨c0, c1, c2, c3, c4, c5, c6, c7, c8, c9, c10, c11, c12, c13, c14, c15, c16, c17⟩ := X.nx.cells
  dsimp only at c0 c1 c2 c3 c4 c5 c6 c7 c8 c9 c10 c11 c12 c13 c14 c15 c16 c17
  by_cases h98 : got.size ≤ 98
  case neg =>
    have hd98 : decide (got.size ≤ 98) = false := decide_eq_false h98
    go_wp2_with fail
    go_ret
    exact ⟨by rw [HV.out, hd98]; rfl, hb⟩
  replace HV := Lib.hid (HV.out.trans (by rw [decide_eq_true h98, Bool.true_and]))
  go_wp2_with fail
  refine (implOk _ _ hgs).mono ?_
  rintro e w1 ⟨rfl, b⟩
  replace X := X.below b
  replace hb := X.nx.bel
  clear b c0 c1 c2 c3 c4 c5 c6 c7 c8 c9 c10 c11 c12 c13 c14 c15 c16 c17
  obtain ⟨c0, c1, c2, c3, c4, c5, c6, c7, c8, c9, c10, c11, c12, c13, c14, c15, c16, c17⟩ := X.nx.cells
  dsimp only at c0 c1 c2 c3 c4 c5 c6 c7 c8 c9 c10 c11 c12 c13 c14 c15 c16 c17
  generalize okB got = b0 at *
  cases b0
  · go_wp2_with fail
    go_ret
    exact ⟨by rw [HV.out]; rfl, hb⟩
  go_wp2_with fail
  refine (implBoxOk _ _ _ _ X.m.box).mono ?_
  rintro e w2 ⟨rfl, b⟩
  replace X := X.below b
  replace hb := X.nx.bel
  clear b c0 c1 c2 c3 c4 c5 c6 c7 c8 c9 c10 c11 c12 c13 c14 c15 c16 c17
  obtain ⟨c0, c1, c2, c3, c4, c5, c6, c7, c8, c9, c10, c11, c12, c13, c14, c15, c16, c17⟩ := X.nx.cells
  dsimp only at c0 c1 c2 c3 c4 c5 c6 c7 c8 c9 c10 c11 c12 c13 c14 c15 c16 c17
  generalize boxB box = b1 at *
  cases b1
  · go_wp2_with fail
    go_ret
    exact ⟨by rw [HV.out]; rfl, hb⟩
  go_wp2_with fail
  refine (implFifoOk _ _ _ _ X.m.fifo).mono ?_
  rintro e w3 ⟨rfl, b⟩
  replace X := X.below b
  replace hb := X.nx.bel
  clear b c0 c1 c2 c3 c4 c5 c6 c7 c8 c9 c10 c11 c12 c13 c14 c15 c16 c17
  obtain ⟨c0, c1, c2, c3, c4, c5, c6, c7, c8, c9, c10, c11, c12, c13, c14, c15, c16, c17⟩ := X.nx.cells
  dsimp only at c0 c1 c2 c3 c4 c5 c6 c7 c8 c9 c10 c11 c12 c13 c14 c15 c16 c17
  generalize fifoB fifo = b2 at *
  cases b2
  · go_wp2_with fail
    go_ret
    exact ⟨by rw [HV.out]; rfl, hb⟩
  by_cases h8 : flt.length ≤ 8
  case neg =>
    have hd8 : decide (flt.length ≤ 8) = false := decide_eq_false h8
    go_wp2_with fail
    go_ret
    exact ⟨by rw [HV.out, hd8]; rfl, hb⟩
  replace HV := Lib.hid (HV.out.trans (by rw [decide_eq_true h8, Bool.true_and]))
  go_wp2_with fail
  refine (filtersOk _ _ _ _ X.m.flt).mono ?_
  rintro e w4 ⟨rfl, b⟩
  replace hb := Below.then2 hb b
  generalize flt.all flOk = b3 at *
  go_wp2_with fail
  go_ret
  exact ⟨by rw [HV.out]; rfl, hb⟩
set_option maxHeartbeats 4000000 in
/-- impl.NodeOk. -/
theorem implNodeOk (n : Nd) (p : NdP) (w : World) (hm : NdM n p w) :
    Calls Tryz.prog 18 #[ndV n p] w fun e w' => e = .returned (.bool (nodeB n)) ∧ Below w.heap.size w w' := by
  have X := NC.made hm
  have HV : Hid (nodeB n = (numB n && (frOk n.fr.id n.fr.rm n.fr.ln n.fr.D && (listB n && (decide (n.ph ≠ 1) || bodyB n))))) := Lib.hid rfl
  go_enter Tryz.func18, Tryz.ntmps18
  go_upto_region 1 with fail
  generalize w.alloc _ = W at X ⊢
  generalize w.heap.size = g at X
  have hb := X.nx.bel
  obtain ⟨c0, c1, c2, c3, c4, c5, c6, c7, c8, c9, c10, c11, c12, c13, c14, c15, c16, c17⟩ := X.nx.cells
  go_wp2_with (refine X.nx.take rfl rfl rfl ?_)
  refine (implNumbers n p _).mono ?_
  rintro e w1 ⟨rfl, b⟩
  replace X := X.below b
  replace hb := X.nx.bel
  clear b c0 c1 c2 c3 c4 c5 c6 c7 c8 c9 c10 c11 c12 c13 c14 c15 c16 c17
  obtain ⟨c0, c1, c2, c3, c4, c5, c6, c7, c8, c9, c10, c11, c12, c13, c14, c15, c16, c17⟩ := X.nx.cells
  generalize numB n = b0 at *
  cases b0
  · go_wp2_with fail
    go_ret
    exact ⟨by rw [HV.out]; rfl, hb⟩
  go_wp2_with fail
  refine (implFrameOk _ _ _ _ _ _ _ X.m.nums).mono ?_
  rintro e w2 ⟨rfl, b⟩
  replace X := X.below b
  replace hb := X.nx.bel
  clear b c0 c1 c2 c3 c4 c5 c6 c7 c8 c9 c10 c11 c12 c13 c14 c15 c16 c17
  obtain ⟨c0, c1, c2, c3, c4, c5, c6, c7, c8, c9, c10, c11, c12, c13, c14, c15, c16, c17⟩ := X.nx.cells
  generalize frOk n.fr.id n.fr.rm n.fr.ln n.fr.D = b1 at *
  cases b1
  · go_wp2_with fail
    go_ret
    exact ⟨by rw [HV.out]; rfl, hb⟩
  go_wp2_with (refine X.nx.take rfl rfl rfl ?_)
  refine (implLists n p _ X.m).mono ?_
  rintro e w3 ⟨rfl, b⟩
  replace X := X.below b
  replace hb := X.nx.bel
  clear b c0 c1 c2 c3 c4 c5 c6 c7 c8 c9 c10 c11 c12 c13 c14 c15 c16 c17
  obtain ⟨c0, c1, c2, c3, c4, c5, c6, c7, c8, c9, c10, c11, c12, c13, c14, c15, c16, c17⟩ := X.nx.cells
  generalize hl2 : listB n = b2 at *
  cases b2
  · go_wp2_with fail
    go_ret
    exact ⟨by rw [HV.out]; rfl, hb⟩
  have hbx := listB_box hl2
  clear hl2
  cases h1 : decide (n.ph ≠ 1)
  · have h1' : (n.ph != 1) = false := by simpa using h1
    rw [h1] at HV
    clear h1
    go_wp2_with (refine X.nx.take rfl rfl rfl ?_)
    refine (implBodyIs n p _ X.m hbx.1 hbx.2).mono ?_
    rintro e w4 ⟨rfl, b⟩
    replace hb := Below.then2 hb b
    generalize bodyB n = b3 at *
    go_wp2_with fail
    go_ret
    exact ⟨by rw [HV.out]; rfl, hb⟩
  · have h1' : (n.ph != 1) = true := by simpa using h1
    rw [h1] at HV
    clear h1
    go_wp2_with fail
    go_ret
    exact ⟨by rw [HV.out]; rfl, hb⟩
end Go.Proofs.YtngcekegngmedaaGreatDoor

/- Contracts of the program's NextBit and Drives. -/

set_option linter.unusedVariables false
set_option linter.unusedSimpArgs false
set_option maxRecDepth 20000
namespace Go.Proofs.YtngcekegngmedaaGreatDoor
open Go.RowKit

/-- impl.other. -/
theorem implOther (l : Int) (w : World) (h0 : 0 ≤ l) (h1 : l ≤ 1) : Calls Tryz.prog 178 #[.int .i64 l] w fun e w' => e = .returned (.int .i64 (1 - l)) ∧ w = w' := by
  have hw : IntKind.i64.wrap (1 - l) = 1 - l := IntWalk.i64_in _ (by omega)
  go_enter Tryz.func178, Tryz.ntmps178
  go_wp2_with fail
  go_ret
  exact ⟨rfl, rfl⟩
set_option maxHeartbeats 4000000 in
/-- impl.nextBit. -/
theorem implNext (n : Nd) (p : NdP) (w : World) (hm : NdM n p w) (hok : nodeB n = true) :
    Calls Tryz.prog 101 #[ndV n p] w fun e w' => e = .returned (.int .i64 (nextV n)) ∧ Below w.heap.size w w' := by
  have X := NC.made hm
  obtain ⟨-, -, ⟨hl0, hl1⟩, hfr, h98⟩ := nodeB_parts hok
  have hfl : (fullF n.fr).size ≤ 98 := full_len _ _ _ _
  have HB := Lib.hid (fun (k : Nat) (h : k < (fullF n.fr).size) => full_bit hfr h)
  have hff : Hid (fullF n.fr = fullV n.fr.id n.fr.rm n.fr.ln n.fr.D) := Lib.hid rfl
  have HV : Hid (nextV n = if n.run = 5 then 1 - n.last else if (fullF n.fr).size ≤ n.got.size then 1 else ((byteAt (fullF n.fr) n.got.size).toNat : Int) - 48) := Lib.hid rfl
  clear hok hfr
  go_enter Tryz.func101, Tryz.ntmps101
  go_upto_region 1 with fail
  generalize w.alloc _ = W at X ⊢
  generalize w.heap.size = g at X
  have hb := X.nx.bel
  obtain ⟨c0, c1, c2, c3, c4, c5, c6, c7, c8, c9, c10, c11, c12, c13, c14, c15, c16, c17⟩ := X.nx.cells
  by_cases h5 : n.run = 5
  · replace HV := Lib.hid (HV.out.trans (if_pos h5))
    have h5' : (n.run == 5) = true := beq_iff_eq.2 h5
    go_wp2_with fail
    refine (implOther n.last _ hl0 hl1).mono ?_
    rintro e w2 ⟨rfl, rfl⟩
    go_wp2_with fail
    go_ret
    exact ⟨by rw [HV.out]; rfl, hb⟩
  replace HV := Lib.hid (HV.out.trans (if_neg h5))
  have h5' : (n.run == 5) = false := beq_eq_false_iff_ne.2 h5
  clear h5
  go_wp2_with fail
  refine (implChecked _ _ _ _ _ _ _ X.m.nums).mono ?_
  rintro e w1 ⟨he, b⟩
  rw [← hff.out] at he
  subst he
  replace X := X.below b
  replace hb := X.nx.bel
  clear b hff c0 c1 c2 c3 c4 c5 c6 c7 c8 c9 c10 c11 c12 c13 c14 c15 c16 c17
  obtain ⟨c0, c1, c2, c3, c4, c5, c6, c7, c8, c9, c10, c11, c12, c13, c14, c15, c16, c17⟩ := X.nx.cells
  generalize fullF n.fr = u at *
  by_cases hlt : n.got.size < u.size
  · replace HV := Lib.hid (HV.out.trans (if_neg (by omega)))
    have hi := fun W : World => index_at u n.got.size n.got.size W hlt rfl
    simp only [byteAt_eq] at hi
    rcases HB.out _ hlt with e | e
    · rw [e] at hi HV
      have hi' : ∀ W : World, (Instr.index 9 (.string u) (.int .i64 n.got.size)).run Tryz.prog W = .ok (.int .u8 48) W := hi
      clear hi HB e
      go_wp2_with fail
      go_ret
      exact ⟨by rw [HV.out]; rfl, hb⟩
    · rw [e] at hi HV
      have hi' : ∀ W : World, (Instr.index 9 (.string u) (.int .i64 n.got.size)).run Tryz.prog W = .ok (.int .u8 49) W := hi
      clear hi HB e
      go_wp2_with fail
      go_ret
      exact ⟨by rw [HV.out]; rfl, hb⟩
  · replace HV := Lib.hid (HV.out.trans (if_pos (by omega)))
    clear HB
    go_wp2_with fail
    go_ret
    exact ⟨by rw [HV.out]; rfl, hb⟩
end Go.Proofs.YtngcekegngmedaaGreatDoor
