/- The walk of laws.FnRead. -/
import Derived.Test.YtcciabalbdnakaaDoorExRF
import Derived.Test.YtcciabalbdnakaaDoorDrawsR
import Derived.Test.YtcciabalbdnakaaDoorFrOne
import Derived.Test.YtcciabalbdnakaaDoorSame
set_option linter.unusedVariables false
set_option linter.unusedSimpArgs false
set_option maxRecDepth 20000
namespace Go.Proofs.YtcciabalbdnakaaDoor
open Go.RowKit

theorem back_of {s : ByteArray} {id ln cd : Int} {rm : Bool} {D : List Int} (hid : rdId s = id) (hrm : rdRm s = rm) (hln : rdLn s = ln) (hdd : rdD s = D) (hcc : rdCode s = cd) (h : cd = 0) : frOk id rm ln D = true ∧ withV (bodyV id rm ln D) = s ∧ withOk (bodyV id rm ln D) = true := by
  subst hid hrm hln hdd hcc; exact read_back h
theorem none_of {s : ByteArray} {id ln cd : Int} {rm : Bool} {D : List Int} (hid : rdId s = id) (hrm : rdRm s = rm) (hln : rdLn s = ln) (hdd : rdD s = D) (hcc : rdCode s = cd) (h : cd ≠ 0) : id = 0 ∧ D.length = 0 := by
  subst hid hrm hln hdd hcc
  have := rd_not h
  exact ⟨this.1, by rw [this.2.2.2]; rfl⟩

set_option maxHeartbeats 8000000 in
theorem walkFnRead (a : Option Addr) (len cap : Nat) (w : World) (cd : Code w.heap.size a len w) (hg : ErrHeld w) :
    Calls Tryd.prog 3 #[.slice a len cap] w fun e w' => e = .returned (.bool true) ∧ Below w.heap.size w w' := by
  go_enter Tryd.func3, Tryd.ntmps3
  have hl := cd.1
  by_cases hbig : 4096 < len
  · go_wp2_with (go_at_call 4; refine (bigAny _ _ _ _ hl).mono ?_; rintro e w' ⟨rfl, rfl⟩)
    go_ret
    exact ⟨rfl, Below.refl _ _⟩
  go_wp2_with fail
  refine (bigAny _ _ _ _ hl).mono ?_
  rintro e w' ⟨rfl, rfl⟩
  go_wp2_with fail
  refine (oneDrawBodyOf _ cd (Nat.le_refl _)).mono ?_
  rintro e w1 ⟨id, rm, ln, D, av, c, rfl, nD, hD, -, -, b0⟩
  replace cd := cd.below b0 (Nat.le_refl _)
  replace hg := hg.below b0
  clear hl
  go_upto_region 4 with fail
  have X3 := Bx.made w1 (.int .i64 id) (.bool rm) (.int .i64 ln) (.slice av D.length c)
  have k3 : Below w1.heap.size w1 (w1.alloc (.cells #[.int .i64 id, .bool rm, .int .i64 ln, .slice av D.length c] 26)) := (Below.refl _ _).alloc (Nat.le_refl _) _
  replace nD := nD.below k3
  replace hg := hg.below k3
  replace cd := cd.below k3 b0.size
  replace b0 := b0.trans (k3.mono b0.size)
  clear k3
  generalize w1.alloc (.cells #[.int .i64 id, .bool rm, .int .i64 ln, .slice av D.length c] 26) = W at *
  generalize w1.heap.size = g3 at *
  clear w1
  have x0 := X3.c0
  have x1 := X3.c1
  have x2 := X3.c2
  have x3 := X3.c3
  go_wp2_with fail
  refine (specFrameOk id rm ln av D c _ nD).mono ?_
  rintro e w2 ⟨rfl, k3⟩
  replace nD := nD.below k3
  replace hg := hg.below k3
  replace cd := cd.below k3 b0.size
  replace b0 := b0.trans (k3.mono b0.size)
  replace X3 := X3.below k3
  clear k3 x0 x1 x2 x3 W
  cases hok : frOk id rm ln D with
  | false =>
    clear hok X3 nD
    go_wp2_with fail
    refine (drawReadFrame _ cd b0.size).mono ?_
    rintro e w2 ⟨t, ht, rfl, g2, cd2⟩
    have k2 := below_new g2
    replace hg := hg.below k2
    replace b0 := b0.trans (k2.mono b0.size)
    have cd := cd2
    clear cd2 g2 k2
    have hs : t.size ≤ maxLen := by unfold maxLen; omega
    obtain ⟨id2, hid⟩ : ∃ id, rdId t = id := ⟨_, rfl⟩
    obtain ⟨rm2, hrm⟩ : ∃ rm, rdRm t = rm := ⟨_, rfl⟩
    obtain ⟨ln2, hln⟩ : ∃ ln, rdLn t = ln := ⟨_, rfl⟩
    obtain ⟨D2, hdd⟩ : ∃ D, rdD t = D := ⟨_, rfl⟩
    obtain ⟨ce, hcc⟩ : ∃ ce, rdCode t = ce := ⟨_, rfl⟩
    have HG := Lib.hid (fun w w' e => got_of (w := w) (w' := w') (e := e) hid hrm hln hdd hcc)
    have HR := Lib.hid (back_of hid hrm hln hdd hcc)
    have HZ := Lib.hid (none_of hid hrm hln hdd hcc)
    have hD2 : D2.length ≤ 100 := by rw [← hdd]; exact rdD_len t
    clear hid hrm hln hdd hcc ht
    go_wp2_with fail
    refine (implRead t _ hs hg).mono ?_
    intro e w3 h
    obtain ⟨a1, c1, rfl, O1, k3⟩ := HG.out _ _ _ h
    clear h
    replace cd := cd.below k3 b0.size
    replace b0 := b0.trans (k3.mono b0.size)
    clear k3 hg
    go_upto_region 11 with fail
    have X9 := Bx.made w3 (.int .i64 id2) (.bool rm2) (.int .i64 ln2) (.slice a1 D2.length c1)
    have k3 : Below w3.heap.size w3 (w3.alloc (.cells #[.int .i64 id2, .bool rm2, .int .i64 ln2, .slice a1 D2.length c1] 26)) := (Below.refl _ _).alloc (Nat.le_refl _) _
    replace O1 := O1.below k3
    replace cd := cd.below k3 b0.size
    replace b0 := b0.trans (k3.mono b0.size)
    clear k3
    generalize w3.alloc (.cells #[.int .i64 id2, .bool rm2, .int .i64 ln2, .slice a1 D2.length c1] 26) = W at *
    generalize w3.heap.size = g9 at *
    clear w3
    go_wp2_with fail
    refine (specRead t _ hs).mono ?_
    intro e w3 h
    obtain ⟨a2, c2, rfl, O2, k3⟩ := HG.out _ _ _ h
    clear h O2
    replace O1 := O1.below k3
    replace X9 := X9.below k3
    replace cd := cd.below k3 b0.size
    replace b0 := b0.trans (k3.mono b0.size)
    clear k3 W
    go_upto_region 12 with fail
    have k3 : Below w3.heap.size w3 (w3.alloc (.cells #[.int .i64 id2, .bool rm2, .int .i64 ln2, .slice a2 D2.length c2] 26)) := (Below.refl _ _).alloc (Nat.le_refl _) _
    replace O1 := O1.below k3
    replace X9 := X9.below k3
    replace cd := cd.below k3 b0.size
    replace b0 := b0.trans (k3.mono b0.size)
    clear k3
    generalize w3.alloc (.cells #[.int .i64 id2, .bool rm2, .int .i64 ln2, .slice a2 D2.length c2] 26) = W at *
    generalize w3.heap.size = g11 at *
    clear w3
    go_wp2_with fail
    refine (drawNeedOf _ cd b0.size).mono ?_
    rintro e w3 ⟨u, hu, rfl, g2, cd2⟩
    have k3 := below_new g2
    replace O1 := O1.below k3
    replace X9 := X9.below k3
    replace b0 := b0.trans (k3.mono b0.size)
    clear k3 g2 cd cd2 W
    have hus : u.size ≤ maxLen := by unfold maxLen; omega
    clear hu
    go_wp2_with fail
    refine (implNeed u _ hus).mono ?_
    rintro e w4 ⟨rfl, k3⟩
    replace O1 := O1.below k3
    replace X9 := X9.below k3
    replace b0 := b0.trans (k3.mono b0.size)
    clear k3
    go_wp2_with fail
    refine (specNeed u _ hus).mono ?_
    rintro e w5 ⟨rfl, rfl⟩
    generalize needV u = nu
    have n1 := O1.nums'
    clear O1
    have y0 := X9.c0
    have y1 := X9.c1
    have y2 := X9.c2
    have y3 := X9.c3
    by_cases hce : ce = 0
    · obtain ⟨r1, r2, r3⟩ := HR.out hce
      have hbl : (bodyV id2 rm2 ln2 D2).size ≤ maxLen := by rw [body_size r1]; unfold maxLen; omega
      have HF : Hid (withV (bodyV id2 rm2 ln2 D2) = t) := Lib.hid r2
      have HO : Hid (withOk (bodyV id2 rm2 ln2 D2) = true) := Lib.hid r3
      clear r1 r2 r3 HR HZ
      go_wp2_with fail
      refine (implBodyOf id2 rm2 ln2 a1 D2 c1 _ n1).mono ?_
      rintro e w6 ⟨rfl, k3⟩
      replace b0 := b0.trans (k3.mono b0.size)
      clear k3 n1 y0 y1 y2 y3 X9
      generalize bodyV id2 rm2 ln2 D2 = bb at *
      go_wp2_with fail
      refine (implWith bb _ hbl).mono ?_
      rintro e w7 ⟨rfl, k3⟩
      replace b0 := b0.trans (k3.mono b0.size)
      clear k3
      rw [HF.out, HO.out]
      have hte : (t.toList == t.toList) = true := beq_self_eq_true _
      go_wp2_with fail
      go_ret
      exact ⟨rfl, b0⟩
    · obtain ⟨r1, r2⟩ := HZ.out hce
      clear HR HZ
      go_wp2_with fail
      go_ret
      exact ⟨rfl, b0⟩
  | true =>
    obtain ⟨s1, s2, s3, s4, s5, s6⟩ := read_said hok
    have hbl : (bodyV id rm ln D).size ≤ maxLen := by have := frOk_len hok; rw [body_size hok]; unfold maxLen; omega
    have HW : Hid (withV (bodyV id rm ln D) = fullV id rm ln D) := Lib.hid rfl
    have hfl := full_len id rm ln D
    clear hok
    have x0 := X3.c0
    have x1 := X3.c1
    have x2 := X3.c2
    have x3 := X3.c3
    go_wp2_with fail
    refine (implBodyOf id rm ln av D c _ nD).mono ?_
    rintro e w3 ⟨rfl, k3⟩
    replace nD := nD.below k3
    replace hg := hg.below k3
    replace cd := cd.below k3 b0.size
    replace b0 := b0.trans (k3.mono b0.size)
    replace X3 := X3.below k3
    clear k3 x0 x1 x2 x3 w2
    go_wp2_with fail
    refine (implWith _ _ hbl).mono ?_
    rintro e w4 ⟨rfl, k3⟩
    replace nD := nD.below k3
    replace hg := hg.below k3
    replace cd := cd.below k3 b0.size
    replace b0 := b0.trans (k3.mono b0.size)
    replace X3 := X3.below k3
    clear k3 w3
    rw [HW.out]
    clear HW hbl
    generalize bodyV id rm ln D = bb
    generalize withOk bb = ob
    have HGs := Lib.hid (fun w w' e => got_of (w := w) (w' := w') (e := e) s2 s3 s4 s5 s1)
    have HN := Lib.hid s6
    clear s1 s2 s3 s4 s5 s6
    generalize fullV id rm ln D = s at *
    have hs : s.size ≤ maxLen := by unfold maxLen; omega
    go_wp2_with fail
    refine (implRead s _ hs hg).mono ?_
    intro e w5 h
    obtain ⟨a1, c1, rfl, O1, k3⟩ := HGs.out _ _ _ h
    clear h
    replace nD := nD.below k3
    replace hg := hg.below k3
    replace cd := cd.below k3 b0.size
    replace b0 := b0.trans (k3.mono b0.size)
    replace X3 := X3.below k3
    have n1 := O1.nums'
    clear k3 w4 HGs O1
    go_upto_region 7 with fail
    have X6 := Bx.made w5 (.int .i64 id) (.bool rm) (.int .i64 ln) (.slice a1 D.length c1)
    have k3 : Below w5.heap.size w5 (w5.alloc (.cells #[.int .i64 id, .bool rm, .int .i64 ln, .slice a1 D.length c1] 26)) := (Below.refl _ _).alloc (Nat.le_refl _) _
    replace nD := nD.below k3
    replace n1 := n1.below k3
    replace hg := hg.below k3
    replace cd := cd.below k3 b0.size
    replace b0 := b0.trans (k3.mono b0.size)
    replace X3 := X3.below k3
    clear k3
    generalize w5.alloc (.cells #[.int .i64 id, .bool rm, .int .i64 ln, .slice a1 D.length c1] 26) = W at *
    generalize w5.heap.size = g6 at *
    clear w5
    have x0 := X3.c0
    have x1 := X3.c1
    have x2 := X3.c2
    have x3 := X3.c3
    have y0 := X6.c0
    have y1 := X6.c1
    have y2 := X6.c2
    have y3 := X6.c3
    go_wp2_with fail
    refine (implSame id rm ln a1 D c1 id rm ln av D c _ n1 nD).mono ?_
    rintro e w6 ⟨rfl, k3⟩
    rw [sameFr_yes rfl rfl rfl rfl]
    replace hg := hg.below k3
    replace cd := cd.below k3 b0.size
    replace b0 := b0.trans (k3.mono b0.size)
    clear k3 x0 x1 x2 x3 y0 y1 y2 y3 X3 X6 nD n1 W
    go_wp2_with fail
    refine (implNeed s _ hs).mono ?_
    rintro e w7 ⟨rfl, k3⟩
    rw [HN.out]
    replace hg := hg.below k3
    replace cd := cd.below k3 b0.size
    replace b0 := b0.trans (k3.mono b0.size)
    clear k3 w6 HN hs
    go_wp2_with fail
    refine (drawReadFrame _ cd b0.size).mono ?_
    rintro e w2 ⟨t, ht, rfl, g2, cd2⟩
    have k2 := below_new g2
    replace hg := hg.below k2
    replace b0 := b0.trans (k2.mono b0.size)
    have cd := cd2
    clear cd2 g2 k2
    have hs : t.size ≤ maxLen := by unfold maxLen; omega
    obtain ⟨id2, hid⟩ : ∃ id, rdId t = id := ⟨_, rfl⟩
    obtain ⟨rm2, hrm⟩ : ∃ rm, rdRm t = rm := ⟨_, rfl⟩
    obtain ⟨ln2, hln⟩ : ∃ ln, rdLn t = ln := ⟨_, rfl⟩
    obtain ⟨D2, hdd⟩ : ∃ D, rdD t = D := ⟨_, rfl⟩
    obtain ⟨ce, hcc⟩ : ∃ ce, rdCode t = ce := ⟨_, rfl⟩
    have HG := Lib.hid (fun w w' e => got_of (w := w) (w' := w') (e := e) hid hrm hln hdd hcc)
    have HR := Lib.hid (back_of hid hrm hln hdd hcc)
    have HZ := Lib.hid (none_of hid hrm hln hdd hcc)
    have hD2 : D2.length ≤ 100 := by rw [← hdd]; exact rdD_len t
    clear hid hrm hln hdd hcc ht
    go_wp2_with fail
    refine (implRead t _ hs hg).mono ?_
    intro e w3 h
    obtain ⟨a1, c1, rfl, O1, k3⟩ := HG.out _ _ _ h
    clear h
    replace cd := cd.below k3 b0.size
    replace b0 := b0.trans (k3.mono b0.size)
    clear k3 hg
    go_upto_region 11 with fail
    have X9 := Bx.made w3 (.int .i64 id2) (.bool rm2) (.int .i64 ln2) (.slice a1 D2.length c1)
    have k3 : Below w3.heap.size w3 (w3.alloc (.cells #[.int .i64 id2, .bool rm2, .int .i64 ln2, .slice a1 D2.length c1] 26)) := (Below.refl _ _).alloc (Nat.le_refl _) _
    replace O1 := O1.below k3
    replace cd := cd.below k3 b0.size
    replace b0 := b0.trans (k3.mono b0.size)
    clear k3
    generalize w3.alloc (.cells #[.int .i64 id2, .bool rm2, .int .i64 ln2, .slice a1 D2.length c1] 26) = W at *
    generalize w3.heap.size = g9 at *
    clear w3
    go_wp2_with fail
    refine (specRead t _ hs).mono ?_
    intro e w3 h
    obtain ⟨a2, c2, rfl, O2, k3⟩ := HG.out _ _ _ h
    clear h O2
    replace O1 := O1.below k3
    replace X9 := X9.below k3
    replace cd := cd.below k3 b0.size
    replace b0 := b0.trans (k3.mono b0.size)
    clear k3 W
    go_upto_region 12 with fail
    have k3 : Below w3.heap.size w3 (w3.alloc (.cells #[.int .i64 id2, .bool rm2, .int .i64 ln2, .slice a2 D2.length c2] 26)) := (Below.refl _ _).alloc (Nat.le_refl _) _
    replace O1 := O1.below k3
    replace X9 := X9.below k3
    replace cd := cd.below k3 b0.size
    replace b0 := b0.trans (k3.mono b0.size)
    clear k3
    generalize w3.alloc (.cells #[.int .i64 id2, .bool rm2, .int .i64 ln2, .slice a2 D2.length c2] 26) = W at *
    generalize w3.heap.size = g11 at *
    clear w3
    go_wp2_with fail
    refine (drawNeedOf _ cd b0.size).mono ?_
    rintro e w3 ⟨u, hu, rfl, g2, cd2⟩
    have k3 := below_new g2
    replace O1 := O1.below k3
    replace X9 := X9.below k3
    replace b0 := b0.trans (k3.mono b0.size)
    clear k3 g2 cd cd2 W
    have hus : u.size ≤ maxLen := by unfold maxLen; omega
    clear hu
    go_wp2_with fail
    refine (implNeed u _ hus).mono ?_
    rintro e w4 ⟨rfl, k3⟩
    replace O1 := O1.below k3
    replace X9 := X9.below k3
    replace b0 := b0.trans (k3.mono b0.size)
    clear k3
    go_wp2_with fail
    refine (specNeed u _ hus).mono ?_
    rintro e w5 ⟨rfl, rfl⟩
    generalize needV u = nu
    have n1 := O1.nums'
    clear O1
    have y0 := X9.c0
    have y1 := X9.c1
    have y2 := X9.c2
    have y3 := X9.c3
    by_cases hce : ce = 0
    · obtain ⟨r1, r2, r3⟩ := HR.out hce
      have hbl : (bodyV id2 rm2 ln2 D2).size ≤ maxLen := by rw [body_size r1]; unfold maxLen; omega
      have HF : Hid (withV (bodyV id2 rm2 ln2 D2) = t) := Lib.hid r2
      have HO : Hid (withOk (bodyV id2 rm2 ln2 D2) = true) := Lib.hid r3
      clear r1 r2 r3 HR HZ
      go_wp2_with fail
      refine (implBodyOf id2 rm2 ln2 a1 D2 c1 _ n1).mono ?_
      rintro e w6 ⟨rfl, k3⟩
      replace b0 := b0.trans (k3.mono b0.size)
      clear k3 n1 y0 y1 y2 y3 X9
      generalize bodyV id2 rm2 ln2 D2 = bb at *
      go_wp2_with fail
      refine (implWith bb _ hbl).mono ?_
      rintro e w7 ⟨rfl, k3⟩
      replace b0 := b0.trans (k3.mono b0.size)
      clear k3
      rw [HF.out, HO.out]
      have hte : (t.toList == t.toList) = true := beq_self_eq_true _
      go_wp2_with fail
      go_ret
      exact ⟨rfl, b0⟩
    · obtain ⟨r1, r2⟩ := HZ.out hce
      clear HR HZ
      go_wp2_with fail
      go_ret
      exact ⟨rfl, b0⟩
end Go.Proofs.YtcciabalbdnakaaDoor
