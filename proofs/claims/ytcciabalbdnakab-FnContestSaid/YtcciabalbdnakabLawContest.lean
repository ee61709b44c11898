/- Proved: at every text of bytes, the frames drawn out of it keep promise 7: of two right frames of two ranks the one of the lesser rank says 0 where the bodies part, within the first 13 bits, and is the winner of the two; the program's ParesAt, RankOf and WinnerOf answer as the model's (laws.FnContest answers true at every argument), and the argument stays as it was. No condition. -/
import Derived.Test.YtcciabalbdnakabDrawPar
import Derived.Test.YtcciabalbdnakabDrawWin
import Derived.Test.YtcciabalbdnakabContest
import Derived.Test.YtcciabalbdnakabRing
import Derived.Test.YtcciabalbdnakabImpWin
import Derived.Test.YtcciabalbdnakabHeld
import Derived.Test.YtcciabalbdnakabRows
import Derived.WalkKit
import Derived.WalkSpells
import Derived.ProofKit
import Derived.OpenShut
import Derived.ShutString
import Derived.ChangeOld
import Derived.Below
import Derived.StillTailTactics
import Derived.Deep.CutRange
set_option linter.unusedVariables false
set_option linter.unusedSimpArgs false
namespace Go.Proofs.Ytcciabalbdnakab.lawContest
open Go.ChangeShapes Go.WideShapes Go.ChangeAt Go.RowKit
open Go.ChangeMaps (open_string shut_string)

theorem own : ownKnob Try.prog.godebug = none := by kernel_rfl

theorem two_frs {ia : Int} {xa : Bool} {la : Int} {Da : List Int} {av : Option Addr} {ca : Nat} {ib : Int} {xb : Bool} {lb : Int} {Db : List Int} {bv : Option Addr} {cb : Nat} {W : World} (nA : Nums av Da W) (nB : Nums bv Db W) (T : TypeId) :
    Frs (some ⟨W.heap.size, 0, none⟩) [⟨ib, xb, lb, Db⟩, ⟨ia, xa, la, Da⟩] (W.alloc (.cells #[.int .i64 ib, .bool xb, .int .i64 lb, .slice bv Db.length cb, .int .i64 ia, .bool xa, .int .i64 la, .slice av Da.length ca] T)) := by
  refine ⟨by show 2 ≤ maxLen; unfold maxLen; omega, fun j hj => ?_⟩
  match j, hj with
  | 0, _ => exact ⟨W.heap.size, 0, bv, cb, rfl, ⟨World.cell?_alloc_at _ _ _ _ rfl, World.cell?_alloc_at _ _ _ _ rfl, World.cell?_alloc_at _ _ _ _ rfl, World.cell?_alloc_at _ _ _ _ rfl⟩, nB.alloc _⟩
  | 1, _ => exact ⟨W.heap.size, 0, av, ca, rfl, ⟨World.cell?_alloc_at _ _ _ _ rfl, World.cell?_alloc_at _ _ _ _ rfl, World.cell?_alloc_at _ _ _ _ rfl, World.cell?_alloc_at _ _ _ _ rfl⟩, nA.alloc _⟩

set_option maxHeartbeats 8000000 in
set_option maxRecDepth 20000 in
theorem walkFnContest (a : Option Addr) (len cap : Nat) (w : World) (cd : Code w.heap.size a len w) :
    Calls Try.prog 3 #[.slice a len cap] w fun e w' => e = .returned (.bool true) ∧ Below w.heap.size w w' := by
  go_enter Try.func3, Try.ntmps3
  have hl := cd.1
  by_cases hbig : 4096 < len
  · go_wp2_with (go_at_call 11; refine (bigAny _ _ _ _ hl).mono ?_; rintro e w' ⟨rfl, rfl⟩)
    go_ret
    exact ⟨rfl, Below.refl _ _⟩
  go_wp2_with fail
  refine (bigAny _ _ _ _ hl).mono ?_
  rintro e w' ⟨rfl, rfl⟩
  go_wp2_with fail
  refine (drawPares _ cd (Nat.le_refl _)).mono ?_
  rintro e w1 ⟨ia, xa, la, Da, av, ca, ib, xb, lb, Db, bv, cb, rfl, nA, nB, hDa, hDb, -, -, -, -, b1⟩
  go_upto_region 4 with fail
  have R := Ring.made (w := w) (w1 := w1) (ia := ia) (xa := xa) (la := la) (ca := ca) (ib := ib) (xb := xb) (lb := lb) (cb := cb) b1 nA nB
  generalize (w1.alloc (.cells #[.int .i64 ia, .bool xa, .int .i64 la, .slice av Da.length ca] 26)).alloc (.cells #[.int .i64 ib, .bool xb, .int .i64 lb, .slice bv Db.length cb] 26) = W at R ⊢
  clear nA nB b1
  generalize hgb : w1.heap.size + 1 = gb at R ⊢
  generalize hga : w1.heap.size = ga at R ⊢
  have hne : ga ≠ gb := by omega
  have hne2 : gb ≠ ga := by omega
  clear hga hgb
  obtain ⟨⟨⟨a0, a1, a2, a3⟩, _⟩, ⟨⟨b0, b1, b2, b3⟩, _⟩, _, _⟩ := id R.two
  go_wp2_with fail
  refine (implParesAt _ _ _ _ _ _ _ _ _ _ _ _ _ R.two.2.2.1 R.two.2.2.2).mono ?_
  rintro e w2 ⟨rfl, k2⟩
  replace R := R.below k2
  clear k2 a0 a1 a2 a3 b0 b1 b2 b3
  obtain ⟨⟨⟨a0, a1, a2, a3⟩, _⟩, ⟨⟨b0, b1, b2, b3⟩, _⟩, _, _⟩ := id R.two
  go_wp2_with fail
  refine (implRankOf _ _ _ _ _ _ _ R.two.2.2.1).mono ?_
  rintro e w3 ⟨rfl, k2⟩
  replace R := R.below k2
  clear k2 a0 a1 a2 a3 b0 b1 b2 b3
  obtain ⟨⟨⟨a0, a1, a2, a3⟩, _⟩, ⟨⟨b0, b1, b2, b3⟩, _⟩, _, _⟩ := id R.two
  go_wp2_with fail
  refine (implRankOf _ _ _ _ _ _ _ R.two.2.2.2).mono ?_
  rintro e w4 ⟨rfl, k2⟩
  replace R := R.below k2
  clear k2 a0 a1 a2 a3 b0 b1 b2 b3
  go_wp2_with fail
  refine (drawFrames (B := w.heap.size) _ (cd.below R.bel (Nat.le_refl _)) R.bel.size).mono ?_
  rintro e w5 ⟨Fl, fa, fc, rfl, fr, hfl, k2⟩
  replace R := R.below k2
  clear k2 cd
  obtain ⟨⟨⟨a0, a1, a2, a3⟩, _⟩, ⟨⟨b0, b1, b2, b3⟩, _⟩, _, _⟩ := id R.two
  go_wp2_with fail
  refine (specParesAt _ _ _ _ _ _ _ _ _ _ _ _ _ R.two.2.2.1 R.two.2.2.2).mono ?_
  rintro e w6 ⟨rfl, k2⟩
  replace R := R.below k2
  replace fr := fr.below k2
  clear k2 a0 a1 a2 a3 b0 b1 b2 b3
  obtain ⟨⟨⟨a0, a1, a2, a3⟩, _⟩, ⟨⟨b0, b1, b2, b3⟩, _⟩, _, _⟩ := id R.two
  go_wp2_with fail
  refine (specRankOf _ _ _ _ _ _ _ R.two.2.2.1).mono ?_
  rintro e w7 ⟨rfl, k2⟩
  replace R := R.below k2
  replace fr := fr.below k2
  clear k2 a0 a1 a2 a3 b0 b1 b2 b3
  go_wp2_with fail
  refine (implWinnerOf _ _ _ _ fr (by omega)).mono ?_
  rintro e w8 ⟨rfl, k2⟩
  replace R := R.below k2
  replace fr := fr.below k2
  clear k2
  go_wp2_with fail
  refine (specWinnerOf _ _ _ _ fr).mono ?_
  rintro e w9 ⟨rfl, k2⟩
  replace R := R.below k2
  clear k2
  clear fr hfl
  go_upto_region 10 with fail
  cases hoa : frOk ia xa la Da with
  | false =>
    have hp := paresV_a (ib := ib) (xb := xb) (lb := lb) (Db := Db) hoa
    have hr := rankV_no hoa
    rw [hp, hr]
    clear hp hr hoa
    go_wp2_with fail
    go_ret
    exact ⟨rfl, R.bel⟩
  | true =>
    have hr0 : 0 ≤ rankV ia xa la Da := Int.not_lt.1 fun h => by rw [rankV_neg.1 h] at hoa; cases hoa
    cases hob : frOk ib xb lb Db with
    | false =>
      have hp := paresV_b (ia := ia) (xa := xa) (la := la) (Da := Da) hob
      have hr := rankV_no hob
      rw [hp, hr]
      clear hp hr hob hoa
      have hb0 : decide (rankV ia xa la Da < 0) = false := by rw [decide_eq_false_iff_not]; omega
      clear hr0
      generalize rankV ia xa la Da = r at *
      go_wp2_with fail
      go_ret
      exact ⟨rfl, R.bel⟩
    | true =>
      have hq0 : 0 ≤ rankV ib xb lb Db := Int.not_lt.1 fun h => by rw [rankV_neg.1 h] at hob; cases hob
      rw [paresV_yes hoa hob]
      rcases Int.lt_trichotomy (rankV ia xa la Da) (rankV ib xb lb Db) with hlt0 | heq | hgt0
      · obtain ⟨n, P0⟩ := contest_parts hoa hob hlt0
        rw [P0.pare]
        have P := Lib.hid P0
        have hlo := Lib.hid hr0
        have hlt := Lib.hid hlt0
        clear P0 hoa hob
        have hne3 : ¬ rankV ia xa la Da = rankV ib xb lb Db := by omega
        have hb0 : decide (rankV ia xa la Da < 0) = false := by rw [decide_eq_false_iff_not]; omega
        have hb1 : decide (rankV ib xb lb Db < 0) = false := by rw [decide_eq_false_iff_not]; omega
        have hb2 : (rankV ia xa la Da == rankV ib xb lb Db) = false := by rw [beq_eq_false_iff_ne]; omega
        have hb3 : decide (rankV ib xb lb Db < rankV ia xa la Da) = false := by rw [decide_eq_false_iff_not]; omega
        clear hr0 hlt0 hne3 hq0
        generalize rankV ia xa la Da = r at hb0 hb1 hb2 hb3 ⊢
        generalize rankV ib xb lb Db = q at hb0 hb1 hb2 hb3 ⊢
        go_upto_region 14 with fail
        clear hb0 hb1 hb2 hb3
        obtain ⟨⟨⟨a0, a1, a2, a3⟩, _⟩, ⟨⟨b0, b1, b2, b3⟩, _⟩, _, _⟩ := id R.two
        go_wp2_with fail
        refine (implBodyOf _ _ _ _ _ _ _ R.two.2.2.1).mono ?_
        rintro e v1 ⟨rfl, k2⟩
        replace R := R.below k2
        clear k2 a0 a1 a2 a3 b0 b1 b2 b3
        obtain ⟨⟨⟨a0, a1, a2, a3⟩, _⟩, ⟨⟨b0, b1, b2, b3⟩, _⟩, _, _⟩ := id R.two
        go_wp2_with fail
        refine (implBodyOf _ _ _ _ _ _ _ R.two.2.2.2).mono ?_
        rintro e v2 ⟨rfl, k2⟩
        replace R := R.below k2
        clear k2 a0 a1 a2 a3 b0 b1 b2 b3
        obtain ⟨hn13, hns, hnt, h48, h49, hfront, -, -⟩ := P.out
        have hW := Lib.hid (show winI (winN [⟨ib, xb, lb, Db⟩, ⟨ia, xa, la, Da⟩] [(⟨ib, xb, lb, Db⟩ : Frm), ⟨ia, xa, la, Da⟩].length) = 1 by show winI (winN _ 2) = 1; rw [win_second (fb := ⟨ib, xb, lb, Db⟩) (fa := ⟨ia, xa, la, Da⟩) hlo.out hlt.out]; rfl)
        clear P hlo hlt
        generalize bodyV ia xa la Da = s at *
        generalize bodyV ib xb lb Db = t at *
        have ixs : ∀ W, (Instr.index 9 (.string s) (.int .i64 (n : Int))).run Try.prog W = .ok (.int .u8 48) W := fun W => by rw [index_at s n n W hns rfl, h48]; rfl
        have ixt : ∀ W, (Instr.index 9 (.string t) (.int .i64 (n : Int))).run Try.prog W = .ok (.int .u8 49) W := fun W => by rw [index_at t n n W hnt rfl, h49]; rfl
        clear h48 h49
        have hfs : ((s.extract 0 n).toList == (t.extract 0 n).toList) = true := by rw [hfront]; simp
        have hn13' : (n : Int) < 13 := by omega
        have hns' : (n : Int) ≤ s.size := by omega
        have hnt' : (n : Int) ≤ t.size := by omega
        obtain ⟨⟨⟨a0, a1, a2, a3⟩, _⟩, ⟨⟨b0, b1, b2, b3⟩, _⟩, _, _⟩ := id R.two
        go_upto_region 16 with fail
        go_still_tail 26, (by kernel_rfl)
        change wpList _ _ _ _ _ v2.drew
        replace R := R.below (Below.drew (Below.refl _ _))
        clear a0 a1 a2 a3 b0 b1 b2 b3 ixs ixt hfs hn13' hns' hnt' hns hnt hn13 hfront
        generalize v2.drew = v3 at R ⊢
        go_wp2_with fail
        refine (implWinnerOf _ [⟨ib, xb, lb, Db⟩, ⟨ia, xa, la, Da⟩] 2 _ (two_frs (ca := ca) (cb := cb) R.two.2.2.1 R.two.2.2.2 _) (by show 2 ≤ 1048576; omega)).mono ?_
        rintro e v4 ⟨rfl, k2⟩
        rw [hW.out]
        have bel := Below.then2 R.bel (below_from k2)
        clear k2 R hW
        go_wp2_with fail
        go_ret
        exact ⟨rfl, bel⟩
      · clear hoa hob
        have hn1 : (((pareB (bodyV ia xa la Da) (bodyV ib xb lb Db) : Nat) : Int) == -1) = false := by rw [beq_eq_false_iff_ne]; omega
        generalize pareB (bodyV ia xa la Da) (bodyV ib xb lb Db) = n at *
        have hb0 : decide (rankV ib xb lb Db < 0) = false := by rw [decide_eq_false_iff_not]; omega
        rw [heq]
        clear heq hr0 hq0
        generalize rankV ib xb lb Db = q at *
        go_wp2_with fail
        go_ret
        exact ⟨rfl, R.bel⟩
      · obtain ⟨n, P0⟩ := contest_parts hob hoa hgt0
        rw [P0.pare']
        have P := Lib.hid P0
        have hlo := Lib.hid hq0
        have hlt := Lib.hid hgt0
        clear P0 hoa hob
        have hne3 : ¬ rankV ia xa la Da = rankV ib xb lb Db := by omega
        have hb0 : decide (rankV ia xa la Da < 0) = false := by rw [decide_eq_false_iff_not]; omega
        have hb1 : decide (rankV ib xb lb Db < 0) = false := by rw [decide_eq_false_iff_not]; omega
        have hb2 : (rankV ia xa la Da == rankV ib xb lb Db) = false := by rw [beq_eq_false_iff_ne]; omega
        have hb3 : decide (rankV ib xb lb Db < rankV ia xa la Da) = true := by rw [decide_eq_true_iff]; omega
        clear hr0 hgt0 hne3 hq0
        generalize rankV ia xa la Da = r at hb0 hb1 hb2 hb3 ⊢
        generalize rankV ib xb lb Db = q at hb0 hb1 hb2 hb3 ⊢
        have RA := R.A
        have RB := R.B
        have fA0 := RA.free 0
        have fA1 := RA.free 1
        have fA2 := RA.free 2
        have fA3 := RA.free 3
        have fB0 := RB.free 0
        have fB1 := RB.free 1
        have fB2 := RB.free 2
        have fB3 := RB.free 3
        obtain ⟨⟨⟨a0, a1, a2, a3⟩, _⟩, ⟨⟨b0, b1, b2, b3⟩, _⟩, _, _⟩ := id R.two
        go_upto_region 14 with fail
        clear hb0 hb1 hb2 hb3 a0 a1 a2 a3 b0 b1 b2 b3 fA0 fA1 fA2 fA3 fB0 fB1 fB2 fB3 RA RB
        replace R := R.swap
        unfold swapW at R
        generalize (((((((w9.setCell ⟨ga, 0, none⟩ (.int .i64 ib)).setCell ⟨ga, 1, none⟩ (.bool xb)).setCell ⟨ga, 2, none⟩ (.int .i64 lb)).setCell ⟨ga, 3, none⟩ (.slice bv Db.length cb)).setCell ⟨gb, 0, none⟩ (.int .i64 ia)).setCell ⟨gb, 1, none⟩ (.bool xa)).setCell ⟨gb, 2, none⟩ (.int .i64 la)).setCell ⟨gb, 3, none⟩ (.slice av Da.length ca) = W2 at R ⊢
        obtain ⟨⟨⟨a0, a1, a2, a3⟩, _⟩, ⟨⟨b0, b1, b2, b3⟩, _⟩, _, _⟩ := id R.two
        go_wp2_with fail
        refine (implBodyOf _ _ _ _ _ _ _ R.two.2.2.1).mono ?_
        rintro e v1 ⟨rfl, k2⟩
        replace R := R.below k2
        clear k2 a0 a1 a2 a3 b0 b1 b2 b3
        obtain ⟨⟨⟨a0, a1, a2, a3⟩, _⟩, ⟨⟨b0, b1, b2, b3⟩, _⟩, _, _⟩ := id R.two
        go_wp2_with fail
        refine (implBodyOf _ _ _ _ _ _ _ R.two.2.2.2).mono ?_
        rintro e v2 ⟨rfl, k2⟩
        replace R := R.below k2
        clear k2 a0 a1 a2 a3 b0 b1 b2 b3
        obtain ⟨hn13, hns, hnt, h48, h49, hfront, -, -⟩ := P.out
        have hW := Lib.hid (show winI (winN [⟨ia, xa, la, Da⟩, ⟨ib, xb, lb, Db⟩] [(⟨ia, xa, la, Da⟩ : Frm), ⟨ib, xb, lb, Db⟩].length) = 1 by show winI (winN _ 2) = 1; rw [win_second (fb := ⟨ia, xa, la, Da⟩) (fa := ⟨ib, xb, lb, Db⟩) hlo.out hlt.out]; rfl)
        clear P hlo hlt
        generalize bodyV ib xb lb Db = s at *
        generalize bodyV ia xa la Da = t at *
        have ixs : ∀ W, (Instr.index 9 (.string s) (.int .i64 (n : Int))).run Try.prog W = .ok (.int .u8 48) W := fun W => by rw [index_at s n n W hns rfl, h48]; rfl
        have ixt : ∀ W, (Instr.index 9 (.string t) (.int .i64 (n : Int))).run Try.prog W = .ok (.int .u8 49) W := fun W => by rw [index_at t n n W hnt rfl, h49]; rfl
        clear h48 h49
        have hfs : ((s.extract 0 n).toList == (t.extract 0 n).toList) = true := by rw [hfront]; simp
        have hn13' : (n : Int) < 13 := by omega
        have hns' : (n : Int) ≤ s.size := by omega
        have hnt' : (n : Int) ≤ t.size := by omega
        obtain ⟨⟨⟨a0, a1, a2, a3⟩, _⟩, ⟨⟨b0, b1, b2, b3⟩, _⟩, _, _⟩ := id R.two
        go_upto_region 16 with fail
        go_still_tail 26, (by kernel_rfl)
        change wpList _ _ _ _ _ v2.drew
        replace R := R.below (Below.drew (Below.refl _ _))
        clear a0 a1 a2 a3 b0 b1 b2 b3 ixs ixt hfs hn13' hns' hnt' hns hnt hn13 hfront
        generalize v2.drew = v3 at R ⊢
        go_wp2_with fail
        refine (implWinnerOf _ [⟨ia, xa, la, Da⟩, ⟨ib, xb, lb, Db⟩] 2 _ (two_frs (ca := cb) (cb := ca) R.two.2.2.1 R.two.2.2.2 _) (by show 2 ≤ 1048576; omega)).mono ?_
        rintro e v4 ⟨rfl, k2⟩
        rw [hW.out]
        have bel := Below.then2 R.bel (below_from k2)
        clear k2 R hW
        go_wp2_with fail
        go_ret
        exact ⟨rfl, bel⟩

theorem laidOut : laidOutB Try.prog = true := by kernel_rfl

/-! ### The row's step of FnContest. -/
set_option maxRecDepth 100000 in
theorem liftedFnContest (os : Os) (started : os.Started) (H : Type) (enc : TypeId × Value → H) :
    ReturnsInHanded {} Try.checked os 3 .any (Rows.fnContestSpec.pre6 enc Try.prog Try.f3 Rows.fnContestRow.domain false) (Rows.fnContestSpec.post enc Try.prog Try.f3 false true false false) := by
  refine returnsInHanded_of_change (C := Try.checked) own started (by kernel_rfl) Try.func3
    (ChangeSpec.witness6 (enc := enc) (C := Try.checked) false ⟨#[], #[.slice none 0 0], []⟩ 8 (by kernel_rfl) (by kernel_rfl) (by kernel_rfl) (by kernel_rfl)) ?_
  intro W base args ds gs before hval0 hW hcnd _
  have hval : ∀ (j : Nat) t v, Try.f3.params[j]? = some t → args[j]? = some v → Value.okWide Try.prog W .any base t v := hval0
  have hW' := hW
  obtain ⟨p, q, hA0, hV, rfl, hfz, hnd⟩ := hW
  have hA : DataW.TrodAll enc Try.prog W 0 (fun _ => true) true Try.f3.params.toList args.toList ds p := hA0
  rw [Try.params3] at hA hval
  obtain ⟨v0, vs0, d0, ds0, p0, q0, hargs, rfl, rfl, h0, r0⟩ := trodAll_cons hA
  obtain ⟨rfl, rfl, rfl⟩ := trodAll_nil r0
  obtain rfl : args = #[v0] := by cases args; simp_all
  obtain ⟨rfl, rfl⟩ := trodVars_none hV
  obtain ⟨a0, len0, cap0, rfl⟩ := okWide_slice Try.underlying22 (hval 0 22 v0 rfl rfl)
  have k0 := h0
  have lt0 : ∀ x ∈ p0, x.block < W.heap.size := by obtain ⟨m, hm⟩ := k0; exact DataW.trod_lt m _ _ _ hm
  have w0 : Code W.heap.size a0 len0 W := by
    obtain ⟨fuel, hf⟩ := h0
    rcases open_ints Try.underlying22 Try.underlying5 (by kernel_rfl) hf with ⟨hcs, _⟩ | ⟨x, l, c, zs, hcs, _, hl, hm, hz, _, hcell, hwz⟩
    · simp [Value.cells] at hcs
      obtain ⟨rfl, rfl, rfl⟩ := hcs
      exact ⟨by omega, fun j hj => absurd hj (by omega)⟩
    · simp [Value.cells] at hcs
      obtain ⟨rfl, rfl, rfl⟩ := hcs
      exact code_of hl hm (by simpa using hz) hcell hwz
  clear hA0 hval0
  refine (walkFnContest a0 len0 cap0 W w0).mono fun e W' ⟨he, bel⟩ => ?_
  subst he
  exact ⟨_, rfl, _, _, _, [], _, [], hW', trodAll_mk1 (shut_bool Try.underlying4 _), (trodAll_cons_mk (Below.trod laidOut (by kernel_rfl) (of_decide_eq_true (by kernel_rfl)) k0 bel lt0) trodAll_mk0), rfl, bel.frame _, fun h => by cases h⟩

theorem fnContest_holds : Rows.FnContestSaid :=
  OpenClaim.holds_of_wide 3 Try.f3 rfl rfl rfl rfl rfl rfl rfl ⟨rfl, rfl, rfl, rfl, rfl⟩ rfl rfl rfl rfl rfl (by kernel_rfl) Try.func3 (by kernel_rfl)
    (of_decide_eq_true (by kernel_rfl)) (by unfold Func.isWrapper; first | (rw [if_pos (by decide +kernel)]; kernel_rfl) | (rw [if_neg (by decide +kernel)]; exact ⟨rfl, rfl⟩))
    (fun os started H enc _ => liftedFnContest os started H enc)
#print axioms fnContest_holds
end Go.Proofs.Ytcciabalbdnakab.lawContest
