/- Proved: at every text of bytes: whoever fails 32 times is off, 31 times mild, and each time that he sends well makes it less; and at the counter drawn out of it StateOf, SentWell, GotWell, SentBad, GotBad and CountOk answer as the model does (laws.FnCounts answers true at every argument). No condition. -/
import Derived.Test.YtcnikbpedcdojaaDrawCn
import Derived.Test.YtcnikbpedcdojaaDice
import Derived.Test.YtcnikbpedcdojaaHeld
import Derived.Test.YtcnikbpedcdojaaRows
import Derived.WalkKit
import Derived.WalkSpells
import Derived.ProofKit
import Derived.OpenShut
import Derived.ShutString
import Derived.ChangeOld
import Derived.Below
import Derived.Deep.CutRange
set_option linter.unusedVariables false
set_option linter.unusedSimpArgs false
namespace Go.Proofs.Ytcnikbpedcdojaa.lawCounts
open Go.ChangeShapes Go.WideShapes Go.ChangeAt Go.RowKit
open Go.ChangeMaps (open_string shut_string)

theorem own : ownKnob Try.prog.godebug = none := by kernel_rfl

/-- What stands in every world of the law's last test: the counter drawn. -/
def LC (w0 : World) (gx : Nat) (s g : Int) (u : World) : Prop := Bc gx (.int .i64 s) (.int .i64 g) u ∧ Below w0.heap.size w0 u
theorem Bc.below {g : Nat} {x0 x1 : Value} {w w' : World} (h : Bc g x0 x1 w) (b : Below w.heap.size w w') : Bc g x0 x1 w' := (b.block g h.lt).trans h
theorem LC.below {w0 : World} {gx : Nat} {s g : Int} {u u' : World} (h : LC w0 gx s g u) (b : Below u.heap.size u u') : LC w0 gx s g u' := ⟨Bc.below h.1 b, Below.then2 h.2 b⟩
theorem LC.drew {w0 : World} {gx : Nat} {s g : Int} {u : World} (h : LC w0 gx s g u) : LC w0 gx s g u.drew := ⟨h.1, h.2.drew⟩

/-- What stands while the law fails again and again: the dice, the counter's box. -/
structure LS (w0 : World) (B p : Nat) (a : Option Addr) (len cap : Nat) (gc : Nat) (n : Int) (w : World) : Prop where
  st : Dt B p a len cap w
  grown : Below w0.heap.size w0 w
  box : Bc gc (.int .i64 n) (.int .i64 0) w
  pl : w0.heap.size ≤ p
  lt : p < gc
  cl : w0.heap.size ≤ gc
section
variable {w0 : World} {B p : Nat} {a : Option Addr} {len cap : Nat} {gc : Nat} {n : Int} {w w' : World}
theorem LS.below (h : LS w0 B p a len cap gc n w) (b : Below w.heap.size w w') : LS w0 B p a len cap gc n w' :=
  ⟨h.st.below b, Below.then2 h.grown b, Bc.below h.box b, h.pl, h.lt, h.cl⟩
theorem LS.put (h : LS w0 B p a len cap gc n w) (m : Int) : LS w0 B p a len cap gc m ((w.setCell ⟨gc, 0, none⟩ (.int .i64 m)).setCell ⟨gc, 1, none⟩ (.int .i64 0)) := by
  have k := grown_trans (grown_set w gc 0 (.int .i64 m)) (grown_set _ gc 1 (.int .i64 0))
  have h1 := h.lt; have h2 := h.cl
  exact ⟨h.st.step k (fun j e => by cases e; exact h1), h.grown.grown k h.grown.size (fun j e => by cases e; exact h2), (h.box.set0 _).set1 _, h.pl, h1, h2⟩
theorem LS.throw (h : LS w0 B p a len cap gc n w) (k : w.grownBy w' (some p)) (s : Dt B p a len cap w') : LS w0 B p a len cap gc n w' := by
  have h1 := h.lt; have h2 := h.cl; have h3 := h.pl
  exact ⟨s, h.grown.grown k h.grown.size (fun j e => by cases e; exact h3), h.box.kept k (by simp; omega), h3, h1, h2⟩
end

/-- What stands while the law sends well: the three counters. -/
structure LT (w0 : World) (gc gn ge : Nat) (m : Int) (w : World) : Prop where
  grown : Below w0.heap.size w0 w
  bc : Bc gc (.int .i64 248) (.int .i64 0) w
  bn : Bc gn (.int .i64 256) (.int .i64 0) w
  be : Bc ge (.int .i64 m) (.int .i64 0) w
  el : w0.heap.size ≤ ge
  ne1 : gc ≠ ge
  ne2 : gn ≠ ge
section
variable {w0 : World} {gc gn ge : Nat} {m : Int} {w w' : World}
theorem LT.below (h : LT w0 gc gn ge m w) (b : Below w.heap.size w w') : LT w0 gc gn ge m w' :=
  ⟨Below.then2 h.grown b, Bc.below h.bc b, Bc.below h.bn b, Bc.below h.be b, h.el, h.ne1, h.ne2⟩
theorem LT.put (h : LT w0 gc gn ge m w) (n : Int) : LT w0 gc gn ge n ((w.setCell ⟨ge, 0, none⟩ (.int .i64 n)).setCell ⟨ge, 1, none⟩ (.int .i64 0)) := by
  have k := grown_trans (grown_set w ge 0 (.int .i64 n)) (grown_set _ ge 1 (.int .i64 0))
  have h1 := h.el; have h2 := h.ne1; have h3 := h.ne2
  exact ⟨h.grown.grown k h.grown.size (fun j e => by cases e; exact h1), h.bc.kept k (by simpa using h2), h.bn.kept k (by simpa using h3), (h.be.set0 _).set1 _, h1, h2, h3⟩
end

set_option maxHeartbeats 8000000 in
theorem walkFnCounts (a : Option Addr) (len cap : Nat) (w : World) (cd : Code w.heap.size a len w) :
    Calls Try.prog 3 #[.slice a len cap] w fun e w' => e = .returned (.bool true) ∧ Below w.heap.size w w' := by
  go_enter Try.func3, Try.ntmps3
  have hl := cd.1
  by_cases hbig : 4096 < len
  · go_wp2_with (go_at_call 10; refine (bigAny _ _ _ _ hl).mono ?_; rintro e w' ⟨rfl, rfl⟩)
    go_ret
    exact ⟨rfl, Below.refl _ _⟩
  go_wp2_with fail
  refine (bigAny _ _ _ _ hl).mono ?_
  rintro e w' ⟨rfl, rfl⟩
  go_wp2_with fail
  refine (rollAny 5 _ cd (Nat.le_refl _)).mono ?_
  rintro e w1 ⟨rfl, g1, s1⟩
  have b1 := below_new g1
  have hp1 := s1.lt
  go_upto_region 5 with fail
  have L : LS w w.heap.size w.heap.size a len cap w1.heap.size 0 (w1.alloc (.cells #[.int .i64 0, .int .i64 0] 28)) :=
    ⟨s1.below ((Below.refl _ _).alloc (Nat.le_refl _) _), b1.alloc b1.size _, Bc.made _ _ _, Nat.le_refl _, hp1, b1.size⟩
  generalize w1.alloc (.cells #[.int .i64 0, .int .i64 0] 28) = W at L ⊢
  generalize w1.heap.size = gc at L ⊢
  clear g1 s1 b1 hp1
  go_wp2_with fail
  go_loopw [5] (fun i wr => ∃ k : Nat, k ≤ 31 ∧ i = .int .i64 k ∧ LS w w.heap.size w.heap.size a len cap gc (8 * (k : Int)) wr) (fun i _ => 31 - (intOf i).toNat)
  case atStart => exact ⟨0, by omega, rfl, L⟩
  case round =>
    clear L
    obtain ⟨k, hk, rfl, L⟩ := hrel
    have c0 := L.box.c0
    have c1 := L.box.c1
    by_cases hlt : k < 31
    · have hok : cOk (8 * (k : Int)) 0 = true := cOk_iff.2 (by omega)
      have e1 : sbA (8 * (k : Int)) 0 = 8 * ((k + 1 : Nat) : Int) := by simp only [sbA, hok, reduceIte]; omega
      have e2 : swB (8 * (k : Int)) 0 = 0 := by simp only [swB, hok, reduceIte]
      go_wp2_with fail
      refine (implSentBad _ _ _).mono ?_
      rintro e w2 ⟨rfl, b⟩
      rw [e1, e2]
      replace L := L.below b
      clear b c0 c1 e1 e2 hok
      have c0 := L.box.c0
      have c1 := L.box.c1
      have f0 := L.box.free 0
      have f1 := L.box.free 1
      go_wp2_with fail
      go_roundw
      case rel => exact ⟨k + 1, by omega, by go_num, L.put _⟩
      case measure => simp [intOf]; omega
    · obtain rfl : k = 31 := by omega
      have e1 : sbA 248 0 = 256 := by decide
      have e2 : swB 248 0 = 0 := by decide
      go_wp2_with fail
      refine (implSentBad _ _ _).mono ?_
      rintro e w2 ⟨rfl, b⟩
      rw [e1, e2]
      replace L := L.below b
      clear b c0 c1 e1 e2 hlt hk
      go_upto_region 10 with fail
      have N := Bc.made w2 (.int .i64 256) (.int .i64 0)
      have hn : gc < w2.heap.size := L.box.lt
      replace L := L.below ((Below.refl _ _).alloc (Nat.le_refl _) (.cells #[.int .i64 256, .int .i64 0] 28))
      generalize w2.alloc (.cells #[.int .i64 256, .int .i64 0] 28) = W2 at L N ⊢
      generalize w2.heap.size = gn at N hn ⊢
      go_wp2_with fail
      refine (throwAny (B := w.heap.size) (a := a) (len := len) (cap := cap) 20 _ (by omega) (by omega) L.st).mono ?_
      rintro e w3 ⟨x, x0, x1, rfl, g3, s3⟩
      have hpn : w.heap.size < gn := Nat.lt_trans L.lt hn
      replace N := N.kept g3 (by simp; omega)
      replace L := L.throw g3 s3
      clear g3 s3
      have c0 := N.c0
      have c1 := N.c1
      go_upto_region 12 with fail
      have E := Bc.made w3 (.int .i64 256) (.int .i64 0)
      have he : gn < w3.heap.size := N.lt
      have T : LT w gc gn w3.heap.size 256 (w3.alloc (.cells #[.int .i64 256, .int .i64 0] 28)) := by
        have bb : Below w3.heap.size w3 (w3.alloc (.cells #[.int .i64 256, .int .i64 0] 28)) := (Below.refl _ _).alloc (Nat.le_refl _) _
        exact ⟨Below.then2 L.grown bb, Bc.below L.box bb, Bc.below N bb, E, L.grown.size, by omega, by omega⟩
      generalize w3.alloc (.cells #[.int .i64 256, .int .i64 0] 28) = W3 at T ⊢
      generalize w3.heap.size = ge at T ⊢
      clear L N E c0 c1 hn hpn he
      go_wp2_with fail
      go_loopw [9] (fun i wr => ∃ k : Nat, (k : Int) ≤ x ∧ i = .int .i64 k ∧ LT w gc gn ge (256 - (k : Int)) wr) (fun i _ => x.toNat - (intOf i).toNat)
      case atStart => exact ⟨0, x0, rfl, T⟩
      case round =>
        clear T
        obtain ⟨k, hk, rfl, T⟩ := hrel
        have c0 := T.be.c0
        have c1 := T.be.c1
        by_cases hlt : (k : Int) < x
        · have hok : cOk (256 - (k : Int)) 0 = true := cOk_iff.2 (by omega)
          have e1 : swA (256 - (k : Int)) 0 = 256 - ((k + 1 : Nat) : Int) := by simp only [swA, hok, reduceIte]; omega
          have e2 : swB (256 - (k : Int)) 0 = 0 := by simp only [swB, hok, reduceIte]
          go_wp2_with fail
          refine (implSentWell _ _ _).mono ?_
          rintro e w4 ⟨rfl, b⟩
          rw [e1, e2]
          replace T := T.below b
          clear b c0 c1 e1 e2 hok
          have c0 := T.be.c0
          have c1 := T.be.c1
          have f0 := T.be.free 0
          have f1 := T.be.free 1
          go_wp2_with fail
          go_roundw
          case rel => exact ⟨k + 1, by omega, by go_num, T.put _⟩
          case measure => simp [intOf]; omega
        · obtain rfl : (k : Int) = x := by omega
          clear c0 c1
          go_wp2_with fail
          refine (drawState (B := w.heap.size) _ (cd.below T.grown (Nat.le_refl _)) T.grown.size).mono ?_
          rintro e w5 ⟨s, g, rfl, b⟩
          replace T := T.below b
          clear b
          go_upto_region 17 with fail
          have X := Bc.made w5 (.int .i64 s) (.int .i64 g)
          replace T := T.below ((Below.refl _ _).alloc (Nat.le_refl _) (.cells #[.int .i64 s, .int .i64 g] 28))
          generalize w5.alloc (.cells #[.int .i64 s, .int .i64 g] 28) = W5 at T X ⊢
          generalize w5.heap.size = gx at X ⊢
          go_wp2_with fail
          refine (implStateOf _ _ _).mono ?_
          rintro e w6 ⟨rfl, b⟩
          rw [show stV 0 0 = 0 from by decide]
          replace T := T.below b
          replace X := Bc.below X b
          clear b
          have c0 := T.bc.c0
          have c1 := T.bc.c1
          go_wp2_with fail
          refine (implStateOf _ _ _).mono ?_
          rintro e w7 ⟨rfl, b⟩
          rw [show stV 248 0 = 1 from by decide]
          replace T := T.below b
          replace X := Bc.below X b
          clear b c0 c1
          have c0 := T.bn.c0
          have c1 := T.bn.c1
          go_wp2_with fail
          refine (implStateOf _ _ _).mono ?_
          rintro e w8 ⟨rfl, b⟩
          rw [show stV 256 0 = 2 from by decide]
          replace T := T.below b
          replace X := Bc.below X b
          clear b c0 c1
          have c0 := T.be.c0
          have c1 := T.be.c1
          go_wp2_with fail
          refine (implStateOf _ _ _).mono ?_
          rintro e w9 ⟨rfl, b⟩
          replace T := T.below b
          replace X := Bc.below X b
          clear b c0 c1
          have c0 := T.be.c0
          have hw : IntKind.i64.wrap (256 - (k : Int)) = 256 - (k : Int) := IntWalk.i64_in _ (by omega)
          have hok : cOk (256 - (k : Int)) 0 = true := cOk_iff.2 (by omega)
          have hc : (stV (256 - (k : Int)) 0 == 2) = ((k : Int) == 0) := by
            by_cases h0 : (k : Int) = 0
            · rw [h0]; decide
            · have h1 : stV (256 - (k : Int)) 0 ≠ 2 := by simp only [stV, hok, reduceIte]; omega
              rw [beq_eq_false_iff_ne.2 h1, beq_eq_false_iff_ne.2 h0]
          go_upto_region 19 with fail
          have L : LC w gx s g w9 := ⟨X, T.grown⟩
          clear X T c0 hw hok hc
          refine region_class (LC w gx s g) (by kernel_rfl) (by kernel_rfl) L.drew ?_
          repeat first
            | go_big_quiet_skip
            | (go_big_quiet_want
               apply Exists.intro
               refine ⟨fun u hu => ?_, ?_⟩
               · apply quietAt_val
                 have x0 := hu.1.c0
                 have x1 := hu.1.c1
                 go_simp
                 rfl
               simp only [Act.put, List.setIfInBounds_toArray, List.set_cons_zero, List.set_cons_succ]
               go_big_quiet_on)
            | (go_big_quiet_want
               apply Exists.intro
               refine ⟨fun u hu => ?_, ?_⟩
               · apply quietAt_val
                 go_simp
                 exact congrArg (fun b => Result.ok (Next.value (Value.bool b)) _) (beq_self_eq_true _)
               simp only [Act.put, List.setIfInBounds_toArray, List.set_cons_zero, List.set_cons_succ]
               go_big_quiet_on)
            | (go_big_quiet_want
               apply Exists.intro
               refine ⟨fun u hu => ?_, ?_⟩
               · apply quietAt_enter 16 #[cV s g]
                 · go_simp
                 · refine (implStateOf s g u).mono ?_
                   rintro e w2 ⟨rfl, b2⟩
                   exact ⟨rfl, hu.below b2⟩
               simp only [Act.put, List.setIfInBounds_toArray, List.set_cons_zero, List.set_cons_succ]
               go_big_quiet_on)
            | (go_big_quiet_want
               apply Exists.intro
               refine ⟨fun u hu => ?_, ?_⟩
               · apply quietAt_enter 17 #[cV s g]
                 · go_simp
                 · refine (specStateOf s g u).mono ?_
                   rintro e w2 ⟨rfl, b2⟩
                   exact ⟨rfl, hu.below b2⟩
               simp only [Act.put, List.setIfInBounds_toArray, List.set_cons_zero, List.set_cons_succ]
               go_big_quiet_on)
            | (go_big_quiet_want
               apply Exists.intro
               refine ⟨fun u hu => ?_, ?_⟩
               · apply quietAt_enter 14 #[cV s g]
                 · go_simp
                 · refine (implSentWell s g u).mono ?_
                   rintro e w2 ⟨rfl, b2⟩
                   exact ⟨rfl, hu.below b2⟩
               simp only [Act.put, List.setIfInBounds_toArray, List.set_cons_zero, List.set_cons_succ]
               go_big_quiet_on)
            | (go_big_quiet_want
               apply Exists.intro
               refine ⟨fun u hu => ?_, ?_⟩
               · apply quietAt_enter 18 #[cV s g]
                 · go_simp
                 · refine (specSentWell s g u).mono ?_
                   rintro e w2 ⟨rfl, b2⟩
                   exact ⟨rfl, hu.below b2⟩
               simp only [Act.put, List.setIfInBounds_toArray, List.set_cons_zero, List.set_cons_succ]
               go_big_quiet_on)
            | (go_big_quiet_want
               apply Exists.intro
               refine ⟨fun u hu => ?_, ?_⟩
               · apply quietAt_enter 19 #[cV s g]
                 · go_simp
                 · refine (implGotWell s g u).mono ?_
                   rintro e w2 ⟨rfl, b2⟩
                   exact ⟨rfl, hu.below b2⟩
               simp only [Act.put, List.setIfInBounds_toArray, List.set_cons_zero, List.set_cons_succ]
               go_big_quiet_on)
            | (go_big_quiet_want
               apply Exists.intro
               refine ⟨fun u hu => ?_, ?_⟩
               · apply quietAt_enter 20 #[cV s g]
                 · go_simp
                 · refine (specGotWell s g u).mono ?_
                   rintro e w2 ⟨rfl, b2⟩
                   exact ⟨rfl, hu.below b2⟩
               simp only [Act.put, List.setIfInBounds_toArray, List.set_cons_zero, List.set_cons_succ]
               go_big_quiet_on)
            | (go_big_quiet_want
               apply Exists.intro
               refine ⟨fun u hu => ?_, ?_⟩
               · apply quietAt_enter 12 #[cV s g]
                 · go_simp
                 · refine (implSentBad s g u).mono ?_
                   rintro e w2 ⟨rfl, b2⟩
                   exact ⟨rfl, hu.below b2⟩
               simp only [Act.put, List.setIfInBounds_toArray, List.set_cons_zero, List.set_cons_succ]
               go_big_quiet_on)
            | (go_big_quiet_want
               apply Exists.intro
               refine ⟨fun u hu => ?_, ?_⟩
               · apply quietAt_enter 21 #[cV s g]
                 · go_simp
                 · refine (specSentBad s g u).mono ?_
                   rintro e w2 ⟨rfl, b2⟩
                   exact ⟨rfl, hu.below b2⟩
               simp only [Act.put, List.setIfInBounds_toArray, List.set_cons_zero, List.set_cons_succ]
               go_big_quiet_on)
            | (go_big_quiet_want
               apply Exists.intro
               refine ⟨fun u hu => ?_, ?_⟩
               · apply quietAt_enter 22 #[cV s g]
                 · go_simp
                 · refine (implGotBad s g u).mono ?_
                   rintro e w2 ⟨rfl, b2⟩
                   exact ⟨rfl, hu.below b2⟩
               simp only [Act.put, List.setIfInBounds_toArray, List.set_cons_zero, List.set_cons_succ]
               go_big_quiet_on)
            | (go_big_quiet_want
               apply Exists.intro
               refine ⟨fun u hu => ?_, ?_⟩
               · apply quietAt_enter 23 #[cV s g]
                 · go_simp
                 · refine (specGotBad s g u).mono ?_
                   rintro e w2 ⟨rfl, b2⟩
                   exact ⟨rfl, hu.below b2⟩
               simp only [Act.put, List.setIfInBounds_toArray, List.set_cons_zero, List.set_cons_succ]
               go_big_quiet_on)
            | (go_big_quiet_want
               apply Exists.intro
               refine ⟨fun u hu => ?_, ?_⟩
               · apply quietAt_enter 24 #[cV s g]
                 · go_simp
                 · refine (implCountOkB s g u).mono ?_
                   rintro e w2 ⟨rfl, b2⟩
                   exact ⟨rfl, hu.below b2⟩
               simp only [Act.put, List.setIfInBounds_toArray, List.set_cons_zero, List.set_cons_succ]
               go_big_quiet_on)
            | (go_big_quiet_want
               apply Exists.intro
               refine ⟨fun u hu => ?_, ?_⟩
               · apply quietAt_enter 25 #[cV s g]
                 · go_simp
                 · refine (specCountOkB s g u).mono ?_
                   rintro e w2 ⟨rfl, b2⟩
                   exact ⟨rfl, hu.below b2⟩
               simp only [Act.put, List.setIfInBounds_toArray, List.set_cons_zero, List.set_cons_succ]
               go_big_quiet_on)
          refine wpQuiet_nil ?_
          intro W9 L9
          clear L
          go_wp2_with fail
          go_ret
          exact ⟨rfl, L9.2⟩

theorem laidOut : laidOutB Try.prog = true := by kernel_rfl

/-! ### The row's step of FnCounts. -/
set_option maxRecDepth 100000 in
theorem liftedFnCounts (os : Os) (started : os.Started) (H : Type) (enc : TypeId × Value → H) :
    ReturnsInHanded {} Try.checked os 3 .any (Rows.fnCountsSpec.pre6 enc Try.prog Try.f3 Rows.fnCountsRow.domain false) (Rows.fnCountsSpec.post enc Try.prog Try.f3 false true false false) := by
  refine returnsInHanded_of_change (C := Try.checked) own started (by kernel_rfl) Try.func3
    (ChangeSpec.witness6 (enc := enc) (C := Try.checked) false ⟨#[], #[.slice none 0 0], []⟩ 8 (by kernel_rfl) (by kernel_rfl) (by kernel_rfl) (by kernel_rfl)) ?_
  intro W base args ds gs before hval0 hW hcnd _
  have hval : ∀ (j : Nat) t v, Try.f3.params[j]? = some t → args[j]? = some v → Value.okWide Try.prog W .any base t v := hval0
  have hW' := hW
  obtain ⟨p, q, hA0, hV, rfl, hfz, hnd⟩ := hW
  have hA : DataW.TrodAll enc Try.prog W 0 (fun _ => true) true Try.f3.params.toList args.toList ds p := hA0
  rw [Try.params3] at hA hval
  obtain ⟨v0, vs0, d0, ds0, p0, q0, hargs, rfl, rfl, h0, r0⟩ := trodAll_cons hA
  obtain ⟨rfl, rfl, rfl⟩ := trodAll_nil r0
  obtain rfl : args = #[v0] := by cases args; simp_all
  obtain ⟨rfl, rfl⟩ := trodVars_none hV
  obtain ⟨a0, len0, cap0, rfl⟩ := okWide_slice Try.underlying22 (hval 0 22 v0 rfl rfl)
  have k0 := h0
  have lt0 : ∀ x ∈ p0, x.block < W.heap.size := by obtain ⟨m, hm⟩ := k0; exact DataW.trod_lt m _ _ _ hm
  have w0 : Code W.heap.size a0 len0 W := by
    obtain ⟨fuel, hf⟩ := h0
    rcases open_ints Try.underlying22 Try.underlying5 (by kernel_rfl) hf with ⟨hcs, _⟩ | ⟨x, l, c, zs, hcs, _, hl, hm, hz, _, hcell, hwz⟩
    · simp [Value.cells] at hcs
      obtain ⟨rfl, rfl, rfl⟩ := hcs
      exact ⟨by omega, fun j hj => absurd hj (by omega)⟩
    · simp [Value.cells] at hcs
      obtain ⟨rfl, rfl, rfl⟩ := hcs
      exact code_of hl hm (by simpa using hz) hcell hwz
  clear hA0 hval0
  refine (walkFnCounts a0 len0 cap0 W w0).mono fun e W' ⟨he, bel⟩ => ?_
  subst he
  exact ⟨_, rfl, _, _, _, [], _, [], hW', trodAll_mk1 (shut_bool Try.underlying4 _), (trodAll_cons_mk (Below.trod laidOut (by kernel_rfl) (of_decide_eq_true (by kernel_rfl)) k0 bel lt0) trodAll_mk0), rfl, bel.frame _, fun h => by cases h⟩

theorem fnCounts_holds : Rows.FnCountsSaid :=
  OpenClaim.holds_of_wide 3 Try.f3 rfl rfl rfl rfl rfl rfl rfl ⟨rfl, rfl, rfl, rfl, rfl⟩ rfl rfl rfl rfl rfl (by kernel_rfl) Try.func3 (by kernel_rfl)
    (of_decide_eq_true (by kernel_rfl)) (by unfold Func.isWrapper; first | (rw [if_pos (by decide +kernel)]; kernel_rfl) | (rw [if_neg (by decide +kernel)]; exact ⟨rfl, rfl⟩))
    (fun os started H enc _ => liftedFnCounts os started H enc)
#print axioms fnCounts_holds
end Go.Proofs.Ytcnikbpedcdojaa.lawCounts
