/- Contracts of the model's draws of frames (l4Draw, l4DrawAny): each answers some frame whose row is its own, and writes into nothing that was there but the cursor. -/
import Derived.Test.YthhhhfpgmolcmabFrM
import Derived.Deep.RegionLaw
import Derived.Deep.CutRange
set_option linter.unusedSimpArgs false
set_option linter.unusedVariables false
namespace Go.Proofs.Ythhhhfpgmolcmab
open Go.RowKit

/-- What a draw of a frame leaves. -/
def Drawn (B p : Nat) (a : Option Addr) (len cap : Nat) (N : Nat) (w : World) (e : Ending) (w' : World) : Prop :=
  ∃ (id : Int) (rm : Bool) (ln : Int) (D : List Int) (v : Value), e = .returned (.agg #[.int .i64 id, .bool rm, .int .i64 ln, v]) ∧ OwnI w.heap.size D v w' ∧ D.length ≤ N ∧ (Lit.int .i64 id).wf = true ∧ (Lit.int .i64 ln).wf = true ∧ w.grownBy w' (some p) ∧ St B p a len cap w'

/-- What a draw of a right frame leaves. -/
def DrawnOk (B p : Nat) (a : Option Addr) (len cap : Nat) (w : World) (e : Ending) (w' : World) : Prop :=
  ∃ (id : Int) (rm : Bool) (ln : Int) (D : List Int) (v : Value), e = .returned (.agg #[.int .i64 id, .bool rm, .int .i64 ln, v]) ∧ OwnI w.heap.size D v w' ∧ frOk id rm ln D = true ∧ w.grownBy w' (some p) ∧ St B p a len cap w'
theorem DrawnOk.drawn {B p : Nat} {a : Option Addr} {len cap : Nat} {w w' : World} {e : Ending} (h : DrawnOk B p a len cap w e w') : Drawn B p a len cap 8 w e w' := by
  obtain ⟨id, rm, ln, D, v, he, o, hok, g, s⟩ := h
  simp only [frOk, inR, Bool.and_eq_true, decide_eq_true_eq] at hok
  obtain ⟨⟨⟨⟨⟨h0, h1⟩, h2⟩, h3⟩, h4⟩, _⟩ := hok
  exact ⟨id, rm, ln, D, v, he, o, by split at h4 <;> omega, Go.WalkArith.wf_i64 ⟨by omega, by omega⟩, Go.WalkArith.wf_i64 ⟨by omega, by omega⟩, g, s⟩
set_option maxHeartbeats 4000000 in
/-- spec.l4Draw. -/
theorem drawRight {B p : Nat} {a : Option Addr} {len cap : Nat} (w : World) (st : St B p a len cap w) :
    Calls Try.prog 32 #[.pointer (some ⟨p, 0, none⟩)] w (DrawnOk B p a len cap w) := by
  have hp := st.lt
  have R0 := Bx.made w (.int .i64 0) (.bool false) (.int .i64 0) (.slice none 0 0)
  have g0 := World.grownBy_alloc w (.cells #[.int .i64 0, .bool false, .int .i64 0, .slice none 0 0] 26) (some p)
  go_enter Try.func32, Try.ntmps32
  go_wp2_with fail
  refine (belowPos (B := B) (a := a) (len := len) (cap := cap) 12 _ (by omega) (by omega) (st.alloc _)).mono ?_
  rintro e w1 ⟨id, id0, id1, rfl, g1, s1⟩
  replace R0 := R0.kept g1 (by simp; omega)
  replace g1 := grown_trans g0 g1
  clear g0
  go_wp2_with fail
  refine (belowPos (B := B) (a := a) (len := len) (cap := cap) 4 _ (by omega) (by omega) s1).mono ?_
  rintro e w2 ⟨ln, ln0, ln1, rfl, g2, s2⟩
  replace R0 := R0.kept g2 (by simp; omega)
  replace g1 := grown_trans g1 g2
  clear g2 s1
  go_upto_region 2 with fail
  have F : FS w B p a len cap w.heap.size w2.heap.size id false ln [] (.slice none 0 0) (w2.alloc (.cells #[.int .i64 id, .bool false, .int .i64 ln, .slice none 0 0] 26)) := by
    have k := World.grownBy_alloc w2 (.cells #[.int .i64 id, .bool false, .int .i64 ln, .slice none 0 0] 26) (some p)
    have h1 := R0.lt
    exact ⟨s2.alloc _, grown_trans g1 k, R0.kept k (by simp; omega), Bx.made _ _ _ _ _, OwnI.nil _ _, hp, Nat.le_refl _, g1.size, by omega⟩
  generalize w2.alloc (.cells #[.int .i64 id, .bool false, .int .i64 ln, .slice none 0 0] 26) = W at F ⊢
  generalize w2.heap.size = gf at F ⊢
  generalize hgr : w.heap.size = gr at F ⊢
  clear R0 s2 g1 w2 w1
  go_wp2_with fail
  refine (onceAny (B := B) (a := a) (len := len) (cap := cap) 3 _ (by omega) (by omega) F.st).mono ?_
  rintro e w3 ⟨b, rfl, g3, s3⟩
  replace F := F.step g3 s3
  clear g3 s3
  go_upto_if 11 with fail
  go_cut [] (fun wx => ∃ id', 0 ≤ id' ∧ id' ≤ 2047 ∧ FS w B p a len cap gr gf id' false ln [] (.slice none 0 0) wx)
  case first =>
    cases b with
    | true =>
      go_wp2_with fail
      refine (belowPos (B := B) (a := a) (len := len) (cap := cap) 2048 _ (by omega) (by omega) F.st).mono ?_
      rintro e w4 ⟨i2, i20, i21, rfl, g4, s4⟩
      replace F := F.step g4 s4
      have c0 := F.box.c0
      have f0 := F.box.free 0
      go_wp2_with fail
      go_meet
      exact ⟨i2, i20, by omega, F.putId i2⟩
    | false =>
      go_wp2_with fail
      go_meet
      exact ⟨id, id0, by omega, F⟩
  case rest =>
  clear F
  obtain ⟨id', hid0, hid1, F⟩ := hcut
  clear id0 id1
  go_wp2_with fail
  refine (onceAny (B := B) (a := a) (len := len) (cap := cap) 6 _ (by omega) (by omega) F.st).mono ?_
  rintro e w3 ⟨b, rfl, g3, s3⟩
  replace F := F.step g3 s3
  clear g3 s3
  go_upto_if 16 with fail
  go_cut [] (fun wx => ∃ ln', 0 ≤ ln' ∧ ln' ≤ 8 ∧ FS w B p a len cap gr gf id' false ln' [] (.slice none 0 0) wx)
  case first =>
    cases b with
    | true =>
      go_wp2_with fail
      refine (belowPos (B := B) (a := a) (len := len) (cap := cap) 9 _ (by omega) (by omega) F.st).mono ?_
      rintro e w4 ⟨i2, i20, i21, rfl, g4, s4⟩
      replace F := F.step g4 s4
      have c2 := F.box.c2
      have f2 := F.box.free 2
      go_wp2_with fail
      go_meet
      exact ⟨i2, i20, by omega, F.putLn i2⟩
    | false =>
      go_wp2_with fail
      go_meet
      exact ⟨ln, ln0, by omega, F⟩
  case rest =>
  clear F
  obtain ⟨ln', l0, l1, F⟩ := hcut
  clear ln0 ln1
  go_wp2_with fail
  refine (onceAny (B := B) (a := a) (len := len) (cap := cap) 6 _ (by omega) (by omega) F.st).mono ?_
  rintro e w4 ⟨b, rfl, g3, s3⟩
  replace F := F.step g3 s3
  clear g3 s3
  cases b with
  | true =>
    have c1 := F.box.c1
    have f1 := F.box.free 1
    go_upto_region 8 with fail
    replace F := F.putRm true
    generalize w4.setCell ⟨gf, 1, none⟩ (.bool true) = W4 at F ⊢
    have r0 := F.box.c0
    have r1 := F.box.c1
    have r2 := F.box.c2
    have r3 := F.box.c3
    have y0 := F.res.c0
    have y1 := F.res.c1
    have y2 := F.res.c2
    have y3 := F.res.c3
    have q0 := F.res.free 0
    have q1 := F.res.free 1
    have q2 := F.res.free 2
    have q3 := F.res.free 3
    go_wp2_with fail
    obtain ⟨d0, d1, d2, d3⟩ := F.done
    generalize (((W4.setCell ⟨gr, 0, none⟩ (.int .i64 id')).setCell ⟨gr, 1, none⟩ (.bool true)).setCell ⟨gr, 2, none⟩ (.int .i64 ln')).setCell ⟨gr, 3, none⟩ (.slice none 0 0) = Wx at d0 d1 d2 d3 ⊢
    have z0 := d0.c0
    have z1 := d0.c1
    have z2 := d0.c2
    have z3 := d0.c3
    exact bodyPost_ret (v := .agg #[.int .i64 id', .bool true, .int .i64 ln', (.slice none 0 0)]) (by simp [results, Try.results32, go_sem, z0, z1, z2, z3]) rfl ⟨id', true, ln', [], (.slice none 0 0), rfl, d1, frOk_yes ⟨hid0, hid1, l0, l1⟩ rfl, d2, d3⟩
  | false =>
    have c2 := F.box.c2
    go_wp2_with fail
    clear c2
    go_loopw [4] (fun n wr => ∃ (i : Int) (D : List Int) (v : Value), n = .int .i64 i ∧ 0 ≤ i ∧ (D.length : Int) + i = ln' ∧ D.all byOk = true ∧ FS w B p a len cap gr gf id' false ln' D v wr) (fun n _ => (intOf n).toNat)
    case atStart => exact ⟨ln', [], _, rfl, l0, by simp, rfl, F⟩
    case round =>
      clear F
      obtain ⟨i, D, v, rfl, hi, hD, hby, F⟩ := hrel
      by_cases hlt : 0 < i
      · have G1 := F.drew
        have hp1 := G1.st.lt
        have hnf := World.new_ne wr _ F.box.c3
        have c3 := F.box.c3
        go_wp2_with fail
        go_region_law (first
          | (go_simp
             go_at_call_of 34 (Value.int .i64 256)
             refine (belowPos (B := B) (a := a) (len := len) (cap := cap) 256 _ (by omega) (by omega) G1.st).mono ?_
             rintro e w5 ⟨y, y0, y1, rfl, g5, s5⟩
             have G5 := G1.step g5 s5
             have c5 := G5.box.c3
             have c5a := (G5.alloc (.cells #[.int .i64 0, .int .i64 255, .int .i64 y] 2)).box.c3
             have hp5 := G5.st.lt)
          | (go_simp
             go_at_call_of 34 (Value.int .i64 3)
             refine (belowPos (B := B) (a := a) (len := len) (cap := cap) 3 _ (by omega) (by omega) ?_).mono ?_
             · first | exact (G5.alloc _).st | exact G5.st
             rintro e w6 ⟨x, x0, x1, rfl, g6, s6⟩
             have x2 : x < 3 := by omega
             have G6 : FS w B p a len cap gr gf id' false ln' D v w6 := by first | exact (G5.alloc _).step g6 s6 | exact G5.step g6 s6
             have c6 := G6.box.c3
             have hs6 : Hid (w6.heap.size + 1 = (w6.alloc (.cells #[.int .i64 0, .int .i64 255, .int .i64 y] 2)).heap.size) := Lib.hid (by simp)
             obtain ⟨z, hzw, hzb, hz, hzB⟩ : ∃ z, (Lit.int .i64 z).wf = true ∧ byOk z = true ∧ (#[.int .i64 0, .int .i64 255, .int .i64 y] : Array Value)[x.toNat]? = some (.int .i64 z) ∧
                 ∀ h : x.toNat < ([.int .i64 0, .int .i64 255, .int .i64 y] : List Value).length, ([.int .i64 0, .int .i64 255, .int .i64 y] : List Value)[x.toNat]'h = .int .i64 z := by
               have hx : x = 0 ∨ x = 1 ∨ x = 2 := by omega
               rcases hx with rfl | rfl | rfl
               · exact ⟨0, by decide, by decide, rfl, fun _ => rfl⟩
               · exact ⟨255, by decide, by decide, rfl, fun _ => rfl⟩
               · exact ⟨y, Go.WalkArith.wf_i64 ⟨by omega, by omega⟩, byOk_yes y0 (by omega), rfl, fun _ => rfl⟩
             have c6a := (G6.alloc (.cells #[.int .i64 0, .int .i64 255, .int .i64 y] 2)).box.c3
             have c6b := (G6.alloc (.cells #[.int .i64 z] 2)).box.c3
             have c6c := ((G6.alloc (.cells #[.int .i64 0, .int .i64 255, .int .i64 y] 2)).alloc (.cells #[.int .i64 z] 2)).box.c3
             first | (have hzA := row_at _ _ g6 hp5 _ _ hz) | skip)
          | (refine step_appI rfl (.tmp 31) (.tmp 39) rfl w.heap.size D z v ?_ ?_ w6.heap.size 1 ?_ ?_ hzw ?_ ?_ ?_
             · simp [Act.eval, Act.put]
             · exact (G6.alloc _).own
             · simp [Act.eval, Act.put]
             · exact World.cell?_alloc_at _ _ _ _ rfl
             · omega
             · have := G6.grown.size
               simp
               try omega
             intro av cv w8 own8 g8
             have G7 := G6.alloc (.cells #[.int .i64 z] 2)
             have B8 := G7.box.kept g8 (G7.own.ne_box G7.box).symm
             have c8 := B8.c3
             have f8 := B8.free 3
             have G9 := G7.app own8 g8)
          | (refine step_appI rfl (.tmp 31) (.tmp 39) rfl w.heap.size D z v ?_ ?_ (w6.heap.size + 1) 1 ?_ ?_ hzw ?_ ?_ ?_
             · simp [Act.eval, Act.put]
             · exact ((G6.alloc _).alloc _).own
             · simp [Act.eval, Act.put]
             · exact World.cell?_alloc_at _ _ _ _ hs6.out
             · omega
             · have := G6.grown.size
               simp
               try omega
             intro av cv w8 own8 g8
             have G7 := (G6.alloc (.cells #[.int .i64 0, .int .i64 255, .int .i64 y] 2)).alloc (.cells #[.int .i64 z] 2)
             have B8 := G7.box.kept g8 (G7.own.ne_box G7.box).symm
             have c8 := B8.c3
             have f8 := B8.free 3
             have G9 := G7.app own8 g8))
        all_goals
          clear hzB hz c3 c5 c5a c6 c6a c6b c6c
          go_wp2_with fail
          go_roundw
          case rel => exact ⟨i - 1, D ++ [z], _, rfl, by omega, by simp; omega, by rw [List.all_append, hby]; simp [hzb], G9⟩
          case measure => simp [intOf]; omega
      · obtain ⟨av, cv, rfl, _⟩ := F.own.nums
        have c0 := F.box.c0
        have r0 := F.box.c0
        have r1 := F.box.c1
        have r2 := F.box.c2
        have r3 := F.box.c3
        have y0 := F.res.c0
        have y1 := F.res.c1
        have y2 := F.res.c2
        have y3 := F.res.c3
        have q0 := F.res.free 0
        have q1 := F.res.free 1
        have q2 := F.res.free 2
        have q3 := F.res.free 3
        go_wp2_with fail
        obtain ⟨d0, d1, d2, d3⟩ := F.done
        generalize (((wr.setCell ⟨gr, 0, none⟩ (.int .i64 id')).setCell ⟨gr, 1, none⟩ (.bool false)).setCell ⟨gr, 2, none⟩ (.int .i64 ln')).setCell ⟨gr, 3, none⟩ (.slice av D.length cv) = Wx at d0 d1 d2 d3 ⊢
        have z0 := d0.c0
        have z1 := d0.c1
        have z2 := d0.c2
        have z3 := d0.c3
        exact bodyPost_ret (v := .agg #[.int .i64 id', .bool false, .int .i64 ln', .slice av D.length cv]) (by simp [results, Try.results32, go_sem, z0, z1, z2, z3]) rfl ⟨id', false, ln', D, .slice av D.length cv, rfl, d1, (frOk_yes ⟨hid0, hid1, l0, l1⟩ (by rw [if_neg (by decide)]; omega)).trans hby, d2, d3⟩
theorem drawFr {B p : Nat} {a : Option Addr} {len cap : Nat} (w : World) (st : St B p a len cap w) :
    Calls Try.prog 32 #[.pointer (some ⟨p, 0, none⟩)] w (Drawn B p a len cap 8 w) := (drawRight w st).mono fun _ _ h => h.drawn
end Go.Proofs.Ythhhhfpgmolcmab
