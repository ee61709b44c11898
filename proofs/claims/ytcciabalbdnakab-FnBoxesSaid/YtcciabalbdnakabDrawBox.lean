/- The model's draws of a box: l9Draw, l9DrawAny. -/
import Derived.Test.YtcciabalbdnakabSizes
import Derived.Test.YtcciabalbdnakabFrAny
import Derived.Test.YtcciabalbdnakabDraws1
import Derived.Deep.DeepCutAuto
set_option linter.unusedVariables false
set_option linter.unusedSimpArgs false
set_option maxRecDepth 20000
namespace Go.Proofs.Ytcciabalbdnakab
open Go.RowKit

def lenV : Value → Nat | .slice _ n _ => n | _ => 0
/-- What stands while a box is drawn: the slice s holds frames in rows of the call's own. -/
def BoxAt (B p : Nat) (a : Option Addr) (len cap : Nat) (N : Nat) (w : World) (s : Value) (wx : World) : Prop :=
  ∃ (L : List Frm) (M : List (Frm × Value)) (g c : Nat), s = .slice (some ⟨g, 0, none⟩) L.length c ∧ (M.map fun m => m.1) = L ∧ OwnF w.heap.size M (.slice (some ⟨g, 0, none⟩) L.length c) wx ∧ L.length ≤ N ∧ (∀ x ∈ L, x.D.length ≤ 9) ∧ w.grownBy wx (some p) ∧ St B p a len cap wx
/-- What a draw of a box leaves. -/
def DrewB (B p : Nat) (a : Option Addr) (len cap : Nat) (N : Nat) (w : World) (e : Ending) (w' : World) : Prop := ∃ s, e = .returned s ∧ BoxAt B p a len cap N w s w'
theorem BoxAt.more {B p : Nat} {a : Option Addr} {len cap N N' : Nat} {w wx : World} {s : Value} (h : BoxAt B p a len cap N w s wx) (hN : N ≤ N') : BoxAt B p a len cap N' w s wx := by
  obtain ⟨L, M, g, c, h1, h2, h3, h4, h5⟩ := h
  exact ⟨L, M, g, c, h1, h2, h3, by omega, h5⟩

set_option maxHeartbeats 2000000 in
/-- spec.l9Draw. -/
theorem drawBox {B p : Nat} {a : Option Addr} {len cap : Nat} (w : World) (st : St B p a len cap w) :
    Calls Try.prog 81 #[.pointer (some ⟨p, 0, none⟩), .int .i64 5] w (DrewB B p a len cap 16 w) := by
  go_enter Try.func81, Try.ntmps81
  have own0 := own_made w (Nat.le_refl _)
  have g0 := World.grownBy_alloc w (.cells #[] 26) (some p)
  have s0 := st.alloc (.cells #[] 26)
  have hp := st.lt
  go_upto_region 2 with fail
  generalize w.alloc (.cells #[] 26) = W at *
  go_wp2_with fail
  refine (belowPos (B := B) (a := a) (len := len) (cap := cap) 6 _ (by omega) (by omega) s0).mono ?_
  rintro e w1 ⟨n, n0, n1, rfl, g1, s1⟩
  replace own0 := own0.cur s0 g1
  replace g0 := grown_trans g0 g1
  clear g1 s0 st
  obtain ⟨n, rfl⟩ := Int.eq_ofNat_of_zero_le n0
  have start : BoxAt B p a len cap 16 w (.slice (some ⟨w.heap.size, 0, none⟩) 0 0) w1 := ⟨[], [], w.heap.size, 0, rfl, rfl, own0, Nat.zero_le _, (fun x hx => by cases hx), g0, s1⟩
  clear own0 g0 s1
  replace start := Lib.hid start
  go_wp2_with fail
  go_loopw [5, 6] (fun l i wr => ∃ n : Nat, i = .int .i64 n ∧ n ≤ 5 ∧ BoxAt B p a len cap 16 w l wr) (fun _ i _ => (intOf i).toNat)
  case atStart => exact ⟨n, rfl, by omega, start.out⟩
  case round =>
    clear start n0 n1
    obtain ⟨n, rfl, hn, L, M, g, c, rfl, hM, O, hL, h9, gr, s⟩ := hrel
    by_cases h0 : n = 0
    · subst h0
      replace h9 := Lib.hid h9
      replace hM := Lib.hid hM
      go_wp2_with fail
      go_ret
      exact ⟨_, rfl, L, M, g, c, rfl, hM.out, O, hL, h9.out, gr, s⟩
    · have hpos : (0 : Int) < n := by omega
      replace hM := Lib.hid hM
      clear h9
      go_wp2_with fail
      refine (drawFr (B := B) (a := a) (len := len) (cap := cap) _ s).mono ?_
      rintro e w3 ⟨id, rm, ln, D, dv, rfl, oA, hD, hi, hl, g3, s3⟩
      have O3 := O.cur s g3
      have g4 := grown_trans gr g3
      have F3 := O3.frsOf hM.out (by omega)
      obtain ⟨ad, cd, rfl, hn3⟩ := oA.nums
      clear O gr s g3 oA hM
      have HP := specPutIn (some ⟨g, 0, none⟩) L c id rm ln ad D cd w3 F3 hn3
      have HL := lean_put L ⟨id, rm, ln, D⟩
      generalize putV L ⟨id, rm, ln, D⟩ = RR at HP HL
      obtain ⟨X, kc⟩ := RR
      simp only at HL
      replace HL := Lib.hid HL
      clear F3 hn3 O3
      go_wp2_with fail
      refine HP.mono ?_
      intro e w4 h4
      obtain ⟨M4, g5, c4, rfl, hM4, O4, k4⟩ := h4.parts
      have s4 := s3.below k4
      replace O4 := O4.mono g4.size
      replace g4 := grown_trans g4 (grown_some (grown_at k4) (some p))
      replace hM4 := Lib.hid hM4
      clear k4 s3 HP h4
      go_wp2_with fail
      go_roundw
      case rel => exact ⟨n - 1, by congr 1; omega, by omega, X, M4, g5, c4, rfl, hM4.out, O4, HL.out.1, fun x hx => by have := HL.out.2 x hx; omega, g4, s4⟩
      case measure => simp [intOf]; omega
set_option maxHeartbeats 4000000 in
/-- spec.l9DrawAny. -/
theorem drawAnyBox {B p : Nat} {a : Option Addr} {len cap : Nat} (w : World) (st : St B p a len cap w) :
    Calls Try.prog 58 #[.pointer (some ⟨p, 0, none⟩)] w (DrewB B p a len cap 17 w) := by
  have hp := st.lt
  go_enter Try.func58, Try.ntmps58
  go_wp2_with fail
  refine (drawBox (B := B) (a := a) (len := len) (cap := cap) w st).mono ?_
  rintro e w1 ⟨v, rfl, L, M, g, c, rfl, hM, O, hL, h9, gr, s⟩
  clear st
  replace hM := Lib.hid hM
  replace h9 := Lib.hid h9
  go_wp2_with fail
  refine (onceAny (B := B) (a := a) (len := len) (cap := cap) 10 _ (by omega) (by omega) s).mono ?_
  rintro e w2 ⟨b, rfl, g2, s2⟩
  replace O := O.cur s g2
  replace gr := grown_trans gr g2
  clear s g2
  go_upto_if 7 with fail
  go_cut [3] (fun v wx => BoxAt B p a len cap 16 w v wx)
  case first =>
    cases b with
    | false =>
      go_wp2_with fail
      go_meet
      exact ⟨L, M, g, c, rfl, hM.out, O, hL, h9.out, gr, s2⟩
    | true =>
      clear O hM h9 hL
      have own0 := own_made w2 gr.size
      have g3 := grown_trans gr (World.grownBy_alloc w2 (.cells #[] 26) (some p))
      have s3 := s2.alloc (.cells #[] 26)
      have start : BoxAt B p a len cap 16 w (.slice (some ⟨w2.heap.size, 0, none⟩) 0 0) (w2.alloc (.cells #[] 26)) := ⟨[], [], w2.heap.size, 0, rfl, rfl, own0, Nat.zero_le _, (fun x hx => by cases hx), g3, s3⟩
      replace start := Lib.hid start
      clear own0 g3 s3
      go_wp2_with fail
      go_loopw [3] (fun l wr => BoxAt B p a len cap 16 w l wr) (fun l _ => 16 - lenV l)
      case atStart => exact start.out
      case round =>
        clear start gr s2
        obtain ⟨L, M, g, c, rfl, hM, O, hL, h9, gr, s⟩ := hrel
        replace hM := Lib.hid hM
        replace h9 := Lib.hid h9
        by_cases hlt : L.length < 16
        · have hli : (L.length : Int) < 16 := by omega
          have hml : M.length = L.length := by rw [← hM.out]; simp
          have O1 := O.stay (World.grownBy_alloc wr (.cells #[.int .i64 (100 + 10 * (L.length : Int)), .bool false, .int .i64 0, .slice none 0 0] 26) none)
          have s1 := s.alloc (.cells #[.int .i64 (100 + 10 * (L.length : Int)), .bool false, .int .i64 0, .slice none 0 0] 26)
          have g1 := grown_trans gr (World.grownBy_alloc wr (.cells #[.int .i64 (100 + 10 * (L.length : Int)), .bool false, .int .i64 0, .slice none 0 0] 26) (some p))
          have nil1 := OwnI.nil (wr.alloc (.cells #[.int .i64 (100 + 10 * (L.length : Int)), .bool false, .int .i64 0, .slice none 0 0] 26)) w.heap.size
          have hmb : M.length ≤ 2000000 := by omega
          have hsz := g1.size
          have hne := O1.ne_cur s1
          have hlow := fun q e => (O1.1.lt q e).1
          have hsl : L.length ≤ 16 := hL
          replace hml := Lib.hid hml
          clear O s gr
          go_wp2_with (at_builtin; go_loud (refine wpList_appF rfl _ _ rfl w.heap.size M ⟨100 + 10 * (L.length : Int), false, 0, []⟩ (.slice none 0 0) _ rfl O1 nil1 wr.heap.size 1 rfl (World.cell?_alloc_at _ _ _ _ rfl) (World.cell?_alloc_at _ _ _ _ rfl) (World.cell?_alloc_at _ _ _ _ rfl) (World.cell?_alloc_at _ _ _ _ rfl) hmb hsz ?_))
          intro av2 cv2 w4 O4 k4
          have s4 := s1.step k4 (fun k e => by have h2 := hlow k e; omega)
          have g4 := grown_own g1 k4 (hlow g rfl)
          obtain ⟨gg, rfl, -, -, -, -⟩ := O4.form (by simp)
          clear k4 s1 g1 O1 hne hlow hsz
          have hll : (L ++ [(⟨100 + 10 * (L.length : Int), false, 0, []⟩ : Frm)]).length = M.length + 1 := by rw [hml.out]; simp
          replace hll := Lib.hid hll
          replace hM := Lib.hid (map_snoc (f := ⟨100 + 10 * (L.length : Int), false, 0, []⟩) (v := .slice none 0 0) hM.out)
          go_wp2_with fail
          go_roundw
          case rel =>
            refine ⟨L ++ [⟨100 + 10 * (L.length : Int), false, 0, []⟩], _, gg, cv2, by rw [hll.out] <;> rfl, hM.out, by rw [hll.out]; exact O4, by rw [hll.out, hml.out]; omega, fun x hx => ?_, g4, s4⟩
            rcases List.mem_append.1 hx with hx | hx
            · exact h9.out x hx
            · simp at hx; subst hx; simp
          case measure => simp [lenV, hml.out]; omega
        · have hge : ¬ (L.length : Int) < 16 := by omega
          go_wp2_with fail
          go_meet
          exact ⟨L, M, g, c, rfl, hM.out, O, hL, h9.out, gr, s⟩
  case rest =>
  clear O hM h9 gr s2 hL
  obtain ⟨L, M, g, c, rfl, hM, O, hL, h9, gr, s⟩ := hcut
  generalize wc = w3 at *
  replace hM := Lib.hid hM
  replace h9 := Lib.hid h9
  go_wp2_with fail
  refine (onceAny (B := B) (a := a) (len := len) (cap := cap) 8 _ (by omega) (by omega) s).mono ?_
  rintro e w4 ⟨b, rfl, g2, s2⟩
  replace O := O.cur s g2
  replace gr := grown_trans gr g2
  clear s g2
  cases b with
  | false =>
    go_wp2_with fail
    go_ret
    exact ⟨_, rfl, L, M, g, c, rfl, hM.out, O, by omega, h9.out, gr, s2⟩
  | true =>
    have hml : M.length = L.length := by rw [← hM.out]; simp
    go_wp2_with fail
    refine (drawAnyFr (B := B) (a := a) (len := len) (cap := cap) _ s2).mono ?_
    rintro e w5 ⟨id, rm, ln, D, dv, rfl, oA, hD, hi, hl, g3, s3⟩
    replace O := O.cur s2 g3
    replace oA := oA.mono gr.size
    replace gr := grown_trans gr g3
    obtain ⟨ad, cd, rfl, -⟩ := oA.nums
    clear s2 g3
    have O1 := O.stay (World.grownBy_alloc w5 (.cells #[.int .i64 id, .bool rm, .int .i64 ln, .slice ad D.length cd] 26) none)
    have o1 := oA.stay (World.grownBy_alloc w5 (.cells #[.int .i64 id, .bool rm, .int .i64 ln, .slice ad D.length cd] 26) none)
    have s1 := s3.alloc (.cells #[.int .i64 id, .bool rm, .int .i64 ln, .slice ad D.length cd] 26)
    have g1 := grown_trans gr (World.grownBy_alloc w5 (.cells #[.int .i64 id, .bool rm, .int .i64 ln, .slice ad D.length cd] 26) (some p))
    have hmb : M.length ≤ 2000000 := by omega
    have hsz := g1.size
    have hlow := fun q e => (O1.1.lt q e).1
    have hne := O1.ne_cur s1
    replace hml := Lib.hid hml
    clear O s3 gr oA
    go_wp2_with (at_builtin; go_loud (refine wpList_appF rfl _ _ rfl w.heap.size M ⟨id, rm, ln, D⟩ (.slice ad D.length cd) _ rfl O1 o1 w5.heap.size 1 rfl (World.cell?_alloc_at _ _ _ _ rfl) (World.cell?_alloc_at _ _ _ _ rfl) (World.cell?_alloc_at _ _ _ _ rfl) (World.cell?_alloc_at _ _ _ _ rfl) hmb hsz ?_))
    intro av2 cv2 w6 O4 k4
    have s4 := s1.step k4 (fun k e => by have h2 := hlow k e; omega)
    have g4 := grown_own g1 k4 (hlow g rfl)
    obtain ⟨gg, rfl, -, -, -, -⟩ := O4.form (by simp)
    clear k4 s1 g1 O1 hne hlow hsz
    clear o1
    have hll : (L ++ [(⟨id, rm, ln, D⟩ : Frm)]).length = M.length + 1 := by rw [hml.out]; simp
    replace hll := Lib.hid hll
    replace hM := Lib.hid (map_snoc (f := ⟨id, rm, ln, D⟩) (v := .slice ad D.length cd) hM.out)
    go_wp2_with fail
    go_ret
    refine ⟨_, rfl, L ++ [⟨id, rm, ln, D⟩], _, gg, cv2, by rw [hll.out] <;> rfl, hM.out, by rw [hll.out]; exact O4, by rw [hll.out, hml.out]; omega, fun x hx => ?_, g4, s4⟩
    rcases List.mem_append.1 hx with hx | hx
    · exact h9.out x hx
    · simp at hx; subst hx; exact hD
end Go.Proofs.Ytcciabalbdnakab
