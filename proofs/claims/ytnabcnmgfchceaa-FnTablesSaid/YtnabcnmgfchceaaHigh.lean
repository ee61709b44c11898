/- impl.HigherOf: a row of its own. -/
import Derived.Test.YtnabcnmgfchceaaSorted
set_option linter.unusedVariables false
set_option linter.unusedSimpArgs false
set_option maxRecDepth 20000
namespace Go.Proofs.Ytnabcnmgfchceaa
open Go.RowKit Go.Maps

theorem few_of_sub {α : Type} [DecidableEq α] : ∀ {l m : List α}, l.Nodup → (∀ x ∈ l, x ∈ m) → l.length ≤ m.length
  | [], m, _, _ => Nat.zero_le _
  | x :: l, m, h, hs => by
    have hx := hs x (by simp)
    have h2 := List.nodup_cons.1 h
    have h3 := few_of_sub (l := l) (m := m.erase x) h2.2 fun y hy => (List.mem_erase_of_ne (fun e => h2.1 (by rw [← e]; exact hy))).2 (hs y (by simp [hy]))
    rw [List.length_erase_of_mem hx] at h3
    have := List.length_pos_of_mem hx
    simp only [List.length_cons]; omega
theorem AllP.few {H : Type} {T : List Ms} {x : Int} {left : Lit → Bool} {D : DataW H} (h : KeptV T x left D) (hl : T.length ≤ 12) : ∀ ps, AllP D ps → ps.length ≤ 12 := by
  intro ps hA
  have h1 : ∀ y ∈ ps.map (·.1), y ∈ T.map Ms.id := fun y hy => by
    obtain ⟨⟨j, hj, e⟩, _⟩ := (h.has y).1 ((hA.mem y).1 hy)
    rw [← e, nthTb_eq hj]
    exact List.mem_map_of_mem (List.getElem_mem hj)
  have h2 := few_of_sub hA.nd h1
  simp only [List.length_map] at h2
  omega
set_option maxHeartbeats 2000000 in
/-- impl.HigherOf. -/
theorem implHigherOf (a : Option Addr) (T : List Ms) (c : Nat) (i : Int) (w : World) (hd : Tbl a T w) :
    Calls Try.prog 12 #[.slice a T.length c, .int .i64 i] w fun e w' => ∃ v, e = .returned v ∧ OwnI w.heap.size (highV T i) v w' ∧ Below w.heap.size w w' := by
  have hm := hd.1
  unfold maxLen at hm
  have H1 := fun w h => implHasM a T c i w h
  go_enter Try.func12, Try.ntmps12
  go_wp2_with fail
  refine (H1 _ hd).mono ?_
  rintro e w1 ⟨rfl, b⟩
  clear H1
  cases hh : hasM T i with
  | false =>
    have HV := Lib.hid (highV_no hh)
    clear hh
    go_wp2_with fail
    go_ret
    exact ⟨_, rfl, by rw [HV.out]; exact OwnI.nil _ _, b⟩
  | true =>
    have HV := Lib.hid (highV_yes hh)
    obtain ⟨h0, hi0, hi1⟩ := hasM_iff.1 hh
    obtain ⟨hl, ho, hn⟩ := codeT_iff.1 h0
    clear hh h0
    obtain ⟨i, rfl⟩ := Int.eq_ofNat_of_zero_le hi0
    simp only [Int.toNat_natCast] at HV
    have hil : i < T.length := by omega
    have hd0 := hd
    replace hd := hd.below b
    have HP := Lib.hid (fun w h => implPlaces (H := Unit) a T c w h ho hl.2)
    replace hn := Lib.hid hn
    clear ho
    go_wp2_with fail
    refine (HP.out _ hd).mono ?_
    rintro e w2 ⟨rfl, O, b2⟩
    have hw1 := b.size
    replace b := Below.then2 b b2
    clear b2 hd HP
    generalize hB : w1.heap.size = B at *
    replace hB := Lib.hid hB
    have K0 := Lib.hid (KeptV.start (H := Unit) (x := (nthTb T i).id) hn.out)
    generalize plD (H := Unit) T T.length = D0 at *
    go_wp2_with (at_range; refine wpList_range_own _ rfl _ 52 rfl 2 2 mapLaw Try.underlying52 _ B T.length _ rfl O ?_; intro w3 hrg0 hg0 hs0)
    go_frame
    have hw2 := b.size
    go_loopw [6] (fun _ wr => ∃ (left : Lit → Bool) (cnt : Nat) (D : DataW Unit), wr.ranges Try.prog 2 (plainElem Try.prog 2) B w2.heap.size T.length D left cnt ∧ KeptV T (nthTb T i).id left D ∧ Below w.heap.size w wr)
      (fun _ wr => wr.rangeLeft B w2.heap.size)
    case atStart => exact ⟨_, _, _, hrg0, K0.out, b.grown hg0 b.size (fun q e => by cases e)⟩
    case round =>
      clear hrg0 hg0 hs0 K0 O b
      obtain ⟨left, cnt, D, hrg, hK, b⟩ := hrel
      replace hK := Lib.hid hK
      go_wp2_with (at_next; refine wpList_next_ranges_ii _ rfl _ rfl 2 2 .i64 .i64 mapLaw Try.underlying2 Try.underlying2 B w2.heap.size T.length _ _ _ rfl hrg ?_ ?_)
      · intro _ hl0
        have O := hrg.owns
        have HE := Lib.hid (fun ps hA => hK.out.ends hn.out hl0 (ps := ps) hA)
        have HF := Lib.hid (AllP.few hK.out hl.2)
        have hwr := b.size
        go_wp2_with fail
        refine ((callsIn_wide (n := 5)).1 (valuesIn Fence.wide 5 trivial rfl _ _)).mono ?_
        rintro e w5 ⟨rfl, rfl⟩
        have O5 := O.alloc (.cells #[.map (some B)] 52)
        have b5 := below_more b (.cells #[.map (some B)] 52)
        have hm5 : (wr.alloc (.cells #[.map (some B)] 52)).cell? ⟨wr.heap.size, 0, none⟩ = some (.map (some B)) := World.cell?_alloc_at _ _ _ _ rfl
        have hs5 : wr.heap.size < (wr.alloc (.cells #[.map (some B)] 52)).heap.size := by simp
        generalize wr.alloc (.cells #[.map (some B)] 52) = w5 at *
        generalize wr.heap.size = Bm at *
        clear hrg O b
        go_wp2_with fail
        refine (sortedVals Bm B T.length D hl.2 HF.out w5 hs5 hm5 O5).mono ?_
        rintro e w6 ⟨v, xs, Y, rfl, ⟨ps, hA, rfl⟩, hp, ho, hrow, b6⟩
        have hY := ord_rise (hp.trans (HE.out ps hA)) ho (highN_rise T i T.length)
        subst hY
        have hO : OwnI w.heap.size (highN T i T.length) v w6 := OwnI.mono ⟨hrow, fun x hx => by
          obtain ⟨j, hj, rfl, _⟩ := highN_mem.1 hx
          exact Go.WalkArith.wf_i64 ⟨by omega, by omega⟩⟩ b5.size
        have bb := Below.then2 b5 b6
        clear hA hp ho hrow b6 b5 HE HF
        go_wp2_with fail
        go_ret
        exact ⟨_, rfl, by rw [HV.out]; exact hO, bb⟩
      · intro x cc w4 cnt1 hwx hwc hlx hat hrg1 hlt hg1 hs1 hen
        have b1 := b.grown hg1 b.size (fun q e => by cases e; exact hw2)
        obtain ⟨g, o, rfl, c0, _⟩ := (hd0.below b1).2 i hil
        generalize hx : (nthTb T i).id = y at c0
        replace hx := Lib.hid hx
        by_cases hge : y ≤ x
        · have hK2 := Lib.hid (hK.out.struck (y := x) (by rw [hx.out]; exact hge))
          clear hK
          go_wp2_with (at_delete; refine wpList_delete_ranges _ rfl _ _ 52 2 rfl 2 mapLaw Try.underlying52 _ B w2.heap.size T.length _ _ _ rfl hrg1 _ _ rfl (keyOf_int_mk Try.underlying2 hwx) ?_; intro w5 cnt2 hrg2 hle hturn; go_frame)
          rw [strike_twice] at hrg2
          go_roundw
          case rel => exact ⟨_, cnt2, _, hrg2, hK2.out, b1.grown hturn.grown b1.size (fun q e => by cases e; exact Nat.le_trans hw1 (by have := hB.out; omega))⟩
          case measure => rw [hrg2.left_eq, hrg.left_eq]; omega
        · have hK2 := Lib.hid (hK.out.stays (y := x) (by rw [hx.out]; omega))
          clear hK
          go_wp2_with fail
          go_roundw
          case rel => exact ⟨_, cnt1, _, hrg1, hK2.out, b1⟩
          case measure => rw [hrg1.left_eq, hrg.left_eq]; exact hlt
end Go.Proofs.Ytnabcnmgfchceaa

