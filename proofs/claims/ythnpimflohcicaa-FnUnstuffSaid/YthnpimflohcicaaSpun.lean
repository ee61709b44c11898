/- The contract of the model's Unstuffed. -/
import Derived.Test.YthnpimflohcicaaUnst
import Derived.Test.YthnpimflohcicaaSpst
namespace Go.Proofs.Ythnpimflohcicaa
open Go.RowKit

theorem At5.more {p o : List UInt8} {c : UInt8} (h : unP p = some o) (h5 : run p ≠ 5) : unP (p ++ [c]) = some (o ++ [c]) := by
  rw [unP_snoc, h]; unfold unS; simp only; rw [if_neg h5]
theorem At5.paid {r o : List UInt8} {d c : UInt8} (h : unP (r ++ [d]) = some o) (h5 : run (r ++ [d]) = 5) (hne : d ≠ c) : unP (r ++ [d] ++ [c]) = some o ∧ run (r ++ [d] ++ [c]) = 1 := by
  refine ⟨?_, run_snoc_other r c d hne⟩
  rw [unP_snoc, h]; unfold unS; simp only; rw [if_pos h5, lastC_snoc, if_neg]
  intro e'; exact hne (UInt8.toNat_inj.1 (by omega))
theorem At5.wrong {r o : List UInt8} {d : UInt8} (h : unP (r ++ [d]) = some o) (h5 : run (r ++ [d]) = 5) : unP (r ++ [d] ++ [d]) = none := by
  rw [unP_snoc, h]; unfold unS; simp only; rw [if_pos h5, lastC_snoc, if_pos rfl]

theorem specUnstuffed (s : ByteArray) (w : World) (hs : s.size ≤ maxLen) :
    Calls Try.prog 19 #[.string s] w fun e w' => e = .returned (.tuple #[.string (unV s), .bool (unOk s)]) ∧ Below w.heap.size w w' := by
  have hs' := hs
  unfold maxLen at hs'
  cases hb : okB s with
  | false =>
    have HO := Lib.hid (unO_no hb)
    go_enter Try.func19, Try.ntmps19
    go_wp2_with (go_at_call 32; refine (specOk _ _ hs).mono ?_; rintro e w1 ⟨rfl, rfl⟩)
    go_ret2
    refine ⟨?_, Below.refl _ _⟩
    rw [unOk_none HO.out, unV_none HO.out]; rfl
  | true =>
    have HB := Lib.hid hb
    have hl := okB_size hb
    go_enter Try.func19, Try.ntmps19
    go_wp2_with fail
    refine (specOk _ _ hs).mono ?_
    rintro e w1 ⟨rfl, rfl⟩
    rw [hb]
    clear hb
    go_wp2_with fail
    go_loopw [4, 5, 6] (fun v r i wr => ∃ (k : Nat) (o : List UInt8), k ≤ s.size ∧ i = .int .i64 k ∧ r = .int .i64 (run (s.data.toList.take k)) ∧ Hid (unP (s.data.toList.take k) = some o) ∧ OwnB w.heap.size o v wr ∧ Below w.heap.size w wr) (fun _ _ i _ => s.size - (intOf i).toNat)
    case atStart => exact ⟨0, [], Nat.zero_le _, rfl, rfl, Lib.hid rfl, OwnB.made w, (Below.refl _ w).alloc (Nat.le_refl _) _⟩
    case round =>
      obtain ⟨k, o, hk, rfl, rfl, HU, HO, hB⟩ := hrel
      have hol : o.length ≤ 1000000 := by
        have h1 := unP_len _ _ HU.out
        rw [List.length_take] at h1
        have : s.data.toList.length = s.size := by simp
        omega
      have hsz := hB.size
      by_cases hlt : k < s.size
      · have hi := fun W : World => index_at s k k W hlt rfl
        have HX := Lib.hid (take_snoc s k hlt)
        cases k with
        | zero =>
          have HR : Hid (run (s.data.toList.take (0 + 1)) = 1) := Lib.hid (by rw [HX.out]; exact run_one _)
          have HN : Hid (unP (s.data.toList.take (0 + 1)) = some (o ++ [s[0]])) := Lib.hid (by rw [HX.out]; exact At5.more HU.out (by rw [List.take_zero]; decide))
          have hr0 : ((run (s.data.toList.take 0) : Nat) : Int) = 0 := by rw [List.take_zero]; rfl
          rw [hr0, show ((0 : Nat) : Int) = 0 from rfl]
          have hi := fun W : World => index_at s 0 0 W hlt rfl
          obtain ⟨g, cap, rfl, _⟩ := id HO
          clear hr0
          go_wp2_with fail
          go_quiet (fail)
          have HO1 := HO.drewN nq
          have HB1 := below_drewn hB nq
          generalize wr.drewN nq = w1 at HO1 HB1 ⊢
          clear HO hB hsz
          have hsz1 := HB1.size
          go_wp2_with (at_builtin; refine wpList_app8 rfl _ _ rfl w.heap.size o s[0] _ rfl (HO1.alloc _) w1.heap.size 1 rfl ?c1 ?c2 ?c3 ?_)
          case c1 => exact World.cell?_alloc_at _ _ _ _ rfl
          case c2 => exact hol
          case c3 => simp; omega
          intro v' w2 HO2 hb2
          have HB2 := (HB1.alloc hsz1 _).trans hb2
          clear HO1 HB1 hb2
          go_wp2_with fail
          go_roundw
          case rel => exact ⟨0 + 1, o ++ [s[0]], by omega, rfl, by rw [HR.out]; rfl, HN, HO2, HB2⟩
          case measure => simp [intOf]; omega
        | succ j =>
          have hj : j < s.size := by omega
          have hu5 : run (s.data.toList.take (j + 1)) ≤ 5 := (stuff_un _ (all_take HB.out _) _ HU.out).1
          have hr0 : 0 ≤ ((run (s.data.toList.take (j + 1)) : Nat) : Int) := by omega
          have HY := Lib.hid (take_snoc s j hj)
          rw [show ((j + 1 : Nat) : Int) = (j : Int) + 1 from by omega]
          have hi1 := fun W : World => index_at s ((j : Int) + 1) (j + 1) W hlt (by omega)
          have hi0 := fun W : World => index_at s j j W hj rfl
          have q1 : IntKind.i64.wrap (j : Int) = j := IntWalk.i64_in _ (by omega)
          clear hi
          by_cases h5 : run (s.data.toList.take (j + 1)) = 5
          · have h5' : ((run (s.data.toList.take (j + 1)) : Nat) : Int) = 5 := by omega
            rw [h5']
            by_cases hd : s[j] = s[j + 1]
            · have HN : Hid (unO s = none) := Lib.hid (unO_cut HB.out (j + 1 + 1) (by
                have h1 := HU.out
                rw [HY.out] at h1 h5
                rw [HX.out, HY.out, ← hd]; exact At5.wrong h1 h5))
              have hd' : (s[j + 1].toNat : Int) = (s[j].toNat : Int) := by rw [hd]
              clear h5 h5' hd hu5 hr0
              go_wp2_with fail
              go_quiet (fail)
              go_wp2_with fail
              go_ret2
              refine ⟨?_, below_drewn hB _⟩
              rw [unOk_none HN.out, unV_none HN.out]; rfl
            · have HN : Hid (unP (s.data.toList.take (j + 1 + 1)) = some o ∧ run (s.data.toList.take (j + 1 + 1)) = 1) := Lib.hid (by
                have h1 := HU.out
                rw [HY.out] at h1 h5
                rw [HX.out, HY.out]; exact At5.paid h1 h5 hd)
              have hd' : (s[j + 1].toNat : Int) ≠ (s[j].toNat : Int) := fun e => hd (UInt8.toNat_inj.1 (by omega))
              clear h5 h5' hd hu5 hr0
              go_wp2_with fail
              go_quiet (fail)
              have HO1 := HO.drewN nq
              have HB1 := below_drewn hB nq
              go_wp2_with fail
              go_roundw
              case rel => exact ⟨j + 1 + 1, o, by omega, by go_num, by rw [HN.out.2]; rfl, Lib.hid HN.out.1, HO1, HB1⟩
              case measure => simp [intOf]; omega
          · have HN : Hid (unP (s.data.toList.take (j + 1 + 1)) = some (o ++ [s[j + 1]])) := Lib.hid (by rw [HX.out]; exact At5.more HU.out h5)
            have hu4 : ((run (s.data.toList.take (j + 1)) : Nat) : Int) ≤ 4 := by omega
            have ht5 : (((run (s.data.toList.take (j + 1)) : Nat) : Int) == 5) = false := by simp; omega
            obtain ⟨g, cap, rfl, _⟩ := id HO
            by_cases hd : s[j] = s[j + 1]
            · have HR : Hid (run (s.data.toList.take (j + 1 + 1)) = run (s.data.toList.take (j + 1)) + 1) := Lib.hid (by rw [HX.out, HY.out, ← hd]; exact run_snoc_same _ _)
              have hd' : (s[j + 1].toNat : Int) = (s[j].toNat : Int) := by rw [hd]
              clear h5 hd hu5
              go_wp2_with fail
              go_quiet (fail)
              have HO1 := HO.drewN nq
              have HB1 := below_drewn hB nq
              generalize wr.drewN nq = w1 at HO1 HB1 ⊢
              clear HO hB hsz
              have hsz1 := HB1.size
              go_wp2_with (at_builtin; refine wpList_app8 rfl _ _ rfl w.heap.size o s[j + 1] _ rfl (HO1.alloc _) w1.heap.size 1 rfl ?c1 ?c2 ?c3 ?_)
              case c1 => rw [hd']; exact World.cell?_alloc_at _ _ _ _ rfl
              case c2 => exact hol
              case c3 => simp; omega
              intro v' w2 HO2 hb2
              have HB2 := (HB1.alloc hsz1 _).trans hb2
              clear HO1 HB1 hb2
              go_wp2_with fail
              go_roundw
              case rel => exact ⟨j + 1 + 1, o ++ [s[j + 1]], by omega, by go_num, by rw [HR.out]; rfl, HN, HO2, HB2⟩
              case measure => simp [intOf]; omega
            · have HR : Hid (run (s.data.toList.take (j + 1 + 1)) = 1) := Lib.hid (by rw [HX.out, HY.out]; exact run_snoc_other _ _ _ hd)
              have hd' : (s[j + 1].toNat : Int) ≠ (s[j].toNat : Int) := fun e => hd (UInt8.toNat_inj.1 (by omega))
              clear h5 hd hu5
              go_wp2_with fail
              go_quiet (fail)
              have HO1 := HO.drewN nq
              have HB1 := below_drewn hB nq
              generalize wr.drewN nq = w1 at HO1 HB1 ⊢
              clear HO hB hsz
              have hsz1 := HB1.size
              go_wp2_with (at_builtin; refine wpList_app8 rfl _ _ rfl w.heap.size o s[j + 1] _ rfl (HO1.alloc _) w1.heap.size 1 rfl ?c1 ?c2 ?c3 ?_)
              case c1 => exact World.cell?_alloc_at _ _ _ _ rfl
              case c2 => exact hol
              case c3 => simp; omega
              intro v' w2 HO2 hb2
              have HB2 := (HB1.alloc hsz1 _).trans hb2
              clear HO1 HB1 hb2
              go_wp2_with fail
              go_roundw
              case rel => exact ⟨j + 1 + 1, o ++ [s[j + 1]], by omega, by go_num, by rw [HR.out]; rfl, HN, HO2, HB2⟩
              case measure => simp [intOf]; omega
      · obtain rfl : k = s.size := by omega
        have hta := take_all s s.size (Nat.le_refl _)
        rw [hta] at HU ⊢
        by_cases h5 : run s.data.toList = 5
        · have HN := Lib.hid (unO_five HB.out h5)
          have h5' : ((run s.data.toList : Nat) : Int) = 5 := by omega
          rw [h5']
          clear h5 h5' hta
          go_wp2_with fail
          go_ret2
          refine ⟨?_, hB⟩
          rw [unOk_none HN.out, unV_none HN.out]; rfl
        · have HN := Lib.hid (unO_end HB.out HU.out h5)
          have ht5 : (((run s.data.toList : Nat) : Int) == 5) = false := by simp; omega
          obtain ⟨g, cap, rfl, row⟩ := HO.row
          have hcv := row.text
          rw [nums_back] at hcv
          clear h5 hta row
          go_wp2_with fail
          go_ret2
          refine ⟨?_, hB⟩
          rw [unOk_some HN.out, unV_some HN.out]; rfl

end Go.Proofs.Ythnpimflohcicaa
