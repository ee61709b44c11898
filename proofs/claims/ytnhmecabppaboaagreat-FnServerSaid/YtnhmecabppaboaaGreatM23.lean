/- Contracts of the model's Stuffed. -/
import Derived.Test.YtnhmecabppaboaaGreatM6
import Derived.Test.YtnhmecabppaboaaGreatM11
import Derived.Deep.QuietTactic
import Derived.BigQuiet

set_option maxRecDepth 20000
namespace Go.Proofs.YtnhmecabppaboaaGreat
open Go.RowKit

theorem specOther (c : UInt8) (w : World) (h : bit c = true) : Calls Tryz.prog 118 #[.int .u8 c.toNat] w fun e w' => e = .returned (.int .u8 (flip c).toNat) ∧ w = w' := by
  have hc := bit_cases h
  have HF := Lib.hid (flip_nat h)
  rcases hc with hc | hc
  · rw [hc] at HF ⊢
    clear h hc
    go_enter Tryz.func118, Tryz.ntmps118
    go_wp2
    go_ret
    exact ⟨ret_int (by rw [HF.out]; rfl), rfl⟩
  · rw [hc] at HF ⊢
    clear h hc
    go_enter Tryz.func118, Tryz.ntmps118
    go_wp2
    go_ret
    exact ⟨ret_int (by rw [HF.out]; rfl), rfl⟩

theorem nums_back (l : List UInt8) : strOfNums (l.map fun b => (b.toNat : Int)) = ⟨l.toArray⟩ := by
  apply ba_inj
  rw [strOfNums_data, List.map_map]
  simp [Function.comp_def]

theorem specStuffed (s : ByteArray) (w : World) (hs : s.size ≤ maxLen) :
    Calls Tryz.prog 106 #[.string s] w fun e w' => e = .returned (.tuple #[.string (stfV s), .bool (stfOk s)]) ∧ Below w.heap.size w w' := by
  have hs' := hs
  unfold maxLen at hs'
  cases hb : okB s with
  | false =>
    have HO := Lib.hid (stfOk_no hb)
    go_enter Tryz.func106, Tryz.ntmps106
    go_wp2_with (go_at_call 117; refine (specOk _ _ hs).mono ?_; rintro e w1 ⟨rfl, rfl⟩)
    go_ret2
    refine ⟨?_, Below.refl _ _⟩
    rw [HO.out, stfV_no HO.out]; rfl
  | true =>
    have HB := Lib.hid hb
    have hl := okB_size hb
    go_enter Tryz.func106, Tryz.ntmps106
    go_wp2_with fail
    refine (specOk _ _ hs).mono ?_
    rintro e w1 ⟨rfl, rfl⟩
    rw [hb]
    clear hb
    go_wp2_with fail
    go_loopw [4, 5, 6] (fun v r i wr => ∃ k : Nat, k ≤ s.size ∧ i = .int .i64 k ∧ r = .int .i64 (run (stuffL (s.data.toList.take k))) ∧ OwnB w.heap.size (stuffL (s.data.toList.take k)) v wr ∧ Below w.heap.size w wr) (fun _ _ i _ => s.size - (intOf i).toNat)
    case atStart => exact ⟨0, Nat.zero_le _, rfl, rfl, OwnB.made w, (Below.refl _ w).alloc (Nat.le_refl _) _⟩
    case round =>
      obtain ⟨k, hk, rfl, rfl, HO, hB⟩ := hrel
      have hsh := stuff_short HB.out k
      have h4 := run_stuff (s.data.toList.take k)
      by_cases hlt : k < s.size
      · have hbk := okB_bit HB.out k hlt
        have hc := bit_cases hbk
        have HBK := Lib.hid hbk
        have HX : Hid (stuffL (s.data.toList.take (k + 1)) = stf (stuffL (s.data.toList.take k)) s[k]) := Lib.hid (by rw [take_snoc s k hlt, stuffL_snoc])
        clear hbk
        generalize stuffL (s.data.toList.take k) = o at *
        rcases snoc_of o with rfl | ⟨r, d, rfl⟩
        · have HR : Hid (run ([] ++ [s[k]]) = 1) := Lib.hid (run_one _)
          have HS : Hid (stf [] s[k] = [] ++ [s[k]]) := Lib.hid (by unfold stf; rw [HR.out, if_neg (by decide)])
          obtain ⟨g, cap, rfl, _⟩ := id HO
          go_wp2_with fail
          simp only [List.length_nil]
          go_quiet (fail)
          have HO1 := HO.drewN nq
          have HB1 := below_drewn hB nq
          generalize wr.drewN nq = w1 at HO1 HB1 ⊢
          clear HO hB
          have hsz1 := HB1.size
          go_wp2_with (at_builtin; refine wpList_app8 rfl _ _ rfl w.heap.size [] s[k] _ rfl (HO1.alloc _) w1.heap.size 1 rfl ?c1 ?c2 ?c3 ?_)
          case c1 => exact World.cell?_alloc_at _ _ _ _ rfl
          case c2 => simp
          case c3 => simp; omega
          intro v' w2 HO2 hb2
          have HB2 := (HB1.alloc hsz1 _).trans hb2
          clear HO1 HB1 hb2
          go_wp2_with fail
          go_roundw
          case rel => exact ⟨k + 1, by omega, by go_num, by rw [HX.out, HS.out, HR.out]; rfl, by rw [HX.out, HS.out]; exact HO2, HB2⟩
          case measure => simp [intOf]; omega
        · obtain ⟨g, cap, rfl, hcell⟩ := HO.last
          have hi := fun W : World => index_at s k k W hlt rfl
          have q1 : IntKind.i64.wrap (r.length : Int) = r.length := IntWalk.i64_in _ (by simp at hsh; omega)
          have hlen : (r ++ [d]).length = r.length + 1 := by simp
          have hlo : (r ++ [d]).length ≤ 1000000 := by omega
          have HD : Hid (if d = s[k] then run (r ++ [d] ++ [s[k]]) = run (r ++ [d]) + 1 else run (r ++ [d] ++ [s[k]]) = 1) := Lib.hid (by
            split
            · rename_i hd; rw [hd]; exact run_snoc_same r s[k]
            · rename_i hd; exact run_snoc_other r s[k] d hd)
          generalize r ++ [d] = o at *
          by_cases hd : d = s[k]
          · have HR : Hid (run (o ++ [s[k]]) = run o + 1) := Lib.hid (by have := HD.out; rwa [if_pos hd] at this)
            have hd' : (d.toNat : Int) = (s[k].toNat : Int) := by rw [hd]
            clear hd hc HD
            have n0 : 0 ≤ ((run o : Nat) : Int) := by omega
            have n4 : ((run o : Nat) : Int) ≤ 4 := by omega
            go_wp2_with fail
            go_quiet (fail)
            have HO1 := HO.drewN nq
            have HB1 := below_drewn hB nq
            generalize wr.drewN nq = w1 at HO1 HB1 ⊢
            clear HO hB hcell
            have hsz1 := HB1.size
            go_wp2_with (at_builtin; refine wpList_app8 rfl _ _ rfl w.heap.size o s[k] _ rfl (HO1.alloc _) w1.heap.size 1 rfl ?c1 ?c2 ?c3 ?_)
            case c1 => exact World.cell?_alloc_at _ _ _ _ rfl
            case c2 => exact hlo
            case c3 => simp; omega
            intro v' w2 HO2 hb2
            have HB2 := (HB1.alloc hsz1 _).trans hb2
            have hsz2 := HB2.size
            clear HO1 HB1 hb2 hsz1
            have hlo2 : (o ++ [s[k]]).length ≤ 1000000 := by rw [List.length_append, List.length_singleton]; omega
            by_cases h5 : run o = 4
            · have HS : Hid (stf o s[k] = o ++ [s[k]] ++ [flip s[k]]) := Lib.hid (by unfold stf; rw [HR.out, if_pos (by omega)])
              have HF : Hid (run (o ++ [s[k]] ++ [flip s[k]]) = 1) := Lib.hid (run_flip _ HBK.out)
              generalize o ++ [s[k]] = q at HF HO2 HR HS hlo2
              obtain ⟨g2, cap2, rfl, _⟩ := id HO2
              have h5' : ((run o : Nat) : Int) = 4 := by omega
              clear h5
              go_wp2_with fail
              refine (specOther s[k] _ HBK.out).mono ?_
              rintro e w3 ⟨rfl, rfl⟩
              go_wp2_with (at_builtin; refine wpList_app8 rfl _ _ rfl w.heap.size q (flip s[k]) _ rfl (HO2.alloc _) w2.heap.size 1 rfl ?c1 ?c2 ?c3 ?_)
              case c1 => exact World.cell?_alloc_at _ _ _ _ rfl
              case c2 => exact hlo2
              case c3 => simp; omega
              intro v3 w3 HO3 hb3
              have HB3 := (HB2.alloc hsz2 _).trans hb3
              clear HO2 HB2 hb3
              go_wp2_with fail
              go_roundw
              case rel => exact ⟨k + 1, by omega, by go_num, by rw [HX.out, HS.out, HF.out]; rfl, by rw [HX.out, HS.out]; exact HO3, HB3⟩
              case measure => simp [intOf]; omega
            · have HS : Hid (stf o s[k] = o ++ [s[k]]) := Lib.hid (by unfold stf; rw [HR.out, if_neg (by omega)])
              have h5' : ((run o : Nat) : Int) + 1 < 5 := by omega
              generalize o ++ [s[k]] = q at HO2 HR HS
              clear h5 hlo2
              go_wp2_with fail
              go_roundw
              case rel => exact ⟨k + 1, by omega, by go_num, by rw [HX.out, HS.out, HR.out]; rfl, by rw [HX.out, HS.out]; exact HO2, HB2⟩
              case measure => simp [intOf]; omega
          · have HR : Hid (run (o ++ [s[k]]) = 1) := Lib.hid (by have := HD.out; rwa [if_neg hd] at this)
            have HS : Hid (stf o s[k] = o ++ [s[k]]) := Lib.hid (by unfold stf; rw [HR.out, if_neg (by decide)])
            have hd' : (d.toNat : Int) ≠ (s[k].toNat : Int) := fun e => hd (UInt8.toNat_inj.1 (by omega))
            clear hd hc HD
            go_wp2_with fail
            go_quiet (fail)
            have HO1 := HO.drewN nq
            have HB1 := below_drewn hB nq
            generalize wr.drewN nq = w1 at HO1 HB1 ⊢
            clear HO hB hcell
            have hsz1 := HB1.size
            go_wp2_with (at_builtin; refine wpList_app8 rfl _ _ rfl w.heap.size o s[k] _ rfl (HO1.alloc _) w1.heap.size 1 rfl ?c1 ?c2 ?c3 ?_)
            case c1 => exact World.cell?_alloc_at _ _ _ _ rfl
            case c2 => exact hlo
            case c3 => simp; omega
            intro v' w2 HO2 hb2
            have HB2 := (HB1.alloc hsz1 _).trans hb2
            clear HO1 HB1 hb2
            generalize o ++ [s[k]] = q at HO2 HR HS
            go_wp2_with fail
            go_roundw
            case rel => exact ⟨k + 1, by omega, by go_num, by rw [HX.out, HS.out, HR.out]; rfl, by rw [HX.out, HS.out]; exact HO2, HB2⟩
            case measure => simp [intOf]; omega
      · obtain rfl : k = s.size := by omega
        have hta := take_all s s.size (Nat.le_refl _)
        rw [hta] at HO hsh h4 ⊢
        obtain ⟨g, cap, rfl, row⟩ := HO.row
        have hcv := row.text
        have hst : strOfNums ((stuffL s.data.toList).map fun b => (b.toNat : Int)) = ⟨(stuffL s.data.toList).toArray⟩ := by
          exact nums_back _
        rw [hst] at hcv
        by_cases h4 : (stuffL s.data.toList).length ≤ 400
        · have HO := Lib.hid (stfOk_yes HB.out h4)
          have h4' : ((stuffL s.data.toList).length : Int) ≤ 400 := by omega
          clear h4 row
          go_wp2
          go_ret2
          refine ⟨?_, hB⟩
          rw [HO.out, stfV_yes HO.out]; rfl
        · have HO := Lib.hid (stfOk_long (s := s) (by omega))
          have h4' : 400 < ((stuffL s.data.toList).length : Int) := by omega
          clear h4 row hcv
          go_wp2
          go_ret2
          refine ⟨?_, hB⟩
          rw [HO.out, stfV_no HO.out]; rfl

end Go.Proofs.YtnhmecabppaboaaGreat
