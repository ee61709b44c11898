/- The exact laws' marks: markInt64S, heldInt64S, markFrame, heldFrame. -/
import Derived.Test.YtnabcnmgfchceaaFrM
import Derived.Lib.SmallJoins
import Derived.Test.YtnabcnmgfchceaaLift
set_option linter.unusedVariables false
set_option linter.unusedSimpArgs false
namespace Go.Proofs.Ytnabcnmgfchceaa
open Go.RowKit

/-- The first j of the numbers marked, from k on. -/
def mkD (k : Int) (D : List Int) (j : Nat) : List Int := ((List.range j).map fun i : Nat => k + (i : Int)) ++ D.drop j
def marks (k : Int) (n : Nat) : List Int := (List.range n).map fun i : Nat => k + (i : Int)
theorem mkD_zero (k : Int) (D : List Int) : mkD k D 0 = D := by simp [mkD]
theorem mkD_all (k : Int) (D : List Int) : mkD k D D.length = marks k D.length := by simp [mkD, marks]
theorem mkD_len {k : Int} {D : List Int} {j : Nat} (h : j ≤ D.length) : (mkD k D j).length = D.length := by simp [mkD]; omega
theorem marks_len (k : Int) (n : Nat) : (marks k n).length = n := by simp [marks]
theorem mkD_succ {k : Int} {D : List Int} {j : Nat} (h : j < D.length) : (mkD k D j).set j (k + (j : Int)) = mkD k D (j + 1) := by
  unfold mkD
  rw [List.set_append_right _ _ (by simp), List.range_succ, List.map_append, List.append_assoc]
  congr 1
  rw [List.length_map, List.length_range, Nat.sub_self, List.drop_eq_getElem_cons h, List.set_cons_zero]
  rfl
theorem marks_nth {k : Int} {n j : Nat} (h : j < n) : nth (marks k n) j = k + (j : Int) := by
  simp [nth, marks, List.getD_eq_getElem?_getD, List.getElem?_map, List.getElem?_range h]

theorem markInts (Bn : Nat) (D : List Int) (a : Option Addr) (c : Nat) (k : Int) (w : World) (HO : OwnI Bn D (.slice a D.length c) w) (hn : D.length ≤ 2000000) (h0 : 0 ≤ k) (h1 : k ≤ 1000000000) :
    Calls Try.prog 26 #[.slice a D.length c, .int .i64 k] w fun e w' => e = .returned (.int .i64 (k + (D.length : Int))) ∧ OwnI Bn (marks k D.length) (.slice a D.length c) w' ∧ w.grownBy w' (Value.slice a D.length c).ownBlock := by
  go_enter Try.func26, Try.ntmps26
  go_wp2
  go_loopw [1, 5] (fun q i wr => ∃ j : Nat, j ≤ D.length ∧ q = .int .i64 (k + (j : Int)) ∧ i = .int .i64 j ∧ OwnI Bn (mkD k D j) (.slice a D.length c) wr ∧ w.grownBy wr (Value.slice a D.length c).ownBlock) (fun _ i _ => D.length - (intOf i).toNat)
  case atStart => exact ⟨0, Nat.zero_le _, by simp, rfl, by rw [mkD_zero]; exact HO, ⟨rfl, rfl, rfl, Nat.le_refl _, fun _ _ _ => rfl⟩⟩
  case round =>
    obtain ⟨j, hj, rfl, rfl, HO2, G⟩ := hrel
    by_cases hjn : j < D.length
    · obtain ⟨kb, c', e⟩ := Go.Joins.ownsRow_form HO.1 (by omega)
      simp only [Value.slice.injEq, true_and] at e
      obtain ⟨rfl, rfl⟩ := e
      have hl := mkD_len (k := k) (D := D) hj
      have o := HO2.1
      rw [hl] at o
      obtain ⟨x, hz⟩ : ∃ x, wr.cell? ⟨kb, j, none⟩ = some x := ⟨_, (o.cellAt j (by omega)).trans (List.getElem?_eq_getElem (by rw [List.length_map, hl]; exact hjn))⟩
      have hf := o.frozenAt j
      obtain ⟨o1, k1⟩ := o.stored j (.int .i64 (k + (j : Int)))
      have hb := mkD_len (k := k) (D := D) (j := j + 1) (by omega)
      have HO3 : OwnI Bn (mkD k D (j + 1)) (.slice (some ⟨kb, 0, none⟩) D.length c) (wr.setCell ⟨kb, j, none⟩ (.int .i64 (k + (j : Int)))) := by
        rw [← mkD_succ hjn]
        refine ⟨?_, fun y hy => ?_⟩
        · rw [List.length_set, hl, List.map_set]; exact o1
        · rcases List.mem_or_eq_of_mem_set hy with hy | rfl
          · exact HO2.2 y hy
          · exact Go.WalkArith.wf_i64 ⟨by omega, by omega⟩
      clear o o1 HO2 hl hb
      generalize hm : D.length = m at *
      go_wp2_with fail
      go_roundw
      case rel => exact ⟨j + 1, by omega, by go_num, by go_num, HO3, grown_trans G k1⟩
      case measure => simp [intOf]; omega
    · obtain rfl : j = D.length := by omega
      rw [mkD_all] at HO2
      generalize hm : D.length = m at *
      go_wp2_with fail
      go_ret
      subst hm
      exact ⟨rfl, HO2, G⟩
theorem heldInts (a : Option Addr) (n c : Nat) (k : Int) (w : World) (hN : Nums a (marks k n) w) (hn : n ≤ 2000000) (h0 : 0 ≤ k) (h1 : k ≤ 1000000000) :
    Calls Try.prog 27 #[.slice a n c, .int .i64 k] w fun e w' => e = .returned (.int .i64 (k + (n : Int))) ∧ w = w' := by
  go_enter Try.func27, Try.ntmps27
  go_wp2
  go_loopw [1, 5] (fun q i wr => ∃ j : Nat, j ≤ n ∧ q = .int .i64 (k + (j : Int)) ∧ i = .int .i64 j ∧ wr = w) (fun _ i _ => n - (intOf i).toNat)
  case atStart => exact ⟨0, Nat.zero_le _, by simp, rfl, rfl⟩
  case round =>
    obtain ⟨j, hj, rfl, rfl, rfl⟩ := hrel
    by_cases hjn : j < n
    · obtain ⟨b, off, rfl, hc⟩ := hN.2.2 j (by rw [marks_len]; exact hjn)
      rw [marks_nth hjn] at hc
      clear hN
      go_wp2_with fail
      go_roundw
      case rel => exact ⟨j + 1, by omega, by go_num, by go_num, trivial⟩
      case measure => simp [intOf]; omega
    · obtain rfl : j = n := by omega
      go_wp2_with fail
      go_ret
      exact ⟨rfl, rfl⟩
end Go.Proofs.Ytnabcnmgfchceaa
