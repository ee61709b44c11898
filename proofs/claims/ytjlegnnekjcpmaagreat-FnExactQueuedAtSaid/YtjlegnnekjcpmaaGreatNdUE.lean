/- Contracts of the model's Drives. -/
import Derived.Test.YtjlegnnekjcpmaaGreatM18
set_option linter.unusedVariables false
set_option linter.unusedSimpArgs false
set_option maxRecDepth 20000
namespace Go.Proofs.YtjlegnnekjcpmaaGreat
open Go.RowKit

def drvP (n : Nd) : Int := if downB n = true then 0 else 1
theorem drvP_0 {n : Nd} (h : n.ph = 0) : drvP n = if 0 < n.box.length then 0 else 1 := by simp [drvP, downB, h]
theorem drvP_1 {n : Nd} (h : n.ph = 1) (hok : nodeB n = true) : drvP n = if n.tx = true then nextP n else 1 := by
  have hb := nextV_bd hok
  simp only [drvP, downB, nextP, h]
  cases n.tx
  · simp
  · rcases hb with e | e <;> rw [e] <;> simp
theorem drvP_2 {n : Nd} (h : n.ph = 2) : drvP n = if n.pos = 1 ∧ n.tx = false ∧ n.bad = false then 0 else 1 := by simp [drvP, downB, h]
theorem drvP_3 {n : Nd} (h : n.ph = 3) : drvP n = if n.mild = false then 0 else 1 := by simp [drvP, downB, h]
theorem drvP_4 {n : Nd} (h : 4 ≤ n.ph) : drvP n = 1 := by
  have hd : downB n = false := by
    unfold downB
    rw [if_neg (show ¬ n.ph = 0 by omega), if_neg (show ¬ n.ph = 1 by omega), if_neg (show ¬ n.ph = 2 by omega), if_neg (show ¬ n.ph = 3 by omega)]
  unfold drvP
  rw [hd]
  rfl
set_option maxHeartbeats 8000000 in
/-- spec.l11Drives. -/
theorem specDrv (n : Nd) (p : NdP) (w : World) (hm : NdM n p w) (hok : nodeB n = true) :
    Calls Tryz.prog 102 #[ndV n p] w fun e w' => e = .returned (.int .i64 (drvP n)) ∧ Below w.heap.size w w' := by
  have X := NC.made hm
  have hph := (nodeB_parts hok).1
  have hbx := hm.box.1
  unfold maxLen at hbx
  have h8 : n.ph = 0 ∨ n.ph = 1 ∨ n.ph = 2 ∨ n.ph = 3 ∨ n.ph = 4 ∨ n.ph = 5 ∨ n.ph = 6 ∨ n.ph = 7 := by omega
  clear hph
  go_enter Tryz.func102, Tryz.ntmps102
  go_upto_region 1 with fail
  generalize w.alloc _ = W at X ⊢
  generalize w.heap.size = g at X
  have hb := X.nx.bel
  obtain ⟨c0, c1, c2, c3, c4, c5, c6, c7, c8, c9, c10, c11, c12, c13, c14, c15, c16, c17⟩ := X.nx.cells
  replace hok := Lib.hid hok
  rcases h8 with hp | hp | hp | hp | hp | hp | hp | hp
  · have HV := Lib.hid (drvP_0 hp)
    rw [hp] at c0
    clear hp
    by_cases h : 0 < n.box.length
    · replace HV := Lib.hid (HV.out.trans (if_pos h))
      go_wp2_with fail
      go_ret
      exact ⟨by rw [HV.out]; rfl, hb⟩
    · replace HV := Lib.hid (HV.out.trans (if_neg h))
      go_wp2_with fail
      go_ret
      exact ⟨by rw [HV.out]; rfl, hb⟩
  · have HV := Lib.hid (drvP_1 hp hok.out)
    rw [hp] at c0
    clear hp
    cases ht : n.tx
    · rw [ht] at c1 HV
      clear ht
      go_wp2_with fail
      go_ret
      exact ⟨by rw [HV.out]; rfl, hb⟩
    · rw [ht] at c1 HV
      clear ht
      replace HV := Lib.hid (HV.out.trans (if_pos rfl))
      go_wp2_with (refine X.nx.take rfl rfl rfl ?_)
      refine (specNext n p _ X.m hok.out).mono ?_
      rintro e w2 ⟨rfl, b⟩
      replace hb := Below.then2 hb b
      generalize nextP n = v at *
      go_wp2_with fail
      go_ret
      exact ⟨by rw [HV.out]; rfl, hb⟩
  · have HV := Lib.hid (drvP_2 hp)
    rw [hp] at c0
    clear hp
    by_cases h : n.pos = 1
    · have h' : (n.pos == 1) = true := beq_iff_eq.2 h
      cases ht : n.tx
      · rw [ht] at c1 HV
        clear ht
        cases hd : n.bad
        · rw [hd] at c3 HV
          clear hd
          replace HV := Lib.hid (HV.out.trans (if_pos ⟨h, rfl, rfl⟩))
          clear h
          go_wp2_with fail
          go_ret
          exact ⟨by rw [HV.out]; rfl, hb⟩
        · rw [hd] at c3 HV
          clear hd
          replace HV := Lib.hid (HV.out.trans (if_neg (fun k => by cases k.2.2)))
          clear h
          go_wp2_with fail
          go_ret
          exact ⟨by rw [HV.out]; rfl, hb⟩
      · rw [ht] at c1 HV
        clear ht
        replace HV := Lib.hid (HV.out.trans (if_neg (fun k => by cases k.2.1)))
        clear h
        go_wp2_with fail
        go_ret
        exact ⟨by rw [HV.out]; rfl, hb⟩
    · have h' : (n.pos == 1) = false := beq_eq_false_iff_ne.2 h
      replace HV := Lib.hid (HV.out.trans (if_neg (fun k => h k.1)))
      clear h
      go_wp2_with fail
      go_ret
      exact ⟨by rw [HV.out]; rfl, hb⟩
  · have HV := Lib.hid (drvP_3 hp)
    rw [hp] at c0
    clear hp
    cases ht : n.mild
    · rw [ht] at c2 HV
      clear ht
      replace HV := Lib.hid (HV.out.trans (if_pos rfl))
      go_wp2_with fail
      go_ret
      exact ⟨by rw [HV.out]; rfl, hb⟩
    · rw [ht] at c2 HV
      clear ht
      replace HV := Lib.hid (HV.out.trans (if_neg (fun k => by cases k)))
      go_wp2_with fail
      go_ret
      exact ⟨by rw [HV.out]; rfl, hb⟩
  · have HV := Lib.hid (drvP_4 (n := n) (by omega))
    rw [hp] at c0
    clear hp
    go_wp2_with fail
    go_ret
    exact ⟨by rw [HV.out]; rfl, hb⟩
  · have HV := Lib.hid (drvP_4 (n := n) (by omega))
    rw [hp] at c0
    clear hp
    go_wp2_with fail
    go_ret
    exact ⟨by rw [HV.out]; rfl, hb⟩
  · have HV := Lib.hid (drvP_4 (n := n) (by omega))
    rw [hp] at c0
    clear hp
    go_wp2_with fail
    go_ret
    exact ⟨by rw [HV.out]; rfl, hb⟩
  · have HV := Lib.hid (drvP_4 (n := n) (by omega))
    rw [hp] at c0
    clear hp
    go_wp2_with fail
    go_ret
    exact ⟨by rw [HV.out]; rfl, hb⟩
set_option maxHeartbeats 4000000 in
/-- spec.Drives. -/
theorem specDrives (n : Nd) (p : NdP) (w : World) (hm : NdM n p w) :
    Calls Tryz.prog 48 #[ndV n p] w fun e w' => e = .returned (.int .i64 (driveN n)) ∧ Below w.heap.size w w' := by
  have X := NC.made hm
  have HV : Hid (driveN n = if (nodeB n && downB n) = true then 0 else 1) := Lib.hid rfl
  have HP : Hid (drvP n = if downB n = true then 0 else 1) := Lib.hid rfl
  go_enter Tryz.func48, Tryz.ntmps48
  go_upto_region 1 with fail
  generalize w.alloc _ = W at X ⊢
  generalize w.heap.size = g at X
  have hb := X.nx.bel
  go_wp2_with (refine X.nx.take rfl rfl rfl ?_)
  refine (specNodeOk n p _ X.m).mono ?_
  rintro e w1 ⟨rfl, b⟩
  replace X := X.below b
  replace hb := X.nx.bel
  clear b
  cases hok : nodeB n
  · replace HV := Lib.hid (HV.out.trans (if_neg (by rw [hok]; simp)))
    clear hok
    go_wp2_with fail
    go_ret
    exact ⟨by rw [HV.out]; rfl, hb⟩
  · replace HV := Lib.hid (show driveN n = drvP n by rw [HV.out, HP.out, hok, Bool.true_and])
    have hok' := Lib.hid hok
    clear hok HP
    go_wp2_with (refine X.nx.take rfl rfl rfl ?_)
    refine (specDrv n p _ X.m hok'.out).mono ?_
    rintro e w2 ⟨rfl, b⟩
    replace hb := Below.then2 hb b
    generalize drvP n = v at *
    go_wp2_with fail
    go_ret
    exact ⟨by rw [HV.out]; rfl, hb⟩
end Go.Proofs.YtjlegnnekjcpmaaGreat

