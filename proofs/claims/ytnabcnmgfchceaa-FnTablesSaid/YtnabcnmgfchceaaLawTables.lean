/- Proved: at every text of bytes: at the tables drawn out of it CodeOf, HigherOf, CostOf and LoadOf answer as the model does; each message that HigherOf names is of a lesser Id; the load of a right table is more than nought (laws.FnTables answers true). No condition. -/
import Derived.Test.YtnabcnmgfchceaaDrawsTb
import Derived.Test.YtnabcnmgfchceaaHigh
import Derived.Test.YtnabcnmgfchceaaGen
import Derived.Test.YtnabcnmgfchceaaRows
import Derived.WalkKit
import Derived.WalkSpells
import Derived.ProofKit
import Derived.OpenShut
import Derived.ShutString
import Derived.ChangeOld
import Derived.Below
import Derived.Deep.CutRange
set_option linter.unusedVariables false
set_option linter.unusedSimpArgs false
namespace Go.Proofs.Ytnabcnmgfchceaa.lawTables
open Go.ChangeShapes Go.WideShapes Go.ChangeAt Go.RowKit
open Go.ChangeMaps (open_string shut_string)

theorem own : ownKnob Try.prog.godebug = none := by kernel_rfl

section
variable {act : Act} {o : Oper} {x : Operand} {w : World}
theorem mg_took {m : Ms} {g : Nat} {T : TypeId} (h : w.heap[g]? = some (.cells (mgC m) T (0, 0))) (ho : o.op = .load 32 x) (hx : act.eval x = .pointer (some ⟨g, 0, none⟩)) : (execOp act.eval o).run Try.prog w = .ok (.value (mgV m)) w := by
  unfold execOp
  simp only [ho, hx, Instr.loadAt, Instr.sureAddr, Sem.run_bind, Sem.run_pure, Result.andThen_ok, run_loadVar_row w g T 32 (mgC m) (0, 0) _ h Try.underlying32 rfl (by kernel_rfl)]
end
theorem load_pos {T : List Ms} (h : codeT T = 0) : 0 < loadV T := by
  obtain ⟨h1, h2, _⟩ := codeT_iff.1 h
  rw [loadV_yes h]
  have := (loadN_bd h2 T.length (Nat.le_refl _)).1
  omega
set_option maxHeartbeats 8000000 in
set_option maxRecDepth 20000 in
theorem walkFnTables (a : Option Addr) (len cap : Nat) (w : World) (cd : Code w.heap.size a len w) :
    Calls Try.prog 3 #[.slice a len cap] w fun e w' => e = .returned (.bool true) ∧ Below w.heap.size w w' := by
  have hlm := cd.1
  go_enter Try.func3, Try.ntmps3
  go_wp2_with fail
  refine (bigAny a len cap w hlm).mono ?_
  rintro e w1 ⟨rfl, rfl⟩
  by_cases hbig : (4096 : Int) < (len : Int)
  · go_wp2_with fail
    go_ret
    exact ⟨rfl, Below.refl _ _⟩
  go_wp2_with fail
  refine (drawCodeOf (B := w.heap.size) w cd (Nat.le_refl _)).mono ?_
  rintro e w2 ⟨T, t1, c1, rfl, hT, hT13, b⟩
  go_wp2_with fail
  have HK := fun w h => implCodeOf t1 T c1 w h
  have HK2 := fun w h => specCodeOf t1 T c1 w h
  have hLp := Lib.hid (load_pos (T := T))
  obtain ⟨kk, hkk⟩ : ∃ kk, codeT T = kk := ⟨_, rfl⟩
  rw [hkk] at HK HK2 hLp
  clear hkk
  refine (HK w2 hT).mono ?_
  rintro e w3 ⟨rfl, b3⟩
  replace hT := hT.below b3
  replace b := Below.then2 b b3
  clear b3 HK
  have cd3 := cd.below b (Nat.le_refl _)
  go_wp2_with fail
  refine (drawHigherOf (B := w.heap.size) w3 cd3 b.size).mono ?_
  rintro e w4 ⟨U, t2, c2, i, rfl, hU, hU13, b4⟩
  replace hT := hT.below b4
  replace b := Below.then2 b b4
  clear b4 cd3
  go_wp2_with fail
  refine (implHigherOf t2 U c2 i w4 hU).mono ?_
  rintro e w5 ⟨v1, rfl, O1, b5⟩
  replace hT := hT.below b5
  replace hU := hU.below b5
  replace b := Below.then2 b b5
  clear b5
  have hDl := highV_len U i
  have hDm := Lib.hid (show ∀ j, j < (highV U i).length → ∃ p q : Nat, nth (highV U i) j = (p : Int) ∧ i = (q : Int) ∧ p < U.length ∧ q < U.length ∧ (nthTb U p).id < (nthTb U q).id from fun j hj => by
    have hmem : nth (highV U i) j ∈ highV U i := by rw [nth_get hj]; exact List.getElem_mem hj
    cases hh : hasM U i with
    | false => rw [highV_no hh] at hj; exact absurd hj (by simp)
    | true =>
      obtain ⟨_, hi0, hi1⟩ := hasM_iff.1 hh
      rw [highV_yes hh] at hmem ⊢
      obtain ⟨p, h1, h2, h3⟩ := highN_mem.1 hmem
      exact ⟨p, i.toNat, h2, by omega, h1, by omega, h3⟩)
  have HS := Lib.hid (fun w h => specHigherOf t2 U c2 i w h)
  obtain ⟨D, hD⟩ : ∃ D, highV U i = D := ⟨_, rfl⟩
  rw [hD] at O1 hDl hDm HS
  clear hD
  obtain ⟨a1, d1, rfl, N1⟩ := O1.nums
  clear O1
  have cd5 := cd.below b (Nat.le_refl _)
  go_wp2_with fail
  refine (drawCostOf (B := w.heap.size) w5 cd5 b.size).mono ?_
  rintro e w6 ⟨m, rfl, hmw, b6⟩
  replace hT := hT.below b6
  replace hU := hU.below b6
  replace N1 := N1.below b6
  replace b := Below.then2 b b6
  clear b6 cd5
  have HM := heap_alloc_new w6 (.cells (mgC m) 32)
  have b7 := below_more (Below.refl w6.heap.size w6) (.cells (mgC m) 32)
  replace hT := hT.below b7
  replace hU := hU.below b7
  replace N1 := N1.below b7
  replace b := Below.then2 b b7
  clear b7
  have HC1 := Lib.hid (fun w => implCostOf m w hmw)
  have HC2 := Lib.hid (fun w => specCostOf m w hmw)
  obtain ⟨cv, hcv⟩ : ∃ cv, costV m = cv := ⟨_, rfl⟩
  rw [hcv] at HC1 HC2
  have HL1 := Lib.hid (fun w h => implLoadOf t1 T c1 w h)
  have HL2 := Lib.hid (fun w h => specLoadOf t1 T c1 w h)
  obtain ⟨lv, hlv⟩ : ∃ lv, loadV T = lv := ⟨_, rfl⟩
  rw [hlv] at HL1 HL2 hLp
  clear hlv hcv
  obtain ⟨id, sz, pe, ji, de, no⟩ := m
  go_upto_region 8 with fail
  generalize w6.alloc _ = W at HM hT hU N1 b ⊢
  generalize w6.heap.size = gm at HM ⊢
  refine wp_region_held (S := fun u => u.heap[gm]? = some (.cells (mgC ⟨id, sz, pe, ji, de, no⟩) 32 (0, 0))) (by kernel_rfl) ?_
  have b8 : Below W.heap.size W { W with drawn := W.drawn + 1 } := (Below.refl W.heap.size W).drew
  have HM := (b8.block gm (Array.getElem?_eq_some_iff.1 HM).1).trans HM
  replace hT := hT.below b8
  replace hU := hU.below b8
  replace N1 := N1.below b8
  replace b := Below.then2 b b8
  clear b8
  generalize ({ W with drawn := W.drawn + 1 } : World) = W0 at *
  have hne : (!(kk == kk)) = false := by simp
  have hne2 : (!(cv == cv)) = false := by simp
  have hne3 : (!(lv == lv)) = false := by simp
  refine h_take 0 26 ((.int .i64 kk)) rfl rfl (by kernel_rfl) (by kernel_rfl) (by kernel_rfl) (fun _ _ _ h => h) rfl (fun u hu => by go_simp) HM ?_
  refine h_take 1 27 ((.slice t1 T.length c1)) rfl rfl (by kernel_rfl) (by kernel_rfl) (by kernel_rfl) (fun _ _ _ h => h) rfl (fun u hu => by go_simp) HM ?_
  try simp only [Act.put, List.setIfInBounds_toArray, List.set_cons_zero, List.set_cons_succ]
  refine h_call 2 28 14 #[.slice t1 T.length c1] rfl rfl (by kernel_rfl) rfl (by go_simp) ?_
  refine (HK2 _ hT).mono ?_
  rintro e W1 ⟨rfl, b8⟩
  have HM := (b8.block gm (Array.getElem?_eq_some_iff.1 HM).1).trans HM
  replace hT := hT.below b8
  replace hU := hU.below b8
  replace N1 := N1.below b8
  replace b := Below.then2 b b8
  clear b8
  clear HK2
  refine ⟨_, rfl, HM, ?_⟩
  try simp only [Act.put, List.setIfInBounds_toArray, List.set_cons_zero, List.set_cons_succ]
  refine h_value 3 29 (.bool (!(kk == kk))) rfl rfl (by kernel_rfl) rfl (by go_simp) HM ?_
  try simp only [Act.put, List.setIfInBounds_toArray, List.set_cons_zero, List.set_cons_succ]
  refine h_value 4 30 (.bool false) rfl rfl (by kernel_rfl) rfl (by go_simp) HM ?_
  try simp only [Act.put, List.setIfInBounds_toArray, List.set_cons_zero, List.set_cons_succ]
  refine h_take 5 31 (.slice a1 D.length d1) rfl rfl (by kernel_rfl) (by kernel_rfl) (by kernel_rfl) (fun _ _ _ h => h) rfl (fun u hu => by go_simp) HM ?_
  try simp only [Act.put, List.setIfInBounds_toArray, List.set_cons_zero, List.set_cons_succ]
  refine h_take 6 32 (.slice t2 U.length c2) rfl rfl (by kernel_rfl) (by kernel_rfl) (by kernel_rfl) (fun _ _ _ h => h) rfl (fun u hu => by go_simp) HM ?_
  try simp only [Act.put, List.setIfInBounds_toArray, List.set_cons_zero, List.set_cons_succ]
  refine h_take 7 33 (.int .i64 i) rfl rfl (by kernel_rfl) (by kernel_rfl) (by kernel_rfl) (fun _ _ _ h => h) rfl (fun u hu => by go_simp) HM ?_
  try simp only [Act.put, List.setIfInBounds_toArray, List.set_cons_zero, List.set_cons_succ]
  refine h_call 8 34 16 #[.slice t2 U.length c2, .int .i64 i] rfl rfl (by kernel_rfl) rfl (by go_simp) ?_
  refine (HS _ hU).mono ?_
  rintro e W1 ⟨v2, rfl, O2, b8⟩
  have HM := (b8.block gm (Array.getElem?_eq_some_iff.1 HM).1).trans HM
  replace hT := hT.below b8
  replace hU := hU.below b8
  replace N1 := N1.below b8
  replace b := Below.then2 b b8
  clear b8
  obtain ⟨a2, d2, rfl, N2⟩ := O2.nums
  clear O2 HS
  refine ⟨_, rfl, HM, ?_⟩
  try simp only [Act.put, List.setIfInBounds_toArray, List.set_cons_zero, List.set_cons_succ]
  refine h_call 9 35 15 #[.slice a1 D.length d1, .slice a2 D.length d2] rfl rfl (by kernel_rfl) rfl (by go_simp) ?_
  refine (likeIn a1 a2 D d1 d2 _ N1 N2).mono ?_
  rintro e W1 ⟨rfl, n, rfl⟩
  have b8 : Below W1.heap.size W1 (W1.drewN n) := belowN (Below.refl _ _) n
  have HM := (b8.block gm (Array.getElem?_eq_some_iff.1 HM).1).trans HM
  replace hT := hT.below b8
  replace hU := hU.below b8
  replace N1 := N1.below b8
  replace b := Below.then2 b b8
  clear b8
  refine ⟨_, rfl, HM, ?_⟩
  try simp only [Act.put, List.setIfInBounds_toArray, List.set_cons_zero, List.set_cons_succ]
  refine h_value 10 36 (.bool (!true)) rfl rfl (by kernel_rfl) rfl (by go_simp) HM ?_
  try simp only [Act.put, List.setIfInBounds_toArray, List.set_cons_zero, List.set_cons_succ]
  refine h_value 11 37 (.bool false) rfl rfl (by kernel_rfl) rfl (by go_simp) HM ?_
  try simp only [Act.put, List.setIfInBounds_toArray, List.set_cons_zero, List.set_cons_succ]
  refine h_value 12 38 (.bool false) rfl rfl (by kernel_rfl) rfl (by go_simp) HM ?_
  try simp only [Act.put, List.setIfInBounds_toArray, List.set_cons_zero, List.set_cons_succ]
  refine h_take 13 39 (mgV ⟨id, sz, pe, ji, de, no⟩) rfl rfl (by kernel_rfl) (by kernel_rfl) (by kernel_rfl) (fun _ _ _ h => h) rfl (fun u hu => by exact mg_took hu rfl rfl) HM ?_
  try simp only [Act.put, List.setIfInBounds_toArray, List.set_cons_zero, List.set_cons_succ]
  refine h_take 15 41 (mgV ⟨id, sz, pe, ji, de, no⟩) rfl rfl (by kernel_rfl) (by kernel_rfl) (by kernel_rfl) (fun _ _ _ h => h) rfl (fun u hu => by exact mg_took hu rfl rfl) HM ?_
  try simp only [Act.put, List.setIfInBounds_toArray, List.set_cons_zero, List.set_cons_succ]
  refine h_call 14 40 17 #[mgV ⟨id, sz, pe, ji, de, no⟩] rfl rfl (by kernel_rfl) rfl (by go_simp) ?_
  refine (HC1 _).mono ?_
  rintro e W1 ⟨rfl, b8⟩
  have HM := (b8.block gm (Array.getElem?_eq_some_iff.1 HM).1).trans HM
  replace hT := hT.below b8
  replace hU := hU.below b8
  replace N1 := N1.below b8
  replace b := Below.then2 b b8
  clear b8
  refine ⟨_, rfl, HM, ?_⟩
  try simp only [Act.put, List.setIfInBounds_toArray, List.set_cons_zero, List.set_cons_succ]
  refine h_call 16 42 18 #[mgV ⟨id, sz, pe, ji, de, no⟩] rfl rfl (by kernel_rfl) rfl (by go_simp) ?_
  refine (HC2 _).mono ?_
  rintro e W1 ⟨rfl, b8⟩
  have HM := (b8.block gm (Array.getElem?_eq_some_iff.1 HM).1).trans HM
  replace hT := hT.below b8
  replace hU := hU.below b8
  replace N1 := N1.below b8
  replace b := Below.then2 b b8
  clear b8
  refine ⟨_, rfl, HM, ?_⟩
  try simp only [Act.put, List.setIfInBounds_toArray, List.set_cons_zero, List.set_cons_succ]
  refine h_value 17 43 (.bool (!(cv == cv))) rfl rfl (by kernel_rfl) rfl (by go_simp) HM ?_
  try simp only [Act.put, List.setIfInBounds_toArray, List.set_cons_zero, List.set_cons_succ]
  refine h_value 18 44 (.bool false) rfl rfl (by kernel_rfl) rfl (by go_simp) HM ?_
  try simp only [Act.put, List.setIfInBounds_toArray, List.set_cons_zero, List.set_cons_succ]
  refine h_value 19 45 (.bool false) rfl rfl (by kernel_rfl) rfl (by go_simp) HM ?_
  try simp only [Act.put, List.setIfInBounds_toArray, List.set_cons_zero, List.set_cons_succ]
  refine h_take 20 46 (.slice t1 T.length c1) rfl rfl (by kernel_rfl) (by kernel_rfl) (by kernel_rfl) (fun _ _ _ h => h) rfl (fun u hu => by go_simp) HM ?_
  try simp only [Act.put, List.setIfInBounds_toArray, List.set_cons_zero, List.set_cons_succ]
  refine h_take 22 48 (.slice t1 T.length c1) rfl rfl (by kernel_rfl) (by kernel_rfl) (by kernel_rfl) (fun _ _ _ h => h) rfl (fun u hu => by go_simp) HM ?_
  try simp only [Act.put, List.setIfInBounds_toArray, List.set_cons_zero, List.set_cons_succ]
  refine h_call 21 47 19 #[.slice t1 T.length c1] rfl rfl (by kernel_rfl) rfl (by go_simp) ?_
  refine (HL1 _ hT).mono ?_
  rintro e W1 ⟨rfl, b8⟩
  have HM := (b8.block gm (Array.getElem?_eq_some_iff.1 HM).1).trans HM
  replace hT := hT.below b8
  replace hU := hU.below b8
  replace N1 := N1.below b8
  replace b := Below.then2 b b8
  clear b8
  refine ⟨_, rfl, HM, ?_⟩
  try simp only [Act.put, List.setIfInBounds_toArray, List.set_cons_zero, List.set_cons_succ]
  refine h_call 23 49 20 #[.slice t1 T.length c1] rfl rfl (by kernel_rfl) rfl (by go_simp) ?_
  refine (HL2 _ hT).mono ?_
  rintro e W1 ⟨rfl, b8⟩
  have HM := (b8.block gm (Array.getElem?_eq_some_iff.1 HM).1).trans HM
  replace hT := hT.below b8
  replace hU := hU.below b8
  replace N1 := N1.below b8
  replace b := Below.then2 b b8
  clear b8
  refine ⟨_, rfl, HM, ?_⟩
  try simp only [Act.put, List.setIfInBounds_toArray, List.set_cons_zero, List.set_cons_succ]
  refine h_value 24 50 (.bool (!(lv == lv))) rfl rfl (by kernel_rfl) rfl (by go_simp) HM ?_
  try simp only [Act.put, List.setIfInBounds_toArray, List.set_cons_zero, List.set_cons_succ]
  refine h_value 25 51 (.bool false) rfl rfl (by kernel_rfl) rfl (by go_simp) HM ?_
  try simp only [Act.put, List.setIfInBounds_toArray, List.set_cons_zero, List.set_cons_succ]
  refine wpAnyH_done (by kernel_rfl) ?_ _
  simp only [hne, hne2, hne3, Bool.not_true]
  clear HC1 HC2 HL2 N2 HM hne hne2 hne3
  go_wp2_with fail
  go_loopw [9] (fun j wr => ∃ (k n : Nat), k ≤ D.length ∧ j = .int .i64 (k : Int) ∧ wr = W1.drewN n) (fun j _ => D.length - (Go.RowKit.intOf j).toNat)
  case atStart => exact ⟨0, 0, Nat.zero_le _, rfl, rfl⟩
  case round =>
    obtain ⟨k, n, hk, rfl, rfl⟩ := hrel
    by_cases hlt : k < D.length
    · obtain ⟨bl, o, rfl, hc⟩ := N1.2.2 k hlt
      obtain ⟨p, q, hp, rfl, hpl, hql, hid⟩ := hDm k hlt
      rw [hp] at hc
      obtain ⟨g, o1, rfl, hcp⟩ := hU.2 p hpl
      obtain ⟨g', o', he, hcq⟩ := hU.2 q hql
      cases he
      replace hcp := hcp.1
      replace hcq := hcq.1
      generalize (nthTb U p).id = x1 at hcp hid
      generalize (nthTb U q).id = x2 at hcq hid
      have hkL : (k : Int) < D.length := by omega
      have hlt2 : ¬ x2 ≤ x1 := by omega
      have hpl' : (p : Int) < U.length := by omega
      have hql' : (q : Int) < U.length := by omega
      go_wp2_with fail
      go_quiet (fail)
      go_wp2_with fail
      go_roundw
      case rel => exact ⟨k + 1, _, by omega, by go_num, rfl⟩
      case measure => simp [Go.RowKit.intOf]; omega
    · have hkL : ¬ (k : Int) < D.length := by omega
      by_cases hk0 : kk = 0
      · subst hk0
        have hlv : 0 < lv := hLp rfl
        go_wp2_with fail
        refine (HL1 _ ((hT.below (belowN (Below.refl _ _) n)))).mono ?_
        rintro e W9 ⟨rfl, b9⟩
        have B9 := Below.then2 (belowN b n) b9
        go_wp2_with fail
        go_ret
        exact ⟨rfl, B9⟩
      · go_wp2_with fail
        go_ret
        exact ⟨rfl, belowN b n⟩
theorem laidOut : laidOutB Try.prog = true := by kernel_rfl

/-! ### The row's step of FnTables. -/
set_option maxRecDepth 100000 in
theorem liftedFnTables (os : Os) (started : os.Started) (H : Type) (enc : TypeId × Value → H) :
    ReturnsInHanded {} Try.checked os 3 .any (Rows.fnTablesSpec.pre6 enc Try.prog Try.f3 Rows.fnTablesRow.domain false) (Rows.fnTablesSpec.post enc Try.prog Try.f3 false true false false) := by
  refine returnsInHanded_of_change (C := Try.checked) own started (by kernel_rfl) Try.func3
    (ChangeSpec.witness6 (enc := enc) (C := Try.checked) false ⟨#[], #[.slice none 0 0], []⟩ 8 (by kernel_rfl) (by kernel_rfl) (by kernel_rfl) (by kernel_rfl)) ?_
  intro W base args ds gs before hval0 hW hcnd _
  have hval : ∀ (j : Nat) t v, Try.f3.params[j]? = some t → args[j]? = some v → Value.okWide Try.prog W .any base t v := hval0
  have hW' := hW
  obtain ⟨p, q, hA0, hV, rfl, hfz, hnd⟩ := hW
  have hA : DataW.TrodAll enc Try.prog W 0 (fun _ => true) true Try.f3.params.toList args.toList ds p := hA0
  rw [Try.params3] at hA hval
  obtain ⟨v0, vs0, d0, ds0, p0, q0, hargs, rfl, rfl, h0, r0⟩ := trodAll_cons hA
  obtain ⟨rfl, rfl, rfl⟩ := trodAll_nil r0
  obtain rfl : args = #[v0] := by cases args; simp_all
  obtain ⟨rfl, rfl⟩ := trodVars_none hV
  obtain ⟨a0, len0, cap0, rfl⟩ := okWide_slice Try.underlying22 (hval 0 22 v0 rfl rfl)
  have k0 := h0
  have lt0 : ∀ x ∈ p0, x.block < W.heap.size := by obtain ⟨m, hm⟩ := k0; exact DataW.trod_lt m _ _ _ hm
  have w0 : Code W.heap.size a0 len0 W := by
    obtain ⟨fuel, hf⟩ := h0
    rcases open_ints Try.underlying22 Try.underlying5 (by kernel_rfl) hf with ⟨hcs, _⟩ | ⟨x, l, c, zs, hcs, _, hl, hm, hz, _, hcell, hwz⟩
    · simp [Value.cells] at hcs
      obtain ⟨rfl, rfl, rfl⟩ := hcs
      exact ⟨by omega, fun j hj => absurd hj (by omega)⟩
    · simp [Value.cells] at hcs
      obtain ⟨rfl, rfl, rfl⟩ := hcs
      exact code_of hl hm (by simpa using hz) hcell hwz
  clear hA0 hval0
  refine (walkFnTables a0 len0 cap0 W w0).mono fun e W' ⟨he, bel⟩ => ?_
  subst he
  exact ⟨_, rfl, _, _, _, [], _, [], hW', trodAll_mk1 (shut_bool Try.underlying4 _), (trodAll_cons_mk (Below.trod laidOut (by kernel_rfl) (of_decide_eq_true (by kernel_rfl)) k0 bel lt0) trodAll_mk0), rfl, bel.frame _, fun h => by cases h⟩

theorem fnTables_holds : Rows.FnTablesSaid :=
  OpenClaim.holds_of_wide 3 Try.f3 rfl rfl rfl rfl rfl rfl rfl ⟨rfl, rfl, rfl, rfl, rfl⟩ rfl rfl rfl rfl rfl (by kernel_rfl) Try.func3 (by kernel_rfl)
    (of_decide_eq_true (by kernel_rfl)) (by unfold Func.isWrapper; first | (rw [if_pos (by decide +kernel)]; kernel_rfl) | (rw [if_neg (by decide +kernel)]; exact ⟨rfl, rfl⟩))
    (fun os started H enc _ => liftedFnTables os started H enc)
#print axioms fnTables_holds
end Go.Proofs.Ytnabcnmgfchceaa.lawTables
