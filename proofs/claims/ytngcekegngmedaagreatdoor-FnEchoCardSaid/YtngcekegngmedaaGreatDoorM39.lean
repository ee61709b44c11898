/- Contracts of the program's Drives: a table of functions, asked by the phase. -/
import Derived.Test.YtngcekegngmedaaGreatDoorM37
import Derived.Laws.CopyOwn

set_option linter.unusedVariables false
set_option linter.unusedSimpArgs false
set_option maxRecDepth 20000
namespace Go.Proofs.YtngcekegngmedaaGreatDoor
open Go.RowKit

theorem implBegins (n : Nd) (p : NdP) (w : World) (hm : NdM n p w) :
    Calls Tryz.prog 225 #[ndV n p] w fun e w' => e = .returned (.bool (decide (0 < n.box.length))) ∧ Below w.heap.size w w' := by
  have X := NC.made hm
  have hbx := hm.box.1
  unfold maxLen at hbx
  go_enter Tryz.func225, Tryz.ntmps225
  go_upto_region 1 with fail
  generalize w.alloc _ = W at X ⊢
  generalize w.heap.size = g at X
  have hb := X.nx.bel
  obtain ⟨c0, c1, c2, c3, c4, c5, c6, c7, c8, c9, c10, c11, c12, c13, c14, c15, c16, c17⟩ := X.nx.cells
  by_cases h : 0 < n.box.length
  · have h' : decide (0 < n.box.length) = true := decide_eq_true h
    go_wp2_with fail
    go_ret
    exact ⟨by rw [h'] <;> rfl, hb⟩
  · have h' : decide (0 < n.box.length) = false := decide_eq_false h
    go_wp2_with fail
    go_ret
    exact ⟨by rw [h'] <;> rfl, hb⟩
def saysB (n : Nd) : Bool := n.tx && decide (nextV n = 0)
theorem implSays (n : Nd) (p : NdP) (w : World) (hm : NdM n p w) (hok : nodeB n = true) :
    Calls Tryz.prog 226 #[ndV n p] w fun e w' => e = .returned (.bool (saysB n)) ∧ Below w.heap.size w w' := by
  have X := NC.made hm
  have hok := Lib.hid hok
  have HV : Hid (saysB n = (n.tx && decide (nextV n = 0))) := Lib.hid rfl
  go_enter Tryz.func226, Tryz.ntmps226
  go_upto_region 1 with fail
  generalize w.alloc _ = W at X ⊢
  generalize w.heap.size = g at X
  have hb := X.nx.bel
  obtain ⟨c0, c1, c2, c3, c4, c5, c6, c7, c8, c9, c10, c11, c12, c13, c14, c15, c16, c17⟩ := X.nx.cells
  cases ht : n.tx
  · rw [ht] at c1 HV
    clear ht
    go_wp2_with fail
    go_ret
    exact ⟨by rw [HV.out]; rfl, hb⟩
  · rw [ht] at c1 HV
    clear ht
    go_wp2_with (refine X.nx.take rfl rfl rfl ?_)
    refine (implNext n p _ X.m hok.out).mono ?_
    rintro e w2 ⟨rfl, b⟩
    replace hb := Below.then2 hb b
    generalize nextV n = v at *
    by_cases h : v = 0
    · have h' : (v == 0) = true := beq_iff_eq.2 h
      have hd : decide (v = 0) = true := decide_eq_true h
      clear h
      go_wp2_with fail
      go_ret
      exact ⟨by rw [HV.out, hd]; rfl, hb⟩
    · have h' : (v == 0) = false := beq_eq_false_iff_ne.2 h
      have hd : decide (v = 0) = false := decide_eq_false h
      clear h
      go_wp2_with fail
      go_ret
      exact ⟨by rw [HV.out, hd]; rfl, hb⟩
def answersB (n : Nd) : Bool := decide (n.pos = 1) && (!n.tx && !n.bad)
theorem implAnswers (n : Nd) (p : NdP) (w : World) (hm : NdM n p w) :
    Calls Tryz.prog 227 #[ndV n p] w fun e w' => e = .returned (.bool (answersB n)) ∧ Below w.heap.size w w' := by
  have X := NC.made hm
  have HV : Hid (answersB n = (decide (n.pos = 1) && (!n.tx && !n.bad))) := Lib.hid rfl
  go_enter Tryz.func227, Tryz.ntmps227
  go_upto_region 1 with fail
  generalize w.alloc _ = W at X ⊢
  generalize w.heap.size = g at X
  have hb := X.nx.bel
  obtain ⟨c0, c1, c2, c3, c4, c5, c6, c7, c8, c9, c10, c11, c12, c13, c14, c15, c16, c17⟩ := X.nx.cells
  clear X
  by_cases h : n.pos = 1
  · have h' : (n.pos == 1) = true := beq_iff_eq.2 h
    have hd : decide (n.pos = 1) = true := decide_eq_true h
    clear h
    generalize n.tx = t at *
    generalize n.bad = b at *
    cases t
    · go_wp2_with fail
      go_ret
      exact ⟨by rw [HV.out, hd]; rfl, hb⟩
    · go_wp2_with fail
      go_ret
      exact ⟨by rw [HV.out, hd]; rfl, hb⟩
  · have h' : (n.pos == 1) = false := beq_eq_false_iff_ne.2 h
    have hd : decide (n.pos = 1) = false := decide_eq_false h
    clear h
    go_wp2_with fail
    go_ret
    exact ⟨by rw [HV.out, hd]; rfl, hb⟩
theorem implFlags (n : Nd) (p : NdP) (w : World) (hm : NdM n p w) :
    Calls Tryz.prog 228 #[ndV n p] w fun e w' => e = .returned (.bool (!n.mild)) ∧ Below w.heap.size w w' := by
  have X := NC.made hm
  go_enter Tryz.func228, Tryz.ntmps228
  go_upto_region 1 with fail
  generalize w.alloc _ = W at X ⊢
  generalize w.heap.size = g at X
  have hb := X.nx.bel
  obtain ⟨c0, c1, c2, c3, c4, c5, c6, c7, c8, c9, c10, c11, c12, c13, c14, c15, c16, c17⟩ := X.nx.cells
  go_wp2_with fail
  go_ret
  exact ⟨rfl, hb⟩
theorem implNever (n : Nd) (p : NdP) (w : World) (hm : NdM n p w) :
    Calls Tryz.prog 229 #[ndV n p] w fun e w' => e = .returned (.bool false) ∧ Below w.heap.size w w' := by
  have X := NC.made hm
  go_enter Tryz.func229, Tryz.ntmps229
  go_upto_region 1 with fail
  generalize w.alloc _ = W at X ⊢
  have hb := X.nx.bel
  go_wp2_with fail
  go_ret
  exact ⟨rfl, hb⟩
abbrev pullsA : Array Value := #[.func (.func 225) #[] #[], .func (.func 226) #[] #[], .func (.func 227) #[] #[], .func (.func 228) #[] #[], .func (.func 229) #[] #[], .func (.func 229) #[] #[], .func (.func 229) #[] #[], .func (.func 229) #[] #[]]
abbrev pullsV : Value := .agg #[.func (.func 225) #[] #[], .func (.func 226) #[] #[], .func (.func 227) #[] #[], .func (.func 228) #[] #[], .func (.func 229) #[] #[], .func (.func 229) #[] #[], .func (.func 229) #[] #[], .func (.func 229) #[] #[]]
theorem implPulls (w : World) :
    Calls Tryz.prog 177 #[] w fun e w' => e = .returned pullsV ∧ Below w.heap.size w w' := by
  have HB : (w.alloc (.cells #[.nilFunc, .nilFunc, .nilFunc, .nilFunc, .nilFunc, .nilFunc, .nilFunc, .nilFunc] 181)).heap[w.heap.size]? = some (.cells #[.nilFunc, .nilFunc, .nilFunc, .nilFunc, .nilFunc, .nilFunc, .nilFunc, .nilFunc] 181 (0, 0)) := heap_alloc_new w _
  have hb : Below w.heap.size w (w.alloc (.cells #[.nilFunc, .nilFunc, .nilFunc, .nilFunc, .nilFunc, .nilFunc, .nilFunc, .nilFunc] 181)) := below_more (Below.refl _ _) _
  go_enter Tryz.func177, Tryz.ntmps177
  go_upto_region 1 with fail
  generalize hg : w.heap.size = g at *
  generalize w.alloc _ = W at HB hb ⊢
  go_wp2_with (refine wpList_store_row rfl 181 _ _ rfl g pullsA rfl rfl 181 _ HB (by kernel_rfl) (by rfl) (by kernel_rfl) ?_)
  refine bodyPost_ret (v := pullsV) ?_ rfl ⟨rfl, by rw [hg]; exact below_setRow hb (Nat.le_refl _) _⟩
  exact results_cell_row Tryz.results177 _ _ g 181 _ (0, 0) _ rfl (setRow_heap _ _ _ _ _ _ HB) Tryz.underlying181 rfl (by kernel_rfl)
theorem pullAt {f : Value} {k : Int} {w : World} (h : (Instr.index 181 pullsV (.int .i64 k)).run Tryz.prog w = .ok f w) {o : Oper} {a : Act} {x y : Operand} (ho : o.op = .index 181 x y) (hx : a.eval x = pullsV) (hy : a.eval y = .int .i64 k) :
    (execOp a.eval o).run Tryz.prog w = .ok (.value f) w := by
  unfold execOp
  simp only [ho, hx, hy, Sem.run_bind, h, Result.andThen_ok]
  rfl

theorem down_at {n : Nd} : downB n = (if n.ph = 0 then decide (0 < n.box.length) else if n.ph = 1 then saysB n else if n.ph = 2 then answersB n else if n.ph = 3 then !n.mild else false) := rfl
/-- What a right node drives. -/
def drvV (n : Nd) : Int := if downB n = true then 0 else 1
set_option maxHeartbeats 8000000 in
/-- impl.drives, of a right node. -/
theorem implDrv (n : Nd) (p : NdP) (w : World) (hm : NdM n p w) (hok : nodeB n = true) :
    Calls Tryz.prog 100 #[ndV n p] w fun e w' => e = .returned (.int .i64 (drvV n)) ∧ Below w.heap.size w w' := by
  have X := NC.made hm
  have HV : Hid (drvV n = if downB n = true then 0 else 1) := Lib.hid rfl
  go_enter Tryz.func100, Tryz.ntmps100
  go_upto_region 1 with fail
  generalize w.alloc _ = W at X ⊢
  generalize w.heap.size = g at X
  have hph := (nodeB_parts hok).1
  have HD := Lib.hid (down_at (n := n))
  have h8 : n.ph = 0 ∨ n.ph = 1 ∨ n.ph = 2 ∨ n.ph = 3 ∨ n.ph = 4 ∨ n.ph = 5 ∨ n.ph = 6 ∨ n.ph = 7 := by omega
  clear hph
  rcases h8 with hp | hp | hp | hp | hp | hp | hp | hp
  · replace HD := Lib.hid (HD.out.trans (by rw [hp]; rfl : _ = (decide (0 < n.box.length))))
    generalize hdv : downB n = d at *
    refine region_class (NC g n p w) (by kernel_rfl) (by kernel_rfl) X.drew ?_
    repeat first
      | go_big_quiet_skip
      | (go_big_quiet_want
         apply Exists.intro
         refine ⟨fun u hu => ?_, ?_⟩
         · exact quietAt_val (hu.nx.took rfl rfl)
         simp only [Act.put, List.setIfInBounds_toArray, List.set_cons_zero, List.set_cons_succ]
         go_big_quiet_on)
      | (go_big_quiet_want
         apply Exists.intro
         refine ⟨fun u hu => ?_, ?_⟩
         · exact quietAt_val (pullAt (f := .func (.func 225) #[] #[]) (k := 0) (by kernel_rfl) rfl rfl rfl)
         simp only [Act.put, List.setIfInBounds_toArray, List.set_cons_zero, List.set_cons_succ]
         go_big_quiet_on)
      | (go_big_quiet_want
         apply Exists.intro
         refine ⟨fun u hu => ?_, ?_⟩
         · apply quietAt_val
           obtain ⟨c0, c1, c2, c3, c4, c5, c6, c7, c8, c9, c10, c11, c12, c13, c14, c15, c16, c17⟩ := hu.nx.cells
           rw [hp] at c0
           clear c1 c2 c3 c4 c5 c6 c7 c8 c9 c10 c11 c12 c13 c14 c15 c16 c17
           go_simp
           rfl
         simp only [Act.put, List.setIfInBounds_toArray, List.set_cons_zero, List.set_cons_succ]
         go_big_quiet_on)
      | (go_big_quiet_want
         apply Exists.intro
         refine ⟨fun u hu => ?_, ?_⟩
         · apply quietAt_enter 177 #[]
           · go_simp
           · refine (implPulls u).mono ?_
             rintro e w2 ⟨rfl, b2⟩
             exact ⟨rfl, hu.below b2⟩
         simp only [Act.put, List.setIfInBounds_toArray, List.set_cons_zero, List.set_cons_succ]
         go_big_quiet_on)
      | (go_big_quiet_want
         apply Exists.intro
         refine ⟨fun u hu => ?_, ?_⟩
         · apply quietAt_enter 225 #[ndV n p]
           · go_simp
           · refine (implBegins n p u hu.m).mono ?_
             rintro e w2 ⟨he, b2⟩
             rw [← HD.out] at he
             exact ⟨he, hu.below b2⟩
         simp only [Act.put, List.setIfInBounds_toArray, List.set_cons_zero, List.set_cons_succ]
         go_big_quiet_on)
    refine wpQuiet_nil ?_
    intro W2 h2
    have hb := h2.nx.bel
    clear hok hdv HD hp
    cases d
    · go_wp2_with fail
      go_ret
      exact ⟨by rw [HV.out]; rfl, hb⟩
    · go_wp2_with fail
      go_ret
      exact ⟨by rw [HV.out]; rfl, hb⟩
  · replace HD := Lib.hid (HD.out.trans (by rw [hp]; rfl : _ = (saysB n)))
    generalize hdv : downB n = d at *
    refine region_class (NC g n p w) (by kernel_rfl) (by kernel_rfl) X.drew ?_
    repeat first
      | go_big_quiet_skip
      | (go_big_quiet_want
         apply Exists.intro
         refine ⟨fun u hu => ?_, ?_⟩
         · exact quietAt_val (hu.nx.took rfl rfl)
         simp only [Act.put, List.setIfInBounds_toArray, List.set_cons_zero, List.set_cons_succ]
         go_big_quiet_on)
      | (go_big_quiet_want
         apply Exists.intro
         refine ⟨fun u hu => ?_, ?_⟩
         · exact quietAt_val (pullAt (f := .func (.func 226) #[] #[]) (k := 1) (by kernel_rfl) rfl rfl rfl)
         simp only [Act.put, List.setIfInBounds_toArray, List.set_cons_zero, List.set_cons_succ]
         go_big_quiet_on)
      | (go_big_quiet_want
         apply Exists.intro
         refine ⟨fun u hu => ?_, ?_⟩
         · apply quietAt_val
           obtain ⟨c0, c1, c2, c3, c4, c5, c6, c7, c8, c9, c10, c11, c12, c13, c14, c15, c16, c17⟩ := hu.nx.cells
           rw [hp] at c0
           clear c1 c2 c3 c4 c5 c6 c7 c8 c9 c10 c11 c12 c13 c14 c15 c16 c17
           go_simp
           rfl
         simp only [Act.put, List.setIfInBounds_toArray, List.set_cons_zero, List.set_cons_succ]
         go_big_quiet_on)
      | (go_big_quiet_want
         apply Exists.intro
         refine ⟨fun u hu => ?_, ?_⟩
         · apply quietAt_enter 177 #[]
           · go_simp
           · refine (implPulls u).mono ?_
             rintro e w2 ⟨rfl, b2⟩
             exact ⟨rfl, hu.below b2⟩
         simp only [Act.put, List.setIfInBounds_toArray, List.set_cons_zero, List.set_cons_succ]
         go_big_quiet_on)
      | (go_big_quiet_want
         apply Exists.intro
         refine ⟨fun u hu => ?_, ?_⟩
         · apply quietAt_enter 226 #[ndV n p]
           · go_simp
           · refine (implSays n p u hu.m hok).mono ?_
             rintro e w2 ⟨he, b2⟩
             rw [← HD.out] at he
             exact ⟨he, hu.below b2⟩
         simp only [Act.put, List.setIfInBounds_toArray, List.set_cons_zero, List.set_cons_succ]
         go_big_quiet_on)
    refine wpQuiet_nil ?_
    intro W2 h2
    have hb := h2.nx.bel
    clear hok hdv HD hp
    cases d
    · go_wp2_with fail
      go_ret
      exact ⟨by rw [HV.out]; rfl, hb⟩
    · go_wp2_with fail
      go_ret
      exact ⟨by rw [HV.out]; rfl, hb⟩
  · replace HD := Lib.hid (HD.out.trans (by rw [hp]; rfl : _ = (answersB n)))
    generalize hdv : downB n = d at *
    refine region_class (NC g n p w) (by kernel_rfl) (by kernel_rfl) X.drew ?_
    repeat first
      | go_big_quiet_skip
      | (go_big_quiet_want
         apply Exists.intro
         refine ⟨fun u hu => ?_, ?_⟩
         · exact quietAt_val (hu.nx.took rfl rfl)
         simp only [Act.put, List.setIfInBounds_toArray, List.set_cons_zero, List.set_cons_succ]
         go_big_quiet_on)
      | (go_big_quiet_want
         apply Exists.intro
         refine ⟨fun u hu => ?_, ?_⟩
         · exact quietAt_val (pullAt (f := .func (.func 227) #[] #[]) (k := 2) (by kernel_rfl) rfl rfl rfl)
         simp only [Act.put, List.setIfInBounds_toArray, List.set_cons_zero, List.set_cons_succ]
         go_big_quiet_on)
      | (go_big_quiet_want
         apply Exists.intro
         refine ⟨fun u hu => ?_, ?_⟩
         · apply quietAt_val
           obtain ⟨c0, c1, c2, c3, c4, c5, c6, c7, c8, c9, c10, c11, c12, c13, c14, c15, c16, c17⟩ := hu.nx.cells
           rw [hp] at c0
           clear c1 c2 c3 c4 c5 c6 c7 c8 c9 c10 c11 c12 c13 c14 c15 c16 c17
           go_simp
           rfl
         simp only [Act.put, List.setIfInBounds_toArray, List.set_cons_zero, List.set_cons_succ]
         go_big_quiet_on)
      | (go_big_quiet_want
         apply Exists.intro
         refine ⟨fun u hu => ?_, ?_⟩
         · apply quietAt_enter 177 #[]
           · go_simp
           · refine (implPulls u).mono ?_
             rintro e w2 ⟨rfl, b2⟩
             exact ⟨rfl, hu.below b2⟩
         simp only [Act.put, List.setIfInBounds_toArray, List.set_cons_zero, List.set_cons_succ]
         go_big_quiet_on)
      | (go_big_quiet_want
         apply Exists.intro
         refine ⟨fun u hu => ?_, ?_⟩
         · apply quietAt_enter 227 #[ndV n p]
           · go_simp
           · refine (implAnswers n p u hu.m).mono ?_
             rintro e w2 ⟨he, b2⟩
             rw [← HD.out] at he
             exact ⟨he, hu.below b2⟩
         simp only [Act.put, List.setIfInBounds_toArray, List.set_cons_zero, List.set_cons_succ]
         go_big_quiet_on)
    refine wpQuiet_nil ?_
    intro W2 h2
    have hb := h2.nx.bel
    clear hok hdv HD hp
    cases d
    · go_wp2_with fail
      go_ret
      exact ⟨by rw [HV.out]; rfl, hb⟩
    · go_wp2_with fail
      go_ret
      exact ⟨by rw [HV.out]; rfl, hb⟩
  · replace HD := Lib.hid (HD.out.trans (by rw [hp]; rfl : _ = (!n.mild)))
    generalize hdv : downB n = d at *
    refine region_class (NC g n p w) (by kernel_rfl) (by kernel_rfl) X.drew ?_
    repeat first
      | go_big_quiet_skip
      | (go_big_quiet_want
         apply Exists.intro
         refine ⟨fun u hu => ?_, ?_⟩
         · exact quietAt_val (hu.nx.took rfl rfl)
         simp only [Act.put, List.setIfInBounds_toArray, List.set_cons_zero, List.set_cons_succ]
         go_big_quiet_on)
      | (go_big_quiet_want
         apply Exists.intro
         refine ⟨fun u hu => ?_, ?_⟩
         · exact quietAt_val (pullAt (f := .func (.func 228) #[] #[]) (k := 3) (by kernel_rfl) rfl rfl rfl)
         simp only [Act.put, List.setIfInBounds_toArray, List.set_cons_zero, List.set_cons_succ]
         go_big_quiet_on)
      | (go_big_quiet_want
         apply Exists.intro
         refine ⟨fun u hu => ?_, ?_⟩
         · apply quietAt_val
           obtain ⟨c0, c1, c2, c3, c4, c5, c6, c7, c8, c9, c10, c11, c12, c13, c14, c15, c16, c17⟩ := hu.nx.cells
           rw [hp] at c0
           clear c1 c2 c3 c4 c5 c6 c7 c8 c9 c10 c11 c12 c13 c14 c15 c16 c17
           go_simp
           rfl
         simp only [Act.put, List.setIfInBounds_toArray, List.set_cons_zero, List.set_cons_succ]
         go_big_quiet_on)
      | (go_big_quiet_want
         apply Exists.intro
         refine ⟨fun u hu => ?_, ?_⟩
         · apply quietAt_enter 177 #[]
           · go_simp
           · refine (implPulls u).mono ?_
             rintro e w2 ⟨rfl, b2⟩
             exact ⟨rfl, hu.below b2⟩
         simp only [Act.put, List.setIfInBounds_toArray, List.set_cons_zero, List.set_cons_succ]
         go_big_quiet_on)
      | (go_big_quiet_want
         apply Exists.intro
         refine ⟨fun u hu => ?_, ?_⟩
         · apply quietAt_enter 228 #[ndV n p]
           · go_simp
           · refine (implFlags n p u hu.m).mono ?_
             rintro e w2 ⟨he, b2⟩
             rw [← HD.out] at he
             exact ⟨he, hu.below b2⟩
         simp only [Act.put, List.setIfInBounds_toArray, List.set_cons_zero, List.set_cons_succ]
         go_big_quiet_on)
    refine wpQuiet_nil ?_
    intro W2 h2
    have hb := h2.nx.bel
    clear hok hdv HD hp
    cases d
    · go_wp2_with fail
      go_ret
      exact ⟨by rw [HV.out]; rfl, hb⟩
    · go_wp2_with fail
      go_ret
      exact ⟨by rw [HV.out]; rfl, hb⟩
  · replace HD := Lib.hid (HD.out.trans (by rw [hp]; rfl : _ = (false)))
    generalize hdv : downB n = d at *
    refine region_class (NC g n p w) (by kernel_rfl) (by kernel_rfl) X.drew ?_
    repeat first
      | go_big_quiet_skip
      | (go_big_quiet_want
         apply Exists.intro
         refine ⟨fun u hu => ?_, ?_⟩
         · exact quietAt_val (hu.nx.took rfl rfl)
         simp only [Act.put, List.setIfInBounds_toArray, List.set_cons_zero, List.set_cons_succ]
         go_big_quiet_on)
      | (go_big_quiet_want
         apply Exists.intro
         refine ⟨fun u hu => ?_, ?_⟩
         · exact quietAt_val (pullAt (f := .func (.func 229) #[] #[]) (k := 4) (by kernel_rfl) rfl rfl rfl)
         simp only [Act.put, List.setIfInBounds_toArray, List.set_cons_zero, List.set_cons_succ]
         go_big_quiet_on)
      | (go_big_quiet_want
         apply Exists.intro
         refine ⟨fun u hu => ?_, ?_⟩
         · apply quietAt_val
           obtain ⟨c0, c1, c2, c3, c4, c5, c6, c7, c8, c9, c10, c11, c12, c13, c14, c15, c16, c17⟩ := hu.nx.cells
           rw [hp] at c0
           clear c1 c2 c3 c4 c5 c6 c7 c8 c9 c10 c11 c12 c13 c14 c15 c16 c17
           go_simp
           rfl
         simp only [Act.put, List.setIfInBounds_toArray, List.set_cons_zero, List.set_cons_succ]
         go_big_quiet_on)
      | (go_big_quiet_want
         apply Exists.intro
         refine ⟨fun u hu => ?_, ?_⟩
         · apply quietAt_enter 177 #[]
           · go_simp
           · refine (implPulls u).mono ?_
             rintro e w2 ⟨rfl, b2⟩
             exact ⟨rfl, hu.below b2⟩
         simp only [Act.put, List.setIfInBounds_toArray, List.set_cons_zero, List.set_cons_succ]
         go_big_quiet_on)
      | (go_big_quiet_want
         apply Exists.intro
         refine ⟨fun u hu => ?_, ?_⟩
         · apply quietAt_enter 229 #[ndV n p]
           · go_simp
           · refine (implNever n p u hu.m).mono ?_
             rintro e w2 ⟨he, b2⟩
             rw [← HD.out] at he
             exact ⟨he, hu.below b2⟩
         simp only [Act.put, List.setIfInBounds_toArray, List.set_cons_zero, List.set_cons_succ]
         go_big_quiet_on)
    refine wpQuiet_nil ?_
    intro W2 h2
    have hb := h2.nx.bel
    clear hok hdv HD hp
    cases d
    · go_wp2_with fail
      go_ret
      exact ⟨by rw [HV.out]; rfl, hb⟩
    · go_wp2_with fail
      go_ret
      exact ⟨by rw [HV.out]; rfl, hb⟩
  · replace HD := Lib.hid (HD.out.trans (by rw [hp]; rfl : _ = (false)))
    generalize hdv : downB n = d at *
    refine region_class (NC g n p w) (by kernel_rfl) (by kernel_rfl) X.drew ?_
    repeat first
      | go_big_quiet_skip
      | (go_big_quiet_want
         apply Exists.intro
         refine ⟨fun u hu => ?_, ?_⟩
         · exact quietAt_val (hu.nx.took rfl rfl)
         simp only [Act.put, List.setIfInBounds_toArray, List.set_cons_zero, List.set_cons_succ]
         go_big_quiet_on)
      | (go_big_quiet_want
         apply Exists.intro
         refine ⟨fun u hu => ?_, ?_⟩
         · exact quietAt_val (pullAt (f := .func (.func 229) #[] #[]) (k := 5) (by kernel_rfl) rfl rfl rfl)
         simp only [Act.put, List.setIfInBounds_toArray, List.set_cons_zero, List.set_cons_succ]
         go_big_quiet_on)
      | (go_big_quiet_want
         apply Exists.intro
         refine ⟨fun u hu => ?_, ?_⟩
         · apply quietAt_val
           obtain ⟨c0, c1, c2, c3, c4, c5, c6, c7, c8, c9, c10, c11, c12, c13, c14, c15, c16, c17⟩ := hu.nx.cells
           rw [hp] at c0
           clear c1 c2 c3 c4 c5 c6 c7 c8 c9 c10 c11 c12 c13 c14 c15 c16 c17
           go_simp
           rfl
         simp only [Act.put, List.setIfInBounds_toArray, List.set_cons_zero, List.set_cons_succ]
         go_big_quiet_on)
      | (go_big_quiet_want
         apply Exists.intro
         refine ⟨fun u hu => ?_, ?_⟩
         · apply quietAt_enter 177 #[]
           · go_simp
           · refine (implPulls u).mono ?_
             rintro e w2 ⟨rfl, b2⟩
             exact ⟨rfl, hu.below b2⟩
         simp only [Act.put, List.setIfInBounds_toArray, List.set_cons_zero, List.set_cons_succ]
         go_big_quiet_on)
      | (go_big_quiet_want
         apply Exists.intro
         refine ⟨fun u hu => ?_, ?_⟩
         · apply quietAt_enter 229 #[ndV n p]
           · go_simp
           · refine (implNever n p u hu.m).mono ?_
             rintro e w2 ⟨he, b2⟩
             rw [← HD.out] at he
             exact ⟨he, hu.below b2⟩
         simp only [Act.put, List.setIfInBounds_toArray, List.set_cons_zero, List.set_cons_succ]
         go_big_quiet_on)
    refine wpQuiet_nil ?_
    intro W2 h2
    have hb := h2.nx.bel
    clear hok hdv HD hp
    cases d
    · go_wp2_with fail
      go_ret
      exact ⟨by rw [HV.out]; rfl, hb⟩
    · go_wp2_with fail
      go_ret
      exact ⟨by rw [HV.out]; rfl, hb⟩
  · replace HD := Lib.hid (HD.out.trans (by rw [hp]; rfl : _ = (false)))
    generalize hdv : downB n = d at *
    refine region_class (NC g n p w) (by kernel_rfl) (by kernel_rfl) X.drew ?_
    repeat first
      | go_big_quiet_skip
      | (go_big_quiet_want
         apply Exists.intro
         refine ⟨fun u hu => ?_, ?_⟩
         · exact quietAt_val (hu.nx.took rfl rfl)
         simp only [Act.put, List.setIfInBounds_toArray, List.set_cons_zero, List.set_cons_succ]
         go_big_quiet_on)
      | (go_big_quiet_want
         apply Exists.intro
         refine ⟨fun u hu => ?_, ?_⟩
         · exact quietAt_val (pullAt (f := .func (.func 229) #[] #[]) (k := 6) (by kernel_rfl) rfl rfl rfl)
         simp only [Act.put, List.setIfInBounds_toArray, List.set_cons_zero, List.set_cons_succ]
         go_big_quiet_on)
      | (go_big_quiet_want
         apply Exists.intro
         refine ⟨fun u hu => ?_, ?_⟩
         · apply quietAt_val
           obtain ⟨c0, c1, c2, c3, c4, c5, c6, c7, c8, c9, c10, c11, c12, c13, c14, c15, c16, c17⟩ := hu.nx.cells
           rw [hp] at c0
           clear c1 c2 c3 c4 c5 c6 c7 c8 c9 c10 c11 c12 c13 c14 c15 c16 c17
           go_simp
           rfl
         simp only [Act.put, List.setIfInBounds_toArray, List.set_cons_zero, List.set_cons_succ]
         go_big_quiet_on)
      | (go_big_quiet_want
         apply Exists.intro
         refine ⟨fun u hu => ?_, ?_⟩
         · apply quietAt_enter 177 #[]
           · go_simp
           · refine (implPulls u).mono ?_
             rintro e w2 ⟨rfl, b2⟩
             exact ⟨rfl, hu.below b2⟩
         simp only [Act.put, List.setIfInBounds_toArray, List.set_cons_zero, List.set_cons_succ]
         go_big_quiet_on)
      | (go_big_quiet_want
         apply Exists.intro
         refine ⟨fun u hu => ?_, ?_⟩
         · apply quietAt_enter 229 #[ndV n p]
           · go_simp
           · refine (implNever n p u hu.m).mono ?_
             rintro e w2 ⟨he, b2⟩
             rw [← HD.out] at he
             exact ⟨he, hu.below b2⟩
         simp only [Act.put, List.setIfInBounds_toArray, List.set_cons_zero, List.set_cons_succ]
         go_big_quiet_on)
    refine wpQuiet_nil ?_
    intro W2 h2
    have hb := h2.nx.bel
    clear hok hdv HD hp
    cases d
    · go_wp2_with fail
      go_ret
      exact ⟨by rw [HV.out]; rfl, hb⟩
    · go_wp2_with fail
      go_ret
      exact ⟨by rw [HV.out]; rfl, hb⟩
  · replace HD := Lib.hid (HD.out.trans (by rw [hp]; rfl : _ = (false)))
    generalize hdv : downB n = d at *
    refine region_class (NC g n p w) (by kernel_rfl) (by kernel_rfl) X.drew ?_
    repeat first
      | go_big_quiet_skip
      | (go_big_quiet_want
         apply Exists.intro
         refine ⟨fun u hu => ?_, ?_⟩
         · exact quietAt_val (hu.nx.took rfl rfl)
         simp only [Act.put, List.setIfInBounds_toArray, List.set_cons_zero, List.set_cons_succ]
         go_big_quiet_on)
      | (go_big_quiet_want
         apply Exists.intro
         refine ⟨fun u hu => ?_, ?_⟩
         · exact quietAt_val (pullAt (f := .func (.func 229) #[] #[]) (k := 7) (by kernel_rfl) rfl rfl rfl)
         simp only [Act.put, List.setIfInBounds_toArray, List.set_cons_zero, List.set_cons_succ]
         go_big_quiet_on)
      | (go_big_quiet_want
         apply Exists.intro
         refine ⟨fun u hu => ?_, ?_⟩
         · apply quietAt_val
           obtain ⟨c0, c1, c2, c3, c4, c5, c6, c7, c8, c9, c10, c11, c12, c13, c14, c15, c16, c17⟩ := hu.nx.cells
           rw [hp] at c0
           clear c1 c2 c3 c4 c5 c6 c7 c8 c9 c10 c11 c12 c13 c14 c15 c16 c17
           go_simp
           rfl
         simp only [Act.put, List.setIfInBounds_toArray, List.set_cons_zero, List.set_cons_succ]
         go_big_quiet_on)
      | (go_big_quiet_want
         apply Exists.intro
         refine ⟨fun u hu => ?_, ?_⟩
         · apply quietAt_enter 177 #[]
           · go_simp
           · refine (implPulls u).mono ?_
             rintro e w2 ⟨rfl, b2⟩
             exact ⟨rfl, hu.below b2⟩
         simp only [Act.put, List.setIfInBounds_toArray, List.set_cons_zero, List.set_cons_succ]
         go_big_quiet_on)
      | (go_big_quiet_want
         apply Exists.intro
         refine ⟨fun u hu => ?_, ?_⟩
         · apply quietAt_enter 229 #[ndV n p]
           · go_simp
           · refine (implNever n p u hu.m).mono ?_
             rintro e w2 ⟨he, b2⟩
             rw [← HD.out] at he
             exact ⟨he, hu.below b2⟩
         simp only [Act.put, List.setIfInBounds_toArray, List.set_cons_zero, List.set_cons_succ]
         go_big_quiet_on)
    refine wpQuiet_nil ?_
    intro W2 h2
    have hb := h2.nx.bel
    clear hok hdv HD hp
    cases d
    · go_wp2_with fail
      go_ret
      exact ⟨by rw [HV.out]; rfl, hb⟩
    · go_wp2_with fail
      go_ret
      exact ⟨by rw [HV.out]; rfl, hb⟩
/-- impl.Drives. -/
theorem implDrives (n : Nd) (p : NdP) (w : World) (hm : NdM n p w) :
    Calls Tryz.prog 20 #[ndV n p] w fun e w' => e = .returned (.int .i64 (driveN n)) ∧ Below w.heap.size w w' := by
  have X := Nx.made n p (Below.refl w.heap.size w)
  have HV : driveN n = if (nodeB n && downB n) = true then 0 else 1 := rfl
  go_enter Tryz.func20, Tryz.ntmps20
  go_upto_region 1 with fail
  generalize w.alloc _ = W at X ⊢
  generalize w.heap.size = g at X
  go_wp2_with (refine X.take rfl rfl rfl ?_)
  refine (implNodeOk n p _ (hm.below X.bel)).mono ?_
  rintro e w1 ⟨rfl, b⟩
  replace X := X.below b
  clear b
  cases hok : nodeB n
  · have hV : driveN n = 1 := by rw [HV, hok]; rfl
    clear hok HV
    have hb := X.bel
    go_wp2_with fail
    go_ret
    exact ⟨by rw [hV]; rfl, hb⟩
  · have hV : drvV n = driveN n := by rw [HV, hok]; rfl
    go_wp2_with (refine X.take rfl rfl rfl ?_)
    refine (implDrv n p _ (hm.below X.bel) hok).mono ?_
    rintro e w2 ⟨rfl, b⟩
    have hb := Below.then2 X.bel b
    rw [hV]
    clear hok HV hV b
    go_wp2_with fail
    go_ret
    exact ⟨rfl, hb⟩
end Go.Proofs.YtngcekegngmedaaGreatDoor
