/- Contracts of FrameOk, of the program and of the model: at every frame whose data can be read both answer frOk of it. -/
import Derived.Test.YthhhhfpgmolcmabHeld
import Derived.Below
import Derived.WalkKit
import Derived.Deep.RegionWith
import Derived.Deep.QuietTactic
import Derived.BigQuiet
import Derived.Deep.RegionHeld3
import Derived.Deep.CutRange
import Derived.Deep.DeepCutAuto
namespace Go.Proofs.Ythhhhfpgmolcmab
open Go.RowKit

/-- Number j of a list (a name of its own: simp leaves it alone). -/
def nth (D : List Int) (j : Nat) : Int := D.getD j 0
/-- In w the slice at a holds the numbers D. -/
def Nums (a : Option Addr) (D : List Int) (w : World) : Prop :=
  D.length ≤ maxLen ∧ (∀ v ∈ D, (Lit.int .i64 v).wf = true) ∧ ∀ j, j < D.length → ∃ g o, a = some ⟨g, o, none⟩ ∧ w.cell? ⟨g, o + j, none⟩ = some (.int .i64 (nth D j))
theorem Nums.below {a : Option Addr} {D : List Int} {w w' : World} (h : Nums a D w) (b : Below w.heap.size w w') : Nums a D w' := by
  refine ⟨h.1, h.2.1, fun j hj => ?_⟩
  obtain ⟨g, o, ha, hc⟩ := h.2.2 j hj
  exact ⟨g, o, ha, (b.cell (p := ⟨g, o + j, none⟩) (World.block_lt_of_cell? w _ hc)).trans hc⟩

theorem Nums.alloc {a : Option Addr} {D : List Int} {w : World} (h : Nums a D w) (o : Obj) : Nums a D (w.alloc o) := h.below ((Below.refl _ _).alloc (Nat.le_refl _) _)

theorem Nums.drew {a : Option Addr} {D : List Int} {w : World} (h : Nums a D w) : Nums a D w.drew := ⟨h.1, h.2.1, h.2.2⟩

/-- Is the number a byte? -/
def byOk (b : Int) : Bool := decide (0 ≤ b) && decide (b ≤ 255)
def frOk (id : Int) (rm : Bool) (ln : Int) (D : List Int) : Bool := inR id ln && decide ((D.length : Int) = if rm then 0 else ln) && D.all byOk

theorem byOk_no {v : Int} (h : v < 0 ∨ 255 < v) : byOk v = false := by
  simp only [byOk, Bool.and_eq_false_iff, decide_eq_false_iff_not]; omega
theorem byOk_yes {v : Int} (h0 : 0 ≤ v) (h1 : v ≤ 255) : byOk v = true := by simp [byOk, h0, h1]
theorem all_yes {D : List Int} (h : ∀ j, j < D.length → byOk (nth D j) = true) : D.all byOk = true := by
  rw [List.all_eq_true]
  intro x hx
  obtain ⟨j, hj, rfl⟩ := List.mem_iff_getElem.1 hx
  have := h j hj
  rwa [nth, List.getD_eq_getElem?_getD, List.getElem?_eq_getElem hj] at this
theorem all_no {D : List Int} {k : Nat} (hk : k < D.length) (h : byOk (nth D k) = false) : D.all byOk = false := by
  rw [nth, List.getD_eq_getElem?_getD, List.getElem?_eq_getElem hk] at h
  rw [Bool.eq_false_iff]
  intro e
  rw [List.all_eq_true] at e
  have := e _ (List.getElem_mem hk)
  simp_all
theorem frOk_no {id : Int} {rm : Bool} {ln : Int} {D : List Int} (h : id < 0 ∨ 2047 < id ∨ ln < 0 ∨ 8 < ln ∨ (D.length : Int) ≠ if rm = true then 0 else ln) : frOk id rm ln D = false := by
  simp only [frOk, inR, Bool.and_eq_false_iff, decide_eq_false_iff_not]; omega
theorem frOk_yes {id : Int} {rm : Bool} {ln : Int} {D : List Int} (h : 0 ≤ id ∧ id ≤ 2047 ∧ 0 ≤ ln ∧ ln ≤ 8) (h2 : (D.length : Int) = if rm = true then 0 else ln) : frOk id rm ln D = D.all byOk := by
  simp only [frOk, inR]
  rw [decide_eq_true h2, decide_eq_true h.1, decide_eq_true h.2.1, decide_eq_true h.2.2.1, decide_eq_true h.2.2.2]; rfl
/-- impl.FrameOk. -/
theorem implFrameOk (id : Int) (rm : Bool) (ln : Int) (a : Option Addr) (D : List Int) (c : Nat) (w : World) (hd : Nums a D w) :
    Calls Try.prog 20 #[frV id rm ln a D.length c] w fun e w' => e = .returned (.bool (frOk id rm ln D)) ∧ Below w.heap.size w w' := by
  have HM := Lib.hid hd.1
  go_enter Try.func20, Try.ntmps20
  go_wp2_with fail
  refine (headedOf _ _ _ _ _ _ _).mono ?_
  rintro e w1 ⟨rfl, b1⟩
  go_wp2_with fail
  have h4 : Four w1.heap.size (.int .i64 id) (.bool rm) (.int .i64 ln) (.slice a D.length c) w (w1.alloc (.cells #[.int .i64 id, .bool rm, .int .i64 ln, .slice a D.length c] 54)) :=
    Four.made _ _ _ _ _ (below_from b1)
  generalize w1.alloc (.cells #[.int .i64 id, .bool rm, .int .i64 ln, .slice a D.length c] 54) = W at *
  generalize w1.heap.size = g at *
  clear b1 w1
  cases hin : inR id ln with
  | false =>
    have HF : Hid (frOk id rm ln D = false) := by unfold frOk; rw [hin]; rfl
    refine region_class (Four g (.int .i64 id) (.bool rm) (.int .i64 ln) (.slice a D.length c) w) (by kernel_rfl) (by kernel_rfl) h4.drew ?_
    repeat first
      | go_big_quiet_skip
      | (go_big_quiet_want
         apply Exists.intro
         refine ⟨fun u hu => ?_, ?_⟩
         · apply quietAt_val
           obtain ⟨⟨c0, c1, c2, c3⟩, _⟩ := hu
           go_simp
           rfl
         simp only [Act.put, List.setIfInBounds_toArray, List.set_cons_zero, List.set_cons_succ]
         go_big_quiet_on)
      | (go_big_quiet_want
         apply Exists.intro
         refine ⟨fun u hu => ?_, ?_⟩
         · apply quietAt_enter 37 #[hdV id rm ln]
           · go_simp
           · refine (inRange id rm ln u).mono ?_
             rintro e w2 ⟨rfl, b2⟩
             rw [hin]
             exact ⟨rfl, hu.below b2⟩
         simp only [Act.put, List.setIfInBounds_toArray, List.set_cons_zero, List.set_cons_succ]
         go_big_quiet_on)
    refine wpQuiet_nil ?_
    intro W2 h5
    go_wp2
    go_ret
    exact ⟨ret_bool HF.out.symm, h5.2⟩
  | true =>
    refine region_class (Four g (.int .i64 id) (.bool rm) (.int .i64 ln) (.slice a D.length c) w) (by kernel_rfl) (by kernel_rfl) h4.drew ?_
    repeat first
      | go_big_quiet_skip
      | (go_big_quiet_want
         apply Exists.intro
         refine ⟨fun u hu => ?_, ?_⟩
         · apply quietAt_val
           obtain ⟨⟨c0, c1, c2, c3⟩, _⟩ := hu
           go_simp
           rfl
         simp only [Act.put, List.setIfInBounds_toArray, List.set_cons_zero, List.set_cons_succ]
         go_big_quiet_on)
      | (go_big_quiet_want
         apply Exists.intro
         refine ⟨fun u hu => ?_, ?_⟩
         · apply quietAt_enter 37 #[hdV id rm ln]
           · go_simp
           · refine (inRange id rm ln u).mono ?_
             rintro e w2 ⟨rfl, b2⟩
             rw [hin]
             exact ⟨rfl, hu.below b2⟩
         simp only [Act.put, List.setIfInBounds_toArray, List.set_cons_zero, List.set_cons_succ]
         go_big_quiet_on)
      | (go_big_quiet_want
         apply Exists.intro
         refine ⟨fun u hu => ?_, ?_⟩
         · apply quietAt_enter 38 #[hdV id rm ln]
           · go_simp
           · refine (dataSize id rm ln u).mono ?_
             rintro e w2 ⟨rfl, b2⟩
             exact ⟨rfl, hu.below b2⟩
         simp only [Act.put, List.setIfInBounds_toArray, List.set_cons_zero, List.set_cons_succ]
         go_big_quiet_on)
    refine wpQuiet_nil ?_
    intro W2 h5
    have HE : Hid (frOk id rm ln D = (decide ((D.length : Int) = if rm = true then 0 else ln) && D.all byOk)) := by
      unfold frOk; rw [hin, Bool.true_and]; exact rfl
    generalize (if rm = true then 0 else ln) = ds at HE ⊢
    cases hne : ((D.length : Int) != ds) with
    | true =>
      go_wp2
      go_ret
      exact ⟨ret_bool (by rw [HE.out, decide_eq_false (by simpa using hne)]; rfl), h5.2⟩
    | false =>
      have HD : Hid (frOk id rm ln D = D.all byOk) := by rw [HE.out, decide_eq_true (by simpa using hne)]; exact Bool.true_and _
      have hd2 := (hd.below h5.2)
      obtain ⟨⟨c0, c1, c2, c3⟩, b5⟩ := h5
      clear hne HE hd h4 hin
      have hm := HM.out
      unfold maxLen at hm
      go_wp2
      go_loop [5, 24] (fun _ i => ∃ k : Nat, k ≤ D.length ∧ i = .int .i64 k ∧ ∀ j, j < k → byOk (nth D j) = true) (fun _ i => D.length - (intOf i).toNat)
      case atStart => exact ⟨0, Nat.zero_le _, rfl, fun j hj => absurd hj (by omega)⟩
      case round =>
        obtain ⟨k, hk, rfl, hr⟩ := hrel
        by_cases hlt : k < D.length
        · obtain ⟨bl, o, rfl, hc⟩ := hd2.2.2 k hlt
          generalize hv' : nth D k = v at hc
          have hv := Lib.hid hv'
          clear hv'
          go_wp2
          all_goals first
            | (go_ret; exact ⟨ret_bool (by rw [HD.out]; symm; exact all_no hlt (by rw [hv.out]; exact byOk_no (by omega))), b5⟩)
            | (go_round
               case rel => refine ⟨k + 1, by omega, by go_num, fun j hj => ?_⟩; exact (by
                 by_cases e : j = k
                 · rw [e, hv.out]; exact byOk_yes (by omega) (by omega)
                 · exact hr j (by omega))
               case measure => simp [intOf]; omega)
        · go_wp2
          go_ret
          exact ⟨ret_bool (by rw [HD.out]; symm; exact all_yes fun j hj => hr j (by omega)), b5⟩

/-- spec.FrameOk. -/
theorem specFrameOk (id : Int) (rm : Bool) (ln : Int) (a : Option Addr) (D : List Int) (c : Nat) (w : World) (hd : Nums a D w) :
    Calls Try.prog 12 #[frV id rm ln a D.length c] w fun e w' => e = .returned (.bool (frOk id rm ln D)) ∧ Below w.heap.size w w' := by
  have hm := hd.1
  unfold maxLen at hm
  have h0 : Below w.heap.size w (w.alloc (.cells #[.int .i64 id, .bool rm, .int .i64 ln, .slice a D.length c] 26)) := (Below.refl _ _).alloc (Nat.le_refl _) _
  have hd2 := hd.below h0
  clear hd
  cases rm with
  | true =>
    go_enter Try.func12, Try.ntmps12
    go_wp2_with (first
      | (go_at_call 26; refine (l1In _ _ _ _).mono ?_; rintro e w' ⟨rfl, rfl⟩))
    all_goals first
      | (go_ret; exact ⟨ret_bool (frOk_no (by first | omega | (simp only [if_true]; simp_all; done))).symm, by first | exact h0 | (simp_all; done)⟩)
      | (rename_i hD _ _
         subst hD
         go_loop [3] (fun i => i = .int .i64 0) (fun _ => 0)
         case atStart => rfl
         case round =>
           subst hrel
           go_wp2
           go_ret
           exact ⟨ret_bool (by symm; rw [frOk_yes (by omega) (by rfl)]; rfl), h0⟩)
  | false =>
    go_enter Try.func12, Try.ntmps12
    go_wp2_with (first
      | (go_at_call 26; refine (l1In _ _ _ _).mono ?_; rintro e w' ⟨rfl, rfl⟩))
    all_goals first
      | (go_ret; exact ⟨ret_bool (frOk_no (by first | omega | (simp only [Bool.false_eq_true, if_false]; omega))).symm, h0⟩)
      | (rename_i hb; go_ret; exact ⟨ret_bool (frOk_no (.inr (.inr (.inr (.inr (by simpa using hb)))))).symm, h0⟩)
      | (rename_i hi hl hb _ _
         have HD : Hid (frOk id false ln D = D.all byOk) := frOk_yes (by omega) (by simpa using hb)
         clear hi hl hb
         have h4 : Four w.heap.size (.int .i64 id) (.bool false) (.int .i64 ln) (.slice a D.length c) w (w.alloc (.cells #[.int .i64 id, .bool false, .int .i64 ln, .slice a D.length c] 26)) :=
           Four.made _ _ _ _ _ (Below.refl _ _)
         clear h0
         generalize hW : w.alloc (.cells #[.int .i64 id, .bool false, .int .i64 ln, .slice a D.length c] 26) = W at hd2 h4 ⊢
         clear hW
         obtain ⟨⟨c0, c1, c2, c3⟩, b5⟩ := h4
         go_loop [3] (fun i => ∃ k : Nat, k ≤ D.length ∧ i = .int .i64 k ∧ ∀ j, j < k → byOk (nth D j) = true) (fun i => D.length - (intOf i).toNat)
         case atStart => exact ⟨0, Nat.zero_le _, rfl, fun j hj => absurd hj (by omega)⟩
         case round =>
           obtain ⟨k, hk, rfl, hr⟩ := hrel
           by_cases hlt : k < D.length
           · obtain ⟨bl, o, rfl, hc⟩ := hd2.2.2 k hlt
             generalize hv' : nth D k = v at hc
             have hv := Lib.hid hv'
             clear hv'
             go_wp2_with (first
               | (go_at_call 26; refine (l1In _ _ _ _).mono ?_; rintro e w' ⟨rfl, rfl⟩))
             all_goals (rename_i hq; simp only [Bool.not_eq_true', Bool.not_eq_false', decide_eq_false_iff_not, decide_eq_true_eq] at hq)
             all_goals first
               | (go_ret; exact ⟨ret_bool (by rw [HD.out]; symm; exact all_no hlt (by rw [hv.out]; exact byOk_no (by omega))), b5⟩)
               | (go_round
                  case rel => refine ⟨k + 1, by omega, by go_num, fun j hj => ?_⟩; exact (by
                    by_cases e : j = k
                    · rw [e, hv.out]; exact byOk_yes (by omega) (by omega)
                    · exact hr j (by omega))
                  case measure => simp [intOf]; omega)
           · go_wp2
             go_ret
             exact ⟨ret_bool (by rw [HD.out]; symm; exact all_yes fun j hj => hr j (by omega)), b5⟩)
end Go.Proofs.Ythhhhfpgmolcmab
