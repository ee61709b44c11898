/- Contracts of FrameOk, of the program and of the model: at every frame whose data can be read both answer frOk of it. -/
import Derived.Test.YtnhmecabppaboaaGreatM2
import Derived.Below
import Derived.WalkKit
import Derived.Deep.RegionWith
import Derived.Deep.QuietTactic
import Derived.BigQuiet
import Derived.Deep.RegionHeld3
import Derived.Deep.CutRange
import Derived.Deep.DeepCutAuto
import Derived.Test.YtnhmecabppaboaaGreatM1

set_option maxRecDepth 20000
namespace Go.Proofs.YtnhmecabppaboaaGreat
open Go.RowKit

/-- Number j of a list (a name of its own: simp leaves it alone). -/
def nth (D : List Int) (j : Nat) : Int := D.getD j 0
/-- In w the slice at a holds the numbers D. -/
def Nums (a : Option Addr) (D : List Int) (w : World) : Prop :=
  D.length ≤ maxLen ∧ (∀ v ∈ D, (Lit.int .i64 v).wf = true) ∧ ∀ j, j < D.length → ∃ g o, a = some ⟨g, o, none⟩ ∧ w.cell? ⟨g, o + j, none⟩ = some (.int .i64 (nth D j))
theorem Nums.below {a : Option Addr} {D : List Int} {w w' : World} (h : Nums a D w) (b : Below w.heap.size w w') : Nums a D w' := by
  refine ⟨h.1, h.2.1, fun j hj => ?_⟩
  obtain ⟨g, o, ha, hc⟩ := h.2.2 j hj
  exact ⟨g, o, ha, (b.cell (p := ⟨g, o + j, none⟩) (World.block_lt_of_cell? w _ hc)).trans hc⟩

theorem Nums.alloc {a : Option Addr} {D : List Int} {w : World} (h : Nums a D w) (o : Obj) : Nums a D (w.alloc o) := h.below ((Below.refl _ _).alloc (Nat.le_refl _) _)

theorem Nums.drew {a : Option Addr} {D : List Int} {w : World} (h : Nums a D w) : Nums a D w.drew := ⟨h.1, h.2.1, h.2.2⟩

/-- Is the number a byte? -/
def byOk (b : Int) : Bool := decide (0 ≤ b) && decide (b ≤ 255)
def frOk (id : Int) (rm : Bool) (ln : Int) (D : List Int) : Bool := inR id ln && decide ((D.length : Int) = if rm then 0 else ln) && D.all byOk

theorem byOk_no {v : Int} (h : v < 0 ∨ 255 < v) : byOk v = false := by
  simp only [byOk, Bool.and_eq_false_iff, decide_eq_false_iff_not]; omega
theorem byOk_yes {v : Int} (h0 : 0 ≤ v) (h1 : v ≤ 255) : byOk v = true := by simp [byOk, h0, h1]
theorem all_yes {D : List Int} (h : ∀ j, j < D.length → byOk (nth D j) = true) : D.all byOk = true := by
  rw [List.all_eq_true]
  intro x hx
  obtain ⟨j, hj, rfl⟩ := List.mem_iff_getElem.1 hx
  have := h j hj
  rwa [nth, List.getD_eq_getElem?_getD, List.getElem?_eq_getElem hj] at this
theorem all_no {D : List Int} {k : Nat} (hk : k < D.length) (h : byOk (nth D k) = false) : D.all byOk = false := by
  rw [nth, List.getD_eq_getElem?_getD, List.getElem?_eq_getElem hk] at h
  rw [Bool.eq_false_iff]
  intro e
  rw [List.all_eq_true] at e
  have := e _ (List.getElem_mem hk)
  simp_all
theorem frOk_no {id : Int} {rm : Bool} {ln : Int} {D : List Int} (h : id < 0 ∨ 2047 < id ∨ ln < 0 ∨ 8 < ln ∨ (D.length : Int) ≠ if rm = true then 0 else ln) : frOk id rm ln D = false := by
  simp only [frOk, inR, Bool.and_eq_false_iff, decide_eq_false_iff_not]; omega
theorem frOk_yes {id : Int} {rm : Bool} {ln : Int} {D : List Int} (h : 0 ≤ id ∧ id ≤ 2047 ∧ 0 ≤ ln ∧ ln ≤ 8) (h2 : (D.length : Int) = if rm = true then 0 else ln) : frOk id rm ln D = D.all byOk := by
  simp only [frOk, inR]
  rw [decide_eq_true h2, decide_eq_true h.1, decide_eq_true h.2.1, decide_eq_true h.2.2.1, decide_eq_true h.2.2.2]; rfl
/-- impl.FrameOk. -/
theorem implFrameOk (id : Int) (rm : Bool) (ln : Int) (a : Option Addr) (D : List Int) (c : Nat) (w : World) (hd : Nums a D w) :
    Calls Tryz.prog 76 #[frV id rm ln a D.length c] w fun e w' => e = .returned (.bool (frOk id rm ln D)) ∧ Below w.heap.size w w' := by
  have HM := Lib.hid hd.1
  go_enter Tryz.func76, Tryz.ntmps76
  go_wp2_with fail
  refine (headedOf _ _ _ _ _ _ _).mono ?_
  rintro e w1 ⟨rfl, b1⟩
  go_wp2_with fail
  have h4 : Four w1.heap.size (.int .i64 id) (.bool rm) (.int .i64 ln) (.slice a D.length c) w (w1.alloc (.cells #[.int .i64 id, .bool rm, .int .i64 ln, .slice a D.length c] 106)) :=
    Four.made _ _ _ _ _ (below_from b1)
  generalize w1.alloc (.cells #[.int .i64 id, .bool rm, .int .i64 ln, .slice a D.length c] 106) = W at *
  generalize w1.heap.size = g at *
  clear b1 w1
  cases hin : inR id ln with
  | false =>
    have HF : Hid (frOk id rm ln D = false) := by unfold frOk; rw [hin]; rfl
    refine region_class (Four g (.int .i64 id) (.bool rm) (.int .i64 ln) (.slice a D.length c) w) (by kernel_rfl) (by kernel_rfl) h4.drew ?_
    repeat first
      | go_big_quiet_skip
      | (go_big_quiet_want
         apply Exists.intro
         refine ⟨fun u hu => ?_, ?_⟩
         · apply quietAt_val
           obtain ⟨⟨c0, c1, c2, c3⟩, _⟩ := hu
           go_simp
           rfl
         simp only [Act.put, List.setIfInBounds_toArray, List.set_cons_zero, List.set_cons_succ]
         go_big_quiet_on)
      | (go_big_quiet_want
         apply Exists.intro
         refine ⟨fun u hu => ?_, ?_⟩
         · apply quietAt_enter 94 #[hdV id rm ln]
           · go_simp
           · refine (inRange id rm ln u).mono ?_
             rintro e w2 ⟨rfl, b2⟩
             rw [hin]
             exact ⟨rfl, hu.below b2⟩
         simp only [Act.put, List.setIfInBounds_toArray, List.set_cons_zero, List.set_cons_succ]
         go_big_quiet_on)
    refine wpQuiet_nil ?_
    intro W2 h5
    go_wp2
    go_ret
    exact ⟨ret_bool HF.out.symm, h5.2⟩
  | true =>
    refine region_class (Four g (.int .i64 id) (.bool rm) (.int .i64 ln) (.slice a D.length c) w) (by kernel_rfl) (by kernel_rfl) h4.drew ?_
    repeat first
      | go_big_quiet_skip
      | (go_big_quiet_want
         apply Exists.intro
         refine ⟨fun u hu => ?_, ?_⟩
         · apply quietAt_val
           obtain ⟨⟨c0, c1, c2, c3⟩, _⟩ := hu
           go_simp
           rfl
         simp only [Act.put, List.setIfInBounds_toArray, List.set_cons_zero, List.set_cons_succ]
         go_big_quiet_on)
      | (go_big_quiet_want
         apply Exists.intro
         refine ⟨fun u hu => ?_, ?_⟩
         · apply quietAt_enter 94 #[hdV id rm ln]
           · go_simp
           · refine (inRange id rm ln u).mono ?_
             rintro e w2 ⟨rfl, b2⟩
             rw [hin]
             exact ⟨rfl, hu.below b2⟩
         simp only [Act.put, List.setIfInBounds_toArray, List.set_cons_zero, List.set_cons_succ]
         go_big_quiet_on)
      | (go_big_quiet_want
         apply Exists.intro
         refine ⟨fun u hu => ?_, ?_⟩
         · apply quietAt_enter 95 #[hdV id rm ln]
           · go_simp
           · refine (dataSize id rm ln u).mono ?_
             rintro e w2 ⟨rfl, b2⟩
             exact ⟨rfl, hu.below b2⟩
         simp only [Act.put, List.setIfInBounds_toArray, List.set_cons_zero, List.set_cons_succ]
         go_big_quiet_on)
    refine wpQuiet_nil ?_
    intro W2 h5
    have HE : Hid (frOk id rm ln D = (decide ((D.length : Int) = if rm = true then 0 else ln) && D.all byOk)) := by
      unfold frOk; rw [hin, Bool.true_and]; exact rfl
    generalize (if rm = true then 0 else ln) = ds at HE ⊢
    cases hne : ((D.length : Int) != ds) with
    | true =>
      go_wp2
      go_ret
      exact ⟨ret_bool (by rw [HE.out, decide_eq_false (by simpa using hne)]; rfl), h5.2⟩
    | false =>
      have HD : Hid (frOk id rm ln D = D.all byOk) := by rw [HE.out, decide_eq_true (by simpa using hne)]; exact Bool.true_and _
      have hd2 := (hd.below h5.2)
      obtain ⟨⟨c0, c1, c2, c3⟩, b5⟩ := h5
      clear hne HE hd h4 hin
      have hm := HM.out
      unfold maxLen at hm
      go_wp2
      go_loop [5, 24] (fun _ i => ∃ k : Nat, k ≤ D.length ∧ i = .int .i64 k ∧ ∀ j, j < k → byOk (nth D j) = true) (fun _ i => D.length - (intOf i).toNat)
      case atStart => exact ⟨0, Nat.zero_le _, rfl, fun j hj => absurd hj (by omega)⟩
      case round =>
        obtain ⟨k, hk, rfl, hr⟩ := hrel
        by_cases hlt : k < D.length
        · obtain ⟨bl, o, rfl, hc⟩ := hd2.2.2 k hlt
          generalize hv' : nth D k = v at hc
          have hv := Lib.hid hv'
          clear hv'
          go_wp2
          all_goals first
            | (go_ret; exact ⟨ret_bool (by rw [HD.out]; symm; exact all_no hlt (by rw [hv.out]; exact byOk_no (by omega))), b5⟩)
            | (go_round
               case rel => refine ⟨k + 1, by omega, by go_num, fun j hj => ?_⟩; exact (by
                 by_cases e : j = k
                 · rw [e, hv.out]; exact byOk_yes (by omega) (by omega)
                 · exact hr j (by omega))
               case measure => simp [intOf]; omega)
        · go_wp2
          go_ret
          exact ⟨ret_bool (by rw [HD.out]; symm; exact all_yes fun j hj => hr j (by omega)), b5⟩

/-- spec.FrameOk. -/
theorem specFrameOk (id : Int) (rm : Bool) (ln : Int) (a : Option Addr) (D : List Int) (c : Nat) (w : World) (hd : Nums a D w) :
    Calls Tryz.prog 46 #[frV id rm ln a D.length c] w fun e w' => e = .returned (.bool (frOk id rm ln D)) ∧ Below w.heap.size w w' := by
  have hm := hd.1
  unfold maxLen at hm
  have h0 : Below w.heap.size w (w.alloc (.cells #[.int .i64 id, .bool rm, .int .i64 ln, .slice a D.length c] 35)) := (Below.refl _ _).alloc (Nat.le_refl _) _
  have hd2 := hd.below h0
  clear hd
  cases rm with
  | true =>
    go_enter Tryz.func46, Tryz.ntmps46
    go_wp2_with (first
      | (go_at_call 35; refine (l1In _ _ _ _).mono ?_; rintro e w' ⟨rfl, rfl⟩))
    all_goals first
      | (go_ret; exact ⟨ret_bool (frOk_no (by first | omega | (simp only [if_true]; simp_all; done))).symm, by first | exact h0 | (simp_all; done)⟩)
      | (rename_i hD _ _
         subst hD
         go_loop [3] (fun i => i = .int .i64 0) (fun _ => 0)
         case atStart => rfl
         case round =>
           subst hrel
           go_wp2
           go_ret
           exact ⟨ret_bool (by symm; rw [frOk_yes (by omega) (by rfl)]; rfl), h0⟩)
  | false =>
    go_enter Tryz.func46, Tryz.ntmps46
    go_wp2_with (first
      | (go_at_call 35; refine (l1In _ _ _ _).mono ?_; rintro e w' ⟨rfl, rfl⟩))
    all_goals first
      | (go_ret; exact ⟨ret_bool (frOk_no (by first | omega | (simp only [Bool.false_eq_true, if_false]; omega))).symm, h0⟩)
      | (rename_i hb; go_ret; exact ⟨ret_bool (frOk_no (.inr (.inr (.inr (.inr (by simpa using hb)))))).symm, h0⟩)
      | (rename_i hi hl hb _ _
         have HD : Hid (frOk id false ln D = D.all byOk) := frOk_yes (by omega) (by simpa using hb)
         clear hi hl hb
         have h4 : Four w.heap.size (.int .i64 id) (.bool false) (.int .i64 ln) (.slice a D.length c) w (w.alloc (.cells #[.int .i64 id, .bool false, .int .i64 ln, .slice a D.length c] 35)) :=
           Four.made _ _ _ _ _ (Below.refl _ _)
         clear h0
         generalize hW : w.alloc (.cells #[.int .i64 id, .bool false, .int .i64 ln, .slice a D.length c] 35) = W at hd2 h4 ⊢
         clear hW
         obtain ⟨⟨c0, c1, c2, c3⟩, b5⟩ := h4
         go_loop [3] (fun i => ∃ k : Nat, k ≤ D.length ∧ i = .int .i64 k ∧ ∀ j, j < k → byOk (nth D j) = true) (fun i => D.length - (intOf i).toNat)
         case atStart => exact ⟨0, Nat.zero_le _, rfl, fun j hj => absurd hj (by omega)⟩
         case round =>
           obtain ⟨k, hk, rfl, hr⟩ := hrel
           by_cases hlt : k < D.length
           · obtain ⟨bl, o, rfl, hc⟩ := hd2.2.2 k hlt
             generalize hv' : nth D k = v at hc
             have hv := Lib.hid hv'
             clear hv'
             go_wp2_with (first
               | (go_at_call 35; refine (l1In _ _ _ _).mono ?_; rintro e w' ⟨rfl, rfl⟩))
             all_goals (rename_i hq; simp only [Bool.not_eq_true', Bool.not_eq_false', decide_eq_false_iff_not, decide_eq_true_eq] at hq)
             all_goals first
               | (go_ret; exact ⟨ret_bool (by rw [HD.out]; symm; exact all_no hlt (by rw [hv.out]; exact byOk_no (by omega))), b5⟩)
               | (go_round
                  case rel => refine ⟨k + 1, by omega, by go_num, fun j hj => ?_⟩; exact (by
                    by_cases e : j = k
                    · rw [e, hv.out]; exact byOk_yes (by omega) (by omega)
                    · exact hr j (by omega))
                  case measure => simp [intOf]; omega)
           · go_wp2
             go_ret
             exact ⟨ret_bool (by rw [HD.out]; symm; exact all_yes fun j hj => hr j (by omega)), b5⟩)
end Go.Proofs.YtnhmecabppaboaaGreat

/- Contracts of RankOf, of the program and of the model: twice the Id, and 1 more of a remote one; -1 of a frame that is not right. -/

set_option maxRecDepth 20000
namespace Go.Proofs.YtnhmecabppaboaaGreat
open Go.RowKit

def rankV (id : Int) (rm : Bool) (ln : Int) (D : List Int) : Int := if frOk id rm ln D = true then (if rm = true then id * 2 + 1 else id * 2) else -1
theorem rankV_no {id : Int} {rm : Bool} {ln : Int} {D : List Int} (h : frOk id rm ln D = false) : rankV id rm ln D = -1 := by simp [rankV, h]
theorem rankV_yes {id : Int} {rm : Bool} {ln : Int} {D : List Int} (h : frOk id rm ln D = true) : rankV id rm ln D = if rm = true then id * 2 + 1 else id * 2 := by simp [rankV, h]
theorem frOk_id {id : Int} {rm : Bool} {ln : Int} {D : List Int} (h : frOk id rm ln D = true) : 0 ≤ id ∧ id ≤ 2047 := by
  simp only [frOk, inR, Bool.and_eq_true, decide_eq_true_eq] at h; omega
theorem rankV_le (id : Int) (rm : Bool) (ln : Int) (D : List Int) : -1 ≤ rankV id rm ln D ∧ rankV id rm ln D ≤ 4095 := by
  cases h : frOk id rm ln D with
  | false => rw [rankV_no h]; omega
  | true =>
    have := frOk_id h
    rw [rankV_yes h]
    cases rm <;> simp <;> omega
theorem rankV_neg {id : Int} {rm : Bool} {ln : Int} {D : List Int} : rankV id rm ln D < 0 ↔ frOk id rm ln D = false := by
  cases h : frOk id rm ln D with
  | false => rw [rankV_no h]; simp
  | true =>
    have := frOk_id h
    rw [rankV_yes h]
    cases rm <;> simp <;> omega

/-- impl.RankOf. -/
theorem implRankOf (id : Int) (rm : Bool) (ln : Int) (a : Option Addr) (D : List Int) (c : Nat) (w : World) (hd : Nums a D w) :
    Calls Tryz.prog 44 #[frV id rm ln a D.length c] w fun e w' => e = .returned (.int .i64 (rankV id rm ln D)) ∧ Below w.heap.size w w' := by
  have f0 := Four.made (.int .i64 id) (.bool rm) (.int .i64 ln) (.slice a D.length c) 35 (Below.refl w.heap.size w)
  go_enter Tryz.func44, Tryz.ntmps44
  go_wp2_with fail
  refine (implFrameOk _ _ _ _ _ _ _ (hd.alloc _)).mono ?_
  rintro e w1 ⟨rfl, b1⟩
  replace f0 := f0.below b1
  clear b1 hd
  obtain ⟨⟨c0, c1, c2, c3⟩, b1⟩ := f0
  cases hok : frOk id rm ln D with
  | false =>
    have HV := Lib.hid (rankV_no hok)
    clear hok
    go_wp2_with fail
    go_ret
    exact ⟨by rw [HV.out]; rfl, b1⟩
  | true =>
    have HV := Lib.hid (rankV_yes hok)
    have hid := frOk_id hok
    clear hok
    cases rm with
    | true =>
      go_wp2_with fail
      go_ret
      exact ⟨by rw [HV.out]; simp, b1⟩
    | false =>
      go_wp2_with fail
      go_ret
      exact ⟨by rw [HV.out]; simp, b1⟩
/-- spec.RankOf. -/
theorem specRankOf (id : Int) (rm : Bool) (ln : Int) (a : Option Addr) (D : List Int) (c : Nat) (w : World) (hd : Nums a D w) :
    Calls Tryz.prog 47 #[frV id rm ln a D.length c] w fun e w' => e = .returned (.int .i64 (rankV id rm ln D)) ∧ Below w.heap.size w w' := by
  have f0 := Four.made (.int .i64 id) (.bool rm) (.int .i64 ln) (.slice a D.length c) 35 (Below.refl w.heap.size w)
  go_enter Tryz.func47, Tryz.ntmps47
  go_wp2_with fail
  refine (specFrameOk _ _ _ _ _ _ _ (hd.alloc _)).mono ?_
  rintro e w1 ⟨rfl, b1⟩
  replace f0 := f0.below b1
  clear b1 hd
  obtain ⟨⟨c0, c1, c2, c3⟩, b1⟩ := f0
  cases hok : frOk id rm ln D with
  | false =>
    have HV := Lib.hid (rankV_no hok)
    clear hok
    go_wp2_with fail
    go_ret
    exact ⟨by rw [HV.out]; rfl, b1⟩
  | true =>
    have HV := Lib.hid (rankV_yes hok)
    have hid := frOk_id hok
    clear hok
    have e2 : 2 * id = id * 2 := by omega
    cases rm with
    | true =>
      go_wp2_with fail
      go_ret
      exact ⟨by rw [HV.out]; simp, b1⟩
    | false =>
      go_wp2_with fail
      go_ret
      exact ⟨by rw [HV.out]; simp, b1⟩
end Go.Proofs.YtnhmecabppaboaaGreat

/- The exact laws' own small functions over lists of int64: szInt64S, toInt64S, eqInt64S. -/

set_option maxRecDepth 20000
namespace Go.Proofs.YtnhmecabppaboaaGreat
open Go.RowKit

/-- A row of c int64s, number i being f i. -/
def irow (c : Nat) (f : Nat → Int) : Array Value := ((List.range c).map fun i => Value.int .i64 (f i)).toArray
theorem irow_size (c : Nat) (f : Nat → Int) : (irow c f).size = c := by simp [irow]
theorem irow_get {c : Nat} (f : Nat → Int) {i : Nat} (h : i < c) : (irow c f)[i]? = some (.int .i64 (f i)) := by
  simp [irow, h]
theorem irow_set {c : Nat} (f g : Nat → Int) (i : Nat) (v : Int) (hv : ∀ j, j < c → g j = if j = i then v else f j) :
    (irow c f).setIfInBounds i (.int .i64 v) = irow c g := by
  apply Array.ext
  · simp [irow]
  · intro j h1 h2
    have hj : j < c := by simpa [irow_size] using h2
    have := hv j hj
    simp only [irow, List.getElem_toArray, List.getElem_map, List.getElem_range] at *
    rw [Array.getElem_setIfInBounds (by simpa using hj)]
    by_cases e : i = j
    · subst e; simp [this]
    · rw [if_neg e, this, if_neg (Ne.symm e)]; simp
theorem irow_made (c : Nat) : madeCells #[.int .i64 0] (c * 1) = irow c fun _ => 0 := by
  apply Array.ext
  · simp [madeCells, irow]
  · intro j h1 h2
    simp [madeCells, irow, Nat.mod_one]
theorem make_ints (c : Nat) (hc : c ≤ 1048576) (W : World) : (Instr.makeSlice 33 (.int .i64 c) (.int .i64 c)).run Tryz.prog W =
    .ok (.slice (some ⟨W.heap.size, 0, none⟩) c c) (W.alloc (.cells (irow c fun _ => 0) 2)) := by
  obtain ⟨i0, hi, hz0, hz1, hz2⟩ := info_parts (show (Tryz.prog.info? 2).map (fun i => (i.zero, i.size, i.bytes)) = some (some (.int .i64 0), 1, 8) by kernel_rfl)
  have := run_make (P := Tryz.prog) W 33 2 i0 (.int .i64 0) Tryz.underlying33 hi hz0 .i64 .i64 c c (by omega) (Int.le_refl _) (by rw [hz2]; omega) (by omega)
  rw [this, hz1]
  simp only [Int.toNat_natCast]
  rw [show (Value.int .i64 0).cells = #[.int .i64 0] from rfl, irow_made]

/-- laws.szInt64S. -/
theorem szIntsBig (a : Option Addr) (n c : Nat) (w : World) (hn : n ≤ maxLen) (h : 1048576 < n) :
    Calls Tryz.prog 110 #[.slice a n c, .int .i64 1048576] w fun e w' => e = .returned (.int .i64 (-1)) ∧ w = w' := by
  unfold maxLen at hn
  go_enter Tryz.func110, Tryz.ntmps110
  go_wp2
  go_ret
  exact ⟨rfl, rfl⟩
theorem szIntsOver (a : Option Addr) (n c : Nat) (left : Int) (w : World) (hn : n ≤ maxLen) (h : left < n) (h0 : 0 ≤ left) (hl : left ≤ 1048576) :
    Calls Tryz.prog 110 #[.slice a n c, .int .i64 left] w fun e w' => e = .returned (.int .i64 (-1)) ∧ w = w' := by
  unfold maxLen at hn
  go_enter Tryz.func110, Tryz.ntmps110
  go_wp2
  go_ret
  exact ⟨rfl, rfl⟩
theorem szIntsOk (a : Option Addr) (n c : Nat) (left : Int) (w : World) (h : (n : Int) ≤ left) (hl : left ≤ 1048576) :
    Calls Tryz.prog 110 #[.slice a n c, .int .i64 left] w fun e w' => e = .returned (.int .i64 (left - n)) ∧ w = w' := by
  go_enter Tryz.func110, Tryz.ntmps110
  go_wp2
  go_ret
  exact ⟨rfl, rfl⟩

/-- laws.toInt64S. -/
theorem toInts (a : Option Addr) (D : List Int) (c : Nat) (w : World) (hd : Nums a D w) (h : D.length ≤ 1048576) :
    Calls Tryz.prog 111 #[.slice a D.length c] w fun e w' =>
      e = .returned (.slice (some ⟨w.heap.size, 0, none⟩) D.length D.length) ∧ w' = w.alloc (.cells (irow D.length fun j => nth D j) 2) := by
  have hmk := make_ints D.length h
  go_enter Tryz.func111, Tryz.ntmps111
  go_wp2
  clear hmk
  go_loopw [4] (fun i wr => ∃ k : Nat, k ≤ D.length ∧ i = .int .i64 k ∧ wr = w.alloc (.cells (irow D.length fun j => if j < k then nth D j else 0) 2)) (fun i _ => D.length - (intOf i).toNat)
  case atStart => exact ⟨0, Nat.zero_le _, rfl, by simp⟩
  case round =>
    obtain ⟨k, hk, rfl, rfl⟩ := hrel
    by_cases hlt : k < D.length
    · obtain ⟨bl, o, rfl, hc⟩ := hd.2.2 k hlt
      have hlt' : bl < w.heap.size := World.block_lt_of_cell? w _ hc
      have hcell := irow_get (fun j => if j < k then nth D j else 0) hlt
      rw [if_neg (Nat.lt_irrefl k)] at hcell
      generalize hv' : nth D k = v at hc
      have hv := Lib.hid hv'
      clear hv'
      go_wp2
      go_roundw
      case rel =>
        refine ⟨k + 1, by omega, by go_num, ?_⟩
        rw [irow_set _ (fun j => if j < k + 1 then nth D j else 0) k v]
        intro j _
        by_cases e : j = k
        · subst e; simp [hv.out]
        · rw [if_neg e]
          by_cases e2 : j < k
          · rw [if_pos e2, if_pos (by omega)]
          · rw [if_neg e2, if_neg (by omega)]
      case measure => simp [intOf]; omega
    · obtain rfl : k = D.length := by omega
      go_wp2
      go_ret
      refine ⟨rfl, ?_⟩
      congr 2
      apply Array.ext
      · simp [irow]
      · intro j h1 h2
        have hj : j < D.length := by simpa [irow_size] using h2
        simp [irow, hj]
theorem Nums.made {a : Option Addr} {D : List Int} {w : World} (hd : Nums a D w) (w1 : World) (T : TypeId) :
    Nums (some ⟨w1.heap.size, 0, none⟩) D (w1.alloc (.cells (irow D.length fun j => nth D j) T)) := by
  refine ⟨hd.1, hd.2.1, fun j hj => ⟨w1.heap.size, 0, rfl, ?_⟩⟩
  rw [World.cell?_alloc_at _ _ _ _ rfl, Nat.zero_add, irow_get _ hj]

/-- laws.eqInt64S, of two lists that hold the same. -/
theorem eqInts (a b : Option Addr) (D : List Int) (c c' : Nat) (w : World) (ha : Nums a D w) (hb : Nums b D w) :
    Calls Tryz.prog 101 #[.slice a D.length c, .slice b D.length c'] w fun e w' => e = .returned (.bool true) ∧ ∃ n, w' = w.drewN n := by
  have hm := ha.1
  unfold maxLen at hm
  go_enter Tryz.func101, Tryz.ntmps101
  go_wp2
  go_loopw [5] (fun i wr => ∃ k n : Nat, k ≤ D.length ∧ i = .int .i64 k ∧ wr = w.drewN n) (fun i _ => D.length - (intOf i).toNat)
  case atStart => exact ⟨0, 0, Nat.zero_le _, rfl, rfl⟩
  case round =>
    obtain ⟨k, n, hk, rfl, rfl⟩ := hrel
    by_cases hlt : k < D.length
    · obtain ⟨bl, o, rfl, hc⟩ := ha.2.2 k hlt
      obtain ⟨bl', o', rfl, hc'⟩ := hb.2.2 k hlt
      have hki : (k : Int) < D.length := by omega
      generalize nth D k = v at hc hc'
      go_wp2
      go_quiet (fail)
      go_wp2
      go_roundw
      case rel => exact ⟨k + 1, _, by omega, by go_num, rfl⟩
      case measure => simp [intOf]; omega
    · go_wp2
      go_ret
      exact ⟨rfl, n, rfl⟩

end Go.Proofs.YtnhmecabppaboaaGreat

/- The exact laws' own small functions over frames: szFrame, toFrame, eqFrame. -/

set_option maxRecDepth 20000
namespace Go.Proofs.YtnhmecabppaboaaGreat
open Go.RowKit

theorem below_drewn4 {B : Nat} {a w : World} (h : Below B a w) (n : Nat) : Below B a (w.drewN n) := ⟨h.os, h.tape, h.output, h.size, h.block⟩

theorem Nums.made_at {a : Option Addr} {D : List Int} {w : World} (hd : Nums a D w) {g : Nat} (w1 : World) (T : TypeId) (hg : g = w1.heap.size) :
    Nums (some ⟨g, 0, none⟩) D (w1.alloc (.cells (irow D.length fun j => nth D j) T)) := by
  subst hg; exact hd.made w1 T
/-- laws.szFrame. -/
theorem szFrameBig (id : Int) (rm : Bool) (ln : Int) (a : Option Addr) (n c : Nat) (w : World) (hn : n ≤ maxLen) (h : 1048576 < n) :
    Calls Tryz.prog 99 #[frV id rm ln a n c, .int .i64 1048576] w fun e w' => e = .returned (.int .i64 (-1)) ∧ Below w.heap.size w w' := by
  go_enter Tryz.func99, Tryz.ntmps99
  go_wp2_with fail
  refine (szIntsBig _ _ _ _ hn h).mono ?_
  rintro e w' ⟨rfl, rfl⟩
  go_wp2
  go_ret
  exact ⟨rfl, (Below.refl _ _).alloc (Nat.le_refl _) _⟩
theorem szFrameOver (id : Int) (rm : Bool) (ln : Int) (a : Option Addr) (n c : Nat) (left : Int) (w : World) (hn : n ≤ maxLen) (h : left < n) (h0 : 0 ≤ left) (hl : left ≤ 1048576) :
    Calls Tryz.prog 99 #[frV id rm ln a n c, .int .i64 left] w fun e w' => e = .returned (.int .i64 (-1)) ∧ Below w.heap.size w w' := by
  go_enter Tryz.func99, Tryz.ntmps99
  go_wp2_with fail
  refine (szIntsOver _ _ _ _ _ hn h h0 hl).mono ?_
  rintro e w' ⟨rfl, rfl⟩
  go_wp2
  go_ret
  exact ⟨rfl, (Below.refl _ _).alloc (Nat.le_refl _) _⟩
theorem szFrameOk (id : Int) (rm : Bool) (ln : Int) (a : Option Addr) (n c : Nat) (left : Int) (w : World) (h : (n : Int) ≤ left) (hl : left ≤ 1048576) :
    Calls Tryz.prog 99 #[frV id rm ln a n c, .int .i64 left] w fun e w' => e = .returned (.int .i64 (left - n)) ∧ Below w.heap.size w w' := by
  go_enter Tryz.func99, Tryz.ntmps99
  go_wp2_with fail
  refine (szIntsOk _ _ _ _ _ h hl).mono ?_
  rintro e w' ⟨rfl, rfl⟩
  go_wp2
  go_ret
  exact ⟨rfl, (Below.refl _ _).alloc (Nat.le_refl _) _⟩

/-- laws.toFrame. -/
theorem toFr (id : Int) (rm : Bool) (ln : Int) (a : Option Addr) (D : List Int) (c : Nat) (w : World) (hd : Nums a D w) (h : D.length ≤ 1048576) :
    Calls Tryz.prog 100 #[frV id rm ln a D.length c] w fun e w' =>
      ∃ a', e = .returned (frV id rm ln a' D.length D.length) ∧ Nums a' D w' ∧ Below w.heap.size w w' := by
  go_enter Tryz.func100, Tryz.ntmps100
  go_wp2_with fail
  refine (toInts _ _ _ _ (hd.below ?_) h).mono ?_
  · exact (((Below.refl _ _).alloc (Nat.le_refl _) _).alloc (by simp) _).alloc (by simp; omega) _
  rintro e w' ⟨rfl, rfl⟩
  go_wp2
  refine bodyPost_ret (v := frV id rm ln (some ⟨w.heap.size + 1 + 1 + 1, 0, none⟩) D.length D.length) (by simp [results, Tryz.results100, go_sem]) rfl ⟨_, rfl, hd.made_at _ _ (by simp), ?_⟩
  exact ((((Below.refl _ _).alloc (Nat.le_refl _) _).alloc (by simp) _).alloc (by simp; omega) _).alloc (by simp; omega) _

/-- laws.eqFrame, of two frames that hold the same. -/
theorem eqFr (id : Int) (rm : Bool) (ln : Int) (a b : Option Addr) (D : List Int) (c c' : Nat) (w : World) (ha : Nums a D w) (hb : Nums b D w) :
    Calls Tryz.prog 83 #[frV id rm ln a D.length c, frV id rm ln b D.length c'] w fun e w' => e = .returned (.bool true) ∧ Below w.heap.size w w' := by
  go_enter Tryz.func83, Tryz.ntmps83
  go_wp2_with fail
  have hB : Below w.heap.size w ((w.alloc (.cells #[.int .i64 id, .bool rm, .int .i64 ln, .slice a D.length c] 35)).alloc (.cells #[.int .i64 id, .bool rm, .int .i64 ln, .slice b D.length c'] 35)) :=
    ((Below.refl _ _).alloc (Nat.le_refl _) _).alloc (by simp) _
  refine (eqInts _ _ _ _ _ _ (ha.below hB) (hb.below hB)).mono ?_
  rintro e w' ⟨rfl, n, rfl⟩
  go_wp2
  go_ret
  exact ⟨rfl, below_drewn4 hB n⟩
end Go.Proofs.YtnhmecabppaboaaGreat

/- A slice of frames in memory, and the exact laws' own functions over it: szFrameS, toFrameS, eqFrameS. -/

set_option maxRecDepth 20000
namespace Go.Proofs.YtnhmecabppaboaaGreat
open Go.RowKit

/-- What a frame says. -/
structure Frm where
  id : Int
  rm : Bool
  ln : Int
  D : List Int
def nthF (L : List Frm) (j : Nat) : Frm := L.getD j ⟨0, false, 0, []⟩
/-- From place o of block g on the frame f stands, its data at ad. -/
def FrC (g o : Nat) (ad : Option Addr) (c : Nat) (f : Frm) (w : World) : Prop :=
  (w.cell? ⟨g, o, none⟩ = some (.int .i64 f.id) ∧ w.cell? ⟨g, o + 1, none⟩ = some (.bool f.rm) ∧ w.cell? ⟨g, o + 2, none⟩ = some (.int .i64 f.ln) ∧ w.cell? ⟨g, o + 3, none⟩ = some (.slice ad f.D.length c)) ∧ Nums ad f.D w
theorem FrC.below {g o : Nat} {ad : Option Addr} {c : Nat} {f : Frm} {w w' : World} (h : FrC g o ad c f w) (b : Below w.heap.size w w') : FrC g o ad c f w' := by
  obtain ⟨⟨h0, h1, h2, h3⟩, hn⟩ := h
  have hg : g < w.heap.size := World.block_lt_of_cell? w _ h0
  exact ⟨⟨(b.cell hg).trans h0, (b.cell hg).trans h1, (b.cell hg).trans h2, (b.cell hg).trans h3⟩, hn.below b⟩
theorem FrC.drew {g o : Nat} {ad : Option Addr} {c : Nat} {f : Frm} {w : World} (h : FrC g o ad c f w) : FrC g o ad c f w.drew := h
/-- Element j of the slice at a is the frame f. -/
def FrAt (a : Option Addr) (j : Nat) (f : Frm) (w : World) : Prop := ∃ g o ad c, a = some ⟨g, o, none⟩ ∧ FrC g (o + j * 4) ad c f w
theorem FrAt.below {a : Option Addr} {j : Nat} {f : Frm} {w w' : World} (h : FrAt a j f w) (b : Below w.heap.size w w') : FrAt a j f w' := by
  obtain ⟨g, o, ad, c, ha, hc⟩ := h
  exact ⟨g, o, ad, c, ha, hc.below b⟩
/-- The slice at a holds the frames L. -/
def Frs (a : Option Addr) (L : List Frm) (w : World) : Prop := L.length ≤ maxLen ∧ ∀ j, j < L.length → FrAt a j (nthF L j) w
theorem Frs.below {a : Option Addr} {L : List Frm} {w w' : World} (h : Frs a L w) (b : Below w.heap.size w w') : Frs a L w' := ⟨h.1, fun j hj => (h.2 j hj).below b⟩
theorem Frs.alloc {a : Option Addr} {L : List Frm} {w : World} (h : Frs a L w) (o : Obj) : Frs a L (w.alloc o) := h.below ((Below.refl _ _).alloc (Nat.le_refl _) _)
theorem Frs.drew {a : Option Addr} {L : List Frm} {w : World} (h : Frs a L w) : Frs a L w.drew := h

/-- How many places the frames' data take up, of the first k. -/
def room (L : List Frm) (k : Nat) : Nat := ((L.take k).map fun f => f.D.length).sum
theorem room_zero (L : List Frm) : room L 0 = 0 := by simp [room]
theorem room_succ (L : List Frm) (k : Nat) (h : k < L.length) : room L (k + 1) = room L k + (nthF L k).D.length := by
  have e : L.take (k + 1) = L.take k ++ [nthF L k] := by
    rw [List.take_add_one, List.getElem?_eq_getElem h, nthF, List.getD_eq_getElem?_getD, List.getElem?_eq_getElem h]; rfl
  unfold room
  rw [e, List.map_append, List.sum_append]
  simp
theorem room_le (L : List Frm) {j k : Nat} (h : j ≤ k) : room L j ≤ room L k := by
  induction k with
  | zero => rw [Nat.le_zero.1 h]; exact Nat.le_refl _
  | succ k ih =>
    by_cases e : j = k + 1
    · rw [e]; exact Nat.le_refl _
    · refine Nat.le_trans (ih (by omega)) ?_
      by_cases hk : k < L.length
      · rw [room_succ L k hk]; omega
      · simp [room, List.take_of_length_le (Nat.le_of_not_lt hk), List.take_of_length_le (Nat.le_succ_of_le (Nat.le_of_not_lt hk))]

/-- laws.szFrameS of frames that are small enough. -/
theorem szFramesOk (a : Option Addr) (L : List Frm) (c : Nat) (w : World) (hd : Frs a L w) (h : L.length + room L L.length ≤ 1048576) :
    Calls Tryz.prog 80 #[.slice a L.length c, .int .i64 1048576] w fun e w' => ∃ n : Int, 0 ≤ n ∧ e = .returned (.int .i64 n) ∧ Below w.heap.size w w' := by
  go_enter Tryz.func80, Tryz.ntmps80
  go_wp2_with fail
  go_loopw [1, 5] (fun l i wr => ∃ k : Nat, k ≤ L.length ∧ i = .int .i64 k ∧ l = .int .i64 (1048576 - (L.length : Int) - room L k) ∧ Below w.heap.size w wr) (fun _ i _ => L.length - (intOf i).toNat)
  case atStart => exact ⟨0, Nat.zero_le _, rfl, by rw [room_zero]; simp, Below.refl _ _⟩
  case round =>
    obtain ⟨k, hk, rfl, rfl, b⟩ := hrel
    by_cases hlt : k < L.length
    · obtain ⟨g, o, ad, cc, rfl, ⟨c0, c1, c2, c3⟩, hn⟩ := (hd.below b).2 k hlt
      have hs := room_succ L k hlt
      have hl := room_le L (show k + 1 ≤ L.length by omega)
      generalize nthF L k = f at *
      go_wp2_with fail
      refine (szFrameOk _ _ _ _ _ _ _ _ (by omega) (by omega)).mono ?_
      rintro e w2 ⟨rfl, b2⟩
      replace b := Below.then2 b b2
      clear b2 hn c0 c1 c2 c3
      go_wp2_with fail
      go_roundw
      case rel => exact ⟨k + 1, by omega, by go_num, by congr 1; omega, b⟩
      case measure => simp [intOf]; omega
    · obtain rfl : k = L.length := by omega
      go_wp2_with fail
      go_ret
      exact ⟨_, by omega, rfl, b⟩
/-- laws.szFrameS of frames that are not. -/
theorem szFramesBig (a : Option Addr) (L : List Frm) (c : Nat) (w : World) (hd : Frs a L w) (h : 1048576 < L.length + room L L.length) :
    Calls Tryz.prog 80 #[.slice a L.length c, .int .i64 1048576] w fun e w' => e = .returned (.int .i64 (-1)) ∧ Below w.heap.size w w' := by
  have hm := hd.1
  unfold maxLen at hm
  go_enter Tryz.func80, Tryz.ntmps80
  by_cases h0 : 1048576 < L.length
  · go_wp2_with fail
    go_ret
    exact ⟨rfl, Below.refl _ _⟩
  go_wp2_with fail
  go_loopw [1, 5] (fun l i wr => ∃ k : Nat, k ≤ L.length ∧ L.length + room L k ≤ 1048576 ∧ i = .int .i64 k ∧ l = .int .i64 (1048576 - (L.length : Int) - room L k) ∧ Below w.heap.size w wr) (fun _ i _ => L.length - (intOf i).toNat)
  case atStart => exact ⟨0, Nat.zero_le _, by rw [room_zero]; omega, rfl, by rw [room_zero]; simp, Below.refl _ _⟩
  case round =>
    obtain ⟨k, hk, hr, rfl, rfl, b⟩ := hrel
    by_cases hlt : k < L.length
    · obtain ⟨g, o, ad, cc, rfl, ⟨c0, c1, c2, c3⟩, hn⟩ := (hd.below b).2 k hlt
      have hs := room_succ L k hlt
      have hl := room_le L (show k + 1 ≤ L.length by omega)
      generalize nthF L k = f at *
      by_cases hov : L.length + room L (k + 1) ≤ 1048576
      · go_wp2_with fail
        refine (szFrameOk _ _ _ _ _ _ _ _ (by omega) (by omega)).mono ?_
        rintro e w2 ⟨rfl, b2⟩
        replace b := Below.then2 b b2
        clear b2 hn c0 c1 c2 c3
        go_wp2_with fail
        go_roundw
        case rel => exact ⟨k + 1, by omega, hov, by go_num, by congr 1; omega, b⟩
        case measure => simp [intOf]; omega
      · have hn1 := hn.1
        go_wp2_with fail
        refine (szFrameOver _ _ _ _ _ _ _ _ hn1 (by omega) (by omega) (by omega)).mono ?_
        rintro e w2 ⟨rfl, b2⟩
        replace b := Below.then2 b b2
        clear b2 hn c0 c1 c2 c3
        go_wp2_with fail
        go_ret
        exact ⟨rfl, b⟩
    · exfalso
      obtain rfl : k = L.length := by omega
      omega

/-- laws.eqFrameS, of two lists that hold the same. -/
theorem eqFrames (a b : Option Addr) (L : List Frm) (c c' : Nat) (w : World) (ha : Frs a L w) (hb : Frs b L w) :
    Calls Tryz.prog 82 #[.slice a L.length c, .slice b L.length c'] w fun e w' => e = .returned (.bool true) ∧ Below w.heap.size w w' := by
  have hm := ha.1
  unfold maxLen at hm
  go_enter Tryz.func82, Tryz.ntmps82
  go_wp2_with fail
  go_loopw [5] (fun i wr => ∃ k : Nat, k ≤ L.length ∧ i = .int .i64 k ∧ Below w.heap.size w wr) (fun i _ => L.length - (intOf i).toNat)
  case atStart => exact ⟨0, Nat.zero_le _, rfl, Below.refl _ _⟩
  case round =>
    obtain ⟨k, hk, rfl, bw⟩ := hrel
    by_cases hlt : k < L.length
    · obtain ⟨g, o, ad, ca, rfl, fa⟩ := (ha.below bw).2 k hlt
      obtain ⟨g', o', ad', cb, rfl, fb⟩ := (hb.below bw).2 k hlt
      generalize nthF L k = f at *
      obtain ⟨id, rm, ln, D⟩ := f
      go_upto_region 6 with fail
      refine region_class (fun u => FrC g (o + k * 4) ad ca ⟨id, rm, ln, D⟩ u ∧ FrC g' (o' + k * 4) ad' cb ⟨id, rm, ln, D⟩ u ∧ Below w.heap.size w u) (by kernel_rfl) (by kernel_rfl) ⟨fa.drew, fb.drew, bw.drew⟩ ?_
      clear fa fb bw
      repeat first
        | go_big_quiet_skip
        | (go_big_quiet_want
           apply Exists.intro
           refine ⟨fun u hu => ?_, ?_⟩
           · apply quietAt_val
             obtain ⟨⟨⟨a0, a1, a2, a3⟩, _⟩, ⟨⟨b0, b1, b2, b3⟩, _⟩, _⟩ := hu
             go_simp
             rfl
           simp only [Act.put, List.setIfInBounds_toArray, List.set_cons_zero, List.set_cons_succ]
           go_big_quiet_on)
        | (go_big_quiet_want
           apply Exists.intro
           refine ⟨fun u hu => ?_, ?_⟩
           · apply quietAt_enter 83 #[frV id rm ln ad D.length ca, frV id rm ln ad' D.length cb]
             · go_simp
             · refine (eqFr id rm ln ad ad' D ca cb u hu.1.2 hu.2.1.2).mono ?_
               rintro e w2 ⟨rfl, b2⟩
               exact ⟨rfl, hu.1.below b2, hu.2.1.below b2, Below.then2 hu.2.2 b2⟩
           simp only [Act.put, List.setIfInBounds_toArray, List.set_cons_zero, List.set_cons_succ]
           go_big_quiet_on)
      refine wpQuiet_nil ?_
      intro W2 L2
      have bw := L2.2.2
      clear L2
      go_wp2_with fail
      go_roundw
      case rel => exact ⟨k + 1, by omega, by go_num, bw⟩
      case measure => simp [intOf]; omega
    · go_wp2_with fail
      go_ret
      exact ⟨rfl, bw⟩
end Go.Proofs.YtnhmecabppaboaaGreat

/- spec.WinnerOf: the first one of the least rank. -/

namespace Go.Proofs.YtnhmecabppaboaaGreat
open Go.RowKit

def rkF (f : Frm) : Int := rankV f.id f.rm f.ln f.D
/-- Who wins among the first k. -/
def winN (L : List Frm) : Nat → Option Nat
  | 0 => none
  | k + 1 => match winN L k with
    | none => if 0 ≤ rkF (nthF L k) then some k else none
    | some b => if 0 ≤ rkF (nthF L k) ∧ rkF (nthF L k) < rkF (nthF L b) then some k else some b
def winI : Option Nat → Int
  | none => -1
  | some b => b
theorem winN_lt {L : List Frm} : ∀ {k b : Nat}, winN L k = some b → b < k ∧ 0 ≤ rkF (nthF L b) := by
  intro k
  induction k with
  | zero => intro b h; simp [winN] at h
  | succ k ih =>
    intro b h
    simp only [winN] at h
    split at h
    · split at h
      · cases h; exact ⟨by omega, by assumption⟩
      · cases h
    · split at h
      · rename_i hc; cases h; exact ⟨by omega, hc.1⟩
      · rename_i hb _; cases h; have := ih hb; exact ⟨by omega, this.2⟩
theorem winN_none {L : List Frm} {k : Nat} (h : winN L k = none) (r : 0 ≤ rkF (nthF L k)) : winN L (k + 1) = some k := by simp [winN, h, r]
theorem winN_low {L : List Frm} {k : Nat} (r : rkF (nthF L k) < 0) : winN L (k + 1) = winN L k := by
  simp only [winN]
  split
  · rename_i h; rw [if_neg (by omega), h]
  · rename_i h; rw [if_neg (by omega), h]
theorem winN_less {L : List Frm} {k b : Nat} (h : winN L k = some b) (r : 0 ≤ rkF (nthF L k)) (q : rkF (nthF L k) < rkF (nthF L b)) : winN L (k + 1) = some k := by simp [winN, h, r, q]
theorem winN_more {L : List Frm} {k b : Nat} (h : winN L k = some b) (q : ¬ rkF (nthF L k) < rkF (nthF L b)) : winN L (k + 1) = some b := by simp [winN, h, q]

set_option maxHeartbeats 8000000 in
set_option maxRecDepth 20000 in
/-- spec.WinnerOf. -/
theorem specWinnerOf (a : Option Addr) (L : List Frm) (c : Nat) (w : World) (hd : Frs a L w) :
    Calls Tryz.prog 71 #[.slice a L.length c] w fun e w' => e = .returned (.int .i64 (winI (winN L L.length))) ∧ Below w.heap.size w w' := by
  have hm := hd.1
  unfold maxLen at hm
  go_enter Tryz.func71, Tryz.ntmps71
  go_wp2_with fail
  go_loopw [3, 4] (fun x i wr => ∃ k : Nat, k ≤ L.length ∧ i = .int .i64 k ∧ x = .int .i64 (winI (winN L k)) ∧ Below w.heap.size w wr) (fun _ i _ => L.length - (intOf i).toNat)
  case atStart => exact ⟨0, Nat.zero_le _, rfl, rfl, Below.refl _ _⟩
  case round =>
    obtain ⟨k, hk, rfl, rfl, bw⟩ := hrel
    by_cases hlt : k < L.length
    · obtain ⟨g, o, ad, ca, rfl, fa⟩ := (hd.below bw).2 k hlt
      by_cases hr : rkF (nthF L k) < 0
      · have HV := Lib.hid (winN_low hr)
        replace hr := Int.not_le.2 hr
        unfold rkF at hr
        generalize nthF L k = f at *
        obtain ⟨id, rm, ln, D⟩ := f
        simp only at hr
        generalize hR : rankV id rm ln D = r at hr
        generalize hwb : winI (winN L k) = x at *
        generalize winN L k = wk at *
        go_upto_region 5 with fail
        refine region_class (fun u => FrC g (o + k * 4) ad ca ⟨id, rm, ln, D⟩ u ∧ Below w.heap.size w u) (by kernel_rfl) (by kernel_rfl) ⟨fa.drew, bw.drew⟩ ?_
        clear fa bw
        repeat first
          | go_big_quiet_skip
          | (go_big_quiet_want
             apply Exists.intro
             refine ⟨fun u hu => ?_, ?_⟩
             · apply quietAt_val
               obtain ⟨⟨⟨a0, a1, a2, a3⟩, _⟩, _⟩ := hu
               go_simp
               rfl
             simp only [Act.put, List.setIfInBounds_toArray, List.set_cons_zero, List.set_cons_succ]
             go_big_quiet_on)
          | (go_big_quiet_want
             apply Exists.intro
             refine ⟨fun u hu => ?_, ?_⟩
             · apply quietAt_enter 47 #[frV id rm ln ad D.length ca]
               · go_simp
               · refine (specRankOf id rm ln ad D ca u hu.1.2).mono ?_
                 rintro e w2 ⟨rfl, b2⟩
                 rw [hR]
                 exact ⟨rfl, hu.1.below b2, Below.then2 hu.2 b2⟩
             simp only [Act.put, List.setIfInBounds_toArray, List.set_cons_zero, List.set_cons_succ]
             go_big_quiet_on)
        refine wpQuiet_nil ?_
        intro W2 L2
        have bw := L2.2
        clear L2 hr hR
        go_wp2_with fail
        go_roundw
        case rel => exact ⟨k + 1, by omega, by go_num, by rw [HV.out, hwb], bw⟩
        case measure => simp [intOf]; omega
      · replace hr := Int.not_lt.1 hr
        cases hw : winN L k with
        | none =>
          have HV := Lib.hid (winN_none hw (by omega))
          clear hw
          rw [show winI none = -1 from rfl]
          unfold rkF at hr
          generalize nthF L k = f at *
          obtain ⟨id, rm, ln, D⟩ := f
          simp only at hr
          generalize hR : rankV id rm ln D = r at hr
          go_upto_region 5 with fail
          refine region_class (fun u => FrC g (o + k * 4) ad ca ⟨id, rm, ln, D⟩ u ∧ Below w.heap.size w u) (by kernel_rfl) (by kernel_rfl) ⟨fa.drew, bw.drew⟩ ?_
          clear fa bw
          repeat first
            | go_big_quiet_skip
            | (go_big_quiet_want
               apply Exists.intro
               refine ⟨fun u hu => ?_, ?_⟩
               · apply quietAt_val
                 obtain ⟨⟨⟨a0, a1, a2, a3⟩, _⟩, _⟩ := hu
                 go_simp
                 rfl
               simp only [Act.put, List.setIfInBounds_toArray, List.set_cons_zero, List.set_cons_succ]
               go_big_quiet_on)
            | (go_big_quiet_want
               apply Exists.intro
               refine ⟨fun u hu => ?_, ?_⟩
               · apply quietAt_enter 47 #[frV id rm ln ad D.length ca]
                 · go_simp
                 · refine (specRankOf id rm ln ad D ca u hu.1.2).mono ?_
                   rintro e w2 ⟨rfl, b2⟩
                   rw [hR]
                   exact ⟨rfl, hu.1.below b2, Below.then2 hu.2 b2⟩
               simp only [Act.put, List.setIfInBounds_toArray, List.set_cons_zero, List.set_cons_succ]
               go_big_quiet_on)
          refine wpQuiet_nil ?_
          intro W2 L2
          have bw := L2.2
          clear L2 hr hR
          go_wp2_with fail
          go_roundw
          case rel => exact ⟨k + 1, by omega, by go_num, by rw [HV.out]; rfl, bw⟩
          case measure => simp [intOf]; omega
        | some b =>
          have hbk := winN_lt hw
          obtain ⟨g2, o2, ad', ca', e2, fb⟩ := (hd.below bw).2 b (by omega)
          cases e2
          rw [show winI (some b) = (b : Int) from rfl]
          have hb0 : ¬ ((b : Int) < 0) := by omega
          by_cases hq : rkF (nthF L k) < rkF (nthF L b)
          · have HV := Lib.hid (winN_less hw (by omega) hq)
            clear hw
            have hbl : b < L.length := by omega
            clear hbk
            unfold rkF at hr hq
            generalize nthF L k = f at *
            generalize nthF L b = f' at *
            obtain ⟨id, rm, ln, D⟩ := f
            obtain ⟨id', rm', ln', D'⟩ := f'
            simp only at hr hq
            generalize hR : rankV id rm ln D = r at hr hq
            generalize hR' : rankV id' rm' ln' D' = r' at hq
            go_upto_region 5 with fail
            refine region_class (fun u => FrC g (o + k * 4) ad ca ⟨id, rm, ln, D⟩ u ∧ FrC g (o + b * 4) ad' ca' ⟨id', rm', ln', D'⟩ u ∧ Below w.heap.size w u) (by kernel_rfl) (by kernel_rfl) ⟨fa.drew, fb.drew, bw.drew⟩ ?_
            clear fa bw fb
            repeat first
              | go_big_quiet_skip
              | (go_big_quiet_want
                 apply Exists.intro
                 refine ⟨fun u hu => ?_, ?_⟩
                 · apply quietAt_val
                   obtain ⟨⟨⟨a0, a1, a2, a3⟩, _⟩, ⟨⟨b0, b1, b2, b3⟩, _⟩, _⟩ := hu
                   go_simp
                   rfl
                 simp only [Act.put, List.setIfInBounds_toArray, List.set_cons_zero, List.set_cons_succ]
                 go_big_quiet_on)
              | (go_big_quiet_want
                 apply Exists.intro
                 refine ⟨fun u hu => ?_, ?_⟩
                 · apply quietAt_enter 47 #[frV id rm ln ad D.length ca]
                   · go_simp
                   · refine (specRankOf id rm ln ad D ca u hu.1.2).mono ?_
                     rintro e w2 ⟨rfl, b2⟩
                     rw [hR]
                     exact ⟨rfl, hu.1.below b2, hu.2.1.below b2, Below.then2 hu.2.2 b2⟩
                 simp only [Act.put, List.setIfInBounds_toArray, List.set_cons_zero, List.set_cons_succ]
                 go_big_quiet_on)
              | (go_big_quiet_want
                 apply Exists.intro
                 refine ⟨fun u hu => ?_, ?_⟩
                 · apply quietAt_enter 47 #[frV id' rm' ln' ad' D'.length ca']
                   · go_simp
                   · refine (specRankOf id' rm' ln' ad' D' ca' u hu.2.1.2).mono ?_
                     rintro e w2 ⟨rfl, b2⟩
                     rw [hR']
                     exact ⟨rfl, hu.1.below b2, hu.2.1.below b2, Below.then2 hu.2.2 b2⟩
                 simp only [Act.put, List.setIfInBounds_toArray, List.set_cons_zero, List.set_cons_succ]
                 go_big_quiet_on)
            refine wpQuiet_nil ?_
            intro W2 L2
            have bw := L2.2.2
            clear L2 hr hR hq hR'
            go_wp2_with fail
            go_roundw
            case rel => exact ⟨k + 1, by omega, by go_num, by rw [HV.out]; rfl, bw⟩
            case measure => simp [intOf]; omega
          · have HV := Lib.hid (winN_more hw hq)
            clear hw
            have hbl : b < L.length := by omega
            clear hbk
            unfold rkF at hr hq
            generalize nthF L k = f at *
            generalize nthF L b = f' at *
            obtain ⟨id, rm, ln, D⟩ := f
            obtain ⟨id', rm', ln', D'⟩ := f'
            simp only at hr hq
            generalize hR : rankV id rm ln D = r at hr hq
            generalize hR' : rankV id' rm' ln' D' = r' at hq
            go_upto_region 5 with fail
            refine region_class (fun u => FrC g (o + k * 4) ad ca ⟨id, rm, ln, D⟩ u ∧ FrC g (o + b * 4) ad' ca' ⟨id', rm', ln', D'⟩ u ∧ Below w.heap.size w u) (by kernel_rfl) (by kernel_rfl) ⟨fa.drew, fb.drew, bw.drew⟩ ?_
            clear fa bw fb
            repeat first
              | go_big_quiet_skip
              | (go_big_quiet_want
                 apply Exists.intro
                 refine ⟨fun u hu => ?_, ?_⟩
                 · apply quietAt_val
                   obtain ⟨⟨⟨a0, a1, a2, a3⟩, _⟩, ⟨⟨b0, b1, b2, b3⟩, _⟩, _⟩ := hu
                   go_simp
                   rfl
                 simp only [Act.put, List.setIfInBounds_toArray, List.set_cons_zero, List.set_cons_succ]
                 go_big_quiet_on)
              | (go_big_quiet_want
                 apply Exists.intro
                 refine ⟨fun u hu => ?_, ?_⟩
                 · apply quietAt_enter 47 #[frV id rm ln ad D.length ca]
                   · go_simp
                   · refine (specRankOf id rm ln ad D ca u hu.1.2).mono ?_
                     rintro e w2 ⟨rfl, b2⟩
                     rw [hR]
                     exact ⟨rfl, hu.1.below b2, hu.2.1.below b2, Below.then2 hu.2.2 b2⟩
                 simp only [Act.put, List.setIfInBounds_toArray, List.set_cons_zero, List.set_cons_succ]
                 go_big_quiet_on)
              | (go_big_quiet_want
                 apply Exists.intro
                 refine ⟨fun u hu => ?_, ?_⟩
                 · apply quietAt_enter 47 #[frV id' rm' ln' ad' D'.length ca']
                   · go_simp
                   · refine (specRankOf id' rm' ln' ad' D' ca' u hu.2.1.2).mono ?_
                     rintro e w2 ⟨rfl, b2⟩
                     rw [hR']
                     exact ⟨rfl, hu.1.below b2, hu.2.1.below b2, Below.then2 hu.2.2 b2⟩
                 simp only [Act.put, List.setIfInBounds_toArray, List.set_cons_zero, List.set_cons_succ]
                 go_big_quiet_on)
            refine wpQuiet_nil ?_
            intro W2 L2
            have bw := L2.2.2
            clear L2 hr hR hq hR'
            go_wp2_with fail
            go_roundw
            case rel => exact ⟨k + 1, by omega, by go_num, by rw [HV.out]; rfl, bw⟩
            case measure => simp [intOf]; omega
    · obtain rfl : k = L.length := by omega
      go_wp2_with fail
      go_ret
      exact ⟨rfl, bw⟩
end Go.Proofs.YtnhmecabppaboaaGreat

/- Boxes, plainly: by ranks, one of each; a frame put in, a rank taken out. No program's walk in it. -/

set_option linter.unusedSimpArgs false
set_option maxRecDepth 20000
namespace Go.Proofs.YtnhmecabppaboaaGreat

/-- The first k are right, and their ranks rise. -/
def Rise (L : List Frm) (k : Nat) : Prop := ∀ j, j < k → 0 ≤ rkF (nthF L j) ∧ (0 < j → rkF (nthF L (j - 1)) < rkF (nthF L j))
def lastR (L : List Frm) : Nat → Int
  | 0 => -1
  | k + 1 => rkF (nthF L k)
def riseB (L : List Frm) : Bool := (List.range L.length).all fun j => decide (0 ≤ rkF (nthF L j)) && (decide (j = 0) || decide (rkF (nthF L (j - 1)) < rkF (nthF L j)))
theorem riseB_iff (L : List Frm) : riseB L = true ↔ Rise L L.length := by
  simp only [riseB, List.all_eq_true, List.mem_range, Bool.and_eq_true, Bool.or_eq_true, decide_eq_true_eq, Rise]
  constructor
  · intro h j hj
    refine ⟨(h j hj).1, fun h0 => ?_⟩
    rcases (h j hj).2 with h2 | h2
    · omega
    · exact h2
  · intro h j hj
    refine ⟨(h j hj).1, ?_⟩
    by_cases h0 : j = 0
    · exact .inl h0
    · exact .inr ((h j hj).2 (by omega))
def boxB (L : List Frm) : Bool := decide (L.length ≤ 16) && riseB L
theorem boxB_iff {L : List Frm} : boxB L = true ↔ L.length ≤ 16 ∧ Rise L L.length := by rw [boxB, Bool.and_eq_true, decide_eq_true_eq, riseB_iff]
theorem boxB_yes {L : List Frm} (h : L.length ≤ 16) (r : Rise L L.length) : boxB L = true := boxB_iff.2 ⟨h, r⟩
theorem boxB_no {L : List Frm} (h : ¬ (L.length ≤ 16 ∧ Rise L L.length)) : boxB L = false := by
  cases hb : boxB L with
  | false => rfl
  | true => exact absurd (boxB_iff.1 hb) h
theorem boxB_long {L : List Frm} (h : 16 < L.length) : boxB L = false := boxB_no fun k => by omega
theorem Rise.zero (L : List Frm) : Rise L 0 := fun j hj => absurd hj (by omega)
theorem Rise.less {L : List Frm} {k n : Nat} (h : Rise L n) (hk : k ≤ n) : Rise L k := fun j hj => h j (by omega)
theorem Rise.last_ge {L : List Frm} {k : Nat} (h : Rise L k) : -1 ≤ lastR L k := by
  cases k with
  | zero => exact Int.le_refl _
  | succ k => have := (h k (by omega)).1; simp only [lastR]; omega
theorem Rise.succ {L : List Frm} {k : Nat} (h : Rise L k) (hk : lastR L k < rkF (nthF L k)) : Rise L (k + 1) := by
  intro j hj
  by_cases e : j = k
  · subst e
    refine ⟨by have := h.last_ge; omega, fun h0 => ?_⟩
    obtain ⟨i, rfl⟩ : ∃ i, j = i + 1 := ⟨j - 1, by omega⟩
    exact hk
  · exact h j (by omega)
theorem Rise.stop {L : List Frm} {k n : Nat} (hn : k < n) (hk : rkF (nthF L k) ≤ lastR L k) : ¬ Rise L n := by
  intro h
  have h1 := h k hn
  cases k with
  | zero => simp only [lastR] at hk; omega
  | succ k => have := h1.2 (by omega); simp only [lastR] at hk; simp at this; omega
theorem Rise.lt {L : List Frm} {n : Nat} (h : Rise L n) : ∀ {i j : Nat}, i < j → j < n → rkF (nthF L i) < rkF (nthF L j) := by
  intro i j hij
  induction j with
  | zero => omega
  | succ j ih =>
    intro hj
    have h1 := (h (j + 1) hj).2 (by omega)
    simp at h1
    by_cases e : i = j
    · subst e; exact h1
    · have := ih (by omega) (by omega); omega

/-- Where a rank would stand: behind all of the first k that are lower. -/
def posN (L : List Frm) (r : Int) : Nat → Nat
  | 0 => 0
  | k + 1 => if rkF (nthF L k) < r then k + 1 else posN L r k
theorem posN_yes {L : List Frm} {r : Int} {k : Nat} (h : rkF (nthF L k) < r) : posN L r (k + 1) = k + 1 := by simp [posN, h]
theorem posN_no {L : List Frm} {r : Int} {k : Nat} (h : ¬ rkF (nthF L k) < r) : posN L r (k + 1) = posN L r k := by simp [posN, h]
theorem posN_le (L : List Frm) (r : Int) (k : Nat) : posN L r k ≤ k := by
  induction k with
  | zero => exact Nat.le_refl _
  | succ k ih =>
    by_cases h : rkF (nthF L k) < r
    · rw [posN_yes h]; exact Nat.le_refl _
    · rw [posN_no h]; omega
theorem posN_iff {L : List Frm} {r : Int} {k : Nat} (h : Rise L k) : ∀ j, j < k → (j < posN L r k ↔ rkF (nthF L j) < r) := by
  induction k with
  | zero => intro j hj; omega
  | succ k ih =>
    intro j hj
    have ih := ih (h.less (Nat.le_succ k))
    by_cases e : rkF (nthF L k) < r
    · rw [posN_yes e]
      refine ⟨fun _ => ?_, fun _ => by omega⟩
      by_cases e2 : j = k
      · subst e2; exact e
      · have := h.lt (show j < k by omega) (by omega); omega
    · rw [posN_no e]
      by_cases e2 : j = k
      · subst e2
        have := posN_le L r j
        exact ⟨fun _ => by omega, fun _ => by omega⟩
      · exact ih j (by omega)
/-- p is the place of the rank r. -/
def Pos (L : List Frm) (r : Int) (p : Nat) : Prop := p ≤ L.length ∧ (∀ j, j < p → rkF (nthF L j) < r) ∧ ∀ j, p ≤ j → j < L.length → r ≤ rkF (nthF L j)
theorem pos_at {L : List Frm} {r : Int} (h : Rise L L.length) : Pos L r (posN L r L.length) := by
  have hl := posN_le L r L.length
  refine ⟨hl, fun j hj => (posN_iff h j (by omega)).1 hj, fun j hp hj => ?_⟩
  by_cases e : rkF (nthF L j) < r
  · have := (posN_iff h j hj).2 e; omega
  · omega
theorem Pos.eq {L : List Frm} {r : Int} {p q : Nat} (h : Pos L r p) (k : Pos L r q) : p = q := by
  obtain ⟨h0, h1, h2⟩ := h
  obtain ⟨k0, k1, k2⟩ := k
  by_cases e : p < q
  · have := k1 p e; have := h2 p (Nat.le_refl _) (by omega); omega
  by_cases e2 : q < p
  · have := h1 q e2; have := k2 q (Nat.le_refl _) (by omega); omega
  omega
/-- Does one of that rank stand at place p? -/
def metB (L : List Frm) (r : Int) (p : Nat) : Bool := decide (p < L.length) && decide (rkF (nthF L p) = r)
theorem metB_yes {L : List Frm} {r : Int} {p : Nat} : metB L r p = true ↔ p < L.length ∧ rkF (nthF L p) = r := by simp [metB]
theorem metB_end {L : List Frm} {r : Int} {p : Nat} (h : ¬ p < L.length) : metB L r p = false := by simp [metB, h]
theorem Pos.above {L : List Frm} {r : Int} {p : Nat} (h : Pos L r p) (hm : metB L r p = false) (hr : Rise L L.length) : ∀ j, p ≤ j → j < L.length → r < rkF (nthF L j) := by
  intro j hp hj
  have h1 := h.2.2 p (Nat.le_refl _) (by omega)
  have h2 : rkF (nthF L p) ≠ r := fun e => by rw [metB_yes.2 ⟨by omega, e⟩] at hm; cases hm
  by_cases e : j = p
  · subst e; omega
  · have := hr.lt (show p < j by omega) hj; omega
theorem Pos.behind {L : List Frm} {r : Int} {p : Nat} (hm : metB L r p = true) (hr : Rise L L.length) : ∀ j, p + 1 ≤ j → j < L.length → r < rkF (nthF L j) := by
  intro j hp hj
  have h2 := metB_yes.1 hm
  have := hr.lt (show p < j by omega) hj
  omega

theorem nthF_left {A B : List Frm} {j : Nat} (h : j < A.length) : nthF (A ++ B) j = nthF A j := by simp [nthF, List.getD_eq_getElem?_getD, List.getElem?_append_left h]
theorem nthF_right {A B : List Frm} {j : Nat} (h : A.length ≤ j) : nthF (A ++ B) j = nthF B (j - A.length) := by simp [nthF, List.getD_eq_getElem?_getD, List.getElem?_append_right h]
theorem nthF_take {L : List Frm} {p j : Nat} (h : j < p) : nthF (L.take p) j = nthF L j := by simp [nthF, List.getD_eq_getElem?_getD, List.getElem?_take, h]
theorem nthF_drop (L : List Frm) (p j : Nat) : nthF (L.drop p) j = nthF L (p + j) := by simp [nthF, List.getD_eq_getElem?_getD, List.getElem?_drop]
theorem nthF_eq {L : List Frm} {j : Nat} (h : j < L.length) : nthF L j = L[j] := by simp [nthF, List.getD_eq_getElem?_getD, h]

/-- The box with F in the place of those from p up to q. -/
def splL (L : List Frm) (p q : Nat) (F : List Frm) : List Frm := L.take p ++ (F ++ L.drop q)
theorem splL_len {L : List Frm} {p q : Nat} {F : List Frm} (hp : p ≤ L.length) : (splL L p q F).length = p + (F.length + (L.length - q)) := by simp [splL]; omega
theorem splL_low {L : List Frm} {p q : Nat} {F : List Frm} (hp : p ≤ L.length) {j : Nat} (h : j < p) : nthF (splL L p q F) j = nthF L j := by
  rw [splL, nthF_left (by simp; omega), nthF_take h]
theorem splL_mid {L : List Frm} {p q : Nat} {f : Frm} (hp : p ≤ L.length) : nthF (splL L p q [f]) p = f := by
  rw [splL, nthF_right (by simp; omega)]
  have : p - (L.take p).length = 0 := by simp; omega
  rw [this]; rfl
theorem splL_high {L : List Frm} {p q : Nat} {f : Frm} (hp : p ≤ L.length) (j : Nat) : nthF (splL L p q [f]) (p + 1 + j) = nthF L (q + j) := by
  rw [splL, nthF_right (by simp; omega)]
  have : p + 1 + j - (L.take p).length = j + 1 := by simp; omega
  rw [this, ← nthF_drop L q j]; rfl
theorem splL_rise {L : List Frm} {p q : Nat} {f : Frm} (hr : Rise L L.length) (hp : p ≤ L.length) (hf : 0 ≤ rkF f) (lo : ∀ j, j < p → rkF (nthF L j) < rkF f) (hi : ∀ j, q ≤ j → j < L.length → rkF f < rkF (nthF L j)) :
    Rise (splL L p q [f]) (splL L p q [f]).length := by
  rw [splL_len hp]
  simp only [List.length_singleton]
  intro j hj
  rcases Nat.lt_trichotomy j p with h | h | h
  · rw [splL_low hp h]
    refine ⟨(hr j (by omega)).1, fun h0 => ?_⟩
    rw [splL_low hp (by omega)]
    exact (hr j (by omega)).2 h0
  · subst h
    rw [splL_mid hp]
    refine ⟨hf, fun h0 => ?_⟩
    rw [splL_low hp (by omega)]
    exact lo _ (by omega)
  · obtain ⟨i, rfl⟩ : ∃ i, j = p + 1 + i := ⟨j - (p + 1), by omega⟩
    rw [splL_high hp]
    refine ⟨(hr _ (by omega)).1, fun _ => ?_⟩
    cases i with
    | zero =>
      have e : p + 1 + 0 - 1 = p := by omega
      rw [e, splL_mid hp]
      exact hi _ (by omega) (by omega)
    | succ i =>
      have e : p + 1 + (i + 1) - 1 = p + 1 + i := by omega
      rw [e, splL_high hp]
      exact hr.lt (by omega) (by omega)

/-- What PutIn answers. -/
def putV (L : List Frm) (f : Frm) : List Frm × Int :=
  if boxB L = true then
    if rkF f < 0 then (L, 3) else
    if metB L (rkF f) (posN L (rkF f) L.length) = true then (splL L (posN L (rkF f) L.length) (posN L (rkF f) L.length + 1) [f], 1) else
    if 16 ≤ L.length then (L, 2) else (splL L (posN L (rkF f) L.length) (posN L (rkF f) L.length) [f], 0)
  else ([], 3)
theorem putV_bad {L : List Frm} (f : Frm) (h : boxB L = false) : putV L f = ([], 3) := by simp [putV, h]
theorem putV_no {L : List Frm} {f : Frm} (h : boxB L = true) (k : rkF f < 0) : putV L f = (L, 3) := by simp [putV, h, k]
theorem putV_over {L : List Frm} {f : Frm} {p : Nat} (h : boxB L = true) (k : ¬ rkF f < 0) (hp : Pos L (rkF f) p) (m : metB L (rkF f) p = true) : putV L f = (splL L p (p + 1) [f], 1) := by
  have e := hp.eq (pos_at (boxB_iff.1 h).2)
  subst e
  rw [putV, if_pos h, if_neg k, if_pos m]
theorem putV_full {L : List Frm} {f : Frm} {p : Nat} (h : boxB L = true) (k : ¬ rkF f < 0) (hp : Pos L (rkF f) p) (m : metB L (rkF f) p = false) (n : 16 ≤ L.length) : putV L f = (L, 2) := by
  have e := hp.eq (pos_at (boxB_iff.1 h).2)
  subst e
  rw [putV, if_pos h, if_neg k, if_neg (by simp [m]), if_pos n]
theorem putV_new {L : List Frm} {f : Frm} {p : Nat} (h : boxB L = true) (k : ¬ rkF f < 0) (hp : Pos L (rkF f) p) (m : metB L (rkF f) p = false) (n : ¬ 16 ≤ L.length) : putV L f = (splL L p p [f], 0) := by
  have e := hp.eq (pos_at (boxB_iff.1 h).2)
  subst e
  rw [putV, if_pos h, if_neg k, if_neg (by simp [m]), if_neg n]
/-- What TakenOut answers. -/
def notR (r : Int) (f : Frm) : Bool := decide (rkF f ≠ r)
def outV (L : List Frm) (r : Int) : List Frm := if boxB L = true then L.filter (notR r) else []
theorem outV_bad {L : List Frm} (r : Int) (h : boxB L = false) : outV L r = [] := by simp [outV, h]
theorem outV_ok {L : List Frm} (r : Int) (h : boxB L = true) : outV L r = L.filter (notR r) := by simp [outV, h]
theorem take_low {L : List Frm} {r : Int} {p : Nat} (h : ∀ j, j < p → rkF (nthF L j) < r) : (L.take p).filter (notR r) = L.take p := by
  refine List.filter_eq_self.2 fun x hx => ?_
  obtain ⟨j, hj, rfl⟩ := List.mem_iff_getElem.1 hx
  have hj' : j < p ∧ j < L.length := by simp at hj; omega
  have := h j hj'.1
  rw [nthF_eq hj'.2] at this
  simp [notR]; omega
theorem drop_high {L : List Frm} {r : Int} {q : Nat} (h : ∀ j, q ≤ j → j < L.length → r < rkF (nthF L j)) : (L.drop q).filter (notR r) = L.drop q := by
  refine List.filter_eq_self.2 fun x hx => ?_
  obtain ⟨j, hj, rfl⟩ := List.mem_iff_getElem.1 hx
  have hj' : q + j < L.length := by simp at hj; omega
  have := h (q + j) (by omega) hj'
  rw [nthF_eq hj'] at this
  simp [notR]; omega
theorem splL_self {L : List Frm} {p : Nat} (h : p < L.length) : splL L p (p + 1) [nthF L p] = L := by
  rw [nthF_eq h]; simp [splL]
theorem spl_filter {L : List Frm} {r : Int} {p q : Nat} {f : Frm} (lo : ∀ j, j < p → rkF (nthF L j) < r) (hi : ∀ j, q ≤ j → j < L.length → r < rkF (nthF L j)) (hf : rkF f = r) :
    (splL L p q [f]).filter (notR r) = splL L p q [] := by
  rw [splL, List.filter_append, List.filter_append, take_low lo, drop_high hi]
  have : [f].filter (notR r) = [] := by simp [notR, hf]
  rw [this]; rfl
theorem outV_met {L : List Frm} {r : Int} {p : Nat} (h : boxB L = true) (hp : Pos L r p) (m : metB L r p = true) : outV L r = splL L p (p + 1) [] := by
  have hm := metB_yes.1 m
  rw [outV_ok r h]
  conv => lhs; rw [← splL_self hm.1]
  exact spl_filter hp.2.1 (Pos.behind m (boxB_iff.1 h).2) hm.2
theorem outV_not {L : List Frm} {r : Int} {p : Nat} (h : boxB L = true) (hp : Pos L r p) (m : metB L r p = false) : outV L r = L := by
  rw [outV_ok r h]
  have e := List.take_append_drop p L
  conv => lhs; rw [← e]
  rw [List.filter_append, take_low hp.2.1, drop_high (hp.above m (boxB_iff.1 h).2), e]
theorem filter_succ (L : List Frm) (r : Int) (k : Nat) (h : k < L.length) : (L.take (k + 1)).filter (notR r) = (L.take k).filter (notR r) ++ if rkF (nthF L k) ≠ r then [nthF L k] else [] := by
  have e : L.take (k + 1) = L.take k ++ [nthF L k] := by
    rw [List.take_add_one, List.getElem?_eq_getElem h, nthF_eq h]; rfl
  rw [e, List.filter_append]
  congr 1
  simp only [List.filter_cons, List.filter_nil, notR]
  by_cases h2 : rkF (nthF L k) = r <;> simp [h2]

theorem frOk_max {id : Int} {rm : Bool} {ln : Int} {D : List Int} (h : frOk id rm ln D = true) : D.length ≤ 8 := by
  simp only [frOk, inR, Bool.and_eq_true, decide_eq_true_eq] at h
  obtain ⟨⟨h1, h2⟩, _⟩ := h
  cases rm with
  | true => rw [if_pos rfl] at h2; omega
  | false => rw [if_neg (by simp)] at h2; omega
theorem rkF_ok {f : Frm} (h : 0 ≤ rkF f) : frOk f.id f.rm f.ln f.D = true := by
  cases hk : frOk f.id f.rm f.ln f.D with
  | true => rfl
  | false => have := rankV_neg.2 hk; unfold rkF at h; omega
theorem rkF_len {f : Frm} (h : 0 ≤ rkF f) : f.D.length ≤ 8 := frOk_max (rkF_ok h)
theorem Rise.short {L : List Frm} {n j : Nat} (h : Rise L n) (hj : j < n) : (nthF L j).D.length ≤ 8 := rkF_len (h j hj).1

/-! ### Promise 9. -/
/-- What is put in is there, in a box by ranks. -/
structure PutOk (L : List Frm) (f : Frm) (X : List Frm) (k : Int) (p : Nat) : Prop where
  box : boxB X = true
  lt : p < X.length
  len : X.length ≤ 16
  at' : nthF X p = f
  other : ∀ j, j < X.length → j ≠ p → rkF (nthF X j) ≠ rkF f
  out : (outV X (rkF f)).length + 1 = X.length
  over : (k = 1 ↔ X.length = L.length)
  one : k = 0 ∨ k = 1
theorem put_ok {L : List Frm} {f : Frm} {X : List Frm} {k : Int} (h : putV L f = (X, k)) (h3 : k ≠ 3) (h2 : k ≠ 2) : ∃ p, PutOk L f X k p := by
  cases hb : boxB L with
  | false => rw [putV_bad f hb] at h; cases h; exact absurd rfl h3
  | true =>
    have hB := boxB_iff.1 hb
    by_cases hn : rkF f < 0
    · rw [putV_no hb hn] at h; cases h; exact absurd rfl h3
    have hp := pos_at (r := rkF f) hB.2
    generalize posN L (rkF f) L.length = p at hp
    have main : ∀ q, p ≤ q → q ≤ L.length → (p + (1 + (L.length - q)) ≤ 16) → (∀ j, q ≤ j → j < L.length → rkF f < rkF (nthF L j)) → (k = 1 ↔ p + (1 + (L.length - q)) = L.length) → (k = 0 ∨ k = 1) → X = splL L p q [f] → ∃ p, PutOk L f X k p := by
      rintro q hpq hq hl hi ho h01 rfl
      have hlen := splL_len (L := L) (p := p) (q := q) (F := [f]) hp.1
      simp only [List.length_singleton] at hlen
      have hbox : boxB (splL L p q [f]) = true := boxB_yes (by omega) (splL_rise hB.2 hp.1 (by omega) hp.2.1 hi)
      refine ⟨p, hbox, by omega, by omega, splL_mid hp.1, fun j hj hne => ?_, ?_, by rw [hlen]; exact ho, h01⟩
      · rcases Nat.lt_trichotomy j p with h | h | h
        · rw [splL_low hp.1 h]; have := hp.2.1 j h; omega
        · exact absurd h hne
        · obtain ⟨i, rfl⟩ : ∃ i, j = p + 1 + i := ⟨j - (p + 1), by omega⟩
          rw [splL_high hp.1]; have := hi (q + i) (by omega) (by omega); omega
      · rw [outV_ok _ hbox, spl_filter hp.2.1 hi rfl, splL_len hp.1, hlen]; simp; omega
    cases hm : metB L (rkF f) p with
    | true =>
      rw [putV_over hb hn hp hm] at h
      cases h
      have hm' := metB_yes.1 hm
      exact main (p + 1) (by omega) (by omega) (by omega) (Pos.behind hm hB.2) ⟨fun _ => by omega, fun _ => rfl⟩ (.inr rfl) rfl
    | false =>
      by_cases h16 : 16 ≤ L.length
      · rw [putV_full hb hn hp hm h16] at h; cases h; exact absurd rfl h2
      · rw [putV_new hb hn hp hm h16] at h
        cases h
        have := hp.1
        exact main p (Nat.le_refl _) hp.1 (by omega) (hp.above hm hB.2) ⟨fun e => by omega, fun e => by omega⟩ (.inl rfl) rfl
/-- In the other ways the box is as it was, or empty. -/
theorem put_stay {L : List Frm} {f : Frm} {X : List Frm} {k : Int} (h : putV L f = (X, k)) (h3 : k = 3 ∨ k = 2) : X = [] ∨ X = L := by
  rw [putV] at h
  split at h
  · split at h
    · cases h; exact .inr rfl
    · split at h
      · cases h; rcases h3 with h3 | h3 <;> cases h3
      · split at h
        · cases h; exact .inr rfl
        · cases h; rcases h3 with h3 | h3 <;> cases h3
  · cases h; exact .inl rfl
end Go.Proofs.YtnhmecabppaboaaGreat

/- Events: what they say. -/

set_option linter.unusedVariables false
set_option linter.unusedSimpArgs false
set_option maxRecDepth 20000
namespace Go.Proofs.YtnhmecabppaboaaGreat
open Go.RowKit

structure Ev where
  at_ : Int
  node : Nat
  kind : Int
  fr : Frm
def evZ : Ev := ⟨0, 0, 0, ⟨0, false, 0, []⟩⟩
def nthE (L : List Ev) (j : Nat) : Ev := L.getD j evZ
theorem nthE_eq {L : List Ev} {j : Nat} (h : j < L.length) : nthE L j = L[j] := by simp [nthE, h]
theorem nthE_app {L M : List Ev} {j : Nat} (h : j < L.length) : nthE (L ++ M) j = nthE L j := by
  rw [nthE, nthE, List.getD_eq_getElem?_getD, List.getD_eq_getElem?_getD, List.getElem?_append_left h]
theorem nthE_app2 {L M : List Ev} {j : Nat} : nthE (L ++ M) (L.length + j) = nthE M j := by
  rw [nthE, nthE, List.getD_eq_getElem?_getD, List.getD_eq_getElem?_getD, List.getElem?_append_right (Nat.le_add_right _ _), Nat.add_sub_cancel_left]
end Go.Proofs.YtnhmecabppaboaaGreat

/- Contracts of the head's bits: the program's bits of a head and HeadOf, the model's HeadOf. -/

set_option maxRecDepth 20000
namespace Go.Proofs.YtnhmecabppaboaaGreat
open Go.RowKit

theorem ofS_small (n : Int) (c : Nat) (h : c ≤ 32) : (ofS n c).size ≤ 32 := by
  unfold ofS
  split
  · have : (strOfNums (digs n ((c : Int)).toNat)).size = c := by simp [strOfNums, digs, ByteArray.size]
    omega
  · exact Nat.zero_le _

theorem ofS11 (n : Int) : (ofS n 11).size ≤ 32 := ofS_small n 11 (by omega)
theorem ofS8 (n : Int) : (ofS n 8).size ≤ 32 := ofS_small n 8 (by omega)
theorem ofS4 (n : Int) : (ofS n 4).size ≤ 32 := ofS_small n 4 (by omega)
/-- The head's bits, in the walk's own spelling. -/
def headX (x : ByteArray) (rm : Bool) (y : ByteArray) : ByteArray := (((⟨#[48]⟩ : ByteArray) ++ x) ++ (if rm = true then (⟨#[49]⟩ : ByteArray) else ⟨#[48]⟩)) ++ ⟨#[48, 48]⟩ ++ y
def headS (id : Int) (rm : Bool) (ln : Int) : ByteArray := headX (ofS id 11) rm (ofS ln 4)

/-- A block of three cells stays. -/
theorem three {w w1 : World} {x0 x1 x2 : Value} {T : TypeId} (b : Below (w.alloc (.cells #[x0, x1, x2] T)).heap.size (w.alloc (.cells #[x0, x1, x2] T)) w1) :
    w1.cell? ⟨w.heap.size, 0, none⟩ = some x0 ∧ w1.cell? ⟨w.heap.size, 1, none⟩ = some x1 ∧ w1.cell? ⟨w.heap.size, 2, none⟩ = some x2 := by
  refine ⟨(b.cell (by simp)).trans ?_, (b.cell (by simp)).trans ?_, (b.cell (by simp)).trans ?_⟩ <;> rw [World.cell?_alloc_at _ _ _ _ rfl] <;> rfl

theorem headBits (id : Int) (rm : Bool) (ln : Int) (w : World) :
    Calls Tryz.prog 138 #[hdV id rm ln] w fun e w' => e = .returned (.string (headS id rm ln)) ∧ Below w.heap.size w w' := by
  have q1 := ofS11 id
  have q2 := ofS4 ln
  have HS : Hid (headS id rm ln = headX (ofS id 11) rm (ofS ln 4)) := rfl
  go_enter Tryz.func138, Tryz.ntmps138
  go_wp2_with fail
  refine (implOf _ _ _).mono ?_
  rintro e w1 ⟨rfl, b1⟩
  obtain ⟨c0, c1, c2⟩ := three b1
  replace b1 := below_from b1
  generalize ofS id 11 = x at *
  go_wp2_with fail
  refine (implOf _ _ _).mono ?_
  rintro e w2 ⟨rfl, b2⟩
  have hlt : w.heap.size < w1.heap.size := World.block_lt_of_cell? w1 _ c0
  replace c1 := (b2.cell (p := ⟨w.heap.size, 1, none⟩) hlt).trans c1
  replace b1 := Below.then2 b1 b2
  clear b2 c0 c2 hlt
  generalize ofS ln 4 = y at *
  cases rm with
  | true =>
    go_wp2
    go_ret
    exact ⟨by rw [HS.out]; rfl, b1⟩
  | false =>
    go_wp2
    go_ret
    exact ⟨by rw [HS.out]; rfl, b1⟩
/-- HeadOf a frame. -/
def headV (id : Int) (rm : Bool) (ln : Int) (D : List Int) : ByteArray := if frOk id rm ln D = true then headS id rm ln else ByteArray.empty
theorem headV_no {id : Int} {rm : Bool} {ln : Int} {D : List Int} (h : frOk id rm ln D = false) : headV id rm ln D = ByteArray.empty := by simp [headV, h]
theorem headV_yes {id : Int} {rm : Bool} {ln : Int} {D : List Int} (h : frOk id rm ln D = true) : headV id rm ln D = headS id rm ln := by simp [headV, h]

theorem field_head (id : Int) (rm : Bool) (ln : Int) (a : Option Addr) (n c : Nat) (W : World) : (Instr.field 106 (frV id rm ln a n c) 0).run Tryz.prog W = .ok (hdV id rm ln) W := by kernel_rfl
/-- spec.HeadOf. -/
theorem specHeadOf (id : Int) (rm : Bool) (ln : Int) (a : Option Addr) (D : List Int) (c : Nat) (w : World) (hd : Nums a D w) :
    Calls Tryz.prog 132 #[frV id rm ln a D.length c] w fun e w' => e = .returned (.string (headV id rm ln D)) ∧ Below w.heap.size w w' := by
  have f0 := Four.made (.int .i64 id) (.bool rm) (.int .i64 ln) (.slice a D.length c) 35 (Below.refl w.heap.size w)
  go_enter Tryz.func132, Tryz.ntmps132
  go_wp2_with fail
  refine (specFrameOk _ _ _ _ _ _ _ (hd.alloc _)).mono ?_
  rintro e w1 ⟨rfl, b1⟩
  replace f0 := f0.below b1
  clear b1 hd
  cases hok : frOk id rm ln D with
  | false =>
    have HV := Lib.hid (headV_no hok)
    clear hok
    go_wp2_with fail
    go_ret
    exact ⟨by rw [HV.out]; rfl, f0.2⟩
  | true =>
    have HV : Hid (headV id rm ln D = headX (ofS id 11) rm (ofS ln 4)) := headV_yes hok
    have q1 := ofS11 id
    have q2 := ofS4 ln
    clear hok
    have f0k := f0
    obtain ⟨⟨c0, c1, c2, c3⟩, _⟩ := f0k
    go_wp2_with fail
    refine (specOf _ _ _).mono ?_
    rintro e w2 ⟨rfl, b2⟩
    replace f0 := f0.below b2
    clear b2 c0 c1 c2 c3
    generalize ofS id 11 = x at *
    have f0k := f0
    obtain ⟨⟨c0, c1, c2, c3⟩, _⟩ := f0k
    go_wp2_with fail
    refine (specOf _ _ _).mono ?_
    rintro e w3 ⟨rfl, b2⟩
    replace f0 := f0.below b2
    clear b2 c0 c1 c2 c3
    generalize ofS ln 4 = y at *
    obtain ⟨⟨c0, c1, c2, c3⟩, b1⟩ := f0
    cases rm with
    | true =>
      go_wp2
      go_ret
      exact ⟨by rw [HV.out]; rfl, b1⟩
    | false =>
      go_wp2
      go_ret
      exact ⟨by rw [HV.out]; rfl, b1⟩
end Go.Proofs.YtnhmecabppaboaaGreat

/- slices.Equal over []int64; cells that stay in a region that makes blocks. -/

set_option maxRecDepth 20000
namespace Go.Proofs.YtnhmecabppaboaaGreat
open Go.RowKit

theorem ext_nth {D E : List Int} (hl : D.length = E.length) (h : ∀ j, j < D.length → nth D j = nth E j) : D = E := by
  apply List.ext_getElem hl
  intro j h1 h2
  have := h j h1
  simpa [nth, List.getD_eq_getElem?_getD, List.getElem?_eq_getElem h1, List.getElem?_eq_getElem h2] using this
theorem ne_nth {D E : List Int} {j : Nat} (h : nth D j ≠ nth E j) : D ≠ E := fun e => h (by rw [e])


/-- Eight cells that are there stay behind a new block, and behind a draw. -/
theorem keep8a {g0 g1 : Nat} {x0 x1 x2 x3 x4 x5 x6 x7 : Value} {w : World} (h : w.cell? ⟨g0, 0, none⟩ = some x0 ∧ w.cell? ⟨g0, 1, none⟩ = some x1 ∧ w.cell? ⟨g0, 2, none⟩ = some x2 ∧ w.cell? ⟨g0, 3, none⟩ = some x3 ∧ w.cell? ⟨g1, 0, none⟩ = some x4 ∧ w.cell? ⟨g1, 1, none⟩ = some x5 ∧ w.cell? ⟨g1, 2, none⟩ = some x6 ∧ w.cell? ⟨g1, 3, none⟩ = some x7) (o : Obj) :
    (w.alloc o).cell? ⟨g0, 0, none⟩ = some x0 ∧ (w.alloc o).cell? ⟨g0, 1, none⟩ = some x1 ∧ (w.alloc o).cell? ⟨g0, 2, none⟩ = some x2 ∧ (w.alloc o).cell? ⟨g0, 3, none⟩ = some x3 ∧ (w.alloc o).cell? ⟨g1, 0, none⟩ = some x4 ∧ (w.alloc o).cell? ⟨g1, 1, none⟩ = some x5 ∧ (w.alloc o).cell? ⟨g1, 2, none⟩ = some x6 ∧ (w.alloc o).cell? ⟨g1, 3, none⟩ = some x7 := by
  have n0 : g0 < w.heap.size := World.block_lt_of_cell? w _ h.1
  have n1 : g1 < w.heap.size := World.block_lt_of_cell? w _ h.2.2.2.2.1
  have b : Below w.heap.size w (w.alloc o) := (Below.refl _ _).alloc (Nat.le_refl _) _
  exact ⟨(b.cell n0).trans h.1, (b.cell n0).trans h.2.1, (b.cell n0).trans h.2.2.1, (b.cell n0).trans h.2.2.2.1, (b.cell n1).trans h.2.2.2.2.1, (b.cell n1).trans h.2.2.2.2.2.1, (b.cell n1).trans h.2.2.2.2.2.2.1, (b.cell n1).trans h.2.2.2.2.2.2.2⟩
theorem keep8d {g0 g1 : Nat} {x0 x1 x2 x3 x4 x5 x6 x7 : Value} {w : World} (h : w.cell? ⟨g0, 0, none⟩ = some x0 ∧ w.cell? ⟨g0, 1, none⟩ = some x1 ∧ w.cell? ⟨g0, 2, none⟩ = some x2 ∧ w.cell? ⟨g0, 3, none⟩ = some x3 ∧ w.cell? ⟨g1, 0, none⟩ = some x4 ∧ w.cell? ⟨g1, 1, none⟩ = some x5 ∧ w.cell? ⟨g1, 2, none⟩ = some x6 ∧ w.cell? ⟨g1, 3, none⟩ = some x7) :
    w.drew.cell? ⟨g0, 0, none⟩ = some x0 ∧ w.drew.cell? ⟨g0, 1, none⟩ = some x1 ∧ w.drew.cell? ⟨g0, 2, none⟩ = some x2 ∧ w.drew.cell? ⟨g0, 3, none⟩ = some x3 ∧ w.drew.cell? ⟨g1, 0, none⟩ = some x4 ∧ w.drew.cell? ⟨g1, 1, none⟩ = some x5 ∧ w.drew.cell? ⟨g1, 2, none⟩ = some x6 ∧ w.drew.cell? ⟨g1, 3, none⟩ = some x7 := h

theorem keep8b {g0 g1 : Nat} {x0 x1 x2 x3 x4 x5 x6 x7 : Value} {w w' : World} (h : w.cell? ⟨g0, 0, none⟩ = some x0 ∧ w.cell? ⟨g0, 1, none⟩ = some x1 ∧ w.cell? ⟨g0, 2, none⟩ = some x2 ∧ w.cell? ⟨g0, 3, none⟩ = some x3 ∧ w.cell? ⟨g1, 0, none⟩ = some x4 ∧ w.cell? ⟨g1, 1, none⟩ = some x5 ∧ w.cell? ⟨g1, 2, none⟩ = some x6 ∧ w.cell? ⟨g1, 3, none⟩ = some x7) (b : Below w.heap.size w w') :
    w'.cell? ⟨g0, 0, none⟩ = some x0 ∧ w'.cell? ⟨g0, 1, none⟩ = some x1 ∧ w'.cell? ⟨g0, 2, none⟩ = some x2 ∧ w'.cell? ⟨g0, 3, none⟩ = some x3 ∧ w'.cell? ⟨g1, 0, none⟩ = some x4 ∧ w'.cell? ⟨g1, 1, none⟩ = some x5 ∧ w'.cell? ⟨g1, 2, none⟩ = some x6 ∧ w'.cell? ⟨g1, 3, none⟩ = some x7 := by
  have n0 : g0 < w.heap.size := World.block_lt_of_cell? w _ h.1
  have n1 : g1 < w.heap.size := World.block_lt_of_cell? w _ h.2.2.2.2.1
  exact ⟨(b.cell n0).trans h.1, (b.cell n0).trans h.2.1, (b.cell n0).trans h.2.2.1, (b.cell n0).trans h.2.2.2.1, (b.cell n1).trans h.2.2.2.2.1, (b.cell n1).trans h.2.2.2.2.2.1, (b.cell n1).trans h.2.2.2.2.2.2.1, (b.cell n1).trans h.2.2.2.2.2.2.2⟩
end Go.Proofs.YtnhmecabppaboaaGreat

/- Contract of the model's SameFrame: at every two frames whose data can be read it answers sameFr of them. -/

set_option maxRecDepth 20000
namespace Go.Proofs.YtnhmecabppaboaaGreat
open Go.RowKit

/-- Are two frames alike? -/
def sameFr (i0 : Int) (r0 : Bool) (l0 : Int) (D0 : List Int) (i1 : Int) (r1 : Bool) (l1 : Int) (D1 : List Int) : Bool := decide (i0 = i1) && decide (r0 = r1) && decide (l0 = l1) && decide (D0 = D1)
theorem sameFr_no {i0 : Int} {r0 : Bool} {l0 : Int} {D0 : List Int} {i1 : Int} {r1 : Bool} {l1 : Int} {D1 : List Int} (h : i0 ≠ i1 ∨ r0 ≠ r1 ∨ l0 ≠ l1 ∨ D0 ≠ D1) : sameFr i0 r0 l0 D0 i1 r1 l1 D1 = false := by
  simp only [sameFr, Bool.and_eq_false_iff, decide_eq_false_iff_not]; rcases h with h | h | h | h <;> simp [h]
theorem sameFr_yes {i0 : Int} {r0 : Bool} {l0 : Int} {D0 : List Int} {i1 : Int} {r1 : Bool} {l1 : Int} {D1 : List Int} (h0 : i0 = i1) (h1 : r0 = r1) (h2 : l0 = l1) (h3 : D0 = D1) : sameFr i0 r0 l0 D0 i1 r1 l1 D1 = true := by
  simp [sameFr, h0, h1, h2, h3]

theorem specSame (i0 : Int) (r0 : Bool) (l0 : Int) (a0 : Option Addr) (D0 : List Int) (c0 : Nat) (i1 : Int) (r1 : Bool) (l1 : Int) (a1 : Option Addr) (D1 : List Int) (c1 : Nat) (w : World) (h0 : Nums a0 D0 w) (h1 : Nums a1 D1 w) :
    Calls Tryz.prog 50 #[frV i0 r0 l0 a0 D0.length c0, frV i1 r1 l1 a1 D1.length c1] w fun e w' => e = .returned (.bool (sameFr i0 r0 l0 D0 i1 r1 l1 D1)) ∧ Below w.heap.size w w' := by
  have hm := h0.1
  have hm' := h1.1
  unfold maxLen at hm hm'
  go_enter Tryz.func50, Tryz.ntmps50
  have fa := Four.made (.int .i64 i0) (.bool r0) (.int .i64 l0) (.slice a0 D0.length c0) 35 (Below.refl w.heap.size w)
  have fb := Four.made (.int .i64 i1) (.bool r1) (.int .i64 l1) (.slice a1 D1.length c1) 35 fa.2
  replace fa := fa.alloc (.cells #[.int .i64 i1, .bool r1, .int .i64 l1, .slice a1 D1.length c1] 35)
  go_upto_region 1 with fail
  generalize hW : (w.alloc (.cells #[.int .i64 i0, .bool r0, .int .i64 l0, .slice a0 D0.length c0] 35)).alloc (.cells #[.int .i64 i1, .bool r1, .int .i64 l1, .slice a1 D1.length c1] 35) = W at fa fb ⊢
  have hga : (w.alloc (.cells #[.int .i64 i0, .bool r0, .int .i64 l0, .slice a0 D0.length c0] 35)).heap.size = w.heap.size + 1 := by simp
  rw [hga] at fb
  clear hga hW
  replace h0 := h0.below fa.2
  replace h1 := h1.below fa.2
  obtain ⟨⟨p0, p1, p2, p3⟩, pb⟩ := fa
  obtain ⟨⟨q0, q1, q2, q3⟩, _⟩ := fb
  generalize w.heap.size + 1 = gb at q0 q1 q2 q3 ⊢
  generalize hga : w.heap.size = ga at p0 p1 p2 p3 ⊢
  go_wp2
  all_goals first
    | (have hq := ‹((D0.length : Int) != (D1.length : Int)) = true›; go_ret; exact ⟨ret_bool (sameFr_no (.inr (.inr (.inr fun e => by rw [e] at hq; simp at hq)))).symm, pb⟩)
    | (go_ret; exact ⟨ret_bool (sameFr_no (by first | exact .inl (by assumption) | exact .inr (.inl (by assumption)) | exact .inr (.inr (.inl (by assumption))))).symm, pb⟩)
    | skip
  rename_i e0 e1 e2 hq _ _
  have HL := Lib.hid (show D0.length = D1.length by simp at hq; omega)
  have HE := Lib.hid (And.intro e0 (And.intro e1 e2))
  have hlen : D0.length = D1.length := HL.out
  subst e0 e1 e2
  clear hq HE
  go_loopw [5] (fun i wr => ∃ k n : Nat, k ≤ D0.length ∧ i = .int .i64 k ∧ wr = W.drewN n ∧ ∀ j, j < k → nth D0 j = nth D1 j) (fun i _ => D0.length - (intOf i).toNat)
  case atStart => exact ⟨0, 0, Nat.zero_le _, rfl, rfl, fun j hj => absurd hj (by omega)⟩
  case round =>
    obtain ⟨k, n, hk, rfl, rfl, hr⟩ := hrel
    by_cases hlt : k < D0.length
    · obtain ⟨bl, o, rfl, hc⟩ := h0.2.2 k hlt
      obtain ⟨bl', o', rfl, hc'⟩ := h1.2.2 k (by omega)
      have hki : (k : Int) < D0.length := by omega
      have hki' : (k : Int) < D1.length := by omega
      generalize hv' : nth D0 k = v at hc
      have hv := Lib.hid hv'
      generalize hu' : nth D1 k = u at hc'
      have hu := Lib.hid hu'
      clear hv' hu' hlen
      by_cases hvu : v = u
      · have hq : (v != u) = false := by simp [hvu]
        go_wp2
        go_quiet (fail)
        go_wp2
        go_roundw
        case rel => exact ⟨k + 1, n + nq, by omega, by go_num, by first | rfl | exact World.drewN_drewN _ _ _, fun j hj => by
          by_cases e : j = k
          · rw [e, hv.out, hu.out, hvu]
          · exact hr j (by omega)⟩
        case measure => simp [intOf]; omega
      · have hq : (v != u) = true := by simp [hvu]
        have HN : Hid (D0 ≠ D1) := ne_nth (j := k) (by rw [hv.out, hu.out]; exact hvu)
        clear hvu
        go_wp2
        go_quiet (fail)
        go_wp2
        go_ret
        exact ⟨ret_bool (sameFr_no (.inr (.inr (.inr HN.out)))).symm, pb.os, pb.tape, pb.output, pb.size, pb.block⟩
    · clear hlen
      go_wp2
      go_ret
      exact ⟨ret_bool (sameFr_yes rfl rfl rfl (ext_nth HL.out fun j hj => hr j (by omega))).symm, pb.os, pb.tape, pb.output, pb.size, pb.block⟩
end Go.Proofs.YtnhmecabppaboaaGreat

/- impl.placeIn: where a rank stands in a box, by slices.BinarySearchFunc. -/

set_option linter.unusedVariables false
set_option linter.unusedSimpArgs false
set_option maxRecDepth 20000
namespace Go.Proofs.YtnhmecabppaboaaGreat
open Go.RowKit

def cmpV (x y : Int) : Int := if x < y then -1 else if y < x then 1 else 0
theorem cmpV_lt {x y : Int} (h : x < y) : cmpV x y = -1 := by simp [cmpV, h]
theorem cmpV_gt {x y : Int} (h : y < x) : cmpV x y = 1 := by rw [cmpV, if_neg (by omega), if_pos h]
theorem cmpV_eq {x y : Int} (h : x = y) : cmpV x y = 0 := by rw [cmpV, if_neg (by omega), if_neg (by omega)]
theorem isNaN64 (x : Int) (w : World) : Calls Tryz.prog 109 #[.int .i64 x] w fun e w' => e = .returned (.bool false) ∧ w = w' := by
  go_enter Tryz.func109, Tryz.ntmps109
  go_wp2_with fail
  go_ret
  exact ⟨by simp, rfl⟩
theorem compare64 (x y : Int) (w : World) : Calls Tryz.prog 98 #[.int .i64 x, .int .i64 y] w fun e w' => e = .returned (.int .i64 (cmpV x y)) ∧ w = w' := by
  go_enter Tryz.func98, Tryz.ntmps98
  go_wp2_with fail
  refine (isNaN64 x w).mono ?_
  rintro e w1 ⟨rfl, rfl⟩
  go_wp2_with fail
  refine (isNaN64 y w).mono ?_
  rintro e w1 ⟨rfl, rfl⟩
  rcases Int.lt_trichotomy x y with h | h | h
  · have HV := Lib.hid (cmpV_lt h)
    go_wp2_with fail
    go_ret
    exact ⟨by rw [HV.out]; rfl, rfl⟩
  · have HV := Lib.hid (cmpV_eq h)
    subst h
    have h1 : ¬ x < x := by omega
    go_wp2_with fail
    go_ret
    exact ⟨by rw [HV.out]; rfl, rfl⟩
  · have HV := Lib.hid (cmpV_gt h)
    have h1 : ¬ x < y := by omega
    go_wp2_with fail
    go_ret
    exact ⟨by rw [HV.out]; rfl, rfl⟩
/-- The closure: the frame's rank against the rank. -/
theorem placeFn (id : Int) (rm : Bool) (ln : Int) (a : Option Addr) (D : List Int) (c : Nat) (r : Int) (w : World) (hd : Nums a D w) :
    Calls Tryz.prog 97 #[frV id rm ln a D.length c, .int .i64 r] w fun e w' => e = .returned (.int .i64 (cmpV (rankV id rm ln D) r)) ∧ Below w.heap.size w w' := by
  have f0 := Four.made (.int .i64 id) (.bool rm) (.int .i64 ln) (.slice a D.length c) 35 (Below.refl w.heap.size w)
  go_enter Tryz.func97, Tryz.ntmps97
  go_wp2_with fail
  refine (implRankOf _ _ _ _ _ _ _ (hd.alloc _)).mono ?_
  rintro e w1 ⟨rfl, b1⟩
  replace f0 := f0.below b1
  obtain ⟨-, b⟩ := f0
  clear b1 hd
  go_wp2_with fail
  refine (compare64 _ _ _).mono ?_
  rintro e w2 ⟨rfl, rfl⟩
  go_wp2_with fail
  go_ret
  exact ⟨rfl, b⟩
/-- slices.BinarySearchFunc by that closure, in a box by ranks. -/
theorem searchBox (a : Option Addr) (L : List Frm) (c : Nat) (r : Int) (w : World) (hd : Frs a L w) (h16 : L.length ≤ 16) (hr : Rise L L.length) :
    Calls Tryz.prog 96 #[.slice a L.length c, .int .i64 r, .func (.func 97) #[] #[]] w fun e w' =>
      ∃ p, e = .returned (.tuple #[.int .i64 (p : Nat), .bool (metB L r p)]) ∧ Pos L r p ∧ Below w.heap.size w w' := by
  have hm := hd.1
  unfold maxLen at hm
  go_enter Tryz.func96, Tryz.ntmps96
  go_wp2_with fail
  go_loopw [9, 10] (fun x y wr => ∃ i j : Nat, x = .int .i64 i ∧ y = .int .i64 j ∧ i ≤ j ∧ j ≤ L.length ∧ (∀ k, k < i → rkF (nthF L k) < r) ∧ (∀ k, j ≤ k → k < L.length → r ≤ rkF (nthF L k)) ∧ Below w.heap.size w wr) (fun x y _ => (intOf y).toNat - (intOf x).toNat)
  case atStart => exact ⟨0, L.length, rfl, rfl, Nat.zero_le _, Nat.le_refl _, fun k hk => absurd hk (by omega), fun k hk hk2 => absurd hk (by omega), Below.refl _ _⟩
  case round =>
    obtain ⟨i, j, rfl, rfl, hij, hj, lo, hi, bw⟩ := hrel
    by_cases hlt : i < j
    · have hij' : (i : Int) < (j : Int) := by omega
      go_upto_region 5 with fail
      obtain ⟨m, hm2⟩ : ∃ m, m = (i + j) / 2 := ⟨_, rfl⟩
      have e1 : wrap64 ((i : Int) + (j : Int)) = (i : Int) + (j : Int) := IntWalk.wrap64_in _ (by omega)
      have e2 : IntKind.u64.wrap ((i : Int) + (j : Int)) = (i : Int) + (j : Int) := IntWalk.u64_in _ (by omega)
      have e3 : ((i : Int) + (j : Int)) / 2 = (m : Int) := by omega
      have e4 : wrap64 (m : Int) = (m : Int) := IntWalk.wrap64_in _ (by omega)
      simp only [e1, e2, e3, e4]
      clear e1 e2 e3 e4
      have hml : m < L.length := by omega
      have him : i ≤ m ∧ m < j := by omega
      clear hm2
      obtain ⟨g, o, ad, cc, rfl, ⟨c0, c1, c2, c3⟩, hn⟩ := (hd.below bw).2 m hml
      have hrk : rkF (nthF L m) = rankV (nthF L m).id (nthF L m).rm (nthF L m).ln (nthF L m).D := rfl
      have hup : rkF (nthF L m) < r → ∀ k, k < m + 1 → rkF (nthF L k) < r := fun h k hk => by
        by_cases e : k = m
        · subst e; exact h
        · have := hr.lt (show k < m by omega) hml; omega
      have hdn : ¬ rkF (nthF L m) < r → ∀ k, m ≤ k → k < L.length → r ≤ rkF (nthF L k) := fun h k hk hk2 => by
        by_cases e : k = m
        · subst e; omega
        · have := hr.lt (show m < k by omega) hk2; omega
      generalize rkF (nthF L m) = q at *
      generalize nthF L m = f at *
      obtain ⟨id, rm, ln, D⟩ := f
      simp only at c0 c1 c2 c3 hn hrk
      replace hup := Lib.hid hup
      replace hdn := Lib.hid hdn
      replace lo := Lib.hid lo
      replace hi := Lib.hid hi
      replace hrk := Lib.hid hrk
      go_wp2_with fail
      refine (placeFn _ _ _ _ _ _ _ _ hn).mono ?_
      rintro e w2 ⟨he, b2⟩
      rw [← hrk.out] at he
      subst he
      replace bw := Below.then2 bw b2
      clear b2 c0 c1 c2 c3 hn hrk
      by_cases hq : q < r
      · rw [cmpV_lt hq]
        replace hup := Lib.hid (hup.out hq)
        clear hq hdn lo
        go_wp2_with fail
        go_roundw
        case rel => exact ⟨m + 1, j, by go_num, rfl, by omega, by omega, hup.out, hi.out, bw⟩
        case measure => simp [intOf]; omega
      · have hc : ¬ cmpV q r < 0 := by unfold cmpV; rw [if_neg hq]; split <;> omega
        replace hdn := Lib.hid (hdn.out (by omega))
        clear hq hup hi
        generalize cmpV q r = z at *
        go_wp2_with fail
        go_roundw
        case rel => exact ⟨i, m, rfl, rfl, by omega, by omega, lo.out, hdn.out, bw⟩
        case measure => simp [intOf]; omega
    · obtain rfl : i = j := by omega
      have hP : Pos L r i := ⟨hj, lo, hi⟩
      clear lo hi
      by_cases hl : i < L.length
      · obtain ⟨g, o, ad, cc, rfl, ⟨c0, c1, c2, c3⟩, hn⟩ := (hd.below bw).2 i hl
        have hrk : rkF (nthF L i) = rankV (nthF L i).id (nthF L i).rm (nthF L i).ln (nthF L i).D := rfl
        have hge := hP.2.2 i (Nat.le_refl _) hl
        have HM := Lib.hid (show metB L r i = decide (rkF (nthF L i) = r) by simp [metB, hl])
        replace hP := Lib.hid hP
        generalize rkF (nthF L i) = q at *
        generalize nthF L i = f at *
        obtain ⟨id, rm, ln, D⟩ := f
        simp only at c0 c1 c2 c3 hn hrk
        replace hrk := Lib.hid hrk
        go_wp2_with fail
        refine (placeFn _ _ _ _ _ _ _ _ hn).mono ?_
        rintro e w2 ⟨he, b2⟩
        rw [← hrk.out] at he
        subst he
        replace bw := Below.then2 bw b2
        clear b2 c0 c1 c2 c3 hn hrk
        have hz : (cmpV q r == 0) = decide (q = r) := by
          by_cases e : q = r
          · rw [cmpV_eq e]; simp [e]
          · rw [cmpV_gt (by omega)]; simp [e]
        clear hge
        go_wp2_with fail
        go_ret2
        exact ⟨i, by rw [HM.out] <;> rfl, hP.out, bw⟩
      · have HM := Lib.hid (metB_end (r := r) hl)
        replace hP := Lib.hid hP
        go_wp2_with fail
        go_ret2
        exact ⟨i, by rw [HM.out] <;> rfl, hP.out, bw⟩
/-- impl.placeIn. -/
theorem placeIn (a : Option Addr) (L : List Frm) (c : Nat) (r : Int) (w : World) (hd : Frs a L w) (h16 : L.length ≤ 16) (hr : Rise L L.length) :
    Calls Tryz.prog 78 #[.slice a L.length c, .int .i64 r] w fun e w' =>
      ∃ p, e = .returned (.tuple #[.int .i64 (p : Nat), .bool (metB L r p)]) ∧ Pos L r p ∧ Below w.heap.size w w' := by
  go_enter Tryz.func78, Tryz.ntmps78
  go_wp2_with fail
  refine (searchBox a L c r w hd h16 hr).mono ?_
  rintro e w2 ⟨p, rfl, hP, b⟩
  go_wp2_with fail
  go_ret2
  exact ⟨p, rfl, hP, b⟩
end Go.Proofs.YtnhmecabppaboaaGreat

/- What putting a frame into a box leaves, plain. -/

set_option linter.unusedVariables false
set_option linter.unusedSimpArgs false
set_option maxRecDepth 20000
namespace Go.Proofs.YtnhmecabppaboaaGreat
open Go.RowKit

theorem mem_nthF {L : List Frm} {x : Frm} : x ∈ L ↔ ∃ j, j < L.length ∧ nthF L j = x := by
  constructor
  · intro h
    obtain ⟨j, hj, rfl⟩ := List.mem_iff_getElem.1 h
    exact ⟨j, hj, nthF_eq hj⟩
  · rintro ⟨j, hj, rfl⟩
    rw [nthF_eq hj]; exact List.getElem_mem hj
theorem splL_mem {L : List Frm} {p q : Nat} {f x : Frm} : x ∈ splL L p q [f] ↔ x ∈ L.take p ∨ x = f ∨ x ∈ L.drop q := by simp [splL]
theorem take_drop_mem {L : List Frm} {p : Nat} {x : Frm} : x ∈ L ↔ x ∈ L.take p ∨ x ∈ L.drop p := by
  conv => lhs; rw [← List.take_append_drop p L]
  exact List.mem_append
/-- What putting in leaves: f perhaps, and all that have other ranks. -/
theorem put_facts {L : List Frm} (f : Frm) (hb : boxB L = true) :
    boxB (putV L f).1 = true ∧ (∀ x ∈ L, rkF x ≠ rkF f → x ∈ (putV L f).1) ∧ (∀ x ∈ (putV L f).1, x ∈ L ∨ x = f)
      ∧ (0 ≤ rkF f → L.length < 16 → (∀ x ∈ L, rkF x ≠ rkF f) → (putV L f).2 = 0 ∧ f ∈ (putV L f).1 ∧ (putV L f).1.length = L.length + 1) := by
  have hB := boxB_iff.1 hb
  by_cases hn : rkF f < 0
  · rw [putV_no hb hn]
    exact ⟨hb, fun x hx _ => hx, fun x hx => .inl hx, fun h => by omega⟩
  have hp := pos_at (r := rkF f) hB.2
  generalize posN L (rkF f) L.length = p at hp
  cases hm : metB L (rkF f) p with
  | true =>
    rw [putV_over hb hn hp hm]
    have hm' := metB_yes.1 hm
    have hbx : boxB (splL L p (p + 1) [f]) = true := boxB_yes (by rw [splL_len hp.1]; simp; omega) (splL_rise hB.2 hp.1 (by omega) hp.2.1 (Pos.behind hm hB.2))
    refine ⟨hbx, fun x hx hr => ?_, fun x hx => ?_, fun _ _ ha => ?_⟩
    · rw [splL_mem]
      obtain ⟨j, hj, rfl⟩ := mem_nthF.1 hx
      rcases Nat.lt_trichotomy j p with h | h | h
      · left; rw [nthF_eq hj]; exact List.mem_take_iff_getElem.2 ⟨j, by omega, rfl⟩
      · subst h; exact absurd hm'.2 hr
      · right; right; rw [nthF_eq hj]; exact List.mem_drop_iff_getElem.2 ⟨j - (p + 1), by omega, by congr 1; omega⟩
    · rcases splL_mem.1 hx with h | h | h
      · exact .inl (List.mem_of_mem_take h)
      · exact .inr h
      · exact .inl (List.mem_of_mem_drop h)
    · exact absurd hm'.2 (ha _ (mem_nthF.2 ⟨p, hm'.1, rfl⟩))
  | false =>
    by_cases h16 : 16 ≤ L.length
    · rw [putV_full hb hn hp hm h16]
      exact ⟨hb, fun x hx _ => hx, fun x hx => .inl hx, fun _ h => by omega⟩
    · rw [putV_new hb hn hp hm h16]
      have hbx : boxB (splL L p p [f]) = true := boxB_yes (by have := hp.1; rw [splL_len hp.1]; simp; omega) (splL_rise hB.2 hp.1 (by omega) hp.2.1 (hp.above hm hB.2))
      refine ⟨hbx, fun x hx hr => ?_, fun x hx => ?_, fun _ _ _ => ⟨rfl, ?_, ?_⟩⟩
      · rw [splL_mem]
        rcases (take_drop_mem (p := p)).1 hx with h | h
        · exact .inl h
        · exact .inr (.inr h)
      · rcases splL_mem.1 hx with h | h | h
        · exact .inl (List.mem_of_mem_take h)
        · exact .inr h
        · exact .inl (List.mem_of_mem_drop h)
      · rw [splL_mem]; exact .inr (.inl rfl)
      · have := hp.1; rw [splL_len hp.1]; simp; omega
end Go.Proofs.YtnhmecabppaboaaGreat

/- laws.likeFrames of two lists that hold the same. -/

set_option linter.unusedVariables false
set_option linter.unusedSimpArgs false
set_option maxRecDepth 20000
namespace Go.Proofs.YtnhmecabppaboaaGreat
open Go.RowKit

set_option maxHeartbeats 2000000 in
/-- laws.likeFrames, of two lists that hold the same. -/
theorem likeFrs (a b : Option Addr) (L : List Frm) (c c' : Nat) (w : World) (ha : Frs a L w) (hb : Frs b L w) :
    Calls Tryz.prog 49 #[.slice a L.length c, .slice b L.length c'] w fun e w' => e = .returned (.bool true) ∧ Below w.heap.size w w' := by
  have hm := ha.1
  unfold maxLen at hm
  go_enter Tryz.func49, Tryz.ntmps49
  go_wp2_with fail
  go_loopw [5] (fun i wr => ∃ k : Nat, k ≤ L.length ∧ i = .int .i64 k ∧ Below w.heap.size w wr) (fun i _ => L.length - (intOf i).toNat)
  case atStart => exact ⟨0, Nat.zero_le _, rfl, Below.refl _ _⟩
  case round =>
    obtain ⟨k, hk, rfl, bw⟩ := hrel
    by_cases hlt : k < L.length
    · obtain ⟨g, o, ad, ca, rfl, fa⟩ := (ha.below bw).2 k hlt
      obtain ⟨g', o', ad', cb, rfl, fb⟩ := (hb.below bw).2 k hlt
      generalize nthF L k = f at *
      obtain ⟨id, rm, ln, D⟩ := f
      go_upto_region 6 with fail
      refine region_class (fun u => FrC g (o + k * 4) ad ca ⟨id, rm, ln, D⟩ u ∧ FrC g' (o' + k * 4) ad' cb ⟨id, rm, ln, D⟩ u ∧ Below w.heap.size w u) (by kernel_rfl) (by kernel_rfl) ⟨fa.drew, fb.drew, bw.drew⟩ ?_
      clear fa fb bw
      repeat first
        | go_big_quiet_skip
        | (go_big_quiet_want
           apply Exists.intro
           refine ⟨fun u hu => ?_, ?_⟩
           · apply quietAt_val
             obtain ⟨⟨⟨a0, a1, a2, a3⟩, _⟩, ⟨⟨b0, b1, b2, b3⟩, _⟩, _⟩ := hu
             go_simp
             rfl
           simp only [Act.put, List.setIfInBounds_toArray, List.set_cons_zero, List.set_cons_succ]
           go_big_quiet_on)
        | (go_big_quiet_want
           apply Exists.intro
           refine ⟨fun u hu => ?_, ?_⟩
           · apply quietAt_enter 50 #[frV id rm ln ad D.length ca, frV id rm ln ad' D.length cb]
             · go_simp
             · refine (specSame id rm ln ad D ca id rm ln ad' D cb u hu.1.2 hu.2.1.2).mono ?_
               rintro e w2 ⟨rfl, b2⟩
               rw [sameFr_yes rfl rfl rfl rfl]
               exact ⟨rfl, hu.1.below b2, hu.2.1.below b2, Below.then2 hu.2.2 b2⟩
           simp only [Act.put, List.setIfInBounds_toArray, List.set_cons_zero, List.set_cons_succ]
           go_big_quiet_on)
      refine wpQuiet_nil ?_
      intro W2 L2
      have bw := L2.2.2
      clear L2
      go_wp2_with fail
      go_roundw
      case rel => exact ⟨k + 1, by omega, by go_num, bw⟩
      case measure => simp [intOf]; omega
    · go_wp2_with fail
      go_ret
      exact ⟨rfl, bw⟩
end Go.Proofs.YtnhmecabppaboaaGreat
