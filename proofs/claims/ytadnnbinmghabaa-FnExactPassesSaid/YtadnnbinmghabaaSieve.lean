/- impl.Passes by its parts (idOk, sieveOf, filtersOk, sievesOf, the sieves' lets), spec.Passes: both answer passV. -/
import Derived.Test.YtadnnbinmghabaaFlt
import Derived.WalkKit
set_option linter.unusedVariables false
set_option linter.unusedSimpArgs false
set_option maxRecDepth 20000
namespace Go.Proofs.Ytadnnbinmghabaa
open Go.RowKit

/-- impl.idOk. -/
theorem implIdOk (n : Int) (w : World) : Calls Try.prog 40 #[.int .i64 n] w fun e w' => e = .returned (.bool (idIn n)) ∧ w = w' := by
  go_enter Try.func40, Try.ntmps40
  go_wp2
  all_goals (go_ret; exact ⟨ret_bool (by simp only [idIn]; simp_all; try omega), rfl⟩)
/-- A right filter as a sieve. -/
abbrev mV (m c : Int) : Value := .iface 95 (pV m c)
/-- impl.sieveOf. -/
theorem sieveYes (m c : Int) (w : World) (h : flOk (m, c) = true) : Calls Try.prog 62 #[pV m c] w fun e w' => e = .returned (mV m c) ∧ Below w.heap.size w w' := by
  simp only [flOk, Bool.and_eq_true] at h
  obtain ⟨h1, h2⟩ := h
  go_enter Try.func62, Try.ntmps62
  go_wp2_with fail
  refine (implIdOk _ _).mono ?_
  rintro e w1 ⟨rfl, rfl⟩
  rw [h1]
  go_wp2_with fail
  refine (implIdOk _ _).mono ?_
  rintro e w1 ⟨rfl, rfl⟩
  rw [h2]
  go_wp2
  go_ret
  exact ⟨rfl, (Below.refl _ _).alloc (Nat.le_refl _) _⟩
theorem sieveNo (m c : Int) (w : World) (h : flOk (m, c) = false) : Calls Try.prog 62 #[pV m c] w fun e w' => e = .returned .nilIface ∧ Below w.heap.size w w' := by
  simp only [flOk] at h
  go_enter Try.func62, Try.ntmps62
  go_wp2_with fail
  refine (implIdOk _ _).mono ?_
  rintro e w1 ⟨rfl, rfl⟩
  cases h1 : idIn m with
  | false =>
    go_wp2
    go_ret
    exact ⟨rfl, (Below.refl _ _).alloc (Nat.le_refl _) _⟩
  | true =>
    rw [h1, Bool.true_and] at h
    go_wp2_with fail
    refine (implIdOk _ _).mono ?_
    rintro e w1 ⟨rfl, rfl⟩
    rw [h]
    go_wp2
    go_ret
    exact ⟨rfl, (Below.refl _ _).alloc (Nat.le_refl _) _⟩
/-- impl.filtersOk. -/
theorem filtersOk (a : Option Addr) (L : List (Int × Int)) (c : Nat) (w : World) (hd : Fls a L w) :
    Calls Try.prog 41 #[.slice a L.length c] w fun e w' => e = .returned (.bool (L.all flOk)) ∧ Below w.heap.size w w' := by
  have hm := hd.1
  unfold maxLen at hm
  go_enter Try.func41, Try.ntmps41
  go_wp2_with fail
  go_loopw [9] (fun i wr => ∃ k : Nat, k ≤ L.length ∧ i = .int .i64 k ∧ (∀ j, j < k → flOk (nthP L j) = true) ∧ Below w.heap.size w wr) (fun i _ => L.length - (intOf i).toNat)
  case atStart => exact ⟨0, Nat.zero_le _, rfl, fun j hj => absurd hj (by omega), Below.refl _ _⟩
  case round =>
    obtain ⟨k, hk, rfl, hr, b⟩ := hrel
    by_cases hlt : k < L.length
    · obtain ⟨g, o, rfl, c0, c1⟩ := (hd.below b).2 k hlt
      have hf0 : nthP L k = ((nthP L k).1, (nthP L k).2) := rfl
      have hn := Lib.hid (allP_no (L := L) hlt)
      generalize (nthP L k).1 = m at *
      generalize (nthP L k).2 = cc at *
      have hf := Lib.hid hf0
      clear hf0
      replace hr := Lib.hid hr
      have b1 := below_more b (.cells #[.int .i64 m, .int .i64 cc] 41)
      go_wp2_with fail
      cases hok : flOk (m, cc) with
      | true =>
        refine (sieveYes _ _ _ hok).mono ?_
        rintro e w2 ⟨rfl, b2⟩
        have ta : ∀ W, (Instr.typeAssert (mV m cc) 76 95 true).run Try.prog W = .ok (.tuple #[pV m cc, .bool true]) W := fun W => by kernel_rfl
        replace b := below_more (Below.then2 b1 b2) (.cells #[.int .i64 m, .int .i64 cc] 95)
        clear b1 b2 c0 c1 hn
        replace hok := Lib.hid hok
        go_wp2_with fail
        go_roundw
        case rel => exact ⟨k + 1, by omega, by go_num, fun j hj => by
          by_cases e : j = k
          · rw [e, hf.out]; exact hok.out
          · exact hr.out j (by omega), b⟩
        case measure => simp [intOf]; omega
      | false =>
        refine (sieveNo _ _ _ hok).mono ?_
        rintro e w2 ⟨rfl, b2⟩
        have ta : ∀ W, (Instr.typeAssert .nilIface 76 95 true).run Try.prog W = .ok (.tuple #[pV 0 0, .bool false]) W := fun W => by kernel_rfl
        replace b := below_more (Below.then2 b1 b2) (.cells #[.int .i64 0, .int .i64 0] 95)
        have HV := Lib.hid (hn.out (by rw [hf.out]; exact hok))
        clear b1 b2 c0 c1 hn hok
        go_wp2_with fail
        go_ret
        exact ⟨by rw [HV.out] <;> rfl, b⟩
    · have hall := Lib.hid (allP_yes (L := L) fun j hj => hr j (by omega))
      go_wp2_with fail
      go_ret
      exact ⟨by rw [hall.out] <;> rfl, b⟩
theorem make_sieves (c : Nat) (hc : c ≤ 1048576) (W : World) : (Instr.makeSlice 73 (.int .i64 c) (.int .i64 c)).run Try.prog W =
    .ok (.slice (some ⟨W.heap.size, 0, none⟩) c c) (W.alloc (.cells (madeCells #[.nilIface] (c * 1)) 76)) := by
  obtain ⟨i0, hi, hz0, hz1, hz2⟩ := info_parts (show (Try.prog.info? 76).map (fun i => (i.zero, i.size, i.bytes)) = some (some .nilIface, 1, 16) by kernel_rfl)
  have := run_make (P := Try.prog) W 73 76 i0 .nilIface Try.underlying73 hi hz0 .i64 .i64 c c (by omega) (Int.le_refl _) (by rw [hz2]; omega) (by omega)
  rw [this, hz1]
  simp only [Int.toNat_natCast]
  rfl
/-- Block G is a row of n sieves; the first k are those of L. -/
structure RowV (G n k : Nat) (L : List (Int × Int)) (cur : Array Value) (w : World) : Prop where
  blk : w.heap[G]? = some (.cells cur 76 (0, 0))
  len : cur.size = n
  fr : ∀ j, j < k → cur[j]? = some (mV (nthP L j).1 (nthP L j).2)
section
variable {G n k : Nat} {L : List (Int × Int)} {cur : Array Value} {w w' : World}
theorem RowV.lt (h : RowV G n k L cur w) : G < w.heap.size := (Array.getElem?_eq_some_iff.1 h.blk).1
theorem RowV.below (h : RowV G n k L cur w) (b : Below w.heap.size w w') : RowV G n k L cur w' := ⟨(b.block G h.lt).trans h.blk, h.len, h.fr⟩
theorem RowV.free (h : RowV G n k L cur w) (j : Nat) : w.frozen? ⟨G, j, none⟩ = false := frozen_of_row w G j _ _ h.blk
theorem RowV.cell (h : RowV G n k L cur w) (j : Nat) : w.cell? ⟨G, j, none⟩ = cur[j]? := cell_of_row w G j _ _ _ h.blk
theorem RowV.some (h : RowV G n k L cur w) (hk : k < n) : ∃ x, w.cell? ⟨G, k, none⟩ = some x := by
  have hl := h.len
  exact ⟨cur[k], by rw [h.cell]; exact Array.getElem?_eq_getElem (by omega)⟩
theorem RowV.put (h : RowV G n k L cur w) (hk : k < n) {m c : Int} (hf : nthP L k = (m, c)) : ∃ cur', RowV G n (k + 1) L cur' (w.setCell ⟨G, k, none⟩ (mV m c)) := by
  have hl := h.len
  refine ⟨_, heap_setCell_same _ _ _ _ _ _ h.blk, by simp [hl], fun j hj => ?_⟩
  by_cases e : j = k
  · subst e
    rw [hf]
    simp [Array.getElem?_setIfInBounds, hl]; omega
  · simp only [Array.getElem?_setIfInBounds]
    rw [if_neg (by omega)]
    exact h.fr j (by omega)
end
/-- impl.sievesOf, where there are filters. -/
theorem sievesOf (a : Option Addr) (L : List (Int × Int)) (c : Nat) (w : World) (hd : Fls a L w) (h0 : 0 < L.length) (h : L.length ≤ 1048576) (hok : L.all flOk = true) :
    Calls Try.prog 42 #[.slice a L.length c] w fun e w' => ∃ g, e = .returned (.slice (some ⟨g, 0, none⟩) L.length L.length) ∧ (∀ j, j < L.length → w'.cell? ⟨g, j, none⟩ = some (mV (nthP L j).1 (nthP L j).2)) ∧ Below w.heap.size w w' := by
  have hmk := make_sieves L.length h
  have hne : ((L.length : Int) == 0) = false := beq_eq_false_iff_ne.2 (by omega)
  replace hok := Lib.hid hok
  go_enter Try.func42, Try.ntmps42
  go_wp2_with fail
  clear hmk
  go_loopw [17] (fun i wr => ∃ (k : Nat) (cur : Array Value), k ≤ L.length ∧ i = .int .i64 k ∧ RowV w.heap.size L.length k L cur wr ∧ Below w.heap.size w wr) (fun i _ => L.length - (intOf i).toNat)
  case atStart => exact ⟨0, _, Nat.zero_le _, rfl, ⟨heap_alloc_new _ _, by simp [madeCells], fun j hj => absurd hj (by omega)⟩, (Below.refl _ _).alloc (Nat.le_refl _) _⟩
  case round =>
    obtain ⟨k, cur, hk, rfl, R, b⟩ := hrel
    by_cases hlt : k < L.length
    · obtain ⟨g, o, rfl, c0, c1⟩ := (hd.below b).2 k hlt
      have hf1 := allP_at hok.out hlt
      have hf0 : nthP L k = ((nthP L k).1, (nthP L k).2) := rfl
      generalize (nthP L k).1 = m at *
      generalize (nthP L k).2 = cc at *
      rw [hf0] at hf1
      have hf := Lib.hid hf0
      clear hf0
      replace R := R.below ((Below.refl wr.heap.size wr).alloc (Nat.le_refl _) (.cells #[.int .i64 m, .int .i64 cc] 41))
      replace b := below_more b (.cells #[.int .i64 m, .int .i64 cc] 41)
      go_wp2_with fail
      refine (sieveYes _ _ _ hf1).mono ?_
      rintro e w2 ⟨rfl, b2⟩
      replace R := R.below b2
      replace b := Below.then2 b b2
      clear b2 c0 c1 hf1
      obtain ⟨x0, y0⟩ := R.some hlt
      have z0 := R.free k
      go_wp2_with fail
      go_roundw
      case rel =>
        obtain ⟨cur', R'⟩ := R.put hlt hf.out
        exact ⟨k + 1, cur', by omega, by go_num, R', b.setCell (Nat.le_refl _) _⟩
      case measure => simp [intOf]; omega
    · obtain rfl : k = L.length := by omega
      have hc := Lib.hid (show ∀ j, j < L.length → wr.cell? ⟨w.heap.size, j, none⟩ = some (mV (nthP L j).1 (nthP L j).2) from fun j hj => by rw [R.cell]; exact R.fr j hj)
      go_wp2_with fail
      go_ret
      exact ⟨_, rfl, hc.out, b⟩
/-- impl.sievesOf, where there is none. -/
theorem sievesNone (a : Option Addr) (c : Nat) (w : World) :
    Calls Try.prog 42 #[.slice a 0 c] w fun e w' => ∃ g, e = .returned (.slice (some ⟨g, 0, none⟩) 1 1) ∧ w'.cell? ⟨g, 0, none⟩ = some (.iface 99 (.agg #[])) ∧ Below w.heap.size w w' := by
  go_enter Try.func42, Try.ntmps42
  go_wp2
  go_ret
  exact ⟨_, rfl, World.cell?_alloc_at _ _ _ _ rfl, (Below.refl _ _).alloc (Nat.le_refl _) _⟩
theorem mMasked (m c : Int) (w : World) : (Go.method 217 95 (pV m c) "loop.example/g00753/impl.lets").run Try.prog w = .ok (79, pV m c) w := by kernel_rfl
theorem mOpen (w : World) : (Go.method 217 99 (.agg #[]) "loop.example/g00753/impl.lets").run Try.prog w = .ok (80, .agg #[]) w := by kernel_rfl
/-- (masked).lets. -/
theorem maskedLets (m c id : Int) (w : World) (hf : flOk (m, c) = true) (hi : idIn id = true) :
    Calls Try.prog 79 #[pV m c, .int .i64 id] w fun e w' => e = .returned (.bool (letsB (m, c) id)) ∧ Below w.heap.size w w' := by
  have HV := Lib.hid (lets_imp (flOk_iff.1 hf).1 (flOk_iff.1 hf).2 (idIn_iff.1 hi))
  clear hf hi
  go_enter Try.func79, Try.ntmps79
  go_wp2
  go_ret
  exact ⟨ret_bool (by rw [← HV.out]; try rfl), (Below.refl _ _).alloc (Nat.le_refl _) _⟩
theorem openLets (id : Int) (w : World) : Calls Try.prog 80 #[.agg #[], .int .i64 id] w fun e w' => e = .returned (.bool true) ∧ Below w.heap.size w w' := by
  go_enter Try.func80, Try.ntmps80
  go_wp2
  go_ret
  exact ⟨rfl, (Below.refl _ _).alloc (Nat.le_refl _) _⟩

set_option maxHeartbeats 2000000 in
/-- impl.Passes. -/
theorem implPasses (a : Option Addr) (L : List (Int × Int)) (c : Nat) (id : Int) (w : World) (hd : Fls a L w) (h : L.length ≤ 1048576) :
    Calls Try.prog 13 #[.slice a L.length c, .int .i64 id] w fun e w' => e = .returned (.bool (passV L id)) ∧ Below w.heap.size w w' := by
  go_enter Try.func13, Try.ntmps13
  go_wp2_with fail
  refine (implIdOk _ _).mono ?_
  rintro e w1 ⟨rfl, rfl⟩
  cases hi : idIn id with
  | false =>
    have HV := Lib.hid (pass_id (L := L) hi)
    clear hi
    go_wp2_with fail
    go_ret
    exact ⟨by rw [HV.out] <;> rfl, Below.refl _ _⟩
  | true =>
    go_wp2_with fail
    refine (filtersOk a L c w hd).mono ?_
    rintro e w1 ⟨he, b⟩
    cases hok : L.all flOk with
    | false =>
      rw [hok] at he
      subst he
      have HV := Lib.hid (pass_no (L := L) (id := id) hok)
      clear hi hok
      go_wp2_with fail
      go_ret
      exact ⟨by rw [HV.out] <;> rfl, b⟩
    | true =>
      rw [hok] at he
      subst he
      by_cases h0 : 0 < L.length
      · have HS := sievesOf a L c w1 (hd.below b) h0 h hok
        have HP := Lib.hid (show ∀ j, j < L.length → letsB (nthP L j) id = true → passV L id = true from fun j hj hl => pass_hit hi hok hj hl)
        have HN := Lib.hid (show (∀ j, j < L.length → letsB (nthP L j) id = false) → passV L id = decide (L.length = 0) from fun hl => pass_none hi hok hl)
        have HF := Lib.hid (show ∀ j, j < L.length → flOk (nthP L j) = true from fun j hj => allP_at hok hj)
        replace hi := Lib.hid hi
        clear hok
        go_wp2_with fail
        refine HS.mono ?_
        rintro e w2 ⟨g, rfl, hc, b2⟩
        replace b := Below.then2 b b2
        replace hc := Lib.hid hc
        clear b2 HS hd
        go_wp2_with fail
        go_loopw [18] (fun i wr => ∃ k : Nat, k ≤ L.length ∧ i = .int .i64 k ∧ (∀ j, j < k → letsB (nthP L j) id = false) ∧ Below w2.heap.size w2 wr) (fun i _ => L.length - (intOf i).toNat)
        case atStart => exact ⟨0, Nat.zero_le _, rfl, fun j hj => absurd hj (by omega), Below.refl _ _⟩
        case round =>
          obtain ⟨k, hk, rfl, hr, b2⟩ := hrel
          replace hr := Lib.hid hr
          by_cases hlt : k < L.length
          · have hc0 := hc.out k hlt
            have hg : g < w2.heap.size := World.block_lt_of_cell? w2 _ hc0
            have c0 := (b2.cell hg).trans hc0
            have hf1 := HF.out k hlt
            have hf0 : nthP L k = ((nthP L k).1, (nthP L k).2) := rfl
            generalize (nthP L k).1 = m at *
            generalize (nthP L k).2 = cc at *
            rw [hf0] at hf1
            have hf := Lib.hid hf0
            clear hf0 hc0
            have hmm := mMasked m cc
            go_wp2_with fail
            refine (maskedLets m cc id _ hf1 hi.out).mono ?_
            rintro e w3 ⟨he, b3⟩
            replace b2 := Below.then2 b2 b3
            clear b3 c0 hf1 hmm
            cases hl : letsB (m, cc) id with
            | true =>
              rw [hl] at he
              subst he
              have HV := Lib.hid (HP.out k hlt (by rw [hf.out]; exact hl))
              have bb := Below.then2 b b2
              clear hl
              go_wp2_with fail
              go_ret
              exact ⟨by rw [HV.out] <;> rfl, bb⟩
            | false =>
              rw [hl] at he
              subst he
              replace hl := Lib.hid hl
              go_wp2_with fail
              go_roundw
              case rel => exact ⟨k + 1, by omega, by go_num, fun j hj => by
                by_cases e : j = k
                · rw [e, hf.out]; exact hl.out
                · exact hr.out j (by omega), b2⟩
              case measure => simp [intOf]; omega
          · have HV := Lib.hid ((HN.out fun j hj => hr.out j (by omega)).trans (decide_eq_false (by omega)))
            have bb := Below.then2 b b2
            go_wp2_with fail
            go_ret
            exact ⟨by rw [HV.out] <;> rfl, bb⟩
      · have hL : L = [] := List.eq_nil_of_length_eq_zero (by omega)
        subst hL
        have HV := Lib.hid (show passV [] id = true by rw [pass_ok hi rfl]; rfl)
        have hmo := mOpen
        clear hok hi
        go_wp2_with fail
        refine (sievesNone a c w1).mono ?_
        rintro e w2 ⟨g, rfl, hc, b2⟩
        replace b := Below.then2 b b2
        clear b2 hd
        go_wp2_with fail
        go_loopw [18] (fun i wr => i = .int .i64 0 ∧ wr = w2) (fun i _ => 0)
        case atStart => exact ⟨rfl, rfl⟩
        case round =>
          obtain ⟨rfl, rfl⟩ := hrel
          go_wp2_with fail
          refine (openLets id _).mono ?_
          rintro e w3 ⟨rfl, b3⟩
          have bb := Below.then2 b b3
          go_wp2_with fail
          go_ret
          exact ⟨by rw [HV.out] <;> rfl, bb⟩
/-- spec.l10Filters. -/
theorem specFilters (a : Option Addr) (L : List (Int × Int)) (c : Nat) (w : World) (hd : Fls a L w) :
    Calls Try.prog 43 #[.slice a L.length c] w fun e w' => e = .returned (.bool (L.all flOk)) ∧ w = w' := by
  have hm := hd.1
  unfold maxLen at hm
  go_enter Try.func43, Try.ntmps43
  go_wp2_with fail
  go_loop [3] (fun i => ∃ k : Nat, k ≤ L.length ∧ i = .int .i64 k ∧ ∀ j, j < k → flOk (nthP L j) = true) (fun i => L.length - (intOf i).toNat)
  case atStart => exact ⟨0, Nat.zero_le _, rfl, fun j hj => absurd hj (by omega)⟩
  case round =>
    obtain ⟨k, hk, rfl, hr⟩ := hrel
    by_cases hlt : k < L.length
    · obtain ⟨g, o, rfl, c0, c1⟩ := hd.2 k hlt
      have hf0 : nthP L k = ((nthP L k).1, (nthP L k).2) := rfl
      have hn := Lib.hid (allP_no (L := L) hlt)
      generalize (nthP L k).1 = m at *
      generalize (nthP L k).2 = cc at *
      have hf := Lib.hid hf0
      clear hf0
      replace hr := Lib.hid hr
      go_wp2_with (first
        | (go_at_call 44; refine (l1In _ _ _ _).mono ?_; rintro e w' ⟨rfl, rfl⟩))
      all_goals (rename_i hq; try simp only [Bool.not_eq_true', Bool.not_eq_false', decide_eq_false_iff_not, decide_eq_true_eq] at hq)
      all_goals first
        | (have HV := Lib.hid (hn.out (by rw [hf.out, Bool.eq_false_iff, ne_eq, flOk_iff]; omega))
           go_ret; exact ⟨by rw [HV.out] <;> rfl, rfl⟩)
        | (go_round
           case rel => exact ⟨k + 1, by omega, by go_num, fun j hj => by
             by_cases e : j = k
             · rw [e, hf.out, flOk_iff]; omega
             · exact hr.out j (by omega)⟩
           case measure => simp [intOf]; omega)
    · have hall := Lib.hid (allP_yes (L := L) fun j hj => hr j (by omega))
      go_wp2_with fail
      go_ret
      exact ⟨by rw [hall.out] <;> rfl, rfl⟩

set_option maxHeartbeats 2000000 in
/-- spec.Passes. -/
theorem specPasses (a : Option Addr) (L : List (Int × Int)) (c : Nat) (id : Int) (w : World) (hd : Fls a L w) :
    Calls Try.prog 14 #[.slice a L.length c, .int .i64 id] w fun e w' => e = .returned (.bool (passV L id)) ∧ Below w.heap.size w w' := by
  have hm := hd.1
  unfold maxLen at hm
  go_enter Try.func14, Try.ntmps14
  go_wp2_with fail
  refine (specFilters a L c w hd).mono ?_
  rintro e w1 ⟨he, rfl⟩
  cases hok : L.all flOk with
  | false =>
    rw [hok] at he
    subst he
    have HV := Lib.hid (pass_no (L := L) (id := id) hok)
    clear hok
    go_wp2_with fail
    go_ret
    exact ⟨by rw [HV.out] <;> rfl, Below.refl _ _⟩
  | true =>
    rw [hok] at he
    subst he
    go_wp2_with fail
    refine (l1In _ _ _ _).mono ?_
    rintro e w2 ⟨he, rfl⟩
    cases hi : idIn id with
    | false =>
      have HV := Lib.hid (pass_id (L := L) hi)
      have hq : (decide ((0 : Int) ≤ id) && decide (id ≤ 2047)) = false := hi
      rw [hq] at he
      subst he
      clear hi hok hq
      go_wp2_with fail
      go_ret
      exact ⟨by rw [HV.out] <;> rfl, Below.refl _ _⟩
    | true =>
      have HP := Lib.hid (show ∀ j, j < L.length → letsB (nthP L j) id = true → passV L id = true from fun j hj hl => pass_hit hi hok hj hl)
      have HN := Lib.hid (show (∀ j, j < L.length → letsB (nthP L j) id = false) → passV L id = decide (L.length = 0) from fun hl => pass_none hi hok hl)
      have hq : (decide ((0 : Int) ≤ id) && decide (id ≤ 2047)) = true := hi
      rw [hq] at he
      subst he
      clear hi hok hq
      go_wp2_with fail
      go_loopw [5] (fun i wr => ∃ k : Nat, k ≤ L.length ∧ i = .int .i64 k ∧ (∀ j, j < k → letsB (nthP L j) id = false) ∧ Below w.heap.size w wr) (fun i _ => L.length - (intOf i).toNat)
      case atStart => exact ⟨0, Nat.zero_le _, rfl, fun j hj => absurd hj (by omega), Below.refl _ _⟩
      case round =>
        obtain ⟨k, hk, rfl, hr, b⟩ := hrel
        replace hr := Lib.hid hr
        by_cases hlt : k < L.length
        · obtain ⟨g, o, rfl, c0, c1⟩ := (hd.below b).2 k hlt
          have hf0 : nthP L k = ((nthP L k).1, (nthP L k).2) := rfl
          generalize (nthP L k).1 = m at *
          generalize (nthP L k).2 = cc at *
          have hf := Lib.hid hf0
          clear hf0
          go_wp2_with fail
          go_quiet (fail)
          have bb : Below w.heap.size w (wr.drewN nq) := ⟨b.os, b.tape, b.output, b.size, b.block⟩
          cases hl : (bits .and .i64 id m == bits .and .i64 cc m) with
          | true =>
            have HV := Lib.hid (HP.out k hlt (by rw [hf.out]; exact hl))
            go_wp2_with fail
            go_ret
            exact ⟨by rw [HV.out] <;> rfl, bb⟩
          | false =>
            have hl' := Lib.hid (show letsB (m, cc) id = false from hl)
            go_wp2_with fail
            go_roundw
            case rel => exact ⟨k + 1, by omega, by go_num, fun j hj => by
              by_cases e : j = k
              · rw [e, hf.out]; exact hl'.out
              · exact hr.out j (by omega), bb⟩
            case measure => simp [intOf]; omega
        · have HV := HN.out fun j hj => hr.out j (by omega)
          by_cases h0 : L.length = 0
          · rw [decide_eq_true h0] at HV
            replace HV := Lib.hid HV
            have hb : ((L.length : Int) == 0) = true := beq_iff_eq.2 (by omega)
            clear h0
            go_wp2_with fail
            go_ret
            exact ⟨by rw [HV.out] <;> rfl, b⟩
          · rw [decide_eq_false h0] at HV
            replace HV := Lib.hid HV
            have hb : ((L.length : Int) == 0) = false := beq_eq_false_iff_ne.2 (by omega)
            clear h0
            go_wp2_with fail
            go_ret
            exact ⟨by rw [HV.out] <;> rfl, b⟩
end Go.Proofs.Ytadnnbinmghabaa
