/- The model's BusOk, l13Level and LevelOf. -/
import Derived.Test.YtjlegnnekjcpmaaGreatNdsE
import Derived.Test.YtjlegnnekjcpmaaGreatNdUE
import Derived.Test.YtjlegnnekjcpmaaGreatM18
set_option linter.unusedVariables false
set_option linter.unusedSimpArgs false
set_option maxRecDepth 20000
namespace Go.Proofs.YtjlegnnekjcpmaaGreat
open Go.RowKit

/-- Is a bus right? -/
def busB (N : List Nd) (now : Int) : Bool := decide (2 ≤ N.length) && (decide (N.length ≤ 6) && (rng now 0 100000 && N.all nodeB))
theorem busB_iff {N : List Nd} {now : Int} : busB N now = true ↔ 2 ≤ N.length ∧ N.length ≤ 6 ∧ (0 ≤ now ∧ now ≤ 100000) ∧ ∀ n ∈ N, nodeB n = true := by
  simp [busB, rng_iff, List.all_eq_true]
theorem all_take_at {N : List Nd} {k : Nat} (h : k < N.length) (f : Nd → Bool) (ht : (N.take k).all f = true) : (N.take (k + 1)).all f = f (nthN N k) := by
  have e : N.take (k + 1) = N.take k ++ [nthN N k] := by
    rw [List.take_add_one, List.getElem?_eq_getElem h, nthN, List.getD_eq_getElem?_getD, List.getElem?_eq_getElem h]; rfl
  rw [e, List.all_append, ht]
  simp
theorem all_of_take {N : List Nd} {k : Nat} (f : Nd → Bool) (ht : (N.take k).all f = false) : N.all f = false := by
  rw [← List.take_append_drop k N, List.all_append, ht]; rfl
theorem any_take_at {N : List Nd} {k : Nat} (h : k < N.length) (f : Nd → Bool) (ht : (N.take k).any f = false) : (N.take (k + 1)).any f = f (nthN N k) := by
  have e : N.take (k + 1) = N.take k ++ [nthN N k] := by
    rw [List.take_add_one, List.getElem?_eq_getElem h, nthN, List.getD_eq_getElem?_getD, List.getElem?_eq_getElem h]; rfl
  rw [e, List.any_append, ht]
  simp
theorem any_of_take {N : List Nd} {k : Nat} (f : Nd → Bool) (ht : (N.take k).any f = true) : N.any f = true := by
  rw [← List.take_append_drop k N, List.any_append, ht]; rfl
theorem nthN_mem {N : List Nd} {k : Nat} (h : k < N.length) : nthN N k ∈ N := by rw [nthN_eq h]; exact List.getElem_mem h

/-- The level of right nodes. -/
def lvlN (N : List Nd) : Int := if N.any downB = true then 0 else 1
def levelN (N : List Nd) (now : Int) : Int := if busB N now = true then lvlN N else 1

/-- A bus laid in a block. -/
theorem one_made (w : World) (C : Array Value) (T : TypeId) : (w.alloc (.cells C T)).heap[w.heap.size]? = some (.cells C T (0, 0)) ∧ Below w.heap.size w (w.alloc (.cells C T)) :=
  ⟨heap_alloc_new w _, below_more (Below.refl _ w) _⟩

set_option maxHeartbeats 4000000 in
/-- spec.BusOk. -/
theorem specBusOk (R : NdP → Prop) (a : Option Addr) (N : List Nd) (c : Nat) (now : Int) (w : World) (hd : Nds R a N w) :
    Calls Tryz.prog 12 #[buV a N.length c now] w fun e w' => e = .returned (.bool (busB N now)) ∧ Below w.heap.size w w' := by
  have hm := hd.1
  unfold maxLen at hm
  have HV : Hid (busB N now = (decide (2 ≤ N.length) && (decide (N.length ≤ 6) && (rng now 0 100000 && N.all nodeB)))) := Lib.hid rfl
  obtain ⟨HC, B⟩ := one_made w (buC a N.length c now) 29
  have hb0 : ∀ b : Bool, decide (2 ≤ N.length ∧ N.length ≤ 6) = b → (decide ((2 : Int) ≤ (N.length : Int)) && decide ((N.length : Int) ≤ 6)) = b := by
    intro b h
    rw [← h]
    by_cases h2 : 2 ≤ N.length <;> by_cases h6 : N.length ≤ 6 <;> simp [h2, h6] <;> omega
  go_enter Tryz.func12, Tryz.ntmps12
  go_upto_region 1 with fail
  generalize World.alloc _ _ = W at HC B ⊢
  generalize w.heap.size = g1 at HC ⊢
  have c0 := cell_of_row W g1 0 _ _ _ HC
  have c1 := cell_of_row W g1 1 _ _ _ HC
  by_cases hL : 2 ≤ N.length ∧ N.length ≤ 6
  case neg =>
    have hb := hb0 false (decide_eq_false hL)
    have hv : busB N now = false := by
      rw [HV.out]
      by_cases h2 : 2 ≤ N.length
      · rw [decide_eq_false (show ¬ N.length ≤ 6 from fun h => hL ⟨h2, h⟩)]; simp
      · rw [decide_eq_false h2]; rfl
    clear hb0 hL
    go_wp2_with fail
    refine (l1In _ _ _ _).mono ?_
    rintro e w1 ⟨rfl, rfl⟩
    go_wp2_with fail
    go_ret
    exact ⟨by rw [hv]; rfl, B⟩
  have hb := hb0 true (decide_eq_true hL)
  have hv : busB N now = ((decide (0 ≤ now) && decide (now ≤ 100000)) && N.all nodeB) := by
    rw [HV.out, decide_eq_true hL.1, decide_eq_true hL.2]; rfl
  obtain ⟨hL2, hL6⟩ := hL
  clear hb0 HV
  cases hn : (decide (0 ≤ now) && decide (now ≤ 100000))
  · rw [hn, Bool.false_and] at hv
    go_wp2_with fail
    refine (l1In _ _ _ _).mono ?_
    rintro e w1 ⟨rfl, rfl⟩
    go_wp2_with fail
    refine (l1In _ _ _ _).mono ?_
    rintro e w1 ⟨rfl, rfl⟩
    go_wp2_with fail
    go_ret
    exact ⟨by rw [hv]; rfl, B⟩
  rw [hn, Bool.true_and] at hv
  go_wp2_with fail
  refine (l1In _ _ _ _).mono ?_
  rintro e w1 ⟨rfl, rfl⟩
  go_wp2_with fail
  refine (l1In _ _ _ _).mono ?_
  rintro e w1 ⟨rfl, rfl⟩
  go_wp2_with fail
  clear hn hb
  go_loopw [3] (fun i wr => ∃ k : Nat, k ≤ N.length ∧ i = .int .i64 k ∧ (N.take k).all nodeB = true ∧ wr.heap[g1]? = some (.cells (buC a N.length c now) 29 (0, 0)) ∧ Below w.heap.size w wr) (fun i _ => N.length - (intOf i).toNat)
  case atStart => exact ⟨0, Nat.zero_le _, rfl, rfl, HC, B⟩
  case round =>
    clear c0 c1 HC B
    obtain ⟨k, hk, rfl, ht, HC, B⟩ := hrel
    have c0 := cell_of_row _ g1 0 _ _ _ HC
    by_cases hlt : k < N.length
    · obtain ⟨g, o, p, rfl, hc, hnm, -⟩ := (hd.below B).2 k hlt
      have hs := all_take_at hlt nodeB ht
      generalize nthN N k = n at *
      go_wp2_with (refine rng_take hc rfl rfl rfl ?_)
      refine (specNodeOk n p _ hnm).mono ?_
      rintro e w2 ⟨rfl, b2⟩
      replace HC := (b2.block g1 (Array.getElem?_eq_some_iff.1 HC).1).trans HC
      replace B := Below.then2 B b2
      clear b2 hnm hc c0
      cases hok : nodeB n
      · rw [hok] at hs
        rw [all_of_take nodeB hs] at hv
        clear hs ht HC
        go_wp2_with fail
        go_ret
        exact ⟨by rw [hv]; rfl, B⟩
      · rw [hok] at hs
        clear hok ht
        go_wp2_with fail
        go_roundw
        case rel => exact ⟨k + 1, by omega, by go_num, hs, HC, B⟩
        case measure => simp [intOf]; omega
    · obtain rfl : k = N.length := by omega
      rw [List.take_length] at ht
      rw [ht] at hv
      clear ht
      go_wp2_with fail
      go_ret
      exact ⟨by rw [hv]; rfl, B⟩
set_option maxHeartbeats 4000000 in
/-- spec.l13Level, of right nodes. -/
theorem specLevel (R : NdP → Prop) (a : Option Addr) (N : List Nd) (c : Nat) (now : Int) (w : World) (hd : Nds R a N w) (hok : ∀ n ∈ N, nodeB n = true) :
    Calls Tryz.prog 63 #[buV a N.length c now] w fun e w' => e = .returned (.int .i64 (lvlN N)) ∧ Below w.heap.size w w' := by
  have hm := hd.1
  unfold maxLen at hm
  have HV : Hid (lvlN N = if N.any downB = true then 0 else 1) := Lib.hid rfl
  obtain ⟨HC, B⟩ := one_made w (buC a N.length c now) 29
  go_enter Tryz.func63, Tryz.ntmps63
  go_upto_region 1 with fail
  generalize World.alloc _ _ = W at HC B ⊢
  generalize w.heap.size = g1 at HC ⊢
  go_wp2_with fail
  go_loopw [3] (fun i wr => ∃ k : Nat, k ≤ N.length ∧ i = .int .i64 k ∧ (N.take k).any downB = false ∧ wr.heap[g1]? = some (.cells (buC a N.length c now) 29 (0, 0)) ∧ Below w.heap.size w wr) (fun i _ => N.length - (intOf i).toNat)
  case atStart => exact ⟨0, Nat.zero_le _, rfl, rfl, HC, B⟩
  case round =>
    clear HC B
    obtain ⟨k, hk, rfl, ht, HC, B⟩ := hrel
    have c0 := cell_of_row _ g1 0 _ _ _ HC
    by_cases hlt : k < N.length
    · obtain ⟨g, o, p, rfl, hc, hnm, -⟩ := (hd.below B).2 k hlt
      have hs := any_take_at hlt downB ht
      have hokk := hok _ (nthN_mem hlt)
      generalize nthN N k = n at *
      go_wp2_with (refine rng_take hc rfl rfl rfl ?_)
      refine (specDrv n p _ hnm hokk).mono ?_
      rintro e w2 ⟨rfl, b2⟩
      replace HC := (b2.block g1 (Array.getElem?_eq_some_iff.1 HC).1).trans HC
      replace B := Below.then2 B b2
      have hdv : drvP n = if downB n = true then 0 else 1 := rfl
      clear b2 hnm hc c0 hokk
      cases hdn : downB n
      · rw [hdn] at hs hdv
        rw [show drvP n = 1 from hdv]
        clear hdn ht hdv
        go_wp2_with fail
        go_roundw
        case rel => exact ⟨k + 1, by omega, by go_num, hs, HC, B⟩
        case measure => simp [intOf]; omega
      · rw [hdn] at hs hdv
        rw [show drvP n = 0 from hdv]
        replace HV := Lib.hid (HV.out.trans (by rw [any_of_take downB hs]; rfl : _ = (0 : Int)))
        clear hs ht HC hdn hdv
        go_wp2_with fail
        go_ret
        exact ⟨by rw [HV.out]; rfl, B⟩
    · obtain rfl : k = N.length := by omega
      rw [List.take_length] at ht
      replace HV := Lib.hid (HV.out.trans (by rw [ht]; rfl : _ = (1 : Int)))
      clear ht
      go_wp2_with fail
      go_ret
      exact ⟨by rw [HV.out]; rfl, B⟩
/-- spec.LevelOf. -/
theorem specLevelOf (R : NdP → Prop) (a : Option Addr) (N : List Nd) (c : Nat) (now : Int) (w : World) (hd : Nds R a N w) :
    Calls Tryz.prog 24 #[buV a N.length c now] w fun e w' => e = .returned (.int .i64 (levelN N now)) ∧ Below w.heap.size w w' := by
  have HV : levelN N now = if busB N now = true then lvlN N else 1 := rfl
  obtain ⟨HC, B⟩ := one_made w (buC a N.length c now) 29
  go_enter Tryz.func24, Tryz.ntmps24
  go_upto_region 1 with fail
  generalize World.alloc _ _ = W at HC B ⊢
  generalize w.heap.size = g1 at HC ⊢
  have c0 := cell_of_row W g1 0 _ _ _ HC
  have c1 := cell_of_row W g1 1 _ _ _ HC
  go_wp2_with fail
  refine (specBusOk R a N c now _ (hd.below B)).mono ?_
  rintro e w1 ⟨rfl, b⟩
  replace HC := (b.block g1 (Array.getElem?_eq_some_iff.1 HC).1).trans HC
  replace B := Below.then2 B b
  clear b c0 c1
  cases hok : busB N now
  · rw [hok] at HV
    have hV : levelN N now = 1 := HV
    clear hok HV
    go_wp2_with fail
    go_ret
    exact ⟨by rw [hV]; rfl, B⟩
  · rw [hok] at HV
    have hV : levelN N now = lvlN N := HV
    have hn := (busB_iff.1 hok).2.2.2
    clear hok HV
    have c0 := cell_of_row _ g1 0 _ _ _ HC
    have c1 := cell_of_row _ g1 1 _ _ _ HC
    go_wp2_with fail
    refine (specLevel R a N c now _ (hd.below B) hn).mono ?_
    rintro e w2 ⟨rfl, b⟩
    replace B := Below.then2 B b
    rw [← hV]
    clear hV c0 c1 b HC hn
    go_wp2_with fail
    go_ret
    exact ⟨rfl, B⟩
end Go.Proofs.YtjlegnnekjcpmaaGreat

