/- What a map of numbers by numbers holds, collected and sorted: maps.Values (its iterator, for every loop that goes on), slices.Collect (off the library's shelf, laid here by its table of numbers), slices.Sort of at most 12 numbers, slices.Sorted. -/
import Derived.Shelf.SlIterI.Collect
import Derived.RangeFuncMany
import Derived.RangeFuncLeaves
import Derived.Sort.MapsRangeIn
import Derived.WalkKit
import Derived.OwnWalkIn
import Derived.TacticsInMore
import Derived.RegionIn
import Derived.LoopNIn
import Derived.LoopIn
import Derived.Test.YtohjfjcpkloigaaM10
import Derived.Test.YtohjfjcpkloigaaM9

set_option linter.unusedVariables false
set_option linter.unusedSimpArgs false
namespace Go.Proofs.Ytohjfjcpkloigaa
open Go.RowKit Go.Maps Go.Sort Go.Shelf

/-- The table of numbers by which the shelf's contract is laid here. -/
def renC : Go.Shelf.Ren := ⟨fun | 8 => 86 | 11 => 90 | n => n, fun | 0 => 0 | 24 => 36 | 26 => 2 | 28 => 89 | 33 => 91 | n => n, fun | n => n⟩
theorem laysC : SlLaysZI.n8 Try.prog renC := {
  mixed := by kernel_rfl
  f8 := ⟨"slices.Collect[int64]", by decide, Try.func86.trans (congrArg some (by kernel_rfl))⟩
  f11 := ⟨"slices.AppendSeq[[]int64,int64]", by decide, Try.func90.trans (congrArg some (by kernel_rfl))⟩
  t0 := Try.underlying0
  a0 := Try.isAgg0
  z0 := Try.sizeOf0
  v0 := Try.zeroValue0
  t24 := Try.underlying36
  a24 := Try.isAgg36
  z24 := Try.sizeOf36
  v24 := Try.zeroValue36
  t26 := Try.underlying2
  a26 := Try.isAgg2
  z26 := Try.sizeOf2
  v26 := Try.zeroValue2
  t28 := Try.underlying89
  a28 := Try.isAgg89
  z28 := Try.sizeOf89
  v28 := Try.zeroValue89
  i26 := by kernel_rfl }

/-- What has come of a map: pairs, no key twice, each key with its value. -/
structure AllP {H : Type} (D0 : DataW H) (ps : List (Int × Int)) : Prop where
  nd : (ps.map (·.1)).Nodup
  mem : ∀ x, x ∈ ps.map (·.1) ↔ Maps.has D0 (kI x) = true
  val : ∀ p ∈ ps, ∀ zd, D0.atKey (kI p.1) zd = .lit (kI p.2)

set_option maxRecDepth 100000 in
set_option maxHeartbeats 1000000 in
/-- The iterator of maps.Values: the values come, those of all keys, each once, in some order. -/
theorem values1 {H : Type} (F : Fence) (n : Nat) (h8 : F.fn 88) (hro : F.round = none) (hn : 1 ≤ n) (l Bm b nn : Nat) (D0 : DataW H) (J : List Int → World → Prop)
    (hY : ∀ pre x W, J pre W → pre.length < Maps.size D0 → YieldAt F (n - 1) Try.prog l #[.int .i64 x] W fun e W' => e = .returned (.bool true) ∧ J (pre ++ [x]) W' ∧ KeepsWalks W W')
    (W : World) (hJ : AbidesFrom W.heap.size J) (hm : W.cell? ⟨Bm, 0, none⟩ = some (.map (some b))) (hown : MapO b nn D0 W) (h0 : J [] W) :
    CallsIn F n Try.prog 88 #[.func (.yield l) #[] #[], .pointer (some ⟨Bm, 0, none⟩)] W fun e W' => (∃ v, e = .returned v) ∧ ∃ xs, (∃ ps, AllP D0 ps ∧ xs = ps.map (·.2)) ∧ J xs W' := by
  refine callsIn_of_wp Try.func88 rfl h8 ?_ hro
  simp only [Try.ntmps88, List.size_toArray, List.length_cons, List.length_nil, Nat.reduceAdd, Nat.reduceSub, Array.replicate_succ, Array.replicate_zero, List.push_toArray, List.append_toArray, List.nil_append, List.cons_append]
  gi_wp2_with (first
    | (gi_at_range; refine wpListIn_range_own _ rfl _ 66 rfl 2 2 mapLaw Try.underlying66 _ b nn _ rfl hown ?_; intro w0 hrg0 hg0 hs0)
    | gi_in)
  go_frame
  gi_loopw [4] (fun _ wr => ∃ (left : Lit → Bool) (cnt : Nat) (ps : List (Int × Int)), wr.ranges Try.prog 2 (plainElem Try.prog 2) b W.heap.size nn D0 left cnt ∧ ps.length + cnt ≤ Maps.size D0 ∧ CollectedI D0 left (ps.map (·.1)) ∧ (∀ p ∈ ps, ∀ zd, D0.atKey (kI p.1) zd = .lit (kI p.2)) ∧ J (ps.map (·.2)) wr)
    (fun _ wr => wr.rangeLeft b W.heap.size)
  case atStart =>
    exact ⟨_, _, [], hrg0, by simp, CollectedI.start D0, by simp, hJ [] W w0 none h0 hg0 (fun r e => by cases e)⟩
  case round =>
    obtain ⟨left, cnt, ps, hrg, hcs, hC, hV, hJs⟩ := hrel
    gi_wp2_with (first
      | (gi_at_next; refine wpListIn_next_ranges _ rfl _ rfl 2 mapLaw (plainElem Try.prog 2) (Value.int .i64) (Value.int .i64) (fun key kl hk => by obtain ⟨x, hx, _⟩ := Maps.keyOf_int_inv Try.underlying2 hk; exact ⟨x, hx⟩) (fun v y hv => by obtain ⟨c, rfl, _⟩ := plainElem_int_inv Try.underlying2 hv; exact ⟨c, rfl⟩) b W.heap.size nn _ _ _ rfl hrg ?_ ?_)
      | gi_in)
    · intro hc0 hl0
      gi_wp2
      go_end0
      exact ⟨⟨_, rfl⟩, _, ⟨ps, ⟨hC.1, fun x => by rw [hC.2 x, hl0]; simp, hV⟩, rfl⟩, hJs⟩
    · intro x c kl yd yp w2 cnt2 hkey hlk hv hat hrg2 hlt hg2 hs2 hen
      obtain ⟨x', ex, rfl, _⟩ := Maps.keyOf_int_inv Try.underlying2 hkey
      cases ex
      obtain ⟨c', ec, ez, _⟩ := plainElem_int_inv Try.underlying2 hv
      cases ec
      obtain rfl : yd = .lit (kI c) := (Prod.mk.inj ez).1
      have hJ2 : J (ps.map (·.2)) w2 := hJ _ wr w2 (some W.heap.size) hJs hg2 (fun r e => by cases e; exact ⟨Nat.le_refl _, hrg.iter_walk⟩)
      obtain ⟨fn, tmps, assign, body, hy, hR⟩ := hY (ps.map (·.2)) c w2 hJ2 (by simp; omega)
      clear hs2
      gi_wp2
      refine hR.mono ?_
      rintro e W3 ⟨rfl, hJ3, hk3⟩
      gi_wp2
      have hrg3 := hrg2.of_walks hk3
      have hC2 : CollectedI D0 (fun z => left z && !z.sameKey (.int .i64 x)) ((ps ++ [(x, c)]).map (·.1)) := by simpa using hC.step hlk hat
      go_roundw
      case rel => exact ⟨_, cnt2, ps ++ [(x, c)], hrg3, by simp; omega, hC2, fun p hp => (List.mem_append.1 hp).elim (hV p) (fun e => by simp at e; subst e; exact hat), by simpa using hJ3⟩
      case measure => rw [hrg3.left_eq, hrg.left_eq]; exact hlt
/-- maps.Values: the map is boxed; the function value captures the box. -/
theorem valuesIn (F : Fence) (n : Nat) (hf : F.fn 82) (hro : F.round = none) (mb : Option Nat) (w : World) :
    CallsIn F n Try.prog 82 #[.map mb] w fun e w' => e = .returned (.func (.func 88) #[] #[.pointer (some ⟨w.heap.size, 0, none⟩)]) ∧ w' = w.alloc (.cells #[.map mb] 66) := by
  refine callsIn_of_wp Try.func82 rfl hf ?_ hro
  simp only [Try.ntmps82, List.size_toArray, List.length_cons, List.length_nil, Nat.reduceAdd, Nat.reduceSub, Array.replicate_succ, Array.replicate_zero, List.push_toArray, List.append_toArray, List.nil_append, List.cons_append]
  gi_wp2
  go_ret
  exact ⟨rfl, rfl⟩
/-- slices.Collect of the values. -/
theorem collectVals {H : Type} (Bm b nn : Nat) (D0 : DataW H) (hnn : Maps.size D0 ≤ 1000000) (w : World) (hBm : Bm < w.heap.size) (hm : w.cell? ⟨Bm, 0, none⟩ = some (.map (some b))) (hown : MapO b nn D0 w) :
    Calls Try.prog 86 #[.func (.func 88) #[] #[.pointer (some ⟨Bm, 0, none⟩)]] w fun e w' => ∃ v xs, e = .returned v ∧ (∃ ps, AllP D0 ps ∧ xs = ps.map (·.2)) ∧ w'.ownsRow w.heap.size 2 1 v xs.length (xs.map (Value.int .i64)) ∧ Below w.heap.size w w' := by
  refine (callsIn_wide (n := 5)).1 ?_
  refine (AnyZI.collect_in laysC Fence.wide 5 trivial trivial rfl (by omega) 88 #[.pointer (some ⟨Bm, 0, none⟩)] trivial
    (Bears.enters (B := Try.f88) ⟨"maps.Values[map[int64]int64,int64,int64]$1", by decide, Try.func88⟩ rfl)
    (fun xs => ∃ ps, AllP D0 ps ∧ xs = ps.map (·.2)) (Maps.size D0) (by unfold maxLen; omega) (by omega) w ?_).mono ?_
  · intro l J W hW hJ hY h0
    have hbl := hown.lt
    have hown' : MapO b nn D0 W := by
      obtain ⟨es, clock, hb, Ft, hs, hD⟩ := hown
      exact ⟨es, clock, (hW.block b hbl).trans hb, Ft, hs, hD⟩
    exact values1 Fence.wide 3 trivial rfl (by omega) l Bm b nn D0 J hY W hJ ((hW.cell (p := ⟨Bm, 0, none⟩) hBm).trans hm) hown' h0
  · rintro e w' ⟨v, ss, rfl, hS, hrow, hnil, hb⟩
    exact ⟨v, ss, rfl, hS, hrow, hb⟩
end Go.Proofs.Ytohjfjcpkloigaa

/- slices.Sort of at most 12 numbers; slices.Sorted of a map's values; impl.HigherOf. -/

set_option linter.unusedVariables false
set_option linter.unusedSimpArgs false
set_option maxRecDepth 20000
namespace Go.Proofs.Ytohjfjcpkloigaa
open Go.RowKit Go.Maps

/-- math/bits.Len64 of a small number. -/
theorem len64 (n : Int) (h0 : 0 ≤ n) (hn : n ≤ 12) (w : World) : Calls Try.prog 103 #[.int .u64 n] w fun e w' => ∃ k : Int, e = .returned (.int .i64 k) ∧ w = w' := by
  have h : n = 0 ∨ n = 1 ∨ n = 2 ∨ n = 3 ∨ n = 4 ∨ n = 5 ∨ n = 6 ∨ n = 7 ∨ n = 8 ∨ n = 9 ∨ n = 10 ∨ n = 11 ∨ n = 12 := by omega
  clear h0 hn
  rcases h with rfl | rfl | rfl | rfl | rfl | rfl | rfl | rfl | rfl | rfl | rfl | rfl | rfl
  all_goals
    go_enter Try.func103, Try.ntmps103
    go_wp2_with fail
    go_ret
    exact ⟨_, rfl, rfl⟩
/-- math/bits.Len of a small number. -/
theorem lenSmall (n : Int) (h0 : 0 ≤ n) (hn : n ≤ 12) (w : World) : Calls Try.prog 92 #[.int .u64 n] w fun e w' => ∃ k : Int, e = .returned (.int .i64 k) ∧ w = w' := by
  go_enter Try.func92, Try.ntmps92
  go_wp2_with fail
  refine (len64 n h0 hn _).mono ?_
  rintro e w1 ⟨k, rfl, rfl⟩
  go_wp2_with fail
  go_ret
  exact ⟨k, rfl, rfl⟩
/-- slices.pdqsortOrdered of at most 12 numbers. -/
theorem pdq12 (G c : Nat) (X : List Int) (cur : Array Value) (k : Int) (w : World) (h : RowI G X cur w) (hm : X.length ≤ 12) :
    Calls Try.prog 91 #[.slice (some ⟨G, 0, none⟩) X.length c, .int .i64 0, .int .i64 X.length, .int .i64 k] w fun e w' => e = .returned (.tuple #[]) ∧
      ∃ Y cur', Y.Perm X ∧ cur'.size = cur.size ∧ OrdTo Y X.length ∧ RowI G Y cur' w' ∧ w.grownBy w' (some G) := by
  have HI := fun w h => insSort G c X cur w h (by omega)
  generalize hn : X.length = n at *
  have hw1 : IntKind.i64.wrap (n : Int) = (n : Int) := IntWalk.i64_in _ (by omega)
  go_enter Try.func91, Try.ntmps91
  go_wp2_with fail
  refine wp_loop_rounds 1 ?_
  rw [rounds_succ]
  go_wp2_with fail
  refine (HI _ h).mono ?_
  rintro e w1 ⟨rfl, Y, cur', h1, h2, h3, h4, h5⟩
  go_wp2_with fail
  refine bodyPost_ret (results_none rfl _ _ _) rfl ?_
  exact ⟨rfl, Y, cur', h1, h2, h3, h4, h5⟩
/-- slices.Sort of at most 12 numbers. -/
theorem sort12 (G c : Nat) (X : List Int) (cur : Array Value) (w : World) (h : RowI G X cur w) (hm : X.length ≤ 12) :
    Calls Try.prog 87 #[.slice (some ⟨G, 0, none⟩) X.length c] w fun e w' => e = .returned (.tuple #[]) ∧
      ∃ Y cur', Y.Perm X ∧ cur'.size = cur.size ∧ OrdTo Y X.length ∧ RowI G Y cur' w' ∧ w.grownBy w' (some G) := by
  have HI := fun k w h => pdq12 G c X cur k w h hm
  have HL := fun w => lenSmall (X.length : Int) (by omega) (by omega) w
  go_enter Try.func87, Try.ntmps87
  go_wp2_with fail
  refine (HL _).mono ?_
  rintro e w1 ⟨k, rfl, rfl⟩
  go_wp2_with fail
  refine (HI k _ h).mono ?_
  rintro e w1 ⟨rfl, Y, cur', h1, h2, h3, h4, h5⟩
  go_wp2_with fail
  go_end0
  exact ⟨rfl, Y, cur', h1, h2, h3, h4, h5⟩
theorem sortNil (c : Nat) (w : World) :
    Calls Try.prog 87 #[.slice none 0 c] w fun e w' => e = .returned (.tuple #[]) ∧ w = w' := by
  have HL := fun w => lenSmall 0 (by omega) (by omega) w
  have HP : ∀ k w, Calls Try.prog 91 #[.slice none 0 c, .int .i64 0, .int .i64 0, .int .i64 k] w fun e w' => e = .returned (.tuple #[]) ∧ w = w' := by
    have HI : ∀ w, Calls Try.prog 93 #[.slice none 0 c, .int .i64 0, .int .i64 0] w fun e w' => e = .returned (.tuple #[]) ∧ w = w' := by
      intro w
      go_enter Try.func93, Try.ntmps93
      go_wp2_with fail
      refine wp_loop_rounds 1 ?_
      rw [rounds_succ]
      go_wp2_with fail
      go_end0
      exact ⟨rfl, rfl⟩
    intro k w
    go_enter Try.func91, Try.ntmps91
    go_wp2_with fail
    refine wp_loop_rounds 1 ?_
    rw [rounds_succ]
    go_wp2_with fail
    refine (HI _).mono ?_
    rintro e w1 ⟨rfl, rfl⟩
    go_wp2_with fail
    refine bodyPost_ret (results_none rfl _ _ _) rfl ?_
    exact ⟨rfl, rfl⟩
  go_enter Try.func87, Try.ntmps87
  go_wp2_with fail
  refine (HL _).mono ?_
  rintro e w1 ⟨k, rfl, rfl⟩
  go_wp2_with fail
  refine (HP k _).mono ?_
  rintro e w1 ⟨rfl, rfl⟩
  go_wp2_with fail
  go_end0
  exact ⟨rfl, rfl⟩
/-- slices.Sorted of the values of a map of at most 12 entries. -/
theorem sortedVals {H : Type} (Bm b nn : Nat) (D0 : DataW H) (hnn : nn ≤ 12) (hq : ∀ ps, AllP D0 ps → ps.length ≤ 12) (w : World) (hBm : Bm < w.heap.size) (hm : w.cell? ⟨Bm, 0, none⟩ = some (.map (some b))) (hown : MapO b nn D0 w) :
    Calls Try.prog 81 #[.func (.func 88) #[] #[.pointer (some ⟨Bm, 0, none⟩)]] w fun e w' => ∃ v xs Y, e = .returned v ∧ (∃ ps, AllP D0 ps ∧ xs = ps.map (·.2)) ∧ Y.Perm xs ∧ OrdTo Y Y.length ∧ w'.ownsRow w.heap.size 2 1 v Y.length (Y.map (Value.int .i64)) ∧ Below w.heap.size w w' := by
  go_enter Try.func81, Try.ntmps81
  go_wp2_with fail
  refine (collectVals Bm b nn D0 (by have := hown.size_le; omega) _ hBm hm hown).mono ?_
  rintro e w1 ⟨v, xs, rfl, hS, hrow, hb⟩
  obtain ⟨ps, hA, rfl⟩ := hS
  have hlen : (ps.map (·.2)).length ≤ 12 := by rw [List.length_map]; exact hq ps hA
  have hS := Lib.hid (⟨ps, hA, rfl⟩ : ∃ qs, AllP D0 qs ∧ ps.map (·.2) = qs.map (·.2))
  clear hA
  generalize ps.map (·.2) = xs at *
  rcases hrow.2 with ⟨rfl, hz⟩ | ⟨gb, cap, cur, rfl, hbase, hgb, r1, r2, r3, r4⟩
  · have hx : xs = [] := List.length_eq_zero_iff.1 hz
    subst hx
    go_wp2_with fail
    refine (sortNil _ _).mono ?_
    rintro e w2 ⟨rfl, rfl⟩
    go_wp2_with fail
    go_ret
    exact ⟨_, [], [], rfl, hS.out, List.Perm.refl _, fun p q h1 h2 => absurd h2 (by simp), by simpa using hrow, hb⟩
  · have R : RowI gb xs cur w1 := ⟨hgb, by omega, fun j hj => by
      have h1 := congrArg (fun l => l[j]?) r4
      simp only [Nat.mul_one, List.getElem?_take, List.getElem?_map, if_pos hj] at h1
      rw [← Array.getElem?_toList, h1, nth_get hj]
      simp [hj]⟩
    go_wp2_with fail
    refine (sort12 gb cap xs cur _ R hlen).mono ?_
    rintro e w2 ⟨rfl, Y, cur', hp, hs, ho, R', g⟩
    have hl := hp.length_eq
    have b2 := hb.grown g hb.size (fun q e => by cases e; exact hbase)
    clear hb hrow
    go_wp2_with fail
    go_ret
    refine ⟨_, xs, Y, rfl, hS.out, hp, by rw [hl]; exact ho, ⟨by simp, .inr ⟨gb, cap, cur', by rw [hl]; rfl, hbase, R'.blk, by omega, r2, by omega, ?_⟩⟩, b2⟩
    apply List.ext_getElem?
    intro j
    by_cases hj : j < Y.length
    · rw [Nat.mul_one, List.getElem?_take, if_pos hj, Array.getElem?_toList, R'.fr j hj, List.getElem?_map, nth_get hj]
      simp [hj]
    · rw [List.getElem?_eq_none (by simp; omega), List.getElem?_eq_none (by simp; omega)]

/-! ### HigherOf. -/
/-- What the map reads as while it is gone through: those of a lesser Id, and those that are still to come. -/
structure KeptV {H : Type} (T : List Ms) (x : Int) (left : Lit → Bool) (D : DataW H) : Prop where
  has : ∀ y, Maps.has D (kI y) = true ↔ (∃ j, j < T.length ∧ (nthTb T j).id = y) ∧ (y < x ∨ left (kI y) = true)
  at_ : ∀ j, j < T.length → Maps.has D (kI (nthTb T j).id) = true → ∀ z, D.atKey (kI (nthTb T j).id) z = .lit (kI j)
section
variable {H : Type} {T : List Ms} {x : Int} {left : Lit → Bool} {D : DataW H}
theorem kI_inj {x y : Int} (h : kI x = kI y) : x = y := by cases h; rfl
theorem sameKI {x y : Int} : (kI x).sameKey (kI y) = decide (x = y) := by
  by_cases h : x = y
  · subst h; rw [WideAt.sameKey_self (kI_key x)]; simp
  · rw [sameKey_ne (kI_ne h)]; simp [h]
theorem KeptV.start (hn : (T.map Ms.id).Nodup) : KeptV (H := H) T x (Maps.has (plD (H := H) T T.length)) (plD T T.length) where
  has y := by
    constructor
    · intro h; exact ⟨plD_has.1 h, .inr h⟩
    · rintro ⟨h, _⟩; exact plD_has.2 h
  at_ j hj _ z := plD_at hn (Nat.le_refl _) hj z
theorem KeptV.struck (h : KeptV T x left D) {y : Int} (hy : x ≤ y) : KeptV T x (fun z => left z && !z.sameKey (kI y)) (D.del (kI y)) where
  has z := by
    by_cases e : z = y
    · subst e
      rw [has_del_same]
      simp only [Bool.false_eq_true, false_iff, not_and]
      rintro _ (h1 | h1)
      · omega
      · rw [sameKI] at h1; simp at h1
    · rw [has_del_other (kI_ne e), h.has, sameKI]
      simp [e]
  at_ j hj h1 z := by
    by_cases e : (nthTb T j).id = y
    · rw [e, has_del_same] at h1; cases h1
    · rw [has_del_other (kI_ne e)] at h1
      rw [atKey_del_other (kI_ne e)]
      exact h.at_ j hj h1 z
theorem KeptV.stays (h : KeptV T x left D) {y : Int} (hy : y < x) : KeptV T x (fun z => left z && !z.sameKey (kI y)) D where
  has z := by
    rw [h.has, sameKI]
    by_cases e : z = y
    · subst e; simp [hy]
    · simp [e]
  at_ := h.at_
/-- At the end: the values, each once, are the places of those of a lesser Id. -/
theorem KeptV.ends (hn : (T.map Ms.id).Nodup) {i : Nat} (h : KeptV T (nthTb T i).id left D) (hl : ∀ kl, left kl = false) {ps : List (Int × Int)} (hA : AllP D ps) : (ps.map (·.2)).Perm (highN T i T.length) := by
  have hkey : ∀ p ∈ ps, ∃ j, j < T.length ∧ p = ((nthTb T j).id, (j : Int)) ∧ (nthTb T j).id < (nthTb T i).id := by
    intro p hp
    have h1 := (hA.mem p.1).1 (List.mem_map_of_mem hp)
    obtain ⟨⟨j, hj, e⟩, h2⟩ := (h.has p.1).1 h1
    rw [hl] at h2
    rw [← e] at h1
    have h3 := h.at_ j hj h1 (.map [])
    rw [e, hA.val p hp] at h3
    have h4 : p.2 = (j : Int) := by injection h3 with h3; exact kI_inj h3
    refine ⟨j, hj, Prod.ext e.symm h4, ?_⟩
    rw [e]
    exact h2.resolve_right (by simp)
  have hnd : (ps.map (·.2)).Nodup := by
    have h1 := hA.nd
    rw [List.Nodup, List.pairwise_map] at h1 ⊢
    refine h1.imp_of_mem fun {a b} ha hb hne e => hne ?_
    obtain ⟨j, hj, rfl, _⟩ := hkey a ha
    obtain ⟨l, hl, rfl, _⟩ := hkey b hb
    simp only at e
    have : j = l := by omega
    subst this; rfl
  have hnd2 : (highN T i T.length).Nodup := (highN_rise T i T.length).imp fun {a b} (h : a < b) => by omega
  rw [List.perm_ext_iff_of_nodup hnd hnd2]
  intro y
  rw [highN_mem]
  constructor
  · intro hy
    obtain ⟨p, hp, rfl⟩ := List.mem_map.1 hy
    obtain ⟨j, hj, rfl, hlt⟩ := hkey p hp
    exact ⟨j, hj, rfl, hlt⟩
  · rintro ⟨j, hj, rfl, hlt⟩
    have h1 : Maps.has D (kI (nthTb T j).id) = true := (h.has _).2 ⟨⟨j, hj, rfl⟩, .inl hlt⟩
    obtain ⟨p, hp, e⟩ := List.mem_map.1 ((hA.mem _).2 h1)
    obtain ⟨l, hl2, rfl, _⟩ := hkey p hp
    have : l = j := ids_inj hn hl2 hj e
    subst this
    exact List.mem_map.2 ⟨_, hp, rfl⟩
end
theorem ord_rise {Y X : List Int} (hp : Y.Perm X) (ho : OrdTo Y Y.length) (hx : X.Pairwise (· < ·)) : Y = X := by
  have hy : Y.Pairwise (· ≤ ·) := by
    rw [List.pairwise_iff_getElem]
    intro i j hi hj hij
    have := ho i j hij hj
    rwa [nth_get hi, nth_get hj] at this
  exact hp.eq_of_pairwise (fun a b _ _ h1 h2 => by omega) hy (hx.imp fun {a b} (h : a < b) => by omega)
end Go.Proofs.Ytohjfjcpkloigaa

/- impl.HigherOf: a row of its own. -/

set_option linter.unusedVariables false
set_option linter.unusedSimpArgs false
set_option maxRecDepth 20000
namespace Go.Proofs.Ytohjfjcpkloigaa
open Go.RowKit Go.Maps

theorem few_of_sub {α : Type} [DecidableEq α] : ∀ {l m : List α}, l.Nodup → (∀ x ∈ l, x ∈ m) → l.length ≤ m.length
  | [], m, _, _ => Nat.zero_le _
  | x :: l, m, h, hs => by
    have hx := hs x (by simp)
    have h2 := List.nodup_cons.1 h
    have h3 := few_of_sub (l := l) (m := m.erase x) h2.2 fun y hy => (List.mem_erase_of_ne (fun e => h2.1 (by rw [← e]; exact hy))).2 (hs y (by simp [hy]))
    rw [List.length_erase_of_mem hx] at h3
    have := List.length_pos_of_mem hx
    simp only [List.length_cons]; omega
theorem AllP.few {H : Type} {T : List Ms} {x : Int} {left : Lit → Bool} {D : DataW H} (h : KeptV T x left D) (hl : T.length ≤ 12) : ∀ ps, AllP D ps → ps.length ≤ 12 := by
  intro ps hA
  have h1 : ∀ y ∈ ps.map (·.1), y ∈ T.map Ms.id := fun y hy => by
    obtain ⟨⟨j, hj, e⟩, _⟩ := (h.has y).1 ((hA.mem y).1 hy)
    rw [← e, nthTb_eq hj]
    exact List.mem_map_of_mem (List.getElem_mem hj)
  have h2 := few_of_sub hA.nd h1
  simp only [List.length_map] at h2
  omega
set_option maxHeartbeats 2000000 in
/-- impl.HigherOf. -/
theorem implHigherOf (a : Option Addr) (T : List Ms) (c : Nat) (i : Int) (w : World) (hd : Tbl a T w) :
    Calls Try.prog 69 #[.slice a T.length c, .int .i64 i] w fun e w' => ∃ v, e = .returned v ∧ OwnI w.heap.size (highV T i) v w' ∧ Below w.heap.size w w' := by
  have hm := hd.1
  unfold maxLen at hm
  have H1 := fun w h => implHasM a T c i w h
  go_enter Try.func69, Try.ntmps69
  go_wp2_with fail
  refine (H1 _ hd).mono ?_
  rintro e w1 ⟨rfl, b⟩
  clear H1
  cases hh : hasM T i with
  | false =>
    have HV := Lib.hid (highV_no hh)
    clear hh
    go_wp2_with fail
    go_ret
    exact ⟨_, rfl, by rw [HV.out]; exact OwnI.nil _ _, b⟩
  | true =>
    have HV := Lib.hid (highV_yes hh)
    obtain ⟨h0, hi0, hi1⟩ := hasM_iff.1 hh
    obtain ⟨hl, ho, hn⟩ := codeT_iff.1 h0
    clear hh h0
    obtain ⟨i, rfl⟩ := Int.eq_ofNat_of_zero_le hi0
    simp only [Int.toNat_natCast] at HV
    have hil : i < T.length := by omega
    have hd0 := hd
    replace hd := hd.below b
    have HP := Lib.hid (fun w h => implPlaces (H := Unit) a T c w h ho hl.2)
    replace hn := Lib.hid hn
    clear ho
    go_wp2_with fail
    refine (HP.out _ hd).mono ?_
    rintro e w2 ⟨rfl, O, b2⟩
    have hw1 := b.size
    replace b := Below.then2 b b2
    clear b2 hd HP
    generalize hB : w1.heap.size = B at *
    replace hB := Lib.hid hB
    have K0 := Lib.hid (KeptV.start (H := Unit) (x := (nthTb T i).id) hn.out)
    generalize plD (H := Unit) T T.length = D0 at *
    go_wp2_with (at_range; refine wpList_range_own _ rfl _ 66 rfl 2 2 mapLaw Try.underlying66 _ B T.length _ rfl O ?_; intro w3 hrg0 hg0 hs0)
    go_frame
    have hw2 := b.size
    go_loopw [6] (fun _ wr => ∃ (left : Lit → Bool) (cnt : Nat) (D : DataW Unit), wr.ranges Try.prog 2 (plainElem Try.prog 2) B w2.heap.size T.length D left cnt ∧ KeptV T (nthTb T i).id left D ∧ Below w.heap.size w wr)
      (fun _ wr => wr.rangeLeft B w2.heap.size)
    case atStart => exact ⟨_, _, _, hrg0, K0.out, b.grown hg0 b.size (fun q e => by cases e)⟩
    case round =>
      clear hrg0 hg0 hs0 K0 O b
      obtain ⟨left, cnt, D, hrg, hK, b⟩ := hrel
      replace hK := Lib.hid hK
      go_wp2_with (at_next; refine wpList_next_ranges_ii _ rfl _ rfl 2 2 .i64 .i64 mapLaw Try.underlying2 Try.underlying2 B w2.heap.size T.length _ _ _ rfl hrg ?_ ?_)
      · intro _ hl0
        have O := hrg.owns
        have HE := Lib.hid (fun ps hA => hK.out.ends hn.out hl0 (ps := ps) hA)
        have HF := Lib.hid (AllP.few hK.out hl.2)
        have hwr := b.size
        go_wp2_with fail
        refine ((callsIn_wide (n := 5)).1 (valuesIn Fence.wide 5 trivial rfl _ _)).mono ?_
        rintro e w5 ⟨rfl, rfl⟩
        have O5 := O.alloc (.cells #[.map (some B)] 66)
        have b5 := below_more b (.cells #[.map (some B)] 66)
        have hm5 : (wr.alloc (.cells #[.map (some B)] 66)).cell? ⟨wr.heap.size, 0, none⟩ = some (.map (some B)) := World.cell?_alloc_at _ _ _ _ rfl
        have hs5 : wr.heap.size < (wr.alloc (.cells #[.map (some B)] 66)).heap.size := by simp
        generalize wr.alloc (.cells #[.map (some B)] 66) = w5 at *
        generalize wr.heap.size = Bm at *
        clear hrg O b
        go_wp2_with fail
        refine (sortedVals Bm B T.length D hl.2 HF.out w5 hs5 hm5 O5).mono ?_
        rintro e w6 ⟨v, xs, Y, rfl, ⟨ps, hA, rfl⟩, hp, ho, hrow, b6⟩
        have hY := ord_rise (hp.trans (HE.out ps hA)) ho (highN_rise T i T.length)
        subst hY
        have hO : OwnI w.heap.size (highN T i T.length) v w6 := OwnI.mono ⟨hrow, fun x hx => by
          obtain ⟨j, hj, rfl, _⟩ := highN_mem.1 hx
          exact Go.WalkArith.wf_i64 ⟨by omega, by omega⟩⟩ b5.size
        have bb := Below.then2 b5 b6
        clear hA hp ho hrow b6 b5 HE HF
        go_wp2_with fail
        go_ret
        exact ⟨_, rfl, by rw [HV.out]; exact hO, bb⟩
      · intro x cc w4 cnt1 hwx hwc hlx hat hrg1 hlt hg1 hs1 hen
        have b1 := b.grown hg1 b.size (fun q e => by cases e; exact hw2)
        obtain ⟨g, o, rfl, c0, _⟩ := (hd0.below b1).2 i hil
        generalize hx : (nthTb T i).id = y at c0
        replace hx := Lib.hid hx
        by_cases hge : y ≤ x
        · have hK2 := Lib.hid (hK.out.struck (y := x) (by rw [hx.out]; exact hge))
          clear hK
          go_wp2_with (at_delete; refine wpList_delete_ranges _ rfl _ _ 66 2 rfl 2 mapLaw Try.underlying66 _ B w2.heap.size T.length _ _ _ rfl hrg1 _ _ rfl (keyOf_int_mk Try.underlying2 hwx) ?_; intro w5 cnt2 hrg2 hle hturn; go_frame)
          rw [strike_twice] at hrg2
          go_roundw
          case rel => exact ⟨_, cnt2, _, hrg2, hK2.out, b1.grown hturn.grown b1.size (fun q e => by cases e; exact Nat.le_trans hw1 (by have := hB.out; omega))⟩
          case measure => rw [hrg2.left_eq, hrg.left_eq]; omega
        · have hK2 := Lib.hid (hK.out.stays (y := x) (by rw [hx.out]; omega))
          clear hK
          go_wp2_with fail
          go_roundw
          case rel => exact ⟨_, cnt1, _, hrg1, hK2.out, b1⟩
          case measure => rw [hrg1.left_eq, hrg.left_eq]; exact hlt
end Go.Proofs.Ytohjfjcpkloigaa
