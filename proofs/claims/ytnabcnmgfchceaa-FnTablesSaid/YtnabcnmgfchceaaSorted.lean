/- slices.Sort of at most 12 numbers; slices.Sorted of a map's values; impl.HigherOf. -/
import Derived.Test.YtnabcnmgfchceaaSort12
import Derived.Test.YtnabcnmgfchceaaVals
set_option linter.unusedVariables false
set_option linter.unusedSimpArgs false
set_option maxRecDepth 20000
namespace Go.Proofs.Ytnabcnmgfchceaa
open Go.RowKit Go.Maps

/-- math/bits.Len64 of a small number. -/
theorem len64 (n : Int) (h0 : 0 ≤ n) (hn : n ≤ 12) (w : World) : Calls Try.prog 75 #[.int .u64 n] w fun e w' => ∃ k : Int, e = .returned (.int .i64 k) ∧ w = w' := by
  have h : n = 0 ∨ n = 1 ∨ n = 2 ∨ n = 3 ∨ n = 4 ∨ n = 5 ∨ n = 6 ∨ n = 7 ∨ n = 8 ∨ n = 9 ∨ n = 10 ∨ n = 11 ∨ n = 12 := by omega
  clear h0 hn
  rcases h with rfl | rfl | rfl | rfl | rfl | rfl | rfl | rfl | rfl | rfl | rfl | rfl | rfl
  all_goals
    go_enter Try.func75, Try.ntmps75
    go_wp2_with fail
    go_ret
    exact ⟨_, rfl, rfl⟩
/-- math/bits.Len of a small number. -/
theorem lenSmall (n : Int) (h0 : 0 ≤ n) (hn : n ≤ 12) (w : World) : Calls Try.prog 64 #[.int .u64 n] w fun e w' => ∃ k : Int, e = .returned (.int .i64 k) ∧ w = w' := by
  go_enter Try.func64, Try.ntmps64
  go_wp2_with fail
  refine (len64 n h0 hn _).mono ?_
  rintro e w1 ⟨k, rfl, rfl⟩
  go_wp2_with fail
  go_ret
  exact ⟨k, rfl, rfl⟩
/-- slices.pdqsortOrdered of at most 12 numbers. -/
theorem pdq12 (G c : Nat) (X : List Int) (cur : Array Value) (k : Int) (w : World) (h : RowI G X cur w) (hm : X.length ≤ 12) :
    Calls Try.prog 63 #[.slice (some ⟨G, 0, none⟩) X.length c, .int .i64 0, .int .i64 X.length, .int .i64 k] w fun e w' => e = .returned (.tuple #[]) ∧
      ∃ Y cur', Y.Perm X ∧ cur'.size = cur.size ∧ OrdTo Y X.length ∧ RowI G Y cur' w' ∧ w.grownBy w' (some G) := by
  have HI := fun w h => insSort G c X cur w h (by omega)
  generalize hn : X.length = n at *
  have hw1 : IntKind.i64.wrap (n : Int) = (n : Int) := IntWalk.i64_in _ (by omega)
  go_enter Try.func63, Try.ntmps63
  go_wp2_with fail
  refine wp_loop_rounds 1 ?_
  rw [rounds_succ]
  go_wp2_with fail
  refine (HI _ h).mono ?_
  rintro e w1 ⟨rfl, Y, cur', h1, h2, h3, h4, h5⟩
  go_wp2_with fail
  refine bodyPost_ret (results_none rfl _ _ _) rfl ?_
  exact ⟨rfl, Y, cur', h1, h2, h3, h4, h5⟩
/-- slices.Sort of at most 12 numbers. -/
theorem sort12 (G c : Nat) (X : List Int) (cur : Array Value) (w : World) (h : RowI G X cur w) (hm : X.length ≤ 12) :
    Calls Try.prog 54 #[.slice (some ⟨G, 0, none⟩) X.length c] w fun e w' => e = .returned (.tuple #[]) ∧
      ∃ Y cur', Y.Perm X ∧ cur'.size = cur.size ∧ OrdTo Y X.length ∧ RowI G Y cur' w' ∧ w.grownBy w' (some G) := by
  have HI := fun k w h => pdq12 G c X cur k w h hm
  have HL := fun w => lenSmall (X.length : Int) (by omega) (by omega) w
  go_enter Try.func54, Try.ntmps54
  go_wp2_with fail
  refine (HL _).mono ?_
  rintro e w1 ⟨k, rfl, rfl⟩
  go_wp2_with fail
  refine (HI k _ h).mono ?_
  rintro e w1 ⟨rfl, Y, cur', h1, h2, h3, h4, h5⟩
  go_wp2_with fail
  go_end0
  exact ⟨rfl, Y, cur', h1, h2, h3, h4, h5⟩
theorem sortNil (c : Nat) (w : World) :
    Calls Try.prog 54 #[.slice none 0 c] w fun e w' => e = .returned (.tuple #[]) ∧ w = w' := by
  have HL := fun w => lenSmall 0 (by omega) (by omega) w
  have HP : ∀ k w, Calls Try.prog 63 #[.slice none 0 c, .int .i64 0, .int .i64 0, .int .i64 k] w fun e w' => e = .returned (.tuple #[]) ∧ w = w' := by
    have HI : ∀ w, Calls Try.prog 65 #[.slice none 0 c, .int .i64 0, .int .i64 0] w fun e w' => e = .returned (.tuple #[]) ∧ w = w' := by
      intro w
      go_enter Try.func65, Try.ntmps65
      go_wp2_with fail
      refine wp_loop_rounds 1 ?_
      rw [rounds_succ]
      go_wp2_with fail
      go_end0
      exact ⟨rfl, rfl⟩
    intro k w
    go_enter Try.func63, Try.ntmps63
    go_wp2_with fail
    refine wp_loop_rounds 1 ?_
    rw [rounds_succ]
    go_wp2_with fail
    refine (HI _).mono ?_
    rintro e w1 ⟨rfl, rfl⟩
    go_wp2_with fail
    refine bodyPost_ret (results_none rfl _ _ _) rfl ?_
    exact ⟨rfl, rfl⟩
  go_enter Try.func54, Try.ntmps54
  go_wp2_with fail
  refine (HL _).mono ?_
  rintro e w1 ⟨k, rfl, rfl⟩
  go_wp2_with fail
  refine (HP k _).mono ?_
  rintro e w1 ⟨rfl, rfl⟩
  go_wp2_with fail
  go_end0
  exact ⟨rfl, rfl⟩
/-- slices.Sorted of the values of a map of at most 12 entries. -/
theorem sortedVals {H : Type} (Bm b nn : Nat) (D0 : DataW H) (hnn : nn ≤ 12) (hq : ∀ ps, AllP D0 ps → ps.length ≤ 12) (w : World) (hBm : Bm < w.heap.size) (hm : w.cell? ⟨Bm, 0, none⟩ = some (.map (some b))) (hown : MapO b nn D0 w) :
    Calls Try.prog 36 #[.func (.func 55) #[] #[.pointer (some ⟨Bm, 0, none⟩)]] w fun e w' => ∃ v xs Y, e = .returned v ∧ (∃ ps, AllP D0 ps ∧ xs = ps.map (·.2)) ∧ Y.Perm xs ∧ OrdTo Y Y.length ∧ w'.ownsRow w.heap.size 2 1 v Y.length (Y.map (Value.int .i64)) ∧ Below w.heap.size w w' := by
  go_enter Try.func36, Try.ntmps36
  go_wp2_with fail
  refine (collectVals Bm b nn D0 (by have := hown.size_le; omega) _ hBm hm hown).mono ?_
  rintro e w1 ⟨v, xs, rfl, hS, hrow, hb⟩
  obtain ⟨ps, hA, rfl⟩ := hS
  have hlen : (ps.map (·.2)).length ≤ 12 := by rw [List.length_map]; exact hq ps hA
  have hS := Lib.hid (⟨ps, hA, rfl⟩ : ∃ qs, AllP D0 qs ∧ ps.map (·.2) = qs.map (·.2))
  clear hA
  generalize ps.map (·.2) = xs at *
  rcases hrow.2 with ⟨rfl, hz⟩ | ⟨gb, cap, cur, rfl, hbase, hgb, r1, r2, r3, r4⟩
  · have hx : xs = [] := List.length_eq_zero_iff.1 hz
    subst hx
    go_wp2_with fail
    refine (sortNil _ _).mono ?_
    rintro e w2 ⟨rfl, rfl⟩
    go_wp2_with fail
    go_ret
    exact ⟨_, [], [], rfl, hS.out, List.Perm.refl _, fun p q h1 h2 => absurd h2 (by simp), by simpa using hrow, hb⟩
  · have R : RowI gb xs cur w1 := ⟨hgb, by omega, fun j hj => by
      have h1 := congrArg (fun l => l[j]?) r4
      simp only [Nat.mul_one, List.getElem?_take, List.getElem?_map, if_pos hj] at h1
      rw [← Array.getElem?_toList, h1, nth_get hj]
      simp [hj]⟩
    go_wp2_with fail
    refine (sort12 gb cap xs cur _ R hlen).mono ?_
    rintro e w2 ⟨rfl, Y, cur', hp, hs, ho, R', g⟩
    have hl := hp.length_eq
    have b2 := hb.grown g hb.size (fun q e => by cases e; exact hbase)
    clear hb hrow
    go_wp2_with fail
    go_ret
    refine ⟨_, xs, Y, rfl, hS.out, hp, by rw [hl]; exact ho, ⟨by simp, .inr ⟨gb, cap, cur', by rw [hl]; rfl, hbase, R'.blk, by omega, r2, by omega, ?_⟩⟩, b2⟩
    apply List.ext_getElem?
    intro j
    by_cases hj : j < Y.length
    · rw [Nat.mul_one, List.getElem?_take, if_pos hj, Array.getElem?_toList, R'.fr j hj, List.getElem?_map, nth_get hj]
      simp [hj]
    · rw [List.getElem?_eq_none (by simp; omega), List.getElem?_eq_none (by simp; omega)]

/-! ### HigherOf. -/
/-- What the map reads as while it is gone through: those of a lesser Id, and those that are still to come. -/
structure KeptV {H : Type} (T : List Ms) (x : Int) (left : Lit → Bool) (D : DataW H) : Prop where
  has : ∀ y, Maps.has D (kI y) = true ↔ (∃ j, j < T.length ∧ (nthTb T j).id = y) ∧ (y < x ∨ left (kI y) = true)
  at_ : ∀ j, j < T.length → Maps.has D (kI (nthTb T j).id) = true → ∀ z, D.atKey (kI (nthTb T j).id) z = .lit (kI j)
section
variable {H : Type} {T : List Ms} {x : Int} {left : Lit → Bool} {D : DataW H}
theorem kI_inj {x y : Int} (h : kI x = kI y) : x = y := by cases h; rfl
theorem sameKI {x y : Int} : (kI x).sameKey (kI y) = decide (x = y) := by
  by_cases h : x = y
  · subst h; rw [WideAt.sameKey_self (kI_key x)]; simp
  · rw [sameKey_ne (kI_ne h)]; simp [h]
theorem KeptV.start (hn : (T.map Ms.id).Nodup) : KeptV (H := H) T x (Maps.has (plD (H := H) T T.length)) (plD T T.length) where
  has y := by
    constructor
    · intro h; exact ⟨plD_has.1 h, .inr h⟩
    · rintro ⟨h, _⟩; exact plD_has.2 h
  at_ j hj _ z := plD_at hn (Nat.le_refl _) hj z
theorem KeptV.struck (h : KeptV T x left D) {y : Int} (hy : x ≤ y) : KeptV T x (fun z => left z && !z.sameKey (kI y)) (D.del (kI y)) where
  has z := by
    by_cases e : z = y
    · subst e
      rw [has_del_same]
      simp only [Bool.false_eq_true, false_iff, not_and]
      rintro _ (h1 | h1)
      · omega
      · rw [sameKI] at h1; simp at h1
    · rw [has_del_other (kI_ne e), h.has, sameKI]
      simp [e]
  at_ j hj h1 z := by
    by_cases e : (nthTb T j).id = y
    · rw [e, has_del_same] at h1; cases h1
    · rw [has_del_other (kI_ne e)] at h1
      rw [atKey_del_other (kI_ne e)]
      exact h.at_ j hj h1 z
theorem KeptV.stays (h : KeptV T x left D) {y : Int} (hy : y < x) : KeptV T x (fun z => left z && !z.sameKey (kI y)) D where
  has z := by
    rw [h.has, sameKI]
    by_cases e : z = y
    · subst e; simp [hy]
    · simp [e]
  at_ := h.at_
/-- At the end: the values, each once, are the places of those of a lesser Id. -/
theorem KeptV.ends (hn : (T.map Ms.id).Nodup) {i : Nat} (h : KeptV T (nthTb T i).id left D) (hl : ∀ kl, left kl = false) {ps : List (Int × Int)} (hA : AllP D ps) : (ps.map (·.2)).Perm (highN T i T.length) := by
  have hkey : ∀ p ∈ ps, ∃ j, j < T.length ∧ p = ((nthTb T j).id, (j : Int)) ∧ (nthTb T j).id < (nthTb T i).id := by
    intro p hp
    have h1 := (hA.mem p.1).1 (List.mem_map_of_mem hp)
    obtain ⟨⟨j, hj, e⟩, h2⟩ := (h.has p.1).1 h1
    rw [hl] at h2
    rw [← e] at h1
    have h3 := h.at_ j hj h1 (.map [])
    rw [e, hA.val p hp] at h3
    have h4 : p.2 = (j : Int) := by injection h3 with h3; exact kI_inj h3
    refine ⟨j, hj, Prod.ext e.symm h4, ?_⟩
    rw [e]
    exact h2.resolve_right (by simp)
  have hnd : (ps.map (·.2)).Nodup := by
    have h1 := hA.nd
    rw [List.Nodup, List.pairwise_map] at h1 ⊢
    refine h1.imp_of_mem fun {a b} ha hb hne e => hne ?_
    obtain ⟨j, hj, rfl, _⟩ := hkey a ha
    obtain ⟨l, hl, rfl, _⟩ := hkey b hb
    simp only at e
    have : j = l := by omega
    subst this; rfl
  have hnd2 : (highN T i T.length).Nodup := (highN_rise T i T.length).imp fun {a b} (h : a < b) => by omega
  rw [List.perm_ext_iff_of_nodup hnd hnd2]
  intro y
  rw [highN_mem]
  constructor
  · intro hy
    obtain ⟨p, hp, rfl⟩ := List.mem_map.1 hy
    obtain ⟨j, hj, rfl, hlt⟩ := hkey p hp
    exact ⟨j, hj, rfl, hlt⟩
  · rintro ⟨j, hj, rfl, hlt⟩
    have h1 : Maps.has D (kI (nthTb T j).id) = true := (h.has _).2 ⟨⟨j, hj, rfl⟩, .inl hlt⟩
    obtain ⟨p, hp, e⟩ := List.mem_map.1 ((hA.mem _).2 h1)
    obtain ⟨l, hl2, rfl, _⟩ := hkey p hp
    have : l = j := ids_inj hn hl2 hj e
    subst this
    exact List.mem_map.2 ⟨_, hp, rfl⟩
end
theorem ord_rise {Y X : List Int} (hp : Y.Perm X) (ho : OrdTo Y Y.length) (hx : X.Pairwise (· < ·)) : Y = X := by
  have hy : Y.Pairwise (· ≤ ·) := by
    rw [List.pairwise_iff_getElem]
    intro i j hi hj hij
    have := ho i j hij hj
    rwa [nth_get hi, nth_get hj] at this
  exact hp.eq_of_pairwise (fun a b _ _ h1 h2 => by omega) hy (hx.imp fun {a b} (h : a < b) => by omega)
end Go.Proofs.Ytnabcnmgfchceaa

