/- container/heap over the contest: down leaves what lies behind its part alone; Push keeps the first one the least; Pop answers the first one. -/
import Derived.Test.YtcciabalbdnakabHeap
set_option linter.unusedVariables false
namespace Go.Proofs.Ytcciabalbdnakab
open Go.RowKit

theorem hLessI {w0 : World} {p : Nat} {E : List (Int × Int)} {v : Value} {w : World} (h : HS w0 p E v w) (ii jj : Int) (i j : Nat) (ei : ii = i) (ej : jj = j) (hi : i < E.length) (hj : j < E.length) :
    Calls Try.prog 108 #[v, .int .i64 ii, .int .i64 jj] w fun e w' => e = .returned (.bool (ltE (nthE E i) (nthE E j))) ∧ Below w.heap.size w w' := by
  subst ei ej; exact hLess h i j hi hj
theorem hSwapI {w0 : World} {p : Nat} {E : List (Int × Int)} {v : Value} {w : World} (h : HS w0 p E v w) (ii jj : Int) (i j : Nat) (ei : ii = i) (ej : jj = j) (hi : i < E.length) (hj : j < E.length) :
    Calls Try.prog 111 #[v, .int .i64 ii, .int .i64 jj] w fun e w' => e = .returned (.tuple #[]) ∧ HS w0 p (swapE E i j) v w' := by
  subst ei ej; exact hSwap h i j hi hj
/-- An answer yes or no. -/
def SomeBool (e : Ending) : Prop := ∃ b, e = .returned (.bool b)
theorem swap_far {E F : List (Int × Int)} {n i j : Nat} (hi : i < F.length) (hj : j < F.length) (hin : i < n) (hjn : j < n) (h : ∀ q, n ≤ q → nthE F q = nthE E q) : ∀ q, n ≤ q → nthE (swapE F i j) q = nthE E q := by
  intro q hq
  rw [swapE_at hi hj, if_neg (by omega), if_neg (by omega)]
  exact h q hq

set_option maxRecDepth 20000 in
set_option maxHeartbeats 1000000 in
/-- container/heap.down. -/
theorem heapDown {w0 : World} {p : Nat} {E : List (Int × Int)} {v : Value} {w : World} (h : HS w0 p E v w) (n : Nat) (hn : n ≤ E.length) (hsz : E.length ≤ 10000000) :
    Calls Try.prog 79 #[.iface 62 (.pointer (some ⟨p, 0, none⟩)), .int .i64 0, .int .i64 n] w fun e w' =>
      SomeBool e ∧ ∃ E', HS w0 p E' v w' ∧ E'.length = E.length ∧ ∀ q, n ≤ q → nthE E' q = nthE E q := by
  go_enter Try.func79, Try.ntmps79
  go_wp2_with fail
  go_loopw [7] (fun i wr => ∃ (k : Nat) (F : List (Int × Int)), i = .int .i64 k ∧ k ≤ n ∧ F.length = E.length ∧ HS w0 p F v wr ∧ ∀ q, n ≤ q → nthE F q = nthE E q) (fun i _ => n - (intOf i).toNat)
  case atStart => exact ⟨0, E, rfl, Nat.zero_le _, rfl, h, fun _ _ => rfl⟩
  case round =>
    clear h
    obtain ⟨k, F, rfl, hk, hF, h, hK⟩ := hrel
    have HF := Lib.hid hF
    have HK := Lib.hid hK
    have hnF : n ≤ F.length := by omega
    have hk0 : (k : Int) ≤ 10000000 := by omega
    have hn0 : (n : Int) ≤ 10000000 := by omega
    clear hF hK hsz hn
    obtain ⟨a, cc, rfl, _⟩ := h.own.is
    by_cases h1 : 2 * k + 1 < n
    · by_cases h2 : 2 * k + 2 < n
      · have ml := mLess p a F.length cc wr h.cell
        go_wp2_with fail
        refine (hLessI h _ _ (2 * k + 2) (2 * k + 1) (by omega) (by omega) (by omega) (by omega)).mono ?_
        cases l2 : ltE (nthE F (2 * k + 2)) (nthE F (2 * k + 1)) with
        | true =>
          rintro e wc ⟨rfl, b2⟩
          replace h := h.below b2
          clear b2 ml l2
          cases l3 : ltE (nthE F (2 * k + 2)) (nthE F k) with
          | false =>
            have ml3 := mLess p a F.length cc wc h.cell
            go_wp2_with fail
            refine (hLessI h _ _ (2 * k + 2) k (by omega) (by omega) (by omega) (by omega)).mono ?_
            rw [l3]
            rintro e w5 ⟨rfl, b5⟩
            replace h := h.below b5
            clear b5 ml3 l3
            go_wp2_with fail
            go_ret
            exact ⟨⟨_, rfl⟩, F, h, HF.out, HK.out⟩
          | true =>
            have ml3 := mLess p a F.length cc wc h.cell
            go_wp2_with fail
            refine (hLessI h _ _ (2 * k + 2) k (by omega) (by omega) (by omega) (by omega)).mono ?_
            rw [l3]
            rintro e w5 ⟨rfl, b5⟩
            replace h := h.below b5
            clear b5 ml3 l3
            have ms := mSwap p a F.length cc w5 h.cell
            go_wp2_with fail
            refine (hSwapI h _ _ k (2 * k + 2) (by omega) (by omega) (by omega) (by omega)).mono ?_
            rintro e w6 ⟨rfl, h6⟩
            clear ms h
            have HK2 := Lib.hid (swap_far (i := k) (j := 2 * k + 2) (by omega) (by omega) (by omega) (by omega) HK.out)
            go_wp2_with fail
            go_roundw
            case rel => exact ⟨2 * k + 2, _, by first | rfl | (congr 1; done) | (congr 1; omega), by omega, by rw [swapE_len]; exact HF.out, h6, HK2.out⟩
            case measure => simp [intOf]; omega
        | false =>
          rintro e wc ⟨rfl, b2⟩
          replace h := h.below b2
          clear b2 ml l2
          cases l3 : ltE (nthE F (2 * k + 1)) (nthE F k) with
          | false =>
            have ml3 := mLess p a F.length cc wc h.cell
            go_wp2_with fail
            refine (hLessI h _ _ (2 * k + 1) k (by omega) (by omega) (by omega) (by omega)).mono ?_
            rw [l3]
            rintro e w5 ⟨rfl, b5⟩
            replace h := h.below b5
            clear b5 ml3 l3
            go_wp2_with fail
            go_ret
            exact ⟨⟨_, rfl⟩, F, h, HF.out, HK.out⟩
          | true =>
            have ml3 := mLess p a F.length cc wc h.cell
            go_wp2_with fail
            refine (hLessI h _ _ (2 * k + 1) k (by omega) (by omega) (by omega) (by omega)).mono ?_
            rw [l3]
            rintro e w5 ⟨rfl, b5⟩
            replace h := h.below b5
            clear b5 ml3 l3
            have ms := mSwap p a F.length cc w5 h.cell
            go_wp2_with fail
            refine (hSwapI h _ _ k (2 * k + 1) (by omega) (by omega) (by omega) (by omega)).mono ?_
            rintro e w6 ⟨rfl, h6⟩
            clear ms h
            have HK2 := Lib.hid (swap_far (i := k) (j := 2 * k + 1) (by omega) (by omega) (by omega) (by omega) HK.out)
            go_wp2_with fail
            go_roundw
            case rel => exact ⟨2 * k + 1, _, by first | rfl | (congr 1; done) | (congr 1; omega), by omega, by rw [swapE_len]; exact HF.out, h6, HK2.out⟩
            case measure => simp [intOf]; omega
      · have hwc : ∃ wc, wc = wr := ⟨wr, rfl⟩
        obtain ⟨wc, hwc⟩ := hwc
        rw [← hwc] at h ⊢
        clear hwc
        cases l3 : ltE (nthE F (2 * k + 1)) (nthE F k) with
        | false =>
          have ml3 := mLess p a F.length cc wc h.cell
          go_wp2_with fail
          refine (hLessI h _ _ (2 * k + 1) k (by omega) (by omega) (by omega) (by omega)).mono ?_
          rw [l3]
          rintro e w5 ⟨rfl, b5⟩
          replace h := h.below b5
          clear b5 ml3 l3
          go_wp2_with fail
          go_ret
          exact ⟨⟨_, rfl⟩, F, h, HF.out, HK.out⟩
        | true =>
          have ml3 := mLess p a F.length cc wc h.cell
          go_wp2_with fail
          refine (hLessI h _ _ (2 * k + 1) k (by omega) (by omega) (by omega) (by omega)).mono ?_
          rw [l3]
          rintro e w5 ⟨rfl, b5⟩
          replace h := h.below b5
          clear b5 ml3 l3
          have ms := mSwap p a F.length cc w5 h.cell
          go_wp2_with fail
          refine (hSwapI h _ _ k (2 * k + 1) (by omega) (by omega) (by omega) (by omega)).mono ?_
          rintro e w6 ⟨rfl, h6⟩
          clear ms h
          have HK2 := Lib.hid (swap_far (i := k) (j := 2 * k + 1) (by omega) (by omega) (by omega) (by omega) HK.out)
          go_wp2_with fail
          go_roundw
          case rel => exact ⟨2 * k + 1, _, by first | rfl | (congr 1; done) | (congr 1; omega), by omega, by rw [swapE_len]; exact HF.out, h6, HK2.out⟩
          case measure => simp [intOf]; omega
    · go_wp2_with fail
      go_ret
      exact ⟨⟨_, rfl⟩, F, h, HF.out, HK.out⟩

/-- ( *contest).Pop. -/
theorem hPop {w0 : World} {p : Nat} {E : List (Int × Int)} {v : Value} {w : World} (h : HS w0 p E v w) (hne : 0 < E.length) (hsz : E.length ≤ 10000000) :
    Calls Try.prog 109 #[.pointer (some ⟨p, 0, none⟩)] w fun e w' =>
      e = .returned (.iface 67 (.agg #[.int .i64 (nthE E (E.length - 1)).1, .int .i64 (nthE E (E.length - 1)).2])) ∧ Below w0.heap.size w0 w' := by
  obtain ⟨g, cc, rfl, hg, _, hc, hm, _, hcell⟩ := h.own.open hne
  obtain ⟨q0, q1⟩ := hcell (E.length - 1) (by omega)
  have c0 := h.cell
  have f0 := h.free
  have hl : ((E.length - 1 : Nat) : Int) = (E.length : Int) - 1 := by omega
  clear hcell
  generalize hz : E.length - 1 = z at *
  generalize (nthE E z).1 = x0 at *
  generalize (nthE E z).2 = x1 at *
  have hlt := h.lt
  have H1 := h.alloc (.cells #[.int .i64 x0, .int .i64 x1] 67)
  have d0 := H1.cell
  have d1 := H1.free
  go_enter Try.func109, Try.ntmps109
  go_wp2_with fail
  go_ret
  exact ⟨rfl, (h.bel.setCell h.low _).alloc (by simpa using h.bel.size) _⟩

/-- Who is first behind a push. -/
def topE (E : List (Int × Int)) (x : Int × Int) : Int × Int := if E.length = 0 then x else minE x (nthE E 0)
theorem nthE_left {E : List (Int × Int)} {x : Int × Int} {i : Nat} (h : i < E.length) : nthE (E ++ [x]) i = nthE E i := by
  simp [nthE, List.getD_eq_getElem?_getD, List.getElem?_append_left h]
theorem nthE_last (E : List (Int × Int)) (x : Int × Int) : nthE (E ++ [x]) E.length = x := by
  simp [nthE, List.getD_eq_getElem?_getD]
theorem Least.push {E : List (Int × Int)} {x : Int × Int} {P : Int × Int → Prop} (L : Least P E) (hx : P x) : Upw (if E.length = 0 then (x.1 + 1, 0) else nthE E 0) x P (E ++ [x]) E.length := by
  refine ⟨by simp, nthE_last E x, fun i hi hne => ?_, fun e => ?_, fun e => ?_, fun i hi => ?_⟩
  · have hi' : i < E.length := by simp at hi; omega
    rw [nthE_left hi', if_neg (by omega)]
    exact L.least i hi'
  · rw [if_pos e, ltE_yes]; left; show x.1 < x.1 + 1; omega
  · rw [if_neg e, nthE_left (by omega)]
  · by_cases h : i = E.length
    · subst h; rw [nthE_last]; exact hx
    · have hi' : i < E.length := by simp at hi; omega
      rw [nthE_left hi']; exact L.all i hi'
theorem Least.top {E : List (Int × Int)} {x : Int × Int} : minE x (if E.length = 0 then (x.1 + 1, 0) else nthE E 0) = topE E x := by
  unfold topE
  split
  · rw [minE, if_pos]
    rw [ltE_yes]; left; show x.1 < x.1 + 1; omega
  · rfl

/-- container/heap.Push. -/
theorem heapPush {w0 : World} {p : Nat} {E : List (Int × Int)} {v : Value} {w : World} (h : HS w0 p E v w) (x0 x1 : Int) (P : Int × Int → Prop) (L : Least P E) (hx : P (x0, x1)) (hsz : E.length ≤ 2000000) :
    Calls Try.prog 47 #[.iface 62 (.pointer (some ⟨p, 0, none⟩)), .iface 67 (.agg #[.int .i64 x0, .int .i64 x1])] w fun e w' =>
      e = .returned (.tuple #[]) ∧ ∃ E' v', HS w0 p E' v' w' ∧ E'.length = E.length + 1 ∧ Least P E' ∧ nthE E' 0 = topE E (x0, x1) := by
  have U := L.push hx
  have ht := Lib.hid (Least.top (E := E) (x := (x0, x1)))
  generalize hm0 : (if E.length = 0 then ((x0, x1).1 + 1, 0) else nthE E 0) = m at U ht
  clear hm0 L hx
  have hmp := mPush p w
  go_enter Try.func47, Try.ntmps47
  go_wp2_with fail
  refine (hPush h x0 x1 (by omega)).mono ?_
  rintro e w2 ⟨rfl, v', h2⟩
  clear hmp h
  have hl : (E ++ [(x0, x1)]).length = E.length + 1 := by simp
  generalize E ++ [(x0, x1)] = F at *
  obtain ⟨a, cc, rfl, hm⟩ := h2.own.is
  have ml := mLen p a F.length cc w2 h2.cell
  have HL := Lib.hid hl
  have hsz2 : F.length ≤ 10000000 := by omega
  have he : (F.length : Int) - 1 = (E.length : Int) := by omega
  clear hl
  go_wp2_with fail
  refine (cLen a F.length cc w2 hm).mono ?_
  rintro e w3 ⟨rfl, rfl⟩
  clear ml
  go_wp2_with fail
  refine (heapUp h2 E.length m (x0, x1) P U hsz2).mono ?_
  rintro e w4 ⟨rfl, E', h4, hl4, L4, ht4⟩
  clear h2 U he
  go_wp2_with fail
  go_end0
  exact ⟨rfl, E', _, h4, hl4.trans HL.out, L4, ht4.trans ht.out⟩

set_option maxRecDepth 20000 in
/-- container/heap.Pop. -/
theorem heapPop {w0 : World} {p : Nat} {E : List (Int × Int)} {v : Value} {w : World} (h : HS w0 p E v w) (hne : 0 < E.length) (hsz : E.length ≤ 2000000) :
    Calls Try.prog 49 #[.iface 62 (.pointer (some ⟨p, 0, none⟩))] w fun e w' =>
      e = .returned (.iface 67 (.agg #[.int .i64 (nthE E 0).1, .int .i64 (nthE E 0).2])) ∧ Below w0.heap.size w0 w' := by
  obtain ⟨a, cc, rfl, hm⟩ := h.own.is
  have ml := mLen p a E.length cc w h.cell
  go_enter Try.func49, Try.ntmps49
  go_wp2_with fail
  refine (cLen a E.length cc w hm).mono ?_
  rintro e w3 ⟨rfl, rfl⟩
  clear ml
  have ms := mSwap p a E.length cc w3 h.cell
  go_wp2_with fail
  refine (hSwapI h _ _ 0 (E.length - 1) (by omega) (by omega) (by omega) (by omega)).mono ?_
  rintro e w4 ⟨rfl, h4⟩
  have hl4 := swapE_len E 0 (E.length - 1)
  have hz : nthE (swapE E 0 (E.length - 1)) (E.length - 1) = nthE E 0 := by rw [swapE_at hne (by omega), if_pos rfl]
  clear ms h
  generalize swapE E 0 (E.length - 1) = F at *
  have HL := Lib.hid hl4
  clear hl4
  go_wp2_with fail
  have hn : (E.length : Int) - 1 = ((E.length - 1 : Nat) : Int) := by omega
  rw [hn]
  refine (heapDown h4 (E.length - 1) (by have := HL.out; omega) (by have := HL.out; omega)).mono ?_
  rintro e w5 ⟨⟨b, rfl⟩, G, h5, hl5, hk5⟩
  have hz5 : nthE G (G.length - 1) = nthE E 0 := by rw [hl5, HL.out, hk5 _ (Nat.le_refl _)]; exact hz
  have hl6 : G.length = E.length := hl5.trans HL.out
  clear h4 hk5 hz hl5 HL hn
  have mp := mPop p w5
  have HZ := Lib.hid hz5
  clear hz5
  go_wp2_with fail
  refine (hPop h5 (by omega) (by omega)).mono ?_
  rintro e w6 ⟨rfl, b6⟩
  rw [HZ.out]
  clear h5 mp
  go_wp2_with fail
  go_ret
  exact ⟨rfl, b6⟩
end Go.Proofs.Ytcciabalbdnakab
