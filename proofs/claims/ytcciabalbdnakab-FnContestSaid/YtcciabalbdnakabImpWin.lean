/- impl.WinnerOf: through the heap of ranks and places the first one of the least rank. -/
import Derived.Test.YtcciabalbdnakabHeapD
set_option linter.unusedVariables false
namespace Go.Proofs.Ytcciabalbdnakab
open Go.RowKit

/-- What the heap tells behind the first k frames. -/
structure Told (L : List Frm) (k : Nat) (E : List (Int × Int)) : Prop where
  len : E.length ≤ k
  least : Least (fun e => e.2 < (k : Int)) E
  no : winN L k = none → E.length = 0
  yes : ∀ b, winN L k = some b → E.length ≠ 0 ∧ nthE E 0 = (rkF (nthF L b), (b : Int))
theorem Told.zero (L : List Frm) : Told L 0 [] := ⟨Nat.le_refl _, ⟨fun i hi => by simp at hi, fun i hi => by simp at hi⟩, fun _ => rfl, fun b h => by simp [winN] at h⟩
section
variable {L : List Frm} {k : Nat} {E E' : List (Int × Int)}
theorem Told.up (h : Least (fun e => e.2 < (k : Int)) E) : Least (fun e => e.2 < ((k + 1 : Nat) : Int)) E := ⟨h.least, fun i hi => by have := h.all i hi; omega⟩
theorem Told.low (h : Told L k E) (r : rkF (nthF L k) < 0) : Told L (k + 1) E := by
  have e := winN_low r
  exact ⟨by have := h.len; omega, Told.up h.least, fun n => h.no (by rw [← e]; exact n), fun b n => h.yes b (by rw [← e]; exact n)⟩
theorem Told.push (h : Told L k E) (r : 0 ≤ rkF (nthF L k)) (hl : E'.length = E.length + 1) (hm : Least (fun e => e.2 < ((k + 1 : Nat) : Int)) E') (ht : nthE E' 0 = topE E (rkF (nthF L k), (k : Int))) : Told L (k + 1) E' := by
  refine ⟨by have := h.len; omega, hm, fun n => ?_, fun b n => ?_⟩
  · exfalso
    cases hw : winN L k with
    | none => rw [winN_none hw r] at n; cases n
    | some b =>
      by_cases q : rkF (nthF L k) < rkF (nthF L b)
      · rw [winN_less hw r q] at n; cases n
      · rw [winN_more hw q] at n; cases n
  · refine ⟨by omega, ?_⟩
    rw [ht]
    cases hw : winN L k with
    | none =>
      rw [winN_none hw r] at n; cases n
      rw [topE, if_pos (h.no hw)]
    | some b0 =>
      obtain ⟨hne, h0⟩ := h.yes b0 hw
      have hb := (winN_lt hw).1
      rw [topE, if_neg hne, h0, minE]
      by_cases q : rkF (nthF L k) < rkF (nthF L b0)
      · rw [winN_less hw r q] at n; cases n
        rw [if_pos (by rw [ltE_yes]; left; exact q)]
      · rw [winN_more hw q] at n; cases n
        rw [if_neg]
        rw [ltE_yes]; simp only; omega
end

set_option maxRecDepth 20000 in
/-- impl.WinnerOf. -/
theorem implWinnerOf (a : Option Addr) (L : List Frm) (c : Nat) (w : World) (hd : Frs a L w) (hsz : L.length ≤ 1048576) :
    Calls Try.prog 18 #[.slice a L.length c] w fun e w' => e = .returned (.int .i64 (winI (winN L L.length))) ∧ Below w.heap.size w w' := by
  go_enter Try.func18, Try.ntmps18
  have H : HS w (w.heap.size + 1) [] (.slice (some ⟨w.heap.size, 0, none⟩) 0 0) ((w.alloc (.cells #[] 67)).alloc (.cells #[.slice (some ⟨w.heap.size, 0, none⟩) 0 0] 64)) := by
    have o := World.ownsRow_made (base := w.heap.size) (e := 67) (size := 2) w #[] 0 (Nat.le_refl _) (Nat.zero_le _) rfl
    refine ⟨?_, World.ownsRow.kept (row := none) o (World.grownBy_alloc _ _ _) (.inr (by simp [Value.ownBlock])), ((Below.refl _ _).alloc (Nat.le_refl _) _).alloc (by simp) _, by omega⟩
    have := heap_alloc_new (w.alloc (.cells #[] 67)) (.cells #[.slice (some ⟨w.heap.size, 0, none⟩) 0 0] 64)
    simpa using this
  go_wp2_with fail
  generalize (w.alloc (.cells #[] 67)).alloc (.cells #[.slice (some ⟨w.heap.size, 0, none⟩) 0 0] 64) = w1 at H ⊢
  go_loopw [10] (fun i wr => ∃ (k : Nat) (E : List (Int × Int)) (v : Value), k ≤ L.length ∧ i = .int .i64 k ∧ HS w (w.heap.size + 1) E v wr ∧ Told L k E) (fun i _ => L.length - (intOf i).toNat)
  case atStart => exact ⟨0, [], _, Nat.zero_le _, rfl, H, Told.zero L⟩
  case round =>
    clear H
    obtain ⟨k, E, v, hk, rfl, H, T⟩ := hrel
    by_cases hlt : k < L.length
    · obtain ⟨g, o, ad, cc, rfl, fa⟩ := (hd.below H.bel).2 k hlt
      obtain ⟨⟨a0, a1, a2, a3⟩, hn⟩ := id fa
      have hlE := T.len
      have T1 := Lib.hid T
      have hrk := Lib.hid (show rkF (nthF L k) = rankV (nthF L k).id (nthF L k).rm (nthF L k).ln (nthF L k).D from rfl)
      clear T fa
      generalize (nthF L k).id = id at *
      generalize (nthF L k).rm = rm at *
      generalize (nthF L k).ln = ln at *
      generalize (nthF L k).D = D at *
      go_upto_region 5 with fail
      have f4 := Four.made (.int .i64 id) (.bool rm) (.int .i64 ln) (.slice ad D.length cc) 26 (Below.refl wr.heap.size wr)
      replace H := H.alloc (.cells #[.int .i64 id, .bool rm, .int .i64 ln, .slice ad D.length cc] 26)
      replace hn := hn.alloc (.cells #[.int .i64 id, .bool rm, .int .i64 ln, .slice ad D.length cc] 26)
      generalize wr.alloc (.cells #[.int .i64 id, .bool rm, .int .i64 ln, .slice ad D.length cc] 26) = w2 at *
      generalize wr.heap.size = q at *
      clear a0 a1 a2 a3
      have f4c := f4
      obtain ⟨⟨c0, c1, c2, c3⟩, _⟩ := f4c
      go_wp2_with fail
      refine (implFrameOk _ _ _ _ _ _ _ hn).mono ?_
      rintro e w3 ⟨rfl, b3⟩
      replace H := H.below b3
      replace hn := hn.below b3
      replace f4 := f4.below b3
      clear b3 c0 c1 c2 c3
      cases hok : frOk id rm ln D with
      | false =>
        have T2 := Lib.hid (T1.out.low (by rw [hrk.out]; exact rankV_neg.2 hok))
        clear hok f4 hn
        go_wp2_with fail
        go_roundw
        case rel => exact ⟨k + 1, E, v, by omega, by go_num, H, T2.out⟩
        case measure => simp [intOf]; omega
      | true =>
        have hr : 0 ≤ rkF (nthF L k) := by
          rw [hrk.out]
          exact Int.not_lt.1 fun h => by rw [rankV_neg.1 h] at hok; cases hok
        have HR := Lib.hid hr
        clear hok hr
        have f4c := f4
        obtain ⟨⟨c0, c1, c2, c3⟩, _⟩ := f4c
        go_wp2_with fail
        refine (implRankOf _ _ _ _ _ _ _ hn).mono ?_
        rintro e w4 ⟨rfl, b4⟩
        replace H := H.below b4
        clear b4 c0 c1 c2 c3 f4 hn
        rw [← hrk.out]
        have L1 := Lib.hid (Told.up T1.out.least)
        generalize hR : rkF (nthF L k) = r at *
        go_wp2_with fail
        refine (heapPush H r k (fun e => e.2 < ((k + 1 : Nat) : Int)) L1.out (by simp only; omega) (by omega)).mono ?_
        rintro e w5 ⟨rfl, E', v', H5, hl5, L5, ht5⟩
        have T2 := Lib.hid (T1.out.push (by rw [hR]; exact HR.out) hl5 L5 (by rw [hR]; exact ht5))
        clear H L5 ht5 hl5
        go_wp2_with fail
        go_roundw
        case rel => exact ⟨k + 1, E', v', by omega, by go_num, H5, T2.out⟩
        case measure => simp [intOf]; omega
    · obtain rfl : k = L.length := by omega
      have hlE := T.len
      obtain ⟨av, cv, rfl, hm⟩ := H.own.is
      have c0 := H.cell
      cases hw : winN L L.length with
      | none =>
        have h0 := T.no hw
        have HW := Lib.hid hw
        clear T hw
        have e0 : E = [] := List.length_eq_zero_iff.1 h0
        subst e0
        go_wp2_with fail
        refine (cLen av 0 cv wr (Nat.zero_le _)).mono ?_
        rintro e w3 ⟨rfl, rfl⟩
        go_wp2_with fail
        go_ret
        exact ⟨by rw [HW.out]; rfl, H.bel⟩
      | some b =>
        obtain ⟨h0, h1⟩ := T.yes b hw
        have HW := Lib.hid hw
        clear T hw
        have hpos : 0 < E.length := by omega
        have hz : ((E.length : Int) == 0) = false := by rw [beq_eq_false_iff_ne]; omega
        go_wp2_with fail
        refine (cLen av E.length cv wr hm).mono ?_
        rintro e w3 ⟨rfl, rfl⟩
        go_wp2_with fail
        refine (heapPop H hpos (by omega)).mono ?_
        rintro e w4 ⟨rfl, b4⟩
        rw [h1]
        clear H c0 h1
        have ta : ∀ W, (Instr.typeAssert (.iface 67 (.agg #[.int .i64 (rkF (nthF L b)), .int .i64 (b : Int)])) 20 67 false).run Try.prog W = .ok (.agg #[.int .i64 (rkF (nthF L b)), .int .i64 (b : Int)]) W := fun W => by kernel_rfl
        have tf : ∀ W, (Instr.field 67 (.agg #[.int .i64 (rkF (nthF L b)), .int .i64 (b : Int)]) 1).run Try.prog W = .ok (.int .i64 (b : Int)) W := fun W => by kernel_rfl
        go_wp2_with fail
        go_ret
        exact ⟨by rw [HW.out]; rfl, b4⟩
end Go.Proofs.Ytcciabalbdnakab
