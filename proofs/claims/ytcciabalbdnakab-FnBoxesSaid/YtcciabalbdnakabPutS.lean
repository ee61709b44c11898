/- spec.l4CopyAll, spec.TakenOut: copies of frames, appended one by one to a row of the call's own. -/
import Derived.Test.YtcciabalbdnakabOwnS
import Derived.Test.YtcciabalbdnakabBox
import Derived.Test.YtcciabalbdnakabBoxOk
import Derived.Test.YtcciabalbdnakabFrCopy
set_option linter.unusedVariables false
set_option linter.unusedSimpArgs false
set_option maxRecDepth 20000
namespace Go.Proofs.Ytcciabalbdnakab
open Go.RowKit

/-- What a copy by appends leaves: a slice with an address. -/
def GotO (L : List Frm) (w : World) (e : Ending) (w' : World) : Prop :=
  ∃ (M : List (Frm × Value)) (g c : Nat), e = .returned (.slice (some ⟨g, 0, none⟩) L.length c) ∧ (M.map fun m => m.1) = L ∧ OwnF w.heap.size M (.slice (some ⟨g, 0, none⟩) L.length c) w' ∧ Below w.heap.size w w'
theorem own_made (w : World) {B : Nat} (hB : B ≤ w.heap.size) : OwnF B [] (.slice (some ⟨w.heap.size, 0, none⟩) 0 0) (w.alloc (.cells #[] 26)) :=
  ⟨World.ownsRow_made (base := B) (e := 26) (size := 4) w #[] 0 hB (Nat.zero_le _) rfl, fun m hm => by cases hm⟩
theorem map_snoc {M : List (Frm × Value)} {L : List Frm} {f : Frm} {v : Value} (h : (M.map fun m => m.1) = L) : ((M ++ [(f, v)]).map fun m => m.1) = L ++ [f] := by simp [h]
theorem takeF_snoc {L : List Frm} {k : Nat} (h : k < L.length) : L.take (k + 1) = L.take k ++ [nthF L k] := by
  rw [List.take_add_one, List.getElem?_eq_getElem h, nthF_eq h]; rfl

/-- spec.l4CopyAll. -/
theorem copyAllB (a : Option Addr) (L : List Frm) (c : Nat) (w : World) (hd : Frs a L w) (hL : L.length ≤ 1048576) (hs8 : ∀ j, j < L.length → (nthF L j).D.length ≤ 1048576) :
    Calls Try.prog 64 #[.slice a L.length c] w (GotO L w) := by
  go_enter Try.func64, Try.ntmps64
  have own0 := own_made w (Nat.le_refl _)
  go_wp2_with fail
  go_loopw [3, 4] (fun l i wr => ∃ (k : Nat) (M : List (Frm × Value)) (g c' : Nat), k ≤ L.length ∧ i = .int .i64 k ∧ l = .slice (some ⟨g, 0, none⟩) M.length c' ∧ (M.map fun m => m.1) = L.take k ∧ OwnF w.heap.size M (.slice (some ⟨g, 0, none⟩) M.length c') wr ∧ Below w.heap.size w wr) (fun _ i _ => L.length - (intOf i).toNat)
  case atStart => exact ⟨0, [], _, _, Nat.zero_le _, rfl, rfl, rfl, own0, (Below.refl _ _).alloc (Nat.le_refl _) _⟩
  case round =>
    clear own0
    obtain ⟨k, M, g, c', hk, rfl, rfl, hM, O, b⟩ := hrel
    have hml : M.length = k := by
      have := congrArg List.length hM
      simp at this; omega
    by_cases hlt : k < L.length
    · obtain ⟨g0, o, ad, cc, rfl, ⟨c0, c1, c2, c3⟩, hn⟩ := (hd.below b).2 k hlt
      have hs := hs8 k hlt
      have hsn := takeF_snoc hlt
      have hf0 : nthF L k = ⟨(nthF L k).id, (nthF L k).rm, (nthF L k).ln, (nthF L k).D⟩ := rfl
      generalize (nthF L k).id = id at *
      generalize (nthF L k).rm = rm at *
      generalize (nthF L k).ln = ln at *
      generalize (nthF L k).D = D at *
      rw [hf0] at hsn
      replace hsn := Lib.hid hsn
      replace hM := Lib.hid hM
      replace hml := Lib.hid hml
      clear hf0
      go_wp2_with fail
      refine (copyFrB id rm ln ad D cc wr hn hs).mono ?_
      rintro e w2 ⟨av, cv, rfl, oA, g2⟩
      replace oA := oA.mono b.size
      replace O := O.stay g2
      replace b := b.trans ((below_new g2).mono b.size)
      clear g2 hn c0 c1 c2 c3
      have O1 := O.stay (World.grownBy_alloc w2 (.cells #[.int .i64 id, .bool rm, .int .i64 ln, .slice av D.length cv] 26) none)
      have o1 := oA.stay (World.grownBy_alloc w2 (.cells #[.int .i64 id, .bool rm, .int .i64 ln, .slice av D.length cv] 26) none)
      have b1 := below_more b (.cells #[.int .i64 id, .bool rm, .int .i64 ln, .slice av D.length cv] 26)
      have hsz1 := b1.size
      have hmb : M.length ≤ 2000000 := by have := hml.out; omega
      clear O oA b
      go_wp2_with (at_builtin; refine wpList_appF rfl _ _ rfl w.heap.size M ⟨id, rm, ln, D⟩ (.slice av D.length cv) _ rfl O1 o1 w2.heap.size 1 rfl (World.cell?_alloc_at _ _ _ _ rfl) (World.cell?_alloc_at _ _ _ _ rfl) (World.cell?_alloc_at _ _ _ _ rfl) (World.cell?_alloc_at _ _ _ _ rfl) hmb hsz1 ?_)
      intro av2 cv2 w4 O4 g4
      have b4 := b1.grown g4 b1.size (fun q e => (O1.1.lt q e).1)
      clear O1 o1 b1 g4
      obtain ⟨gg, rfl, -, -, -, -⟩ := O4.form (by simp)
      go_wp2_with fail
      go_roundw
      case rel => exact ⟨k + 1, M ++ [(⟨id, rm, ln, D⟩, .slice av D.length cv)], gg, cv2, by omega, by go_num, by simp, by rw [hsn.out]; exact map_snoc hM.out, by rw [List.length_append]; exact O4, b4⟩
      case measure => simp [intOf]; omega
    · obtain rfl : k = L.length := by omega
      rw [List.take_length] at hM
      rw [hml] at O
      go_wp2_with fail
      go_ret
      exact ⟨M, g, c', by rw [hml] <;> rfl, hM, O, b⟩
theorem copyAll (a : Option Addr) (L : List Frm) (c : Nat) (w : World) (hd : Frs a L w) (hL : L.length ≤ 1000) (hs8 : ∀ j, j < L.length → (nthF L j).D.length ≤ 1000) :
    Calls Try.prog 64 #[.slice a L.length c] w (GotO L w) := copyAllB a L c w hd (by omega) fun j hj => by have := hs8 j hj; omega
/-- spec.TakenOut. -/
theorem specTakenOut (a : Option Addr) (L : List Frm) (c : Nat) (r : Int) (w : World) (hd : Frs a L w) :
    Calls Try.prog 35 #[.slice a L.length c, .int .i64 r] w (GotO (outV L r) w) := by
  go_enter Try.func35, Try.ntmps35
  have own0 := own_made w (Nat.le_refl _)
  have bw : Below w.heap.size w (w.alloc (.cells #[] 26)) := (Below.refl _ _).alloc (Nat.le_refl _) _
  have hd0 := hd
  go_upto_region 2 with fail
  replace hd := hd.below bw
  generalize w.alloc (.cells #[] 26) = W at *
  go_wp2_with fail
  refine (specBoxOk a L c W hd).mono ?_
  rintro e w1 ⟨he, b1⟩
  replace hd := hd.below b1
  replace own0 := own0.below b1
  replace bw := bw.trans (b1.mono bw.size)
  clear b1 W
  cases hb : boxB L with
  | false =>
    rw [hb] at he
    subst he
    have HV := Lib.hid (outV_bad r hb)
    clear hb
    go_wp2_with fail
    go_ret
    exact ⟨[], _, 0, by rw [HV.out] <;> rfl, by rw [HV.out] <;> rfl, by rw [HV.out]; exact own0, bw⟩
  | true =>
    rw [hb] at he
    subst he
    have HV := Lib.hid (outV_ok r hb)
    have hB := boxB_iff.1 hb
    have h8 : ∀ j, j < L.length → (nthF L j).D.length ≤ 8 := fun j hj => hB.2.short hj
    have h16 := hB.1
    replace h8 := Lib.hid h8
    clear hB hb
    go_wp2_with fail
    go_loopw [5, 6] (fun l i wr => ∃ (k : Nat) (M : List (Frm × Value)) (g c' : Nat), k ≤ L.length ∧ i = .int .i64 k ∧ l = .slice (some ⟨g, 0, none⟩) M.length c' ∧ (M.map fun m => m.1) = (L.take k).filter (notR r) ∧ OwnF w.heap.size M (.slice (some ⟨g, 0, none⟩) M.length c') wr ∧ Below w.heap.size w wr) (fun _ i _ => L.length - (intOf i).toNat)
    case atStart => exact ⟨0, [], _, _, Nat.zero_le _, rfl, rfl, rfl, own0, bw⟩
    case round =>
      clear hd
      clear own0
      obtain ⟨k, M, g, c', hk, rfl, rfl, hM, O, b⟩ := hrel
      have hml : M.length ≤ 16 := by
        have h1 := congrArg List.length hM
        have h2 := List.length_filter_le (notR r) (L.take k)
        simp at h1 h2; omega
      by_cases hlt : k < L.length
      · obtain ⟨g0, o, ad, cc, rfl, ⟨c0, c1, c2, c3⟩, hn⟩ := (hd0.below b).2 k hlt
        have hs := h8.out k hlt
        have hfs := filter_succ L r k hlt
        have hrk : rkF (nthF L k) = rankV (nthF L k).id (nthF L k).rm (nthF L k).ln (nthF L k).D := rfl
        have hf0 : nthF L k = ⟨(nthF L k).id, (nthF L k).rm, (nthF L k).ln, (nthF L k).D⟩ := rfl
        rw [hrk] at hfs
        clear hrk
        generalize (nthF L k).id = id at *
        generalize (nthF L k).rm = rm at *
        generalize (nthF L k).ln = ln at *
        generalize (nthF L k).D = D at *
        rw [hf0] at hfs
        generalize hq : rankV id rm ln D = q at *
        replace hq := Lib.hid hq
        replace hM := Lib.hid hM
        replace hfs := Lib.hid hfs
        have hfc : FrC g0 (o + k * 4) ad cc ⟨id, rm, ln, D⟩ wr := ⟨⟨c0, c1, c2, c3⟩, hn⟩
        clear hf0
        go_wp2_with fail
        refine (specRankOf id rm ln ad D cc wr hn).mono ?_
        rintro e w2 ⟨he, b2⟩
        rw [hq.out] at he
        subst he
        by_cases hqr : q = r
        · have hfs2 := hfs.out
          rw [if_neg (by simp [hqr]), List.append_nil] at hfs2
          replace hfs2 := Lib.hid hfs2
          have hqb : (q != r) = false := by simp [hqr]
          replace O := O.below b2
          replace b := b.trans (b2.mono b.size)
          clear hqr c0 c1 c2 c3 b2 hn
          go_wp2_with fail
          go_roundw
          case rel => exact ⟨k + 1, M, g, c', by omega, by go_num, rfl, by rw [hfs2.out]; exact hM.out, O, b⟩
          case measure => simp [intOf]; omega
        · have hfs2 := hfs.out
          rw [if_pos hqr] at hfs2
          replace hfs2 := Lib.hid hfs2
          have hqb : (q != r) = true := by simp [hqr]
          replace O := O.below b2
          replace b := b.trans (b2.mono b.size)
          replace hfc := hfc.below b2
          clear hqr c0 c1 c2 c3 b2 hn
          obtain ⟨⟨c0, c1, c2, c3⟩, hn⟩ := hfc
          simp only at c0 c1 c2 c3 hn
          go_wp2_with fail
          refine (copyFr id rm ln ad D cc w2 hn (by omega)).mono ?_
          rintro e w3 ⟨av, cv, rfl, oA, g2⟩
          replace oA := oA.mono b.size
          replace O := O.stay g2
          replace b := b.trans ((below_new g2).mono b.size)
          clear g2 hn c0 c1 c2 c3
          have O1 := O.stay (World.grownBy_alloc w3 (.cells #[.int .i64 id, .bool rm, .int .i64 ln, .slice av D.length cv] 26) none)
          have o1 := oA.stay (World.grownBy_alloc w3 (.cells #[.int .i64 id, .bool rm, .int .i64 ln, .slice av D.length cv] 26) none)
          have b1 := below_more b (.cells #[.int .i64 id, .bool rm, .int .i64 ln, .slice av D.length cv] 26)
          have hsz1 := b1.size
          have hmb : M.length ≤ 2000000 := by omega
          clear O oA b
          go_wp2_with (at_builtin; refine wpList_appF rfl _ _ rfl w.heap.size M ⟨id, rm, ln, D⟩ (.slice av D.length cv) _ rfl O1 o1 w3.heap.size 1 rfl (World.cell?_alloc_at _ _ _ _ rfl) (World.cell?_alloc_at _ _ _ _ rfl) (World.cell?_alloc_at _ _ _ _ rfl) (World.cell?_alloc_at _ _ _ _ rfl) hmb hsz1 ?_)
          intro av2 cv2 w4 O4 g4
          have b4 := b1.grown g4 b1.size (fun q e => (O1.1.lt q e).1)
          clear O1 o1 b1 g4
          obtain ⟨gg, rfl, -, -, -, -⟩ := O4.form (by simp)
          go_wp2_with fail
          go_roundw
          case rel => exact ⟨k + 1, M ++ [(⟨id, rm, ln, D⟩, .slice av D.length cv)], gg, cv2, by omega, by go_num, by simp, by rw [hfs2.out]; exact map_snoc hM.out, by rw [List.length_append]; exact O4, b4⟩
          case measure => simp [intOf]; omega
      · obtain rfl : k = L.length := by omega
        rw [List.take_length] at hM
        have hml2 : M.length = (L.filter (notR r)).length := by rw [← hM]; simp
        replace hml2 := Lib.hid hml2
        go_wp2_with fail
        go_ret
        exact ⟨M, g, c', by rw [HV.out, ← hml2.out] <;> rfl, by rw [HV.out]; exact hM, by rw [HV.out, ← hml2.out]; exact O, b⟩
end Go.Proofs.Ytcciabalbdnakab
