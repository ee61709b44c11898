/- spec.l4CopyAll, spec.TakenOut: copies of frames, appended one by one to a row of the call's own. -/
import Derived.Test.YtadnnbinmghabaaOwnS
import Derived.Test.YtadnnbinmghabaaBox
import Derived.Test.YtadnnbinmghabaaBoxOk
import Derived.Test.YtadnnbinmghabaaFrCopy
set_option linter.unusedVariables false
set_option linter.unusedSimpArgs false
set_option maxRecDepth 20000
namespace Go.Proofs.Ytadnnbinmghabaa
open Go.RowKit

/-- What a copy by appends leaves: a slice with an address. -/
def GotO (L : List Frm) (w : World) (e : Ending) (w' : World) : Prop :=
  ∃ (M : List (Frm × Value)) (g c : Nat), e = .returned (.slice (some ⟨g, 0, none⟩) L.length c) ∧ (M.map fun m => m.1) = L ∧ OwnF w.heap.size M (.slice (some ⟨g, 0, none⟩) L.length c) w' ∧ Below w.heap.size w w'
theorem own_made (w : World) {B : Nat} (hB : B ≤ w.heap.size) : OwnF B [] (.slice (some ⟨w.heap.size, 0, none⟩) 0 0) (w.alloc (.cells #[] 34)) :=
  ⟨World.ownsRow_made (base := B) (e := 34) (size := 4) w #[] 0 hB (Nat.zero_le _) rfl, fun m hm => by cases hm⟩
theorem map_snoc {M : List (Frm × Value)} {L : List Frm} {f : Frm} {v : Value} (h : (M.map fun m => m.1) = L) : ((M ++ [(f, v)]).map fun m => m.1) = L ++ [f] := by simp [h]
theorem takeF_snoc {L : List Frm} {k : Nat} (h : k < L.length) : L.take (k + 1) = L.take k ++ [nthF L k] := by
  rw [List.take_add_one, List.getElem?_eq_getElem h, nthF_eq h]; rfl

/-- spec.l4CopyAll. -/
theorem copyAllB (a : Option Addr) (L : List Frm) (c : Nat) (w : World) (hd : Frs a L w) (hL : L.length ≤ 1048576) (hs8 : ∀ j, j < L.length → (nthF L j).D.length ≤ 1048576) :
    Calls Try.prog 37 #[.slice a L.length c] w (GotO L w) := by
  go_enter Try.func37, Try.ntmps37
  have own0 := own_made w (Nat.le_refl _)
  go_wp2_with fail
  go_loopw [3, 4] (fun l i wr => ∃ (k : Nat) (M : List (Frm × Value)) (g c' : Nat), k ≤ L.length ∧ i = .int .i64 k ∧ l = .slice (some ⟨g, 0, none⟩) M.length c' ∧ (M.map fun m => m.1) = L.take k ∧ OwnF w.heap.size M (.slice (some ⟨g, 0, none⟩) M.length c') wr ∧ Below w.heap.size w wr) (fun _ i _ => L.length - (intOf i).toNat)
  case atStart => exact ⟨0, [], _, _, Nat.zero_le _, rfl, rfl, rfl, own0, (Below.refl _ _).alloc (Nat.le_refl _) _⟩
  case round =>
    clear own0
    obtain ⟨k, M, g, c', hk, rfl, rfl, hM, O, b⟩ := hrel
    have hml : M.length = k := by
      have := congrArg List.length hM
      simp at this; omega
    by_cases hlt : k < L.length
    · obtain ⟨g0, o, ad, cc, rfl, ⟨c0, c1, c2, c3⟩, hn⟩ := (hd.below b).2 k hlt
      have hs := hs8 k hlt
      have hsn := takeF_snoc hlt
      have hf0 : nthF L k = ⟨(nthF L k).id, (nthF L k).rm, (nthF L k).ln, (nthF L k).D⟩ := rfl
      generalize (nthF L k).id = id at *
      generalize (nthF L k).rm = rm at *
      generalize (nthF L k).ln = ln at *
      generalize (nthF L k).D = D at *
      rw [hf0] at hsn
      replace hsn := Lib.hid hsn
      replace hM := Lib.hid hM
      replace hml := Lib.hid hml
      clear hf0
      go_wp2_with fail
      refine (copyFrB id rm ln ad D cc wr hn hs).mono ?_
      rintro e w2 ⟨av, cv, rfl, oA, g2⟩
      replace oA := oA.mono b.size
      replace O := O.stay g2
      replace b := b.trans ((below_new g2).mono b.size)
      clear g2 hn c0 c1 c2 c3
      have O1 := O.stay (World.grownBy_alloc w2 (.cells #[.int .i64 id, .bool rm, .int .i64 ln, .slice av D.length cv] 34) none)
      have o1 := oA.stay (World.grownBy_alloc w2 (.cells #[.int .i64 id, .bool rm, .int .i64 ln, .slice av D.length cv] 34) none)
      have b1 := below_more b (.cells #[.int .i64 id, .bool rm, .int .i64 ln, .slice av D.length cv] 34)
      have hsz1 := b1.size
      have hmb : M.length ≤ 2000000 := by have := hml.out; omega
      clear O oA b
      go_wp2_with (at_builtin; refine wpList_appF rfl _ _ rfl w.heap.size M ⟨id, rm, ln, D⟩ (.slice av D.length cv) _ rfl O1 o1 w2.heap.size 1 rfl (World.cell?_alloc_at _ _ _ _ rfl) (World.cell?_alloc_at _ _ _ _ rfl) (World.cell?_alloc_at _ _ _ _ rfl) (World.cell?_alloc_at _ _ _ _ rfl) hmb hsz1 ?_)
      intro av2 cv2 w4 O4 g4
      have b4 := b1.grown g4 b1.size (fun q e => (O1.1.lt q e).1)
      clear O1 o1 b1 g4
      obtain ⟨gg, rfl, -, -, -, -⟩ := O4.form (by simp)
      go_wp2_with fail
      go_roundw
      case rel => exact ⟨k + 1, M ++ [(⟨id, rm, ln, D⟩, .slice av D.length cv)], gg, cv2, by omega, by go_num, by simp, by rw [hsn.out]; exact map_snoc hM.out, by rw [List.length_append]; exact O4, b4⟩
      case measure => simp [intOf]; omega
    · obtain rfl : k = L.length := by omega
      rw [List.take_length] at hM
      rw [hml] at O
      go_wp2_with fail
      go_ret
      exact ⟨M, g, c', by rw [hml] <;> rfl, hM, O, b⟩
theorem copyAll (a : Option Addr) (L : List Frm) (c : Nat) (w : World) (hd : Frs a L w) (hL : L.length ≤ 1000) (hs8 : ∀ j, j < L.length → (nthF L j).D.length ≤ 1000) :
    Calls Try.prog 37 #[.slice a L.length c] w (GotO L w) := copyAllB a L c w hd (by omega) fun j hj => by have := hs8 j hj; omega
end Go.Proofs.Ytadnnbinmghabaa
