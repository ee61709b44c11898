/- A slice of frames in memory, and the exact laws' own functions over it: szFrameS, toFrameS, eqFrameS. -/
import Derived.Test.YtcciabalbdnakabRank
import Derived.Test.YtcciabalbdnakabLiftF
import Derived.Deep.RegionWith
import Derived.Deep.QuietTactic
import Derived.BigQuiet
import Derived.Deep.CutRange
import Derived.Deep.DeepCutAuto
set_option maxRecDepth 20000
namespace Go.Proofs.Ytcciabalbdnakab
open Go.RowKit

/-- What a frame says. -/
structure Frm where
  id : Int
  rm : Bool
  ln : Int
  D : List Int
def nthF (L : List Frm) (j : Nat) : Frm := L.getD j ⟨0, false, 0, []⟩
/-- From place o of block g on the frame f stands, its data at ad. -/
def FrC (g o : Nat) (ad : Option Addr) (c : Nat) (f : Frm) (w : World) : Prop :=
  (w.cell? ⟨g, o, none⟩ = some (.int .i64 f.id) ∧ w.cell? ⟨g, o + 1, none⟩ = some (.bool f.rm) ∧ w.cell? ⟨g, o + 2, none⟩ = some (.int .i64 f.ln) ∧ w.cell? ⟨g, o + 3, none⟩ = some (.slice ad f.D.length c)) ∧ Nums ad f.D w
theorem FrC.below {g o : Nat} {ad : Option Addr} {c : Nat} {f : Frm} {w w' : World} (h : FrC g o ad c f w) (b : Below w.heap.size w w') : FrC g o ad c f w' := by
  obtain ⟨⟨h0, h1, h2, h3⟩, hn⟩ := h
  have hg : g < w.heap.size := World.block_lt_of_cell? w _ h0
  exact ⟨⟨(b.cell hg).trans h0, (b.cell hg).trans h1, (b.cell hg).trans h2, (b.cell hg).trans h3⟩, hn.below b⟩
theorem FrC.drew {g o : Nat} {ad : Option Addr} {c : Nat} {f : Frm} {w : World} (h : FrC g o ad c f w) : FrC g o ad c f w.drew := h
/-- Element j of the slice at a is the frame f. -/
def FrAt (a : Option Addr) (j : Nat) (f : Frm) (w : World) : Prop := ∃ g o ad c, a = some ⟨g, o, none⟩ ∧ FrC g (o + j * 4) ad c f w
theorem FrAt.below {a : Option Addr} {j : Nat} {f : Frm} {w w' : World} (h : FrAt a j f w) (b : Below w.heap.size w w') : FrAt a j f w' := by
  obtain ⟨g, o, ad, c, ha, hc⟩ := h
  exact ⟨g, o, ad, c, ha, hc.below b⟩
/-- The slice at a holds the frames L. -/
def Frs (a : Option Addr) (L : List Frm) (w : World) : Prop := L.length ≤ maxLen ∧ ∀ j, j < L.length → FrAt a j (nthF L j) w
theorem Frs.below {a : Option Addr} {L : List Frm} {w w' : World} (h : Frs a L w) (b : Below w.heap.size w w') : Frs a L w' := ⟨h.1, fun j hj => (h.2 j hj).below b⟩
theorem Frs.alloc {a : Option Addr} {L : List Frm} {w : World} (h : Frs a L w) (o : Obj) : Frs a L (w.alloc o) := h.below ((Below.refl _ _).alloc (Nat.le_refl _) _)
theorem Frs.drew {a : Option Addr} {L : List Frm} {w : World} (h : Frs a L w) : Frs a L w.drew := h

/-- How many places the frames' data take up, of the first k. -/
def room (L : List Frm) (k : Nat) : Nat := ((L.take k).map fun f => f.D.length).sum
theorem room_zero (L : List Frm) : room L 0 = 0 := by simp [room]
theorem room_succ (L : List Frm) (k : Nat) (h : k < L.length) : room L (k + 1) = room L k + (nthF L k).D.length := by
  have e : L.take (k + 1) = L.take k ++ [nthF L k] := by
    rw [List.take_add_one, List.getElem?_eq_getElem h, nthF, List.getD_eq_getElem?_getD, List.getElem?_eq_getElem h]; rfl
  unfold room
  rw [e, List.map_append, List.sum_append]
  simp
theorem room_le (L : List Frm) {j k : Nat} (h : j ≤ k) : room L j ≤ room L k := by
  induction k with
  | zero => rw [Nat.le_zero.1 h]; exact Nat.le_refl _
  | succ k ih =>
    by_cases e : j = k + 1
    · rw [e]; exact Nat.le_refl _
    · refine Nat.le_trans (ih (by omega)) ?_
      by_cases hk : k < L.length
      · rw [room_succ L k hk]; omega
      · simp [room, List.take_of_length_le (Nat.le_of_not_lt hk), List.take_of_length_le (Nat.le_succ_of_le (Nat.le_of_not_lt hk))]

/-- laws.szFrameS of frames that are small enough. -/
theorem szFramesOk (a : Option Addr) (L : List Frm) (c : Nat) (w : World) (hd : Frs a L w) (h : L.length + room L L.length ≤ 1048576) :
    Calls Try.prog 24 #[.slice a L.length c, .int .i64 1048576] w fun e w' => ∃ n : Int, 0 ≤ n ∧ e = .returned (.int .i64 n) ∧ Below w.heap.size w w' := by
  go_enter Try.func24, Try.ntmps24
  go_wp2_with fail
  go_loopw [1, 5] (fun l i wr => ∃ k : Nat, k ≤ L.length ∧ i = .int .i64 k ∧ l = .int .i64 (1048576 - (L.length : Int) - room L k) ∧ Below w.heap.size w wr) (fun _ i _ => L.length - (intOf i).toNat)
  case atStart => exact ⟨0, Nat.zero_le _, rfl, by rw [room_zero]; simp, Below.refl _ _⟩
  case round =>
    obtain ⟨k, hk, rfl, rfl, b⟩ := hrel
    by_cases hlt : k < L.length
    · obtain ⟨g, o, ad, cc, rfl, ⟨c0, c1, c2, c3⟩, hn⟩ := (hd.below b).2 k hlt
      have hs := room_succ L k hlt
      have hl := room_le L (show k + 1 ≤ L.length by omega)
      generalize nthF L k = f at *
      go_wp2_with fail
      refine (szFrameOk _ _ _ _ _ _ _ _ (by omega) (by omega)).mono ?_
      rintro e w2 ⟨rfl, b2⟩
      replace b := Below.then2 b b2
      clear b2 hn c0 c1 c2 c3
      go_wp2_with fail
      go_roundw
      case rel => exact ⟨k + 1, by omega, by go_num, by congr 1; omega, b⟩
      case measure => simp [intOf]; omega
    · obtain rfl : k = L.length := by omega
      go_wp2_with fail
      go_ret
      exact ⟨_, by omega, rfl, b⟩
/-- laws.szFrameS of frames that are not. -/
theorem szFramesBig (a : Option Addr) (L : List Frm) (c : Nat) (w : World) (hd : Frs a L w) (h : 1048576 < L.length + room L L.length) :
    Calls Try.prog 24 #[.slice a L.length c, .int .i64 1048576] w fun e w' => e = .returned (.int .i64 (-1)) ∧ Below w.heap.size w w' := by
  have hm := hd.1
  unfold maxLen at hm
  go_enter Try.func24, Try.ntmps24
  by_cases h0 : 1048576 < L.length
  · go_wp2_with fail
    go_ret
    exact ⟨rfl, Below.refl _ _⟩
  go_wp2_with fail
  go_loopw [1, 5] (fun l i wr => ∃ k : Nat, k ≤ L.length ∧ L.length + room L k ≤ 1048576 ∧ i = .int .i64 k ∧ l = .int .i64 (1048576 - (L.length : Int) - room L k) ∧ Below w.heap.size w wr) (fun _ i _ => L.length - (intOf i).toNat)
  case atStart => exact ⟨0, Nat.zero_le _, by rw [room_zero]; omega, rfl, by rw [room_zero]; simp, Below.refl _ _⟩
  case round =>
    obtain ⟨k, hk, hr, rfl, rfl, b⟩ := hrel
    by_cases hlt : k < L.length
    · obtain ⟨g, o, ad, cc, rfl, ⟨c0, c1, c2, c3⟩, hn⟩ := (hd.below b).2 k hlt
      have hs := room_succ L k hlt
      have hl := room_le L (show k + 1 ≤ L.length by omega)
      generalize nthF L k = f at *
      by_cases hov : L.length + room L (k + 1) ≤ 1048576
      · go_wp2_with fail
        refine (szFrameOk _ _ _ _ _ _ _ _ (by omega) (by omega)).mono ?_
        rintro e w2 ⟨rfl, b2⟩
        replace b := Below.then2 b b2
        clear b2 hn c0 c1 c2 c3
        go_wp2_with fail
        go_roundw
        case rel => exact ⟨k + 1, by omega, hov, by go_num, by congr 1; omega, b⟩
        case measure => simp [intOf]; omega
      · have hn1 := hn.1
        go_wp2_with fail
        refine (szFrameOver _ _ _ _ _ _ _ _ hn1 (by omega) (by omega) (by omega)).mono ?_
        rintro e w2 ⟨rfl, b2⟩
        replace b := Below.then2 b b2
        clear b2 hn c0 c1 c2 c3
        go_wp2_with fail
        go_ret
        exact ⟨rfl, b⟩
    · exfalso
      obtain rfl : k = L.length := by omega
      omega

/-- laws.eqFrameS, of two lists that hold the same. -/
theorem eqFrames (a b : Option Addr) (L : List Frm) (c c' : Nat) (w : World) (ha : Frs a L w) (hb : Frs b L w) :
    Calls Try.prog 26 #[.slice a L.length c, .slice b L.length c'] w fun e w' => e = .returned (.bool true) ∧ Below w.heap.size w w' := by
  have hm := ha.1
  unfold maxLen at hm
  go_enter Try.func26, Try.ntmps26
  go_wp2_with fail
  go_loopw [5] (fun i wr => ∃ k : Nat, k ≤ L.length ∧ i = .int .i64 k ∧ Below w.heap.size w wr) (fun i _ => L.length - (intOf i).toNat)
  case atStart => exact ⟨0, Nat.zero_le _, rfl, Below.refl _ _⟩
  case round =>
    obtain ⟨k, hk, rfl, bw⟩ := hrel
    by_cases hlt : k < L.length
    · obtain ⟨g, o, ad, ca, rfl, fa⟩ := (ha.below bw).2 k hlt
      obtain ⟨g', o', ad', cb, rfl, fb⟩ := (hb.below bw).2 k hlt
      generalize nthF L k = f at *
      obtain ⟨id, rm, ln, D⟩ := f
      go_upto_region 6 with fail
      refine region_class (fun u => FrC g (o + k * 4) ad ca ⟨id, rm, ln, D⟩ u ∧ FrC g' (o' + k * 4) ad' cb ⟨id, rm, ln, D⟩ u ∧ Below w.heap.size w u) (by kernel_rfl) (by kernel_rfl) ⟨fa.drew, fb.drew, bw.drew⟩ ?_
      clear fa fb bw
      repeat first
        | go_big_quiet_skip
        | (go_big_quiet_want
           apply Exists.intro
           refine ⟨fun u hu => ?_, ?_⟩
           · apply quietAt_val
             obtain ⟨⟨⟨a0, a1, a2, a3⟩, _⟩, ⟨⟨b0, b1, b2, b3⟩, _⟩, _⟩ := hu
             go_simp
             rfl
           simp only [Act.put, List.setIfInBounds_toArray, List.set_cons_zero, List.set_cons_succ]
           go_big_quiet_on)
        | (go_big_quiet_want
           apply Exists.intro
           refine ⟨fun u hu => ?_, ?_⟩
           · apply quietAt_enter 23 #[frV id rm ln ad D.length ca, frV id rm ln ad' D.length cb]
             · go_simp
             · refine (eqFr id rm ln ad ad' D ca cb u hu.1.2 hu.2.1.2).mono ?_
               rintro e w2 ⟨rfl, b2⟩
               exact ⟨rfl, hu.1.below b2, hu.2.1.below b2, Below.then2 hu.2.2 b2⟩
           simp only [Act.put, List.setIfInBounds_toArray, List.set_cons_zero, List.set_cons_succ]
           go_big_quiet_on)
      refine wpQuiet_nil ?_
      intro W2 L2
      have bw := L2.2.2
      clear L2
      go_wp2_with fail
      go_roundw
      case rel => exact ⟨k + 1, by omega, by go_num, bw⟩
      case measure => simp [intOf]; omega
    · go_wp2_with fail
      go_ret
      exact ⟨rfl, bw⟩
end Go.Proofs.Ytcciabalbdnakab
