/- Slices of lists of frames; the exact laws' own functions over them: szFrameSS, eqFrameSS, toFrameSS, markFrameSS, heldFrameSS. -/
import Derived.Test.YtnhmecabppaboaaGreatM10
import Derived.Test.YtnhmecabppaboaaGreatM15
import Derived.Test.YtnhmecabppaboaaGreatM17
import Derived.Test.YtnhmecabppaboaaGreatM1
import Derived.Test.YtnhmecabppaboaaGreatM18
import Derived.Test.YtnhmecabppaboaaGreatM3
import Derived.Test.YtnhmecabppaboaaGreatM2
import Derived.Test.YtnhmecabppaboaaGreatM16
import Derived.Test.YtnhmecabppaboaaGreatM14

set_option linter.unusedVariables false
set_option linter.unusedSimpArgs false
set_option maxRecDepth 20000
namespace Go.Proofs.YtnhmecabppaboaaGreat
open Go.RowKit

/-- The slice is nil without room, or it has an address and room enough. -/
def Adr (a : Option Addr) (n c : Nat) : Prop := n ≤ c ∧ Addressed a c
/-- Element j of the slice at a is the list L. -/
def BxAt (R : Option Addr → Nat → Nat → Prop) (a : Option Addr) (j : Nat) (L : List Frm) (w : World) : Prop := ∃ g o al cl, a = some ⟨g, o, none⟩ ∧ w.cell? ⟨g, o + j, none⟩ = some (.slice al L.length cl) ∧ Frs al L w ∧ R al L.length cl
theorem BxAt.below {R : Option Addr → Nat → Nat → Prop} {a : Option Addr} {j : Nat} {L : List Frm} {w w' : World} (h : BxAt R a j L w) (b : Below w.heap.size w w') : BxAt R a j L w' := by
  obtain ⟨g, o, al, cl, ha, hc, hf, hn⟩ := h
  exact ⟨g, o, al, cl, ha, (b.cell (World.block_lt_of_cell? w _ hc)).trans hc, hf.below b, hn⟩
/-- The slice at a holds the lists X. -/
def Bxs (R : Option Addr → Nat → Nat → Prop) (a : Option Addr) (X : List (List Frm)) (w : World) : Prop := X.length ≤ maxLen ∧ ∀ j, j < X.length → BxAt R a j (nthB X j) w
section
variable {R : Option Addr → Nat → Nat → Prop} {a : Option Addr} {X : List (List Frm)} {w w' : World}
theorem Bxs.below (h : Bxs R a X w) (b : Below w.heap.size w w') : Bxs R a X w' := ⟨h.1, fun j hj => (h.2 j hj).below b⟩
theorem Bxs.alloc (h : Bxs R a X w) (o : Obj) : Bxs R a X (w.alloc o) := h.below ((Below.refl _ _).alloc (Nat.le_refl _) _)
theorem Bxs.drew (h : Bxs R a X w) : Bxs R a X w.drew := h.below (Below.refl _ _).drew
theorem Bxs.any (h : Bxs R a X w) : Bxs (fun _ _ _ => True) a X w := ⟨h.1, fun j hj => by obtain ⟨g, o, al, cl, h1, h2, h3, _⟩ := h.2 j hj; exact ⟨g, o, al, cl, h1, h2, h3, trivial⟩⟩
theorem Bxs.nil (R : Option Addr → Nat → Nat → Prop) (w : World) : Bxs R a [] w := ⟨Nat.zero_le _, fun j hj => absurd hj (Nat.not_lt_zero _)⟩
end
/-- How much the first k lists take up. -/
def sumX (X : List (List Frm)) (k : Nat) : Nat := ((X.take k).map fun L => L.length + room L L.length).sum
theorem sumX_zero (X : List (List Frm)) : sumX X 0 = 0 := by simp [sumX]
theorem sumX_succ (X : List (List Frm)) (k : Nat) (h : k < X.length) : sumX X (k + 1) = sumX X k + ((nthB X k).length + room (nthB X k) (nthB X k).length) := by
  have e : X.take (k + 1) = X.take k ++ [nthB X k] := by
    rw [List.take_add_one, List.getElem?_eq_getElem h, nthB, List.getD_eq_getElem?_getD, List.getElem?_eq_getElem h]; rfl
  unfold sumX
  rw [e, List.map_append, List.sum_append]
  simp
theorem sumX_le (X : List (List Frm)) {j k : Nat} (h : j ≤ k) : sumX X j ≤ sumX X k := by
  induction k with
  | zero => rw [Nat.le_zero.1 h]; exact Nat.le_refl _
  | succ k ih =>
    by_cases e : j = k + 1
    · rw [e]; exact Nat.le_refl _
    · refine Nat.le_trans (ih (by omega)) ?_
      by_cases hk : k < X.length
      · rw [sumX_succ X k hk]; omega
      · simp [sumX, List.take_of_length_le (Nat.le_of_not_lt hk), List.take_of_length_le (Nat.le_succ_of_le (Nat.le_of_not_lt hk))]
theorem sumX_at (X : List (List Frm)) {j : Nat} (h : j < X.length) : (nthB X j).length + room (nthB X j) (nthB X j).length ≤ sumX X X.length := by
  have h1 := sumX_succ X j h
  have h2 := sumX_le X (show j + 1 ≤ X.length by omega)
  omega
def roomX (X : List (List Frm)) : Nat := X.length + sumX X X.length

set_option maxHeartbeats 4000000 in
/-- laws.szFrameSS. -/
theorem szBxAny (R : Option Addr → Nat → Nat → Prop) (a : Option Addr) (X : List (List Frm)) (c : Nat) (left : Int) (w : World) (hd : Bxs R a X w) (hl0 : 0 ≤ left) (hl1 : left ≤ 1048576) :
    Calls Tryz.prog 55 #[.slice a X.length c, .int .i64 left] w fun e w' => SzR left (roomX X) e ∧ Below w.heap.size w w' := by
  have hm := hd.1
  unfold maxLen at hm
  unfold roomX
  go_enter Tryz.func55, Tryz.ntmps55
  by_cases h0 : left < X.length
  · have HR : Hid (SzR left (X.length + sumX X X.length) (.returned (.int .i64 (-1)))) := Lib.hid (.inr ⟨by omega, rfl⟩)
    go_wp2_with fail
    go_ret
    exact ⟨HR.out, Below.refl _ _⟩
  go_wp2_with fail
  go_loopw [1, 5] (fun l i wr => ∃ k : Nat, k ≤ X.length ∧ (X.length : Int) + sumX X k ≤ left ∧ i = .int .i64 k ∧ l = .int .i64 (left - (X.length : Int) - sumX X k) ∧ Below w.heap.size w wr) (fun _ i _ => X.length - (intOf i).toNat)
  case atStart => exact ⟨0, Nat.zero_le _, by rw [sumX_zero]; omega, rfl, by rw [sumX_zero]; simp, Below.refl _ _⟩
  case round =>
    obtain ⟨k, hk, hr, rfl, rfl, b⟩ := hrel
    by_cases hlt : k < X.length
    · obtain ⟨g, o, al, cl, rfl, hc, hf, -⟩ := (hd.below b).2 k hlt
      have hs := sumX_succ X k hlt
      have hl := sumX_le X (show k + 1 ≤ X.length by omega)
      generalize nthB X k = L at *
      have hlo : 0 ≤ left - (X.length : Int) - sumX X k := by omega
      have hhi : left - (X.length : Int) - sumX X k ≤ 1048576 := by omega
      go_wp2_with fail
      refine (szFramesAny al L cl _ _ hf hlo hhi).mono ?_
      rintro e w2 ⟨hz | hz, b2⟩
      case inr =>
        obtain ⟨hz, rfl⟩ := hz
        have HR : Hid (SzR left (X.length + sumX X X.length) (.returned (.int .i64 (-1)))) := Lib.hid (.inr ⟨by omega, rfl⟩)
        replace b := Below.then2 b b2
        clear hc hlo hhi hf b2
        go_wp2_with fail
        go_ret
        exact ⟨HR.out, b⟩
      obtain ⟨hz, rfl⟩ := hz
      have hov : (X.length : Int) + sumX X (k + 1) ≤ left := by omega
      have hng : ¬ left - (X.length : Int) - sumX X k - ((L.length + room L L.length : Nat) : Int) < 0 := by omega
      replace b := Below.then2 b b2
      clear hc hlo hhi hf b2
      go_wp2_with fail
      go_roundw
      case rel => exact ⟨k + 1, by omega, hov, by go_num, by congr 1; omega, b⟩
      case measure => simp [intOf]; omega
    · obtain rfl : k = X.length := by omega
      have HR : Hid (SzR left (X.length + sumX X X.length) (.returned (.int .i64 (left - (X.length : Int) - sumX X X.length)))) := Lib.hid (.inl ⟨by omega, by congr 2; omega⟩)
      go_wp2_with fail
      go_ret
      exact ⟨HR.out, b⟩
set_option maxHeartbeats 4000000 in
/-- laws.eqFrameSS of alike lists. -/
theorem eqBxs (R R' : Option Addr → Nat → Nat → Prop) (a b : Option Addr) (X : List (List Frm)) (c c' : Nat) (w : World) (ha : Bxs R a X w) (hb : Bxs R' b X w) :
    Calls Tryz.prog 57 #[.slice a X.length c, .slice b X.length c'] w fun e w' => e = .returned (.bool true) ∧ Below w.heap.size w w' := by
  have hm := ha.1
  unfold maxLen at hm
  go_enter Tryz.func57, Tryz.ntmps57
  go_wp2_with fail
  go_loopw [5] (fun i wr => ∃ k : Nat, k ≤ X.length ∧ i = .int .i64 k ∧ Below w.heap.size w wr) (fun i _ => X.length - (intOf i).toNat)
  case atStart => exact ⟨0, Nat.zero_le _, rfl, Below.refl _ _⟩
  case round =>
    obtain ⟨k, hk, rfl, bw⟩ := hrel
    by_cases hlt : k < X.length
    · obtain ⟨g, o, al, cl, rfl, hc, hf, -⟩ := (ha.below bw).2 k hlt
      obtain ⟨g', o', al', cl', rfl, hc', hf', -⟩ := (hb.below bw).2 k hlt
      generalize nthB X k = L at *
      go_upto_region 6 with fail
      refine region_class (fun u => (u.cell? ⟨g, o + k, none⟩ = some (.slice al L.length cl) ∧ Frs al L u) ∧ (u.cell? ⟨g', o' + k, none⟩ = some (.slice al' L.length cl') ∧ Frs al' L u) ∧ Below w.heap.size w u) (by kernel_rfl) (by kernel_rfl) ⟨⟨hc, hf.drew⟩, ⟨hc', hf'.drew⟩, bw.drew⟩ ?_
      clear hc hf hc' hf' bw
      repeat first
        | go_big_quiet_skip
        | (go_big_quiet_want
           apply Exists.intro
           refine ⟨fun u hu => ?_, ?_⟩
           · apply quietAt_val
             obtain ⟨⟨c0, _⟩, ⟨c1, _⟩, _⟩ := hu
             go_simp
             rfl
           simp only [Act.put, List.setIfInBounds_toArray, List.set_cons_zero, List.set_cons_succ]
           go_big_quiet_on)
        | (go_big_quiet_want
           apply Exists.intro
           refine ⟨fun u hu => ?_, ?_⟩
           · apply quietAt_enter 82 #[.slice al L.length cl, .slice al' L.length cl']
             · go_simp
             · refine (eqFrames al al' L cl cl' u hu.1.2 hu.2.1.2).mono ?_
               rintro e w2 ⟨rfl, b2⟩
               exact ⟨rfl, ⟨(b2.cell (World.block_lt_of_cell? u _ hu.1.1)).trans hu.1.1, hu.1.2.below b2⟩, ⟨(b2.cell (World.block_lt_of_cell? u _ hu.2.1.1)).trans hu.2.1.1, hu.2.1.2.below b2⟩, Below.then2 hu.2.2 b2⟩
           simp only [Act.put, List.setIfInBounds_toArray, List.set_cons_zero, List.set_cons_succ]
           go_big_quiet_on)
      refine wpQuiet_nil ?_
      intro W2 L2
      have bw := L2.2.2
      clear L2
      go_wp2_with fail
      go_roundw
      case rel => exact ⟨k + 1, by omega, by go_num, bw⟩
      case measure => simp [intOf]; omega
    · go_wp2_with fail
      go_ret
      exact ⟨rfl, bw⟩

/-! ### Lists of frames that the call owns. -/
section
variable {Q : Prop} {Y : Nat → Prop} {B lo hi : Nat} {w w' : World} {v : Value} {L : List Frm}
theorem OwnI.kp {D : List Int} (h : OwnI B D v w) (k : Kp Y w w') (hy : ∀ q, v.ownBlock = some q → Y q) : OwnI B D v w' := by
  refine ⟨⟨h.1.1, ?_⟩, h.2⟩
  rcases h.1.2 with e | ⟨g, cap, cur, e, hb, hg, r⟩
  · exact .inl e
  · exact .inr ⟨g, cap, cur, e, hb, (k.block g (hy g (by rw [e]; rfl)) (Array.getElem?_eq_some_iff.1 hg).1).trans hg, r⟩
theorem OwnF.kp {M : List (Frm × Value)} (h : OwnF B M v w) (k : Kp Y w w') (hy : ∀ q, v.ownBlock = some q → Y q) (hz : ∀ m ∈ M, ∀ q, m.2.ownBlock = some q → Y q) : OwnF B M v w' := by
  refine ⟨⟨h.1.1, ?_⟩, fun m hm => (h.2 m hm).kp k (hz m hm)⟩
  rcases h.1.2 with e | ⟨g, cap, cur, e, hb, hg, r⟩
  · exact .inl e
  · exact .inr ⟨g, cap, cur, e, hb, (k.block g (hy g (by rw [e]; rfl)) (Array.getElem?_eq_some_iff.1 hg).1).trans hg, r⟩
/-- A list of frames in memory of the call's own, in the blocks from lo to hi; where Q, no two frames share data. -/
def OwnX (Q : Prop) (lo hi : Nat) (L : List Frm) (v : Value) (w : World) : Prop := ∃ (M : List (Frm × Value)) (a : Option Addr) (c : Nat), v = .slice a L.length c ∧ (M.map fun m => m.1) = L ∧ OwnF lo M (.slice a L.length c) w ∧ (Q → Far M) ∧ Under hi M (.slice a L.length c)
theorem OwnX.kp (h : OwnX Q lo hi L v w) (k : Kp Y w w') (hy : ∀ q, lo ≤ q → q < hi → Y q) : OwnX Q lo hi L v w' := by
  obtain ⟨M, a, c, e, hM, ho, hf, hu⟩ := h
  exact ⟨M, a, c, e, hM, ho.kp k (fun q hq => hy q (ho.1.lt q hq).1 (hu.1 q hq)) (fun m hm q hq => hy q ((ho.2 m hm).1.lt q hq).1 (hu.2 m hm q hq)), hf, hu⟩
theorem OwnX.below (h : OwnX Q lo hi L v w) (b : Below w.heap.size w w') : OwnX Q lo hi L v w' := by
  obtain ⟨M, a, c, e, hM, ho, hf, hu⟩ := h
  exact ⟨M, a, c, e, hM, ho.below b, hf, hu⟩
theorem OwnX.got {w0 : World} {e : Ending} (h : GotF L w0 e w) (Q : Prop := True) : ∃ a c, e = .returned (.slice a L.length c) ∧ OwnX Q w0.heap.size w.heap.size L (.slice a L.length c) w ∧ Below w0.heap.size w0 w := by
  obtain ⟨M, a, c, he, hM, ho, hf, b⟩ := h
  exact ⟨a, c, he, ⟨M, a, c, rfl, hM, ho, fun _ => hf, ho.under⟩, b⟩
theorem OwnX.is (h : OwnX Q lo hi L v w) (hL : L.length ≤ 2000000) : ∃ a c, v = .slice a L.length c ∧ Frs a L w ∧ Adr a L.length c := by
  obtain ⟨M, a, c, e, hM, ho, hf, hu⟩ := h
  exact ⟨a, c, e, ho.frsOf hM hL, ho.len.2, ho.addressed⟩
theorem OwnX.nil (Q : Prop) (lo hi : Nat) (w : World) : OwnX Q lo hi [] (.slice none 0 0) w := ⟨[], none, 0, rfl, rfl, own_nil _ _, fun _ => far_nil, ⟨fun q hq => (by cases hq), fun m hm => (by cases hm)⟩⟩
end
/-- Row G, of cap places; at the places of F the lists of X, each in memory of its own. -/
structure BoxO (Q : Prop) (G cap : Nat) (F : Nat → Prop) (X : List (List Frm)) (L H : Nat → Nat) (w : World) : Prop where
  row : ∃ cur : Array Value, w.heap[G]? = some (.cells cur 64 (0, 0)) ∧ cur.size = cap ∧ ∀ j, F j → ∃ v, cur[j]? = some v ∧ OwnX Q (L j) (H j) (nthB X j) v w
  out : ∀ j, F j → L j ≤ H j ∧ H j ≤ w.heap.size ∧ (G < L j ∨ H j ≤ G)
  far : ∀ i j, F i → F j → i ≠ j → H i ≤ L j ∨ H j ≤ L i
section
variable {Q : Prop} {Y : Nat → Prop} {G cap : Nat} {F : Nat → Prop} {X : List (List Frm)} {L H : Nat → Nat} {w w' : World} {v : Value}
theorem BoxO.lt (h : BoxO Q G cap F X L H w) : G < w.heap.size := by
  obtain ⟨cur, hb, _⟩ := h.row
  exact (Array.getElem?_eq_some_iff.1 hb).1
theorem BoxO.kp (h : BoxO Q G cap F X L H w) (k : Kp Y w w') (hG : Y G) (hy : ∀ j, F j → ∀ q, L j ≤ q → q < H j → Y q) : BoxO Q G cap F X L H w' := by
  obtain ⟨cur, hb, hc, hm⟩ := h.row
  refine ⟨⟨cur, (k.block G hG (Array.getElem?_eq_some_iff.1 hb).1).trans hb, hc, fun j hj => ?_⟩, fun j hj => by have := h.out j hj; have := k.size; omega, h.far⟩
  obtain ⟨v, hv, ho⟩ := hm j hj
  exact ⟨v, hv, ho.kp k (hy j hj)⟩
theorem BoxO.below (h : BoxO Q G cap F X L H w) (b : Below w.heap.size w w') : BoxO Q G cap F X L H w' := h.kp (Y := fun _ => True) (Kp.ofBelow b) trivial fun _ _ _ _ _ => trivial
theorem BoxO.less {F' : Nat → Prop} (h : BoxO Q G cap F X L H w) (hF : ∀ j, F' j → F j) : BoxO Q G cap F' X L H w := by
  obtain ⟨cur, hb, hc, hm⟩ := h.row
  exact ⟨⟨cur, hb, hc, fun j hj => hm j (hF j hj)⟩, fun j hj => h.out j (hF j hj), fun i j hi hj => h.far i j (hF i hi) (hF j hj)⟩
/-- One list goes in at a place. -/
theorem BoxO.put (h : BoxO Q G cap F X L H w) {i lo hi : Nat} {X' : List (List Frm)} (hi0 : i < cap) (hX : ∀ j, F j → j ≠ i → nthB X' j = nthB X j) (ho : OwnX Q lo hi (nthB X' i) v w) (hl : lo ≤ hi) (hh : hi ≤ w.heap.size) (hg : G < lo ∨ hi ≤ G) (hf : ∀ j, F j → j ≠ i → H j ≤ lo ∨ hi ≤ L j) :
    BoxO Q G cap (fun j => F j ∨ j = i) X' (fun j => if j = i then lo else L j) (fun j => if j = i then hi else H j) (w.setCell ⟨G, i, none⟩ v) := by
  obtain ⟨cur, hb, hc, hm⟩ := h.row
  have k : Kp (fun q => q ≠ G) w (w.setCell ⟨G, i, none⟩ v) := by
    have m := mid_cell w G i v
    exact ⟨m.size, fun q hq hl => m.block q hl (by omega), m.os, m.tape, m.output⟩
  refine ⟨⟨cur.setIfInBounds i v, heap_setCell_same _ _ _ _ _ _ hb, by simpa using hc, fun j hj => ?_⟩, fun j hj => ?_, fun p q hp hq hpq => ?_⟩
  · by_cases e : j = i
    · subst e
      simp only [↓reduceIte]
      refine ⟨v, by rw [Array.getElem?_setIfInBounds]; simp; omega, ho.kp k fun q h1 h2 => ?_⟩
      show q ≠ G
      omega
    · have hj' : F j := hj.resolve_right e
      obtain ⟨u, hu, hoj⟩ := hm j hj'
      have hout := h.out j hj'
      simp only [if_neg e]
      refine ⟨u, by rw [Array.getElem?_setIfInBounds, if_neg (by omega)]; exact hu, ?_⟩
      rw [hX j hj' e]
      exact hoj.kp k fun q h1 h2 => by show q ≠ G; omega
  · have hs := k.size
    by_cases e : j = i
    · subst e; simp only [↓reduceIte]; exact ⟨hl, Nat.le_trans hh hs, hg⟩
    · simp only [if_neg e]
      have := h.out j (hj.resolve_right e)
      omega
  · by_cases e : p = i
    · subst e
      simp only [↓reduceIte, if_neg (show ¬ q = p from fun e => hpq e.symm)]
      have := hf q (hq.resolve_right fun e => hpq e.symm) (fun e => hpq e.symm)
      omega
    · by_cases e2 : q = i
      · subst e2
        simp only [↓reduceIte, if_neg e]
        exact hf p (hp.resolve_right e) e
      · simp only [if_neg e, if_neg e2]
        exact h.far p q (hp.resolve_right e) (hq.resolve_right e2) hpq
theorem BoxO.bxs (h : BoxO Q G cap (fun j => j < X.length) X L H w) (hm : X.length ≤ 2000000) (hs : ∀ j, j < X.length → (nthB X j).length ≤ 2000000) : Bxs Adr (some ⟨G, 0, none⟩) X w := by
  obtain ⟨cur, hb, hc, hmm⟩ := h.row
  refine ⟨by unfold maxLen; omega, fun j hj => ?_⟩
  obtain ⟨v, hv, ho⟩ := hmm j hj
  obtain ⟨a, c, rfl, hf, hA⟩ := ho.is (hs j hj)
  exact ⟨G, 0, a, c, rfl, by rw [cell_of_row w G _ _ _ _ hb, Nat.zero_add]; exact hv, hf, hA⟩
end
theorem make_boxes (c : Nat) (hc : c ≤ 1048576) (W : World) : (Instr.makeSlice 24 (.int .i64 c) (.int .i64 c)).run Tryz.prog W =
    .ok (.slice (some ⟨W.heap.size, 0, none⟩) c c) (W.alloc (.cells (madeCells #[.slice none 0 0] c) 64)) := by
  obtain ⟨i0, hi, hz0, hz1, hz2⟩ := info_parts (show (Tryz.prog.info? 64).map (fun i => (i.zero, i.size, i.bytes)) = some (some (.slice none 0 0), 1, 24) by kernel_rfl)
  have := run_make (P := Tryz.prog) W 24 64 i0 (.slice none 0 0) Tryz.underlying24 hi hz0 .i64 .i64 c c (by omega) (Int.le_refl _) (by rw [hz2]; omega) (by omega)
  rw [this, hz1]
  simp only [Int.toNat_natCast, Nat.mul_one]
  rfl
theorem BoxO.start (Q : Prop) (G cap : Nat) (X : List (List Frm)) (L H : Nat → Nat) (w : World) (cur : Array Value) (hb : w.heap[G]? = some (.cells cur 64 (0, 0))) (hc : cur.size = cap) : BoxO Q G cap (fun j => j < 0) X L H w :=
  ⟨⟨cur, hb, hc, fun j hj => absurd hj (Nat.not_lt_zero _)⟩, fun j hj => absurd hj (Nat.not_lt_zero _), fun i j hi => absurd hi (Nat.not_lt_zero _)⟩
/-- All of it lies from block B on. -/
def FromB (B G n : Nat) (L : Nat → Nat) : Prop := B ≤ G ∧ ∀ j, j < n → B ≤ L j
/-- One more, behind the others. -/
theorem BoxO.push {Q : Prop} {G cap k : Nat} {X : List (List Frm)} {L H : Nat → Nat} {w : World} {v : Value} {lo hi B : Nat} (h : BoxO Q G cap (fun j => j < k) X L H w) (hB : FromB B G k L) (hk : k < cap) (ho : OwnX Q lo hi (nthB X k) v w) (hl : lo ≤ hi) (hh : hi ≤ w.heap.size) (hg : G < lo ∨ hi ≤ G) (hf : ∀ j, j < k → H j ≤ lo) (hB2 : B ≤ lo) :
    ∃ L' H', BoxO Q G cap (fun j => j < k + 1) X L' H' (w.setCell ⟨G, k, none⟩ v) ∧ FromB B G (k + 1) L' ∧ ∀ j, j < k + 1 → H' j ≤ max hi (if j < k then H j else 0) := by
  refine ⟨_, _, (h.put (X' := X) hk (fun _ _ _ => rfl) ho hl hh hg (fun j hj _ => .inl (hf j hj))).less (fun j hj => (show j < k ∨ j = k by omega)), ⟨hB.1, fun j hj => ?_⟩, fun j hj => ?_⟩
  · by_cases e : j = k
    · subst e; simp only [↓reduceIte]; exact hB2
    · simp only [if_neg e]; exact hB.2 j (by omega)
  · by_cases e : j = k
    · subst e; simp only [↓reduceIte]; omega
    · simp only [if_neg e, if_pos (show j < k by omega)]; omega
set_option maxHeartbeats 4000000 in
/-- laws.toFrameSS. -/
theorem toBxs (R : Option Addr → Nat → Nat → Prop) (a : Option Addr) (X : List (List Frm)) (c : Nat) (w : World) (hd : Bxs R a X w) (h : roomX X ≤ 1048576) :
    Calls Tryz.prog 56 #[.slice a X.length c] w fun e w' =>
      ∃ G L H, e = .returned (.slice (some ⟨G, 0, none⟩) X.length X.length) ∧ BoxO True G X.length (fun j => j < X.length) X L H w' ∧ FromB w.heap.size G X.length L ∧ Below w.heap.size w w' := by
  unfold roomX at h
  have hmk := make_boxes X.length (by omega)
  go_enter Tryz.func56, Tryz.ntmps56
  go_wp2_with fail
  clear hmk
  go_loopw [4] (fun i wr => ∃ (k : Nat) (L H : Nat → Nat), k ≤ X.length ∧ i = .int .i64 k ∧ BoxO True w.heap.size X.length (fun j => j < k) X L H wr ∧ FromB w.heap.size w.heap.size k L ∧ Below w.heap.size w wr) (fun i _ => X.length - (intOf i).toNat)
  case atStart => exact ⟨0, fun _ => 0, fun _ => 0, Nat.zero_le _, rfl, BoxO.start _ _ _ _ _ _ _ _ (heap_alloc_new _ _) (by simp [madeCells]), ⟨Nat.le_refl _, fun j hj => absurd hj (by omega)⟩, (Below.refl _ _).alloc (Nat.le_refl _) _⟩
  case round =>
    obtain ⟨k, L, H, hk, rfl, R0, hB, b⟩ := hrel
    by_cases hlt : k < X.length
    · obtain ⟨g, o, al, cl, rfl, hc, hf, -⟩ := (hd.below b).2 k hlt
      have hs := sumX_at X hlt
      generalize hnn : nthB X k = M at *
      have hG := R0.lt
      have hwz := b.size
      have hH : ∀ j, j < k → H j ≤ wr.heap.size := fun j hj => (R0.out j hj).2.1
      go_wp2_with fail
      refine (toFramesOwn al M cl _ hf (by omega)).mono ?_
      intro e w2 G3
      obtain ⟨a3, c3, rfl, OL, b4⟩ := OwnX.got G3
      have hle := b4.size
      replace R0 := R0.below b4
      replace b := Below.then2 b b4
      obtain ⟨cur, hcb, hcs, -⟩ := R0.row
      have hck : ∃ x, w2.cell? ⟨w.heap.size, k, none⟩ = some x := by
        rw [cell_of_row w2 _ _ _ _ _ hcb, Array.getElem?_eq_getElem (by omega)]
        exact ⟨_, rfl⟩
      obtain ⟨x, hck⟩ := hck
      have f0 := frozen_of_row w2 w.heap.size k _ _ hcb
      clear b4 hf hc G3 hcb hcs
      go_wp2_with fail
      rw [← hnn] at OL
      obtain ⟨L', H', R1, hB1, -⟩ := R0.push hB hlt OL hle (Nat.le_refl _) (.inl hG) hH hwz
      rw [hnn] at R1
      have b5 : Below w.heap.size w (w2.setCell ⟨w.heap.size, k, none⟩ (.slice a3 M.length c3)) := b.setCell (Nat.le_refl _) _
      go_roundw
      case rel => exact ⟨k + 1, L', H', by omega, by go_num, R1, hB1, b5⟩
      case measure => simp [intOf]; omega
    · obtain rfl : k = X.length := by omega
      go_wp2_with fail
      go_ret
      exact ⟨_, L, H, rfl, R0, hB, b⟩

/-! ### Marks. -/
def kB (k : Int) (X : List (List Frm)) : Nat → Int
  | 0 => k
  | j + 1 => kAt (kB k X j) (nthB X j) (nthB X j).length
/-- The first j lists bear their marks. -/
def mkB (k : Int) (X : List (List Frm)) (j : Nat) : List (List Frm) := (List.range X.length).map fun i => if i < j then mkL (kB k X i) (nthB X i) else nthB X i
theorem mkB_len (k : Int) (X : List (List Frm)) (j : Nat) : (mkB k X j).length = X.length := by simp [mkB]
theorem mkB_nth {k : Int} {X : List (List Frm)} {j i : Nat} (h : i < X.length) : nthB (mkB k X j) i = if i < j then mkL (kB k X i) (nthB X i) else nthB X i := by
  simp [mkB, nthB, List.getD_eq_getElem?_getD, h]
theorem mkB_0 (k : Int) (X : List (List Frm)) {i : Nat} (h : i < X.length) : nthB (mkB k X 0) i = nthB X i := by rw [mkB_nth h, if_neg (by omega)]
theorem mkB_all {k : Int} {X : List (List Frm)} {i : Nat} (h : i < X.length) : nthB (mkB k X X.length) i = mkL (kB k X i) (nthB X i) := by rw [mkB_nth h, if_pos h]
theorem kB_eq (k : Int) (X : List (List Frm)) : ∀ j, j ≤ X.length → k ≤ kB k X j ∧ kB k X j ≤ k + 3 * (sumX X j : Int)
  | 0, _ => by rw [sumX_zero]; exact ⟨Int.le_refl _, by simp [kB]⟩
  | j + 1, h => by
    have := kB_eq k X j (by omega)
    rw [kB, sumX_succ X j (by omega)]
    unfold kAt
    omega
theorem BoxO.congr {Q : Prop} {G cap : Nat} {F : Nat → Prop} {X X' : List (List Frm)} {L H : Nat → Nat} {w : World} (h : BoxO Q G cap F X L H w) (hX : ∀ j, F j → nthB X' j = nthB X j) : BoxO Q G cap F X' L H w := by
  obtain ⟨cur, hb, hc, hm⟩ := h.row
  exact ⟨⟨cur, hb, hc, fun j hj => by rw [hX j hj]; exact hm j hj⟩, h.out, h.far⟩
set_option maxHeartbeats 4000000 in
/-- laws.markFrameSS of lists that the call owns. -/
theorem markBxs (G cap : Nat) (X : List (List Frm)) (L H : Nat → Nat) (c : Nat) (k0 : Int) (w : World) (HO : BoxO True G cap (fun j => j < X.length) X L H w) (h : roomX X ≤ 1048577) (h0 : 0 ≤ k0) (h1 : k0 ≤ 80000000) :
    Calls Tryz.prog 59 #[.slice (some ⟨G, 0, none⟩) X.length c, .int .i64 k0] w fun e w' => e = .returned (.int .i64 (kB k0 X X.length)) ∧ BoxO True G cap (fun j => j < X.length) (mkB k0 X X.length) L H w' ∧ Kp (fun q => ∀ j, j < X.length → q < L j ∨ H j ≤ q) w w' := by
  unfold roomX at h
  go_enter Tryz.func59, Tryz.ntmps59
  go_wp2_with fail
  go_loopw [1, 5] (fun q i wr => ∃ k : Nat, k ≤ X.length ∧ q = .int .i64 (kB k0 X k) ∧ i = .int .i64 k ∧ BoxO True G cap (fun j => j < X.length) (mkB k0 X k) L H wr ∧ Kp (fun q => ∀ j, j < X.length → q < L j ∨ H j ≤ q) w wr) (fun _ i _ => X.length - (intOf i).toNat)
  case atStart => exact ⟨0, Nat.zero_le _, rfl, rfl, HO.congr fun j hj => mkB_0 _ _ hj, Kp.refl _ _⟩
  case round =>
    obtain ⟨k, hk, rfl, rfl, HB, m⟩ := hrel
    by_cases hlt : k < X.length
    · obtain ⟨cur, hcb, hcs, hm⟩ := HB.row
      obtain ⟨v, hv, ho⟩ := hm k hlt
      have hout := HB.out k hlt
      rw [mkB_nth hlt, if_neg (Nat.lt_irrefl _)] at ho
      obtain ⟨M, al, cl, rfl, hM, o, hf, hu⟩ := ho
      have hs := sumX_at X hlt
      have hkb := kB_eq k0 X k hk
      have hle := sumX_le X (show k ≤ X.length by omega)
      have hck : wr.cell? ⟨G, k, none⟩ = some (.slice al (nthB X k).length cl) := by rw [cell_of_row wr _ _ _ _ _ hcb]; exact hv
      have HK : Hid (kB k0 X (k + 1) = kAt (kB k0 X k) (nthB X k) (nthB X k).length) := Lib.hid rfl
      clear hm
      generalize hnn : nthB X k = N at *
      generalize hkk : kB k0 X k = kk at *
      replace hnn := Lib.hid hnn
      replace hkk := Lib.hid hkk
      go_wp2_with fail
      refine (markFramesU (L k) (H k) M N hM al cl kk _ o (hf trivial) hu (by omega) (by omega) (by omega)).mono ?_
      rintro e w2 ⟨M2, rfl, hM2, o2, hf2, m2, hu2⟩
      have k2 : Kp (fun q => q < L k ∨ H k ≤ q) wr w2 := ⟨m2.size, fun q hq hl => m2.block q hl hq, m2.os, m2.tape, m2.output⟩
      have HB2 : BoxO True G cap (fun j => j < X.length) (mkB k0 X (k + 1)) L H w2 := by
        refine ⟨⟨cur, (k2.block G (by show G < L k ∨ H k ≤ G; omega) (Array.getElem?_eq_some_iff.1 hcb).1).trans hcb, hcs, fun j hj => ?_⟩, fun j hj => by have := HB.out j hj; have := k2.size; omega, HB.far⟩
        by_cases e : j = k
        · subst e
          rw [mkB_nth hlt, if_pos (by omega), hnn.out, hkk.out]
          exact ⟨_, hv, M2, al, cl, by rw [mkL_len], by rw [hM2], by rw [mkL_len]; exact o2, fun _ => hf2, by rw [mkL_len]; exact hu2⟩
        · obtain ⟨cur', hcb', hcs', hm'⟩ := HB.row
          obtain rfl : cur' = cur := by
            have := hcb'.symm.trans hcb
            injection this with this
            injection this
          obtain ⟨u, hu1, hu2⟩ := hm' j hj
          refine ⟨u, hu1, ?_⟩
          have e2 : nthB (mkB k0 X (k + 1)) j = nthB (mkB k0 X k) j := by
            rw [mkB_nth hj, mkB_nth hj]
            by_cases h3 : j < k
            · rw [if_pos (by omega), if_pos h3]
            · rw [if_neg (by omega), if_neg h3]
          rw [e2]
          exact hu2.kp k2 fun q h3 h4 => by
            show q < L k ∨ H k ≤ q
            have := HB.far j k hj hlt e
            omega
      have m3 : Kp (fun q => ∀ j, j < X.length → q < L j ∨ H j ≤ q) w w2 := m.trans ⟨k2.size, fun q hq hl => k2.block q (hq k hlt) hl, k2.os, k2.tape, k2.output⟩
      clear HB m m2 k2 o hu o2 hu2 hck hcb hv
      go_wp2_with fail
      go_roundw
      case rel => exact ⟨k + 1, by omega, by rw [HK.out], by go_num, HB2, m3⟩
      case measure => simp [intOf]; omega
    · obtain rfl : k = X.length := by omega
      go_wp2_with fail
      go_ret
      exact ⟨rfl, HB, m⟩
set_option maxHeartbeats 4000000 in
/-- laws.heldFrameSS of lists that bear their marks. -/
theorem heldBxs (R : Option Addr → Nat → Nat → Prop) (a : Option Addr) (X : List (List Frm)) (c : Nat) (k0 : Int) (w : World) (hd : Bxs R a (mkB k0 X X.length) w) (h : roomX X ≤ 1048577) (h0 : 0 ≤ k0) (h1 : k0 ≤ 80000000) :
    Calls Tryz.prog 61 #[.slice a X.length c, .int .i64 k0] w fun e w' => e = .returned (.int .i64 (kB k0 X X.length)) ∧ Below w.heap.size w w' := by
  unfold roomX at h
  go_enter Tryz.func61, Tryz.ntmps61
  go_wp2_with fail
  go_loopw [1, 5] (fun q i wr => ∃ k : Nat, k ≤ X.length ∧ q = .int .i64 (kB k0 X k) ∧ i = .int .i64 k ∧ Below w.heap.size w wr) (fun _ i _ => X.length - (intOf i).toNat)
  case atStart => exact ⟨0, Nat.zero_le _, rfl, rfl, Below.refl _ _⟩
  case round =>
    obtain ⟨k, hk, rfl, rfl, b⟩ := hrel
    by_cases hlt : k < X.length
    · obtain ⟨g, o, al, cl, rfl, hc, hf, -⟩ := (hd.below b).2 k (by rw [mkB_len]; exact hlt)
      rw [mkB_all hlt] at hc hf
      rw [mkL_len] at hc
      have hs := sumX_at X hlt
      have hkb := kB_eq k0 X k hk
      have hkb1 := kB_eq k0 X (k + 1) hlt
      have hle := sumX_le X (show k ≤ X.length by omega)
      have hle1 := sumX_le X (show k + 1 ≤ X.length by omega)
      have HK : Hid (kB k0 X (k + 1) = kAt (kB k0 X k) (nthB X k) (nthB X k).length) := Lib.hid rfl
      have hng : ¬ kAt (kB k0 X k) (nthB X k) (nthB X k).length < 0 := by rw [← HK.out]; omega
      clear hkb1
      generalize nthB X k = N at *
      generalize kB k0 X k = kk at *
      go_wp2_with fail
      refine (heldFramesB al N cl kk _ hf (by omega) (by omega) (by omega)).mono ?_
      rintro e w2 ⟨rfl, b2⟩
      replace b := Below.then2 b b2
      clear b2 hf hc
      generalize hz : kAt kk N N.length = z at *
      replace hz := Lib.hid hz
      go_wp2_with fail
      go_roundw
      case rel => exact ⟨k + 1, by omega, by rw [HK.out], by go_num, b⟩
      case measure => simp [intOf]; omega
    · obtain rfl : k = X.length := by omega
      go_wp2_with fail
      go_ret
      exact ⟨rfl, b⟩
end Go.Proofs.YtnhmecabppaboaaGreat

/- Servers in memory: the exact laws' own functions over them (szServer, eqServer, toServer, markServer, heldServer). -/

set_option linter.unusedVariables false
set_option linter.unusedSimpArgs false
set_option maxRecDepth 20000
namespace Go.Proofs.YtnhmecabppaboaaGreat
open Go.RowKit

abbrev svC (a : Option Addr) (n c : Nat) (busy node rank now : Int) : Array Value := #[.slice a n c, .int .i64 busy, .int .i64 node, .int .i64 rank, .int .i64 now]
abbrev svV (a : Option Addr) (n c : Nat) (busy node rank now : Int) : Value := .agg #[.slice a n c, .int .i64 busy, .int .i64 node, .int .i64 rank, .int .i64 now]
theorem mid_cellW (w : World) (g k : Nat) (v : Value) {lo hi : Nat} (h1 : lo ≤ g) (h2 : g < hi) : Mid lo hi w (w.setCell ⟨g, k, none⟩ v) := (mid_cell w g k v).wide h1 (by omega)
theorem one_sv (w : World) (C : Array Value) (T : TypeId) : (w.alloc (.cells C T)).heap[w.heap.size]? = some (.cells C T (0, 0)) ∧ Below w.heap.size w (w.alloc (.cells C T)) := ⟨heap_alloc_new w _, below_more (Below.refl _ w) _⟩
/-- laws.szServer. -/
theorem szSrvAny (R : Option Addr → Nat → Nat → Prop) (a : Option Addr) (X : List (List Frm)) (c : Nat) (busy node rank now left : Int) (w : World) (hd : Bxs R a X w) (hl0 : 0 ≤ left) (hl1 : left ≤ 1048576) :
    Calls Tryz.prog 19 #[svV a X.length c busy node rank now, .int .i64 left] w fun e w' => SzR left (roomX X) e ∧ Below w.heap.size w w' := by
  go_enter Tryz.func19, Tryz.ntmps19
  go_wp2_with fail
  refine (szBxAny R a X c left _ (hd.alloc _) hl0 hl1).mono ?_
  rintro e w2 ⟨hz | hz, b⟩
  case inr =>
    obtain ⟨hz, rfl⟩ := hz
    have HR : Hid (SzR left (roomX X) (.returned (.int .i64 (-1)))) := Lib.hid (.inr ⟨by omega, rfl⟩)
    have b := below_from b
    go_wp2_with fail
    go_ret
    exact ⟨HR.out, b⟩
  obtain ⟨hz, rfl⟩ := hz
  have HR : Hid (SzR left (roomX X) (.returned (.int .i64 (left - roomX X)))) := Lib.hid (.inl ⟨by omega, rfl⟩)
  have b := below_from b
  have hng : ¬ left - (roomX X : Int) < 0 := by omega
  go_wp2_with fail
  go_ret
  exact ⟨HR.out, b⟩
/-- laws.eqServer of alike servers. -/
theorem eqSrv (R R' : Option Addr → Nat → Nat → Prop) (a b : Option Addr) (X : List (List Frm)) (c c' : Nat) (busy node rank now : Int) (w : World) (ha : Bxs R a X w) (hb : Bxs R' b X w) :
    Calls Tryz.prog 21 #[svV a X.length c busy node rank now, svV b X.length c' busy node rank now] w fun e w' => e = .returned (.bool true) ∧ Below w.heap.size w w' := by
  obtain ⟨HC, HD, B⟩ := two_made w (svC a X.length c busy node rank now) (svC b X.length c' busy node rank now) 26 26
  go_enter Tryz.func21, Tryz.ntmps21
  go_upto_region 1 with fail
  generalize World.alloc _ _ = W at HC HD B ⊢
  generalize w.heap.size + 1 = g2 at HD ⊢
  generalize w.heap.size = g1 at HC ⊢
  have c0 := cell_of_row W g1 0 _ _ _ HC
  have c1 := cell_of_row W g2 0 _ _ _ HD
  go_wp2_with fail
  refine (eqBxs R R' a b X c c' _ (ha.below B) (hb.below B)).mono ?_
  rintro e w2 ⟨rfl, b2⟩
  replace HC := (b2.block g1 (Array.getElem?_eq_some_iff.1 HC).1).trans HC
  replace HD := (b2.block g2 (Array.getElem?_eq_some_iff.1 HD).1).trans HD
  replace B := Below.then2 B b2
  have d1 := cell_of_row w2 g1 1 _ _ _ HC
  have d2 := cell_of_row w2 g1 2 _ _ _ HC
  have d3 := cell_of_row w2 g1 3 _ _ _ HC
  have d4 := cell_of_row w2 g1 4 _ _ _ HC
  have e1 := cell_of_row w2 g2 1 _ _ _ HD
  have e2 := cell_of_row w2 g2 2 _ _ _ HD
  have e3 := cell_of_row w2 g2 3 _ _ _ HD
  have e4 := cell_of_row w2 g2 4 _ _ _ HD
  clear b2 c0 c1 HC HD
  go_wp2_with fail
  go_ret
  exact ⟨rfl, B⟩
set_option maxHeartbeats 4000000 in
/-- laws.toServer. -/
theorem toSrv (R : Option Addr → Nat → Nat → Prop) (a : Option Addr) (X : List (List Frm)) (c : Nat) (busy node rank now : Int) (w : World) (hd : Bxs R a X w) (h : roomX X ≤ 1048576) :
    Calls Tryz.prog 20 #[svV a X.length c busy node rank now] w fun e w' =>
      ∃ G L H, e = .returned (svV (some ⟨G, 0, none⟩) X.length X.length busy node rank now) ∧ BoxO True G X.length (fun j => j < X.length) X L H w' ∧ FromB w.heap.size G X.length L ∧ Below w.heap.size w w' := by
  obtain ⟨HA, HR, HO, B⟩ := three_made w (svC a X.length c busy node rank now) (svC none 0 0 0 0 0 0) (svC none 0 0 0 0 0 0) 46 26 26
  have hz3 : (((w.alloc (.cells (svC a X.length c busy node rank now) 46)).alloc (.cells (svC none 0 0 0 0 0 0) 26)).alloc (.cells (svC none 0 0 0 0 0 0) 26)).heap.size = w.heap.size + 3 := by simp
  go_enter Tryz.func20, Tryz.ntmps20
  go_upto_region 2 with fail
  generalize World.alloc _ _ = W at HA HR HO B hz3 ⊢
  have c0 := cell_of_row W w.heap.size 0 _ _ _ HA
  go_wp2_with fail
  refine (toBxs R a X c _ (hd.below B) h).mono ?_
  rintro e w1 ⟨G, L, H, rfl, O, hF, b⟩
  replace HA := (b.block _ (Array.getElem?_eq_some_iff.1 HA).1).trans HA
  replace HR := (b.block _ (Array.getElem?_eq_some_iff.1 HR).1).trans HR
  replace HO := (b.block _ (Array.getElem?_eq_some_iff.1 HO).1).trans HO
  replace B := Below.then2 B b
  have hzw := b.size
  clear b c0
  have c1 := cell_of_row w1 _ 1 _ _ _ HA
  have c2 := cell_of_row w1 _ 2 _ _ _ HA
  have c3 := cell_of_row w1 _ 3 _ _ _ HA
  have c4 := cell_of_row w1 _ 4 _ _ _ HA
  have d0 := cell_of_row w1 _ 0 _ _ _ HO
  have d1 := cell_of_row w1 _ 1 _ _ _ HO
  have d2 := cell_of_row w1 _ 2 _ _ _ HO
  have d3 := cell_of_row w1 _ 3 _ _ _ HO
  have d4 := cell_of_row w1 _ 4 _ _ _ HO
  have f0 := frozen_of_row w1 _ 0 _ _ HO
  have f1 := frozen_of_row w1 _ 1 _ _ HO
  have f2 := frozen_of_row w1 _ 2 _ _ HO
  have f3 := frozen_of_row w1 _ 3 _ _ HO
  have f4 := frozen_of_row w1 _ 4 _ _ HO
  have e0 := cell_of_row w1 _ 0 _ _ _ HR
  have e1 := cell_of_row w1 _ 1 _ _ _ HR
  have e2 := cell_of_row w1 _ 2 _ _ _ HR
  have e3 := cell_of_row w1 _ 3 _ _ _ HR
  have e4 := cell_of_row w1 _ 4 _ _ _ HR
  have k0 := frozen_of_row w1 _ 0 _ _ HR
  have k1 := frozen_of_row w1 _ 1 _ _ HR
  have k2 := frozen_of_row w1 _ 2 _ _ HR
  have k3 := frozen_of_row w1 _ 3 _ _ HR
  have k4 := frozen_of_row w1 _ 4 _ _ HR
  go_wp2_with fail
  clear c1 c2 c3 c4 d0 d1 d2 d3 d4 f0 f1 f2 f3 f4 e0 e1 e2 e3 e4 k0 k1 k2 k3 k4
  generalize h5 : World.setCell (World.setCell (World.setCell (World.setCell (World.setCell w1 _ _) _ _) _ _) _ _) _ _ = w5
  have m5 : Mid (w.heap.size + 2) (w.heap.size + 3) w1 w5 := by
    rw [← h5]
    exact ((((mid_cellW _ _ _ _ (by omega) (by omega)).trans (mid_cellW _ _ _ _ (by omega) (by omega))).trans (mid_cellW _ _ _ _ (by omega) (by omega))).trans (mid_cellW _ _ _ _ (by omega) (by omega))).trans (mid_cellW _ _ _ _ (by omega) (by omega))
  replace HR := (m5.block _ (Array.getElem?_eq_some_iff.1 HR).1 (.inl (by omega))).trans HR
  clear h5 HO HA
  generalize hW2 : World.setCell _ _ _ = w2
  have HR' : w2.heap[w.heap.size + 1]? = some (.cells (svC (some ⟨G, 0, none⟩) X.length X.length busy node rank now) 26 (0, 0)) := by
    rw [← hW2]
    exact heap_setCell_same _ _ _ _ _ _ (heap_setCell_same _ _ _ _ _ _ (heap_setCell_same _ _ _ _ _ _ (heap_setCell_same _ _ _ _ _ _ (heap_setCell_same _ _ _ _ _ _ HR))))
  have m6 : Mid (w.heap.size + 1) (w.heap.size + 3) w5 w2 := by
    rw [← hW2]
    exact ((((mid_cellW _ _ _ _ (by omega) (by omega)).trans (mid_cellW _ _ _ _ (by omega) (by omega))).trans (mid_cellW _ _ _ _ (by omega) (by omega))).trans (mid_cellW _ _ _ _ (by omega) (by omega))).trans (mid_cellW _ _ _ _ (by omega) (by omega))
  have m := (m5.wide (lo' := w.heap.size + 1) (hi' := w.heap.size + 3) (by omega) (Nat.le_refl _)).trans m6
  have O' := O.kp (Y := fun q => q < w.heap.size + 1 ∨ w.heap.size + 3 ≤ q) ⟨m.size, fun q hq hl => m.block q hl hq, m.os, m.tape, m.output⟩ (.inr (by have := hF.1; omega)) (fun j hj q h1 h2 => .inr (by have := hF.2 j hj; omega))
  have B' := B.trans (m.below (B := w.heap.size) (by omega) B.size)
  clear hW2 m5 m6 m O
  refine bodyPost_ret (v := svV (some ⟨G, 0, none⟩) X.length X.length busy node rank now) ?_ rfl ⟨G, L, H, rfl, O', ⟨by have := hF.1; omega, fun j hj => by have := hF.2 j hj; omega⟩, B'⟩
  exact results_cell_row rfl _ w2 (w.heap.size + 1) 26 _ (0, 0) _ rfl HR' Tryz.underlying26 rfl (by kernel_rfl)
/-- laws.markServer. -/
theorem markSrv (G cap : Nat) (X : List (List Frm)) (L H : Nat → Nat) (c : Nat) (busy node rank now : Int) (k0 : Int) (w : World) (HO : BoxO True G cap (fun j => j < X.length) X L H w) (h : roomX X ≤ 1048577) (h0 : 0 ≤ k0) (h1 : k0 ≤ 80000000) :
    Calls Tryz.prog 23 #[svV (some ⟨G, 0, none⟩) X.length c busy node rank now, .int .i64 k0] w fun e w' => e = .returned (.int .i64 (kB k0 X X.length)) ∧ BoxO True G cap (fun j => j < X.length) (mkB k0 X X.length) L H w' ∧ Kp (fun q => ∀ j, j < X.length → q < L j ∨ H j ≤ q) w w' := by
  obtain ⟨HC, B⟩ := one_sv w (svC (some ⟨G, 0, none⟩) X.length c busy node rank now) 26
  go_enter Tryz.func23, Tryz.ntmps23
  go_upto_region 1 with fail
  generalize World.alloc _ _ = W at HC B ⊢
  have c0 := cell_of_row W _ 0 _ _ _ HC
  go_wp2_with fail
  refine (markBxs G cap X L H c k0 _ (HO.below B) h h0 h1).mono ?_
  rintro e w2 ⟨rfl, O2, K2⟩
  have K := Kp.trans (Kp.ofBelow B) K2
  clear c0 HC B HO K2
  have hkk : ∃ kk, kk = kB k0 X X.length := ⟨_, rfl⟩
  obtain ⟨kk, hkk⟩ := hkk
  rw [← hkk]
  replace hkk := Lib.hid hkk
  go_wp2_with fail
  go_ret
  exact ⟨by rw [← hkk.out]; rfl, O2, K⟩
/-- laws.heldServer. -/
theorem heldSrv (R : Option Addr → Nat → Nat → Prop) (a : Option Addr) (X : List (List Frm)) (c : Nat) (busy node rank now : Int) (k0 : Int) (w : World) (hd : Bxs R a (mkB k0 X X.length) w) (h : roomX X ≤ 1048577) (h0 : 0 ≤ k0) (h1 : k0 ≤ 80000000) :
    Calls Tryz.prog 25 #[svV a X.length c busy node rank now, .int .i64 k0] w fun e w' => e = .returned (.int .i64 (kB k0 X X.length)) ∧ Below w.heap.size w w' := by
  obtain ⟨HC, B⟩ := one_sv w (svC a X.length c busy node rank now) 26
  have hkb := kB_eq k0 X X.length (Nat.le_refl _)
  have hng : ¬ kB k0 X X.length < 0 := by omega
  go_enter Tryz.func25, Tryz.ntmps25
  go_upto_region 1 with fail
  generalize World.alloc _ _ = W at HC B ⊢
  have c0 := cell_of_row W _ 0 _ _ _ HC
  go_wp2_with fail
  refine (heldBxs R a X c k0 _ (hd.below B) h h0 h1).mono ?_
  rintro e w2 ⟨rfl, b2⟩
  replace B := Below.then2 B b2
  clear c0 HC b2 hkb
  obtain ⟨kk, hkk⟩ : ∃ kk, kk = kB k0 X X.length := ⟨_, rfl⟩
  rw [← hkk] at hng ⊢
  replace hkk := Lib.hid hkk
  go_wp2_with fail
  go_ret
  exact ⟨by rw [← hkk.out]; rfl, B⟩
end Go.Proofs.YtnhmecabppaboaaGreat

/- impl.ServerOk and what it asks. -/

set_option linter.unusedVariables false
set_option linter.unusedSimpArgs false
set_option maxRecDepth 20000
namespace Go.Proofs.YtnhmecabppaboaaGreat
open Go.RowKit

/-- Block g1 holds a server; what was there at the start stays. -/
structure Sv (g1 : Nat) (a : Option Addr) (n c : Nat) (busy node rank now : Int) (w0 w : World) : Prop where
  blk : w.heap[g1]? = some (.cells (svC a n c busy node rank now) 26 (0, 0))
  bel : Below w0.heap.size w0 w
section
variable {g1 : Nat} {a : Option Addr} {n c : Nat} {busy node rank now : Int} {w0 w w' : World}
theorem Sv.below (h : Sv g1 a n c busy node rank now w0 w) (b : Below w.heap.size w w') : Sv g1 a n c busy node rank now w0 w' := ⟨(b.block g1 (Array.getElem?_eq_some_iff.1 h.blk).1).trans h.blk, Below.then2 h.bel b⟩
theorem Sv.drew (h : Sv g1 a n c busy node rank now w0 w) : Sv g1 a n c busy node rank now w0 w.drew := ⟨h.blk, h.bel.drew⟩
theorem Sv.made (a : Option Addr) (n c : Nat) (busy node rank now : Int) (w : World) : Sv w.heap.size a n c busy node rank now w (w.alloc (.cells (svC a n c busy node rank now) 26)) := ⟨(one_sv w _ _).1, (one_sv w _ _).2⟩
theorem Sv.cell (h : Sv g1 a n c busy node rank now w0 w) (j : Nat) : w.cell? ⟨g1, j, none⟩ = (svC a n c busy node rank now)[j]? := cell_of_row w g1 j _ _ _ h.blk
/-- The whole server is read. -/
theorem Sv.take (h : Sv g1 a n c busy node rank now w0 w) {ops : Array Oper} {rest : List Oper} {o : Oper} {a' : Act} {Q : Exit → Act → World → Prop} {x : Operand} (ho : o.op = .load 26 x) (hx : a'.eval x = .pointer (some ⟨g1, 0, none⟩))
    (hw : Region.wanted o (yielded ops a'.tmps) = true) (k : wpList Tryz.prog ops Q rest (a'.put o.dst (svV a n c busy node rank now)) w) : wpList Tryz.prog ops Q (o :: rest) a' w :=
  BigFrame.wpList_want hw fun _ hK => wp_load_row 26 x ho g1 hx 26 (svC a n c busy node rank now) (0, 0) _ h.blk Tryz.underlying26 rfl (by kernel_rfl) (hK _ _ k)
theorem Sv.took (h : Sv g1 a n c busy node rank now w0 w) {o : Oper} {a' : Act} {x : Operand} (ho : o.op = .load 26 x) (hx : a'.eval x = .pointer (some ⟨g1, 0, none⟩)) : (execOp a'.eval o).run Tryz.prog w = .ok (.value (svV a n c busy node rank now)) w := by
  unfold execOp
  simp only [ho, hx, Instr.loadAt, Instr.sureAddr, Sem.run_bind, Sem.run_pure, Result.andThen_ok, run_loadVar_row w g1 26 26 (svC a n c busy node rank now) (0, 0) _ h.blk Tryz.underlying26 rfl (by kernel_rfl)]
end
/-- impl.isSaying. -/
theorem implSaying (a : Option Addr) (n c : Nat) (busy node rank now : Int) (w : World) :
    Calls Tryz.prog 43 #[svV a n c busy node rank now] w fun e w' => e = .returned (.bool (decide (3 < busy))) ∧ Below w.heap.size w w' := by
  go_enter Tryz.func43, Tryz.ntmps43
  go_wp2
  go_ret
  exact ⟨rfl, below_more (Below.refl _ _) _⟩
/-- impl.hasBox. -/
theorem implHasBox (a : Option Addr) (n c : Nat) (busy nd rank now node : Int) (w : World) (hm : n ≤ maxLen) :
    Calls Tryz.prog 42 #[svV a n c busy nd rank now, .int .i64 node] w fun e w' => e = .returned (.bool (rng node 0 ((n : Int) - 1))) ∧ Below w.heap.size w w' := by
  unfold maxLen at hm
  go_enter Tryz.func42, Tryz.ntmps42
  go_wp2_with fail
  refine (implWithin _ _ _ _).mono ?_
  rintro e w1 ⟨rfl, rfl⟩
  go_wp2_with fail
  go_ret
  exact ⟨rfl, below_more (Below.refl _ _) _⟩
set_option maxHeartbeats 1000000 in
/-- impl.boxesOk. -/
theorem implBoxesOk (R : Option Addr → Nat → Nat → Prop) (a : Option Addr) (X : List (List Frm)) (c : Nat) (w : World) (hd : Bxs R a X w) :
    Calls Tryz.prog 51 #[.slice a X.length c] w fun e w' => e = .returned (.bool (boxesB X)) ∧ Below w.heap.size w w' := by
  have hm := hd.1
  unfold maxLen at hm
  go_enter Tryz.func51, Tryz.ntmps51
  go_wp2_with fail
  refine (implWithin _ _ _ _).mono ?_
  rintro e w1 ⟨rfl, rfl⟩
  cases hr : rng (X.length : Int) 2 6
  · have hv : boxesB X = false := by
      rw [Bool.eq_false_iff]
      intro h
      obtain ⟨h1, h2, -⟩ := boxesB_iff.1 h
      rw [rng_iff.2 ⟨by omega, by omega⟩] at hr
      cases hr
    clear hr
    go_wp2_with fail
    go_ret
    exact ⟨by rw [hv]; rfl, Below.refl _ _⟩
  · have h26 := rng_iff.1 hr
    clear hr
    go_wp2_with fail
    go_loopw [11] (fun i wr => ∃ k : Nat, k ≤ X.length ∧ i = .int .i64 k ∧ (∀ j, j < k → boxB (nthB X j) = true) ∧ Below w.heap.size w wr) (fun i _ => X.length - (intOf i).toNat)
    case atStart => exact ⟨0, Nat.zero_le _, rfl, fun j hj => absurd hj (Nat.not_lt_zero _), Below.refl _ _⟩
    case round =>
      obtain ⟨k, hk, rfl, ht, B⟩ := hrel
      by_cases hlt : k < X.length
      · obtain ⟨g, o, al, cl, rfl, hc, hf, -⟩ := (hd.below B).2 k hlt
        generalize hn : nthB X k = L at *
        go_wp2_with fail
        refine (implBoxOk al L cl _ hf).mono ?_
        rintro e w2 ⟨rfl, b2⟩
        replace B := Below.then2 B b2
        clear b2 hf hc
        cases hok : boxB L
        · have hv : boxesB X = false := by
            rw [Bool.eq_false_iff]
            intro h
            have := (boxesB_iff.1 h).2.2 k hlt
            rw [hn, hok] at this
            cases this
          clear hok hn ht
          go_wp2_with fail
          go_ret
          exact ⟨by rw [hv]; rfl, B⟩
        · have ht' : ∀ j, j < k + 1 → boxB (nthB X j) = true := fun j hj => by
            by_cases e : j = k
            · rw [e, hn]; exact hok
            · exact ht j (by omega)
          clear hok hn ht
          go_wp2_with fail
          go_roundw
          case rel => exact ⟨k + 1, by omega, by go_num, ht', B⟩
          case measure => simp [intOf]; omega
      · obtain rfl : k = X.length := by omega
        have hv : boxesB X = true := boxesB_iff.2 ⟨by omega, by omega, ht⟩
        clear ht
        go_wp2_with fail
        go_ret
        exact ⟨by rw [hv]; rfl, B⟩
/-- impl.placeIn, its place told. -/
theorem placeInB (a : Option Addr) (L : List Frm) (c : Nat) (r : Int) (w : World) (hd : Frs a L w) (h16 : L.length ≤ 16) (hr : Rise L L.length) :
    Calls Tryz.prog 78 #[.slice a L.length c, .int .i64 r] w fun e w' => e = .returned (.tuple #[.int .i64 (posN L r L.length : Nat), .bool (hasB L r)]) ∧ Below w.heap.size w w' :=
  (placeIn a L c r w hd h16 hr).mono fun e w' ⟨p, he, hp, b⟩ => ⟨by rw [he, hasB_pos hr hp, (pos_at hr).eq hp], b⟩
set_option maxHeartbeats 2000000 in
/-- impl.senderOk, of right boxes. -/
theorem implSenderOk (R : Option Addr → Nat → Nat → Prop) (a : Option Addr) (X : List (List Frm)) (c : Nat) (busy node rank now : Int) (w : World) (hd : Bxs R a X w) (hb : boxesB X = true) :
    Calls Tryz.prog 52 #[svV a X.length c busy node rank now] w fun e w' => e = .returned (.bool (sndB ⟨X, busy, node, rank, now⟩)) ∧ Below w.heap.size w w' := by
  have hm := hd.1
  have h0 := Sv.made a X.length c busy node rank now w
  have hbx := (boxesB_iff.1 hb).2.2
  replace hb := Lib.hid hb
  replace hbx := Lib.hid hbx
  go_enter Tryz.func52, Tryz.ntmps52
  go_upto_region 1 with fail
  replace hd := hd.below h0.bel
  generalize World.alloc _ _ = W at h0 hd ⊢
  generalize w.heap.size = g1 at h0 ⊢
  go_wp2_with (refine h0.take rfl rfl rfl ?_)
  refine (implSaying _ _ _ _ _ _ _ _).mono ?_
  rintro e w1 ⟨rfl, b1⟩
  replace hd := hd.below b1
  replace h0 := h0.below b1
  clear b1
  by_cases h3 : busy ≤ 3
  · have hd3 : decide (3 < busy) = false := decide_eq_false (by omega)
    have hv : sndB ⟨X, busy, node, rank, now⟩ = (decide (node = 0) && decide (rank = 0)) := if_pos h3
    have c2 := h0.cell 2
    have c3 := h0.cell 3
    have B := h0.bel
    clear h0 hd
    by_cases hn : node = 0
    · have hn' : (node == 0) = true := by simpa using hn
      rw [decide_eq_true hn, Bool.true_and] at hv
      clear hn
      go_wp2_with fail
      go_ret
      exact ⟨by rw [hv]; exact ret_bool (by rw [Bool.eq_iff_iff]; simp), B⟩
    · have hn' : (node == 0) = false := by simpa using hn
      rw [decide_eq_false hn, Bool.false_and] at hv
      clear hn
      go_wp2_with fail
      go_ret
      exact ⟨by rw [hv]; rfl, B⟩
  · have hd3 : decide (3 < busy) = true := decide_eq_true (by omega)
    have c2 := h0.cell 2
    have h0' := h0
    go_wp2_with (refine h0.take rfl rfl rfl ?_)
    refine (implHasBox _ _ _ _ _ _ _ _ _ hm).mono ?_
    rintro e w2 ⟨rfl, b2⟩
    replace hd := hd.below b2
    replace h0' := h0'.below b2
    clear h0 c2 b2 hd3
    cases hr : rng node 0 ((X.length : Int) - 1)
    · have hv : sndB ⟨X, busy, node, rank, now⟩ = false := by
        rw [Bool.eq_false_iff]
        intro h
        have := (sndB_high (s := ⟨X, busy, node, rank, now⟩) (show ¬ busy ≤ 3 by omega)).1 h
        have h2 : node < (X.length : Int) := this.2.1
        rw [rng_iff.2 ⟨show (0 : Int) ≤ node from this.1, by omega⟩] at hr
        cases hr
      have B := h0'.bel
      clear hr hd h0'
      go_wp2_with fail
      go_ret
      exact ⟨by rw [hv]; rfl, B⟩
    · have h1 := rng_iff.1 hr
      obtain ⟨j, rfl⟩ : ∃ j : Nat, node = (j : Int) := ⟨node.toNat, by omega⟩
      have hj : j < X.length := by omega
      have hv : sndB ⟨X, busy, (j : Int), rank, now⟩ = hasB (nthB X j) rank := by
        rw [Bool.eq_iff_iff, sndB_high (s := ⟨X, busy, (j : Int), rank, now⟩) (show ¬ busy ≤ 3 by omega)]
        show (0 : Int) ≤ (j : Int) ∧ (j : Int) < (X.length : Int) ∧ hasB (nthB X (j : Int).toNat) rank = true ↔ _
        rw [Int.toNat_natCast]
        exact ⟨fun h => h.2.2, fun h => ⟨by omega, by omega, h⟩⟩
      have hB := boxB_iff.1 (hbx.out j hj)
      obtain ⟨g, o, al, cl, rfl, hc, hf, -⟩ := hd.2 j hj
      have h16 := hB.1
      replace hB := Lib.hid hB.2
      generalize nthB X j = L at *
      go_wp2_with fail
      clear hr hd h1
      refine region_class (fun u => (u.cell? ⟨g, o + j, none⟩ = some (.slice al L.length cl) ∧ Frs al L u) ∧ Sv g1 (some ⟨g, o, none⟩) X.length c busy (j : Int) rank now w u) (by kernel_rfl) (by kernel_rfl) ⟨⟨hc, hf.drew⟩, h0'.drew⟩ ?_
      clear hc hf h0'
      repeat first
        | go_big_quiet_skip
        | (go_big_quiet_want
           apply Exists.intro
           refine ⟨fun u hu => ?_, ?_⟩
           · apply quietAt_val
             obtain ⟨⟨cc, _⟩, hs⟩ := hu
             have c0 := hs.cell 0
             have c2 := hs.cell 2
             have c3 := hs.cell 3
             go_simp
             rfl
           simp only [Act.put, List.setIfInBounds_toArray, List.set_cons_zero, List.set_cons_succ]
           go_big_quiet_on)
        | (go_big_quiet_want
           apply Exists.intro
           refine ⟨fun u hu => ?_, ?_⟩
           · apply quietAt_enter 78 #[.slice al L.length cl, .int .i64 rank]
             · go_simp
             · refine (placeInB al L cl rank u hu.1.2 h16 hB.out).mono ?_
               rintro e w2 ⟨rfl, b2⟩
               exact ⟨rfl, ⟨(b2.cell (World.block_lt_of_cell? u _ hu.1.1)).trans hu.1.1, hu.1.2.below b2⟩, hu.2.below b2⟩
           simp only [Act.put, List.setIfInBounds_toArray, List.set_cons_zero, List.set_cons_succ]
           go_big_quiet_on)
      refine wpQuiet_nil ?_
      intro W2 L2
      have B := L2.2.bel
      clear L2
      go_wp2_with fail
      go_ret
      exact ⟨by rw [hv]; rfl, B⟩
set_option maxHeartbeats 2000000 in
/-- impl.ServerOk. -/
theorem implServerOk (R : Option Addr → Nat → Nat → Prop) (a : Option Addr) (X : List (List Frm)) (c : Nat) (busy node rank now : Int) (w : World) (hd : Bxs R a X w) :
    Calls Tryz.prog 17 #[svV a X.length c busy node rank now] w fun e w' => e = .returned (.bool (srvB ⟨X, busy, node, rank, now⟩)) ∧ Below w.heap.size w w' := by
  have hm := hd.1
  have h0 := Sv.made a X.length c busy node rank now w
  have hv : Hid (srvB ⟨X, busy, node, rank, now⟩ = (boxesB X && rng busy 0 200 && rng now 0 100000 && sndB ⟨X, busy, node, rank, now⟩)) := Lib.hid rfl
  go_enter Tryz.func17, Tryz.ntmps17
  go_upto_region 1 with fail
  replace hd := hd.below h0.bel
  generalize World.alloc _ _ = W at h0 hd ⊢
  generalize w.heap.size = g1 at h0 ⊢
  have c0 := h0.cell 0
  cases hb : boxesB X
  · have hv : srvB ⟨X, busy, node, rank, now⟩ = false := by rw [hv.out, hb]; rfl
    go_wp2_with fail
    refine (implBoxesOk R a X c _ hd).mono ?_
    rintro e w1 ⟨he, b1⟩
    rw [hb] at he
    subst he
    replace h0 := h0.below b1
    have B := h0.bel
    clear b1 hb c0 h0 hd
    go_wp2_with fail
    go_ret
    exact ⟨by rw [hv]; rfl, B⟩
  have hb' := Lib.hid hb
  go_wp2_with fail
  refine (implBoxesOk R a X c _ hd).mono ?_
  rintro e w1 ⟨he, b1⟩
  rw [hb] at he
  subst he
  replace h0 := h0.below b1
  replace hd := hd.below b1
  clear b1 hb c0
  have c1 := h0.cell 1
  cases h1 : rng busy 0 200
  · have hv : srvB ⟨X, busy, node, rank, now⟩ = false := by rw [hv.out, h1, hb'.out]; rfl
    have B := h0.bel
    go_wp2_with fail
    refine (implWithin _ _ _ _).mono ?_
    rintro e w2 ⟨he, rfl⟩
    rw [h1] at he
    subst he
    clear h1 c1 h0 hd
    go_wp2_with fail
    go_ret
    exact ⟨by rw [hv]; rfl, B⟩
  go_wp2_with fail
  refine (implWithin _ _ _ _).mono ?_
  rintro e w2 ⟨he, rfl⟩
  rw [h1] at he
  subst he
  replace h1 := Lib.hid h1
  clear c1
  have c4 := h0.cell 4
  cases h2 : rng now 0 100000
  · have hv : srvB ⟨X, busy, node, rank, now⟩ = false := by rw [hv.out, h2, h1.out, hb'.out]; rfl
    have B := h0.bel
    go_wp2_with fail
    refine (implWithin _ _ _ _).mono ?_
    rintro e w2 ⟨he, rfl⟩
    rw [h2] at he
    subst he
    clear h2 c4 h0 hd
    go_wp2_with fail
    go_ret
    exact ⟨by rw [hv]; rfl, B⟩
  have hvs : srvB ⟨X, busy, node, rank, now⟩ = sndB ⟨X, busy, node, rank, now⟩ := by rw [hv.out, h2, h1.out, hb'.out]; rfl
  go_wp2_with fail
  refine (implWithin _ _ _ _).mono ?_
  rintro e w2 ⟨he, rfl⟩
  rw [h2] at he
  subst he
  clear h2 c4 hv
  go_wp2_with (refine h0.take rfl rfl rfl ?_)
  refine (implSenderOk R a X c busy node rank now _ hd hb'.out).mono ?_
  rintro e w2 ⟨rfl, b2⟩
  replace h0 := h0.below b2
  have B := h0.bel
  clear h0 b2 hd
  go_wp2_with fail
  go_ret
  exact ⟨by rw [hvs]; rfl, B⟩
end Go.Proofs.YtnhmecabppaboaaGreat

/- spec.ServerOk and what it asks. -/

set_option linter.unusedVariables false
set_option linter.unusedSimpArgs false
set_option maxRecDepth 20000
namespace Go.Proofs.YtnhmecabppaboaaGreat
open Go.RowKit

theorem l1InR (x lo hi : Int) (w : World) : Calls Tryz.prog 35 #[.int .i64 x, .int .i64 lo, .int .i64 hi] w fun e w' => e = .returned (.bool (rng x lo hi)) ∧ w = w' := l1In x lo hi w
theorem hasB_stop {L : List Frm} {r : Int} {k : Nat} (hk : k < L.length) (h : rkF (nthF L k) = r) : hasB L r = true := hasB_iff.2 ⟨k, hk, h⟩
theorem hasB_none {L : List Frm} {r : Int} (h : ∀ j, j < L.length → rkF (nthF L j) ≠ r) : hasB L r = false := by
  rw [Bool.eq_false_iff]
  intro e
  obtain ⟨j, hj, e⟩ := hasB_iff.1 e
  exact h j hj e
theorem frm_eta (f : Frm) : rankV f.id f.rm f.ln f.D = rkF f := rfl
set_option maxHeartbeats 1000000 in
/-- spec.l14Has. -/
theorem specHas (a : Option Addr) (L : List Frm) (c : Nat) (r : Int) (w : World) (hd : Frs a L w) :
    Calls Tryz.prog 54 #[.slice a L.length c, .int .i64 r] w fun e w' => e = .returned (.bool (hasB L r)) ∧ Below w.heap.size w w' := by
  have hm := hd.1
  unfold maxLen at hm
  go_enter Tryz.func54, Tryz.ntmps54
  go_wp2_with fail
  go_loopw [5] (fun i wr => ∃ k : Nat, k ≤ L.length ∧ i = .int .i64 k ∧ (∀ j, j < k → rkF (nthF L j) ≠ r) ∧ Below w.heap.size w wr) (fun i _ => L.length - (intOf i).toNat)
  case atStart => exact ⟨0, Nat.zero_le _, rfl, fun j hj => absurd hj (Nat.not_lt_zero _), Below.refl _ _⟩
  case round =>
    obtain ⟨k, hk, rfl, ht, B⟩ := hrel
    by_cases hlt : k < L.length
    · obtain ⟨g, o, ad, cc, rfl, ⟨c0, c1, c2, c3⟩, hn⟩ := (hd.below B).2 k hlt
      generalize hf : nthF L k = f at *
      go_wp2_with fail
      refine (specRankOf f.id f.rm f.ln ad f.D cc _ hn).mono ?_
      rintro e w2 ⟨he, b2⟩
      rw [frm_eta] at he
      subst he
      replace B := Below.then2 B b2
      clear b2 hn c0 c1 c2 c3
      by_cases hr : rkF f = r
      · have hv : hasB L r = true := hasB_stop hlt (by rw [hf]; exact hr)
        have hr' : (rkF f == r) = true := by simpa using hr
        clear hr ht hf
        go_wp2_with fail
        go_ret
        exact ⟨by rw [hv]; rfl, B⟩
      · have hr' : (rkF f == r) = false := by simpa using hr
        have ht' : ∀ j, j < k + 1 → rkF (nthF L j) ≠ r := fun j hj => by
          by_cases e : j = k
          · rw [e, hf]; exact hr
          · exact ht j (by omega)
        clear hr ht hf
        go_wp2_with fail
        go_roundw
        case rel => exact ⟨k + 1, by omega, by go_num, ht', B⟩
        case measure => simp [intOf]; omega
    · obtain rfl : k = L.length := by omega
      have hv : hasB L r = false := hasB_none ht
      clear ht
      go_wp2_with fail
      go_ret
      exact ⟨by rw [hv]; rfl, B⟩
set_option maxHeartbeats 4000000 in
/-- spec.ServerOk. -/
theorem specServerOk (R : Option Addr → Nat → Nat → Prop) (a : Option Addr) (X : List (List Frm)) (c : Nat) (busy node rank now : Int) (w : World) (hd : Bxs R a X w) :
    Calls Tryz.prog 18 #[svV a X.length c busy node rank now] w fun e w' => e = .returned (.bool (srvB ⟨X, busy, node, rank, now⟩)) ∧ Below w.heap.size w w' := by
  have hm := hd.1
  unfold maxLen at hm
  have h0 := Sv.made a X.length c busy node rank now w
  have hv : Hid (srvB ⟨X, busy, node, rank, now⟩ = true ↔ (boxesB X = true ∧ rng busy 0 200 = true ∧ rng now 0 100000 = true ∧ sndB ⟨X, busy, node, rank, now⟩ = true)) := Lib.hid (by
    rw [srvB_iff, rng_iff, rng_iff]
    exact ⟨fun ⟨a, b, c, d, e, f⟩ => ⟨a, ⟨b, c⟩, ⟨d, e⟩, f⟩, fun ⟨a, ⟨b, c⟩, ⟨d, e⟩, f⟩ => ⟨a, b, c, d, e, f⟩⟩)
  go_enter Tryz.func18, Tryz.ntmps18
  go_upto_region 1 with fail
  replace hd := hd.below h0.bel
  generalize World.alloc _ _ = W at h0 hd ⊢
  generalize w.heap.size = g1 at h0 ⊢
  have c0 := h0.cell 0
  have c1 := h0.cell 1
  have c4 := h0.cell 4
  have B := h0.bel
  cases hr : rng (X.length : Int) 2 6
  · have hv : srvB ⟨X, busy, node, rank, now⟩ = false := by
      rw [Bool.eq_false_iff]
      intro h
      obtain ⟨h1, h2, -⟩ := boxesB_iff.1 (hv.out.1 h).1
      rw [rng_iff.2 ⟨by omega, by omega⟩] at hr
      cases hr
    go_wp2_with fail
    refine (l1InR _ _ _ _).mono ?_
    rintro e w1 ⟨he, rfl⟩
    rw [hr] at he
    subst he
    clear hr h0 hd
    go_wp2_with fail
    go_ret
    exact ⟨by rw [hv]; rfl, B⟩
  have h26 := rng_iff.1 hr
  go_wp2_with fail
  refine (l1InR _ _ _ _).mono ?_
  rintro e w1 ⟨he, rfl⟩
  rw [hr] at he
  subst he
  clear hr
  cases h1 : rng busy 0 200
  · have hv : srvB ⟨X, busy, node, rank, now⟩ = false := by
      rw [Bool.eq_false_iff]
      intro h
      rw [(hv.out.1 h).2.1] at h1
      cases h1
    go_wp2_with fail
    refine (l1InR _ _ _ _).mono ?_
    rintro e w1 ⟨he, rfl⟩
    rw [h1] at he
    subst he
    clear h1 h0 hd
    go_wp2_with fail
    go_ret
    exact ⟨by rw [hv]; rfl, B⟩
  go_wp2_with fail
  refine (l1InR _ _ _ _).mono ?_
  rintro e w1 ⟨he, rfl⟩
  rw [h1] at he
  subst he
  replace h1 := Lib.hid h1
  cases h2 : rng now 0 100000
  · have hv : srvB ⟨X, busy, node, rank, now⟩ = false := by
      rw [Bool.eq_false_iff]
      intro h
      rw [(hv.out.1 h).2.2.1] at h2
      cases h2
    go_wp2_with fail
    refine (l1InR _ _ _ _).mono ?_
    rintro e w1 ⟨he, rfl⟩
    rw [h2] at he
    subst he
    clear h2 h0 hd
    go_wp2_with fail
    go_ret
    exact ⟨by rw [hv]; rfl, B⟩
  go_wp2_with fail
  refine (l1InR _ _ _ _).mono ?_
  rintro e w1 ⟨he, rfl⟩
  rw [h2] at he
  subst he
  replace h2 := Lib.hid h2
  clear c0 c1 c4
  go_wp2_with fail
  go_loopw [3] (fun i wr => ∃ k : Nat, k ≤ X.length ∧ i = .int .i64 k ∧ (∀ j, j < k → boxB (nthB X j) = true) ∧ Sv g1 a X.length c busy node rank now w wr ∧ Bxs R a X wr) (fun i _ => X.length - (intOf i).toNat)
  case atStart => exact ⟨0, Nat.zero_le _, rfl, fun j hj => absurd hj (Nat.not_lt_zero _), h0, hd⟩
  case round =>
    clear hd h0 B
    obtain ⟨k, hk, rfl, ht, h0, hd⟩ := hrel
    have c0 := h0.cell 0
    by_cases hlt : k < X.length
    · obtain ⟨g, o, al, cl, rfl, hc, hf, -⟩ := hd.2 k hlt
      generalize hn : nthB X k = L at *
      go_wp2_with fail
      refine (specBoxOk al L cl _ hf).mono ?_
      rintro e w2 ⟨rfl, b2⟩
      replace h0 := h0.below b2
      replace hd := hd.below b2
      clear b2 hf hc c0
      cases hok : boxB L
      · have hv : srvB ⟨X, busy, node, rank, now⟩ = false := by
          rw [Bool.eq_false_iff]
          intro h
          have := (boxesB_iff.1 (hv.out.1 h).1).2.2 k hlt
          rw [hn, hok] at this
          cases this
        have B := h0.bel
        clear hok hn ht h0 hd
        go_wp2_with fail
        go_ret
        exact ⟨by rw [hv]; rfl, B⟩
      · have ht' : ∀ j, j < k + 1 → boxB (nthB X j) = true := fun j hj => by
          by_cases e : j = k
          · rw [e, hn]; exact hok
          · exact ht j (by omega)
        clear hok hn ht
        go_wp2_with fail
        go_roundw
        case rel => exact ⟨k + 1, by omega, by go_num, ht', h0, hd⟩
        case measure => simp [intOf]; omega
    · obtain rfl : k = X.length := by omega
      have hvs : Hid (srvB ⟨X, busy, node, rank, now⟩ = sndB ⟨X, busy, node, rank, now⟩) := Lib.hid (by
        rw [Bool.eq_iff_iff, hv.out]
        exact ⟨fun h => h.2.2.2, fun h => ⟨boxesB_iff.2 ⟨by omega, by omega, ht⟩, h1.out, h2.out, h⟩⟩)
      clear ht hv
      have c1 := h0.cell 1
      by_cases h3 : busy ≤ 3
      · have hd3 : decide (busy ≤ 3) = true := decide_eq_true h3
        have hv : sndB ⟨X, busy, node, rank, now⟩ = (decide (node = 0) && decide (rank = 0)) := if_pos h3
        have c2 := h0.cell 2
        have c3 := h0.cell 3
        have B := h0.bel
        clear h0 hd
        by_cases hn : node = 0
        · have hn' : (node == 0) = true := by simpa using hn
          rw [decide_eq_true hn, Bool.true_and] at hv
          clear hn
          replace hv := Lib.hid hv
          go_wp2_with fail
          go_ret
          exact ⟨by rw [hvs.out, hv.out]; exact ret_bool (by rw [Bool.eq_iff_iff]; simp), B⟩
        · have hn' : (node == 0) = false := by simpa using hn
          rw [decide_eq_false hn, Bool.false_and] at hv
          clear hn
          replace hv := Lib.hid hv
          go_wp2_with fail
          go_ret
          exact ⟨by rw [hvs.out, hv.out]; rfl, B⟩
      · have hd3 : decide (busy ≤ 3) = false := decide_eq_false h3
        have hsub : IntKind.i64.wrap ((X.length : Int) - 1) = (X.length : Int) - 1 := IntWalk.i64_in _ (by omega)
        cases hr : rng node 0 ((X.length : Int) - 1)
        · have hv : sndB ⟨X, busy, node, rank, now⟩ = false := by
            rw [Bool.eq_false_iff]
            intro h
            have := (sndB_high (s := ⟨X, busy, node, rank, now⟩) h3).1 h
            have h2 : node < (X.length : Int) := this.2.1
            rw [rng_iff.2 ⟨show (0 : Int) ≤ node from this.1, by omega⟩] at hr
            cases hr
          replace hv := Lib.hid hv
          go_wp2_with fail
          refine region_class (fun u => Sv g1 a X.length c busy node rank now w u) (by kernel_rfl) (by kernel_rfl) h0.drew ?_
          clear h0 hd c0 c1
          repeat first
            | go_big_quiet_skip
            | (go_big_quiet_want
               apply Exists.intro
               refine ⟨fun u hu => ?_, ?_⟩
               · apply quietAt_val
                 have c0 := hu.cell 0
                 have c2 := hu.cell 2
                 have c3 := hu.cell 3
                 go_simp
                 rfl
               simp only [Act.put, List.setIfInBounds_toArray, List.set_cons_zero, List.set_cons_succ]
               go_big_quiet_on)
            | (go_big_quiet_want
               apply Exists.intro
               refine ⟨fun u hu => ?_, ?_⟩
               · apply quietAt_enter 35 #[.int .i64 node, .int .i64 0, .int .i64 ((X.length : Int) - 1)]
                 · go_simp
                 · refine (l1InR node 0 ((X.length : Int) - 1) u).mono ?_
                   rintro e w2 ⟨he, rfl⟩
                   rw [hr] at he
                   exact ⟨he, hu⟩
               simp only [Act.put, List.setIfInBounds_toArray, List.set_cons_zero, List.set_cons_succ]
               go_big_quiet_on)
          refine wpQuiet_nil ?_
          intro W2 L2
          have B := L2.bel
          clear L2 hr
          go_wp2_with fail
          go_ret
          exact ⟨by rw [hvs.out, hv.out]; rfl, B⟩
        · have h1 := rng_iff.1 hr
          obtain ⟨j, rfl⟩ : ∃ j : Nat, node = (j : Int) := ⟨node.toNat, by omega⟩
          have hj : j < X.length := by omega
          have hv : sndB ⟨X, busy, (j : Int), rank, now⟩ = hasB (nthB X j) rank := by
            rw [Bool.eq_iff_iff, sndB_high (s := ⟨X, busy, (j : Int), rank, now⟩) h3]
            show (0 : Int) ≤ (j : Int) ∧ (j : Int) < (X.length : Int) ∧ hasB (nthB X (j : Int).toNat) rank = true ↔ _
            rw [Int.toNat_natCast]
            exact ⟨fun h => h.2.2, fun h => ⟨by omega, by omega, h⟩⟩
          obtain ⟨g, o, al, cl, rfl, hc, hf, -⟩ := hd.2 j hj
          generalize nthB X j = L at *
          replace hv := Lib.hid hv
          go_wp2_with fail
          clear hd h1
          refine region_class (fun u => (u.cell? ⟨g, o + j, none⟩ = some (.slice al L.length cl) ∧ Frs al L u) ∧ Sv g1 (some ⟨g, o, none⟩) X.length c busy (j : Int) rank now w u) (by kernel_rfl) (by kernel_rfl) ⟨⟨hc, hf.drew⟩, h0.drew⟩ ?_
          clear hc hf h0 c0 c1
          repeat first
            | go_big_quiet_skip
            | (go_big_quiet_want
               apply Exists.intro
               refine ⟨fun u hu => ?_, ?_⟩
               · apply quietAt_val
                 obtain ⟨⟨cc, _⟩, hs⟩ := hu
                 have c0 := hs.cell 0
                 have c2 := hs.cell 2
                 have c3 := hs.cell 3
                 go_simp
                 rfl
               simp only [Act.put, List.setIfInBounds_toArray, List.set_cons_zero, List.set_cons_succ]
               go_big_quiet_on)
            | (go_big_quiet_want
               apply Exists.intro
               refine ⟨fun u hu => ?_, ?_⟩
               · apply quietAt_enter 35 #[.int .i64 (j : Int), .int .i64 0, .int .i64 ((X.length : Int) - 1)]
                 · go_simp
                 · refine (l1InR (j : Int) 0 ((X.length : Int) - 1) u).mono ?_
                   rintro e w2 ⟨he, rfl⟩
                   rw [hr] at he
                   exact ⟨he, hu⟩
               simp only [Act.put, List.setIfInBounds_toArray, List.set_cons_zero, List.set_cons_succ]
               go_big_quiet_on)
            | (go_big_quiet_want
               apply Exists.intro
               refine ⟨fun u hu => ?_, ?_⟩
               · apply quietAt_enter 54 #[.slice al L.length cl, .int .i64 rank]
                 · go_simp
                 · refine (specHas al L cl rank u hu.1.2).mono ?_
                   rintro e w2 ⟨rfl, b2⟩
                   exact ⟨rfl, ⟨(b2.cell (World.block_lt_of_cell? u _ hu.1.1)).trans hu.1.1, hu.1.2.below b2⟩, hu.2.below b2⟩
               simp only [Act.put, List.setIfInBounds_toArray, List.set_cons_zero, List.set_cons_succ]
               go_big_quiet_on)
          refine wpQuiet_nil ?_
          intro W2 L2
          have B := L2.2.bel
          clear L2 hr
          go_wp2_with fail
          go_ret
          exact ⟨by rw [hvs.out, hv.out]; rfl, B⟩
end Go.Proofs.YtnhmecabppaboaaGreat

/- Copies of servers: impl.copiedServer, spec.l14Copy. -/

set_option linter.unusedVariables false
set_option linter.unusedSimpArgs false
set_option maxRecDepth 20000
namespace Go.Proofs.YtnhmecabppaboaaGreat
open Go.RowKit

theorem box_small {X : List (List Frm)} (h : boxesB X = true) {j : Nat} (hj : j < X.length) : (nthB X j).length ≤ 16 ∧ ∀ i, i < (nthB X j).length → (nthF (nthB X j) i).D.length ≤ 8 := by
  have hb := boxB_iff.1 ((boxesB_iff.1 h).2.2 j hj)
  exact ⟨hb.1, fun i hi => hb.2.short hi⟩
/-- The answer: a server of the call's own. -/
def SrO (s : Srv) (w : World) (e : Ending) (w' : World) : Prop :=
  ∃ G L H, e = .returned (svV (some ⟨G, 0, none⟩) s.bx.length s.bx.length s.busy s.node s.rank s.now) ∧ BoxO True G s.bx.length (fun j => j < s.bx.length) s.bx L H w' ∧ FromB w.heap.size G s.bx.length L ∧ Below w.heap.size w w'
/-- Five cells of one block, stored one after another. -/
theorem set5 {g : Nat} {C : Array Value} {T : TypeId} {w : World} (h : w.heap[g]? = some (.cells C T (0, 0))) (v0 v1 v2 v3 v4 : Value) :
    (((((w.setCell ⟨g, 0, none⟩ v0).setCell ⟨g, 1, none⟩ v1).setCell ⟨g, 2, none⟩ v2).setCell ⟨g, 3, none⟩ v3).setCell ⟨g, 4, none⟩ v4).heap[g]? = some (.cells (((((C.setIfInBounds 0 v0).setIfInBounds 1 v1).setIfInBounds 2 v2).setIfInBounds 3 v3).setIfInBounds 4 v4) T (0, 0))
    ∧ Mid g (g + 1) w (((((w.setCell ⟨g, 0, none⟩ v0).setCell ⟨g, 1, none⟩ v1).setCell ⟨g, 2, none⟩ v2).setCell ⟨g, 3, none⟩ v3).setCell ⟨g, 4, none⟩ v4) :=
  ⟨heap_setCell_same _ _ _ _ _ _ (heap_setCell_same _ _ _ _ _ _ (heap_setCell_same _ _ _ _ _ _ (heap_setCell_same _ _ _ _ _ _ (heap_setCell_same _ _ _ _ _ _ h)))),
   ((((mid_cell _ _ _ _).trans (mid_cell _ _ _ _)).trans (mid_cell _ _ _ _)).trans (mid_cell _ _ _ _)).trans (mid_cell _ _ _ _)⟩
set_option maxHeartbeats 4000000 in
/-- impl.copiedServer, of right boxes. -/
theorem implCopiedServer (R : Option Addr → Nat → Nat → Prop) (a : Option Addr) (X : List (List Frm)) (c : Nat) (busy node rank now : Int) (w : World) (hd : Bxs R a X w) (hb : boxesB X = true) :
    Calls Tryz.prog 32 #[svV a X.length c busy node rank now] w (SrO ⟨X, busy, node, rank, now⟩ w) := by
  have h26 := boxesB_iff.1 hb
  obtain ⟨h2, h6, -⟩ := h26
  have hsm : Hid (∀ j, j < X.length → (nthB X j).length ≤ 16 ∧ ∀ i, i < (nthB X j).length → (nthF (nthB X j) i).D.length ≤ 8) := Lib.hid fun j hj => box_small hb hj
  replace hb := Lib.hid hb
  obtain ⟨HC, HR, B⟩ := two_made w (svC a X.length c busy node rank now) (svC none 0 0 0 0 0 0) 26 26
  have hz : ((w.alloc (.cells (svC a X.length c busy node rank now) 26)).alloc (.cells (svC none 0 0 0 0 0 0) 26)).heap.size = w.heap.size + 2 := by simp
  have hmk := make_boxes X.length (by omega)
  go_enter Tryz.func32, Tryz.ntmps32
  go_upto_region 1 with fail
  have hd0 := hd
  replace hd := hd.below B
  generalize World.alloc _ _ = W at HC HR B hz hd ⊢
  have c0 := cell_of_row W w.heap.size 0 _ _ _ HC
  go_upto_region 2 with fail
  clear hmk c0
  have ba : Below W.heap.size W (W.alloc (.cells (madeCells #[.slice none 0 0] X.length) 64)) := below_more (Below.refl _ _) _
  have hG := heap_alloc_new W (.cells (madeCells #[.slice none 0 0] X.length) 64)
  have hz2 : (W.alloc (.cells (madeCells #[.slice none 0 0] X.length) 64)).heap.size = w.heap.size + 3 := by simp; omega
  replace HC := (ba.block _ (by omega)).trans HC
  replace HR := (ba.block _ (by omega)).trans HR
  replace B := Below.then2 B ba
  replace hd := hd.below ba
  have R0 : BoxO True W.heap.size X.length (fun j => j < 0) X (fun _ => 0) (fun _ => 0) (W.alloc (.cells (madeCells #[.slice none 0 0] X.length) 64)) := BoxO.start _ _ _ _ _ _ _ _ hG (by simp [madeCells])
  clear ba hG
  generalize hW2 : W.alloc _ = W2 at *
  clear hW2
  rw [hz] at R0
  clear hz hd
  have c0 := cell_of_row W2 w.heap.size 0 _ _ _ HC
  go_wp2_with fail
  clear c0
  go_loopw [13] (fun i wr => ∃ (k : Nat) (L H : Nat → Nat), k ≤ X.length ∧ i = .int .i64 k ∧ BoxO True (w.heap.size + 2) X.length (fun j => j < k) X L H wr ∧ FromB (w.heap.size + 2) (w.heap.size + 2) k L ∧ wr.heap[w.heap.size]? = some (.cells (svC a X.length c busy node rank now) 26 (0, 0)) ∧ wr.heap[w.heap.size + 1]? = some (.cells (svC none 0 0 0 0 0 0) 26 (0, 0)) ∧ Below w.heap.size w wr) (fun i _ => X.length - (intOf i).toNat)
  case atStart => exact ⟨0, _, _, Nat.zero_le _, rfl, R0, ⟨Nat.le_refl _, fun j hj => absurd hj (by omega)⟩, HC, HR, B⟩
  case round =>
    clear R0 HC HR B hz2
    obtain ⟨k, L, H, hk, rfl, R0, hB, HC, HR, b⟩ := hrel
    have hG := R0.lt
    by_cases hlt : k < X.length
    · obtain ⟨g, o, al, cl, rfl, hc, hf, -⟩ := (hd0.below b).2 k hlt
      obtain ⟨hs16, hs8⟩ := hsm.out k hlt
      replace hs8 := Lib.hid hs8
      have hnn : ∃ M, M = nthB X k := ⟨_, rfl⟩
      obtain ⟨M, hnn⟩ := hnn
      rw [← hnn] at hc hf hs16 hs8
      have hH : ∀ j, j < k → H j ≤ wr.heap.size := fun j hj => (R0.out j hj).2.1
      replace hnn := Lib.hid hnn
      replace hH := Lib.hid hH
      go_wp2_with fail
      refine (copiedFramesB al M cl _ hf (by omega) (fun i hi => by have := hs8.out i hi; omega)).mono ?_
      intro e w2 G3
      obtain ⟨a3, c3, rfl, OL, b4⟩ := OwnX.got G3
      have hle := b4.size
      replace HC := (b4.block _ (by omega)).trans HC
      replace HR := (b4.block _ (by omega)).trans HR
      replace R0 := R0.below b4
      replace b := Below.then2 b b4
      obtain ⟨cur, hcb, hcs, -⟩ := R0.row
      have hck : ∃ x, w2.cell? ⟨w.heap.size + 2, k, none⟩ = some x := by
        rw [cell_of_row w2 _ _ _ _ _ hcb, Array.getElem?_eq_getElem (by omega)]
        exact ⟨_, rfl⟩
      obtain ⟨x, hck⟩ := hck
      have f0 := frozen_of_row w2 (w.heap.size + 2) k _ _ hcb
      clear b4 hf hc G3 hcb hcs
      go_wp2_with fail
      rw [hnn.out] at OL
      obtain ⟨L', H', R1, hB1, -⟩ := R0.push hB hlt OL hle (Nat.le_refl _) (.inl hG) hH.out (by omega)
      rw [← hnn.out] at R1
      have m := mid_cell w2 (w.heap.size + 2) k (.slice a3 M.length c3)
      replace HC := (m.block w.heap.size (Array.getElem?_eq_some_iff.1 HC).1 (by omega)).trans HC
      replace HR := (m.block (w.heap.size + 1) (Array.getElem?_eq_some_iff.1 HR).1 (by omega)).trans HR
      have b5 := b.trans (m.below (B := w.heap.size) (by omega) b.size)
      clear R0 m b hck f0
      go_roundw
      case rel => exact ⟨k + 1, L', H', by omega, by go_num, R1, hB1, HC, HR, b5⟩
      case measure => simp [intOf]; omega
    · obtain rfl : k = X.length := by omega
      have d0 := cell_of_row wr w.heap.size 0 _ _ _ HC
      have d1 := cell_of_row wr w.heap.size 1 _ _ _ HC
      have d2 := cell_of_row wr w.heap.size 2 _ _ _ HC
      have d3 := cell_of_row wr w.heap.size 3 _ _ _ HC
      have d4 := cell_of_row wr w.heap.size 4 _ _ _ HC
      have f0 := frozen_of_row wr w.heap.size 0 _ _ HC
      have e0 := cell_of_row wr (w.heap.size + 1) 0 _ _ _ HR
      have e1 := cell_of_row wr (w.heap.size + 1) 1 _ _ _ HR
      have e2 := cell_of_row wr (w.heap.size + 1) 2 _ _ _ HR
      have e3 := cell_of_row wr (w.heap.size + 1) 3 _ _ _ HR
      have e4 := cell_of_row wr (w.heap.size + 1) 4 _ _ _ HR
      have k0 := frozen_of_row wr (w.heap.size + 1) 0 _ _ HR
      have k1 := frozen_of_row wr (w.heap.size + 1) 1 _ _ HR
      have k2 := frozen_of_row wr (w.heap.size + 1) 2 _ _ HR
      have k3 := frozen_of_row wr (w.heap.size + 1) 3 _ _ HR
      have k4 := frozen_of_row wr (w.heap.size + 1) 4 _ _ HR
      go_wp2_with fail
      clear d0 d1 d2 d3 d4 f0 e0 e1 e2 e3 e4 k0 k1 k2 k3 k4
      have m1 := mid_cell wr w.heap.size 0 (.slice (some ⟨w.heap.size + 2, 0, none⟩) X.length X.length)
      replace HR := (m1.block (w.heap.size + 1) (Array.getElem?_eq_some_iff.1 HR).1 (by omega)).trans HR
      obtain ⟨HR', m2⟩ := set5 HR (.slice (some ⟨w.heap.size + 2, 0, none⟩) X.length X.length) (.int .i64 busy) (.int .i64 node) (.int .i64 rank) (.int .i64 now)
      have m := (m1.wide (lo' := w.heap.size) (hi' := w.heap.size + 2) (Nat.le_refl _) (by omega)).trans (m2.wide (lo' := w.heap.size) (hi' := w.heap.size + 2) (by omega) (by omega))
      clear m1 m2
      generalize World.setCell _ _ _ = w2 at m HR' ⊢
      have O' := R0.kp (Y := fun q => q < w.heap.size ∨ w.heap.size + 2 ≤ q) ⟨m.size, fun q hq hl => m.block q hl hq, m.os, m.tape, m.output⟩ (.inr (Nat.le_refl _)) (fun j hj q h1 h2 => .inr (by have := hB.2 j hj; omega))
      have B' := b.trans (m.below (B := w.heap.size) (Nat.le_refl _) b.size)
      refine bodyPost_ret (v := svV (some ⟨w.heap.size + 2, 0, none⟩) X.length X.length busy node rank now) ?_ rfl ⟨_, L, H, rfl, O', ⟨by omega, fun j hj => by have := hB.2 j hj; omega⟩, B'⟩
      exact results_cell_row rfl _ w2 (w.heap.size + 1) 26 _ (0, 0) _ rfl HR' Tryz.underlying26 rfl (by kernel_rfl)
end Go.Proofs.YtnhmecabppaboaaGreat

/- A row of lists of frames that grows by append; spec.l14Copy. -/

set_option linter.unusedVariables false
set_option linter.unusedSimpArgs false
set_option maxRecDepth 20000
namespace Go.Proofs.YtnhmecabppaboaaGreat
open Go.RowKit

def SepX (M : Nat → Nat → List Frm → Value → World → Prop) : Prop := ∀ (lo hi : Nat) (n : List Frm) (p : Value) (w w' : World) (a b : Nat), M lo hi n p w → Mid a b w w' → (hi ≤ a ∨ b ≤ lo) → hi ≤ w.heap.size → M lo hi n p w'
theorem ownX_sep (Q : Prop) : SepX (OwnX Q) := fun lo hi e p w w' a b h m hs hh => h.kp (Y := fun q => q < a ∨ b ≤ q) ⟨m.size, fun q hq hl => m.block q hl hq, m.os, m.tape, m.output⟩ fun q h1 h2 => by
  show q < a ∨ b ≤ q
  omega
/-! ### The nodes' cells, one behind the other. -/
def flatX (N : List (List Frm)) (P : Nat → Value) (k : Nat) : List Value := (List.range k).flatMap fun j => [P j]
theorem flatX_succ (N : List (List Frm)) (P : Nat → Value) (k : Nat) : flatX N P (k + 1) = flatX N P k ++ [P k] := by simp [flatX, List.range_succ]
theorem flatX_len (N : List (List Frm)) (P : Nat → Value) : ∀ k, (flatX N P k).length = k * 1
  | 0 => rfl
  | k + 1 => by rw [flatX_succ, List.length_append, flatX_len N P k]; show k * 1 + 1 = _; omega
theorem flatX_at (N : List (List Frm)) (P : Nat → Value) : ∀ (k j i : Nat) (v : Value), j < k → [P j][i]? = some v → (flatX N P k)[j * 1 + i]? = some v
  | 0, j, i, v, hj, _ => absurd hj (by omega)
  | k + 1, j, i, v, hj, hv => by
    have hi : i < 1 := (List.getElem?_eq_some_iff.1 hv).1
    rw [flatX_succ]
    by_cases e : j = k
    · subst e
      rw [List.getElem?_append_right (by rw [flatX_len]; omega), flatX_len, show j * 1 + i - j * 1 = i by omega]
      exact hv
    · rw [List.getElem?_append_left (by rw [flatX_len]; omega)]
      exact flatX_at N P k j i v (by omega) hv
theorem flatX_congr (N N' : List (List Frm)) (P P' : Nat → Value) (k : Nat) (hN : ∀ j, j < k → nthB N' j = nthB N j) (hP : ∀ j, j < k → P' j = P j) : flatX N' P' k = flatX N P k := by
  induction k with
  | zero => rfl
  | succ k ih => rw [flatX_succ, flatX_succ, ih (fun j hj => hN j (by omega)) (fun j hj => hP j (by omega)), hP k (by omega)]

structure RowX (M : Nat → Nat → List Frm → Value → World → Prop) (B k : Nat) (N : List (List Frm)) (P : Nat → Value) (L H : Nat → Nat) (v : Value) (w : World) : Prop where
  own : w.ownsRow B 64 1 v k (flatX N P k)
  mem : ∀ j, j < k → M (L j) (H j) (nthB N j) (P j) w
  out : ∀ j, j < k → B ≤ L j ∧ L j ≤ H j ∧ H j ≤ w.heap.size
  far : ∀ i j, i < j → j < k → H i ≤ L j
  apart : ∀ j, j < k → ∀ g, v.ownBlock = some g → g < L j ∨ H j ≤ g
  lt : ∀ g, v.ownBlock = some g → g < w.heap.size
section
variable {M : Nat → Nat → List Frm → Value → World → Prop} {B k : Nat} {N : List (List Frm)} {P : Nat → Value} {L H : Nat → Nat} {v : Value} {w w' : World}
theorem RowX.nil (M : Nat → Nat → List Frm → Value → World → Prop) (B : Nat) (N : List (List Frm)) (P : Nat → Value) (L H : Nat → Nat) (w : World) : RowX M B 0 N P L H (.slice none 0 0) w :=
  ⟨⟨rfl, .inl ⟨rfl, rfl⟩⟩, fun j hj => absurd hj (by omega), fun j hj => absurd hj (by omega), fun i j _ hj => absurd hj (by omega), fun j hj => absurd hj (by omega), fun g hg => by cases hg⟩
theorem RowX.is (h : RowX M B k N P L H v w) : ∃ a c, v = .slice a k c := by
  rcases h.own.2 with ⟨rfl, rfl⟩ | ⟨g, cap, cur, rfl, _⟩
  · exact ⟨_, _, rfl⟩
  · exact ⟨_, _, rfl⟩
/-- Where something else turns, all stays. -/
theorem RowX.sep (hM : SepX M) (h : RowX M B k N P L H v w) {a b : Nat} (m : Mid a b w w') (hs : ∀ g, v.ownBlock = some g → g < a ∨ b ≤ g) (hj : ∀ j, j < k → H j ≤ a ∨ b ≤ L j) : RowX M B k N P L H v w' :=
  ⟨ownsRow_mid h.own m hs, fun j hk => hM _ _ _ _ _ _ _ _ (h.mem j hk) m (hj j hk) (h.out j hk).2.2, fun j hk => by have := h.out j hk; have := m.size; omega, h.far, h.apart, fun g hg => by have := h.lt g hg; have := m.size; omega⟩
theorem RowX.below (hM : SepX M) (h : RowX M B k N P L H v w) (b : Below w.heap.size w w') : RowX M B k N P L H v w' :=
  h.sep hM (Mid.ofBelow (lo := w.heap.size) (hi := w.heap.size) b) (fun g hg => .inl (h.lt g hg)) (fun j hj => .inl (h.out j hj).2.2)
/-- One more. -/
theorem RowX.app (hM : SepX M) (h : RowX M B k N P L H v w) {p : Value} {lo hi : Nat} {v' : Value} (hm : M lo hi (nthB N k) p w) (hB : B ≤ lo) (hlh : lo ≤ hi) (hhi : hi ≤ w.heap.size) (hlo : ∀ j, j < k → H j ≤ lo) (hg : ∀ g, v.ownBlock = some g → g < lo)
    (r1 : w'.ownsRow B 64 1 v' (k + 1) (flatX N P k ++ [p])) (r2 : w.grownBy w' v.ownBlock) (r4 : v'.ownBlock = v.ownBlock ∨ v'.ownBlock = some w.heap.size) :
    RowX M B (k + 1) N (fun j => if j = k then p else P j) (fun j => if j = k then lo else L j) (fun j => if j = k then hi else H j) v' w' := by
  have hmid : ∃ a b, Mid a b w w' ∧ (∀ g, a ≤ g → g < b → v.ownBlock = some g) := by
    cases hv : v.ownBlock with
    | none => exact ⟨0, 0, (Mid.refl 0 0 w).grown (by rw [hv] at r2; exact r2) (fun q e => by cases e), fun g _ h => by omega⟩
    | some g => exact ⟨g, g + 1, (Mid.refl g (g + 1) w).grown (by rw [hv] at r2; exact r2) (fun q e => by cases e; omega), fun q h1 h2 => by rw [show q = g by omega]⟩
  obtain ⟨a, b, m, hab⟩ := hmid
  have hsz := m.size
  have far' : ∀ lo' hi', (∀ g, v.ownBlock = some g → g < lo' ∨ hi' ≤ g) → lo' ≤ hi' → hi' ≤ a ∨ b ≤ lo' ∨ b ≤ a := fun lo' hi' hh hle => by
    by_cases e : a < b
    · have h1 := hh a (hab a (Nat.le_refl _) e)
      have h2 := hh (b - 1) (hab (b - 1) (by omega) (by omega))
      have h3 : a = b - 1 := by
        have x1 := hab a (Nat.le_refl _) e
        have x2 := hab (b - 1) (by omega) (by omega)
        rw [x1] at x2
        exact Option.some.inj x2
      omega
    · exact .inr (.inr (by omega))
  have mem' : ∀ lo' hi' n' p', M lo' hi' n' p' w → lo' ≤ hi' → hi' ≤ w.heap.size → (∀ g, v.ownBlock = some g → g < lo' ∨ hi' ≤ g) → M lo' hi' n' p' w' := fun lo' hi' n' p' hm' hle hle2 hh => by
    rcases far' lo' hi' hh hle with e | e | e
    · exact hM _ _ _ _ _ _ _ _ hm' m (.inl e) hle2
    · exact hM _ _ _ _ _ _ _ _ hm' m (.inr e) hle2
    · refine hM _ _ _ _ _ _ 0 0 hm' ⟨m.os, m.tape, m.output, m.size, fun q hq _ => m.block q hq (by omega)⟩ (.inr (by omega)) hle2
  refine ⟨?_, fun j hj => ?_, fun j hj => ?_, fun i j hij hj => ?_, fun j hj g hg' => ?_, fun g hg' => ?_⟩
  · rw [flatX_succ, flatX_congr N N P (fun j => if j = k then p else P j) k (fun _ _ => rfl) (fun j hj => if_neg (by omega))]
    simp only [↓reduceIte]
    exact r1
  · by_cases e : j = k
    · subst e; simp only [↓reduceIte]; exact mem' _ _ _ _ hm hlh hhi (fun g hg' => .inl (hg g hg'))
    · simp only [if_neg e]
      have ho := h.out j (by omega)
      exact mem' _ _ _ _ (h.mem j (by omega)) ho.2.1 ho.2.2 (h.apart j (by omega))
  · by_cases e : j = k
    · subst e; simp only [↓reduceIte]; omega
    · simp only [if_neg e]
      have ho := h.out j (by omega)
      omega
  · by_cases e : j = k
    · subst e; simp only [↓reduceIte, if_neg (show ¬ i = j by omega)]; exact hlo i hij
    · simp only [if_neg e, if_neg (show ¬ i = k by omega)]; exact h.far i j hij (by omega)
  · have hnew : v.ownBlock = some g ∨ g = w.heap.size := by
      rcases r4 with e | e
      · rw [e] at hg'; exact .inl hg'
      · rw [e] at hg'; exact .inr (Option.some.inj hg').symm
    by_cases e : j = k
    · subst e
      simp only [↓reduceIte]
      rcases hnew with e | e
      · exact .inl (hg g e)
      · exact .inr (by omega)
    · simp only [if_neg e]
      rcases hnew with e | e
      · exact h.apart j (by omega) g e
      · exact .inr (by have := h.out j (by omega); omega)
  · rcases r1.2 with ⟨e, _⟩ | ⟨g', cap, cur, e, _, hg2, _⟩
    · rw [e] at hg'; cases hg'
    · rw [e] at hg'; cases hg'; exact (Array.getElem?_eq_some_iff.1 hg2).1
end
theorem infoX : (Tryz.prog.info? 64).map (fun i => (i.zero, i.size, i.bytes)) = some (some (.slice none 0 0), 1, 24) := by kernel_rfl
/-- A node is appended, in a region that draws its order. -/
theorem held_appX {M : Nat → Nat → List Frm → Value → World → Prop} (hM : SepX M) {B k : Nat} {N : List (List Frm)} {P : Nat → Value} {L H : Nat → Nat} {md : Region.Mode} {ops : Array Oper} {Q : Exit → Act → World → Prop} {S : World → Prop} (i d : Nat) (v : Value) (p : Value) (lo hi g1 c1 : Nat) {oi : Oper} {fuel : Nat} {listed : Array Bool} {a : Act} {w : World} {s x : Operand}
    (hi0 : ops.toList[i]? = some oi) (hd : oi.dst = some d) (hr : Region.ready md ops listed = [i]) (hw : Region.wanted oi (yielded ops a.tmps) = true) (ho : oi.op = .call { callee := .builtin .append, args := #[s, x], argTypes := #[24, 24] })
    (hs : a.eval s = v) (h : RowX M B k N P L H v w) (hk : k ≤ 1000000) (hx : a.eval x = .slice (some ⟨g1, 0, none⟩) 1 c1) (hone : p.oneCell' = true) (hg1 : w.heap[g1]? = some (.cells (#[p]) 64 (0, 0)))
    (hm : M lo hi (nthB N k) p w) (hB : B ≤ lo) (hlh : lo ≤ hi) (hhi : hi ≤ w.heap.size) (hlo : ∀ j, j < k → H j ≤ lo) (hg : ∀ g, v.ownBlock = some g → g < lo) (hBw : B ≤ w.heap.size)
    (K : ∀ v' w', RowX M B (k + 1) N (fun j => if j = k then p else P j) (fun j => if j = k then lo else L j) (fun j => if j = k then hi else H j) v' w' → w.grownBy w' v.ownBlock → S w' ∧ wpAnyH Tryz.prog md ops Q S fuel (listed.setIfInBounds i true) (a.put (some d) v') w') : wpAnyH Tryz.prog md ops Q S (fuel + 1) listed a w := by
  obtain ⟨i0, hi1, hz0, hz1, hz2⟩ := info_parts infoX
  obtain ⟨v', w', hrun, r1, r2, -, r4⟩ := run_append_own_at (P := Tryz.prog) w B 24 oi.type 64 i0 (.slice none 0 0) 1 24 Tryz.underlying24 hi1 hz0 hz1 hz2 rfl (by decide) v k (flatX N P k) h.own ⟨g1, 0, none⟩ 1 c1 [p] rfl
    (fun j u hu => by rw [show (⟨g1, 0, none⟩ : Addr).add j = ⟨g1, j, none⟩ by unfold Addr.add; split <;> simp_all, cell_of_row w g1 _ _ _ _ hg1, ← Array.getElem?_toList]; exact hu) (fun u hu => by rw [List.mem_singleton.1 hu]; exact hone) (by unfold maxLen; omega) (by omega) hBw
  exact h_new i d v' w' hi0 hd hr hw (by simp [execOp, ho, resolve, invoke, builtin, hs, hx, hrun, Result.andThen]) (K v' w' (h.app hM hm hB hlh hhi hlo hg r1 r2 r4) r2)
theorem row_made (w : World) {B : Nat} (hB : B ≤ w.heap.size) (N : List (List Frm)) (P : Nat → Value) (L H : Nat → Nat) : RowX (OwnX False) B 0 N P L H (.slice (some ⟨w.heap.size, 0, none⟩) 0 0) (w.alloc (.cells #[] 64)) := by
  refine ⟨⟨rfl, .inr ⟨w.heap.size, 0, #[], rfl, hB, heap_alloc_new _ _, Nat.le_refl _, Nat.zero_le _, rfl, rfl⟩⟩, fun j hj => absurd hj (by omega), fun j hj => absurd hj (by omega), fun i j _ hj => absurd hj (by omega), fun j hj => absurd hj (by omega), fun g hg => ?_⟩
  cases hg
  simp
theorem OwnX.goto {L : List Frm} {w0 w : World} {e : Ending} (h : GotO L w0 e w) : ∃ a c, e = .returned (.slice a L.length c) ∧ OwnX False w0.heap.size w.heap.size L (.slice a L.length c) w ∧ Below w0.heap.size w0 w := by
  obtain ⟨M, g, c, he, hM, ho, b⟩ := h
  exact ⟨_, c, he, ⟨M, _, c, rfl, hM, ho, fun h => h.elim, ho.under⟩, b⟩
/-- A grown row holds boxes. -/
theorem RowX.boxO {Q : Prop} {B k : Nat} {N : List (List Frm)} {P : Nat → Value} {L H : Nat → Nat} {v : Value} {w : World} (h : RowX (OwnX Q) B k N P L H v w) (hk : 0 < k) : ∃ G cap c, v = .slice (some ⟨G, 0, none⟩) k c ∧ BoxO Q G cap (fun j => j < k) N L H w ∧ FromB B G k L ∧ k ≤ cap := by
  rcases h.own.2 with ⟨_, h0⟩ | ⟨g, cap, cur, e, hb, hg, hle, hmx, hcs, htk⟩
  · omega
  · refine ⟨g, cur.size, cap, e, ⟨⟨cur, hg, rfl, fun j hj => ⟨P j, ?_, h.mem j hj⟩⟩, fun j hj => ?_, fun i j hi hj hij => ?_⟩, ⟨hb, fun j hj => (h.out j hj).1⟩, by rw [hcs]; omega⟩
    · have h2 := flatX_at N P k j 0 (P j) hj rfl
      rw [← htk, List.getElem?_take_of_lt (by omega)] at h2
      rw [← Array.getElem?_toList]
      simpa using h2
    · have ho := h.out j hj
      exact ⟨ho.2.1, ho.2.2, h.apart j hj g (by rw [e]; rfl)⟩
    · rcases Nat.lt_or_gt_of_ne hij with e | e
      · exact .inl (h.far i j e hj)
      · exact .inr (h.far j i e hi)
theorem blkX {w w' : World} {g : Nat} {o : Obj} (h : w.heap[g]? = some o) (b : Below w.heap.size w w') : w'.heap[g]? = some o := (b.block g (Array.getElem?_eq_some_iff.1 h).1).trans h
end Go.Proofs.YtnhmecabppaboaaGreat
