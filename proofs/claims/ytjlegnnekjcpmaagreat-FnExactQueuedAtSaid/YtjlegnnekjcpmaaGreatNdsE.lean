/- A slice of nodes in memory, and the exact laws' own functions over it: szNodeS, szBus, eqNodeS, eqBus. -/
import Derived.Test.YtjlegnnekjcpmaaGreatM19
import Derived.Deep.MidRow
import Derived.Deep.RegionWith
import Derived.Deep.QuietTactic
import Derived.BigQuiet
import Derived.Deep.CutRange
import Derived.Deep.DeepCutAuto
set_option linter.unusedVariables false
set_option linter.unusedSimpArgs false
set_option maxRecDepth 20000
namespace Go.Proofs.YtjlegnnekjcpmaaGreat
open Go.RowKit

abbrev ndN : Nd := ⟨0, false, false, false, ⟨0, false, 0, []⟩, ⟨#[]⟩, 0, 0, 0, 0, 0, 0, [], [], []⟩
def nthN (N : List Nd) (j : Nat) : Nd := N.getD j ndN
theorem nthN_eq {N : List Nd} {j : Nat} (h : j < N.length) : nthN N j = N[j] := by simp [nthN, h]

/-- A range of cells abides what happens above. -/
theorem rangeAt_below {w w' : World} {g o : Nat} {cs : List Value} (h : w.rangeAt g o cs) (b : Below w.heap.size w w') : w'.rangeAt g o cs := fun j v hv => by
  have := h j v hv
  exact (b.cell (World.block_lt_of_cell? w _ this)).trans this
/-- Element j of the slice at a is the node n; its own slices are so that R tells. -/
def NdAt (R : NdP → Prop) (a : Option Addr) (j : Nat) (n : Nd) (w : World) : Prop := ∃ g o p, a = some ⟨g, o, none⟩ ∧ w.rangeAt g (o + j * 18) (ndC n p).toList ∧ NdM n p w ∧ R p
theorem NdAt.below {R : NdP → Prop} {a : Option Addr} {j : Nat} {n : Nd} {w w' : World} (h : NdAt R a j n w) (b : Below w.heap.size w w') : NdAt R a j n w' := by
  obtain ⟨g, o, p, ha, hc, hm, hr⟩ := h
  exact ⟨g, o, p, ha, rangeAt_below hc b, hm.below b, hr⟩
/-- The slice at a holds the nodes N. -/
def Nds (R : NdP → Prop) (a : Option Addr) (N : List Nd) (w : World) : Prop := N.length ≤ maxLen ∧ ∀ j, j < N.length → NdAt R a j (nthN N j) w
section
variable {R : NdP → Prop} {a : Option Addr} {N : List Nd} {w w' : World}
theorem Nds.below (h : Nds R a N w) (b : Below w.heap.size w w') : Nds R a N w' := ⟨h.1, fun j hj => (h.2 j hj).below b⟩
theorem Nds.alloc (h : Nds R a N w) (o : Obj) : Nds R a N (w.alloc o) := h.below ((Below.refl _ _).alloc (Nat.le_refl _) _)
theorem Nds.drew (h : Nds R a N w) : Nds R a N w.drew := h.below (Below.refl _ _).drew
theorem Nds.any (h : Nds R a N w) : Nds (fun _ => True) a N w := ⟨h.1, fun j hj => by obtain ⟨g, o, p, ha, hc, hm, hr⟩ := h.2 j hj; exact ⟨g, o, p, ha, hc, hm, trivial⟩⟩
end
abbrev Bare (p : NdP) : Prop := p.al = none → p.cl = 0

/-- How much all nodes hold together, of the first k. -/
def sumN (N : List Nd) (k : Nat) : Nat := ((N.take k).map roomN).sum
theorem sumN_zero (N : List Nd) : sumN N 0 = 0 := by simp [sumN]
theorem sumN_succ (N : List Nd) (k : Nat) (h : k < N.length) : sumN N (k + 1) = sumN N k + roomN (nthN N k) := by
  have e : N.take (k + 1) = N.take k ++ [nthN N k] := by
    rw [List.take_add_one, List.getElem?_eq_getElem h, nthN, List.getD_eq_getElem?_getD, List.getElem?_eq_getElem h]; rfl
  unfold sumN
  rw [e, List.map_append, List.sum_append]
  simp
theorem sumN_le (N : List Nd) {j k : Nat} (h : j ≤ k) : sumN N j ≤ sumN N k := by
  induction k with
  | zero => rw [Nat.le_zero.1 h]; exact Nat.le_refl _
  | succ k ih =>
    by_cases e : j = k + 1
    · rw [e]; exact Nat.le_refl _
    · refine Nat.le_trans (ih (by omega)) ?_
      by_cases hk : k < N.length
      · rw [sumN_succ N k hk]; omega
      · simp [sumN, List.take_of_length_le (Nat.le_of_not_lt hk), List.take_of_length_le (Nat.le_succ_of_le (Nat.le_of_not_lt hk))]
theorem sumN_at (N : List Nd) {j : Nat} (h : j < N.length) : roomN (nthN N j) ≤ sumN N N.length := by
  have h1 := sumN_succ N j h
  have h2 := sumN_le N (show j + 1 ≤ N.length by omega)
  omega
def roomB (N : List Nd) : Nat := N.length + sumN N N.length

/-! ### A whole node read out of a slice. -/
section
variable {g o : Nat} {n : Nd} {p : NdP} {w : World}
theorem rng_take (h : w.rangeAt g o (ndC n p).toList) {ops : Array Oper} {rest : List Oper} {x : Oper} {a : Act} {Q : Exit → Act → World → Prop} {y : Operand} (ho : x.op = .load 66 y) (hx : a.eval y = .pointer (some ⟨g, o, none⟩))
    (hw : Region.wanted x (yielded ops a.tmps) = true) (k : wpList Tryz.prog ops Q rest (a.put x.dst (ndV n p)) w) : wpList Tryz.prog ops Q (x :: rest) a w :=
  BigFrame.wpList_want hw fun _ hK => wp_load_mid 66 y ho g o hx (ndC n p).toList _ h Tryz.underlying66 rfl (by kernel_rfl) (hK _ _ k)
theorem rng_took (h : w.rangeAt g o (ndC n p).toList) {x : Oper} {a : Act} {y : Operand} (ho : x.op = .load 66 y) (hx : a.eval y = .pointer (some ⟨g, o, none⟩)) : (execOp a.eval x).run Tryz.prog w = .ok (.value (ndV n p)) w := by
  unfold execOp
  simp only [ho, hx, Instr.loadAt, Instr.sureAddr, Sem.run_bind, Sem.run_pure, Result.andThen_ok, run_loadVar_mid w g o 66 (ndC n p).toList _ h Tryz.underlying66 rfl (by kernel_rfl)]
theorem rng_takeL (h : w.rangeAt g o (ndC n p).toList) {ops : Array Oper} {rest : List Oper} {x : Oper} {a : Act} {Q : Exit → Act → World → Prop} {y : Operand} (ho : x.op = .load 60 y) (hx : a.eval y = .pointer (some ⟨g, o, none⟩))
    (hw : Region.wanted x (yielded ops a.tmps) = true) (k : wpList Tryz.prog ops Q rest (a.put x.dst (ndV n p)) w) : wpList Tryz.prog ops Q (x :: rest) a w :=
  BigFrame.wpList_want hw fun _ hK => wp_load_mid 60 y ho g o hx (ndC n p).toList _ h Tryz.underlying60 rfl (by kernel_rfl) (hK _ _ k)
end

set_option maxHeartbeats 4000000 in
/-- laws.szNodeS. -/
theorem szNodesAny (R : NdP → Prop) (a : Option Addr) (N : List Nd) (c : Nat) (left : Int) (w : World) (hd : Nds R a N w) (hl0 : 0 ≤ left) (hl1 : left ≤ 1048576) :
    Calls Tryz.prog 50 #[.slice a N.length c, .int .i64 left] w fun e w' => SzR left (roomB N) e ∧ Below w.heap.size w w' := by
  have hm := hd.1
  unfold maxLen at hm
  unfold roomB
  go_enter Tryz.func50, Tryz.ntmps50
  by_cases h0 : left < N.length
  · have HR : Hid (SzR left (N.length + sumN N N.length) (.returned (.int .i64 (-1)))) := Lib.hid (.inr ⟨by omega, rfl⟩)
    go_wp2_with fail
    go_ret
    exact ⟨HR.out, Below.refl _ _⟩
  go_wp2_with fail
  go_loopw [1, 5] (fun l i wr => ∃ k : Nat, k ≤ N.length ∧ (N.length : Int) + sumN N k ≤ left ∧ i = .int .i64 k ∧ l = .int .i64 (left - (N.length : Int) - sumN N k) ∧ Below w.heap.size w wr) (fun _ i _ => N.length - (intOf i).toNat)
  case atStart => exact ⟨0, Nat.zero_le _, by rw [sumN_zero]; omega, rfl, by rw [sumN_zero]; simp, Below.refl _ _⟩
  case round =>
    obtain ⟨k, hk, hr, rfl, rfl, b⟩ := hrel
    by_cases hlt : k < N.length
    · obtain ⟨g, o, p, rfl, hc, hn, -⟩ := (hd.below b).2 k hlt
      have hs := sumN_succ N k hlt
      have hl := sumN_le N (show k + 1 ≤ N.length by omega)
      generalize nthN N k = n at *
      have hlo : 0 ≤ left - (N.length : Int) - sumN N k := by omega
      have hhi : left - (N.length : Int) - sumN N k ≤ 1048576 := by omega
      go_wp2_with (refine rng_takeL hc rfl rfl rfl ?_)
      refine (szNodeAny n p _ _ hn hlo hhi).mono ?_
      rintro e w2 ⟨hz | hz, b2⟩
      case inr =>
        obtain ⟨hz, rfl⟩ := hz
        have HR : Hid (SzR left (N.length + sumN N N.length) (.returned (.int .i64 (-1)))) := Lib.hid (.inr ⟨by omega, rfl⟩)
        replace b := Below.then2 b b2
        clear b2 hn hc hlo hhi
        go_wp2_with fail
        go_ret
        exact ⟨HR.out, b⟩
      obtain ⟨hz, rfl⟩ := hz
      replace b := Below.then2 b b2
      have hov : (N.length : Int) + sumN N (k + 1) ≤ left := by omega
      have hng : ¬ left - (N.length : Int) - sumN N k - roomN n < 0 := by omega
      clear b2 hn hc hlo hhi
      go_wp2_with fail
      go_roundw
      case rel => exact ⟨k + 1, by omega, hov, by go_num, by congr 1; omega, b⟩
      case measure => simp [intOf]; omega
    · obtain rfl : k = N.length := by omega
      have HR : Hid (SzR left (N.length + sumN N N.length) (.returned (.int .i64 (left - (N.length : Int) - sumN N N.length)))) := Lib.hid (.inl ⟨by omega, by congr 2; omega⟩)
      go_wp2_with fail
      go_ret
      exact ⟨HR.out, b⟩
/-- A bus, as the machine's value. -/
abbrev buC (a : Option Addr) (len c : Nat) (now : Int) : Array Value := #[.slice a len c, .int .i64 now]
abbrev buV (a : Option Addr) (len c : Nat) (now : Int) : Value := .agg #[.slice a len c, .int .i64 now]
theorem szBusAny (R : NdP → Prop) (a : Option Addr) (N : List Nd) (c : Nat) (now left : Int) (w : World) (hd : Nds R a N w) (hl0 : 0 ≤ left) (hl1 : left ≤ 1048576) :
    Calls Tryz.prog 11 #[buV a N.length c now, .int .i64 left] w fun e w' => SzR left (roomB N) e ∧ Below w.heap.size w w' := by
  go_enter Tryz.func11, Tryz.ntmps11
  go_wp2_with fail
  refine (szNodesAny R a N c left _ (hd.alloc _) hl0 hl1).mono ?_
  rintro e w2 ⟨hz | hz, b⟩
  case inr =>
    obtain ⟨hz, rfl⟩ := hz
    have HR : Hid (SzR left (roomB N) (.returned (.int .i64 (-1)))) := Lib.hid (.inr ⟨by omega, rfl⟩)
    have b := below_from b
    go_wp2_with fail
    go_ret
    exact ⟨HR.out, b⟩
  obtain ⟨hz, rfl⟩ := hz
  have HR : Hid (SzR left (roomB N) (.returned (.int .i64 (left - roomB N)))) := Lib.hid (.inl ⟨by omega, rfl⟩)
  have b := below_from b
  have hng : ¬ left - (roomB N : Int) < 0 := by omega
  go_wp2_with fail
  go_ret
  exact ⟨HR.out, b⟩
set_option maxHeartbeats 4000000 in
/-- laws.eqNodeS of alike nodes. -/
theorem eqNodes (R R' : NdP → Prop) (a b : Option Addr) (N : List Nd) (c c' : Nat) (w : World) (ha : Nds R a N w) (hb : Nds R' b N w) :
    Calls Tryz.prog 56 #[.slice a N.length c, .slice b N.length c'] w fun e w' => e = .returned (.bool true) ∧ Below w.heap.size w w' := by
  have hm := ha.1
  unfold maxLen at hm
  go_enter Tryz.func56, Tryz.ntmps56
  go_wp2_with fail
  go_loopw [5] (fun i wr => ∃ k : Nat, k ≤ N.length ∧ i = .int .i64 k ∧ Below w.heap.size w wr) (fun i _ => N.length - (intOf i).toNat)
  case atStart => exact ⟨0, Nat.zero_le _, rfl, Below.refl _ _⟩
  case round =>
    obtain ⟨k, hk, rfl, bw⟩ := hrel
    by_cases hlt : k < N.length
    · obtain ⟨g, o, p, rfl, hc, hn, -⟩ := (ha.below bw).2 k hlt
      obtain ⟨g', o', p', rfl, hc', hn', -⟩ := (hb.below bw).2 k hlt
      generalize nthN N k = n at *
      go_upto_region 6 with fail
      refine region_class (fun u => (u.rangeAt g (o + k * 18) (ndC n p).toList ∧ NdM n p u) ∧ (u.rangeAt g' (o' + k * 18) (ndC n p').toList ∧ NdM n p' u) ∧ Below w.heap.size w u) (by kernel_rfl) (by kernel_rfl) ⟨⟨rangeAt_below hc (Below.refl _ _).drew, hn.drew⟩, ⟨rangeAt_below hc' (Below.refl _ _).drew, hn'.drew⟩, bw.drew⟩ ?_
      clear hc hn hc' hn' bw
      repeat first
        | go_big_quiet_skip
        | (go_big_quiet_want
           apply Exists.intro
           refine ⟨fun u hu => ?_, ?_⟩
           · exact quietAt_val (rng_took hu.1.1 rfl rfl)
           simp only [Act.put, List.setIfInBounds_toArray, List.set_cons_zero, List.set_cons_succ]
           go_big_quiet_on)
        | (go_big_quiet_want
           apply Exists.intro
           refine ⟨fun u hu => ?_, ?_⟩
           · exact quietAt_val (rng_took hu.2.1.1 rfl rfl)
           simp only [Act.put, List.setIfInBounds_toArray, List.set_cons_zero, List.set_cons_succ]
           go_big_quiet_on)
        | (go_big_quiet_want
           apply Exists.intro
           refine ⟨fun u hu => ?_, ?_⟩
           · apply quietAt_val
             skip
             go_simp
             rfl
           simp only [Act.put, List.setIfInBounds_toArray, List.set_cons_zero, List.set_cons_succ]
           go_big_quiet_on)
        | (go_big_quiet_want
           apply Exists.intro
           refine ⟨fun u hu => ?_, ?_⟩
           · apply quietAt_enter 36 #[ndV n p, ndV n p']
             · go_simp
             · refine (eqN n p p' u hu.1.2 hu.2.1.2).mono ?_
               rintro e w2 ⟨rfl, b2⟩
               exact ⟨rfl, ⟨rangeAt_below hu.1.1 b2, hu.1.2.below b2⟩, ⟨rangeAt_below hu.2.1.1 b2, hu.2.1.2.below b2⟩, Below.then2 hu.2.2 b2⟩
           simp only [Act.put, List.setIfInBounds_toArray, List.set_cons_zero, List.set_cons_succ]
           go_big_quiet_on)
      refine wpQuiet_nil ?_
      intro W2 L2
      have bw := L2.2.2
      clear L2
      go_wp2_with fail
      go_roundw
      case rel => exact ⟨k + 1, by omega, by go_num, bw⟩
      case measure => simp [intOf]; omega
    · go_wp2_with fail
      go_ret
      exact ⟨rfl, bw⟩
/-- Two blocks laid. -/
theorem two_made (w : World) (C D : Array Value) (T T' : TypeId) : ((w.alloc (.cells C T)).alloc (.cells D T')).heap[w.heap.size]? = some (.cells C T (0, 0)) ∧ ((w.alloc (.cells C T)).alloc (.cells D T')).heap[w.heap.size + 1]? = some (.cells D T' (0, 0))
    ∧ Below w.heap.size w ((w.alloc (.cells C T)).alloc (.cells D T')) := by
  have h1 := heap_alloc_new w (.cells C T)
  have h2 := heap_alloc_new (w.alloc (.cells C T)) (.cells D T')
  have hs : (w.alloc (.cells C T)).heap.size = w.heap.size + 1 := by simp
  rw [hs] at h2
  exact ⟨((below_more (Below.refl _ (w.alloc (.cells C T))) (.cells D T')).block w.heap.size (by omega)).trans h1, h2, below_more (below_more (Below.refl _ w) (.cells C T)) (.cells D T')⟩
/-- laws.eqBus of alike buses. -/
theorem eqBus (R R' : NdP → Prop) (a b : Option Addr) (N : List Nd) (c c' : Nat) (now : Int) (w : World) (ha : Nds R a N w) (hb : Nds R' b N w) :
    Calls Tryz.prog 15 #[buV a N.length c now, buV b N.length c' now] w fun e w' => e = .returned (.bool true) ∧ Below w.heap.size w w' := by
  obtain ⟨HC, HD, B⟩ := two_made w (buC a N.length c now) (buC b N.length c' now) 29 29
  go_enter Tryz.func15, Tryz.ntmps15
  go_upto_region 1 with fail
  generalize World.alloc _ _ = W at HC HD B ⊢
  generalize w.heap.size + 1 = g2 at HD ⊢
  generalize w.heap.size = g1 at HC ⊢
  have c0 := cell_of_row W g1 0 _ _ _ HC
  have c1 := cell_of_row W g2 0 _ _ _ HD
  go_wp2_with fail
  refine (eqNodes R R' a b N c c' _ (ha.below B) (hb.below B)).mono ?_
  rintro e w2 ⟨rfl, b2⟩
  replace HC := (b2.block g1 (Array.getElem?_eq_some_iff.1 HC).1).trans HC
  replace HD := (b2.block g2 (Array.getElem?_eq_some_iff.1 HD).1).trans HD
  replace B := Below.then2 B b2
  have d0 := cell_of_row w2 g1 1 _ _ _ HC
  have d1 := cell_of_row w2 g2 1 _ _ _ HD
  clear b2 c0 c1 HC HD
  go_wp2_with fail
  go_ret
  exact ⟨rfl, B⟩
end Go.Proofs.YtjlegnnekjcpmaaGreat

