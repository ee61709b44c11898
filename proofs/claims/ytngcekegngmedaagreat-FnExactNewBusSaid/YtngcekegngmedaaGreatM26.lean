/- impl.nodesOf: the iterator over a slice of nodes, by its contract (SeqStopsK); what a loop over it wants of the walk within a round. -/
import Derived.RangeFuncNested
import Derived.RangeFuncBound
import Derived.RangeFuncCalls
import Derived.RangeFuncLeaves
import Derived.RangeFuncBox
import Derived.Shelf.Abstract
import Derived.Shelf.RegionOpen
import Derived.WalkKit
import Derived.OwnWalkIn
import Derived.TacticsInMore
import Derived.LoopNIn
import Derived.LoopIn
import Derived.Test.YtngcekegngmedaaGreatM18
import Derived.Test.YtngcekegngmedaaGreatM19
import Derived.OrdersIn
import Derived.OrdersHeld

set_option linter.unusedVariables false
set_option linter.unusedSimpArgs false
set_option maxRecDepth 20000
namespace Go.Proofs.YtngcekegngmedaaGreat
open Go.RowKit Go.Shelf
attribute [local go_sem] Oper.semAt_some

/-! ### Operations within a round. -/
theorem opIn_value {F : Fence} {m : Nat} {o : Oper} {a : Act} {w w2 : World} {K : Act → World → Prop} {Q : Exit → Act → World → Prop} (v : Value) (hn : ∀ f, o.about Tryz.prog w a.eval = some f → F.fn f) (hd : ∀ c, o.op ≠ .defer c)
    (h : (execOp a.eval o).run Tryz.prog w = .ok (.value v) w2) (k : K (a.put o.dst v) w2) : o.wpIn F m Tryz.prog a w K Q := ⟨hn, by rw [Oper.semAt_eq _ _ _ hd, h]; exact k⟩
theorem opIn_skip {F : Fence} {m : Nat} {o : Oper} {a : Act} {w w2 : World} {K : Act → World → Prop} {Q : Exit → Act → World → Prop} (hn : ∀ f, o.about Tryz.prog w a.eval = some f → F.fn f) (hd : ∀ c, o.op ≠ .defer c)
    (h : (execOp a.eval o).run Tryz.prog w = .ok .skip w2) (k : K (a.put o.dst undef) w2) : o.wpIn F m Tryz.prog a w K Q := ⟨hn, by rw [Oper.semAt_eq _ _ _ hd, h]; exact k⟩
section
variable {g o : Nat} {n : Nd} {p : NdP} {w : World} {F : Fence} {m : Nat} {ops : Array Oper} {rest : List Oper} {x : Oper} {a : Act} {Q : Exit → Act → World → Prop}
theorem rng_takeIn (h : w.rangeAt g o (ndC n p).toList) {y : Operand} (ho : x.op = .load 46 y) (hx : a.eval y = .pointer (some ⟨g, o, none⟩))
    (hw : Region.wanted x (yielded ops a.tmps) = true) (k : wpListIn F m Tryz.prog ops Q rest (a.put x.dst (ndV n p)) w) : wpListIn F m Tryz.prog ops Q (x :: rest) a w :=
  BigFrame.wpListIn_want hw fun _ hK => opIn_value (ndV n p) (fun f hf => by simp [Oper.about, ho] at hf) (by rw [ho]; intro c hc; cases hc) (rng_took h ho hx) (hK _ _ k)
theorem row_range {C : Array Value} {T : TypeId} {fr : Nat × Nat} (h : w.heap[g]? = some (.cells C T fr)) : w.rangeAt g 0 C.toList := fun j v hv => by
  rw [cell_of_row w g _ _ _ _ h, Nat.zero_add, ← Array.getElem?_toList]; exact hv
theorem row_takeIn {T : TypeId} {fr : Nat × Nat} (h : w.heap[g]? = some (.cells (ndC n p) T fr)) {y : Operand} (ho : x.op = .load 46 y) (hx : a.eval y = .pointer (some ⟨g, 0, none⟩))
    (hw : Region.wanted x (yielded ops a.tmps) = true) (k : wpListIn F m Tryz.prog ops Q rest (a.put x.dst (ndV n p)) w) : wpListIn F m Tryz.prog ops Q (x :: rest) a w :=
  rng_takeIn (row_range h) ho hx hw k
/-- A node goes into a fresh block, within a round. -/
theorem layIn {W : World} {C : Array Value} {y z : Operand} (ho : x.op = .store 46 y z) (hW : W = w.alloc (.cells C 46))
    (hy : a.eval y = .pointer (some ⟨w.heap.size, 0, none⟩)) (hz : a.eval z = ndV n p) (hC : C.size = 18) (hw : Region.wanted x (yielded ops a.tmps) = true)
    (k : wpListIn F m Tryz.prog ops Q rest (a.put x.dst undef) (w.alloc (.cells (ndC n p) 46))) : wpListIn F m Tryz.prog ops Q (x :: rest) a W := by
  subst hW
  rw [← World.setRow_alloc_new w C (ndC n p) 46] at k
  refine BigFrame.wpListIn_want hw fun _ hK => opIn_skip (fun f hf => by simp [Oper.about, ho] at hf) (by rw [ho]; intro c hc; cases hc) ?_ (hK _ _ k)
  unfold execOp
  simp only [ho, hy, hz, Instr.storeAt, Instr.sureAddr, Sem.run_bind, Sem.run_pure, Result.andThen_ok, run_storeVar_row (P := Tryz.prog) (w.alloc (.cells C 46)) w.heap.size 46 46 C (ndC n p) (heap_alloc_new w _) (by kernel_rfl) (hC.trans rfl) (ndC_one n p)]
end

/-! ### What has come. -/
def ups (m : Nat) : (k : Nat) → k ≤ m → List {j : Nat // j < m}
  | 0, _ => []
  | k + 1, h => ups m k (Nat.le_of_succ_le h) ++ [⟨k, h⟩]
theorem ups_len (m : Nat) : ∀ (k : Nat) (h : k ≤ m), (ups m k h).length = k
  | 0, _ => rfl
  | k + 1, h => by rw [ups, List.length_append, ups_len m k]; rfl
theorem ups_val (m : Nat) : ∀ (k : Nat) (h : k ≤ m), (ups m k h).map (fun x => x.1) = List.range k
  | 0, _ => rfl
  | k + 1, h => by rw [ups, List.map_append, ups_val m k, List.range_succ]; rfl
theorem ups_mem (m : Nat) {k : Nat} (h : k ≤ m) (x : {j : Nat // j < m}) : x ∈ ups m k h ↔ x.1 < k := by
  induction k with
  | zero => simp [ups]
  | succ k ih =>
    rw [ups, List.mem_append, ih]
    simp only [List.mem_singleton]
    constructor
    · rintro (h1 | rfl)
      · omega
      · exact Nat.lt_succ_self k
    · intro h1
      by_cases e : x.1 = k
      · exact .inr (Subtype.ext e)
      · exact .inl (by omega)

/-- The slice at a, its elements' own slices at P, in blocks below n₀. -/
def NdsP (n₀ : Nat) (a : Option Addr) (N : List Nd) (P : Nat → NdP) (w : World) : Prop := ∀ j, j < N.length → ∃ g o, a = some ⟨g, o, none⟩ ∧ g < n₀ ∧ w.rangeAt g (o + j * 18) (ndC (nthN N j) (P j)).toList
theorem NdsP.below {n₀ : Nat} {a : Option Addr} {N : List Nd} {P : Nat → NdP} {w w' : World} (h : NdsP n₀ a N P w) (b : Below n₀ w w') : NdsP n₀ a N P w' := fun j hj => by
  obtain ⟨g, o, ha, hg, hc⟩ := h j hj
  exact ⟨g, o, ha, hg, fun i v hv => (b.cell (p := ⟨g, o + j * 18 + i, none⟩) hg).trans (hc i v hv)⟩
theorem Nds.pick {R : NdP → Prop} {a : Option Addr} {N : List Nd} {w : World} (h : Nds R a N w) : ∃ P : Nat → NdP, NdsP w.heap.size a N P w ∧ ∀ j, j < N.length → NdM (nthN N j) (P j) w ∧ R (P j) := by
  have hp : ∀ j, ∃ p, j < N.length → ∃ g o, a = some ⟨g, o, none⟩ ∧ w.rangeAt g (o + j * 18) (ndC (nthN N j) p).toList ∧ NdM (nthN N j) p w ∧ R p := fun j => by
    by_cases hj : j < N.length
    · obtain ⟨g, o, p, h1, h2, h3, h4⟩ := h.2 j hj
      exact ⟨p, fun _ => ⟨g, o, h1, h2, h3, h4⟩⟩
    · exact ⟨⟨none, 0, none, 0, none, 0, none, 0⟩, fun h => absurd h hj⟩
  refine ⟨fun j => Classical.choose (hp j), fun j hj => ?_, fun j hj => ?_⟩
  · obtain ⟨g, o, h1, h2, h3, h4⟩ := Classical.choose_spec (hp j) hj
    exact ⟨g, o, h1, World.block_lt_of_cell? w _ (h2 0 _ rfl), h2⟩
  · obtain ⟨g, o, h1, h2, h3, h4⟩ := Classical.choose_spec (hp j) hj
    exact ⟨h3, h4⟩

set_option maxHeartbeats 4000000 in
/-- The closure: for every loop body that keeps what lay below n₀. -/
theorem nodesOf1 (n : Nat) (hn : 1 ≤ n) (l Bs n₀ : Nat) (a : Option Addr) (N : List Nd) (c : Nat) (P : Nat → NdP) (hm : N.length ≤ maxLen) (J Jx : List {j : Nat // j < N.length} → World → Prop)
    (W : World) (hJ : AbidesFrom W.heap.size J) (hn₀ : n₀ ≤ W.heap.size)
    (hY : ∀ pre x W1, J pre W1 → pre.length < N.length → YieldAt Fence.wide (n - 1) Tryz.prog l #[.int .i64 (x.1 : Int), ndV (nthN N x.1) (P x.1)] W1 fun e W' =>
      (e = .returned (.bool true) ∧ J (pre ++ [x]) W' ∧ Below n₀ W1 W') ∨ (e = .returned (.bool false) ∧ Jx (pre ++ [x]) W'))
    (hBs : W.cell? ⟨Bs, 0, none⟩ = some (.slice a N.length c)) (hc : NdsP n₀ a N P W) (h0 : J [] W) :
    CallsIn Fence.wide n Tryz.prog 50 #[.func (.yield l) #[] #[], .pointer (some ⟨Bs, 0, none⟩)] W fun e W' => (∃ v, e = .returned v) ∧
      ((∃ ys, (∀ j, ∀ hj : j < N.length, (⟨j, hj⟩ : {j : Nat // j < N.length}) ∈ ys) ∧ ys.map (fun x => x.1) = List.range N.length ∧ J ys W') ∨ (∃ pre, (∃ k, k ≤ N.length ∧ pre.map (fun x => x.1) = List.range k) ∧ Jx pre W')) := by
  unfold maxLen at hm
  refine callsIn_of_wp Tryz.func50 rfl trivial ?_ rfl
  simp only [Tryz.ntmps50, List.size_toArray, List.length_cons, List.length_nil, Nat.reduceAdd, Nat.reduceSub, Array.replicate_succ, Array.replicate_zero, List.push_toArray, List.append_toArray, List.nil_append, List.cons_append]
  gi_wp2
  gi_loopw [7] (fun i wr => ∃ (k : Nat) (hk : k ≤ N.length), i = .int .i64 k ∧ J (ups N.length k hk) wr ∧ Below n₀ W wr) (fun i _ => N.length - (intOf i).toNat)
  case atStart => exact ⟨0, Nat.zero_le _, rfl, h0, Below.refl _ _⟩
  case round =>
    obtain ⟨k, hk, rfl, hJs, hnx⟩ := hrel
    by_cases hlt : k < N.length
    · obtain ⟨g, o, rfl, hg, hr⟩ := hc.below hnx k hlt
      have hJ1 : J (ups N.length k hk) (wr.alloc (.cells (ndC (nthN N k) (P k)) 46)) := hJ _ _ _ none hJs (World.grownBy_alloc wr _ none) (fun r e => by cases e)
      obtain ⟨fn, tmps, assign, body, hy, hR⟩ := hY _ ⟨k, hlt⟩ _ hJ1 (by rw [ups_len]; exact hlt)
      dsimp only at hy
      have hk1 : J (ups N.length k hk ++ [⟨k, hlt⟩]) = J (ups N.length (k + 1) hlt) := rfl
      rw [hk1] at hR
      have hup : Jx (ups N.length k hk ++ [⟨k, hlt⟩]) = Jx (ups N.length (k + 1) hlt) := rfl
      rw [hup] at hR
      have hbw : Below n₀ wr (wr.alloc (.cells (ndC (nthN N k) (P k)) 46)) := (Below.refl n₀ wr).alloc (Nat.le_trans hn₀ hnx.size) _
      clear hk1 hup hJ1
      have HB := heap_alloc_new wr (.cells (ndC (nthN N k) (P k)) 46)
      generalize nthN N k = nd at *
      generalize P k = pd at *
      gi_wp2_with (first | (refine rng_takeIn hr rfl rfl rfl ?_) | (refine layIn (w := wr) (n := nd) (p := pd) rfl rfl rfl rfl rfl rfl ?_) | (refine row_takeIn HB rfl rfl rfl ?_))
      refine hR.mono ?_
      rintro e W3 (⟨rfl, hJ3, hk3⟩ | ⟨rfl, hJx3⟩)
      · gi_wp2
        go_roundw
        case rel => exact ⟨k + 1, hlt, by go_num, hJ3, (hnx.trans hbw).trans hk3⟩
        case measure => simp [intOf]; omega
      · gi_wp2
        refine bodyPost_ret (results_none rfl _ _ _) rfl ?_
        exact ⟨⟨_, rfl⟩, .inr ⟨_, ⟨k + 1, hlt, ups_val _ _ _⟩, hJx3⟩⟩
    · obtain rfl : k = N.length := by omega
      gi_wp2
      go_end0
      exact ⟨⟨_, rfl⟩, .inl ⟨_, fun j hj => (ups_mem _ _ _).2 hj, ups_val _ _ _, hJs⟩⟩
/-- impl.nodesOf: the slice is boxed; the function value captures the box. -/
theorem nodesOfIn (m : Nat) (a : Option Addr) (len c : Nat) (w : World) :
    CallsIn Fence.wide m Tryz.prog 30 #[.slice a len c] w fun e w' => e = .returned (.func (.func 50) #[] #[.pointer (some ⟨w.heap.size, 0, none⟩)]) ∧ w' = w.alloc (.cells #[.slice a len c] 24) := by
  refine callsIn_of_wp Tryz.func30 rfl trivial ?_ rfl
  simp only [Tryz.ntmps30, List.size_toArray, List.length_cons, List.length_nil, Nat.reduceAdd, Nat.reduceSub, Array.replicate_succ, Array.replicate_zero, List.push_toArray, List.append_toArray, List.nil_append, List.cons_append]
  gi_wp2
  go_ret
  exact ⟨rfl, rfl⟩
/-- What it hands back gives all nodes with their places, or the first ones. -/
theorem nodesOfStops (n : Nat) (hn : 1 ≤ n) (Bs n₀ : Nat) (a : Option Addr) (N : List Nd) (c : Nat) (P : Nat → NdP) (hm : N.length ≤ maxLen) (w : World) (hB : Bs < w.heap.size) (hn₀ : n₀ ≤ w.heap.size)
    (hBs : w.cell? ⟨Bs, 0, none⟩ = some (.slice a N.length c)) (hc : NdsP n₀ a N P w) :
    SeqStopsK Fence.wide n Tryz.prog 50 #[.pointer (some ⟨Bs, 0, none⟩)] (fun x : {j : Nat // j < N.length} => #[.int .i64 (x.1 : Int), ndV (nthN N x.1) (P x.1)]) (Below n₀)
      (fun ys => (∀ j, ∀ hj : j < N.length, (⟨j, hj⟩ : {j : Nat // j < N.length}) ∈ ys) ∧ ys.map (fun x => x.1) = List.range N.length) (fun pre => ∃ k, k ≤ N.length ∧ pre.map (fun x => x.1) = List.range k) N.length w := fun l J Jx W hW hJ hJx hY h0 => by
  refine (nodesOf1 n hn l Bs n₀ a N c P hm J Jx W hJ (Nat.le_trans hn₀ hW.size) hY ((hW.cell (p := ⟨Bs, 0, none⟩) hB).trans hBs) (hc.below (hW.mono hn₀)) h0).mono ?_
  rintro e W' ⟨he, ⟨ys, h1, h2, h3⟩ | ⟨pre, h1, h2⟩⟩
  · exact ⟨he, .inl ⟨ys, ⟨h1, h2⟩, h3⟩⟩
  · exact ⟨he, .inr ⟨pre, h1, h2⟩⟩
end Go.Proofs.YtngcekegngmedaaGreat

/- A region that draws its order, within a round of a range over a function: walked as anywhere (by wp_region_held's means). -/

set_option linter.unusedVariables false
set_option linter.unusedSimpArgs false
set_option maxRecDepth 20000
namespace Go.Proofs.YtngcekegngmedaaGreat
open Go.RowKit Go.Shelf

theorem upon_in {P : Program} {l m : Nat} {o : Oper} {a : Act} {K : Act → World → Prop} {Q : Exit → Act → World → Prop} {r : Result Next} (h : o.upon P a K Q r) : o.uponIn (Fence.wide.inRound l) m P a K Q r := by
  cases r with
  | ok x w' =>
    cases x with
    | value v => exact h
    | skip => exact h
    | defer d => exact h
    | enter f args => exact ⟨fun hd => (by cases hd), CallsIn.inRound l (callsIn_wide.2 h)⟩
    | row row args => exact ⟨fun hd => (by cases hd), fun c cs _ => let ⟨v, w', r, s⟩ := h c cs; ⟨v, w', r, stepsIn_wide.2 s⟩⟩
    | _ => exact h.elim
  | halt e w' =>
    cases e with
    | panic v => exact h
    | _ => exact h.elim
theorem wp_in {P : Program} {l m : Nat} {o : Oper} {a : Act} {w : World} {K : Act → World → Prop} {Q : Exit → Act → World → Prop} (hd : ∀ c, o.op ≠ .defer c) (h : o.wp P a w K Q) : o.wpIn (Fence.wide.inRound l) m P a w K Q :=
  ⟨fun f hf => trivial, by rw [Oper.semAt_eq _ _ _ hd]; exact upon_in h⟩
theorem wpAny_in {P : Program} {l m : Nat} {md : Region.Mode} {ops : Array Oper} {Q : Exit → Act → World → Prop} (hd : ∀ (i : Nat) (o : Oper), ops[i]? = some o → ∀ c, o.op ≠ .defer c) (hQ : ¬ LetsOut Q) :
    ∀ (fuel : Nat) (listed : Array Bool) (a : Act) (w : World), wpAny P md ops Q fuel listed a w → wpAnyIn (Fence.wide.inRound l) m P md ops Q fuel listed a w
  | 0, listed, a, w, h => h
  | fuel + 1, listed, a, w, h => by
    refine ⟨h.1, fun i hi => ?_⟩
    have h2 := h.2 i hi
    unfold wpOp at h2
    unfold wpOpIn
    cases ho : ops[i]? with
    | none => rw [ho] at h2; exact wpAny_in hd hQ fuel _ _ _ h2
    | some o =>
      rw [ho] at h2
      dsimp only at h2 ⊢
      split
      · rename_i hw
        rw [if_pos hw] at h2
        rcases h2 with h2 | ⟨_, h2⟩
        · exact wp_in (hd i o ho) (Oper.wp_mono (fun a w h => wpAny_in hd hQ fuel _ a w h) h2)
        · exact absurd h2 hQ
      · rename_i hw
        rw [if_neg hw] at h2
        exact ⟨fun f hf => trivial, wpAny_in hd hQ fuel _ _ _ h2⟩
theorem region_held_in {P : Program} {l m id : Nat} {ops : Array Oper} {Q : Exit → Act → World → Prop} {S : World → Prop} {a : Act} {w : World} (hm : P.follows .mixedOrders = true) (hd : ops.all (fun o => match o.op with | .defer _ => false | _ => true) = true) (hQ : ¬ LetsOut Q)
    (h : wpAnyH P .any ops Q S ops.size (Array.replicate ops.size false) a { w with drawn := w.drawn + 1 }) : (Code.region id ops true).wpIn (Fence.wide.inRound l) m P Q a w := by
  refine wpIn_region_any hm (wpAny_in (fun i o ho c hc => ?_) hQ _ _ _ _ (wpAny_of_held _ _ _ _ h))
  have h1 := Array.all_eq_true.1 hd i (Array.getElem?_eq_some_iff.1 ho).1
  rw [(Array.getElem?_eq_some_iff.1 ho).2] at h1
  rw [hc] at h1
  cases h1
end Go.Proofs.YtngcekegngmedaaGreat
