/- A row of nodes that grows by append; spec.l13Copy. -/
import Derived.Test.YtjlegnnekjcpmaaGreatNdsToE
import Derived.Test.YtjlegnnekjcpmaaGreatM28
import Derived.Maps.AppendAt
set_option linter.unusedVariables false
set_option linter.unusedSimpArgs false
set_option maxRecDepth 20000
namespace Go.Proofs.YtjlegnnekjcpmaaGreat
open Go.RowKit

/-! ### The nodes' cells, one behind the other. -/
def flatN (N : List Nd) (P : Nat → NdP) (k : Nat) : List Value := (List.range k).flatMap fun j => (ndC (nthN N j) (P j)).toList
theorem flatN_succ (N : List Nd) (P : Nat → NdP) (k : Nat) : flatN N P (k + 1) = flatN N P k ++ (ndC (nthN N k) (P k)).toList := by simp [flatN, List.range_succ]
theorem flatN_len (N : List Nd) (P : Nat → NdP) : ∀ k, (flatN N P k).length = k * 18
  | 0 => rfl
  | k + 1 => by rw [flatN_succ, List.length_append, flatN_len N P k]; show k * 18 + 18 = _; omega
theorem flatN_at (N : List Nd) (P : Nat → NdP) : ∀ (k j i : Nat) (v : Value), j < k → (ndC (nthN N j) (P j)).toList[i]? = some v → (flatN N P k)[j * 18 + i]? = some v
  | 0, j, i, v, hj, _ => absurd hj (by omega)
  | k + 1, j, i, v, hj, hv => by
    have hi : i < 18 := (List.getElem?_eq_some_iff.1 hv).1
    rw [flatN_succ]
    by_cases e : j = k
    · subst e
      rw [List.getElem?_append_right (by rw [flatN_len]; omega), flatN_len, show j * 18 + i - j * 18 = i by omega]
      exact hv
    · rw [List.getElem?_append_left (by rw [flatN_len]; omega)]
      exact flatN_at N P k j i v (by omega) hv
theorem flatN_congr (N N' : List Nd) (P P' : Nat → NdP) (k : Nat) (hN : ∀ j, j < k → nthN N' j = nthN N j) (hP : ∀ j, j < k → P' j = P j) : flatN N' P' k = flatN N P k := by
  induction k with
  | zero => rfl
  | succ k ih => rw [flatN_succ, flatN_succ, ih (fun j hj => hN j (by omega)) (fun j hj => hP j (by omega)), hN k (by omega), hP k (by omega)]

/-! ### What a node of a row rests upon. -/
structure UpI (lo hi : Nat) (w u : World) : Prop where
  size : w.heap.size ≤ u.heap.size
  block : ∀ k, lo ≤ k → k < hi → u.heap[k]? = w.heap[k]?
  os : u.os = w.os
  tape : u.tape = w.tape
  output : u.output = w.output
/-- It stands wherever the blocks from lo to hi stand. -/
def StdM (lo hi : Nat) (n : Nd) (p : NdP) (w : World) : Prop := (∀ u, UpI lo hi w u → NdM n p u) ∧ Bare p
/-- It owns its memory, in the blocks from lo to hi. -/
def OwnM (lo hi : Nat) (n : Nd) (p : NdP) (w : World) : Prop := ∃ j MB MF, NdI j lo hi n p MB MF w
def SepM (M : Nat → Nat → Nd → NdP → World → Prop) : Prop := ∀ (lo hi : Nat) (n : Nd) (p : NdP) (w w' : World) (a b : Nat), M lo hi n p w → Mid a b w w' → (hi ≤ a ∨ b ≤ lo) → hi ≤ w.heap.size → M lo hi n p w'
theorem stdM_sep : SepM StdM := fun lo hi n p w w' a b h m hs hh => ⟨fun u hu => h.1 u ⟨Nat.le_trans m.size hu.size, fun k h1 h2 => (hu.block k h1 h2).trans (m.block k (by omega) (by omega)), hu.os.trans m.os, hu.tape.trans m.tape, hu.output.trans m.output⟩, h.2⟩
theorem ownM_sep : SepM OwnM := fun lo hi n p w w' a b h m hs _ => by obtain ⟨j, MB, MF, h⟩ := h; exact ⟨j, MB, MF, h.sep m hs⟩
theorem StdM.now {lo hi : Nat} {n : Nd} {p : NdP} {w : World} (h : StdM lo hi n p w) : NdM n p w := h.1 w ⟨Nat.le_refl _, fun _ _ _ => rfl, rfl, rfl, rfl⟩

structure RowM (M : Nat → Nat → Nd → NdP → World → Prop) (B k : Nat) (N : List Nd) (P : Nat → NdP) (L H : Nat → Nat) (v : Value) (w : World) : Prop where
  own : w.ownsRow B 66 18 v k (flatN N P k)
  mem : ∀ j, j < k → M (L j) (H j) (nthN N j) (P j) w
  out : ∀ j, j < k → B ≤ L j ∧ L j ≤ H j ∧ H j ≤ w.heap.size
  far : ∀ i j, i < j → j < k → H i ≤ L j
  apart : ∀ j, j < k → ∀ g, v.ownBlock = some g → g < L j ∨ H j ≤ g
  lt : ∀ g, v.ownBlock = some g → g < w.heap.size
section
variable {M : Nat → Nat → Nd → NdP → World → Prop} {B k : Nat} {N : List Nd} {P : Nat → NdP} {L H : Nat → Nat} {v : Value} {w w' : World}
theorem RowM.nil (M : Nat → Nat → Nd → NdP → World → Prop) (B : Nat) (N : List Nd) (P : Nat → NdP) (L H : Nat → Nat) (w : World) : RowM M B 0 N P L H (.slice none 0 0) w :=
  ⟨⟨rfl, .inl ⟨rfl, rfl⟩⟩, fun j hj => absurd hj (by omega), fun j hj => absurd hj (by omega), fun i j _ hj => absurd hj (by omega), fun j hj => absurd hj (by omega), fun g hg => by cases hg⟩
theorem RowM.is (h : RowM M B k N P L H v w) : ∃ a c, v = .slice a k c := by
  rcases h.own.2 with ⟨rfl, rfl⟩ | ⟨g, cap, cur, rfl, _⟩
  · exact ⟨_, _, rfl⟩
  · exact ⟨_, _, rfl⟩
theorem ownsRow_mid {e : TypeId} {sz n a b : Nat} {xs : List Value} (h : w.ownsRow B e sz v n xs) (m : Mid a b w w') (hs : ∀ g, v.ownBlock = some g → g < a ∨ b ≤ g) : w'.ownsRow B e sz v n xs := by
  refine ⟨h.1, ?_⟩
  rcases h.2 with e | ⟨g, cap, cur, e, hb, hg, r⟩
  · exact .inl e
  · have := hs g (by rw [e]; rfl)
    exact .inr ⟨g, cap, cur, e, hb, (m.block g (Array.getElem?_eq_some_iff.1 hg).1 this).trans hg, r⟩
/-- Where something else turns, all stays. -/
theorem RowM.sep (hM : SepM M) (h : RowM M B k N P L H v w) {a b : Nat} (m : Mid a b w w') (hs : ∀ g, v.ownBlock = some g → g < a ∨ b ≤ g) (hj : ∀ j, j < k → H j ≤ a ∨ b ≤ L j) : RowM M B k N P L H v w' :=
  ⟨ownsRow_mid h.own m hs, fun j hk => hM _ _ _ _ _ _ _ _ (h.mem j hk) m (hj j hk) (h.out j hk).2.2, fun j hk => by have := h.out j hk; have := m.size; omega, h.far, h.apart, fun g hg => by have := h.lt g hg; have := m.size; omega⟩
theorem RowM.below (hM : SepM M) (h : RowM M B k N P L H v w) (b : Below w.heap.size w w') : RowM M B k N P L H v w' :=
  h.sep hM (Mid.ofBelow (lo := w.heap.size) (hi := w.heap.size) b) (fun g hg => .inl (h.lt g hg)) (fun j hj => .inl (h.out j hj).2.2)
/-- One more. -/
theorem RowM.app (hM : SepM M) (h : RowM M B k N P L H v w) {p : NdP} {lo hi : Nat} {v' : Value} (hm : M lo hi (nthN N k) p w) (hB : B ≤ lo) (hlh : lo ≤ hi) (hhi : hi ≤ w.heap.size) (hlo : ∀ j, j < k → H j ≤ lo) (hg : ∀ g, v.ownBlock = some g → g < lo)
    (r1 : w'.ownsRow B 66 18 v' (k + 1) (flatN N P k ++ (ndC (nthN N k) p).toList)) (r2 : w.grownBy w' v.ownBlock) (r4 : v'.ownBlock = v.ownBlock ∨ v'.ownBlock = some w.heap.size) :
    RowM M B (k + 1) N (fun j => if j = k then p else P j) (fun j => if j = k then lo else L j) (fun j => if j = k then hi else H j) v' w' := by
  have hmid : ∃ a b, Mid a b w w' ∧ (∀ g, a ≤ g → g < b → v.ownBlock = some g) := by
    cases hv : v.ownBlock with
    | none => exact ⟨0, 0, (Mid.refl 0 0 w).grown (by rw [hv] at r2; exact r2) (fun q e => by cases e), fun g _ h => by omega⟩
    | some g => exact ⟨g, g + 1, (Mid.refl g (g + 1) w).grown (by rw [hv] at r2; exact r2) (fun q e => by cases e; omega), fun q h1 h2 => by rw [show q = g by omega]⟩
  obtain ⟨a, b, m, hab⟩ := hmid
  have hsz := m.size
  have far' : ∀ lo' hi', (∀ g, v.ownBlock = some g → g < lo' ∨ hi' ≤ g) → lo' ≤ hi' → hi' ≤ a ∨ b ≤ lo' ∨ b ≤ a := fun lo' hi' hh hle => by
    by_cases e : a < b
    · have h1 := hh a (hab a (Nat.le_refl _) e)
      have h2 := hh (b - 1) (hab (b - 1) (by omega) (by omega))
      have h3 : a = b - 1 := by
        have x1 := hab a (Nat.le_refl _) e
        have x2 := hab (b - 1) (by omega) (by omega)
        rw [x1] at x2
        exact Option.some.inj x2
      omega
    · exact .inr (.inr (by omega))
  have mem' : ∀ lo' hi' n' p', M lo' hi' n' p' w → lo' ≤ hi' → hi' ≤ w.heap.size → (∀ g, v.ownBlock = some g → g < lo' ∨ hi' ≤ g) → M lo' hi' n' p' w' := fun lo' hi' n' p' hm' hle hle2 hh => by
    rcases far' lo' hi' hh hle with e | e | e
    · exact hM _ _ _ _ _ _ _ _ hm' m (.inl e) hle2
    · exact hM _ _ _ _ _ _ _ _ hm' m (.inr e) hle2
    · refine hM _ _ _ _ _ _ 0 0 hm' ⟨m.os, m.tape, m.output, m.size, fun q hq _ => m.block q hq (by omega)⟩ (.inr (by omega)) hle2
  refine ⟨?_, fun j hj => ?_, fun j hj => ?_, fun i j hij hj => ?_, fun j hj g hg' => ?_, fun g hg' => ?_⟩
  · rw [flatN_succ, flatN_congr N N P (fun j => if j = k then p else P j) k (fun _ _ => rfl) (fun j hj => if_neg (by omega))]
    simp only [↓reduceIte]
    exact r1
  · by_cases e : j = k
    · subst e; simp only [↓reduceIte]; exact mem' _ _ _ _ hm hlh hhi (fun g hg' => .inl (hg g hg'))
    · simp only [if_neg e]
      have ho := h.out j (by omega)
      exact mem' _ _ _ _ (h.mem j (by omega)) ho.2.1 ho.2.2 (h.apart j (by omega))
  · by_cases e : j = k
    · subst e; simp only [↓reduceIte]; omega
    · simp only [if_neg e]
      have ho := h.out j (by omega)
      omega
  · by_cases e : j = k
    · subst e; simp only [↓reduceIte, if_neg (show ¬ i = j by omega)]; exact hlo i hij
    · simp only [if_neg e, if_neg (show ¬ i = k by omega)]; exact h.far i j hij (by omega)
  · have hnew : v.ownBlock = some g ∨ g = w.heap.size := by
      rcases r4 with e | e
      · rw [e] at hg'; exact .inl hg'
      · rw [e] at hg'; exact .inr (Option.some.inj hg').symm
    by_cases e : j = k
    · subst e
      simp only [↓reduceIte]
      rcases hnew with e | e
      · exact .inl (hg g e)
      · exact .inr (by omega)
    · simp only [if_neg e]
      rcases hnew with e | e
      · exact h.apart j (by omega) g e
      · exact .inr (by have := h.out j (by omega); omega)
  · rcases r1.2 with ⟨e, _⟩ | ⟨g', cap, cur, e, _, hg2, _⟩
    · rw [e] at hg'; cases hg'
    · rw [e] at hg'; cases hg'; exact (Array.getElem?_eq_some_iff.1 hg2).1
/-- The slice in memory. -/
theorem RowM.nds {R : NdP → Prop} (h : RowM M B k N P L H v w) (hk : k = N.length) (hm : N.length ≤ maxLen) (hR : ∀ j, j < k → NdM (nthN N j) (P j) w ∧ R (P j)) : ∃ a c, v = .slice a N.length c ∧ Nds R a N w := by
  subst hk
  rcases h.own.2 with ⟨rfl, h0⟩ | ⟨g, cap, cur, rfl, hb, hg, hle, hmx, hcs, htk⟩
  · exact ⟨none, 0, by rw [h0], hm, fun j hj => absurd hj (by omega)⟩
  · refine ⟨_, cap, rfl, hm, fun j hj => ⟨g, 0, P j, rfl, fun i x hx => ?_, hR j hj⟩⟩
    have hi : i < 18 := (List.getElem?_eq_some_iff.1 hx).1
    have h2 := flatN_at N P N.length j i x hj hx
    rw [← htk, List.getElem?_take_of_lt (by omega)] at h2
    rw [cell_of_row w g _ _ _ _ hg, Nat.zero_add, ← Array.getElem?_toList]
    exact h2
end
theorem infoN : (Tryz.prog.info? 66).map (fun i => (i.zero, i.size, i.bytes)) = some (some (.agg ndZ), 18, 200) := by kernel_rfl
/-- A node is appended, in a region that draws its order. -/
theorem held_appN {M : Nat → Nat → Nd → NdP → World → Prop} (hM : SepM M) {B k : Nat} {N : List Nd} {P : Nat → NdP} {L H : Nat → Nat} {md : Region.Mode} {ops : Array Oper} {Q : Exit → Act → World → Prop} {S : World → Prop} (i d : Nat) (v : Value) (p : NdP) (lo hi g1 c1 : Nat) {oi : Oper} {fuel : Nat} {listed : Array Bool} {a : Act} {w : World} {s x : Operand}
    (hi0 : ops.toList[i]? = some oi) (hd : oi.dst = some d) (hr : Region.ready md ops listed = [i]) (hw : Region.wanted oi (yielded ops a.tmps) = true) (ho : oi.op = .call { callee := .builtin .append, args := #[s, x], argTypes := #[27, 27] })
    (hs : a.eval s = v) (h : RowM M B k N P L H v w) (hk : k ≤ 1000000) (hx : a.eval x = .slice (some ⟨g1, 0, none⟩) 1 c1) (hg1 : w.heap[g1]? = some (.cells (ndC (nthN N k) p) 66 (0, 0)))
    (hm : M lo hi (nthN N k) p w) (hB : B ≤ lo) (hlh : lo ≤ hi) (hhi : hi ≤ w.heap.size) (hlo : ∀ j, j < k → H j ≤ lo) (hg : ∀ g, v.ownBlock = some g → g < lo) (hBw : B ≤ w.heap.size)
    (K : ∀ v' w', RowM M B (k + 1) N (fun j => if j = k then p else P j) (fun j => if j = k then lo else L j) (fun j => if j = k then hi else H j) v' w' → w.grownBy w' v.ownBlock → S w' ∧ wpAnyH Tryz.prog md ops Q S fuel (listed.setIfInBounds i true) (a.put (some d) v') w') : wpAnyH Tryz.prog md ops Q S (fuel + 1) listed a w := by
  obtain ⟨i0, hi1, hz0, hz1, hz2⟩ := info_parts infoN
  obtain ⟨v', w', hrun, r1, r2, -, r4⟩ := run_append_own_at (P := Tryz.prog) w B 27 oi.type 66 i0 (.agg ndZ) 18 200 Tryz.underlying27 hi1 hz0 hz1 hz2 rfl (by decide) v k (flatN N P k) h.own ⟨g1, 0, none⟩ 1 c1 (ndC (nthN N k) p).toList rfl
    (fun j u hu => by rw [show (⟨g1, 0, none⟩ : Addr).add j = ⟨g1, j, none⟩ by unfold Addr.add; split <;> simp_all, cell_of_row w g1 _ _ _ _ hg1, ← Array.getElem?_toList]; exact hu) (fun u hu => (Array.all_eq_true_iff_forall_mem.1 (ndC_one (nthN N k) p)) u (by simpa using hu)) (by unfold maxLen; omega) (by omega) hBw
  exact h_new i d v' w' hi0 hd hr hw (by simp [execOp, ho, resolve, invoke, builtin, hs, hx, hrun, Result.andThen]) (K v' w' (h.app hM hm hB hlh hhi hlo hg r1 r2 r4) r2)
end Go.Proofs.YtjlegnnekjcpmaaGreat

