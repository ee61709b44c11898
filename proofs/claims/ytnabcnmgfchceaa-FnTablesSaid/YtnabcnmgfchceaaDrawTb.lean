/- The model's draws of tables: l15Draw, l15DrawAny, l15DrawAt. What is drawn is told as a row of the call's own, all numbers. -/
import Derived.Test.YtnabcnmgfchceaaMsgX
import Derived.Test.YtnabcnmgfchceaaDraws1
import Derived.Test.YtnabcnmgfchceaaRows2
import Derived.Deep.DeepCutAuto
import Derived.Deep.CutRange
import Derived.Deep.RegionLaw
set_option linter.unusedVariables false
set_option linter.unusedSimpArgs false
set_option maxRecDepth 20000
namespace Go.Proofs.Ytnabcnmgfchceaa
open Go.RowKit

def isI (x : Value) : Prop := ∃ i : Int, x = .int .i64 i
/-- The slice v, in a row of the call's own, holds n messages. -/
def RowA (B n : Nat) (v : Value) (w : World) : Prop := ∃ xs, w.ownsRow B 32 6 v n xs ∧ ∀ x ∈ xs, isI x
section
variable {B n : Nat} {v : Value} {w w' : World}
theorem RowA.kept {row : Option Nat} (h : RowA B n v w) (k : w.grownBy w' row) (hne : v.ownBlock = none ∨ v.ownBlock ≠ row) : RowA B n v w' := h.imp fun xs h => ⟨World.ownsRow.kept h.1 k hne, h.2⟩
theorem RowA.is (h : RowA B n v w) : ∃ a c, v = .slice a n c := by
  obtain ⟨xs, h, _⟩ := h
  rcases h.2 with ⟨rfl, hn⟩ | ⟨g, cap, cur, rfl, _⟩
  · exact ⟨none, 0, by rw [hn]⟩
  · exact ⟨_, cap, rfl⟩
theorem RowA.low (h : RowA B n v w) {k : Nat} (hk : v.ownBlock = some k) : B ≤ k ∧ k < w.heap.size := by
  obtain ⟨xs, h, _⟩ := h
  exact World.ownsRow.lt h k hk
theorem RowA.at_ {a : Option Addr} {c : Nat} (h : RowA B n (.slice a n c) w) (hn : 0 < n) : ∃ g, a = some ⟨g, 0, none⟩ ∧ ∀ j, j < n * 6 → (∃ i : Int, w.cell? ⟨g, j, none⟩ = some (.int .i64 i)) ∧ w.frozen? ⟨g, j, none⟩ = false := by
  obtain ⟨xs, h, hx⟩ := h
  rcases h.2 with ⟨_, h0⟩ | ⟨g, cap, cur, e, _⟩
  · omega
  · simp only [Value.slice.injEq, true_and] at e
    obtain ⟨rfl, rfl⟩ := e
    refine ⟨g, rfl, fun j hj => ⟨?_, World.ownsRow.frozenAt h j⟩⟩
    have hl : j < xs.length := by rw [h.1]; exact hj
    rw [World.ownsRow.cellAt h j hj, List.getElem?_eq_getElem hl]
    obtain ⟨i, hi⟩ := hx _ (List.getElem_mem hl)
    exact ⟨i, by rw [hi]⟩
theorem RowA.stored {g c : Nat} (h : RowA B n (.slice (some ⟨g, 0, none⟩) n c) w) (j : Nat) (i : Int) : RowA B n (.slice (some ⟨g, 0, none⟩) n c) (w.setCell ⟨g, j, none⟩ (.int .i64 i)) := by
  obtain ⟨xs, h, hx⟩ := h
  refine ⟨_, (World.ownsRow.stored h j (.int .i64 i)).1, fun x hx' => ?_⟩
  rcases List.mem_or_eq_of_mem_set hx' with h1 | rfl
  · exact hx x h1
  · exact ⟨i, rfl⟩
theorem RowA.tbl {a : Option Addr} {c : Nat} (h : RowA B n (.slice a n c) w) (hm : n ≤ 2000000) : ∃ T : List Ms, T.length = n ∧ Tbl a T w := by
  by_cases hn : n = 0
  · subst hn
    exact ⟨[], rfl, Tbl.nil _ _⟩
  · obtain ⟨g, rfl, hc⟩ := h.at_ (by omega)
    obtain ⟨f, hf⟩ := Go.Deep.choose_lt (α := Ms) (p := fun i f => MsC g (0 + i * 6) f w) (n := n) (fun i hi => by
      obtain ⟨⟨x0, h0⟩, _⟩ := hc (i * 6) (by omega)
      obtain ⟨⟨x1, h1⟩, _⟩ := hc (i * 6 + 1) (by omega)
      obtain ⟨⟨x2, h2⟩, _⟩ := hc (i * 6 + 2) (by omega)
      obtain ⟨⟨x3, h3⟩, _⟩ := hc (i * 6 + 3) (by omega)
      obtain ⟨⟨x4, h4⟩, _⟩ := hc (i * 6 + 4) (by omega)
      obtain ⟨⟨x5, h5⟩, _⟩ := hc (i * 6 + 5) (by omega)
      rw [Nat.zero_add]
      exact ⟨⟨x0, x1, x2, x3, x4, x5⟩, h0, h1, h2, h3, h4, h5⟩)
    refine ⟨(List.range n).map f, by simp, by simp; unfold maxLen; omega, fun j hj => ⟨g, 0, rfl, ?_⟩⟩
    have hj' : j < n := by simpa using hj
    have e : nthTb ((List.range n).map f) j = f j := by simp [nthTb, List.getD_eq_getElem?_getD, hj']
    rw [e]
    exact hf j hj'
theorem RowA.ne_cur {B' p : Nat} {a : Option Addr} {len cap : Nat} (h : RowA B n v w) (s : St B' p a len cap w) : v.ownBlock ≠ some p := by
  obtain ⟨xs, h, _⟩ := h
  rcases h.2 with ⟨rfl, _⟩ | ⟨g', cap', cur, rfl, _, hg, _⟩
  · simp [Value.ownBlock]
  · intro e
    simp only [Value.ownBlock, Option.some.injEq] at e
    subst e
    obtain ⟨⟨i, h', c⟩, _⟩ := s
    rw [c.block] at hg
    simp at hg
end
theorem infoMs : (Try.prog.info? 32).map (fun i => (i.zero, i.size, i.bytes)) = some (some (.agg #[.int .i64 0, .int .i64 0, .int .i64 0, .int .i64 0, .int .i64 0, .int .i64 0]), 6, 48) := by kernel_rfl
/-- 'append' of one message. -/
theorem wpList_appMs {ops : Array Oper} {rest : List Oper} {p : Oper} {a : Act} {w : World} {Q : Exit → Act → World → Prop} (hgd : p.guard = none) (s x : Operand)
    (ho : p.op = .call { callee := .builtin .append, args := #[s, x], argTypes := #[24, 24] })
    (Bn n : Nat) (m : Ms) (v : Value) (hs : a.eval s = v) (hown : RowA Bn n v w) (g1 c1 : Nat) (hx : a.eval x = .slice (some ⟨g1, 0, none⟩) 1 c1)
    (hc : w.heap[g1]? = some (.cells (mgC m) 32 (0, 0))) (hsz : n ≤ 1000000) (hB : Bn ≤ w.heap.size)
    (h : ∀ av cv w', RowA Bn (n + 1) (.slice av (n + 1) cv) w' → w.grownBy w' v.ownBlock → wpList Try.prog ops Q rest (a.put p.dst (.slice av (n + 1) cv)) w') : wpList Try.prog ops Q (p :: rest) a w := by
  obtain ⟨i0, hi, hz0, hz1, hz2⟩ := info_parts infoMs
  obtain ⟨xs, ho1, hxs⟩ := hown
  refine wpList_append_own _ hgd s x 24 ho Bn 32 i0 (.agg #[.int .i64 0, .int .i64 0, .int .i64 0, .int .i64 0, .int .i64 0, .int .i64 0]) 6 48 Try.underlying24 hi hz0 hz1 hz2 rfl (by decide) v n xs hs ho1 ⟨g1, 0, none⟩ 1 c1 (mgC m).toList hx rfl ?_ ?_ ?_ ?_ hB ?_
  · intro j u hu
    rw [show (⟨g1, 0, none⟩ : Addr).add j = ⟨g1, j, none⟩ by unfold Addr.add; split <;> simp_all, cell_of_row w g1 _ _ _ _ hc, ← Array.getElem?_toList]
    exact hu
  · intro u hu; simp at hu; rcases hu with rfl | rfl | rfl | rfl | rfl | rfl <;> rfl
  · unfold maxLen; omega
  · omega
  · intro v' w' k2 k3 k4
    have hR : RowA Bn (n + 1) v' w' := ⟨_, k2, fun y hy => by
      rcases List.mem_append.1 hy with hy | hy
      · exact hxs y hy
      · simp at hy; rcases hy with rfl | rfl | rfl | rfl | rfl | rfl <;> exact ⟨_, rfl⟩⟩
    obtain ⟨av, cv, rfl⟩ := hR.is
    exact h av cv w' hR k3

/-- What stands while a table is drawn: the cursor, the row. -/
structure TS (w0 : World) (B p : Nat) (a : Option Addr) (len cap n : Nat) (v : Value) (w : World) : Prop where
  st : St B p a len cap w
  grown : w0.grownBy w (some p)
  own : RowA w0.heap.size n v w
  pl : p < w0.heap.size
section
variable {w0 : World} {B p : Nat} {a : Option Addr} {len cap n : Nat} {v : Value} {w : World}
theorem TS.step {w' : World} (F : TS w0 B p a len cap n v w) (k : w.grownBy w' (some p)) (t : St B p a len cap w') : TS w0 B p a len cap n v w' :=
  ⟨t, grown_trans F.grown k, F.own.kept k (.inr (F.own.ne_cur F.st)), F.pl⟩
theorem TS.alloc (F : TS w0 B p a len cap n v w) (o : Obj) : TS w0 B p a len cap n v (w.alloc o) := F.step (World.grownBy_alloc w o _) (F.st.alloc o)
theorem TS.drew (F : TS w0 B p a len cap n v w) : TS w0 B p a len cap n v w.drew := F.step (grown_drew (grown_refl w _)) F.st.drew
theorem TS.row (F : TS w0 B p a len cap n v w) {n' : Nat} {v' : Value} {w' : World} (own' : RowA w0.heap.size n' v' w') (k : w.grownBy w' v.ownBlock) : TS w0 B p a len cap n' v' w' := by
  have h1 := F.pl
  refine ⟨F.st.step k (fun j e => by have := F.own.low e; omega), ?_, own', h1⟩
  cases hv : v.ownBlock with
  | none => rw [hv] at k; exact grown_trans F.grown (grown_some k _)
  | some q => rw [hv] at k; exact grown_own F.grown k (F.own.low hv).1
/-- A number is stored in the row. -/
theorem TS.set {g c : Nat} (F : TS w0 B p a len cap n (.slice (some ⟨g, 0, none⟩) n c) w) (j : Nat) (i : Int) : TS w0 B p a len cap n (.slice (some ⟨g, 0, none⟩) n c) (w.setCell ⟨g, j, none⟩ (.int .i64 i)) := F.row (F.own.stored j i) (grown_set w g j _)
/-- A store in a block of the call's own that is neither the row nor the cursor. -/
theorem TS.other (F : TS w0 B p a len cap n v w) {g : Nat} (k : Nat) (x : Value) (hg : w0.heap.size ≤ g) (hv : v.ownBlock ≠ some g) (hp : g ≠ p) : TS w0 B p a len cap n v (w.setCell ⟨g, k, none⟩ x) := by
  have h1 := F.pl
  have hs : w.grownBy (w.setCell ⟨g, k, none⟩ x) (some g) := grown_set w g k x
  exact ⟨F.st.step hs (fun j e => by cases e; omega), grown_own F.grown hs hg, F.own.kept hs (.inr hv), h1⟩
theorem TS.made {w0 : World} (st : St B p a len cap w0) : TS w0 B p a len cap 0 (.slice (some ⟨w0.heap.size, 0, none⟩) 0 0) (w0.alloc (.cells #[] 32)) :=
  ⟨st.alloc _, World.grownBy_alloc w0 _ _, ⟨[], World.ownsRow_made (base := w0.heap.size) (e := 32) (size := 6) w0 #[] 0 (Nat.le_refl _) (Nat.zero_le _) rfl, fun x hx => by cases hx⟩, st.lt⟩
end
theorem blk_grown {w w' : World} {g : Nat} {o : Obj} {r : Option Nat} (h : w.heap[g]? = some o) (k : w.grownBy w' r) (hne : some g ≠ r) : w'.heap[g]? = some o := (k.block g (Array.getElem?_eq_some_iff.1 h).1 hne).trans h
theorem keep6 {w : World} {gF g : Nat} {o : Obj} (h : w.heap[gF]? = some o) (hne : gF ≠ g) (a0 a1 a2 a3 a4 a5 : Nat) (x0 x1 x2 x3 x4 x5 : Value) :
    ((((((w.setCell ⟨g, a0, none⟩ x0).setCell ⟨g, a1, none⟩ x1).setCell ⟨g, a2, none⟩ x2).setCell ⟨g, a3, none⟩ x3).setCell ⟨g, a4, none⟩ x4).setCell ⟨g, a5, none⟩ x5).heap[gF]? = some o :=
  blk_grown h (grown_trans (grown_trans (grown_trans (grown_trans (grown_trans (grown_set _ _ _ _) (grown_set _ _ _ _)) (grown_set _ _ _ _)) (grown_set _ _ _ _)) (grown_set _ _ _ _)) (grown_set _ _ _ _)) (by simpa using hne)
abbrev listJ : Array Value := (#[.int .i64 0, .int .i64 0, .int .i64 5, .int .i64 40, .int .i64 150] : Array Value)
theorem pickJ {x : Int} (h0 : 0 ≤ x) (h1 : x ≤ 4) : ∃ v : Int, listJ[x.toNat]? = some (.int .i64 v) := by
  have hx : x = 0 ∨ x = 1 ∨ x = 2 ∨ x = 3 ∨ x = 4 := by omega
  rcases hx with rfl | rfl | rfl | rfl | rfl <;> exact ⟨_, rfl⟩
/-- What a draw of a table leaves. -/
def DrewT (B p : Nat) (a : Option Addr) (len cap lo hi : Nat) (w : World) (e : Ending) (w' : World) : Prop :=
  ∃ (n : Nat) (v : Value), e = .returned v ∧ TS w B p a len cap n v w' ∧ lo ≤ n ∧ n ≤ hi

set_option maxHeartbeats 8000000 in
/-- spec.l15Draw. -/
theorem drawTable {B p : Nat} {a : Option Addr} {len cap : Nat} (w : World) (st : St B p a len cap w) :
    Calls Try.prog 49 #[.pointer (some ⟨p, 0, none⟩)] w (DrewT B p a len cap 1 5 w) := by
  have F := TS.made st
  have hp := st.lt
  go_enter Try.func49, Try.ntmps49
  go_upto_region 2 with fail
  generalize w.alloc (.cells #[] 32) = W at *
  generalize (.slice (some ⟨w.heap.size, 0, none⟩) 0 0 : Value) = v0 at *
  go_wp2_with fail
  refine (belowPos (B := B) (a := a) (len := len) (cap := cap) 5 _ (by omega) (by omega) F.st).mono ?_
  rintro e w1 ⟨n, n0, n1, rfl, g1, s1⟩
  replace F := F.step g1 s1
  clear g1 s1
  obtain ⟨n, rfl⟩ := Int.eq_ofNat_of_zero_le n0
  have hn4 : n ≤ 4 := by omega
  replace F := Lib.hid F
  go_wp2_with fail
  go_loopw [3, 4] (fun l i wr => ∃ (n m : Nat), i = .int .i64 n ∧ 1 ≤ m + n ∧ m + n ≤ 5 ∧ TS w B p a len cap m l wr) (fun _ i _ => (intOf i).toNat)
  case atStart => exact ⟨1 + n, 0, by simp, by omega, by omega, F.out⟩
  case round =>
    clear F n0 n1 hn4
    obtain ⟨n, m, rfl, hn1, hn5, F⟩ := hrel
    obtain ⟨av, cv, rfl⟩ := F.own.is
    by_cases h0 : n = 0
    · subst h0
      have hm1 : 1 ≤ m := by omega
      obtain ⟨g, rfl, hc0⟩ := F.own.at_ hm1
      have hgl := (F.own.low (k := g) rfl)
      obtain ⟨k, hkm⟩ : ∃ k, m = k + 1 := ⟨m - 1, by omega⟩
      have hk2 : (m : Int) - 1 = (k : Int) := by omega
      have hk1 : IntKind.i64.wrap (k : Int) = (k : Int) := IntWalk.i64_in _ (by omega)
      have hk3 : IntKind.i64.wrap ((m : Int) - 1) = (k : Int) := by rw [hk2]; exact hk1
      have hkl : k < m := by omega
      have hk6 : k * 6 + 6 ≤ m * 6 := by omega
      replace hkm := Lib.hid hkm
      go_wp2_with fail
      refine (onceAny (B := B) (a := a) (len := len) (cap := cap) 2 _ (by omega) (by omega) F.st).mono ?_
      rintro e w2 ⟨bb, rfl, gX, sX⟩
      replace F := F.step gX sX
      clear gX sX hc0
      have hgl2 := (F.own.low (k := g) rfl).2
      cases bb with
      | false =>
        go_wp2_with fail
        refine (onceAny (B := B) (a := a) (len := len) (cap := cap) 5 _ (by omega) (by omega) F.st).mono ?_
        rintro e wa ⟨b5, rfl, gX, sX⟩
        replace F := F.step gX sX
        clear gX sX
        cases b5 with
        | false =>
          go_wp2_with fail
          go_ret
          exact ⟨m, _, rfl, F, hm1, by omega⟩
        | true =>
          go_wp2_with fail
          refine (belowPos (B := B) (a := a) (len := len) (cap := cap) 200 _ (by omega) (by omega) F.st).mono ?_
          rintro e wb ⟨pp, p0, p1, rfl, gX, sX⟩
          replace F := F.step gX sX
          clear gX sX
          obtain ⟨_, e0, hc⟩ := F.own.at_ hm1
          cases e0
          obtain ⟨⟨q2, qc2⟩, qf2⟩ := hc 2 (by omega)
          clear hc
          go_upto_region 15 with fail
          replace F := F.set 2 (100 + pp)
          clear qc2 qf2
          generalize World.setCell _ _ _ = wc at F ⊢
          go_wp2_with fail
          refine (belowPos (B := B) (a := a) (len := len) (cap := cap) 50 _ (by omega) (by omega) F.st).mono ?_
          rintro e wd ⟨jj, j0, j1, rfl, gX, sX⟩
          replace F := F.step gX sX
          clear gX sX
          obtain ⟨_, e0, hc⟩ := F.own.at_ hm1
          cases e0
          obtain ⟨⟨q3, qc3⟩, qf3⟩ := hc 3 (by omega)
          clear hc
          go_upto_region 16 with fail
          replace F := F.set 3 jj
          clear qc3 qf3
          generalize World.setCell _ _ _ = we at F ⊢
          obtain ⟨_, e0, hc⟩ := F.own.at_ hm1
          cases e0
          obtain ⟨⟨q2, qc2⟩, qf2⟩ := hc 2 (by omega)
          obtain ⟨⟨q4, qc4⟩, qf4⟩ := hc 4 (by omega)
          clear hc
          go_upto_region 17 with fail
          replace F := F.set 4 q2
          clear qc2 qf2 qc4 qf4
          generalize World.setCell _ _ _ = wf at F ⊢
          go_wp2_with fail
          go_ret
          exact ⟨m, _, rfl, F, hm1, by omega⟩
      | true =>
        by_cases hm2 : 1 < m
        · have hm2d : decide (1 < m) = true := decide_eq_true hm2
          go_upto_region 10 with fail
          obtain ⟨_, e0, hc⟩ := F.own.at_ hm1
          cases e0
          obtain ⟨⟨x0, xc0⟩, xf0⟩ := hc (0) (by omega)
          obtain ⟨⟨x1, xc1⟩, xf1⟩ := hc (1) (by omega)
          obtain ⟨⟨x2, xc2⟩, xf2⟩ := hc (2) (by omega)
          obtain ⟨⟨x3, xc3⟩, xf3⟩ := hc (3) (by omega)
          obtain ⟨⟨x4, xc4⟩, xf4⟩ := hc (4) (by omega)
          obtain ⟨⟨x5, xc5⟩, xf5⟩ := hc (5) (by omega)
          clear hc
          go_upto_region 11 with fail
          have HF := heap_alloc_new w2 (.cells (mgC ⟨x0, x1, x2, x3, x4, x5⟩) 32)
          replace F := F.alloc (.cells (mgC ⟨x0, x1, x2, x3, x4, x5⟩) 32)
          clear xc0 xf0 xc1 xf1 xc2 xf2 xc3 xf3 xc4 xf4 xc5 xf5
          have hgF : w2.heap.size ≠ g := by omega
          generalize w2.alloc _ = w3 at F HF ⊢
          generalize w2.heap.size = gF at HF hgF ⊢
          obtain ⟨_, e0, hc⟩ := F.own.at_ hm1
          cases e0
          obtain ⟨⟨y0, yc0⟩, yf0⟩ := hc (0) (by omega)
          obtain ⟨⟨y1, yc1⟩, yf1⟩ := hc (1) (by omega)
          obtain ⟨⟨y2, yc2⟩, yf2⟩ := hc (2) (by omega)
          obtain ⟨⟨y3, yc3⟩, yf3⟩ := hc (3) (by omega)
          obtain ⟨⟨y4, yc4⟩, yf4⟩ := hc (4) (by omega)
          obtain ⟨⟨y5, yc5⟩, yf5⟩ := hc (5) (by omega)
          obtain ⟨⟨z0, zc0⟩, zf0⟩ := hc (k * 6) (by omega)
          obtain ⟨⟨z1, zc1⟩, zf1⟩ := hc (k * 6 + 1) (by omega)
          obtain ⟨⟨z2, zc2⟩, zf2⟩ := hc (k * 6 + 2) (by omega)
          obtain ⟨⟨z3, zc3⟩, zf3⟩ := hc (k * 6 + 3) (by omega)
          obtain ⟨⟨z4, zc4⟩, zf4⟩ := hc (k * 6 + 4) (by omega)
          obtain ⟨⟨z5, zc5⟩, zf5⟩ := hc (k * 6 + 5) (by omega)
          clear hc
          go_upto_region 12 with fail
          replace F := ((((((F.set 0 z0).set 1 z1).set 2 z2).set 3 z3).set 4 z4).set 5 z5)
          replace HF := keep6 HF hgF 0 1 2 3 4 5 (.int .i64 z0) (.int .i64 z1) (.int .i64 z2) (.int .i64 z3) (.int .i64 z4) (.int .i64 z5)
          clear yc0 yf0 yc1 yf1 yc2 yf2 yc3 yf3 yc4 yf4 yc5 yf5 zc0 zf0 zc1 zf1 zc2 zf2 zc3 zf3 zc4 zf4 zc5 zf5
          generalize World.setCell _ _ _ = w4 at F HF ⊢
          have f0 := cell_of_row w4 gF 0 _ _ _ HF
          have f1 := cell_of_row w4 gF 1 _ _ _ HF
          have f2 := cell_of_row w4 gF 2 _ _ _ HF
          have f3 := cell_of_row w4 gF 3 _ _ _ HF
          have f4 := cell_of_row w4 gF 4 _ _ _ HF
          have f5 := cell_of_row w4 gF 5 _ _ _ HF
          simp at f0 f1 f2 f3 f4 f5
          obtain ⟨_, e0, hc⟩ := F.own.at_ hm1
          cases e0
          obtain ⟨⟨z0, zc0⟩, zf0⟩ := hc (k * 6) (by omega)
          obtain ⟨⟨z1, zc1⟩, zf1⟩ := hc (k * 6 + 1) (by omega)
          obtain ⟨⟨z2, zc2⟩, zf2⟩ := hc (k * 6 + 2) (by omega)
          obtain ⟨⟨z3, zc3⟩, zf3⟩ := hc (k * 6 + 3) (by omega)
          obtain ⟨⟨z4, zc4⟩, zf4⟩ := hc (k * 6 + 4) (by omega)
          obtain ⟨⟨z5, zc5⟩, zf5⟩ := hc (k * 6 + 5) (by omega)
          clear hc
          go_upto_region 13 with fail
          replace F := ((((((F.set (k * 6) x0).set (k * 6 + 1) x1).set (k * 6 + 2) x2).set (k * 6 + 3) x3).set (k * 6 + 4) x4).set (k * 6 + 5) x5)
          clear zc0 zf0 zc1 zf1 zc2 zf2 zc3 zf3 zc4 zf4 zc5 zf5 f0 f1 f2 f3 f4 f5 HF
          generalize World.setCell _ _ _ = w5 at F ⊢
          go_wp2_with fail
          refine (onceAny (B := B) (a := a) (len := len) (cap := cap) 5 _ (by omega) (by omega) F.st).mono ?_
          rintro e wa ⟨b5, rfl, gX, sX⟩
          replace F := F.step gX sX
          clear gX sX
          cases b5 with
          | false =>
            go_wp2_with fail
            go_ret
            exact ⟨m, _, rfl, F, hm1, by omega⟩
          | true =>
            go_wp2_with fail
            refine (belowPos (B := B) (a := a) (len := len) (cap := cap) 200 _ (by omega) (by omega) F.st).mono ?_
            rintro e wb ⟨pp, p0, p1, rfl, gX, sX⟩
            replace F := F.step gX sX
            clear gX sX
            obtain ⟨_, e0, hc⟩ := F.own.at_ hm1
            cases e0
            obtain ⟨⟨q2, qc2⟩, qf2⟩ := hc 2 (by omega)
            clear hc
            go_upto_region 15 with fail
            replace F := F.set 2 (100 + pp)
            clear qc2 qf2
            generalize World.setCell _ _ _ = wc at F ⊢
            go_wp2_with fail
            refine (belowPos (B := B) (a := a) (len := len) (cap := cap) 50 _ (by omega) (by omega) F.st).mono ?_
            rintro e wd ⟨jj, j0, j1, rfl, gX, sX⟩
            replace F := F.step gX sX
            clear gX sX
            obtain ⟨_, e0, hc⟩ := F.own.at_ hm1
            cases e0
            obtain ⟨⟨q3, qc3⟩, qf3⟩ := hc 3 (by omega)
            clear hc
            go_upto_region 16 with fail
            replace F := F.set 3 jj
            clear qc3 qf3
            generalize World.setCell _ _ _ = we at F ⊢
            obtain ⟨_, e0, hc⟩ := F.own.at_ hm1
            cases e0
            obtain ⟨⟨q2, qc2⟩, qf2⟩ := hc 2 (by omega)
            obtain ⟨⟨q4, qc4⟩, qf4⟩ := hc 4 (by omega)
            clear hc
            go_upto_region 17 with fail
            replace F := F.set 4 q2
            clear qc2 qf2 qc4 qf4
            generalize World.setCell _ _ _ = wf at F ⊢
            go_wp2_with fail
            go_ret
            exact ⟨m, _, rfl, F, hm1, by omega⟩
        · have hm2d : decide (1 < m) = false := decide_eq_false hm2
          go_wp2_with fail
          refine (onceAny (B := B) (a := a) (len := len) (cap := cap) 5 _ (by omega) (by omega) F.st).mono ?_
          rintro e wa ⟨b5, rfl, gX, sX⟩
          replace F := F.step gX sX
          clear gX sX
          cases b5 with
          | false =>
            go_wp2_with fail
            go_ret
            exact ⟨m, _, rfl, F, hm1, by omega⟩
          | true =>
            go_wp2_with fail
            refine (belowPos (B := B) (a := a) (len := len) (cap := cap) 200 _ (by omega) (by omega) F.st).mono ?_
            rintro e wb ⟨pp, p0, p1, rfl, gX, sX⟩
            replace F := F.step gX sX
            clear gX sX
            obtain ⟨_, e0, hc⟩ := F.own.at_ hm1
            cases e0
            obtain ⟨⟨q2, qc2⟩, qf2⟩ := hc 2 (by omega)
            clear hc
            go_upto_region 15 with fail
            replace F := F.set 2 (100 + pp)
            clear qc2 qf2
            generalize World.setCell _ _ _ = wc at F ⊢
            go_wp2_with fail
            refine (belowPos (B := B) (a := a) (len := len) (cap := cap) 50 _ (by omega) (by omega) F.st).mono ?_
            rintro e wd ⟨jj, j0, j1, rfl, gX, sX⟩
            replace F := F.step gX sX
            clear gX sX
            obtain ⟨_, e0, hc⟩ := F.own.at_ hm1
            cases e0
            obtain ⟨⟨q3, qc3⟩, qf3⟩ := hc 3 (by omega)
            clear hc
            go_upto_region 16 with fail
            replace F := F.set 3 jj
            clear qc3 qf3
            generalize World.setCell _ _ _ = we at F ⊢
            obtain ⟨_, e0, hc⟩ := F.own.at_ hm1
            cases e0
            obtain ⟨⟨q2, qc2⟩, qf2⟩ := hc 2 (by omega)
            obtain ⟨⟨q4, qc4⟩, qf4⟩ := hc 4 (by omega)
            clear hc
            go_upto_region 17 with fail
            replace F := F.set 4 q2
            clear qc2 qf2 qc4 qf4
            generalize World.setCell _ _ _ = wf at F ⊢
            go_wp2_with fail
            go_ret
            exact ⟨m, _, rfl, F, hm1, by omega⟩
    · have hpos : 0 < n := by omega
      go_wp2_with fail
      refine (belowPos (B := B) (a := a) (len := len) (cap := cap) 10 _ (by omega) (by omega) F.st).mono ?_
      rintro e w2 ⟨x, x0, x1, rfl, gX, sX⟩
      replace F := F.step gX sX
      clear gX sX
      go_wp2_with fail
      refine (belowPos (B := B) (a := a) (len := len) (cap := cap) 9 _ (by omega) (by omega) F.st).mono ?_
      rintro e w3 ⟨y, y0, y1, rfl, gX, sX⟩
      replace F := F.step gX sX
      clear gX sX
      go_wp2_with fail
      refine (belowPos (B := B) (a := a) (len := len) (cap := cap) 12 _ (by omega) (by omega) F.st).mono ?_
      rintro e w4 ⟨z, z0, z1, rfl, gX, sX⟩
      replace F := F.step gX sX
      clear gX sX
      go_wp2_with fail
      refine (belowPos (B := B) (a := a) (len := len) (cap := cap) 3 _ (by omega) (by omega) F.st).mono ?_
      rintro e w5 ⟨q, q0, q1, rfl, gX, sX⟩
      replace F := F.step gX sX
      clear gX sX
      have hm5 : m ≤ 5 := by omega
      have hvg : ∀ r, (Value.slice av m cv).ownBlock = some r → r < w5.heap.size := fun r hr => (F.own.low hr).2
      have hw5 := F.grown.size
      have hp5 := F.st.lt
      have HB := heap_alloc_new w5 (.cells (mgC ⟨10 * (m : Int) + x, y, 400 + 100 * z, 0, 0, q⟩) 32)
      replace F := F.alloc (.cells (mgC ⟨10 * (m : Int) + x, y, 400 + 100 * z, 0, 0, q⟩) 32)
      go_upto_region 6 with fail
      generalize w5.alloc _ = W5 at F HB ⊢
      generalize w5.heap.size = gm at HB hvg hw5 hp5 ⊢
      have hgm := (Array.getElem?_eq_some_iff.1 HB).1
      have HL := heap_alloc_new W5 (.cells listJ 2)
      have gA := World.grownBy_alloc W5 (.cells listJ 2) none
      replace HB := blk_grown HB gA (by simp)
      replace F := F.alloc (.cells listJ 2)
      have hWl : p < W5.heap.size := by omega
      have hm2 : 0 ≤ 400 + 100 * z ∧ 400 + 100 * z ≤ 2000 := by omega
      generalize 10 * (m : Int) + x = m0 at *
      generalize 400 + 100 * z = m2 at *
      go_wp2_with fail
      refine (belowPos (B := B) (a := a) (len := len) (cap := cap) 5 _ (by omega) (by omega) F.st).mono ?_
      rintro e w6 ⟨r, r0, r1, rfl, gX, sX⟩
      replace F := F.step gX sX
      replace HB := blk_grown HB gX (by simp; omega)
      replace HL := blk_grown HL gX (by simp; omega)
      obtain ⟨jv, hjv⟩ := pickJ r0 (by omega)
      have k1 := (cell_of_row w6 _ r.toNat _ _ _ HL).trans hjv
      have c3 := cell_of_row w6 gm 3 _ _ _ HB
      have z3 := frozen_of_row w6 gm 3 _ _ HB
      have hr5 : r < 5 := by omega
      clear gX sX gA HL hjv
      go_upto_region 7 with fail
      replace F := F.other (g := gm) 3 (.int .i64 jv) hw5 (fun e => by have := hvg gm e; omega) (by omega)
      replace HB := heap_setCell_same w6 gm 3 _ _ (.int .i64 jv) HB
      clear c3 z3 k1
      generalize w6.setCell _ _ = w7 at F HB ⊢
      have FD := F.drew
      have HD : w7.drew.heap[gm]? = _ := HB
      have c2 := cell_of_row w7.drew gm 2 _ _ _ HD
      clear F HB
      go_region_law (first
        | (go_simp
           refine (belowPos (B := B) (a := a) (len := len) (cap := cap) 3 _ (by omega) (by omega) FD.st).mono ?_
           rintro e w8 ⟨d, d0, d1, rfl, gX, sX⟩
           have F8 := FD.step gX sX
           have HB8 := blk_grown HD gX (by simp; omega)
           have e2 := cell_of_row w8 gm 2 _ _ _ HB8
           have e4 := cell_of_row w8 gm 4 _ _ _ HB8
           have z4 := frozen_of_row w8 gm 4 _ _ HB8))
      all_goals
        generalize IntKind.i64.wrap (m2 - IntKind.i64.wrap (d * 100)) = dv
        have F9 := F8.other (g := gm) 4 (.int .i64 dv) hw5 (fun e => by have := hvg gm e; omega) (by omega)
        have HB9 := heap_setCell_same w8 gm 4 _ _ (.int .i64 dv) HB8
        go_upto_region 8 with fail
        clear c2 e2 e4 z4 F8 HB8 FD HD
        generalize World.setCell _ _ _ = w9 at F9 HB9 ⊢
        have b0 := cell_of_row w9 gm 0 _ _ _ HB9
        have b1 := cell_of_row w9 gm 1 _ _ _ HB9
        have b2 := cell_of_row w9 gm 2 _ _ _ HB9
        have b3 := cell_of_row w9 gm 3 _ _ _ HB9
        have b4 := cell_of_row w9 gm 4 _ _ _ HB9
        have b5 := cell_of_row w9 gm 5 _ _ _ HB9
        simp at b0 b1 b2 b3 b4 b5
        have FA := F9.alloc (.cells (mgC ⟨m0, y, m2, jv, dv, q⟩) 32)
        have HA := heap_alloc_new w9 (.cells (mgC ⟨m0, y, m2, jv, dv, q⟩) 32)
        have hsz : m ≤ 1000000 := by omega
        have hB := FA.grown.size
        go_wp2_with (at_builtin; (refine wpList_appMs rfl _ _ rfl w.heap.size m ⟨m0, y, m2, jv, dv, q⟩ _ rfl FA.own w9.heap.size 1 rfl HA hsz hB ?_; intro av2 cv2 w10 O10 g10))
        have FB := FA.row O10 g10
        clear FA F9 HB9 HA b0 b1 b2 b3 b4 b5 O10 g10
        go_wp2_with fail
        go_roundw
        case rel => exact ⟨n - 1, m + 1, by go_num, by omega, by omega, FB⟩
        case measure => simp [intOf]; omega
/-- A row of noughts is made. -/
theorem TS.zero {w0 : World} {B p : Nat} {a : Option Addr} {len cap n : Nat} {v : Value} {w : World} (F : TS w0 B p a len cap n v w) (k : Nat) (hk : k ≤ 1048576) :
    TS w0 B p a len cap k (.slice (some ⟨w.heap.size, 0, none⟩) k k) (w.alloc (.cells (madeCells #[.int .i64 0, .int .i64 0, .int .i64 0, .int .i64 0, .int .i64 0, .int .i64 0] (k * 6)) 32)) := by
  have hz : (madeCells #[Value.int .i64 0, .int .i64 0, .int .i64 0, .int .i64 0, .int .i64 0, .int .i64 0] (k * 6)).size = k * 6 := by simp [madeCells]
  refine ⟨F.st.alloc _, grown_trans F.grown (World.grownBy_alloc w _ _), ⟨_, ⟨?_, .inr ⟨w.heap.size, k, _, rfl, F.grown.size, heap_alloc_new w _, Nat.le_refl _, by unfold maxLen; omega, hz, List.take_of_length_le (by rw [Array.length_toList, hz]; omega)⟩⟩, fun x hx => ?_⟩, F.pl⟩
  · rw [Array.length_toList, hz]
  · obtain ⟨j, hj, rfl⟩ := List.mem_iff_getElem.1 hx
    have h6 : j % 6 = 0 ∨ j % 6 = 1 ∨ j % 6 = 2 ∨ j % 6 = 3 ∨ j % 6 = 4 ∨ j % 6 = 5 := by omega
    refine ⟨0, ?_⟩
    simp only [madeCells, Array.getElem_toList, Array.getElem_map, Array.getElem_range]
    rcases h6 with h | h | h | h | h | h <;> simp [h]

set_option maxHeartbeats 8000000 in
/-- spec.l15DrawAny. -/
theorem drawAnyTable {B p : Nat} {a : Option Addr} {len cap : Nat} (w : World) (st : St B p a len cap w) :
    Calls Try.prog 30 #[.pointer (some ⟨p, 0, none⟩)] w (DrewT B p a len cap 0 13 w) := by
  go_enter Try.func30, Try.ntmps30
  go_wp2_with fail
  refine (drawTable (B := B) (a := a) (len := len) (cap := cap) w st).mono ?_
  rintro e w2 ⟨m, v, rfl, F, hm1, hm5⟩
  obtain ⟨av, cv, rfl⟩ := F.own.is
  obtain ⟨g, rfl, _⟩ := F.own.at_ hm1
  go_wp2_with fail
  refine (onceAny (B := B) (a := a) (len := len) (cap := cap) 5 _ (by omega) (by omega) F.st).mono ?_
  rintro e w3 ⟨bb, rfl, gX, sX⟩
  replace F := F.step gX sX
  clear gX sX
  cases bb with
  | false =>
    go_wp2_with fail
    go_ret
    exact ⟨m, _, rfl, F, by omega, by omega⟩
  | true =>
    go_wp2_with fail
    refine (belowPos (B := B) (a := a) (len := len) (cap := cap) (m : Int) _ (by omega) (by omega) F.st).mono ?_
    rintro e w4 ⟨i, i0, i1, rfl, gX, sX⟩
    replace F := F.step gX sX
    clear gX sX
    obtain ⟨i, rfl⟩ := Int.eq_ofNat_of_zero_le i0
    have him : i < m := by omega
    have him6 : i * 6 + 6 ≤ m * 6 := by omega
    clear i0 i1
    go_wp2_with fail
    refine (belowPos (B := B) (a := a) (len := len) (cap := cap) 8 _ (by omega) (by omega) F.st).mono ?_
    rintro e w5 ⟨x, x0, x1, rfl, gX, sX⟩
    replace F := F.step gX sX
    clear gX sX
    have hx : x = 0 ∨ x = 1 ∨ x = 2 ∨ x = 3 ∨ x = 4 ∨ x = 5 ∨ x = 6 ∨ x = 7 := by omega
    clear x0 x1
    rcases hx with rfl | rfl | rfl | rfl | rfl | rfl | rfl | rfl
    · go_wp2_with fail
      refine (numAny (B := B) (a := a) (len := len) (cap := cap) 2047 _ (by omega) (by omega) F.st).mono ?_
      rintro e w6 ⟨y, y0, y1, rfl, gX, sX⟩
      replace F := F.step gX sX
      clear gX sX y0 y1
      obtain ⟨_, e0, hc⟩ := F.own.at_ hm1
      cases e0
      obtain ⟨⟨q, qc⟩, qf⟩ := hc (i * 6) (by omega)
      clear hc
      go_upto_region 22 with fail
      replace F := F.set (i * 6) y
      clear qc qf
      generalize World.setCell _ _ _ = wf at F ⊢
      go_wp2_with fail
      go_ret
      exact ⟨m, _, rfl, F, by omega, by omega⟩
    · go_wp2_with fail
      refine (numAny (B := B) (a := a) (len := len) (cap := cap) 8 _ (by omega) (by omega) F.st).mono ?_
      rintro e w6 ⟨y, y0, y1, rfl, gX, sX⟩
      replace F := F.step gX sX
      clear gX sX y0 y1
      obtain ⟨_, e0, hc⟩ := F.own.at_ hm1
      cases e0
      obtain ⟨⟨q, qc⟩, qf⟩ := hc (i * 6 + 1) (by omega)
      clear hc
      go_upto_region 22 with fail
      replace F := F.set (i * 6 + 1) y
      clear qc qf
      generalize World.setCell _ _ _ = wf at F ⊢
      go_wp2_with fail
      go_ret
      exact ⟨m, _, rfl, F, by omega, by omega⟩
    · go_wp2_with fail
      refine (numAny (B := B) (a := a) (len := len) (cap := cap) 20000 _ (by omega) (by omega) F.st).mono ?_
      rintro e w6 ⟨y, y0, y1, rfl, gX, sX⟩
      replace F := F.step gX sX
      clear gX sX y0 y1
      obtain ⟨_, e0, hc⟩ := F.own.at_ hm1
      cases e0
      obtain ⟨⟨q, qc⟩, qf⟩ := hc (i * 6 + 2) (by omega)
      clear hc
      go_upto_region 22 with fail
      replace F := F.set (i * 6 + 2) y
      clear qc qf
      generalize World.setCell _ _ _ = wf at F ⊢
      go_wp2_with fail
      go_ret
      exact ⟨m, _, rfl, F, by omega, by omega⟩
    · obtain ⟨_, e0, hc⟩ := F.own.at_ hm1
      cases e0
      obtain ⟨⟨q2, qc2⟩, qf2⟩ := hc (i * 6 + 2) (by omega)
      clear hc
      have FD := F.drew
      have qd2 : w5.drew.cell? ⟨g, i * 6 + 2, none⟩ = some (.int .i64 q2) := qc2
      have hgd := (FD.own.low (k := g) rfl)
      clear F qc2 qf2
      go_upto_region 13 with fail
      go_region_law (first
        | (go_simp
           refine (fromAny (B := B) (a := a) (len := len) (cap := cap) 0 1 _ (by omega) (by omega) (by omega) FD.st).mono ?_
           rintro e w6 ⟨d, d0, d1, rfl, gX, sX⟩
           have F8 := FD.step gX sX
           have e2 := (World.cell?_of_block (a := ⟨g, i * 6 + 2, none⟩) (gX.block g hgd.2 (by simp; have := FD.pl; omega))).trans qd2
           obtain ⟨_, e0, hc⟩ := F8.own.at_ hm1
           cases e0
           obtain ⟨⟨q3, qc3⟩, qf3⟩ := hc (i * 6 + 3) (by omega)
           clear hc))
      all_goals
        generalize IntKind.i64.wrap (q2 + d) = dv
        have F9 := F8.set (i * 6 + 3) dv
        go_upto_region 22 with fail
        clear qc3 qf3 e2 qd2 FD F8
        generalize World.setCell _ _ _ = wf at F9 ⊢
        go_wp2_with fail
        go_ret
        exact ⟨m, _, rfl, F9, by omega, by omega⟩
    · obtain ⟨_, e0, hc⟩ := F.own.at_ hm1
      cases e0
      obtain ⟨⟨q2, qc2⟩, qf2⟩ := hc (i * 6 + 2) (by omega)
      clear hc
      have FD := F.drew
      have qd2 : w5.drew.cell? ⟨g, i * 6 + 2, none⟩ = some (.int .i64 q2) := qc2
      have hgd := (FD.own.low (k := g) rfl)
      clear F qc2 qf2
      go_upto_region 15 with fail
      go_region_law (first
        | (go_simp
           refine (fromAny (B := B) (a := a) (len := len) (cap := cap) 0 1 _ (by omega) (by omega) (by omega) FD.st).mono ?_
           rintro e w6 ⟨d, d0, d1, rfl, gX, sX⟩
           have F8 := FD.step gX sX
           have e2 := (World.cell?_of_block (a := ⟨g, i * 6 + 2, none⟩) (gX.block g hgd.2 (by simp; have := FD.pl; omega))).trans qd2
           obtain ⟨_, e0, hc⟩ := F8.own.at_ hm1
           cases e0
           obtain ⟨⟨q4, qc4⟩, qf4⟩ := hc (i * 6 + 4) (by omega)
           clear hc))
      all_goals
        generalize IntKind.i64.wrap (d * IntKind.i64.wrap (q2 + 1)) = dv
        have F9 := F8.set (i * 6 + 4) dv
        go_upto_region 22 with fail
        clear qc4 qf4 e2 qd2 FD F8
        generalize World.setCell _ _ _ = wf at F9 ⊢
        go_wp2_with fail
        go_ret
        exact ⟨m, _, rfl, F9, by omega, by omega⟩
    · go_wp2_with fail
      refine (numAny (B := B) (a := a) (len := len) (cap := cap) 5 _ (by omega) (by omega) F.st).mono ?_
      rintro e w6 ⟨y, y0, y1, rfl, gX, sX⟩
      replace F := F.step gX sX
      clear gX sX y0 y1
      obtain ⟨_, e0, hc⟩ := F.own.at_ hm1
      cases e0
      obtain ⟨⟨q, qc⟩, qf⟩ := hc (i * 6 + 5) (by omega)
      clear hc
      go_upto_region 22 with fail
      replace F := F.set (i * 6 + 5) y
      clear qc qf
      generalize World.setCell _ _ _ = wf at F ⊢
      go_wp2_with fail
      go_ret
      exact ⟨m, _, rfl, F, by omega, by omega⟩
    · obtain ⟨_, e0, hc⟩ := F.own.at_ hm1
      cases e0
      obtain ⟨⟨x0, xc0⟩, xf0⟩ := hc 0 (by omega)
      obtain ⟨⟨x1, xc1⟩, xf1⟩ := hc 1 (by omega)
      obtain ⟨⟨x2, xc2⟩, xf2⟩ := hc 2 (by omega)
      obtain ⟨⟨x3, xc3⟩, xf3⟩ := hc 3 (by omega)
      obtain ⟨⟨x4, xc4⟩, xf4⟩ := hc 4 (by omega)
      obtain ⟨⟨x5, xc5⟩, xf5⟩ := hc 5 (by omega)
      clear hc
      have FA := F.alloc (.cells (mgC ⟨x0, x1, x2, x3, x4, x5⟩) 32)
      have HA := heap_alloc_new w5 (.cells (mgC ⟨x0, x1, x2, x3, x4, x5⟩) 32)
      have hsz : m ≤ 1000000 := by omega
      have hB := FA.grown.size
      go_wp2_with (at_builtin; refine wpList_appMs rfl _ _ rfl w.heap.size m ⟨x0, x1, x2, x3, x4, x5⟩ _ rfl FA.own w5.heap.size 1 rfl HA hsz hB ?_; intro av2 cv2 w10 O10 g10)
      have FB := FA.row O10 g10
      go_wp2_with fail
      go_ret
      exact ⟨m + 1, _, rfl, FB, by omega, by omega⟩
    · go_wp2_with fail
      refine (belowPos (B := B) (a := a) (len := len) (cap := cap) 2 _ (by omega) (by omega) F.st).mono ?_
      rintro e w6 ⟨y, y0, y1, rfl, gX, sX⟩
      replace F := F.step gX sX
      clear gX sX
      have hy : y = 0 ∨ y = 1 := by omega
      clear y0 y1
      rcases hy with rfl | rfl
      · have hmk : ∀ W : World, (Instr.makeSlice 24 (.int .i64 0) (.int .i64 0)).run Try.prog W = .ok (.slice (some ⟨W.heap.size, 0, none⟩) 0 0) (W.alloc (.cells (madeCells #[.int .i64 0, .int .i64 0, .int .i64 0, .int .i64 0, .int .i64 0, .int .i64 0] (0 * 6)) 32)) := fun W => make_msgs 0 (by omega) W
        have FM := F.zero 0 (by omega)
        go_wp2_with fail
        go_ret
        exact ⟨0, _, rfl, FM, by omega, by omega⟩
      · have hmk : ∀ W : World, (Instr.makeSlice 24 (.int .i64 13) (.int .i64 13)).run Try.prog W = .ok (.slice (some ⟨W.heap.size, 0, none⟩) 13 13) (W.alloc (.cells (madeCells #[.int .i64 0, .int .i64 0, .int .i64 0, .int .i64 0, .int .i64 0, .int .i64 0] (13 * 6)) 32)) := fun W => make_msgs 13 (by omega) W
        have FM := F.zero 13 (by omega)
        go_wp2_with fail
        go_ret
        exact ⟨13, _, rfl, FM, by omega, by omega⟩
end Go.Proofs.Ytnabcnmgfchceaa

