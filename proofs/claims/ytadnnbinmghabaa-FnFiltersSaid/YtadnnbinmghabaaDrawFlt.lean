/- The model's draws for filters: l10Draw, DrawPasses, DrawPushedIn. -/
import Derived.Test.YtadnnbinmghabaaFlt
import Derived.Test.YtadnnbinmghabaaSizes
import Derived.Test.YtadnnbinmghabaaFrAny
import Derived.Test.YtadnnbinmghabaaDraws1
import Derived.Test.YtadnnbinmghabaaRows2
import Derived.Deep.DeepCutAuto
import Derived.Deep.CutRange
import Derived.Deep.RegionLaw
set_option linter.unusedVariables false
set_option linter.unusedSimpArgs false
set_option maxRecDepth 20000
namespace Go.Proofs.Ytadnnbinmghabaa
open Go.RowKit

def flatP (M : List (Int × Int)) : List Value := M.flatMap fun f => [.int .i64 f.1, .int .i64 f.2]
theorem flatP_app (M : List (Int × Int)) (x : Int × Int) : flatP (M ++ [x]) = flatP M ++ [.int .i64 x.1, .int .i64 x.2] := by simp [flatP]
theorem flatP_at : ∀ (M : List (Int × Int)) (j : Nat) (h : j < M.length), (flatP M)[j * 2]? = some (.int .i64 M[j].1) ∧ (flatP M)[j * 2 + 1]? = some (.int .i64 M[j].2) := by
  intro M
  induction M with
  | nil => intro j h; simp at h
  | cons m M ih =>
    intro j h
    cases j with
    | zero => exact ⟨rfl, rfl⟩
    | succ j =>
      have k := ih j (by simpa using h)
      have e1 : (j + 1) * 2 = j * 2 + 1 + 1 := by omega
      rw [e1]
      simpa [flatP] using k
/-- The slice v, in a row of the call's own, holds the filters M. -/
def OwnP (B : Nat) (M : List (Int × Int)) (v : Value) (w : World) : Prop := w.ownsRow B 41 2 v M.length (flatP M)
section
variable {B : Nat} {M : List (Int × Int)} {v : Value} {w w' : World}
theorem OwnP.kept {row : Option Nat} (h : OwnP B M v w) (k : w.grownBy w' row) (hne : v.ownBlock = none ∨ v.ownBlock ≠ row) : OwnP B M v w' := World.ownsRow.kept h k hne
theorem OwnP.stay (h : OwnP B M v w) (k : w.grownBy w' none) : OwnP B M v w' := h.kept k (Classical.em _)
theorem OwnP.is (h : OwnP B M v w) : ∃ a c, v = .slice a M.length c := by
  rcases h.2 with ⟨rfl, hn⟩ | ⟨g, cap, cur, rfl, _⟩
  · exact ⟨none, 0, by rw [hn]⟩
  · exact ⟨_, cap, rfl⟩
theorem OwnP.ne_cur {B' p : Nat} {a : Option Addr} {len cap : Nat} (h : OwnP B M v w) (s : St B' p a len cap w) : v.ownBlock ≠ some p := by
  rcases h.2 with ⟨rfl, _⟩ | ⟨g', cap', cur, rfl, _, hg, _⟩
  · simp [Value.ownBlock]
  · intro e
    simp only [Value.ownBlock, Option.some.injEq] at e
    subst e
    obtain ⟨⟨i, h', c⟩, _⟩ := s
    rw [c.block] at hg
    simp at hg
theorem OwnP.low (h : OwnP B M v w) {k : Nat} (hk : v.ownBlock = some k) : B ≤ k := (World.ownsRow.lt h k hk).1
theorem OwnP.fls (h : OwnP B M v w) (hm : M.length ≤ 2000000) : ∃ a c, v = .slice a M.length c ∧ Fls a M w := by
  rcases h.2 with ⟨rfl, hn⟩ | ⟨g, cap, cur, rfl, hrest⟩
  · have e : M = [] := List.length_eq_zero_iff.1 hn
    subst e
    exact ⟨none, 0, rfl, Fls.nil _ _⟩
  · refine ⟨_, cap, rfl, by unfold maxLen; omega, fun j hj => ?_⟩
    obtain ⟨f0, f1⟩ := flatP_at M j hj
    rw [nthP_eq hj]
    refine ⟨g, 0, rfl, ?_, ?_⟩ <;> rw [Nat.zero_add, World.ownsRow.cellAt h _ (by omega)] <;> assumption
end
theorem infoP : (Try.prog.info? 41).map (fun i => (i.zero, i.size, i.bytes)) = some (some (.agg #[.int .i64 0, .int .i64 0]), 2, 16) := by kernel_rfl
/-- 'append' of one filter. -/
theorem wpList_appP {ops : Array Oper} {rest : List Oper} {p : Oper} {a : Act} {w : World} {Q : Exit → Act → World → Prop} (hgd : p.guard = none) (s x : Operand)
    (ho : p.op = .call { callee := .builtin .append, args := #[s, x], argTypes := #[28, 28] })
    (Bn : Nat) (M : List (Int × Int)) (m c : Int) (v : Value) (hs : a.eval s = v) (hown : OwnP Bn M v w) (g1 c1 : Nat) (hx : a.eval x = .slice (some ⟨g1, 0, none⟩) 1 c1)
    (h0 : w.cell? ⟨g1, 0, none⟩ = some (.int .i64 m)) (h1 : w.cell? ⟨g1, 1, none⟩ = some (.int .i64 c)) (hsz : M.length ≤ 2000000) (hB : Bn ≤ w.heap.size)
    (h : ∀ av cv w', OwnP Bn (M ++ [(m, c)]) (.slice av (M.length + 1) cv) w' → w.grownBy w' v.ownBlock → wpList Try.prog ops Q rest (a.put p.dst (.slice av (M.length + 1) cv)) w') : wpList Try.prog ops Q (p :: rest) a w := by
  obtain ⟨i0, hi, hz0, hz1, hz2⟩ := info_parts infoP
  refine wpList_append_own _ hgd s x 28 ho Bn 41 i0 (.agg #[.int .i64 0, .int .i64 0]) 2 16 Try.underlying28 hi hz0 hz1 hz2 rfl (by decide) v M.length (flatP M) hs hown ⟨g1, 0, none⟩ 1 c1 [.int .i64 m, .int .i64 c] hx rfl ?_ ?_ ?_ ?_ hB ?_
  · intro j u hu
    match j, hu with
    | 0, hu => simp at hu; subst hu; exact h0
    | 1, hu => simp at hu; subst hu; exact h1
  · intro u hu; simp at hu; rcases hu with rfl | rfl <;> rfl
  · unfold maxLen; omega
  · omega
  · intro v' w' k2 k3 k4
    have hown' : OwnP Bn (M ++ [(m, c)]) v' w' := by
      unfold OwnP
      rw [flatP_app, List.length_append, List.length_singleton]; exact k2
    obtain ⟨av, cv, rfl⟩ := hown'.is
    rw [List.length_append, List.length_singleton] at hown'
    simp only [List.length_append, List.length_singleton]
    exact h av cv w' hown' k3
/-- The same, at a step of a region that draws its order. -/
theorem step_appP {ops : Array Oper} {o : Oper} {a : Act} {w : World} {K : Act → World → Prop} {Q : Exit → Act → World → Prop} {E : Prop} (hgd : o.guard = none) (s x : Operand)
    (ho : o.op = .call { callee := .builtin .append, args := #[s, x], argTypes := #[28, 28] })
    (Bn : Nat) (M : List (Int × Int)) (m c : Int) (v : Value) (hs : a.eval s = v) (hown : OwnP Bn M v w) (g1 c1 : Nat) (hx : a.eval x = .slice (some ⟨g1, 0, none⟩) 1 c1)
    (h0 : w.cell? ⟨g1, 0, none⟩ = some (.int .i64 m)) (h1 : w.cell? ⟨g1, 1, none⟩ = some (.int .i64 c)) (hsz : M.length ≤ 2000000) (hB : Bn ≤ w.heap.size)
    (h : ∀ av cv w', OwnP Bn (M ++ [(m, c)]) (.slice av (M.length + 1) cv) w' → w.grownBy w' v.ownBlock → K (a.put o.dst (.slice av (M.length + 1) cv)) w') :
    if Region.wanted o (yielded ops a.tmps) = true then Oper.wp Try.prog o a w K Q else E := by
  have hw : Region.wanted o (yielded ops a.tmps) = true := by simp [Region.wanted, hgd]
  rw [if_pos hw]
  obtain ⟨i0, hi, hz0, hz1, hz2⟩ := info_parts infoP
  obtain ⟨v', w', hr, h2, h3, h4⟩ := run_append_own (P := Try.prog) w Bn 28 o.type 41 i0 (.agg #[.int .i64 0, .int .i64 0]) 2 16 Try.underlying28 hi hz0 hz1 hz2 rfl (by decide)
    v M.length (flatP M) hown ⟨g1, 0, none⟩ 1 c1 [.int .i64 m, .int .i64 c] rfl
    (fun j u hu => by
      match j, hu with
      | 0, hu => simp at hu; subst hu; exact h0
      | 1, hu => simp at hu; subst hu; exact h1) (fun u hu => by simp at hu; rcases hu with rfl | rfl <;> rfl) (by unfold maxLen; omega) (by omega) hB
  have hown' : OwnP Bn (M ++ [(m, c)]) v' w' := by
    unfold OwnP
    rw [flatP_app, List.length_append, List.length_singleton]; exact h2
  obtain ⟨av, cv, rfl⟩ := hown'.is
  unfold Oper.wp
  simp [execOp, ho, resolve, invoke, builtin, hs, hx, hr, Result.andThen]
  rw [List.length_append, List.length_singleton] at hown'
  exact h av cv w' hown' h3

/-- What stands while filters are drawn: the cursor, the row. -/
structure PS (w0 : World) (B p : Nat) (a : Option Addr) (len cap : Nat) (L : List (Int × Int)) (v : Value) (w : World) : Prop where
  st : St B p a len cap w
  grown : w0.grownBy w (some p)
  own : OwnP w0.heap.size L v w
  pl : p < w0.heap.size
section
variable {w0 : World} {B p : Nat} {a : Option Addr} {len cap : Nat} {L : List (Int × Int)} {v : Value} {w : World}
theorem PS.step {w' : World} (F : PS w0 B p a len cap L v w) (k : w.grownBy w' (some p)) (t : St B p a len cap w') : PS w0 B p a len cap L v w' :=
  ⟨t, grown_trans F.grown k, F.own.kept k (.inr (F.own.ne_cur F.st)), F.pl⟩
theorem PS.alloc (F : PS w0 B p a len cap L v w) (o : Obj) : PS w0 B p a len cap L v (w.alloc o) := F.step (World.grownBy_alloc w o _) (F.st.alloc o)
theorem PS.drew (F : PS w0 B p a len cap L v w) : PS w0 B p a len cap L v w.drew := F.step (grown_drew (grown_refl w _)) F.st.drew
theorem PS.app {L' : List (Int × Int)} {v' : Value} {w' : World} (F : PS w0 B p a len cap L v w) (own' : OwnP w0.heap.size L' v' w') (k : w.grownBy w' v.ownBlock) : PS w0 B p a len cap L' v' w' := by
  have h1 := F.pl
  refine ⟨F.st.step k (fun j e => by have := F.own.low e; omega), ?_, own', h1⟩
  cases hv : v.ownBlock with
  | none => rw [hv] at k; exact grown_trans F.grown (grown_some k _)
  | some q => rw [hv] at k; exact grown_own F.grown k (F.own.low hv)
theorem PS.made {w0 : World} (st : St B p a len cap w0) : PS w0 B p a len cap [] (.slice (some ⟨w0.heap.size, 0, none⟩) 0 0) (w0.alloc (.cells #[] 41)) :=
  ⟨st.alloc _, World.grownBy_alloc w0 _ _, World.ownsRow_made (base := w0.heap.size) (e := 41) (size := 2) w0 #[] 0 (Nat.le_refl _) (Nat.zero_le _) rfl, st.lt⟩
end
/-- What a draw of filters leaves. -/
def DrewP (B p : Nat) (a : Option Addr) (len cap : Nat) (N : Nat) (w : World) (e : Ending) (w' : World) : Prop :=
  ∃ (L : List (Int × Int)) (v : Value), e = .returned v ∧ PS w B p a len cap L v w' ∧ L.length ≤ N

abbrev list5 : Array Value := (#[.int .i64 0, .int .i64 1, .int .i64 3, .int .i64 8, .int .i64 2047] : Array Value)
/-- A number of the short list. -/
theorem pick5 {x : Int} (h0 : 0 ≤ x) (h1 : x ≤ 4) : ∃ v : Int, list5[x.toNat]? = some (.int .i64 v) := by
  have hx : x = 0 ∨ x = 1 ∨ x = 2 ∨ x = 3 ∨ x = 4 := by omega
  rcases hx with rfl | rfl | rfl | rfl | rfl <;> exact ⟨_, rfl⟩
/-- Block b holds the numbers C. -/
def HasP (b : Nat) (C : Array Value) (w : World) : Prop := ∃ T z, w.heap[b]? = some (.cells C T z)
theorem HasP.cell {b : Nat} {C : Array Value} {w : World} (h : HasP b C w) {k : Nat} {v : Value} (hv : C[k]? = some v) : w.cell? ⟨b, k, none⟩ = some v := by
  obtain ⟨T, z, h⟩ := h
  simp [World.cell?, h, hv]
theorem HasP.lt {b : Nat} {C : Array Value} {w : World} (h : HasP b C w) : b < w.heap.size := by
  obtain ⟨T, z, h⟩ := h
  exact (Array.getElem?_eq_some_iff.1 h).1
theorem HasP.grown {b p : Nat} {C : Array Value} {w w' : World} (h : HasP b C w) (g : w.grownBy w' (some p)) (hp : b ≠ p) : HasP b C w' := by
  have hl := h.lt
  obtain ⟨T, z, h⟩ := h
  exact ⟨T, z, (g.block b hl (by simpa using hp)).trans h⟩
theorem HasP.made (C : Array Value) (T : TypeId) (w : World) : HasP w.heap.size C (w.alloc (.cells C T)) := ⟨T, (0, 0), heap_alloc_new w _⟩
theorem HasP.madeD (C : Array Value) (T : TypeId) (w : World) : HasP w.heap.size C (w.drew.alloc (.cells C T)) := ⟨T, (0, 0), heap_alloc_new w.drew _⟩

set_option maxHeartbeats 8000000 in
/-- spec.l10Draw. -/
theorem drawFlts {B p : Nat} {a : Option Addr} {len cap : Nat} (w : World) (st : St B p a len cap w) :
    Calls Try.prog 29 #[.pointer (some ⟨p, 0, none⟩)] w (DrewP B p a len cap 2 w) := by
  have F := PS.made st
  have hp := st.lt
  go_enter Try.func29, Try.ntmps29
  go_upto_region 2 with fail
  generalize w.alloc (.cells #[] 41) = W at *
  generalize (.slice (some ⟨w.heap.size, 0, none⟩) 0 0 : Value) = v0 at *
  go_wp2_with fail
  refine (belowPos (B := B) (a := a) (len := len) (cap := cap) 3 _ (by omega) (by omega) F.st).mono ?_
  rintro e w1 ⟨n, n0, n1, rfl, g1, s1⟩
  replace F := F.step g1 s1
  clear g1 s1
  obtain ⟨n, rfl⟩ := Int.eq_ofNat_of_zero_le n0
  replace F := Lib.hid F
  go_wp2_with fail
  go_loopw [3, 4] (fun l i wr => ∃ (n : Nat) (L : List (Int × Int)), i = .int .i64 n ∧ L.length + n ≤ 2 ∧ PS w B p a len cap L l wr) (fun _ i _ => (intOf i).toNat)
  case atStart => exact ⟨n, [], rfl, by simp; omega, F.out⟩
  case round =>
    clear F n0 n1
    obtain ⟨n, L, rfl, hn, F⟩ := hrel
    by_cases h0 : n = 0
    · subst h0
      go_wp2_with fail
      go_ret
      exact ⟨L, _, rfl, F, by omega⟩
    · have hpos : (0 : Int) < n := by omega
      have hl2 : L.length ≤ 1 := by omega
      obtain ⟨av, cv, rfl⟩ := F.own.is
      have G1 := F.drew
      have hp1 := G1.st.lt
      have hpw : p ≠ wr.heap.size := by have : p < wr.heap.size := F.st.lt; omega
      go_wp2_with fail
      have hsz : wr.drew.heap.size = wr.heap.size := rfl
      go_region_law (first
        | (go_simp
           go_at_call_of 32 (Value.int .i64 5)
           refine (belowPos (B := B) (a := a) (len := len) (cap := cap) 5 _ (by omega) (by omega) ?_).mono ?_
           · first | exact G1.st | exact (G1.alloc _).st
           rintro e w5 ⟨x, x0, x1, rfl, g5, s5⟩
           have x2 : x < 5 := by omega
           obtain ⟨u, hu⟩ := pick5 x0 (by omega)
           have G5 : PS w B p a len cap L (.slice av L.length cv) w5 := by first | exact G1.step g5 s5 | exact (G1.alloc _).step g5 s5
           first
             | (have r1 : HasP wr.heap.size list5 w5 := HasP.grown (HasP.madeD _ _ _) g5 (by omega)
                have k1 := r1.cell hu)
             | (have r1 := HasP.made list5 2 w5
                have k1 := r1.cell hu))
        | (go_simp
           go_at_call_of 32 (Value.int .i64 12)
           refine (belowPos (B := B) (a := a) (len := len) (cap := cap) 12 _ (by omega) (by omega) ?_).mono ?_
           · first | exact G5.st | exact (G5.alloc _).st
           rintro e w6 ⟨y, y0, y1, rfl, g6, s6⟩
           have y2 : y < 12 := by omega
           have hp5 := G5.st.lt
           have G6 : PS w B p a len cap L (.slice av L.length cv) w6 := by first | exact G5.step g6 s6 | exact (G5.alloc _).step g6 s6
           have hz6 := G6.grown.size
           have hs6 : Hid (w6.heap.size + 1 = (w6.alloc (.cells list5 2)).heap.size) := Lib.hid (by simp)
           first
             | (have q1 : HasP _ list5 w6 := HasP.grown r1 g6 (by omega)
                have j1 := q1.cell hu)
             | (have q1 := HasP.made list5 2 w6
                have j1 := q1.cell hu))
        | (refine step_appP rfl (.tmp 12) (.tmp 21) rfl w.heap.size L u y (.slice av L.length cv) ?_ ?_ w6.heap.size 1 ?_ ?_ ?_ ?_ ?_ ?_
           · simp [Act.eval, Act.put]
           · exact (G6.alloc _).own
           · simp [Act.eval, Act.put]
           · exact World.cell?_alloc_at _ _ _ _ rfl
           · exact World.cell?_alloc_at _ _ _ _ rfl
           · omega
           · simp
             try omega
           intro av2 cv2 w8 own8 g8
           have G9 := (G6.alloc (.cells #[.int .i64 u, .int .i64 y] 41)).app own8 g8)
        | (refine step_appP rfl (.tmp 12) (.tmp 21) rfl w.heap.size L u y (.slice av L.length cv) ?_ ?_ (w6.heap.size + 1) 1 ?_ ?_ ?_ ?_ ?_ ?_
           · simp [Act.eval, Act.put]
           · exact ((G6.alloc _).alloc _).own
           · simp [Act.eval, Act.put]
           · exact World.cell?_alloc_at _ _ _ _ hs6.out
           · exact World.cell?_alloc_at _ _ _ _ hs6.out
           · omega
           · simp
             try omega
           intro av2 cv2 w8 own8 g8
           have G9 := ((G6.alloc (.cells list5 2)).alloc (.cells #[.int .i64 u, .int .i64 y] 41)).app own8 g8))
      all_goals
        have G9 := G9
        clear F G1
        go_wp2_with fail
        go_roundw
        case rel => exact ⟨n - 1, L ++ [(u, y)], by congr 1; omega, by simp; omega, G9⟩
        case measure => simp [intOf]; omega
/-- What a draw of some filters and an id leaves. -/
def PassArg (w : World) (e : Ending) (w' : World) : Prop :=
  ∃ (L : List (Int × Int)) (a : Option Addr) (c : Nat) (id : Int), e = .returned (.tuple #[.slice a L.length c, .int .i64 id]) ∧ Fls a L w' ∧ L.length ≤ 3 ∧ Below w.heap.size w w'
set_option maxHeartbeats 4000000 in
/-- spec.DrawPasses. -/
theorem drawPasses {B : Nat} {a : Option Addr} {len cap : Nat} (w : World) (cd : Code B a len w) (hB : B ≤ w.heap.size) :
    Calls Try.prog 9 #[.slice a len cap] w (PassArg w) := by
  go_enter Try.func9, Try.ntmps9
  go_wp2_with fail
  refine (newAny (B := B) w cd hB).mono ?_
  rintro e w1 ⟨rfl, g1, s1⟩
  have b1 := below_new g1
  clear g1
  generalize hp : w.heap.size = p at s1 ⊢
  replace hp := Lib.hid hp
  go_wp2_with fail
  refine (drawFlts (B := B) (a := a) (len := len) (cap := cap) w1 s1).mono ?_
  rintro e w2 ⟨L, v, rfl, F, hL⟩
  have hlow : w.heap.size ≤ w1.heap.size := b1.size
  have b := b1.grown F.grown b1.size (fun q e => by cases e; exact Nat.le_of_eq hp.out)
  clear s1 b1
  go_wp2_with fail
  refine (onceAny (B := B) (a := a) (len := len) (cap := cap) 8 _ (by omega) (by omega) F.st).mono ?_
  rintro e w3 ⟨bb, rfl, g3, s3⟩
  replace F := F.step g3 s3
  replace b := b.grown g3 b.size (fun q e => by cases e; exact Nat.le_of_eq hp.out)
  clear g3 s3
  obtain ⟨av, cv, rfl⟩ := F.own.is
  go_upto_if 11 with fail
  go_cut [5] (fun l wx => ∃ L : List (Int × Int), L.length ≤ 3 ∧ PS w1 B p a len cap L l wx ∧ Below w.heap.size w wx)
  case first =>
    cases bb with
    | true =>
      go_wp2_with fail
      refine (numAny (B := B) (a := a) (len := len) (cap := cap) 2047 _ (by omega) (by omega) F.st).mono ?_
      rintro e w4 ⟨m, m0, m1, rfl, g4, s4⟩
      replace F := F.step g4 s4
      replace b := b.grown g4 b.size (fun q e => by cases e; exact Nat.le_of_eq hp.out)
      clear g4 s4 m0 m1
      go_wp2_with fail
      refine (numAny (B := B) (a := a) (len := len) (cap := cap) 2047 _ (by omega) (by omega) F.st).mono ?_
      rintro e w5 ⟨c, c0, c1, rfl, g5, s5⟩
      replace F := F.step g5 s5
      replace b := b.grown g5 b.size (fun q e => by cases e; exact Nat.le_of_eq hp.out)
      clear g5 s5 c0 c1
      have G := F.alloc (.cells #[.int .i64 m, .int .i64 c] 41)
      replace b := b.alloc b.size (.cells #[.int .i64 m, .int .i64 c] 41)
      have hsz := G.grown.size
      have hl2 : L.length ≤ 2000000 := by omega
      clear F
      go_wp2_with (at_builtin; go_loud (refine wpList_appP rfl _ _ rfl w1.heap.size L m c _ rfl G.own w5.heap.size 1 rfl (World.cell?_alloc_at _ _ _ _ rfl) (World.cell?_alloc_at _ _ _ _ rfl) hl2 hsz ?_))
      intro av2 cv2 w6 O6 k6
      have bz := b.grown k6 b.size (fun q e => by have := G.own.low e; omega)
      replace G := G.app O6 k6
      clear b k6 O6 hsz
      go_wp2_with fail
      go_meet
      exact ⟨L ++ [(m, c)], by simp; omega, by simpa using G, bz⟩
    | false =>
      go_wp2_with fail
      go_meet
      exact ⟨L, by omega, F, b⟩
  case rest =>
  clear F b hL
  obtain ⟨L, hL, F, b⟩ := hcut
  generalize wc = w3 at *
  obtain ⟨av, cv, rfl⟩ := F.own.is
  go_wp2_with fail
  refine (onceAny (B := B) (a := a) (len := len) (cap := cap) 8 _ (by omega) (by omega) F.st).mono ?_
  rintro e w4 ⟨bb, rfl, g3, s3⟩
  replace F := F.step g3 s3
  replace b := b.grown g3 b.size (fun q e => by cases e; exact Nat.le_of_eq hp.out)
  clear g3 s3
  cases bb with
  | true =>
    go_wp2_with fail
    refine (numAny (B := B) (a := a) (len := len) (cap := cap) 2047 _ (by omega) (by omega) F.st).mono ?_
    rintro e w5 ⟨m, m0, m1, rfl, g4, s4⟩
    replace F := F.step g4 s4
    replace b := b.grown g4 b.size (fun q e => by cases e; exact Nat.le_of_eq hp.out)
    clear g4 s4 m0 m1
    obtain ⟨a', c', e', fl⟩ := F.own.fls (by omega)
    cases e'
    go_wp2_with fail
    go_ret2
    exact ⟨L, _, _, _, rfl, fl, hL, b⟩
  | false =>
    go_wp2_with fail
    refine (belowPos (B := B) (a := a) (len := len) (cap := cap) 16 _ (by omega) (by omega) F.st).mono ?_
    rintro e w5 ⟨m, m0, m1, rfl, g4, s4⟩
    replace F := F.step g4 s4
    replace b := b.grown g4 b.size (fun q e => by cases e; exact Nat.le_of_eq hp.out)
    clear g4 s4 m0 m1
    obtain ⟨a', c', e', fl⟩ := F.own.fls (by omega)
    cases e'
    go_wp2_with fail
    go_ret2
    exact ⟨L, _, _, _, rfl, fl, hL, b⟩
end Go.Proofs.Ytadnnbinmghabaa
