/- Contracts of the model's copies (l1Copy, l4Copy): the copy's row is its own. -/
import Derived.Test.YtcciabalbdnakabFrM
import Derived.Deep.CutRange
set_option linter.unusedSimpArgs false
set_option linter.unusedVariables false
set_option maxRecDepth 20000
namespace Go.Proofs.Ytcciabalbdnakab
open Go.RowKit

/-- 'append' of a list of numbers to an empty row of the call's own. -/
theorem wpList_appL {ops : Array Oper} {rest : List Oper} {p : Oper} {a : Act} {w : World} {Q : Exit → Act → World → Prop} (hgd : p.guard = none) (s x : Operand)
    (ho : p.op = .call { callee := .builtin .append, args := #[s, x], argTypes := #[24, 24] })
    (B : Nat) (D : List Int) (v : Value) (hs : a.eval s = v) (hown : OwnI B [] v w) (ad : Addr) (c : Nat) (hx : a.eval x = .slice (some ad) D.length c) (hd : Nums (some ad) D w)
    (hsz : D.length ≤ 2000000) (hB : B ≤ w.heap.size)
    (h : ∀ av cv w', OwnI B D (.slice av D.length cv) w' → w.grownBy w' v.ownBlock → wpList Try.prog ops Q rest (a.put p.dst (.slice av D.length cv)) w') : wpList Try.prog ops Q (p :: rest) a w := by
  obtain ⟨i0, hi, hz0, hz1, hz2⟩ := info_parts info64
  refine wpList_append_own _ hgd s x 24 ho B 2 i0 (.int .i64 0) 1 8 Try.underlying24 hi hz0 hz1 hz2 rfl (by decide) v 0 [] hs (by simpa using hown.1) ad D.length c (D.map (Value.int .i64)) hx (by simp) ?_ ?_ ?_ ?_ hB ?_
  · intro j u hu
    have hj : j < D.length := by
      have := (List.getElem?_eq_some_iff.1 hu).1
      simpa using this
    obtain ⟨g, o, e, hc⟩ := hd.2.2 j hj
    cases e
    have hadd : (⟨g, o, none⟩ : Addr).add j = ⟨g, o + j, none⟩ := by unfold Addr.add; split <;> simp_all
    rw [hadd, hc, ← hu]
    simp [nth, List.getD_eq_getElem?_getD, List.getElem?_eq_getElem hj]
  · intro u hu
    obtain ⟨z, _, rfl⟩ := List.mem_map.1 hu
    rfl
  · unfold maxLen; omega
  · omega
  · intro v' w' h2 h3 h4
    have hown' : OwnI B D v' w' := ⟨by simpa using h2, hd.2.1⟩
    obtain ⟨av, cv, rfl, _⟩ := hown'.nums
    exact h av cv w' hown' h3

/-- What a copy of a list leaves. -/
def Copied (D : List Int) (w : World) (e : Ending) (w' : World) : Prop :=
  ∃ (av : Option Addr) (cv : Nat), e = .returned (.slice av D.length cv) ∧ OwnI w.heap.size D (.slice av D.length cv) w' ∧ w.grownBy w' none

/-- spec.l1Copy. -/
theorem copyIntsB (a : Option Addr) (D : List Int) (c : Nat) (w : World) (hd : Nums a D w) (h : D.length ≤ 1048576) :
    Calls Try.prog 82 #[.slice a D.length c] w (Copied D w) := by
  have own0 := World.ownsRow_made (base := w.heap.size) (e := 2) (size := 1) w #[] 0 (Nat.le_refl _) (Nat.zero_le _) rfl
  cases a with
  | none =>
    have hD : D = [] := by
      cases D with
      | nil => rfl
      | cons x l =>
        obtain ⟨g, o, e, _⟩ := hd.2.2 0 (by simp)
        cases e
    subst hD
    go_enter Try.func82, Try.ntmps82
    go_wp2_with fail
    go_ret
    exact ⟨some ⟨w.heap.size, 0, none⟩, 0, rfl, ⟨own0, by simp⟩, World.grownBy_alloc w _ none⟩
  | some ad =>
    go_enter Try.func82, Try.ntmps82
    have hd' := hd.below ((Below.refl _ _).alloc (Nat.le_refl _) (.cells #[] 2))
    go_wp2_with (at_builtin; refine wpList_appL rfl _ _ rfl w.heap.size D _ rfl ⟨own0, by simp⟩ ad c rfl hd' ?c1 ?c2 ?_)
    case c1 => omega
    case c2 => simp
    intro av cv w' own' gr'
    go_wp2_with fail
    go_ret
    refine ⟨av, cv, rfl, own', ?_⟩
    have g0 := World.grownBy_alloc w (.cells #[] 2) none
    exact grown_own g0 gr' (Nat.le_refl _)
theorem copyInts (a : Option Addr) (D : List Int) (c : Nat) (w : World) (hd : Nums a D w) (h : D.length ≤ 1000) :
    Calls Try.prog 82 #[.slice a D.length c] w (Copied D w) := copyIntsB a D c w hd (by omega)
/-- spec.l4Copy. -/
theorem copyFrB (id : Int) (rm : Bool) (ln : Int) (a : Option Addr) (D : List Int) (c : Nat) (w : World) (hd : Nums a D w) (h : D.length ≤ 1048576) :
    Calls Try.prog 60 #[frV id rm ln a D.length c] w fun e w' =>
      ∃ (av : Option Addr) (cv : Nat), e = .returned (frV id rm ln av D.length cv) ∧ OwnI w.heap.size D (.slice av D.length cv) w' ∧ w.grownBy w' none := by
  go_enter Try.func60, Try.ntmps60
  have k0 := World.grownBy_alloc w (.cells #[.int .i64 id, .bool rm, .int .i64 ln, .slice a D.length c] 26) none
  have B0 := Bx.made w (.int .i64 id) (.bool rm) (.int .i64 ln) (.slice a D.length c)
  have k1 := World.grownBy_alloc (w.alloc (.cells #[.int .i64 id, .bool rm, .int .i64 ln, .slice a D.length c] 26)) (.cells #[.int .i64 0, .bool false, .int .i64 0, .slice none 0 0] 26) none
  have R0 := Bx.made (w.alloc (.cells #[.int .i64 id, .bool rm, .int .i64 ln, .slice a D.length c] 26)) (.int .i64 0) (.bool false) (.int .i64 0) (.slice none 0 0)
  replace B0 := B0.kept k1 (by simp)
  have G := grown_trans k0 k1
  clear k0 k1
  go_upto_region 1 with fail
  have hsz : (w.alloc (.cells #[.int .i64 id, .bool rm, .int .i64 ln, .slice a D.length c] 26)).heap.size = w.heap.size + 1 := by simp
  rw [hsz] at R0
  clear hsz
  generalize (w.alloc (.cells #[.int .i64 id, .bool rm, .int .i64 ln, .slice a D.length c] 26)).alloc (.cells #[.int .i64 0, .bool false, .int .i64 0, .slice none 0 0] 26) = W at G B0 R0 ⊢
  have hne : w.heap.size ≠ w.heap.size + 1 := by omega
  have hlow : w.heap.size ≤ w.heap.size + 1 := by omega
  generalize w.heap.size + 1 = gr at R0 hne hlow ⊢
  have hd2 := hd.below (below_new G)
  have c3 := B0.c3
  go_wp2_with fail
  refine (copyIntsB _ _ _ _ hd2 h).mono ?_
  rintro e w2 ⟨av, cv, rfl, own, g2⟩
  replace own := own.mono G.size
  replace B0 := B0.kept g2 (by simp)
  replace R0 := R0.kept g2 (by simp)
  replace G := grown_trans G g2
  clear hd2 g2 c3 hd
  have c3 := B0.c3
  have f3 := B0.free 3
  go_upto_region 2 with fail
  have kk := grown_set w2 w.heap.size 3 (.slice av D.length cv)
  replace own := own.kept kk (.inr (own.ne_box B0))
  replace G := grown_own G kk (Nat.le_refl _)
  replace B0 := B0.set3 (.slice av D.length cv)
  replace R0 := R0.kept kk (by simp; omega)
  clear kk c3 f3
  generalize w2.setCell ⟨w.heap.size, 3, none⟩ (.slice av D.length cv) = W3 at own G B0 R0 ⊢
  have r0 := B0.c0
  have r1 := B0.c1
  have r2 := B0.c2
  have r3 := B0.c3
  have y0 := R0.c0
  have y1 := R0.c1
  have y2 := R0.c2
  have y3 := R0.c3
  have q0 := R0.free 0
  have q1 := R0.free 1
  have q2 := R0.free 2
  have q3 := R0.free 3
  go_wp2_with fail
  have k : W3.grownBy ((((W3.setCell ⟨gr, 0, none⟩ (.int .i64 id)).setCell ⟨gr, 1, none⟩ (.bool rm)).setCell ⟨gr, 2, none⟩ (.int .i64 ln)).setCell ⟨gr, 3, none⟩ (.slice av D.length cv)) (some gr) :=
    grown_trans (grown_trans (grown_trans (grown_set _ _ _ _) (grown_set _ _ _ _)) (grown_set _ _ _ _)) (grown_set _ _ _ _)
  have dR := (((R0.set0 (.int .i64 id)).set1 (.bool rm)).set2 (.int .i64 ln)).set3 (.slice av D.length cv)
  have dO := own.kept k (.inr (own.ne_box R0))
  have dG := grown_own G k hlow
  generalize (((W3.setCell ⟨gr, 0, none⟩ (.int .i64 id)).setCell ⟨gr, 1, none⟩ (.bool rm)).setCell ⟨gr, 2, none⟩ (.int .i64 ln)).setCell ⟨gr, 3, none⟩ (.slice av D.length cv) = Wx at dR dO dG ⊢
  have z0 := dR.c0
  have z1 := dR.c1
  have z2 := dR.c2
  have z3 := dR.c3
  exact bodyPost_ret (v := frV id rm ln av D.length cv) (by simp [results, Try.results60, go_sem, z0, z1, z2, z3]) rfl ⟨av, cv, rfl, dO, dG⟩
theorem copyFr (id : Int) (rm : Bool) (ln : Int) (a : Option Addr) (D : List Int) (c : Nat) (w : World) (hd : Nums a D w) (h : D.length ≤ 1000) :
    Calls Try.prog 60 #[frV id rm ln a D.length c] w fun e w' =>
      ∃ (av : Option Addr) (cv : Nat), e = .returned (frV id rm ln av D.length cv) ∧ OwnI w.heap.size D (.slice av D.length cv) w' ∧ w.grownBy w' none := copyFrB id rm ln a D c w hd (by omega)
end Go.Proofs.Ytcciabalbdnakab
