/- Contracts of the model's draws of numbers and of bits (l1Odd, l1Num, l1DrawBits): each answers some value within its bounds, and writes into nothing but its own cursor. -/
import Derived.Test.YtohjfjcpkloigaaM2
import Derived.Test.YtohjfjcpkloigaaM3
import Derived.WalkLawsBesides
import Derived.Test.YtohjfjcpkloigaaM0
import Derived.WalkArith
import Derived.Test.YtohjfjcpkloigaaM1

set_option maxRecDepth 20000
namespace Go.Proofs.Ytohjfjcpkloigaa
open Go.RowKit

section
variable {B p : Nat} {a : Option Addr} {len cap : Nat} {w : World}
theorem St.lt (s : St B p a len cap w) : p < w.heap.size := by
  obtain ⟨⟨i, h, c⟩, _⟩ := s
  exact (Array.getElem?_eq_some_iff.1 c.block).1
theorem St.base (s : St B p a len cap w) : B ≤ p := by
  obtain ⟨⟨i, h, c⟩, _⟩ := s; exact c.base
theorem St.step {w' : World} {r : Option Nat} (s : St B p a len cap w) (g : w.grownBy w' r) (hr : ∀ k, r = some k → p < k) : St B p a len cap w' := by
  have hlt := s.lt
  obtain ⟨⟨i, h, c⟩, cd⟩ := s
  refine ⟨⟨i, h, c.base, ?_, c.at0, c.atL⟩, cd.1, fun j hj => ?_⟩
  · rw [g.block p hlt (fun e => by have := hr p e.symm; omega)]; exact c.block
  · obtain ⟨b, off, ha, hb, z, hz, h0, h1⟩ := cd.2 j hj
    have := c.base
    exact ⟨b, off, ha, hb, z, g.cell hz (fun e => by have := hr b e.symm; omega), h0, h1⟩
theorem St.alloc (s : St B p a len cap w) (o : Obj) : St B p a len cap (w.alloc o) := s.step (World.grownBy_alloc w o none) (fun _ h => by cases h)
theorem grown_some {w w' : World} (g : w.grownBy w' none) (r : Option Nat) : w.grownBy w' r := ⟨g.os, g.tape, g.output, g.size, fun k hk _ => g.block k hk (fun e => by cases e)⟩
end

/-- A row of numbers that has just been laid still reads, behind a draw. -/
theorem row_at {w w1 : World} {p : Nat} (C : Array Value) (T : TypeId) (g : (w.alloc (.cells C T)).grownBy w1 (some p)) (hp : p < w.heap.size) (j : Nat) (v : Value) (hj : C[j]? = some v) :
    w1.cell? ⟨w.heap.size, j, none⟩ = some v :=
  g.cell (a := ⟨w.heap.size, j, none⟩) (by rw [World.cell?_alloc_at _ _ _ _ rfl]; exact hj) (fun e => by simp at e; omega)

/-- spec.l1Odd. -/
theorem oddAny {B p : Nat} {a : Option Addr} {len cap : Nat} (w : World) (st : St B p a len cap w) :
    Calls Try.prog 77 #[.pointer (some ⟨p, 0, none⟩)] w (Num B p a len cap (-9223372036854775808) 9223372036854775807 w) := by
  have hp := st.lt
  go_enter Try.func77, Try.ntmps77
  go_wp2_with fail
  refine (belowPos (B := B) (a := a) (len := len) (cap := cap) 10 _ (by omega) (by omega) (st.alloc _)).mono ?_
  rintro e w1 ⟨x, x0, x1, rfl, g1, s1⟩
  obtain ⟨v, hv, v0, v1⟩ : ∃ v, w1.cell? ⟨w.heap.size, x.toNat, none⟩ = some (.int .i64 v) ∧ -9223372036854775808 ≤ v ∧ v ≤ 9223372036854775807 := by
    have hx : x = 0 ∨ x = 1 ∨ x = 2 ∨ x = 3 ∨ x = 4 ∨ x = 5 ∨ x = 6 ∨ x = 7 ∨ x = 8 ∨ x = 9 := by omega
    rcases hx with rfl | rfl | rfl | rfl | rfl | rfl | rfl | rfl | rfl | rfl <;> exact ⟨_, row_at _ _ g1 hp _ _ rfl, by decide, by decide⟩
  have G := grown_trans (grown_some (World.grownBy_alloc w _ none) (some p)) g1
  clear g1
  go_wp2_with fail
  go_ret
  exact ⟨v, v0, v1, rfl, G, s1⟩

def lo64 : Int := -9223372036854775808
def hi64 : Int := 9223372036854775807
theorem Num.wide {B p : Nat} {a : Option Addr} {len cap : Nat} {lo hi lo' hi' : Int} {w w0 w' : World} {e : Ending} (h : Num B p a len cap lo hi w e w') (g : w0.grownBy w (some p)) (h0 : lo' ≤ lo) (h1 : hi ≤ hi') : Num B p a len cap lo' hi' w0 e w' := by
  obtain ⟨x, x0, x1, he, hg, s⟩ := h
  exact ⟨x, by omega, by omega, he, grown_trans g hg, s⟩

/-- spec.l1Num. -/
theorem numAny {B p : Nat} {a : Option Addr} {len cap : Nat} (most : Int) (w : World) (m0 : 0 ≤ most) (m1 : most ≤ 1099511627776) (st : St B p a len cap w) :
    Calls Try.prog 56 #[.pointer (some ⟨p, 0, none⟩), .int .i64 most] w (Num B p a len cap (-9223372036854775808) 9223372036854775807 w) := by
  go_enter Try.func56, Try.ntmps56
  go_wp2_with fail
  refine (onceAny (B := B) (a := a) (len := len) (cap := cap) 10 _ (by omega) (by omega) st).mono ?_
  rintro e w1 ⟨b1, rfl, g1, s1⟩
  cases b1 with
  | true =>
    go_wp2_with fail
    refine (oddAny (B := B) (a := a) (len := len) (cap := cap) _ s1).mono ?_
    rintro e w2 ⟨o, o0, o1, rfl, g2, s2⟩
    have hp := s2.lt
    go_wp2_with fail
    refine (belowPos (B := B) (a := a) (len := len) (cap := cap) 4 _ (by omega) (by omega) (s2.alloc _)).mono ?_
    rintro e w3 ⟨x, x0, x1, rfl, g3, s3⟩
    obtain ⟨v, hv, v0, v1⟩ : ∃ v, w3.cell? ⟨w2.heap.size, x.toNat, none⟩ = some (.int .i64 v) ∧ -9223372036854775808 ≤ v ∧ v ≤ 9223372036854775807 := by
      have hx : x = 0 ∨ x = 1 ∨ x = 2 ∨ x = 3 := by omega
      rcases hx with rfl | rfl | rfl | rfl
      · exact ⟨_, row_at _ _ g3 hp _ _ rfl, by decide, by decide⟩
      · exact ⟨_, row_at _ _ g3 hp _ _ rfl, by omega, by omega⟩
      · exact ⟨_, row_at _ _ g3 hp _ _ rfl, by omega, by omega⟩
      · exact ⟨_, row_at _ _ g3 hp _ _ rfl, by omega, by omega⟩
    have G := grown_trans (grown_trans g1 g2) (grown_trans (grown_some (World.grownBy_alloc w2 _ none) (some p)) g3)
    clear g3
    go_wp2_with fail
    go_ret
    exact ⟨v, v0, v1, rfl, G, s3⟩
  | false =>
    go_wp2_with fail
    refine (onceAny (B := B) (a := a) (len := len) (cap := cap) 2 _ (by omega) (by omega) s1).mono ?_
    rintro e w2 ⟨b2, rfl, g2, s2⟩
    cases b2 with
    | true =>
      by_cases h4 : most < 4
      · go_wp2_with fail
        refine (minLt _ _ _ (by omega)).mono ?_
        rintro e w' ⟨rfl, rfl⟩
        go_wp2_with fail
        refine (belowPos (B := B) (a := a) (len := len) (cap := cap) _ _ (by omega) (by omega) s2).mono ?_
        rintro e w3 ⟨x, x0, x1, rfl, g3, s3⟩
        go_wp2_with fail
        go_ret
        exact ⟨x, by omega, by omega, rfl, grown_trans (grown_trans g1 g2) g3, s3⟩
      · go_wp2_with fail
        refine (minGe _ _ _ (by omega)).mono ?_
        rintro e w' ⟨rfl, rfl⟩
        go_wp2_with fail
        refine (belowPos (B := B) (a := a) (len := len) (cap := cap) _ _ (by omega) (by omega) s2).mono ?_
        rintro e w3 ⟨x, x0, x1, rfl, g3, s3⟩
        go_wp2_with fail
        go_ret
        exact ⟨x, by omega, by omega, rfl, grown_trans (grown_trans g1 g2) g3, s3⟩
    | false =>
      go_wp2_with fail
      refine (belowPos (B := B) (a := a) (len := len) (cap := cap) _ _ (by omega) (by omega) s2).mono ?_
      rintro e w3 ⟨x, x0, x1, rfl, g3, s3⟩
      go_wp2_with fail
      go_ret
      exact ⟨x, by omega, by omega, rfl, grown_trans (grown_trans g1 g2) g3, s3⟩

/-- What a draw of a text leaves: a text of at most N bytes. -/
def Text (B p : Nat) (a : Option Addr) (len cap : Nat) (N : Nat) (w : World) (e : Ending) (w' : World) : Prop :=
  ∃ t : ByteArray, t.size ≤ N ∧ e = .returned (.string t) ∧ w.grownBy w' (some p) ∧ St B p a len cap w'

theorem size_last (t : ByteArray) (h : 0 < t.size) : (t ++ t.extract (t.size - 1) t.size).size = t.size + 1 := by
  rw [ByteArray.size_append, ByteArray.size_extract]; omega

end Go.Proofs.Ytohjfjcpkloigaa

/- Contracts of MostStuffs, of the program and of the model. -/

set_option maxRecDepth 20000
namespace Go.Proofs.Ytohjfjcpkloigaa
open Go.RowKit

/-- How many bits are put in at most, of n. -/
def mostV (n : Int) : Int := if n < 0 ∨ 400 < n then -1 else if n = 0 then 0 else (n - 1) / 4
theorem mostV_no {n : Int} (h : n < 0 ∨ 400 < n) : mostV n = -1 := by simp [mostV, h]
theorem mostV_0 : mostV 0 = 0 := by decide
theorem mostV_yes {n : Int} (h1 : 1 ≤ n) (h2 : n ≤ 400) : mostV n = (n - 1) / 4 := by
  unfold mostV; rw [if_neg (by omega), if_neg (by omega)]
def longV (n : Int) : Int := if n < 0 ∨ 8 < n then -1 else 34 + 8 * n + mostV (34 + 8 * n) + 10
theorem longV_no {n : Int} (h : n < 0 ∨ 8 < n) : longV n = -1 := by simp [longV, h]
theorem longV_yes {n : Int} (h1 : 0 ≤ n) (h2 : n ≤ 8) : longV n = 34 + 8 * n + mostV (34 + 8 * n) + 10 := by
  have : ¬ (n < 0 ∨ 8 < n) := by omega
  simp [longV, this]

theorem implMost (n : Int) (w : World) (hn : (Lit.int .i64 n).wf = true) :
    Calls Try.prog 73 #[.int .i64 n] w fun e w' => e = .returned (.int .i64 (mostV n)) ∧ Below w.heap.size w w' := by
  by_cases h1 : n < 0
  · have HM := Lib.hid (mostV_no (n := n) (.inl h1))
    go_enter Try.func73, Try.ntmps73
    go_wp2
    go_ret
    exact ⟨ret_int HM.out.symm, Below.refl _ _⟩
  by_cases h2 : 400 < n
  · have HM := Lib.hid (mostV_no (n := n) (.inr h2))
    go_enter Try.func73, Try.ntmps73
    go_wp2
    go_ret
    exact ⟨ret_int HM.out.symm, Below.refl _ _⟩
  by_cases h3 : n = 0
  · subst h3
    go_enter Try.func73, Try.ntmps73
    go_wp2
    go_ret
    exact ⟨ret_int mostV_0.symm, Below.refl _ _⟩
  have HM := Lib.hid (mostV_yes (n := n) (by omega) (by omega))
  have h0 : 0 ≤ n := by omega
  have h4 : n ≤ 400 := by omega
  have h5 : 0 ≤ n - 1 := by omega
  have h6 : 0 < n := by omega
  clear h1 h2
  go_enter Try.func73, Try.ntmps73
  go_wp2
  go_ret
  exact ⟨ret_int HM.out.symm, Below.refl _ _⟩

theorem specMost (n : Int) (w : World) (hn : (Lit.int .i64 n).wf = true) :
    Calls Try.prog 89 #[.int .i64 n] w fun e w' => e = .returned (.int .i64 (mostV n)) ∧ w = w' := by
  by_cases h1 : n < 0
  · have HM := Lib.hid (mostV_no (n := n) (.inl h1))
    go_enter Try.func89, Try.ntmps89
    go_wp2
    go_ret
    exact ⟨ret_int HM.out.symm, rfl⟩
  by_cases h2 : 400 < n
  · have HM := Lib.hid (mostV_no (n := n) (.inr h2))
    have hd : decide (n ≤ 400) = false := by simp; omega
    go_enter Try.func89, Try.ntmps89
    go_wp2
    go_ret
    exact ⟨ret_int HM.out.symm, rfl⟩
  by_cases h3 : n = 0
  · subst h3
    go_enter Try.func89, Try.ntmps89
    go_wp2
    go_ret
    exact ⟨ret_int mostV_0.symm, rfl⟩
  have HM := Lib.hid (mostV_yes (n := n) (by omega) (by omega))
  have h0 : 0 ≤ n := by omega
  have h4 : n ≤ 400 := by omega
  have h5 : 0 ≤ n - 1 := by omega
  have h6 : 0 < n := by omega
  clear h1 h2
  go_enter Try.func89, Try.ntmps89
  go_wp2
  go_ret
  exact ⟨ret_int HM.out.symm, rfl⟩

end Go.Proofs.Ytohjfjcpkloigaa

/- Contracts of MostLength, of the program and of the model. -/

set_option maxRecDepth 20000
namespace Go.Proofs.Ytohjfjcpkloigaa
open Go.RowKit

theorem mostV_bd (n : Int) : -1 ≤ mostV n ∧ mostV n ≤ 100 := by
  unfold mostV
  split
  · omega
  · split
    · omega
    · omega
theorem implLong (n : Int) (w : World) (_hn : (Lit.int .i64 n).wf = true) :
    Calls Try.prog 44 #[.int .i64 n] w fun e w' => e = .returned (.int .i64 (longV n)) ∧ Below w.heap.size w w' := by
  by_cases h1 : n < 0
  · have HM := Lib.hid (longV_no (n := n) (.inl h1))
    go_enter Try.func44, Try.ntmps44
    go_wp2
    go_ret
    exact ⟨ret_int HM.out.symm, Below.refl _ _⟩
  by_cases h2 : 8 < n
  · have HM := Lib.hid (longV_no (n := n) (.inr h2))
    go_enter Try.func44, Try.ntmps44
    go_wp2
    go_ret
    exact ⟨ret_int HM.out.symm, Below.refl _ _⟩
  have HM := Lib.hid (longV_yes (n := n) (by omega) (by omega))
  have h0 : 0 ≤ n := by omega
  have h4 : n ≤ 8 := by omega
  have hb := mostV_bd (19 + 8 * n + 15)
  have he : Hid (19 + 8 * n + 15 = 34 + 8 * n) := Lib.hid (by omega)
  clear h1 h2
  go_enter Try.func44, Try.ntmps44
  go_wp2_with fail
  refine (implMost _ _ (Go.WalkArith.wf_i64 ⟨by omega, by omega⟩)).mono ?_
  rintro e w1 ⟨rfl, b1⟩
  go_wp2
  go_ret
  exact ⟨ret_int (by rw [HM.out, ← he.out]), b1⟩
theorem specLong (n : Int) (w : World) (_hn : (Lit.int .i64 n).wf = true) :
    Calls Try.prog 83 #[.int .i64 n] w fun e w' => e = .returned (.int .i64 (longV n)) ∧ w = w' := by
  by_cases h : 0 ≤ n ∧ n ≤ 8
  · have HM := Lib.hid (longV_yes (n := n) h.1 h.2)
    have h0 := h.1
    have h4 := h.2
    have hb := mostV_bd (34 + 8 * n)
    have hd : (decide (0 ≤ n) && decide (n ≤ 8)) = true := by simp; omega
    clear h
    go_enter Try.func83, Try.ntmps83
    go_wp2_with fail
    refine (l1In _ _ _ _).mono ?_
    rintro e w1 ⟨rfl, rfl⟩
    rw [hd]
    clear hd
    go_wp2_with fail
    refine (specMost _ _ (Go.WalkArith.wf_i64 ⟨by omega, by omega⟩)).mono ?_
    rintro e w1 ⟨rfl, rfl⟩
    go_wp2
    go_ret
    exact ⟨ret_int (by rw [HM.out]), rfl⟩
  · have HM := Lib.hid (longV_no (n := n) (by omega))
    have hd : (decide (0 ≤ n) && decide (n ≤ 8)) = false := by simp; omega
    clear h
    go_enter Try.func83, Try.ntmps83
    go_wp2_with fail
    refine (l1In _ _ _ _).mono ?_
    rintro e w1 ⟨rfl, rfl⟩
    rw [hd]
    clear hd
    go_wp2
    go_ret
    exact ⟨ret_int HM.out.symm, rfl⟩

end Go.Proofs.Ytohjfjcpkloigaa
