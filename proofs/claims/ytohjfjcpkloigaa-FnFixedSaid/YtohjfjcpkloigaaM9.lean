/- A frame that a call builds up in memory: its box, the row of numbers that it owns, the cursor beside it. No program's walk in it. -/
import Derived.Test.YtohjfjcpkloigaaM6
import Derived.Test.YtohjfjcpkloigaaM7
import Derived.Test.YtohjfjcpkloigaaM8
import Derived.Laws.OwnMore
import Derived.Test.YtohjfjcpkloigaaM1
import Derived.Test.YtohjfjcpkloigaaM4
import Derived.WalkKit
import Derived.Deep.CutRange
import Derived.Deep.DeepCutAuto
import Derived.Test.YtohjfjcpkloigaaM3
import Derived.Test.YtohjfjcpkloigaaM5
import Derived.Deep.RegionLaw

set_option maxRecDepth 20000
namespace Go.Proofs.Ytohjfjcpkloigaa
open Go.RowKit

section
variable {g : Nat} {x0 x1 x2 x3 : Value} {w : World}
end

/-- The slice v, made from block Bn on, holds just the numbers D. -/
def OwnI (Bn : Nat) (D : List Int) (v : Value) (w : World) : Prop := w.ownsRow Bn 2 1 v D.length (D.map (Value.int .i64)) ∧ ∀ x ∈ D, (Lit.int .i64 x).wf = true
section
variable {Bn : Nat} {D : List Int} {v : Value} {w : World}
theorem OwnI.nil (w : World) (Bn : Nat) : OwnI Bn [] (.slice none 0 0) w := ⟨World.ownsRow_nil w Bn _ 1, by simp⟩
theorem OwnI.kept {w' : World} {row : Option Nat} (h : OwnI Bn D v w) (k : w.grownBy w' row) (hne : v.ownBlock = none ∨ v.ownBlock ≠ row) : OwnI Bn D v w' := ⟨h.1.kept k hne, h.2⟩
theorem OwnI.mono {B' : Nat} (h : OwnI Bn D v w) (hb : B' ≤ Bn) : OwnI B' D v w := by
  refine ⟨⟨h.1.1, ?_⟩, h.2⟩
  rcases h.1.2 with k | ⟨g, cap, cur, e, hg, r⟩
  · exact .inl k
  · exact .inr ⟨g, cap, cur, e, Nat.le_trans hb hg, r⟩
theorem OwnI.low (h : OwnI Bn D v w) {k : Nat} (hk : v.ownBlock = some k) : Bn ≤ k := (h.1.lt k hk).1
theorem OwnI.nums (h : OwnI Bn D v w) : ∃ a c, v = .slice a D.length c ∧ Nums a D w := by
  rcases h.1.2 with ⟨rfl, hn⟩ | ⟨g, cap, cur, rfl, _, hg, hle, hm, _⟩
  · exact ⟨none, 0, by rw [hn], by rw [hn]; exact Nat.zero_le _, h.2, fun j hj => absurd hj (by omega)⟩
  · refine ⟨some ⟨g, 0, none⟩, cap, rfl, Nat.le_trans hle hm, h.2, fun j hj => ⟨g, 0, rfl, ?_⟩⟩
    rw [Nat.zero_add, h.1.cellAt j (by omega)]
    simp [nth, List.getD_eq_getElem?_getD, List.getElem?_eq_getElem hj]
end

theorem info64 : (Try.prog.info? 2).map (fun i => (i.zero, i.size, i.bytes)) = some (some (.int .i64 0), 1, 8) := by kernel_rfl

/-- 'append' of one number to a row of the call's own: at a step of a region that draws its order. -/
theorem step_appI {ops : Array Oper} {o : Oper} {a : Act} {w : World} {K : Act → World → Prop} {Q : Exit → Act → World → Prop} {E : Prop} (hgd : o.guard = none) (s x : Operand)
    (ho : o.op = .call { callee := .builtin .append, args := #[s, x], argTypes := #[36, 36] })
    (Bn : Nat) (D : List Int) (z : Int) (v : Value) (hs : a.eval s = v) (hown : OwnI Bn D v w) (g1 c1 : Nat) (hx : a.eval x = .slice (some ⟨g1, 0, none⟩) 1 c1) (hcell : w.cell? ⟨g1, 0, none⟩ = some (.int .i64 z))
    (hz : (Lit.int .i64 z).wf = true) (hsz : D.length ≤ 1000000) (hB : Bn ≤ w.heap.size)
    (h : ∀ av cv w', OwnI Bn (D ++ [z]) (.slice av (D.length + 1) cv) w' → w.grownBy w' v.ownBlock → K (a.put o.dst (.slice av (D.length + 1) cv)) w') :
    if Region.wanted o (yielded ops a.tmps) = true then Oper.wp Try.prog o a w K Q else E := by
  have hw : Region.wanted o (yielded ops a.tmps) = true := by simp [Region.wanted, hgd]
  rw [if_pos hw]
  obtain ⟨i0, hi, hz0, hz1, hz2⟩ := info_parts info64
  obtain ⟨v', w', hr, h2, h3, h4⟩ := run_append_own (P := Try.prog) w Bn 36 o.type 2 i0 (.int .i64 0) 1 8 Try.underlying36 hi hz0 hz1 hz2 rfl (by decide)
    v D.length (D.map (Value.int .i64)) hown.1 ⟨g1, 0, none⟩ 1 c1 [.int .i64 z] rfl
    (fun j u hu => by
      match j, hu with
      | 0, hu => simp at hu; subst hu; exact hcell) (fun u hu => by simp at hu; subst hu; rfl) (by unfold maxLen; omega) (by omega) hB
  have hown' : OwnI Bn (D ++ [z]) v' w' := by
    refine ⟨?_, ?_⟩
    · rw [List.length_append, List.length_singleton, List.map_append]; exact h2
    · intro y hy
      rcases List.mem_append.1 hy with hy | hy
      · exact hown.2 y hy
      · simp at hy; subst hy; exact hz
  obtain ⟨av, cv, rfl, _⟩ := hown'.nums
  unfold Oper.wp
  simp [execOp, ho, resolve, invoke, builtin, hs, hx, hr, Result.andThen]
  rw [List.length_append, List.length_singleton] at hown'
  exact h av cv w' hown' h3

/-- 'append' of one number to a row of the call's own. -/
theorem wpList_appI {ops : Array Oper} {rest : List Oper} {p : Oper} {a : Act} {w : World} {Q : Exit → Act → World → Prop} (hgd : p.guard = none) (s x : Operand)
    (ho : p.op = .call { callee := .builtin .append, args := #[s, x], argTypes := #[36, 36] })
    (Bn : Nat) (D : List Int) (z : Int) (v : Value) (hs : a.eval s = v) (hown : OwnI Bn D v w) (g1 c1 : Nat) (hx : a.eval x = .slice (some ⟨g1, 0, none⟩) 1 c1) (hcell : w.cell? ⟨g1, 0, none⟩ = some (.int .i64 z))
    (hz : (Lit.int .i64 z).wf = true) (hsz : D.length ≤ 1000000) (hB : Bn ≤ w.heap.size)
    (h : ∀ av cv w', OwnI Bn (D ++ [z]) (.slice av (D.length + 1) cv) w' → w.grownBy w' v.ownBlock → wpList Try.prog ops Q rest (a.put p.dst (.slice av (D.length + 1) cv)) w') : wpList Try.prog ops Q (p :: rest) a w := by
  obtain ⟨i0, hi, hz0, hz1, hz2⟩ := info_parts info64
  refine wpList_append_own _ hgd s x 36 ho Bn 2 i0 (.int .i64 0) 1 8 Try.underlying36 hi hz0 hz1 hz2 rfl (by decide) v D.length (D.map (Value.int .i64)) hs hown.1 ⟨g1, 0, none⟩ 1 c1 [.int .i64 z] hx rfl ?_ ?_ ?_ ?_ hB ?_
  · intro j u hu
    match j, hu with
    | 0, hu => simp at hu; subst hu; exact hcell
  · intro u hu; simp at hu; subst hu; rfl
  · unfold maxLen; omega
  · omega
  · intro v' w' h2 h3 h4
    have hown' : OwnI Bn (D ++ [z]) v' w' := by
      refine ⟨?_, ?_⟩
      · rw [List.length_append, List.length_singleton, List.map_append]; exact h2
      · intro y hy
        rcases List.mem_append.1 hy with hy | hy
        · exact hown.2 y hy
        · simp at hy; subst hy; exact hz
    obtain ⟨av, cv, rfl, _⟩ := hown'.nums
    rw [List.length_append, List.length_singleton] at hown'
    simp only [List.length_append, List.length_singleton]
    exact h av cv w' hown' h3

section
variable {w0 : World} {B p : Nat} {a : Option Addr} {len cap : Nat} {gr gf : Nat} {id : Int} {rm : Bool} {ln : Int} {D : List Int} {v : Value} {w : World}
end
end Go.Proofs.Ytohjfjcpkloigaa

/- Messages (six numbers) and tables of them: what the chapter asks, plain; the contracts of the small functions, of the program and of the model. -/

set_option linter.unusedVariables false
set_option linter.unusedSimpArgs false
set_option maxRecDepth 20000
namespace Go.Proofs.Ytohjfjcpkloigaa
open Go.RowKit

/-- A message. -/
structure Ms where
  id : Int
  sz : Int
  pe : Int
  ji : Int
  de : Int
  no : Int
instance : Inhabited Ms := ⟨⟨0, 0, 0, 0, 0, 0⟩⟩
abbrev mgC (m : Ms) : Array Value := #[.int .i64 m.id, .int .i64 m.sz, .int .i64 m.pe, .int .i64 m.ji, .int .i64 m.de, .int .i64 m.no]
/-- It as the machine's value. -/
abbrev mgV (m : Ms) : Value := .agg #[.int .i64 m.id, .int .i64 m.sz, .int .i64 m.pe, .int .i64 m.ji, .int .i64 m.de, .int .i64 m.no]
def nthTb (T : List Ms) (j : Nat) : Ms := T.getD j default
theorem nthTb_eq {T : List Ms} {j : Nat} (h : j < T.length) : nthTb T j = T[j] := by simp [nthTb, List.getD_eq_getElem?_getD, h]
def mgOk (m : Ms) : Bool := rng m.id 0 2047 && rng m.sz 0 8 && rng m.pe 1 20000 && rng m.ji 0 m.pe && rng m.de 1 m.pe && rng m.no 0 5
theorem mgOk_iff {m : Ms} : mgOk m = true ↔ (0 ≤ m.id ∧ m.id ≤ 2047) ∧ (0 ≤ m.sz ∧ m.sz ≤ 8) ∧ (1 ≤ m.pe ∧ m.pe ≤ 20000) ∧ (0 ≤ m.ji ∧ m.ji ≤ m.pe) ∧ (1 ≤ m.de ∧ m.de ≤ m.pe) ∧ 0 ≤ m.no ∧ m.no ≤ 5 := by
  simp only [mgOk, Bool.and_eq_true, rng_iff, and_assoc]
/-- CodeOf. -/
def codeT (T : List Ms) : Int := if ¬ (1 ≤ T.length ∧ T.length ≤ 12) then 1 else if T.all mgOk = false then 2 else if ¬ (T.map Ms.id).Nodup then 3 else 0
theorem codeT_size {T : List Ms} (h : ¬ (1 ≤ T.length ∧ T.length ≤ 12)) : codeT T = 1 := by rw [codeT, if_pos h]
theorem codeT_msg {T : List Ms} (h : 1 ≤ T.length ∧ T.length ≤ 12) (h2 : T.all mgOk = false) : codeT T = 2 := by rw [codeT, if_neg (by simpa using h), if_pos h2]
theorem codeT_twice {T : List Ms} (h : 1 ≤ T.length ∧ T.length ≤ 12) (h2 : T.all mgOk = true) (h3 : ¬ (T.map Ms.id).Nodup) : codeT T = 3 := by rw [codeT, if_neg (by simpa using h), if_neg (by simp [h2]), if_pos h3]
theorem codeT_ok {T : List Ms} (h : 1 ≤ T.length ∧ T.length ≤ 12) (h2 : T.all mgOk = true) (h3 : (T.map Ms.id).Nodup) : codeT T = 0 := by rw [codeT, if_neg (by simpa using h), if_neg (by simp [h2]), if_neg (by simpa using h3)]
theorem codeT_iff {T : List Ms} : codeT T = 0 ↔ (1 ≤ T.length ∧ T.length ≤ 12) ∧ T.all mgOk = true ∧ (T.map Ms.id).Nodup := by
  constructor
  · intro h
    by_cases h1 : 1 ≤ T.length ∧ T.length ≤ 12
    · cases h2 : T.all mgOk with
      | false => rw [codeT_msg h1 h2] at h; cases h
      | true =>
        by_cases h3 : (T.map Ms.id).Nodup
        · exact ⟨h1, rfl, h3⟩
        · rw [codeT_twice h1 h2 h3] at h; cases h
    · rw [codeT_size h1] at h; cases h
  · rintro ⟨h1, h2, h3⟩; exact codeT_ok h1 h2 h3
theorem codeT_bd (T : List Ms) : 0 ≤ codeT T ∧ codeT T ≤ 3 := by unfold codeT; repeat' split <;> omega
theorem allM_yes {T : List Ms} (h : ∀ j, j < T.length → mgOk (nthTb T j) = true) : T.all mgOk = true := by
  rw [List.all_eq_true]
  intro x hx
  obtain ⟨j, hj, rfl⟩ := List.mem_iff_getElem.1 hx
  rw [← nthTb_eq hj]; exact h j hj
theorem allM_no {T : List Ms} {k : Nat} (hk : k < T.length) (h : mgOk (nthTb T k) = false) : T.all mgOk = false := by
  rw [Bool.eq_false_iff]
  intro e
  rw [List.all_eq_true] at e
  have := e _ (List.getElem_mem hk)
  rw [← nthTb_eq hk, h] at this
  cases this
theorem allM_at {T : List Ms} (h : T.all mgOk = true) {j : Nat} (hj : j < T.length) : mgOk (nthTb T j) = true := by
  rw [nthTb_eq hj]; exact List.all_eq_true.1 h _ (List.getElem_mem hj)
theorem ids_nodup {T : List Ms} (h : ∀ i j, j < i → i < T.length → (nthTb T i).id ≠ (nthTb T j).id) : (T.map Ms.id).Nodup := by
  rw [List.Nodup, List.pairwise_map, List.pairwise_iff_getElem]
  intro j i hj hi hji e
  exact h i j hji hi (by rw [nthTb_eq hi, nthTb_eq hj]; exact e.symm)
theorem ids_twice {T : List Ms} {i j : Nat} (hji : j < i) (hi : i < T.length) (e : (nthTb T i).id = (nthTb T j).id) : ¬ (T.map Ms.id).Nodup := by
  intro h
  rw [List.Nodup, List.pairwise_map, List.pairwise_iff_getElem] at h
  exact h j i (by omega) hi hji (by rw [← nthTb_eq hi, ← nthTb_eq (show j < T.length by omega)]; exact e.symm)
theorem ids_inj {T : List Ms} (h : (T.map Ms.id).Nodup) {i j : Nat} (hi : i < T.length) (hj : j < T.length) (e : (nthTb T i).id = (nthTb T j).id) : i = j := by
  rcases Nat.lt_trichotomy i j with k | k | k
  · exact absurd h (ids_twice k hj e.symm)
  · exact k
  · exact absurd h (ids_twice k hi e)
/-- Is there a message i of a right table? -/
def hasM (T : List Ms) (i : Int) : Bool := decide (codeT T = 0) && rng i 0 (T.length - 1)
theorem hasM_iff {T : List Ms} {i : Int} : hasM T i = true ↔ codeT T = 0 ∧ 0 ≤ i ∧ i < T.length := by
  simp only [hasM, Bool.and_eq_true, decide_eq_true_eq, rng_iff]; omega
def costV (m : Ms) : Int := if longV m.sz < 0 then -1 else longV m.sz + 3
theorem longV_bd (n : Int) : longV n = -1 ∨ 52 ≤ longV n ∧ longV n ≤ 132 ∧ 0 ≤ n ∧ n ≤ 8 := by
  by_cases h : n < 0 ∨ 8 < n
  · exact .inl (longV_no h)
  · right
    rw [longV_yes (by omega) (by omega), mostV_yes (by omega) (by omega)]; omega
theorem costV_ok {m : Ms} (h : mgOk m = true) : 55 ≤ costV m ∧ costV m ≤ 135 := by
  have h1 := (mgOk_iff.1 h).2.1
  rw [costV, longV_yes h1.1 h1.2, mostV_yes (by omega) (by omega), if_neg (by omega)]; omega
theorem costV_bd (m : Ms) : -1 ≤ costV m ∧ costV m ≤ 135 := by
  have := longV_bd m.sz
  unfold costV; split <;> omega
/-- Rounded up. -/
def upV (a b : Int) : Int := (a + b - 1) / b
theorem upV_pos {a b : Int} (ha : 1 ≤ a) (hb : 1 ≤ b) : 1 ≤ upV a b := by
  unfold upV
  rw [Int.le_ediv_iff_mul_le (by omega)]; omega
theorem upV_le {a b c : Int} (ha : 0 ≤ a) (hb : 1 ≤ b) (h : a ≤ c) : 0 ≤ upV a b ∧ upV a b ≤ c := by
  unfold upV
  refine ⟨Int.ediv_nonneg (by omega) (by omega), ?_⟩
  have hx : (a + b - 1) / b < c + 1 := by
    rw [Int.ediv_lt_iff_lt_mul (by omega)]
    have h2 : a + b - 1 < a + b := by omega
    have h3 : a ≤ c := h
    have h4 : 0 ≤ c * (b - 1) := Int.mul_nonneg (by omega) (by omega)
    have h5 : (c + 1) * b = c * (b - 1) + c + b := by rw [Int.mul_sub, Int.add_mul]; omega
    omega
  omega
/-- The load of the first k messages. -/
def loadN (T : List Ms) : Nat → Int
  | 0 => 0
  | k + 1 => loadN T k + upV (1000000 * costV (nthTb T k)) (nthTb T k).pe
theorem loadN_bd {T : List Ms} (h : T.all mgOk = true) : ∀ k, k ≤ T.length → (k : Int) ≤ loadN T k ∧ loadN T k ≤ 135000000 * k
  | 0, _ => by simp [loadN]
  | k + 1, hk => by
    have ih := loadN_bd h k (by omega)
    have ho := allM_at h (show k < T.length by omega)
    have hc := costV_ok ho
    have hp := (mgOk_iff.1 ho).2.2.1
    have h1 := upV_pos (a := 1000000 * costV (nthTb T k)) (b := (nthTb T k).pe) (by omega) hp.1
    have h2 := upV_le (a := 1000000 * costV (nthTb T k)) (b := (nthTb T k).pe) (c := 135000000) (by omega) hp.1 (by omega)
    simp only [loadN]
    omega
def loadV (T : List Ms) : Int := if codeT T = 0 then loadN T T.length else -1
/-- The places of those of a lesser Id than message i, of the first k. -/
def highN (T : List Ms) (i : Nat) : Nat → List Int
  | 0 => []
  | k + 1 => if (nthTb T k).id < (nthTb T i).id then highN T i k ++ [(k : Int)] else highN T i k
theorem highN_mem {T : List Ms} {i : Nat} : ∀ {k : Nat} {x : Int}, x ∈ highN T i k ↔ ∃ j : Nat, j < k ∧ x = j ∧ (nthTb T j).id < (nthTb T i).id
  | 0, x => by simp [highN]
  | k + 1, x => by
    have ih := highN_mem (T := T) (i := i) (k := k) (x := x)
    simp only [highN]
    split
    · rename_i h
      rw [List.mem_append, ih, List.mem_singleton]
      constructor
      · rintro (⟨j, h1, h2⟩ | rfl)
        · exact ⟨j, by omega, h2⟩
        · exact ⟨k, by omega, rfl, h⟩
      · rintro ⟨j, h1, h2, h3⟩
        by_cases e : j = k
        · exact .inr (by rw [h2, e])
        · exact .inl ⟨j, by omega, h2, h3⟩
    · rename_i h
      rw [ih]
      constructor
      · rintro ⟨j, h1, h2⟩; exact ⟨j, by omega, h2⟩
      · rintro ⟨j, h1, h2, h3⟩
        by_cases e : j = k
        · rw [e] at h3; exact absurd h3 h
        · exact ⟨j, by omega, h2, h3⟩
theorem highN_len (T : List Ms) (i : Nat) : ∀ k, (highN T i k).length ≤ k
  | 0 => Nat.le_refl _
  | k + 1 => by
    have := highN_len T i k
    simp only [highN]
    split
    · simp; omega
    · omega
theorem highN_rise (T : List Ms) (i : Nat) : ∀ k, (highN T i k).Pairwise (· < ·)
  | 0 => List.Pairwise.nil
  | k + 1 => by
    simp only [highN]
    split
    · rw [List.pairwise_append]
      refine ⟨highN_rise T i k, List.pairwise_singleton _ _, fun a ha b hb => ?_⟩
      obtain ⟨j, h1, rfl, _⟩ := highN_mem.1 ha
      rw [List.mem_singleton.1 hb]; omega
    · exact highN_rise T i k
def highV (T : List Ms) (i : Int) : List Int := if hasM T i = true then highN T i.toNat T.length else []
theorem highV_len (T : List Ms) (i : Int) : (highV T i).length ≤ 12 := by
  unfold highV
  split
  · rename_i h
    have h1 := (codeT_iff.1 (hasM_iff.1 h).1).1
    have h2 := highN_len T i.toNat T.length
    omega
  · simp
theorem highV_no {T : List Ms} {i : Int} (h : hasM T i = false) : highV T i = [] := by rw [highV, if_neg (by simp [h])]
theorem highV_yes {T : List Ms} {i : Int} (h : hasM T i = true) : highV T i = highN T i.toNat T.length := by rw [highV, if_pos h]

/-- From place o of block g on the message m stands. -/
def MsC (g o : Nat) (m : Ms) (w : World) : Prop :=
  w.cell? ⟨g, o, none⟩ = some (.int .i64 m.id) ∧ w.cell? ⟨g, o + 1, none⟩ = some (.int .i64 m.sz) ∧ w.cell? ⟨g, o + 2, none⟩ = some (.int .i64 m.pe) ∧
  w.cell? ⟨g, o + 3, none⟩ = some (.int .i64 m.ji) ∧ w.cell? ⟨g, o + 4, none⟩ = some (.int .i64 m.de) ∧ w.cell? ⟨g, o + 5, none⟩ = some (.int .i64 m.no)
theorem MsC.lt {g o : Nat} {m : Ms} {w : World} (h : MsC g o m w) : g < w.heap.size := World.block_lt_of_cell? w _ h.1
theorem MsC.below {g o n : Nat} {m : Ms} {w w' : World} (h : MsC g o m w) (b : Below n w w') (hg : g < n) : MsC g o m w' :=
  ⟨(b.cell hg).trans h.1, (b.cell hg).trans h.2.1, (b.cell hg).trans h.2.2.1, (b.cell hg).trans h.2.2.2.1, (b.cell hg).trans h.2.2.2.2.1, (b.cell hg).trans h.2.2.2.2.2⟩
/-- The slice at a holds the messages T. -/
def Tbl (a : Option Addr) (T : List Ms) (w : World) : Prop := T.length ≤ maxLen ∧ ∀ j, j < T.length → ∃ g o, a = some ⟨g, o, none⟩ ∧ MsC g (o + j * 6) (nthTb T j) w
theorem Tbl.below {a : Option Addr} {T : List Ms} {w w' : World} (h : Tbl a T w) (b : Below w.heap.size w w') : Tbl a T w' := ⟨h.1, fun j hj => by
  obtain ⟨g, o, e, c⟩ := h.2 j hj
  exact ⟨g, o, e, c.below b c.lt⟩⟩
theorem Tbl.alloc {a : Option Addr} {T : List Ms} {w : World} (h : Tbl a T w) (o : Obj) : Tbl a T (w.alloc o) := h.below ((Below.refl _ _).alloc (Nat.le_refl _) _)
theorem Tbl.drew {a : Option Addr} {T : List Ms} {w : World} (h : Tbl a T w) : Tbl a T w.drew := h
theorem Tbl.nil (a : Option Addr) (w : World) : Tbl a [] w := ⟨Nat.zero_le _, fun j hj => by simp at hj⟩

/-- impl.idOk, at whatever seat. -/
theorem implIdIn (n : Int) (w : World) : Calls Try.prog 84 #[.int .i64 n] w fun e w' => e = .returned (.bool (rng n 0 2047)) ∧ w = w' := by
  go_enter Try.func84, Try.ntmps84
  go_wp2
  all_goals (go_ret; exact ⟨ret_bool (by simp only [rng]; simp_all; try omega), rfl⟩)

/-- impl.msgOk. -/
theorem implMsgOk (m : Ms) (w : World) : Calls Try.prog 74 #[mgV m] w fun e w' => e = .returned (.bool (mgOk m)) ∧ Below w.heap.size w w' := by
  have bb := (Below.refl w.heap.size w).alloc (Nat.le_refl _) (.cells (mgC m) 31)
  obtain ⟨id, sz, pe, ji, de, no⟩ := m
  have HV := Lib.hid (show mgOk ⟨id, sz, pe, ji, de, no⟩ = (rng id 0 2047 && rng sz 0 8 && rng pe 1 20000 && rng ji 0 pe && rng de 1 pe && rng no 0 5) from rfl)
  generalize mgOk ⟨id, sz, pe, ji, de, no⟩ = v at HV ⊢
  go_enter Try.func74, Try.ntmps74
  go_wp2_with fail
  refine (implIdIn _ _).mono ?_
  rintro e w0 ⟨rfl, rfl⟩
  cases q0 : rng id 0 2047 with
  | false =>
    have E := Lib.hid (show v = false by rw [HV.out]; simp [q0])
    clear HV q0
    go_wp2_with fail
    go_ret
    exact ⟨by rw [E.out] <;> rfl, bb⟩
  | true =>
    go_wp2_with fail
    refine (implWithin _ _ _ _).mono ?_
    rintro e w1 ⟨rfl, rfl⟩
    cases q1 : rng sz 0 8 with
    | false =>
      have E := Lib.hid (show v = false by rw [HV.out]; simp [q0, q1])
      clear HV q0 q1
      go_wp2_with fail
      go_ret
      exact ⟨by rw [E.out] <;> rfl, bb⟩
    | true =>
      go_wp2_with fail
      refine (implWithin _ _ _ _).mono ?_
      rintro e w2 ⟨rfl, rfl⟩
      cases q2 : rng pe 1 20000 with
      | false =>
        have E := Lib.hid (show v = false by rw [HV.out]; simp [q0, q1, q2])
        clear HV q0 q1 q2
        go_wp2_with fail
        go_ret
        exact ⟨by rw [E.out] <;> rfl, bb⟩
      | true =>
        go_wp2_with fail
        refine (implWithin _ _ _ _).mono ?_
        rintro e w3 ⟨rfl, rfl⟩
        cases q3 : rng ji 0 pe with
        | false =>
          have E := Lib.hid (show v = false by rw [HV.out]; simp [q0, q1, q2, q3])
          clear HV q0 q1 q2 q3
          go_wp2_with fail
          go_ret
          exact ⟨by rw [E.out] <;> rfl, bb⟩
        | true =>
          go_wp2_with fail
          refine (implWithin _ _ _ _).mono ?_
          rintro e w4 ⟨rfl, rfl⟩
          cases q4 : rng de 1 pe with
          | false =>
            have E := Lib.hid (show v = false by rw [HV.out]; simp [q0, q1, q2, q3, q4])
            clear HV q0 q1 q2 q3 q4
            go_wp2_with fail
            go_ret
            exact ⟨by rw [E.out] <;> rfl, bb⟩
          | true =>
            go_wp2_with fail
            refine (implWithin _ _ _ _).mono ?_
            rintro e w5 ⟨rfl, rfl⟩
            have E := Lib.hid (show v = rng no 0 5 by rw [HV.out]; simp only [q0, q1, q2, q3, q4, Bool.true_and])
            clear HV q0 q1 q2 q3 q4
            go_wp2_with fail
            go_ret
            exact ⟨by rw [E.out] <;> rfl, bb⟩

/-- spec.l1In, told by rng. -/
theorem l1InMs (x lo hi : Int) (w : World) : Calls Try.prog 58 #[.int .i64 x, .int .i64 lo, .int .i64 hi] w fun e w' => e = .returned (.bool (rng x lo hi)) ∧ w = w' := l1In x lo hi w
/-- spec.l15Msg. -/
theorem specMsgOk (m : Ms) (w : World) : Calls Try.prog 80 #[mgV m] w fun e w' => e = .returned (.bool (mgOk m)) ∧ Below w.heap.size w w' := by
  have bb := (Below.refl w.heap.size w).alloc (Nat.le_refl _) (.cells (mgC m) 31)
  obtain ⟨id, sz, pe, ji, de, no⟩ := m
  have HV := Lib.hid (show mgOk ⟨id, sz, pe, ji, de, no⟩ = (rng id 0 2047 && rng sz 0 8 && rng pe 1 20000 && rng ji 0 pe && rng de 1 pe && rng no 0 5) from rfl)
  generalize mgOk ⟨id, sz, pe, ji, de, no⟩ = v at HV ⊢
  go_enter Try.func80, Try.ntmps80
  go_wp2_with fail
  refine (l1InMs _ _ _ _).mono ?_
  rintro e w0 ⟨rfl, rfl⟩
  cases q0 : rng id 0 2047 with
  | false =>
    have E := Lib.hid (show v = false by rw [HV.out]; simp [q0])
    clear HV q0
    go_wp2_with fail
    go_ret
    exact ⟨by rw [E.out] <;> rfl, bb⟩
  | true =>
    go_wp2_with fail
    refine (l1InMs _ _ _ _).mono ?_
    rintro e w1 ⟨rfl, rfl⟩
    cases q1 : rng sz 0 8 with
    | false =>
      have E := Lib.hid (show v = false by rw [HV.out]; simp [q0, q1])
      clear HV q0 q1
      go_wp2_with fail
      go_ret
      exact ⟨by rw [E.out] <;> rfl, bb⟩
    | true =>
      go_wp2_with fail
      refine (l1InMs _ _ _ _).mono ?_
      rintro e w2 ⟨rfl, rfl⟩
      cases q2 : rng pe 1 20000 with
      | false =>
        have E := Lib.hid (show v = false by rw [HV.out]; simp [q0, q1, q2])
        clear HV q0 q1 q2
        go_wp2_with fail
        go_ret
        exact ⟨by rw [E.out] <;> rfl, bb⟩
      | true =>
        go_wp2_with fail
        refine (l1InMs _ _ _ _).mono ?_
        rintro e w3 ⟨rfl, rfl⟩
        cases q3 : rng ji 0 pe with
        | false =>
          have E := Lib.hid (show v = false by rw [HV.out]; simp [q0, q1, q2, q3])
          clear HV q0 q1 q2 q3
          go_wp2_with fail
          go_ret
          exact ⟨by rw [E.out] <;> rfl, bb⟩
        | true =>
          go_wp2_with fail
          refine (l1InMs _ _ _ _).mono ?_
          rintro e w4 ⟨rfl, rfl⟩
          cases q4 : rng de 1 pe with
          | false =>
            have E := Lib.hid (show v = false by rw [HV.out]; simp [q0, q1, q2, q3, q4])
            clear HV q0 q1 q2 q3 q4
            go_wp2_with fail
            go_ret
            exact ⟨by rw [E.out] <;> rfl, bb⟩
          | true =>
            go_wp2_with fail
            refine (l1InMs _ _ _ _).mono ?_
            rintro e w5 ⟨rfl, rfl⟩
            have E := Lib.hid (show v = rng no 0 5 by rw [HV.out]; simp only [q0, q1, q2, q3, q4, Bool.true_and])
            clear HV q0 q1 q2 q3 q4
            go_wp2_with fail
            go_ret
            exact ⟨by rw [E.out] <;> rfl, bb⟩

/-- impl.msgsOk. -/
theorem implMsgsOk (a : Option Addr) (T : List Ms) (c : Nat) (w : World) (hd : Tbl a T w) :
    Calls Try.prog 46 #[.slice a T.length c] w fun e w' => e = .returned (.bool (T.all mgOk)) ∧ Below w.heap.size w w' := by
  have hm := hd.1
  unfold maxLen at hm
  go_enter Try.func46, Try.ntmps46
  go_wp2_with fail
  go_loopw [7] (fun i wr => ∃ k : Nat, k ≤ T.length ∧ i = .int .i64 k ∧ (∀ j, j < k → mgOk (nthTb T j) = true) ∧ Below w.heap.size w wr) (fun i _ => T.length - (intOf i).toNat)
  case atStart => exact ⟨0, Nat.zero_le _, rfl, fun j hj => absurd hj (by omega), Below.refl _ _⟩
  case round =>
    obtain ⟨k, hk, rfl, hr, b⟩ := hrel
    by_cases hlt : k < T.length
    · obtain ⟨g, o, rfl, c0, c1, c2, c3, c4, c5⟩ := (hd.below b).2 k hlt
      have hn := Lib.hid (allM_no (T := T) hlt)
      have H1 := fun w => implMsgOk (nthTb T k) w
      have hq := Lib.hid (show ∀ v, mgOk (nthTb T k) = v → v = true → ∀ j, j < k + 1 → mgOk (nthTb T j) = true from fun v e1 e2 j hj => by
        by_cases e : j = k
        · rw [e, e1, e2]
        · exact hr j (by omega))
      clear hr
      have b1 := below_more b (.cells (mgC (nthTb T k)) 31)
      generalize mgOk (nthTb T k) = v at H1 hn hq
      generalize nthTb T k = m at *
      obtain ⟨id, sz, pe, ji, de, no⟩ := m
      go_wp2_with fail
      refine (H1 _).mono ?_
      rintro e w2 ⟨rfl, b2⟩
      replace b := Below.then2 b1 b2
      clear b1 b2 c0 c1 c2 c3 c4 c5 H1
      cases v with
      | true =>
        go_wp2_with fail
        go_roundw
        case rel => exact ⟨k + 1, by omega, by go_num, hq.out _ rfl rfl, b⟩
        case measure => simp [intOf]; omega
      | false =>
        have HV := Lib.hid (hn.out rfl)
        clear hn hq
        go_wp2_with fail
        go_ret
        exact ⟨by rw [HV.out] <;> rfl, b⟩
    · have hall := Lib.hid (allM_yes (T := T) fun j hj => hr j (by omega))
      clear hr
      go_wp2_with fail
      go_ret
      exact ⟨by rw [hall.out] <;> rfl, b⟩

end Go.Proofs.Ytohjfjcpkloigaa

/- Bounds, plain: blocks, demands, the least fixed points of chapter 16. -/

set_option linter.unusedVariables false
set_option linter.unusedSimpArgs false
set_option maxRecDepth 20000
namespace Go.Proofs.Ytohjfjcpkloigaa
open Go.RowKit

/-! ### The least t, from t0 on, with f t = t. -/
def fixI (f : Int → Int) (m : Int) : Nat → Int → Option Int
  | 0, _ => none
  | k + 1, t => if t ≤ m then (if f t = t then some t else fixI f m k (f t)) else none
theorem fixI_over {f : Int → Int} {m t : Int} {k : Nat} (h : ¬ t ≤ m) : fixI f m (k + 1) t = none := by rw [fixI, if_neg h]
theorem fixI_here {f : Int → Int} {m t : Int} {k : Nat} (h : t ≤ m) (e : f t = t) : fixI f m (k + 1) t = some t := by rw [fixI, if_pos h, if_pos e]
theorem fixI_next {f : Int → Int} {m t : Int} {k : Nat} (h : t ≤ m) (e : f t ≠ t) : fixI f m (k + 1) t = fixI f m k (f t) := by rw [fixI, if_pos h, if_neg e]
/-- What is found is the least one; where none is found there is none up to m. -/
theorem fixI_spec {f : Int → Int} {m : Int} (mono : ∀ a b, a ≤ b → f a ≤ f b) : ∀ (k : Nat) (t : Int), t ≤ f t →
    (∀ r, fixI f m k t = some r → f r = r ∧ t ≤ r ∧ r ≤ m ∧ ∀ s, t ≤ s → f s = s → r ≤ s) ∧ (fixI f m k t = none → (m + 1 - t).toNat < k → ∀ s, t ≤ s → f s = s → m < s)
  | 0, t, _ => ⟨fun r h => (by cases h), fun _ h => absurd h (Nat.not_lt_zero _)⟩
  | k + 1, t, ht => by
    by_cases h : t ≤ m
    · by_cases e : f t = t
      · rw [fixI_here h e]
        exact ⟨fun r hr => by cases hr; exact ⟨e, Int.le_refl _, h, fun s hs _ => hs⟩, fun h => by cases h⟩
      · rw [fixI_next h e]
        obtain ⟨h1, h2⟩ := fixI_spec mono k (f t) (mono _ _ ht)
        have low : ∀ s, t ≤ s → f s = s → f t ≤ s := fun s hs he => by have := mono t s hs; omega
        refine ⟨fun r hr => ?_, fun hn hk s hs he => h2 hn (by omega) s (low s hs he) he⟩
        obtain ⟨a, b, c, d⟩ := h1 r hr
        exact ⟨a, by omega, c, fun s hs he => d s (low s hs he) he⟩
    · rw [fixI_over h]
      exact ⟨fun r hr => (by cases hr), fun _ _ s hs _ => by omega⟩
/-- With fuel enough it is the same from every start at or below the least one. -/
theorem fixI_same {f : Int → Int} {m : Int} (mono : ∀ a b, a ≤ b → f a ≤ f b) {k k' : Nat} {t t' : Int} (ht : t ≤ f t) (ht' : t' ≤ f t') (hle : t ≤ t') (hlow : ∀ s, t ≤ s → f s = s → t' ≤ s) (hk : (m + 1 - t).toNat < k) (hk' : (m + 1 - t').toNat < k') : fixI f m k t = fixI f m k' t' := by
  obtain ⟨a1, a2⟩ := fixI_spec (m := m) mono k t ht
  obtain ⟨b1, b2⟩ := fixI_spec (m := m) mono k' t' ht'
  cases h : fixI f m k t with
  | some r =>
    obtain ⟨c1, c2, c3, c4⟩ := a1 r h
    have hr := hlow r c2 c1
    cases h' : fixI f m k' t' with
    | some r' =>
      obtain ⟨d1, d2, d3, d4⟩ := b1 r' h'
      have x1 := c4 r' (by omega) d1
      have x2 := d4 r hr c1
      congr 1; omega
    | none => have := b2 h' hk' r hr c1; omega
  | none =>
    cases h' : fixI f m k' t' with
    | some r' =>
      obtain ⟨d1, d2, d3, d4⟩ := b1 r' h'
      have := a2 h hk r' (by omega) d1; omega
    | none => rfl
theorem upV_mono {a c b : Int} (hb : 1 ≤ b) (h : a ≤ c) : upV a b ≤ upV c b := by
  unfold upV
  exact Int.ediv_le_ediv (by omega) (by omega)
theorem upV_nonneg {a b : Int} (ha : 0 ≤ a) (hb : 1 ≤ b) : 0 ≤ upV a b := by unfold upV; exact Int.ediv_nonneg (by omega) (by omega)
/-! ### Blocks, demands. -/
def blockN (T : List Ms) (i : Nat) : Nat → Int
  | 0 => 0
  | k + 1 => if (nthTb T i).id < (nthTb T k).id then max (blockN T i k) (costV (nthTb T k)) else blockN T i k
theorem blockN_bd (T : List Ms) (i : Nat) : ∀ k, 0 ≤ blockN T i k ∧ blockN T i k ≤ 135
  | 0 => by simp [blockN]
  | k + 1 => by
    have := blockN_bd T i k
    have := costV_bd (nthTb T k)
    simp only [blockN]
    split <;> omega
def blockV (T : List Ms) (i : Int) : Int := if hasM T i = true then blockN T i.toNat T.length else -1
def demT (m : Ms) (t : Int) : Int := upV (t + m.ji) m.pe * costV m
/-- Of the first k that the list names. -/
def demK (T : List Ms) (L : List Int) (t : Int) : Nat → Int
  | 0 => 0
  | k + 1 => demK T L t k + demT (nthTb T (L.getD k 0).toNat) t
theorem demT_bd {m : Ms} (h : mgOk m = true) {t : Int} (h0 : 0 ≤ t) : 0 ≤ demT m t ∧ demT m t ≤ (t + 20000) * 135 := by
  obtain ⟨_, _, h1, h2, _, _⟩ := mgOk_iff.1 h
  have hc := costV_ok h
  have hu := upV_le (a := t + m.ji) (b := m.pe) (c := t + 20000) (by omega) h1.1 (by omega)
  unfold demT
  refine ⟨Int.mul_nonneg hu.1 (by omega), ?_⟩
  calc upV (t + m.ji) m.pe * costV m ≤ (t + 20000) * costV m := Int.mul_le_mul_of_nonneg_right hu.2 (by omega)
    _ ≤ (t + 20000) * 135 := Int.mul_le_mul_of_nonneg_left hc.2 (by omega)
theorem demT_mono {m : Ms} (h : mgOk m = true) {t u : Int} (htu : t ≤ u) : demT m t ≤ demT m u := by
  have hc := costV_ok h
  have hp := (mgOk_iff.1 h).2.2.1
  unfold demT
  exact Int.mul_le_mul_of_nonneg_right (upV_mono hp.1 (by omega)) (by omega)
theorem demT_own {m : Ms} (h : mgOk m = true) {t : Int} (h1 : 1 ≤ t) : costV m ≤ demT m t := by
  obtain ⟨_, _, hp, hj, _, _⟩ := mgOk_iff.1 h
  have hc := costV_ok h
  have hu := upV_pos (a := t + m.ji) (b := m.pe) (by omega) hp.1
  unfold demT
  have := Int.mul_le_mul_of_nonneg_right hu (show 0 ≤ costV m by omega)
  omega
/-- A list of places of the table. -/
def placesOk (T : List Ms) (L : List Int) : Prop := ∀ k, k < L.length → 0 ≤ L.getD k 0 ∧ L.getD k 0 < T.length
theorem demK_bd {T : List Ms} (hT : T.all mgOk = true) {L : List Int} (hL : placesOk T L) {t : Int} (h0 : 0 ≤ t) : ∀ k, k ≤ L.length → 0 ≤ demK T L t k ∧ demK T L t k ≤ k * ((t + 20000) * 135)
  | 0, _ => by simp [demK]
  | k + 1, hk => by
    have ih := demK_bd hT hL h0 k (by omega)
    have hp := hL k (by omega)
    have := demT_bd (allM_at hT (show (L.getD k 0).toNat < T.length by omega)) h0
    simp only [demK]
    have e : ((k + 1 : Nat) : Int) * ((t + 20000) * 135) = (k : Int) * ((t + 20000) * 135) + (t + 20000) * 135 := by rw [Int.natCast_succ, Int.add_mul, Int.one_mul]
    rw [e]
    omega
theorem demK_mono {T : List Ms} (hT : T.all mgOk = true) {L : List Int} (hL : placesOk T L) {t u : Int} (htu : t ≤ u) : ∀ k, k ≤ L.length → demK T L t k ≤ demK T L u k
  | 0, _ => Int.le_refl _
  | k + 1, hk => by
    have ih := demK_mono hT hL htu k (by omega)
    have hp := hL k (by omega)
    have := demT_mono (allM_at hT (show (L.getD k 0).toNat < T.length by omega)) htu
    simp only [demK]
    omega
theorem demK_app {T : List Ms} {L M : List Int} {t : Int} : ∀ {k : Nat}, k ≤ L.length → demK T (L ++ M) t k = demK T L t k
  | 0, _ => rfl
  | k + 1, hk => by
    have e : (L ++ M).getD k 0 = L.getD k 0 := by rw [List.getD_eq_getElem?_getD, List.getD_eq_getElem?_getD, List.getElem?_append_left (by omega)]
    rw [demK, demK, demK_app (by omega), e]
theorem demK_snoc {T : List Ms} {L : List Int} {i : Int} {t : Int} : demK T (L ++ [i]) t (L ++ [i]).length = demK T L t L.length + demT (nthTb T i.toNat) t := by
  have e : (L ++ [i]).getD L.length 0 = i := by rw [List.getD_eq_getElem?_getD, List.getElem?_append_right (Nat.le_refl _)]; simp
  rw [List.length_append, List.length_singleton, demK, demK_app (Nat.le_refl _), e]
theorem placesOk_high (T : List Ms) (i k : Nat) (hk : k ≤ T.length) : placesOk T (highN T i k) := fun j hj => by
  have hm : (highN T i k).getD j 0 ∈ highN T i k := by
    rw [List.getD_eq_getElem?_getD, List.getElem?_eq_getElem hj]; exact List.getElem_mem hj
  obtain ⟨p, h1, h2, _⟩ := highN_mem.1 hm
  rw [h2]; omega
def demandV (T : List Ms) (L : List Int) (t : Int) : Int :=
  if codeT T = 0 ∧ (0 ≤ t ∧ t ≤ 100000) ∧ ∀ k, k < L.length → 0 ≤ L.getD k 0 ∧ L.getD k 0 < (T.length : Int) then demK T L t L.length else -1
/-! ### Busy, count, wait, bound. -/
def busyF (T : List Ms) (i : Nat) (t : Int) : Int := blockN T i T.length + (demK T (highN T i T.length) t (highN T i T.length).length + demT (nthTb T i) t)
def busyV (T : List Ms) (i : Nat) : Option Int := fixI (busyF T i) 100000 100002 (costV (nthTb T i))
def countN (T : List Ms) (i : Nat) : Int := match busyV T i with | some t => upV (t + (nthTb T i).ji) (nthTb T i).pe | none => -1
def waitB (T : List Ms) (i : Nat) (q : Int) : Int := blockN T i T.length + q * costV (nthTb T i)
def waitF (T : List Ms) (i : Nat) (q : Int) (w : Int) : Int := waitB T i q + demK T (highN T i T.length) (w + 1) (highN T i T.length).length
def waitV (T : List Ms) (i : Nat) (q : Int) : Option Int := fixI (waitF T i q) 99999 100002 (waitB T i q)
/-- Of the q below n. -/
def boundN (T : List Ms) (i : Nat) : Nat → Option Int
  | 0 => some 0
  | q + 1 => match boundN T i q, waitV T i q with
    | some b, some w => some (max b ((nthTb T i).ji + w - q * (nthTb T i).pe + costV (nthTb T i)))
    | _, _ => none
def boundV (T : List Ms) (i : Nat) : Option Int := if 0 < countN T i then boundN T i (countN T i).toNat else none
section
variable {T : List Ms} {i : Nat} (hT : T.all mgOk = true) (hi : i < T.length)
include hT hi
theorem busyF_mono (a b : Int) (h : a ≤ b) : busyF T i a ≤ busyF T i b := by
  have h1 := demK_mono hT (placesOk_high T i T.length (Nat.le_refl _)) h _ (Nat.le_refl _)
  have h2 := demT_mono (allM_at hT hi) h
  unfold busyF; omega
theorem busyF_up {t : Int} (h : 1 ≤ t) : costV (nthTb T i) ≤ busyF T i t := by
  have h1 := demK_bd hT (placesOk_high T i T.length (Nat.le_refl _)) (show 0 ≤ t by omega) _ (Nat.le_refl _)
  have h2 := demT_own (allM_at hT hi) h
  have h3 := blockN_bd T i T.length
  unfold busyF; omega
theorem busyF_start : costV (nthTb T i) ≤ busyF T i (costV (nthTb T i)) := busyF_up hT hi (by have := costV_ok (allM_at hT hi); omega)
omit hi in
theorem waitF_mono (q a b : Int) (h : a ≤ b) : waitF T i q a ≤ waitF T i q b := by
  have h1 := demK_mono hT (placesOk_high T i T.length (Nat.le_refl _)) (show a + 1 ≤ b + 1 by omega) _ (Nat.le_refl _)
  unfold waitF; omega
theorem waitF_start {q : Int} (hq : 0 ≤ q) : waitB T i q ≤ waitF T i q (waitB T i q) := by
  have hb := blockN_bd T i T.length
  have hc := costV_ok (allM_at hT hi)
  have hm := Int.mul_nonneg hq (show 0 ≤ costV (nthTb T i) by omega)
  have h1 := demK_bd hT (placesOk_high T i T.length (Nat.le_refl _)) (t := waitB T i q + 1) (by unfold waitB; omega) _ (Nat.le_refl _)
  unfold waitF; omega
/-- What BusyOf finds: the least one from the cost on. -/
theorem busyV_some {t : Int} (h : busyV T i = some t) : busyF T i t = t ∧ costV (nthTb T i) ≤ t ∧ t ≤ 100000 ∧ ∀ s, costV (nthTb T i) ≤ s → busyF T i s = s → t ≤ s :=
  (fixI_spec (busyF_mono hT hi) _ _ (busyF_start hT hi)).1 t h
theorem busyV_none (h : busyV T i = none) : ∀ s, costV (nthTb T i) ≤ s → busyF T i s = s → 100000 < s :=
  (fixI_spec (busyF_mono hT hi) _ _ (busyF_start hT hi)).2 h (by have := costV_ok (allM_at hT hi); omega)
theorem waitV_some {q w : Int} (hq : 0 ≤ q) (h : waitV T i q = some w) : waitF T i q w = w ∧ waitB T i q ≤ w ∧ w ≤ 99999 ∧ ∀ s, waitB T i q ≤ s → waitF T i q s = s → w ≤ s :=
  (fixI_spec (waitF_mono hT q) _ _ (waitF_start hT hi hq)).1 w h
theorem countN_bd : -1 ≤ countN T i ∧ countN T i ≤ 120000 := by
  unfold countN
  cases h : busyV T i with
  | none => simp
  | some t =>
    obtain ⟨h1, h2, h3, h4⟩ := busyV_some hT hi h
    obtain ⟨_, _, hp, hj, _, _⟩ := mgOk_iff.1 (allM_at hT hi)
    have hc := costV_ok (allM_at hT hi)
    have := upV_le (a := t + (nthTb T i).ji) (b := (nthTb T i).pe) (c := 120000) (by omega) hp.1 (by omega)
    show -1 ≤ upV _ _ ∧ upV _ _ ≤ 120000
    omega
end
end Go.Proofs.Ytohjfjcpkloigaa

/- Bounds, plain: a table that asks for more has no lesser bounds. -/

set_option linter.unusedVariables false
set_option linter.unusedSimpArgs false
set_option linter.unusedSectionVars false
set_option maxRecDepth 20000
namespace Go.Proofs.Ytohjfjcpkloigaa
open Go.RowKit

/-- The demand of those of a lesser Id, among the first k. -/
def hiD (T : List Ms) (i : Nat) (t : Int) : Nat → Int
  | 0 => 0
  | k + 1 => hiD T i t k + if (nthTb T k).id < (nthTb T i).id then demT (nthTb T k) t else 0
theorem hiD_eq (T : List Ms) (i : Nat) (t : Int) : ∀ k, demK T (highN T i k) t (highN T i k).length = hiD T i t k
  | 0 => rfl
  | k + 1 => by
    have ih := hiD_eq T i t k
    simp only [highN, hiD]
    split
    · rw [demK_snoc, ih, Int.toNat_natCast]
    · rw [ih, Int.add_zero]
theorem busyF_hi (T : List Ms) (i : Nat) (t : Int) : busyF T i t = blockN T i T.length + (hiD T i t T.length + demT (nthTb T i) t) := by rw [busyF, hiD_eq]
theorem waitF_hi (T : List Ms) (i : Nat) (q w : Int) : waitF T i q w = waitB T i q + hiD T i (w + 1) T.length := by rw [waitF, hiD_eq]
/-- A fixed point of the greater one, from the lesser one's start on, bounds the lesser one's. -/
theorem fix_under {f g : Int → Int} {m : Int} (mono : ∀ a b, a ≤ b → f a ≤ f b) (le : ∀ t, 0 ≤ t → f t ≤ g t) : ∀ (k : Nat) (t s : Int), 0 ≤ t → t ≤ f t → t ≤ s → s ≤ m → g s = s → (m + 1 - t).toNat < k → ∃ r, fixI f m k t = some r ∧ r ≤ s
  | 0, t, s, _, _, _, _, _, hk => absurd hk (Nat.not_lt_zero _)
  | k + 1, t, s, h0, ht, hts, hs, hg, hk => by
    have hm : t ≤ m := by omega
    by_cases e : f t = t
    · exact ⟨t, fixI_here hm e, hts⟩
    · rw [fixI_next hm e]
      have h1 := mono t s hts
      have h2 := le s (by omega)
      exact fix_under mono le k (f t) s (by omega) (mono _ _ ht) (by omega) hs hg (by omega)
/-- U asks of place i for no less than T. -/
structure Asks (T U : List Ms) (i : Nat) : Prop where
  ji : (nthTb T i).ji = (nthTb U i).ji
  pe : (nthTb T i).pe = (nthTb U i).pe
  cost : costV (nthTb T i) ≤ costV (nthTb U i)
  block : blockN T i T.length ≤ blockN U i U.length
  high : ∀ t, 0 ≤ t → hiD T i t T.length ≤ hiD U i t U.length
section
variable {T U : List Ms} {i : Nat} (hT : T.all mgOk = true) (hU : U.all mgOk = true) (hi : i < T.length) (hj : i < U.length) (h : Asks T U i)
include hT hU hi hj h
theorem demT_le {t : Int} (h0 : 0 ≤ t) : demT (nthTb T i) t ≤ demT (nthTb U i) t := by
  obtain ⟨_, _, hp, hjj, _, _⟩ := mgOk_iff.1 (allM_at hT hi)
  unfold demT
  rw [← h.ji, ← h.pe]
  exact Int.mul_le_mul_of_nonneg_left h.cost (upV_nonneg (by omega) hp.1)
theorem busy_le {s : Int} (hs : busyV U i = some s) : ∃ r, busyV T i = some r ∧ r ≤ s := by
  obtain ⟨h1, h2, h3, -⟩ := busyV_some hU hj hs
  have hc := costV_ok (allM_at hT hi)
  exact fix_under (busyF_mono hT hi) (fun t h0 => by
    have := h.high t h0
    have := demT_le hT hU hi hj h h0
    have := h.block
    rw [busyF_hi, busyF_hi]; omega) _ _ _ (by omega) (busyF_start hT hi) (by have := h.cost; omega) h3 h1 (by omega)
theorem count_le (hc : 0 < countN U i) : countN T i ≤ countN U i := by
  unfold countN at hc ⊢
  cases hs : busyV U i with
  | none => rw [hs] at hc; simp at hc
  | some s =>
    obtain ⟨r, hr, hle⟩ := busy_le hT hU hi hj h hs
    rw [hr]
    show upV _ _ ≤ upV _ _
    rw [← h.ji, ← h.pe]
    exact upV_mono (mgOk_iff.1 (allM_at hT hi)).2.2.1.1 (by omega)
theorem wait_le {q s : Int} (hq : 0 ≤ q) (hs : waitV U i q = some s) : ∃ r, waitV T i q = some r ∧ r ≤ s := by
  obtain ⟨h1, h2, h3, -⟩ := waitV_some hU hj hq hs
  have hc := costV_ok (allM_at hT hi)
  have hb := blockN_bd T i T.length
  have hm := Int.mul_nonneg hq (show 0 ≤ costV (nthTb T i) by omega)
  have hmm := Int.mul_le_mul_of_nonneg_left h.cost hq
  have hbl := h.block
  have hB : 0 ≤ waitB T i q ∧ waitB T i q ≤ waitB U i q := by unfold waitB; omega
  exact fix_under (waitF_mono hT q) (fun t h0 => by
    have := h.high (t + 1) (by omega)
    rw [waitF_hi, waitF_hi]; omega) _ _ _ hB.1 (waitF_start hT hi hq) (by omega) h3 h1 (by omega)
theorem bound_le : ∀ (n m : Nat) (b : Int), n ≤ m → boundN U i m = some b → ∃ a, boundN T i n = some a ∧ a ≤ b
  | 0, 0, b, _, hb => ⟨0, rfl, by cases hb; exact Int.le_refl _⟩
  | n + 1, 0, b, hnm, _ => absurd hnm (by omega)
  | n, m + 1, b, hnm, hb => by
    simp only [boundN] at hb
    split at hb
    · rename_i b1 w1 e1 e2
      cases hb
      by_cases e : n = m + 1
      · subst e
        obtain ⟨a, ha, hle⟩ := bound_le m m b1 (Nat.le_refl _) e1
        obtain ⟨r, hr, hrs⟩ := wait_le hT hU hi hj h (Int.natCast_nonneg m) e2
        refine ⟨max a ((nthTb T i).ji + r - (m : Int) * (nthTb T i).pe + costV (nthTb T i)), by simp only [boundN, ha, hr], ?_⟩
        have hji := h.ji
        have hpe := h.pe
        have hco := h.cost
        rw [← hji, ← hpe]
        omega
      · obtain ⟨a, ha, hle⟩ := bound_le n m b1 (by omega) e1
        exact ⟨a, ha, by omega⟩
    · cases hb
end
/-! ### A table that has grown. -/
theorem blockN_mono (U : List Ms) (i : Nat) : ∀ {k l : Nat}, k ≤ l → blockN U i k ≤ blockN U i l
  | k, 0, h => by have : k = 0 := by omega
                  subst this; exact Int.le_refl _
  | k, l + 1, h => by
    by_cases e : k = l + 1
    · subst e; exact Int.le_refl _
    · have := blockN_mono U i (show k ≤ l by omega)
      simp only [blockN]
      split <;> omega
theorem hiD_mono {U : List Ms} (hU : U.all mgOk = true) (i : Nat) {t : Int} (h0 : 0 ≤ t) : ∀ {k l : Nat}, k ≤ l → l ≤ U.length → hiD U i t k ≤ hiD U i t l
  | k, 0, h, _ => by have : k = 0 := by omega
                     subst this; exact Int.le_refl _
  | k, l + 1, h, hl => by
    by_cases e : k = l + 1
    · subst e; exact Int.le_refl _
    · have := hiD_mono hU i h0 (show k ≤ l by omega) (by omega)
      have := (demT_bd (allM_at hU (show l < U.length by omega)) h0).1
      simp only [hiD]
      split <;> omega
structure Grown (T U : List Ms) : Prop where
  len : T.length ≤ U.length
  id : ∀ j, j < T.length → (nthTb U j).id = (nthTb T j).id
  ji : ∀ j, j < T.length → (nthTb U j).ji = (nthTb T j).ji
  pe : ∀ j, j < T.length → (nthTb U j).pe = (nthTb T j).pe
  cost : ∀ j, j < T.length → costV (nthTb T j) ≤ costV (nthTb U j)
theorem blockN_le {T U : List Ms} (g : Grown T U) {i : Nat} (hi : i < T.length) : ∀ k, k ≤ T.length → blockN T i k ≤ blockN U i k
  | 0, _ => Int.le_refl _
  | k + 1, hk => by
    have ih := blockN_le g hi k (by omega)
    have := g.cost k (by omega)
    simp only [blockN]
    rw [g.id k (by omega), g.id i hi]
    split <;> omega
theorem hiD_le {T U : List Ms} (hT : T.all mgOk = true) (g : Grown T U) {i : Nat} (hi : i < T.length) {t : Int} (h0 : 0 ≤ t) : ∀ k, k ≤ T.length → hiD T i t k ≤ hiD U i t k
  | 0, _ => Int.le_refl _
  | k + 1, hk => by
    have ih := hiD_le hT g hi h0 k (by omega)
    obtain ⟨_, _, hp, hjj, _, _⟩ := mgOk_iff.1 (allM_at hT (show k < T.length by omega))
    have hd : demT (nthTb T k) t ≤ demT (nthTb U k) t := by
      unfold demT
      rw [g.ji k (by omega), g.pe k (by omega)]
      exact Int.mul_le_mul_of_nonneg_left (g.cost k (by omega)) (upV_nonneg (by omega) hp.1)
    simp only [hiD]
    rw [g.id k (by omega), g.id i hi]
    split <;> omega
theorem Grown.asks {T U : List Ms} (hT : T.all mgOk = true) (hU : U.all mgOk = true) (g : Grown T U) {i : Nat} (hi : i < T.length) : Asks T U i :=
  ⟨(g.ji i hi).symm, (g.pe i hi).symm, g.cost i hi, Int.le_trans (blockN_le g hi _ (Nat.le_refl _)) (blockN_mono U i g.len), fun t h0 => Int.le_trans (hiD_le hT g hi h0 _ (Nat.le_refl _)) (hiD_mono hU i h0 g.len (Nat.le_refl _))⟩
/-- No lesser bounds, of a table that has grown. -/
theorem boundV_le {T U : List Ms} (hT : T.all mgOk = true) (hU : U.all mgOk = true) (g : Grown T U) {i : Nat} (hi : i < T.length) {b : Int} (hb : boundV U i = some b) (hc : 0 < countN T i) : ∃ a, boundV T i = some a ∧ a ≤ b := by
  have hj : i < U.length := Nat.lt_of_lt_of_le hi g.len
  have A := g.asks hT hU hi
  unfold boundV at hb ⊢
  split at hb
  · rename_i hu
    have := count_le hT hU hi hj A hu
    rw [if_pos hc]
    exact bound_le hT hU hi hj A _ _ b (by omega) hb
  · cases hb
theorem countN_pos {T : List Ms} (hT : T.all mgOk = true) {i : Nat} (hi : i < T.length) {t : Int} (h : busyV T i = some t) : 0 < countN T i := by
  obtain ⟨_, h2, _, _⟩ := busyV_some hT hi h
  obtain ⟨_, _, hp, hjj, _, _⟩ := mgOk_iff.1 (allM_at hT hi)
  have hc := costV_ok (allM_at hT hi)
  unfold countN
  rw [h]
  have := upV_pos (a := t + (nthTb T i).ji) (b := (nthTb T i).pe) (by omega) hp.1
  show 0 < upV _ _
  omega
/-- Where a grown table has a bound, so has the lesser one, and no greater. -/
theorem boundV_grown {T U : List Ms} (hT : T.all mgOk = true) (hU : U.all mgOk = true) (g : Grown T U) {i : Nat} (hi : i < T.length) {b : Int} (hb : boundV U i = some b) : ∃ a, boundV T i = some a ∧ a ≤ b := by
  have hj : i < U.length := Nat.lt_of_lt_of_le hi g.len
  have A := g.asks hT hU hi
  refine boundV_le hT hU g hi hb ?_
  unfold boundV at hb
  split at hb
  · rename_i hu
    cases hs : busyV U i with
    | none => unfold countN at hu; rw [hs] at hu; simp at hu
    | some s =>
      obtain ⟨r, hr, _⟩ := busy_le hT hU hi hj A hs
      exact countN_pos hT hi hr
  · cases hb
theorem boundN_low {T : List Ms} (hT : T.all mgOk = true) {i : Nat} (hi : i < T.length) : ∀ (n : Nat) (b : Int), boundN T i n = some b → 0 < n → (nthTb T i).ji + costV (nthTb T i) ≤ b
  | 0, b, _, h => absurd h (Nat.lt_irrefl _)
  | n + 1, b, hb, _ => by
    simp only [boundN] at hb
    split at hb
    · rename_i b1 w1 e1 e2
      cases hb
      by_cases e : n = 0
      · subst e
        have h1 := (waitV_some hT hi (Int.le_refl 0) e2).2.1
        have hbk := blockN_bd T i T.length
        unfold waitB at h1
        simp
        omega
      · have := boundN_low hT hi n b1 e1 (by omega)
        omega
    · cases hb
/-- A bound is at least the jitter and the cost. -/
theorem boundV_low {T : List Ms} (hT : T.all mgOk = true) {i : Nat} (hi : i < T.length) {b : Int} (hb : boundV T i = some b) : (nthTb T i).ji + costV (nthTb T i) ≤ b := by
  unfold boundV at hb
  split at hb
  · exact boundN_low hT hi _ b hb (by omega)
  · cases hb
end Go.Proofs.Ytohjfjcpkloigaa

/- Bounds, plain: what the functions of chapter 16 answer. -/

set_option linter.unusedVariables false
set_option linter.unusedSimpArgs false
set_option maxRecDepth 20000
namespace Go.Proofs.Ytohjfjcpkloigaa
open Go.RowKit

def someR (o : Option Int) : Int × Bool := match o with | some t => (t, true) | none => (0, false)
def busyR (T : List Ms) (i : Int) : Int × Bool := if hasM T i = true then someR (busyV T i.toNat) else (-1, false)
def countR (T : List Ms) (i : Int) : Int := if hasM T i = true then countN T i.toNat else -1
def waitR (T : List Ms) (i q : Int) : Int × Bool := if hasM T i = true then (if 0 ≤ q ∧ q ≤ 100000 then someR (waitV T i.toNat q) else (0, false)) else (-1, false)
def boundR (T : List Ms) (i : Int) : Int × Bool := if hasM T i = true then someR (boundV T i.toNat) else (-1, false)
/-- Of the first k messages each has a bound that its deadline allows. -/
def admK (T : List Ms) : Nat → Bool
  | 0 => true
  | k + 1 => admK T k && (match boundV T k with | some n => decide (n ≤ (nthTb T k).de) | none => false)
def admV (T : List Ms) : Bool := decide (codeT T = 0) && admK T T.length
theorem highV_at {T : List Ms} {i : Int} (h : hasM T i = true) : highV T i = highN T i.toNat T.length := highV_yes h
theorem placesOk_snoc {T : List Ms} {L : List Int} {i : Int} (hL : placesOk T L) (h0 : 0 ≤ i) (h1 : i < T.length) : placesOk T (L ++ [i]) := fun k hk => by
  rw [List.getD_eq_getElem?_getD]
  by_cases e : k < L.length
  · rw [List.getElem?_append_left e, ← List.getD_eq_getElem?_getD]; exact hL k e
  · have hk' : k = L.length := by simp at hk; omega
    subst hk'
    rw [List.getElem?_append_right (Nat.le_refl _)]
    simp
    omega
theorem demandV_yes {T : List Ms} {L : List Int} {t : Int} (hc : codeT T = 0) (ht : 0 ≤ t ∧ t ≤ 100000) (hL : placesOk T L) : demandV T L t = demK T L t L.length := by
  unfold demandV; rw [if_pos ⟨hc, ht, hL⟩]
/-- What BusyOf finds is BlockOf and DemandOf at it. -/
theorem busy_fixed {T : List Ms} {i : Int} (h : hasM T i = true) {t : Int} (hb : busyV T i.toNat = some t) : t = blockV T i + demandV T (highV T i ++ [i]) t := by
  obtain ⟨hc, h0, h1⟩ := hasM_iff.1 h
  have hT := (codeT_iff.1 hc).2.1
  have hi : i.toNat < T.length := by omega
  obtain ⟨e, h2, h3, _⟩ := busyV_some hT hi hb
  have hcost := costV_ok (allM_at hT hi)
  have hp := placesOk_snoc (placesOk_high T i.toNat T.length (Nat.le_refl _)) h0 h1
  rw [highV_at h, demandV_yes hc ⟨by omega, h3⟩ hp, demK_snoc]
  unfold blockV
  rw [if_pos h]
  unfold busyF at e
  omega
/-- What WaitOf finds, of q = 0. -/
theorem wait_fixed {T : List Ms} {i : Int} (h : hasM T i = true) {w : Int} (hw : waitV T i.toNat 0 = some w) : w = blockV T i + demandV T (highV T i) (w + 1) ∧ blockV T i ≤ w := by
  obtain ⟨hc, h0, h1⟩ := hasM_iff.1 h
  have hT := (codeT_iff.1 hc).2.1
  have hi : i.toNat < T.length := by omega
  obtain ⟨e, h2, h3, _⟩ := waitV_some hT hi (Int.le_refl 0) hw
  have hbk := blockN_bd T i.toNat T.length
  have hB : waitB T i.toNat 0 = blockN T i.toNat T.length := by unfold waitB; simp
  rw [hB] at h2
  unfold waitF at e
  rw [hB] at e
  rw [highV_at h, demandV_yes hc ⟨by omega, by omega⟩ (placesOk_high T i.toNat T.length (Nat.le_refl _))]
  unfold blockV
  rw [if_pos h]
  omega
theorem boundN_bd {T : List Ms} (hT : T.all mgOk = true) {i : Nat} (hi : i < T.length) : ∀ (n : Nat) (b : Int), boundN T i n = some b → 0 ≤ b ∧ b ≤ 120135
  | 0, b, h => by cases h; omega
  | n + 1, b, hb => by
    simp only [boundN] at hb
    split at hb
    · rename_i b1 w1 e1 e2
      cases hb
      have ih := boundN_bd hT hi n b1 e1
      have h1 := (waitV_some hT hi (Int.natCast_nonneg n) e2).2.2.1
      obtain ⟨_, _, hp, hjj, _, _⟩ := mgOk_iff.1 (allM_at hT hi)
      have hc := costV_ok (allM_at hT hi)
      have hq := Int.mul_nonneg (Int.natCast_nonneg n) (show 0 ≤ (nthTb T i).pe by omega)
      omega
    · cases hb
/-- A part of it is there, where the whole is. -/
theorem boundN_part {T : List Ms} {i : Nat} : ∀ {n m : Nat} {b : Int}, n ≤ m → boundN T i m = some b → ∃ a, boundN T i n = some a
  | n, 0, b, h, hb => ⟨0, by have : n = 0 := by omega
                             subst this; rfl⟩
  | n, m + 1, b, h, hb => by
    by_cases e : n = m + 1
    · subst e; exact ⟨b, hb⟩
    · simp only [boundN] at hb
      split at hb
      · rename_i b1 w1 e1 e2; exact boundN_part (by omega) e1
      · cases hb
/-- One that is wanting spoils what comes behind it. -/
theorem boundN_none {T : List Ms} {i q n : Nat} (hq : q < n) (h : waitV T i q = none) : boundN T i n = none := by
  cases hb : boundN T i n with
  | none => rfl
  | some b =>
    obtain ⟨a, ha⟩ := boundN_part (show q + 1 ≤ n by omega) hb
    simp only [boundN, h] at ha
    split at ha
    · rename_i e; cases e
    · cases ha
theorem boundN_step {T : List Ms} {i q : Nat} {b w : Int} (hb : boundN T i q = some b) (hw : waitV T i q = some w) : boundN T i (q + 1) = some (max b ((nthTb T i).ji + w - q * (nthTb T i).pe + costV (nthTb T i))) := by simp only [boundN, hb, hw]
theorem admK_no {T : List Ms} {k n : Nat} (hk : k < n) (h : (match boundV T k with | some n => decide (n ≤ (nthTb T k).de) | none => false) = false) : admK T n = false := by
  induction n with
  | zero => exact absurd hk (Nat.not_lt_zero _)
  | succ n ih =>
    by_cases e : k = n
    · subst e; rw [admK, h, Bool.and_false]
    · rw [admK, ih (by omega), Bool.false_and]
end Go.Proofs.Ytohjfjcpkloigaa

/- Tables, the model: CodeOf, l15Has, CostOf, l15Up, LoadOf, HigherOf; of the program what leans on no map: CostOf, roundedUp. -/

set_option linter.unusedVariables false
set_option linter.unusedSimpArgs false
set_option maxRecDepth 20000
namespace Go.Proofs.Ytohjfjcpkloigaa
open Go.RowKit

set_option maxHeartbeats 1000000 in
/-- spec.CodeOf. -/
theorem specCodeOf (a : Option Addr) (T : List Ms) (c : Nat) (w : World) (hd : Tbl a T w) :
    Calls Try.prog 67 #[.slice a T.length c] w fun e w' => e = .returned (.int .i64 (codeT T)) ∧ Below w.heap.size w w' := by
  have hm := hd.1
  unfold maxLen at hm
  go_enter Try.func67, Try.ntmps67
  go_wp2_with fail
  refine (l1InMs _ _ _ _).mono ?_
  rintro e w1 ⟨rfl, rfl⟩
  cases hr : rng (T.length : Int) 1 12 with
  | false =>
    have HV := Lib.hid (codeT_size (T := T) (by
      intro h
      rw [rng_iff.2 (by omega)] at hr; cases hr))
    clear hr
    go_wp2_with fail
    go_ret
    exact ⟨by rw [HV.out] <;> rfl, Below.refl _ _⟩
  | true =>
    have h12 : 1 ≤ T.length ∧ T.length ≤ 12 := by have := rng_iff.1 hr; omega
    clear hr
    have H2 := Lib.hid (fun h => codeT_msg (T := T) h12 h)
    have H3 := Lib.hid (fun h k => codeT_twice (T := T) h12 h k)
    have H0 := Lib.hid (fun h k => codeT_ok (T := T) h12 h k)
    go_wp2_with fail
    go_loopw [3] (fun i wr => ∃ k : Nat, k ≤ T.length ∧ i = .int .i64 k ∧ (∀ j, j < k → mgOk (nthTb T j) = true) ∧ Below w.heap.size w wr) (fun i _ => T.length - (intOf i).toNat)
    case atStart => exact ⟨0, Nat.zero_le _, rfl, fun j hj => absurd hj (by omega), Below.refl _ _⟩
    case round =>
      obtain ⟨k, hk, rfl, hr, b⟩ := hrel
      by_cases hlt : k < T.length
      · obtain ⟨g, o, rfl, c0, c1, c2, c3, c4, c5⟩ := (hd.below b).2 k hlt
        have hn := Lib.hid (allM_no (T := T) hlt)
        have H1 := fun w => specMsgOk (nthTb T k) w
        have hq := Lib.hid (show ∀ v, mgOk (nthTb T k) = v → v = true → ∀ j, j < k + 1 → mgOk (nthTb T j) = true from fun v e1 e2 j hj => by
          by_cases e : j = k
          · rw [e, e1, e2]
          · exact hr j (by omega))
        clear hr
        generalize mgOk (nthTb T k) = v at H1 hn hq
        generalize nthTb T k = m at *
        obtain ⟨id, sz, pe, ji, de, no⟩ := m
        go_wp2_with fail
        refine (H1 _).mono ?_
        rintro e w2 ⟨rfl, b2⟩
        replace b := Below.then2 b b2
        clear b2 c0 c1 c2 c3 c4 c5 H1
        cases v with
        | true =>
          go_wp2_with fail
          go_roundw
          case rel => exact ⟨k + 1, by omega, by go_num, hq.out _ rfl rfl, b⟩
          case measure => simp [intOf]; omega
        | false =>
          have HV := Lib.hid (H2.out (hn.out rfl))
          clear hn hq
          go_wp2_with fail
          go_ret
          exact ⟨by rw [HV.out] <;> rfl, b⟩
      · have hall := Lib.hid (show ∀ j, j < T.length → mgOk (nthTb T j) = true from fun j hj => hr j (by omega))
        clear hr H2
        go_wp2_with fail
        go_loopw [4] (fun i wr2 => ∃ k : Nat, k ≤ T.length ∧ i = .int .i64 k ∧ (∀ i j, j < i → i < k → (nthTb T i).id ≠ (nthTb T j).id) ∧ Below w.heap.size w wr2) (fun i _ => T.length - (intOf i).toNat)
        case atStart => exact ⟨0, Nat.zero_le _, rfl, fun i j _ hj => absurd hj (by omega), b⟩
        case round =>
          clear b
          obtain ⟨k, hk, rfl, hr, b⟩ := hrel
          by_cases hlt : k < T.length
          · replace hr := Lib.hid hr
            go_wp2_with fail
            go_loopw [5] (fun i wr3 => ∃ l : Nat, l ≤ k ∧ i = .int .i64 l ∧ (∀ j, j < l → (nthTb T k).id ≠ (nthTb T j).id) ∧ Below w.heap.size w wr3) (fun i _ => k - (intOf i).toNat)
            case atStart => exact ⟨0, Nat.zero_le _, rfl, fun j hj => absurd hj (by omega), b⟩
            case round =>
              clear b
              obtain ⟨l, hl, rfl, hs, b⟩ := hrel
              by_cases hlk : l < k
              · obtain ⟨g, o, rfl, c0, _⟩ := (hd.below b).2 k hlt
                obtain ⟨g', o', hao, d0, _⟩ := (hd.below b).2 l (by omega)
                cases hao
                have ht := Lib.hid (fun e => H3.out (allM_yes (T := T) hall.out) (ids_twice hlk hlt e))
                have hs2 := Lib.hid (show ∀ v v', (nthTb T k).id = v → (nthTb T l).id = v' → v ≠ v' → ∀ j, j < l + 1 → (nthTb T k).id ≠ (nthTb T j).id from fun v v' e1 e2 hne j hj => by
                  by_cases e : j = l
                  · rw [e, e1, e2]; exact hne
                  · exact hs j (by omega))
                clear hs
                generalize hv : (nthTb T k).id = v at c0 ht
                generalize hv' : (nthTb T l).id = v' at d0 ht
                replace hv := Lib.hid hv
                replace hv' := Lib.hid hv'
                by_cases he : v = v'
                · have HV := Lib.hid (ht.out he)
                  subst he
                  clear ht hs2 hv hv'
                  go_wp2_with fail
                  go_quiet (fail)
                  go_wp2_with fail
                  go_ret
                  exact ⟨by rw [HV.out] <;> rfl, by first | exact b | exact belowN b _⟩
                · clear ht
                  go_wp2_with fail
                  go_quiet (fail)
                  go_wp2_with fail
                  go_roundw
                  case rel => exact ⟨l + 1, by omega, by go_num, by rw [← hv.out]; exact hs2.out _ _ hv.out hv'.out he, by first | exact b | exact belowN b _⟩
                  case measure => simp [intOf]; omega
              · have hs2 := Lib.hid (show ∀ i j, j < i → i < k + 1 → (nthTb T i).id ≠ (nthTb T j).id from fun i j h1 h2 => by
                  by_cases e : i = k
                  · rw [e]; exact hs j (by omega)
                  · exact hr.out i j h1 (by omega))
                clear hs hr
                go_wp2_with fail
                go_roundw
                case rel => exact ⟨k + 1, by omega, by go_num, hs2.out, b⟩
                case measure => simp [intOf]; omega
          · have HV := Lib.hid (H0.out (allM_yes (T := T) hall.out) (ids_nodup fun i j h1 h2 => hr i j h1 (by omega)))
            clear hr
            go_wp2_with fail
            go_ret
            exact ⟨by rw [HV.out] <;> rfl, b⟩
/-- spec.l15Has. -/
theorem specHasM (a : Option Addr) (T : List Ms) (c : Nat) (i : Int) (w : World) (hd : Tbl a T w) :
    Calls Try.prog 42 #[.slice a T.length c, .int .i64 i] w fun e w' => e = .returned (.bool (hasM T i)) ∧ Below w.heap.size w w' := by
  have hm := hd.1
  unfold maxLen at hm
  have HV := Lib.hid (show hasM T i = (decide (codeT T = 0) && rng i 0 (T.length - 1)) from rfl)
  have H1 := fun w h => specCodeOf a T c w h
  generalize hasM T i = v at HV ⊢
  generalize codeT T = q at HV H1
  go_enter Try.func42, Try.ntmps42
  go_wp2_with fail
  refine (H1 _ hd).mono ?_
  rintro e w1 ⟨rfl, b⟩
  by_cases h0 : q = 0
  · subst h0
    go_wp2_with fail
    refine (l1InMs _ _ _ _).mono ?_
    rintro e w2 ⟨rfl, rfl⟩
    go_wp2_with fail
    go_ret
    exact ⟨ret_bool (by rw [HV.out]; simp), b⟩
  · have hb : (q == 0) = false := beq_eq_false_iff_ne.2 h0
    have E := Lib.hid (show v = false by rw [HV.out]; simp [h0])
    clear HV h0 H1
    go_wp2_with fail
    go_ret
    exact ⟨by rw [E.out] <;> rfl, b⟩
/-- spec.CostOf. -/
theorem specCostOf (m : Ms) (w : World) (hw : (Lit.int .i64 m.sz).wf = true) :
    Calls Try.prog 72 #[mgV m] w fun e w' => e = .returned (.int .i64 (costV m)) ∧ Below w.heap.size w w' := by
  have bb := (Below.refl w.heap.size w).alloc (Nat.le_refl _) (.cells (mgC m) 31)
  have H1 := fun w => specLong m.sz w hw
  have HB := longV_bd m.sz
  have HV := Lib.hid (show costV m = if longV m.sz < 0 then -1 else longV m.sz + 3 from rfl)
  generalize costV m = v at HV ⊢
  generalize longV m.sz = q at HV H1 HB
  obtain ⟨id, sz, pe, ji, de, no⟩ := m
  have hq0 : -1 ≤ q := by omega
  have hq1 : q ≤ 132 := by omega
  clear HB
  go_enter Try.func72, Try.ntmps72
  go_wp2_with fail
  refine (H1 _).mono ?_
  rintro e w1 ⟨rfl, rfl⟩
  have b := bb
  by_cases h : q < 0
  · have E := Lib.hid (show v = -1 by rw [HV.out, if_pos h])
    clear HV
    go_wp2_with fail
    go_ret
    exact ⟨by rw [E.out] <;> rfl, b⟩
  · have E := Lib.hid (show v = q + 3 by rw [HV.out, if_neg h])
    clear HV
    go_wp2_with fail
    go_ret
    exact ⟨by rw [E.out] <;> rfl, b⟩
/-- impl.CostOf. -/
theorem implCostOf (m : Ms) (w : World) (hw : (Lit.int .i64 m.sz).wf = true) :
    Calls Try.prog 18 #[mgV m] w fun e w' => e = .returned (.int .i64 (costV m)) ∧ Below w.heap.size w w' := by
  have bb := (Below.refl w.heap.size w).alloc (Nat.le_refl _) (.cells (mgC m) 31)
  have H1 := fun w => implLong m.sz w hw
  have HB := longV_bd m.sz
  have HV := Lib.hid (show costV m = if longV m.sz < 0 then -1 else longV m.sz + 3 from rfl)
  generalize costV m = v at HV ⊢
  generalize longV m.sz = q at HV H1 HB
  obtain ⟨id, sz, pe, ji, de, no⟩ := m
  have hq0 : -1 ≤ q := by omega
  have hq1 : q ≤ 132 := by omega
  clear HB
  go_enter Try.func18, Try.ntmps18
  go_wp2_with fail
  refine (H1 _).mono ?_
  rintro e w1 ⟨rfl, b⟩
  replace b := Below.then2 bb b
  by_cases h : q < 0
  · have E := Lib.hid (show v = -1 by rw [HV.out, if_pos h])
    clear HV
    go_wp2_with fail
    go_ret
    exact ⟨by rw [E.out] <;> rfl, b⟩
  · have E := Lib.hid (show v = q + 3 by rw [HV.out, if_neg h])
    clear HV
    go_wp2_with fail
    go_ret
    exact ⟨by rw [E.out] <;> rfl, b⟩
/-- spec.l15Up. -/
theorem specUp (a b : Int) (w : World) (ha : 0 ≤ a) (ha2 : a ≤ 1000000000000) (hb : 1 ≤ b) (hb2 : b ≤ 1000000000) :
    Calls Try.prog 63 #[.int .i64 a, .int .i64 b] w fun e w' => e = .returned (.int .i64 (upV a b)) ∧ w = w' := by
  have HV := Lib.hid (show upV a b = (a + b - 1) / b from rfl)
  generalize upV a b = v at HV ⊢
  go_enter Try.func63, Try.ntmps63
  go_wp2_with fail
  go_ret
  exact ⟨by rw [HV.out] <;> rfl, rfl⟩
/-- impl.roundedUp. -/
theorem implUp (a b : Int) (w : World) (ha : 0 ≤ a) (ha2 : a ≤ 1000000000000) (hb : 1 ≤ b) (hb2 : b ≤ 1000000000) :
    Calls Try.prog 62 #[.int .i64 a, .int .i64 b] w fun e w' => e = .returned (.int .i64 (upV a b)) ∧ w = w' := by
  have HV := Lib.hid (show upV a b = (a + b - 1) / b from rfl)
  generalize upV a b = v at HV ⊢
  go_enter Try.func62, Try.ntmps62
  go_wp2_with fail
  go_ret
  exact ⟨by rw [HV.out] <;> rfl, rfl⟩
set_option maxHeartbeats 1000000 in
/-- spec.HigherOf: a row of its own. -/
theorem specHigherOf (a : Option Addr) (T : List Ms) (c : Nat) (i : Int) (w : World) (hd : Tbl a T w) :
    Calls Try.prog 20 #[.slice a T.length c, .int .i64 i] w fun e w' => ∃ v, e = .returned v ∧ OwnI w.heap.size (highV T i) v w' ∧ Below w.heap.size w w' := by
  have hm := hd.1
  unfold maxLen at hm
  have H1 := fun w h => specHasM a T c i w h
  go_enter Try.func20, Try.ntmps20
  go_wp2_with fail
  have O0 : OwnI w.heap.size [] (.slice (some ⟨w.heap.size, 0, none⟩) 0 0) (w.alloc (.cells #[] 2)) := ⟨World.ownsRow_made (base := w.heap.size) (e := 2) (size := 1) w #[] 0 (Nat.le_refl _) (Nat.zero_le _) rfl, by simp⟩
  have b0 := (Below.refl w.heap.size w).alloc (Nat.le_refl _) (.cells #[] 2)
  have hd0 := hd.below b0
  refine (H1 _ hd0).mono ?_
  rintro e w1 ⟨rfl, b1⟩
  have bb := Below.then2 b0 b1
  have O1 : OwnI w.heap.size [] (.slice (some ⟨w.heap.size, 0, none⟩) 0 0) w1 := O0.kept (grown_at b1) (Classical.em _)
  clear H1 hd0 b0 b1 O0
  cases hh : hasM T i with
  | false =>
    have HV := Lib.hid (highV_no hh)
    clear hh
    go_wp2_with fail
    go_ret
    exact ⟨_, rfl, by rw [HV.out]; exact O1, bb⟩
  | true =>
    have HV := Lib.hid (highV_yes hh)
    obtain ⟨h0, hi0, hi1⟩ := hasM_iff.1 hh
    have hl := (codeT_iff.1 h0).1
    clear hh h0
    obtain ⟨i, rfl⟩ := Int.eq_ofNat_of_zero_le hi0
    simp only [Int.toNat_natCast] at HV
    have hil : i < T.length := by omega
    go_wp2_with fail
    go_loopw [5, 6] (fun v k wr => ∃ j : Nat, j ≤ T.length ∧ k = .int .i64 j ∧ OwnI w.heap.size (highN T i j) v wr ∧ Below w.heap.size w wr) (fun _ k _ => T.length - (intOf k).toNat)
    case atStart => exact ⟨0, Nat.zero_le _, rfl, O1, bb⟩
    case round =>
      clear O1 bb
      obtain ⟨j, hj, rfl, O, b⟩ := hrel
      by_cases hlt : j < T.length
      · obtain ⟨g, o, rfl, c0, _⟩ := (hd.below b).2 j hlt
        obtain ⟨g', o', hao, d0, _⟩ := (hd.below b).2 i hil
        cases hao
        have hnx := Lib.hid (show highN T i (j + 1) = if (nthTb T j).id < (nthTb T i).id then highN T i j ++ [(j : Int)] else highN T i j from rfl)
        have hlen := highN_len T i j
        generalize (nthTb T j).id = v at *
        generalize (nthTb T i).id = v' at *
        generalize highN T i j = D at *
        obtain ⟨av, cv, rfl, _⟩ := O.nums
        by_cases he : v < v'
        · have hnx := Lib.hid (hnx.out.trans (if_pos he))
          go_wp2_with fail
          go_quiet (fail)
          replace O := O.kept (grown_drewN wr nq none) (Classical.em _)
          replace b := belowN b nq
          clear c0 d0
          generalize wr.drewN nq = w2 at *
          have hbw := b.size
          have O2 := O.kept (World.grownBy_alloc w2 (.cells #[.int .i64 (j : Int)] 2) none) (Classical.em _)
          have b2 := below_more b (.cells #[.int .i64 (j : Int)] 2)
          have hwf : (Lit.int .i64 (j : Int)).wf = true := Go.WalkArith.wf_i64 ⟨by omega, by omega⟩
          have hsz : D.length ≤ 1000000 := by omega
          have hB2 := b2.size
          go_wp2_with (at_builtin; refine wpList_appI rfl _ _ rfl w.heap.size D (j : Int) _ rfl O2 w2.heap.size 1 rfl (World.cell?_alloc_at _ _ _ _ rfl) hwf hsz hB2 ?_; intro av2 cv2 w3 O3 g3)
          have b3 := b2.grown g3 b2.size (fun q e => by have := O2.low e; omega)
          clear O O2 b b2 g3
          go_roundw
          case rel => exact ⟨j + 1, by omega, by go_num, by rw [hnx.out]; simpa using O3, b3⟩
          case measure => simp [intOf]; omega
        · have hnx := Lib.hid (hnx.out.trans (if_neg he))
          go_wp2_with fail
          go_quiet (fail)
          go_wp2_with fail
          go_roundw
          case rel => exact ⟨j + 1, by omega, by go_num, by rw [hnx.out]; exact O.kept (grown_drewN _ _ _) (Classical.em _), belowN b _⟩
          case measure => simp [intOf]; omega
      · obtain rfl : j = T.length := by omega
        obtain ⟨av, cv, rfl, _⟩ := O.nums
        go_wp2_with fail
        go_ret
        exact ⟨_, rfl, by rw [HV.out]; exact O, b⟩
end Go.Proofs.Ytohjfjcpkloigaa

/- Contracts of the model's l16Block and l16Demand. -/

set_option linter.unusedVariables false
set_option linter.unusedSimpArgs false
set_option maxRecDepth 20000
namespace Go.Proofs.Ytohjfjcpkloigaa
open Go.RowKit

/-- spec.l1Max. -/
theorem l1MaxV (x y : Int) (w : World) : Calls Try.prog 71 #[.int .i64 x, .int .i64 y] w fun e w' => e = .returned (.int .i64 (max x y)) ∧ w = w' := by
  by_cases h : y < x
  · rw [show max x y = x by omega]; exact maxGt x y w h
  · rw [show max x y = y by omega]; exact maxLe x y w h
set_option maxHeartbeats 4000000 in
/-- spec.l16Block. -/
theorem specBlockN (a : Option Addr) (T : List Ms) (c i : Nat) (w : World) (hd : Tbl a T w) (hi : i < T.length) (hl : T.length ≤ 12) (hT : T.all mgOk = true) :
    Calls Try.prog 61 #[.slice a T.length c, .int .i64 (i : Int)] w fun e w' => e = .returned (.int .i64 (blockN T i T.length)) ∧ Below w.heap.size w w' := by
  go_enter Try.func61, Try.ntmps61
  replace hT := Lib.hid hT
  have hiI : (i : Int) < T.length := by omega
  go_wp2_with fail
  go_loopw [5, 6] (fun n k wr => ∃ j : Nat, j ≤ T.length ∧ k = .int .i64 j ∧ n = .int .i64 (blockN T i j) ∧ Below w.heap.size w wr) (fun _ k _ => T.length - (intOf k).toNat)
  case atStart => exact ⟨0, Nat.zero_le _, rfl, rfl, Below.refl _ _⟩
  case round =>
    obtain ⟨j, hj, rfl, rfl, b⟩ := hrel
    by_cases hlt : j < T.length
    · obtain ⟨g, o, rfl, hc⟩ := (hd.below b).2 j hlt
      obtain ⟨g', o', hao, d0, _⟩ := (hd.below b).2 i hi
      cases hao
      have hok := allM_at hT.out hlt
      have hsz := (mgOk_iff.1 hok).2.1
      have HC := fun w => specCostOf (nthTb T j) w (Go.WalkArith.wf_i64 ⟨by omega, by omega⟩)
      have hnx := Lib.hid (show blockN T i (j + 1) = if (nthTb T i).id < (nthTb T j).id then max (blockN T i j) (costV (nthTb T j)) else blockN T i j from rfl)
      clear hok hsz
      generalize nthTb T j = m at *
      generalize costV m = cc at *
      generalize (nthTb T i).id = v' at *
      generalize blockN T i j = nn at *
      obtain ⟨id, sz, pe, ji, de, no⟩ := m
      dsimp only at *
      obtain ⟨c0, c1, c2, c3, c4, c5⟩ := hc
      have hltI : (j : Int) < T.length := by omega
      by_cases he : v' < id
      · have hnx := Lib.hid (hnx.out.trans (if_pos he))
        go_wp2_with fail
        go_quiet (fail)
        replace b := belowN b nq
        go_wp2_with fail
        refine (HC _).mono ?_
        rintro e w2 ⟨rfl, b2⟩
        go_wp2_with fail
        refine (l1MaxV nn cc _).mono ?_
        rintro e w3 ⟨rfl, rfl⟩
        replace b := Below.then2 b b2
        clear HC c0 c1 c2 c3 c4 c5 d0
        go_wp2_with fail
        go_roundw
        case rel => exact ⟨j + 1, by omega, by go_num, by rw [hnx.out], b⟩
        case measure => simp [intOf]; omega
      · have hnx := Lib.hid (hnx.out.trans (if_neg he))
        go_wp2_with fail
        go_quiet (fail)
        go_wp2_with fail
        go_roundw
        case rel => exact ⟨j + 1, by omega, by go_num, by rw [hnx.out], belowN b _⟩
        case measure => simp [intOf]; omega
    · obtain rfl : j = T.length := by omega
      go_wp2_with fail
      go_ret
      exact ⟨rfl, b⟩
section
variable {act : Act} {o : Oper} {x : Operand} {w : World}
theorem mgTook {m : Ms} {g : Nat} {T : TypeId} (h : w.heap[g]? = some (.cells (mgC m) T (0, 0))) (ho : o.op = .load 31 x) (hx : act.eval x = .pointer (some ⟨g, 0, none⟩)) : (execOp act.eval o).run Try.prog w = .ok (.value (mgV m)) w := by
  unfold execOp
  simp only [ho, hx, Instr.loadAt, Instr.sureAddr, Sem.run_bind, Sem.run_pure, Result.andThen_ok, run_loadVar_row w g T 31 (mgC m) (0, 0) _ h Try.underlying31 rfl (by kernel_rfl)]
end
set_option maxHeartbeats 8000000 in
/-- spec.l16Demand. -/
theorem specDemandN (a al : Option Addr) (T : List Ms) (L : List Int) (c cl : Nat) (t : Int) (w : World) (hd : Tbl a T w) (hn : Nums al L w) (hp : placesOk T L) (hL : L.length ≤ 2000000) (hl : T.length ≤ 12) (hT : T.all mgOk = true) (ht : 0 ≤ t ∧ t ≤ 200000) :
    Calls Try.prog 68 #[.slice a T.length c, .slice al L.length cl, .int .i64 t] w fun e w' => e = .returned (.int .i64 (demK T L t L.length)) ∧ Below w.heap.size w w' := by
  go_enter Try.func68, Try.ntmps68
  replace hT := Lib.hid hT
  replace hp := Lib.hid hp
  go_wp2_with fail
  go_loopw [7, 8] (fun n k wr => ∃ j : Nat, j ≤ L.length ∧ k = .int .i64 j ∧ n = .int .i64 (demK T L t j) ∧ Below w.heap.size w wr) (fun _ k _ => L.length - (intOf k).toNat)
  case atStart => exact ⟨0, Nat.zero_le _, rfl, rfl, Below.refl _ _⟩
  case round =>
    obtain ⟨j, hj, rfl, rfl, b⟩ := hrel
    by_cases hlt : j < L.length
    · obtain ⟨gl, ol, rfl, l0⟩ := (hn.below b).2.2 j hlt
      have hpj := hp.out j hlt
      have hnx := Lib.hid (show demK T L t (j + 1) = demK T L t j + upV (t + (nthTb T (L.getD j 0).toNat).ji) (nthTb T (L.getD j 0).toNat).pe * costV (nthTb T (L.getD j 0).toNat) from rfl)
      have hbd := demK_bd hT.out hp.out ht.1 j (by omega)
      replace l0 : wr.cell? ⟨gl, ol + j, none⟩ = some (.int .i64 (L.getD j 0)) := l0
      generalize L.getD j 0 = q at *
      obtain ⟨p, rfl⟩ : ∃ p : Nat, q = (p : Int) := ⟨q.toNat, by omega⟩
      simp only [Int.toNat_natCast] at hnx
      have hpl : p < T.length := by omega
      obtain ⟨g, o, rfl, hc⟩ := (hd.below b).2 p hpl
      have hok := allM_at hT.out hpl
      obtain ⟨_, hsz, hpe, hji, _, _⟩ := mgOk_iff.1 hok
      have hcc := costV_ok hok
      have HC := fun w => specCostOf (nthTb T p) w (Go.WalkArith.wf_i64 ⟨by omega, by omega⟩)
      have HU := fun w => specUp (t + (nthTb T p).ji) (nthTb T p).pe w (by omega) (by omega) hpe.1 (by omega)
      have hup := upV_le (a := t + (nthTb T p).ji) (b := (nthTb T p).pe) (c := 220000) (by omega) hpe.1 (by omega)
      have hml : 0 ≤ upV (t + (nthTb T p).ji) (nthTb T p).pe * costV (nthTb T p) ∧ upV (t + (nthTb T p).ji) (nthTb T p).pe * costV (nthTb T p) ≤ 220000 * 135 :=
        ⟨Int.mul_nonneg hup.1 (by omega), Int.mul_le_mul hup.2 hcc.2 (by omega) (by omega)⟩
      have hnb : 0 ≤ demK T L t j ∧ demK T L t j ≤ 59400000000000 := ⟨hbd.1, by
        have h1 : (j : Int) * ((t + 20000) * 135) ≤ 2000000 * (220000 * 135) := Int.mul_le_mul (by omega) (by omega) (by omega) (by omega)
        omega⟩
      clear hbd hok
      generalize nthTb T p = m at *
      generalize costV m = cc at *
      obtain ⟨id, sz, pe, ji, de, no⟩ := m
      dsimp only at *
      generalize upV (t + ji) pe = uu at *
      generalize demK T L t j = nn at *
      obtain ⟨c0, c1, c2, c3, c4, c5⟩ := hc
      have hltI : (j : Int) < L.length := by omega
      have hplI : (p : Int) < T.length := by omega
      have wr1 : IntKind.i64.wrap (t + ji) = t + ji := by rw [IntKind.wrap_i64]; omega
      have wr2 : IntKind.i64.wrap (uu * cc) = uu * cc := by rw [IntKind.wrap_i64]; omega
      have wr3 : IntKind.i64.wrap (nn + uu * cc) = nn + uu * cc := by rw [IntKind.wrap_i64]; omega
      have HM := heap_alloc_new wr (.cells (mgC ⟨id, sz, pe, ji, de, no⟩) 31)
      have b2 := below_more b (.cells (mgC ⟨id, sz, pe, ji, de, no⟩) 31)
      go_upto_region 6 with fail
      generalize wr.alloc _ = W at HM b2 ⊢
      generalize wr.heap.size = gm at HM ⊢
      clear c0 c1 c2 c3 c4 c5 l0 b
      refine region_class (fun u => u.heap[gm]? = some (.cells (mgC ⟨id, sz, pe, ji, de, no⟩) 31 (0, 0)) ∧ Below w.heap.size w u) (by kernel_rfl) (by kernel_rfl) ⟨HM, b2.drew⟩ ?_
      clear HM b2
      repeat first
        | go_big_quiet_skip
        | (go_big_quiet_want
           apply Exists.intro
           refine ⟨fun u hu => ?_, ?_⟩
           · exact quietAt_val (mgTook hu.1 rfl rfl)
           simp only [Act.put, List.setIfInBounds_toArray, List.set_cons_zero, List.set_cons_succ]
           go_big_quiet_on)
        | (go_big_quiet_want
           apply Exists.intro
           refine ⟨fun u hu => ?_, ?_⟩
           · apply quietAt_val
             have e2 := cell_of_row u gm 2 _ _ _ hu.1
             have e3 := cell_of_row u gm 3 _ _ _ hu.1
             go_simp
             rfl
           simp only [Act.put, List.setIfInBounds_toArray, List.set_cons_zero, List.set_cons_succ]
           go_big_quiet_on)
        | (go_big_quiet_want
           apply Exists.intro
           refine ⟨fun u hu => ?_, ?_⟩
           · apply quietAt_enter 72 #[mgV ⟨id, sz, pe, ji, de, no⟩]
             · go_simp
             · refine (HC u).mono ?_
               rintro e w2 ⟨rfl, b2⟩
               exact ⟨rfl, (b2.block gm (Array.getElem?_eq_some_iff.1 hu.1).1).trans hu.1, Below.then2 hu.2 b2⟩
           simp only [Act.put, List.setIfInBounds_toArray, List.set_cons_zero, List.set_cons_succ]
           go_big_quiet_on)
        | (go_big_quiet_want
           apply Exists.intro
           refine ⟨fun u hu => ?_, ?_⟩
           · apply quietAt_enter 63 #[.int .i64 (t + ji), .int .i64 pe]
             · go_simp
             · refine (HU u).mono ?_
               rintro e w2 ⟨rfl, rfl⟩
               exact ⟨rfl, hu⟩
           simp only [Act.put, List.setIfInBounds_toArray, List.set_cons_zero, List.set_cons_succ]
           go_big_quiet_on)
      refine wpQuiet_nil ?_
      intro W2 L2
      have b := L2.2
      clear L2 HC HU
      go_wp2_with fail
      go_roundw
      case rel => exact ⟨j + 1, by omega, by go_num, by rw [hnx.out], b⟩
      case measure => simp [intOf]; omega
    · obtain rfl : j = L.length := by omega
      go_wp2_with fail
      go_ret
      exact ⟨rfl, b⟩
end Go.Proofs.Ytohjfjcpkloigaa

/- slices.Sort of at most 12 numbers (the library's insertion sort, walked), slices.Sorted. -/

set_option linter.unusedVariables false
set_option linter.unusedSimpArgs false
set_option maxRecDepth 20000
namespace Go.Proofs.Ytohjfjcpkloigaa
open Go.RowKit

/-- The pairs up to place i are in order but those whose latter is place j. -/
def OrdBut (X : List Int) (i j : Nat) : Prop := ∀ p q, p < q → q ≤ i → q ≠ j → nth X p ≤ nth X q
def OrdTo (X : List Int) (i : Nat) : Prop := ∀ p q, p < q → q < i → nth X p ≤ nth X q
/-- Places p and p + 1 change. -/
def swapL (X : List Int) (p : Nat) : List Int := (X.set (p + 1) (nth X p)).set p (nth X (p + 1))
theorem swapL_len (X : List Int) (p : Nat) : (swapL X p).length = X.length := by simp [swapL]
theorem swapL_at {X : List Int} {p : Nat} (h : p + 1 < X.length) (q : Nat) : nth (swapL X p) q = if q = p then nth X (p + 1) else if q = p + 1 then nth X p else nth X q := by
  simp only [swapL, nth, List.getD_eq_getElem?_getD]
  rw [List.getElem?_set, List.getElem?_set]
  by_cases h1 : q = p
  · subst h1
    simp [show q < X.length by omega]
  · rw [if_neg (fun e => h1 e.symm), if_neg h1]
    by_cases h2 : q = p + 1
    · subst h2
      simp [h]
    · rw [if_neg (fun e => h2 e.symm), if_neg h2]
theorem nth_get {X : List Int} {p : Nat} (h : p < X.length) : nth X p = X[p] := by simp [nth, List.getD_eq_getElem?_getD, h]
theorem swapL_perm {X : List Int} {p : Nat} (h : p + 1 < X.length) : (swapL X p).Perm X := by
  rw [swapL, nth_get h, nth_get (show p < X.length by omega)]
  exact List.set_set_perm h (by omega)
theorem OrdBut.start {X : List Int} {i : Nat} (h : OrdTo X i) : OrdBut X i i := fun p q h1 h2 h3 => h p q h1 (by omega)
theorem OrdBut.stop0 {X : List Int} {i : Nat} (h : OrdBut X i 0) : OrdTo X (i + 1) := fun p q h1 h2 => h p q h1 (by omega) (by omega)
theorem OrdBut.stop {X : List Int} {i p : Nat} (h : OrdBut X i (p + 1)) (hp : p + 1 ≤ i) (hl : ¬ nth X (p + 1) < nth X p) : OrdTo X (i + 1) := fun a q h1 h2 => by
  by_cases e : q = p + 1
  · subst e
    by_cases e2 : a = p
    · subst e2; omega
    · have := h a p (by omega) (by omega) (by omega)
      omega
  · exact h a q h1 (by omega) e
theorem OrdBut.step {X : List Int} {i p : Nat} (h : OrdBut X i (p + 1)) (hp : p + 1 ≤ i) (hi : i < X.length) (hl : nth X (p + 1) < nth X p) : OrdBut (swapL X p) i p := fun a q h1 h2 h3 => by
  rw [swapL_at (by omega), swapL_at (by omega), if_neg h3]
  by_cases e : q = p + 1
  · rw [if_pos e]
    by_cases e2 : a = p
    · rw [if_pos e2]; omega
    · rw [if_neg e2, if_neg (by omega)]
      exact h a p (by omega) (by omega) (by omega)
  · rw [if_neg e]
    by_cases e2 : a = p
    · rw [if_pos e2]
      exact h (p + 1) q (by omega) h2 e
    · rw [if_neg e2]
      by_cases e3 : a = p + 1
      · rw [if_pos e3]
        exact h p q (by omega) h2 e
      · rw [if_neg e3]
        exact h a q h1 h2 e

/-- Block G holds the numbers X, from place 0 on. -/
structure RowI (G : Nat) (X : List Int) (cur : Array Value) (w : World) : Prop where
  blk : w.heap[G]? = some (.cells cur 2 (0, 0))
  le : X.length ≤ cur.size
  fr : ∀ j, j < X.length → cur[j]? = some (.int .i64 (nth X j))
section
variable {G : Nat} {X : List Int} {cur : Array Value} {w w' : World}
theorem RowI.lt (h : RowI G X cur w) : G < w.heap.size := (Array.getElem?_eq_some_iff.1 h.blk).1
theorem RowI.cell (h : RowI G X cur w) {j : Nat} (hj : j < X.length) : w.cell? ⟨G, j, none⟩ = some (.int .i64 (nth X j)) := (cell_of_row w G j _ _ _ h.blk).trans (h.fr j hj)
theorem RowI.free (h : RowI G X cur w) (j : Nat) : w.frozen? ⟨G, j, none⟩ = false := frozen_of_row w G j _ _ h.blk
theorem RowI.swap (h : RowI G X cur w) {p : Nat} (hp : p + 1 < X.length) : ∃ cur', cur'.size = cur.size ∧ RowI G (swapL X p) cur' ((w.setCell ⟨G, p + 1, none⟩ (.int .i64 (nth X p))).setCell ⟨G, p, none⟩ (.int .i64 (nth X (p + 1)))) := by
  have hl := h.le
  refine ⟨_, ?_, heap_setCell_same _ _ _ _ _ _ (heap_setCell_same _ _ _ _ _ _ h.blk), by simp [swapL_len]; omega, fun j hj => ?_⟩
  · simp
  · rw [swapL_len] at hj
    rw [swapL_at hp]
    by_cases e : j = p
    · subst e
      simp [Array.getElem?_setIfInBounds, show j < cur.size by omega]
    · by_cases e2 : j = p + 1
      · subst e2
        simp [Array.getElem?_setIfInBounds, show p + 1 < cur.size by omega]
      · rw [if_neg e, if_neg e2]
        simp only [Array.getElem?_setIfInBounds]
        rw [if_neg (by omega), if_neg (by omega)]
        exact h.fr j hj
end

theorem isNaN (x : Int) (w : World) : Calls Try.prog 109 #[.int .i64 x] w fun e w' => e = .returned (.bool false) ∧ w = w' := by
  have hb : (!(x == x)) = false := by simp
  go_enter Try.func109, Try.ntmps109
  go_wp2_with fail
  go_ret
  exact ⟨rfl, rfl⟩
theorem cmpLess (x y : Int) (w : World) : Calls Try.prog 99 #[.int .i64 x, .int .i64 y] w fun e w' => e = .returned (.bool (decide (x < y))) ∧ w = w' := by
  go_enter Try.func99, Try.ntmps99
  go_wp2_with fail
  refine (isNaN _ _).mono ?_
  rintro e w1 ⟨rfl, rfl⟩
  go_wp2_with fail
  go_ret
  exact ⟨rfl, rfl⟩
set_option maxHeartbeats 1000000 in
/-- slices.insertionSortOrdered, from 0 on. -/
theorem insSort (G c : Nat) (X : List Int) (cur : Array Value) (w : World) (h : RowI G X cur w) (hm : X.length ≤ 1000000) :
    Calls Try.prog 93 #[.slice (some ⟨G, 0, none⟩) X.length c, .int .i64 0, .int .i64 X.length] w fun e w' => e = .returned (.tuple #[]) ∧
      ∃ Y cur', Y.Perm X ∧ cur'.size = cur.size ∧ OrdTo Y X.length ∧ RowI G Y cur' w' ∧ w.grownBy w' (some G) := by
  go_enter Try.func93, Try.ntmps93
  go_wp2_with fail
  go_loopw [6] (fun i wr => ∃ (k : Nat) (Y : List Int) (cur' : Array Value), 1 ≤ k ∧ (k ≤ X.length ∨ k = 1) ∧ i = .int .i64 k ∧ Y.Perm X ∧ cur'.size = cur.size ∧ OrdTo Y k ∧ RowI G Y cur' wr ∧ w.grownBy wr (some G)) (fun i _ => X.length - (intOf i).toNat)
  case atStart => exact ⟨1, X, cur, Nat.le_refl _, .inr rfl, rfl, List.Perm.refl _, rfl, fun p q h1 h2 => by omega, h, grown_refl _ _⟩
  case round =>
    obtain ⟨k, Y, cur1, hk1, hk, rfl, hp, hs, ho, R, g⟩ := hrel
    have hlen := hp.length_eq
    by_cases hlt : k < X.length
    · go_wp2_with fail
      go_loopw [7] (fun i wr2 => ∃ (j : Nat) (Z : List Int) (cur' : Array Value), j ≤ k ∧ i = .int .i64 j ∧ Z.Perm X ∧ cur'.size = cur.size ∧ OrdBut Z k j ∧ RowI G Z cur' wr2 ∧ w.grownBy wr2 (some G)) (fun i _ => (intOf i).toNat)
      case atStart => exact ⟨k, Y, cur1, Nat.le_refl _, rfl, hp, hs, OrdBut.start ho, R, g⟩
      case round =>
        clear R g ho hp hs hlen
        obtain ⟨j, Z, cur2, hj, rfl, hp, hs, ho, R, g⟩ := hrel
        have hlen := hp.length_eq
        replace hp := Lib.hid hp
        replace hs := Lib.hid hs
        by_cases h0 : j = 0
        · subst h0
          have ho2 := Lib.hid (OrdBut.stop0 ho)
          clear ho
          go_wp2_with fail
          go_quiet (fail)
          have R2 : RowI G Z cur2 (wr.drewN nq) := ⟨R.blk, R.le, R.fr⟩
          have g2 := grown_trans g (grown_drewN wr nq (some G))
          clear R g
          generalize wr.drewN nq = w3 at *
          go_wp2_with fail
          go_roundw
          case rel => exact ⟨k + 1, Z, cur2, by omega, .inl (by omega), by go_num, hp.out, hs.out, ho2.out, R2, g2⟩
          case measure => simp [intOf]; omega
        · obtain ⟨p, hjp⟩ : ∃ p, j = p + 1 := ⟨j - 1, by omega⟩
          have hpos : 0 < j := by omega
          have hi2 : (j : Int) - 1 = (p : Int) := by omega
          have hi1 : IntKind.i64.wrap (p : Int) = (p : Int) := IntWalk.i64_in _ (by omega)
          have hi3 : IntKind.i64.wrap ((j : Int) - 1) = (p : Int) := by rw [hi2]; exact hi1
          have hpl : p < X.length := by omega
          have hjl : j < X.length := by omega
          have hb1 := Lib.hid (show nth Z j = nth Z (p + 1) by rw [hjp])
          have hZ1 : j < Z.length := by omega
          have hZ0 : p < Z.length := by omega
          replace hjp := Lib.hid hjp
          clear h0
          go_wp2_with fail
          refine region_class (fun u => RowI G Z cur2 u ∧ w.grownBy u (some G)) (by kernel_rfl) (by kernel_rfl) ⟨⟨R.blk, R.le, R.fr⟩, grown_drew g⟩ ?_
          clear R g
          repeat first
            | go_big_quiet_skip
            | (go_big_quiet_want
               apply Exists.intro
               refine ⟨fun u hu => ?_, ?_⟩
               · apply quietAt_val
                 have hc1 := hu.1.cell hZ1
                 have hc0 := hu.1.cell hZ0
                 go_simp
                 rfl
               simp only [Act.put, List.setIfInBounds_toArray, List.set_cons_zero, List.set_cons_succ]
               go_big_quiet_on)
            | (go_big_quiet_want
               apply Exists.intro
               refine ⟨fun u hu => ?_, ?_⟩
               · apply quietAt_enter 99 #[.int .i64 (nth Z j), .int .i64 (nth Z p)]
                 · go_simp
                 · refine (cmpLess (nth Z j) (nth Z p) u).mono ?_
                   rintro e w2 ⟨rfl, rfl⟩
                   exact ⟨rfl, hu⟩
               simp only [Act.put, List.setIfInBounds_toArray, List.set_cons_zero, List.set_cons_succ]
               go_big_quiet_on)
          refine wpQuiet_nil ?_
          intro W2 L2
          obtain ⟨R, g⟩ := L2
          by_cases hl : nth Z j < nth Z p
          · have hst := Lib.hid (show OrdBut (swapL Z p) k p from by
              have hl' := hl
              rw [hb1.out] at hl'
              have ho' := ho
              rw [hjp.out] at ho'
              exact ho'.step (by have := hjp.out; omega) (by omega) hl')
            have hpm := Lib.hid ((swapL_perm (X := Z) (p := p) (by have := hjp.out; omega)).trans hp.out)
            have hsw := Lib.hid (show ∃ cur', cur'.size = cur2.size ∧ RowI G (swapL Z p) cur' ((W2.setCell ⟨G, j, none⟩ (.int .i64 (nth Z p))).setCell ⟨G, p, none⟩ (.int .i64 (nth Z j))) from by
              rw [hb1.out, hjp.out]
              exact R.swap (p := p) (by have := hjp.out; omega))
            have gsw := Lib.hid (show w.grownBy ((W2.setCell ⟨G, j, none⟩ (.int .i64 (nth Z p))).setCell ⟨G, p, none⟩ (.int .i64 (nth Z j))) (some G) from grown_trans g (grown_trans (grown_set _ _ _ _) (grown_set _ _ _ _)))
            have hpk : p < j := by have := hjp.out; omega
            have hc1 := R.cell hZ1
            have hc0 := R.cell hZ0
            have z1 := R.free j
            have z0 := R.free p
            clear ho hp
            go_wp2_with fail
            go_region
            all_goals
              go_wp2_with fail
              obtain ⟨cur3, e3, R3⟩ := hsw.out
              go_roundw
              case rel => exact ⟨p, swapL Z p, cur3, by omega, by go_num, hpm.out, e3.trans hs.out, hst.out, ⟨R3.blk, R3.le, R3.fr⟩, gsw.out.os, gsw.out.tape, gsw.out.output, gsw.out.size, gsw.out.block⟩
              case measure => simp [intOf]; omega
          · have ho2 := Lib.hid (show OrdTo Z (k + 1) from by
              rw [hb1.out] at hl
              rw [hjp.out] at ho
              exact ho.stop (by have := hjp.out; omega) hl)
            clear ho
            go_wp2_with fail
            go_roundw
            case rel => exact ⟨k + 1, Z, cur2, by omega, .inl (by omega), by go_num, hp.out, hs.out, ho2.out, R, g⟩
            case measure => simp [intOf]; omega
    · have e : k = X.length ∨ X.length = 0 := by omega
      have ho2 : OrdTo Y X.length := fun p q h1 h2 => ho p q h1 (by omega)
      clear ho
      replace hp := Lib.hid hp
      replace hs := Lib.hid hs
      replace ho2 := Lib.hid ho2
      go_wp2_with fail
      go_end0
      exact ⟨rfl, Y, cur1, hp.out, hs.out, ho2.out, R, g⟩
end Go.Proofs.Ytohjfjcpkloigaa

/- Contracts of the model's draws of frames (l4Draw, l4DrawAny): each answers some frame whose row is its own, and writes into nothing that was there but the cursor. -/

set_option linter.unusedSimpArgs false
set_option linter.unusedVariables false
set_option maxRecDepth 20000
namespace Go.Proofs.Ytohjfjcpkloigaa
open Go.RowKit

/-- What a draw of a frame leaves. -/
def Drawn (B p : Nat) (a : Option Addr) (len cap : Nat) (N : Nat) (w : World) (e : Ending) (w' : World) : Prop :=
  ∃ (id : Int) (rm : Bool) (ln : Int) (D : List Int) (v : Value), e = .returned (.agg #[.int .i64 id, .bool rm, .int .i64 ln, v]) ∧ OwnI w.heap.size D v w' ∧ D.length ≤ N ∧ (Lit.int .i64 id).wf = true ∧ (Lit.int .i64 ln).wf = true ∧ w.grownBy w' (some p) ∧ St B p a len cap w'

/-- What a draw of a right frame leaves. -/
def DrawnOk (B p : Nat) (a : Option Addr) (len cap : Nat) (w : World) (e : Ending) (w' : World) : Prop :=
  ∃ (id : Int) (rm : Bool) (ln : Int) (D : List Int) (v : Value), e = .returned (.agg #[.int .i64 id, .bool rm, .int .i64 ln, v]) ∧ OwnI w.heap.size D v w' ∧ frOk id rm ln D = true ∧ w.grownBy w' (some p) ∧ St B p a len cap w'
theorem DrawnOk.drawn {B p : Nat} {a : Option Addr} {len cap : Nat} {w w' : World} {e : Ending} (h : DrawnOk B p a len cap w e w') : Drawn B p a len cap 8 w e w' := by
  obtain ⟨id, rm, ln, D, v, he, o, hok, g, s⟩ := h
  simp only [frOk, inR, Bool.and_eq_true, decide_eq_true_eq] at hok
  obtain ⟨⟨⟨⟨⟨h0, h1⟩, h2⟩, h3⟩, h4⟩, _⟩ := hok
  exact ⟨id, rm, ln, D, v, he, o, by split at h4 <;> omega, Go.WalkArith.wf_i64 ⟨by omega, by omega⟩, Go.WalkArith.wf_i64 ⟨by omega, by omega⟩, g, s⟩
end Go.Proofs.Ytohjfjcpkloigaa

/- Contract of the model's l4DrawAny: it answers some frame whose row is its own, and writes into nothing that was there but the cursor. -/

set_option linter.unusedSimpArgs false
set_option linter.unusedVariables false
set_option maxRecDepth 20000
namespace Go.Proofs.Ytohjfjcpkloigaa
open Go.RowKit

section
variable {Bn B p g : Nat} {a : Option Addr} {len cap : Nat} {D : List Int} {v : Value} {x0 x1 x2 x3 : Value} {w : World}
theorem OwnI.ne_cur (h : OwnI Bn D v w) (s : St B p a len cap w) : v.ownBlock ≠ some p := by
  rcases h.1.2 with ⟨rfl, _⟩ | ⟨g', cap', cur, rfl, _, hg, _⟩
  · simp [Value.ownBlock]
  · intro e
    simp only [Value.ownBlock, Option.some.injEq] at e
    subst e
    obtain ⟨⟨i, h', c⟩, _⟩ := s
    rw [c.block] at hg
    simp at hg
theorem OwnI.stay {w' : World} (h : OwnI Bn D v w) (k : w.grownBy w' none) : OwnI Bn D v w' := h.kept k (Classical.em _)
theorem OwnI.numsAt {av : Option Addr} {n cv : Nat} (h : OwnI Bn D (.slice av n cv) w) : n = D.length ∧ Nums av D w := by
  obtain ⟨a', c', e, k⟩ := h.nums
  simp only [Value.slice.injEq] at e
  obtain ⟨rfl, rfl, rfl⟩ := e
  exact ⟨rfl, k⟩
end

end Go.Proofs.Ytohjfjcpkloigaa

/- laws.toFrameS: a copy of a slice of frames, in a row of its own, each frame's data in a row of its own. -/

set_option maxRecDepth 20000
namespace Go.Proofs.Ytohjfjcpkloigaa
open Go.RowKit

theorem OwnI.made_row {D : List Int} (hw : ∀ x ∈ D, (Lit.int .i64 x).wf = true) (hm : D.length ≤ maxLen) (w1 : World) {B : Nat} (hB : B ≤ w1.heap.size) :
    OwnI B D (.slice (some ⟨w1.heap.size, 0, none⟩) D.length D.length) (w1.alloc (.cells (irow D.length fun j => nth D j) 2)) := by
  refine ⟨⟨by simp, .inr ⟨w1.heap.size, D.length, irow D.length fun j => nth D j, rfl, hB, heap_alloc_new _ _, Nat.le_refl _, hm, by simp [irow_size], ?_⟩⟩, hw⟩
  apply List.ext_getElem?
  intro j
  by_cases hj : j < D.length
  · simp [irow, hj, nth, List.getD_eq_getElem?_getD]
  · rw [List.getElem?_eq_none (by simp [irow]; omega), List.getElem?_eq_none (by simp; omega)]
theorem OwnI.made_at {D : List Int} {g : Nat} {B : Nat} {w1 : World} (hg : g = w1.heap.size) (hw : ∀ x ∈ D, (Lit.int .i64 x).wf = true) (hm : D.length ≤ maxLen) (hB : B ≤ w1.heap.size) :
    OwnI B D (.slice (some ⟨g, 0, none⟩) D.length D.length) (w1.alloc (.cells (irow D.length fun j => nth D j) 2)) := by
  subst hg; exact OwnI.made_row hw hm w1 hB
theorem ownInts_below {B : Nat} {D : List Int} {v : Value} {w w' : World} (h : OwnI B D v w) (b : Below w.heap.size w w') : OwnI B D v w' :=
  h.kept (row := none) ⟨b.os, b.tape, b.output, b.size, fun k hk _ => b.block k hk⟩ (by cases v.ownBlock <;> simp)


section
variable {G n k : Nat} {L : List Frm} {cur : Array Value} {w w' : World}
/-- The world behind the stores of frame k. -/
def putF (G k : Nat) (id : Int) (rm : Bool) (ln : Int) (dv : Value) (w : World) : World :=
  (((w.setCell ⟨G, k * 4, none⟩ (.int .i64 id)).setCell ⟨G, k * 4 + 1, none⟩ (.bool rm)).setCell ⟨G, k * 4 + 2, none⟩ (.int .i64 ln)).setCell ⟨G, k * 4 + 3, none⟩ dv
theorem putF_grown (G k : Nat) (id : Int) (rm : Bool) (ln : Int) (dv : Value) (w : World) : w.grownBy (putF G k id rm ln dv w) (some G) :=
  grown_trans (grown_trans (grown_trans (grown_set _ _ _ _) (grown_set _ _ _ _)) (grown_set _ _ _ _)) (grown_set _ _ _ _)
end

end Go.Proofs.Ytohjfjcpkloigaa

/- The model's draw of some frames (DrawWinnerOf): they stand in a row of the call's own, each one's data in a row of its own. -/

set_option linter.unusedVariables false
set_option maxRecDepth 20000
namespace Go.Proofs.Ytohjfjcpkloigaa
open Go.RowKit

def flatF (M : List (Frm × Value)) : List Value := M.flatMap fun f => [.int .i64 f.1.id, .bool f.1.rm, .int .i64 f.1.ln, f.2]
theorem flatF_app (M : List (Frm × Value)) (x : Frm × Value) : flatF (M ++ [x]) = flatF M ++ [.int .i64 x.1.id, .bool x.1.rm, .int .i64 x.1.ln, x.2] := by simp [flatF]
theorem flatF_at : ∀ (M : List (Frm × Value)) (j : Nat) (h : j < M.length), (flatF M)[j * 4]? = some (.int .i64 M[j].1.id) ∧ (flatF M)[j * 4 + 1]? = some (.bool M[j].1.rm) ∧ (flatF M)[j * 4 + 2]? = some (.int .i64 M[j].1.ln) ∧ (flatF M)[j * 4 + 3]? = some M[j].2 := by
  intro M
  induction M with
  | nil => intro j h; simp at h
  | cons m M ih =>
    intro j h
    cases j with
    | zero => exact ⟨rfl, rfl, rfl, rfl⟩
    | succ j =>
      have k := ih j (by simpa using h)
      have e1 : (j + 1) * 4 = j * 4 + 1 + 1 + 1 + 1 := by omega
      rw [e1]
      simpa [flatF] using k
section
variable {B : Nat} {M : List (Frm × Value)} {v : Value} {w w' : World}
end


end Go.Proofs.Ytohjfjcpkloigaa

/- Contract of the model's l16Busy. -/

set_option linter.unusedVariables false
set_option linter.unusedSimpArgs false
set_option maxRecDepth 20000
namespace Go.Proofs.Ytohjfjcpkloigaa
open Go.RowKit

theorem busyF_snoc (T : List Ms) (i : Nat) (t : Int) : busyF T i t = blockN T i T.length + demK T (highN T i T.length ++ [(i : Int)]) t (highN T i T.length ++ [(i : Int)]).length := by rw [demK_snoc, Int.toNat_natCast]; rfl
set_option maxHeartbeats 8000000 in
/-- spec.l16Busy. -/
theorem specBusyN (a : Option Addr) (T : List Ms) (c i : Nat) (w : World) (hd : Tbl a T w) (hi : i < T.length) (h0 : codeT T = 0) :
    Calls Try.prog 54 #[.slice a T.length c, .int .i64 (i : Int)] w fun e w' => e = .returned (.tuple #[.int .i64 (someR (busyV T i)).1, .bool (someR (busyV T i)).2]) ∧ Below w.heap.size w w' := by
  obtain ⟨hl, hT, -⟩ := codeT_iff.1 h0
  have hh : highV T (i : Int) = highN T i T.length := by
    rw [highV_yes (hasM_iff.2 ⟨h0, by omega, by omega⟩), Int.toNat_natCast]
  have H1 := Lib.hid (fun w h => specHigherOf a T c (i : Int) w h)
  rw [hh] at H1
  have hlen := highN_len T i T.length
  have hpl : placesOk T (highN T i T.length ++ [(i : Int)]) := placesOk_snoc (placesOk_high T i T.length (Nat.le_refl _)) (by omega) (by omega)
  have hF := Lib.hid (busyF_snoc T i)
  have hst := busyF_start hT hi
  have hup := Lib.hid (fun (t : Int) (h : t ≤ busyF T i t) => busyF_mono hT hi t (busyF T i t) h)
  have hfix : fixI (busyF T i) 100000 100002 (costV (nthTb T i)) = busyV T i := rfl
  have hK2 := Lib.hid (fun w h => specBlockN a T c i w h hi hl.2 hT)
  have hbk := blockN_bd T i T.length
  have hdb := Lib.hid (fun t (h : 0 ≤ t) => demK_bd hT hpl h _ (Nat.le_refl _))
  have hok := allM_at hT hi
  have hcc := costV_ok hok
  have hsz := (mgOk_iff.1 hok).2.1
  have HC := Lib.hid (fun w => specCostOf (nthTb T i) w (Go.WalkArith.wf_i64 ⟨by omega, by omega⟩))
  obtain ⟨BV, hBV⟩ : ∃ q, busyV T i = q := ⟨_, rfl⟩
  rw [hBV] at hfix ⊢
  clear hBV hh hok hsz
  have K3 := Lib.hid (fun al cl t w (hn : Nums al (highN T i T.length ++ [(i : Int)]) w) h ht => specDemandN a al T (highN T i T.length ++ [(i : Int)]) c cl t w h hn hpl (by simp; omega) hl.2 hT ht)
  replace hT := Lib.hid hT
  replace hpl := Lib.hid hpl
  have hd0 := hd
  go_enter Try.func54, Try.ntmps54
  go_wp2_with fail
  refine (H1.out _ hd).mono ?_
  rintro e w1 ⟨v, rfl, O, b⟩
  replace hd := hd.below b
  have hiw : (Lit.int .i64 (i : Int)).wf = true := Go.WalkArith.wf_i64 ⟨by omega, by omega⟩
  generalize hD : highN T i T.length = D at *
  obtain ⟨av, cv, rfl, _⟩ := O.nums
  have O2 := O.kept (World.grownBy_alloc w1 (.cells #[.int .i64 (i : Int)] 2) none) (Classical.em _)
  have b2 := below_more b (.cells #[.int .i64 (i : Int)] 2)
  have hB2 := b2.size
  have hDl : D.length ≤ 1000000 := by omega
  replace hd := hd.alloc (.cells #[.int .i64 (i : Int)] 2)
  have hbd1 : Below w1.heap.size w1 (w1.alloc (.cells #[.int .i64 (i : Int)] 2)) := below_more (Below.refl _ _) _
  go_upto_region 2 with (at_builtin; refine wpList_appI rfl _ _ rfl w.heap.size D (i : Int) _ rfl O2 w1.heap.size 1 rfl (World.cell?_alloc_at _ _ _ _ rfl) hiw hDl hB2 ?_; intro av2 cv2 w3 O3 g3)
  have b3 := b2.grown g3 b2.size (fun q e => by have := O2.low e; omega)
  have hd3 := hd0.below b3
  obtain ⟨hln, hn3⟩ := O3.numsAt
  rw [hln]
  clear O2 O3 O b2 g3 hd hbd1 b H1 hd0 hln hB2
  obtain ⟨g, o, rfl, hc⟩ := hd3.2 i hi
  obtain ⟨c0, c1, c2, c3, c4, c5⟩ := hc
  have hiI : (i : Int) < T.length := by omega
  generalize hB : busyF T i = F at *
  generalize blockN T i T.length = bk at *
  have hEl : (D ++ [(i : Int)]).length ≤ 13 := by simp; omega
  generalize D ++ [(i : Int)] = E at *
  generalize hmm : nthTb T i = m at *
  generalize costV m = cc at *
  obtain ⟨id, sz, pe, ji, de, no⟩ := m
  dsimp only at *
  go_wp2_with fail
  refine (HC.out _).mono ?_
  rintro e w4 ⟨rfl, b4⟩
  replace b3 := Below.then2 b3 b4
  replace hd3 := hd3.below b4
  replace hn3 := hn3.below b4
  clear b4 c0 c1 c2 c3 c4 c5 HC
  go_wp2_with fail
  go_loopw [7] (fun t wr => ∃ (tt : Int) (k : Nat), t = .int .i64 tt ∧ fixI F 100000 k tt = BV ∧ (100001 - tt).toNat < k ∧ 1 ≤ tt ∧ tt ≤ 300000000 ∧ tt ≤ F tt ∧ Below w4.heap.size w4 wr) (fun t _ => (100001 - Go.RowKit.intOf t).toNat)
  case atStart => exact ⟨cc, 100002, rfl, hfix, by omega, by omega, by omega, hst, Below.refl _ _⟩
  case round =>
    clear hst hfix
    obtain ⟨tt, k, rfl, hk, hkl, h1, h2, hle, q⟩ := hrel
    obtain ⟨k, rfl⟩ : ∃ k', k = k' + 1 := ⟨k - 1, by omega⟩
    by_cases hm : tt ≤ 100000
    · have hFt := hF.out tt
      have hdt := hdb.out tt (by omega)
      go_wp2_with fail
      refine (hK2.out _ (hd3.below q)).mono ?_
      rintro e w5 ⟨rfl, b5⟩
      replace q := Below.then2 q b5
      clear b5
      go_wp2_with fail
      refine (K3.out _ _ tt _ (hn3.below q) (hd3.below q) ⟨by omega, by omega⟩).mono ?_
      rintro e w6 ⟨rfl, b6⟩
      replace q := Below.then2 q b6
      clear b6
      have hE : (E.length : Int) * ((tt + 20000) * 135) ≤ 13 * (120000 * 135) := Int.mul_le_mul (by omega) (by omega) (by omega) (by omega)
      generalize demK T E tt E.length = dd at *
      have wr1 : IntKind.i64.wrap (bk + dd) = bk + dd := by rw [IntKind.wrap_i64]; omega
      by_cases he : F tt = tt
      · have hx : bk + dd = tt := by omega
        have hk' := hk.symm.trans (fixI_here hm he)
        go_wp2_with fail
        try rw [hk']
        exact bodyPost_ret (v := .tuple #[.int .i64 tt, .bool true]) (by simp [results, Try.results54, go_sem]) rfl ⟨rfl, b3.trans (q.mono b3.size)⟩
      · have hx : ¬ bk + dd = tt := by omega
        have hk' := (fixI_next hm he).symm.trans hk
        have hup' := hup.out tt hle
        have hgt : tt < F tt := by omega
        go_wp2_with fail
        go_roundw
        case rel => exact ⟨F tt, k, by rw [hFt], hk', by omega, by omega, by omega, hup', q⟩
        case measure => simp [Go.RowKit.intOf]; omega
    · have hk' := hk.symm.trans (fixI_over hm)
      go_wp2_with fail
      try rw [hk']
      exact bodyPost_ret (v := .tuple #[.int .i64 0, .bool false]) (by simp [results, Try.results54, go_sem]) rfl ⟨rfl, b3.trans (q.mono b3.size)⟩
end Go.Proofs.Ytohjfjcpkloigaa

/- Contract of the model's l16Wait. -/

set_option linter.unusedVariables false
set_option linter.unusedSimpArgs false
set_option maxRecDepth 20000
namespace Go.Proofs.Ytohjfjcpkloigaa
open Go.RowKit

set_option maxHeartbeats 8000000 in
/-- spec.l16Wait. -/
theorem specWaitN (a : Option Addr) (T : List Ms) (c i : Nat) (q : Int) (w : World) (hd : Tbl a T w) (hi : i < T.length) (h0 : codeT T = 0) (hq : 0 ≤ q ∧ q ≤ 200000) :
    Calls Try.prog 59 #[.slice a T.length c, .int .i64 (i : Int), .int .i64 q] w fun e w' => e = .returned (.tuple #[.int .i64 (someR (waitV T i q)).1, .bool (someR (waitV T i q)).2]) ∧ Below w.heap.size w w' := by
  obtain ⟨hl, hT, -⟩ := codeT_iff.1 h0
  have hh : highV T (i : Int) = highN T i T.length := by
    rw [highV_yes (hasM_iff.2 ⟨h0, by omega, by omega⟩), Int.toNat_natCast]
  have H1 := Lib.hid (fun w h => specHigherOf a T c (i : Int) w h)
  rw [hh] at H1
  have hlen := highN_len T i T.length
  have hpl : placesOk T (highN T i T.length) := placesOk_high T i T.length (Nat.le_refl _)
  have hF := Lib.hid (show ∀ t, waitF T i q t = waitB T i q + demK T (highN T i T.length) (t + 1) (highN T i T.length).length from fun _ => rfl)
  have hst := waitF_start hT hi hq.1
  have hup := Lib.hid (fun (t : Int) (h : t ≤ waitF T i q t) => waitF_mono (i := i) hT q t (waitF T i q t) h)
  have hfix : fixI (waitF T i q) 99999 100002 (waitB T i q) = waitV T i q := rfl
  have hB0 := Lib.hid (show waitB T i q = blockN T i T.length + q * costV (nthTb T i) from rfl)
  have hK2 := Lib.hid (fun w h => specBlockN a T c i w h hi hl.2 hT)
  have hbk := blockN_bd T i T.length
  have hdb := Lib.hid (fun t (h : 0 ≤ t) => demK_bd hT hpl h _ (Nat.le_refl _))
  have hok := allM_at hT hi
  have hcc := costV_ok hok
  have hsz := (mgOk_iff.1 hok).2.1
  have HC := Lib.hid (fun w => specCostOf (nthTb T i) w (Go.WalkArith.wf_i64 ⟨by omega, by omega⟩))
  have hqc : 0 ≤ q * costV (nthTb T i) ∧ q * costV (nthTb T i) ≤ 200000 * 135 := ⟨Int.mul_nonneg hq.1 (by omega), Int.mul_le_mul hq.2 hcc.2 (by omega) (by omega)⟩
  obtain ⟨BV, hBV⟩ : ∃ r, waitV T i q = r := ⟨_, rfl⟩
  rw [hBV] at hfix ⊢
  clear hBV hh hok hsz
  have K3 := Lib.hid (fun al cl t w (hn : Nums al (highN T i T.length) w) h ht => specDemandN a al T (highN T i T.length) c cl t w h hn hpl (by omega) hl.2 hT ht)
  have hEl : (highN T i T.length).length ≤ 12 := by omega
  replace hT := Lib.hid hT
  replace hpl := Lib.hid hpl
  go_enter Try.func59, Try.ntmps59
  obtain ⟨g, o, rfl, hc⟩ := hd.2 i hi
  have hiI : (i : Int) < T.length := by omega
  generalize hB : waitF T i q = F at *
  generalize waitB T i q = bs at *
  generalize blockN T i T.length = bk at *
  generalize highN T i T.length = E at *
  generalize nthTb T i = m at *
  generalize costV m = cc at *
  obtain ⟨id, sz, pe, ji, de, no⟩ := m
  try dsimp only at *
  have wr1 : IntKind.i64.wrap (q * cc) = q * cc := by rw [IntKind.wrap_i64]; omega
  have wr2 : IntKind.i64.wrap (bk + q * cc) = bk + q * cc := by rw [IntKind.wrap_i64]; omega
  go_upto_region 1 with fail
  refine region_class (fun u => MsC g (o + i * 6) ⟨id, sz, pe, ji, de, no⟩ u ∧ Below w.heap.size w u) (by kernel_rfl) (by kernel_rfl) ⟨hc, (Below.refl w.heap.size w).drew⟩ ?_
  clear hc
  repeat first
    | go_big_quiet_skip
    | (go_big_quiet_want
       apply Exists.intro
       refine ⟨fun u hu => ?_, ?_⟩
       · apply quietAt_val
         obtain ⟨⟨c0, c1, c2, c3, c4, c5⟩, _⟩ := hu
         go_simp
         rfl
       simp only [Act.put, List.setIfInBounds_toArray, List.set_cons_zero, List.set_cons_succ]
       go_big_quiet_on)
    | (go_big_quiet_want
       apply Exists.intro
       refine ⟨fun u hu => ?_, ?_⟩
       · apply quietAt_enter 72 #[mgV ⟨id, sz, pe, ji, de, no⟩]
         · go_simp
         · refine (HC.out u).mono ?_
           rintro e w2 ⟨rfl, b2⟩
           exact ⟨rfl, hu.1.below b2 hu.1.lt, Below.then2 hu.2 b2⟩
       simp only [Act.put, List.setIfInBounds_toArray, List.set_cons_zero, List.set_cons_succ]
       go_big_quiet_on)
    | (go_big_quiet_want
       apply Exists.intro
       refine ⟨fun u hu => ?_, ?_⟩
       · apply quietAt_enter 61 #[.slice (some ⟨g, o, none⟩) T.length c, .int .i64 (i : Int)]
         · go_simp
         · refine (hK2.out u (hd.below hu.2)).mono ?_
           rintro e w2 ⟨rfl, b2⟩
           exact ⟨rfl, hu.1.below b2 hu.1.lt, Below.then2 hu.2 b2⟩
       simp only [Act.put, List.setIfInBounds_toArray, List.set_cons_zero, List.set_cons_succ]
       go_big_quiet_on)
  refine wpQuiet_nil ?_
  intro w1 L2
  have b := L2.2
  clear L2 HC hK2
  rw [← hB0.out]
  go_wp2_with fail
  refine (H1.out _ (hd.below b)).mono ?_
  rintro e w3 ⟨v, rfl, O, b3⟩
  obtain ⟨av, cv, rfl, hn3⟩ := O.nums
  replace b := Below.then2 b b3
  have hd3 := hd.below b
  clear b3 O H1 hd
  go_wp2_with fail
  go_loopw [10] (fun t wr => ∃ (tt : Int) (k : Nat), t = .int .i64 tt ∧ fixI F 99999 k tt = BV ∧ (100000 - tt).toNat < k ∧ 0 ≤ tt ∧ tt ≤ 300000000 ∧ tt ≤ F tt ∧ Below w3.heap.size w3 wr) (fun t _ => (100000 - Go.RowKit.intOf t).toNat)
  case atStart => exact ⟨bs, 100002, rfl, hfix, by have := hB0.out; omega, by have := hB0.out; omega, by have := hB0.out; omega, hst, Below.refl _ _⟩
  case round =>
    clear hst hfix
    obtain ⟨tt, k, rfl, hk, hkl, h1, h2, hle, p⟩ := hrel
    obtain ⟨k, rfl⟩ : ∃ k', k = k' + 1 := ⟨k - 1, by omega⟩
    have hbs := hB0.out
    by_cases hm : tt ≤ 99999
    · have hFt := hF.out tt
      have hdt := hdb.out (tt + 1) (by omega)
      go_wp2_with fail
      refine (K3.out _ _ (tt + 1) _ (hn3.below p) (hd3.below p) ⟨by omega, by omega⟩).mono ?_
      rintro e w6 ⟨rfl, b6⟩
      replace p := Below.then2 p b6
      clear b6
      have hE : (E.length : Int) * ((tt + 1 + 20000) * 135) ≤ 12 * (120000 * 135) := Int.mul_le_mul (by omega) (by omega) (by omega) (by omega)
      generalize demK T E (tt + 1) E.length = dd at *
      have wr3 : IntKind.i64.wrap (bs + dd) = bs + dd := by rw [IntKind.wrap_i64]; omega
      by_cases he : F tt = tt
      · have hx : bs + dd = tt := by omega
        have hk' := hk.symm.trans (fixI_here hm he)
        clear hbs
        go_wp2_with fail
        try rw [hk']
        exact bodyPost_ret (v := .tuple #[.int .i64 tt, .bool true]) (by simp [results, Try.results59, go_sem]) rfl ⟨rfl, b.trans (p.mono b.size)⟩
      · have hx : ¬ bs + dd = tt := by omega
        have hk' := (fixI_next hm he).symm.trans hk
        have hup' := hup.out tt hle
        have hgt : tt < F tt := by omega
        have hF2 : F tt ≤ 300000000 := by omega
        clear hbs
        go_wp2_with fail
        go_roundw
        case rel => exact ⟨F tt, k, by rw [hFt], hk', by omega, by omega, hF2, hup', p⟩
        case measure => simp [Go.RowKit.intOf]; omega
    · have hk' := hk.symm.trans (fixI_over hm)
      clear hbs
      go_wp2_with fail
      try rw [hk']
      exact bodyPost_ret (v := .tuple #[.int .i64 0, .bool false]) (by simp [results, Try.results59, go_sem]) rfl ⟨rfl, b.trans (p.mono b.size)⟩
end Go.Proofs.Ytohjfjcpkloigaa

/- Contracts of the model's CountOf and l16Bound. -/

set_option linter.unusedVariables false
set_option linter.unusedSimpArgs false
set_option maxRecDepth 20000
namespace Go.Proofs.Ytohjfjcpkloigaa
open Go.RowKit

set_option maxHeartbeats 8000000 in
/-- spec.CountOf. -/
theorem specCountOf (a : Option Addr) (T : List Ms) (c : Nat) (i : Int) (w : World) (hd : Tbl a T w) :
    Calls Try.prog 30 #[.slice a T.length c, .int .i64 i] w fun e w' => e = .returned (.int .i64 (countR T i)) ∧ Below w.heap.size w w' := by
  have HR := Lib.hid (show countR T i = if hasM T i = true then countN T i.toNat else -1 from rfl)
  generalize countR T i = R at HR ⊢
  have H1 := Lib.hid (fun w h => specHasM a T c i w h)
  go_enter Try.func30, Try.ntmps30
  go_wp2_with fail
  refine (H1.out _ hd).mono ?_
  rintro e w1 ⟨rfl, b⟩
  replace hd := hd.below b
  clear H1
  cases hh : hasM T i with
  | false =>
    have HV := Lib.hid (HR.out.trans (if_neg (by simp [hh])))
    clear hh
    go_wp2_with fail
    go_ret
    exact ⟨by rw [HV.out] <;> rfl, b⟩
  | true =>
    have HV := Lib.hid (HR.out.trans (if_pos hh))
    obtain ⟨h0, hi0, hi1⟩ := hasM_iff.1 hh
    clear hh HR
    obtain ⟨i, rfl⟩ := Int.eq_ofNat_of_zero_le hi0
    simp only [Int.toNat_natCast] at HV
    have hil : i < T.length := by omega
    have hT := (codeT_iff.1 h0).2.1
    have H2 := Lib.hid (fun w h => specBusyN a T c i w h hil h0)
    have hbs := Lib.hid (fun t (h : busyV T i = some t) => busyV_some hT hil h)
    have hok := mgOk_iff.1 (allM_at hT hil)
    have hcc := costV_ok (allM_at hT hil)
    have HN := Lib.hid (show countN T i = match busyV T i with | some t => upV (t + (nthTb T i).ji) (nthTb T i).pe | none => -1 from rfl)
    generalize countN T i = cn at HV HN
    clear h0
    go_wp2_with fail
    refine (H2.out _ hd).mono ?_
    rintro e w2 ⟨rfl, b2⟩
    replace b := Below.then2 b b2
    replace hd := hd.below b2
    clear b2 H2
    cases hb : busyV T i with
    | none =>
      have HV2 := Lib.hid (HV.out.trans (HN.out.trans (by rw [hb])))
      clear HV HN hb
      simp only [someR]
      go_wp2_with fail
      go_ret
      exact ⟨by rw [HV2.out] <;> rfl, b⟩
    | some t =>
      have HV2 := Lib.hid (HV.out.trans (HN.out.trans (show _ = upV (t + (nthTb T i).ji) (nthTb T i).pe by rw [hb])))
      obtain ⟨-, hb1, hb2, -⟩ := hbs.out t hb
      clear HV HN hb hbs
      obtain ⟨g, o, rfl, hc⟩ := hd.2 i hil
      obtain ⟨-, -, hpe, hji, -, -⟩ := hok
      have HU := Lib.hid (fun w => specUp (t + (nthTb T i).ji) (nthTb T i).pe w (by omega) (by omega) hpe.1 (by omega))
      generalize nthTb T i = m at *
      generalize costV m = cc at *
      obtain ⟨id, sz, pe, ji, de, no⟩ := m
      dsimp only at *
      generalize upV (t + ji) pe = uu at *
      have wr1 : IntKind.i64.wrap (t + ji) = t + ji := by rw [IntKind.wrap_i64]; omega
      simp only [someR]
      go_upto_region 6 with fail
      refine region_class (fun u => MsC g (o + i * 6) ⟨id, sz, pe, ji, de, no⟩ u ∧ Below w.heap.size w u) (by kernel_rfl) (by kernel_rfl) ⟨hc, b.drew⟩ ?_
      clear hc b
      repeat first
        | go_big_quiet_skip
        | (go_big_quiet_want
           apply Exists.intro
           refine ⟨fun u hu => ?_, ?_⟩
           · apply quietAt_val
             obtain ⟨⟨c0, c1, c2, c3, c4, c5⟩, _⟩ := hu
             go_simp
             rfl
           simp only [Act.put, List.setIfInBounds_toArray, List.set_cons_zero, List.set_cons_succ]
           go_big_quiet_on)
        | (go_big_quiet_want
           apply Exists.intro
           refine ⟨fun u hu => ?_, ?_⟩
           · apply quietAt_enter 63 #[.int .i64 (t + ji), .int .i64 pe]
             · go_simp
             · refine (HU.out u).mono ?_
               rintro e w2 ⟨rfl, rfl⟩
               exact ⟨rfl, hu⟩
           simp only [Act.put, List.setIfInBounds_toArray, List.set_cons_zero, List.set_cons_succ]
           go_big_quiet_on)
      refine wpQuiet_nil ?_
      intro W2 L2
      have b := L2.2
      clear L2 HU
      go_wp2_with fail
      go_ret
      exact ⟨by rw [HV2.out] <;> rfl, b⟩
end Go.Proofs.Ytohjfjcpkloigaa
