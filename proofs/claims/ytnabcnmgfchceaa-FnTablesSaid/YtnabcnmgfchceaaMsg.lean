/- Messages (six numbers) and tables of them: what the chapter asks, plain; the contracts of the small functions, of the program and of the model. -/
import Derived.Test.YtnabcnmgfchceaaRng
import Derived.Test.YtnabcnmgfchceaaLong
import Derived.Test.YtnabcnmgfchceaaFrM
import Derived.WalkKit
import Derived.Deep.CutRange
import Derived.Deep.DeepCutAuto
set_option linter.unusedVariables false
set_option linter.unusedSimpArgs false
namespace Go.Proofs.Ytnabcnmgfchceaa
open Go.RowKit

/-- A message. -/
structure Ms where
  id : Int
  sz : Int
  pe : Int
  ji : Int
  de : Int
  no : Int
instance : Inhabited Ms := ⟨⟨0, 0, 0, 0, 0, 0⟩⟩
abbrev mgC (m : Ms) : Array Value := #[.int .i64 m.id, .int .i64 m.sz, .int .i64 m.pe, .int .i64 m.ji, .int .i64 m.de, .int .i64 m.no]
/-- It as the machine's value. -/
abbrev mgV (m : Ms) : Value := .agg #[.int .i64 m.id, .int .i64 m.sz, .int .i64 m.pe, .int .i64 m.ji, .int .i64 m.de, .int .i64 m.no]
def nthTb (T : List Ms) (j : Nat) : Ms := T.getD j default
theorem nthTb_eq {T : List Ms} {j : Nat} (h : j < T.length) : nthTb T j = T[j] := by simp [nthTb, List.getD_eq_getElem?_getD, h]
def mgOk (m : Ms) : Bool := rng m.id 0 2047 && rng m.sz 0 8 && rng m.pe 1 20000 && rng m.ji 0 m.pe && rng m.de 1 m.pe && rng m.no 0 5
theorem mgOk_iff {m : Ms} : mgOk m = true ↔ (0 ≤ m.id ∧ m.id ≤ 2047) ∧ (0 ≤ m.sz ∧ m.sz ≤ 8) ∧ (1 ≤ m.pe ∧ m.pe ≤ 20000) ∧ (0 ≤ m.ji ∧ m.ji ≤ m.pe) ∧ (1 ≤ m.de ∧ m.de ≤ m.pe) ∧ 0 ≤ m.no ∧ m.no ≤ 5 := by
  simp only [mgOk, Bool.and_eq_true, rng_iff, and_assoc]
/-- CodeOf. -/
def codeT (T : List Ms) : Int := if ¬ (1 ≤ T.length ∧ T.length ≤ 12) then 1 else if T.all mgOk = false then 2 else if ¬ (T.map Ms.id).Nodup then 3 else 0
theorem codeT_size {T : List Ms} (h : ¬ (1 ≤ T.length ∧ T.length ≤ 12)) : codeT T = 1 := by rw [codeT, if_pos h]
theorem codeT_msg {T : List Ms} (h : 1 ≤ T.length ∧ T.length ≤ 12) (h2 : T.all mgOk = false) : codeT T = 2 := by rw [codeT, if_neg (by simpa using h), if_pos h2]
theorem codeT_twice {T : List Ms} (h : 1 ≤ T.length ∧ T.length ≤ 12) (h2 : T.all mgOk = true) (h3 : ¬ (T.map Ms.id).Nodup) : codeT T = 3 := by rw [codeT, if_neg (by simpa using h), if_neg (by simp [h2]), if_pos h3]
theorem codeT_ok {T : List Ms} (h : 1 ≤ T.length ∧ T.length ≤ 12) (h2 : T.all mgOk = true) (h3 : (T.map Ms.id).Nodup) : codeT T = 0 := by rw [codeT, if_neg (by simpa using h), if_neg (by simp [h2]), if_neg (by simpa using h3)]
theorem codeT_iff {T : List Ms} : codeT T = 0 ↔ (1 ≤ T.length ∧ T.length ≤ 12) ∧ T.all mgOk = true ∧ (T.map Ms.id).Nodup := by
  constructor
  · intro h
    by_cases h1 : 1 ≤ T.length ∧ T.length ≤ 12
    · cases h2 : T.all mgOk with
      | false => rw [codeT_msg h1 h2] at h; cases h
      | true =>
        by_cases h3 : (T.map Ms.id).Nodup
        · exact ⟨h1, rfl, h3⟩
        · rw [codeT_twice h1 h2 h3] at h; cases h
    · rw [codeT_size h1] at h; cases h
  · rintro ⟨h1, h2, h3⟩; exact codeT_ok h1 h2 h3
theorem codeT_bd (T : List Ms) : 0 ≤ codeT T ∧ codeT T ≤ 3 := by unfold codeT; repeat' split <;> omega
theorem allM_yes {T : List Ms} (h : ∀ j, j < T.length → mgOk (nthTb T j) = true) : T.all mgOk = true := by
  rw [List.all_eq_true]
  intro x hx
  obtain ⟨j, hj, rfl⟩ := List.mem_iff_getElem.1 hx
  rw [← nthTb_eq hj]; exact h j hj
theorem allM_no {T : List Ms} {k : Nat} (hk : k < T.length) (h : mgOk (nthTb T k) = false) : T.all mgOk = false := by
  rw [Bool.eq_false_iff]
  intro e
  rw [List.all_eq_true] at e
  have := e _ (List.getElem_mem hk)
  rw [← nthTb_eq hk, h] at this
  cases this
theorem allM_at {T : List Ms} (h : T.all mgOk = true) {j : Nat} (hj : j < T.length) : mgOk (nthTb T j) = true := by
  rw [nthTb_eq hj]; exact List.all_eq_true.1 h _ (List.getElem_mem hj)
theorem ids_nodup {T : List Ms} (h : ∀ i j, j < i → i < T.length → (nthTb T i).id ≠ (nthTb T j).id) : (T.map Ms.id).Nodup := by
  rw [List.Nodup, List.pairwise_map, List.pairwise_iff_getElem]
  intro j i hj hi hji e
  exact h i j hji hi (by rw [nthTb_eq hi, nthTb_eq hj]; exact e.symm)
theorem ids_twice {T : List Ms} {i j : Nat} (hji : j < i) (hi : i < T.length) (e : (nthTb T i).id = (nthTb T j).id) : ¬ (T.map Ms.id).Nodup := by
  intro h
  rw [List.Nodup, List.pairwise_map, List.pairwise_iff_getElem] at h
  exact h j i (by omega) hi hji (by rw [← nthTb_eq hi, ← nthTb_eq (show j < T.length by omega)]; exact e.symm)
theorem ids_inj {T : List Ms} (h : (T.map Ms.id).Nodup) {i j : Nat} (hi : i < T.length) (hj : j < T.length) (e : (nthTb T i).id = (nthTb T j).id) : i = j := by
  rcases Nat.lt_trichotomy i j with k | k | k
  · exact absurd h (ids_twice k hj e.symm)
  · exact k
  · exact absurd h (ids_twice k hi e)
/-- Is there a message i of a right table? -/
def hasM (T : List Ms) (i : Int) : Bool := decide (codeT T = 0) && rng i 0 (T.length - 1)
theorem hasM_iff {T : List Ms} {i : Int} : hasM T i = true ↔ codeT T = 0 ∧ 0 ≤ i ∧ i < T.length := by
  simp only [hasM, Bool.and_eq_true, decide_eq_true_eq, rng_iff]; omega
def costV (m : Ms) : Int := if longV m.sz < 0 then -1 else longV m.sz + 3
theorem longV_bd (n : Int) : longV n = -1 ∨ 52 ≤ longV n ∧ longV n ≤ 132 ∧ 0 ≤ n ∧ n ≤ 8 := by
  by_cases h : n < 0 ∨ 8 < n
  · exact .inl (longV_no h)
  · right
    rw [longV_yes (by omega) (by omega), mostV_yes (by omega) (by omega)]; omega
theorem costV_ok {m : Ms} (h : mgOk m = true) : 55 ≤ costV m ∧ costV m ≤ 135 := by
  have h1 := (mgOk_iff.1 h).2.1
  rw [costV, longV_yes h1.1 h1.2, mostV_yes (by omega) (by omega), if_neg (by omega)]; omega
theorem costV_bd (m : Ms) : -1 ≤ costV m ∧ costV m ≤ 135 := by
  have := longV_bd m.sz
  unfold costV; split <;> omega
/-- Rounded up. -/
def upV (a b : Int) : Int := (a + b - 1) / b
theorem upV_pos {a b : Int} (ha : 1 ≤ a) (hb : 1 ≤ b) : 1 ≤ upV a b := by
  unfold upV
  rw [Int.le_ediv_iff_mul_le (by omega)]; omega
theorem upV_le {a b c : Int} (ha : 0 ≤ a) (hb : 1 ≤ b) (h : a ≤ c) : 0 ≤ upV a b ∧ upV a b ≤ c := by
  unfold upV
  refine ⟨Int.ediv_nonneg (by omega) (by omega), ?_⟩
  have hx : (a + b - 1) / b < c + 1 := by
    rw [Int.ediv_lt_iff_lt_mul (by omega)]
    have h2 : a + b - 1 < a + b := by omega
    have h3 : a ≤ c := h
    have h4 : 0 ≤ c * (b - 1) := Int.mul_nonneg (by omega) (by omega)
    have h5 : (c + 1) * b = c * (b - 1) + c + b := by rw [Int.mul_sub, Int.add_mul]; omega
    omega
  omega
/-- The load of the first k messages. -/
def loadN (T : List Ms) : Nat → Int
  | 0 => 0
  | k + 1 => loadN T k + upV (1000000 * costV (nthTb T k)) (nthTb T k).pe
theorem loadN_bd {T : List Ms} (h : T.all mgOk = true) : ∀ k, k ≤ T.length → (k : Int) ≤ loadN T k ∧ loadN T k ≤ 135000000 * k
  | 0, _ => by simp [loadN]
  | k + 1, hk => by
    have ih := loadN_bd h k (by omega)
    have ho := allM_at h (show k < T.length by omega)
    have hc := costV_ok ho
    have hp := (mgOk_iff.1 ho).2.2.1
    have h1 := upV_pos (a := 1000000 * costV (nthTb T k)) (b := (nthTb T k).pe) (by omega) hp.1
    have h2 := upV_le (a := 1000000 * costV (nthTb T k)) (b := (nthTb T k).pe) (c := 135000000) (by omega) hp.1 (by omega)
    simp only [loadN]
    omega
def loadV (T : List Ms) : Int := if codeT T = 0 then loadN T T.length else -1
/-- The places of those of a lesser Id than message i, of the first k. -/
def highN (T : List Ms) (i : Nat) : Nat → List Int
  | 0 => []
  | k + 1 => if (nthTb T k).id < (nthTb T i).id then highN T i k ++ [(k : Int)] else highN T i k
theorem highN_mem {T : List Ms} {i : Nat} : ∀ {k : Nat} {x : Int}, x ∈ highN T i k ↔ ∃ j : Nat, j < k ∧ x = j ∧ (nthTb T j).id < (nthTb T i).id
  | 0, x => by simp [highN]
  | k + 1, x => by
    have ih := highN_mem (T := T) (i := i) (k := k) (x := x)
    simp only [highN]
    split
    · rename_i h
      rw [List.mem_append, ih, List.mem_singleton]
      constructor
      · rintro (⟨j, h1, h2⟩ | rfl)
        · exact ⟨j, by omega, h2⟩
        · exact ⟨k, by omega, rfl, h⟩
      · rintro ⟨j, h1, h2, h3⟩
        by_cases e : j = k
        · exact .inr (by rw [h2, e])
        · exact .inl ⟨j, by omega, h2, h3⟩
    · rename_i h
      rw [ih]
      constructor
      · rintro ⟨j, h1, h2⟩; exact ⟨j, by omega, h2⟩
      · rintro ⟨j, h1, h2, h3⟩
        by_cases e : j = k
        · rw [e] at h3; exact absurd h3 h
        · exact ⟨j, by omega, h2, h3⟩
theorem highN_len (T : List Ms) (i : Nat) : ∀ k, (highN T i k).length ≤ k
  | 0 => Nat.le_refl _
  | k + 1 => by
    have := highN_len T i k
    simp only [highN]
    split
    · simp; omega
    · omega
theorem highN_rise (T : List Ms) (i : Nat) : ∀ k, (highN T i k).Pairwise (· < ·)
  | 0 => List.Pairwise.nil
  | k + 1 => by
    simp only [highN]
    split
    · rw [List.pairwise_append]
      refine ⟨highN_rise T i k, List.pairwise_singleton _ _, fun a ha b hb => ?_⟩
      obtain ⟨j, h1, rfl, _⟩ := highN_mem.1 ha
      rw [List.mem_singleton.1 hb]; omega
    · exact highN_rise T i k
def highV (T : List Ms) (i : Int) : List Int := if hasM T i = true then highN T i.toNat T.length else []
theorem highV_len (T : List Ms) (i : Int) : (highV T i).length ≤ 12 := by
  unfold highV
  split
  · rename_i h
    have h1 := (codeT_iff.1 (hasM_iff.1 h).1).1
    have h2 := highN_len T i.toNat T.length
    omega
  · simp
theorem highV_no {T : List Ms} {i : Int} (h : hasM T i = false) : highV T i = [] := by rw [highV, if_neg (by simp [h])]
theorem highV_yes {T : List Ms} {i : Int} (h : hasM T i = true) : highV T i = highN T i.toNat T.length := by rw [highV, if_pos h]

/-- From place o of block g on the message m stands. -/
def MsC (g o : Nat) (m : Ms) (w : World) : Prop :=
  w.cell? ⟨g, o, none⟩ = some (.int .i64 m.id) ∧ w.cell? ⟨g, o + 1, none⟩ = some (.int .i64 m.sz) ∧ w.cell? ⟨g, o + 2, none⟩ = some (.int .i64 m.pe) ∧
  w.cell? ⟨g, o + 3, none⟩ = some (.int .i64 m.ji) ∧ w.cell? ⟨g, o + 4, none⟩ = some (.int .i64 m.de) ∧ w.cell? ⟨g, o + 5, none⟩ = some (.int .i64 m.no)
theorem MsC.lt {g o : Nat} {m : Ms} {w : World} (h : MsC g o m w) : g < w.heap.size := World.block_lt_of_cell? w _ h.1
theorem MsC.below {g o n : Nat} {m : Ms} {w w' : World} (h : MsC g o m w) (b : Below n w w') (hg : g < n) : MsC g o m w' :=
  ⟨(b.cell hg).trans h.1, (b.cell hg).trans h.2.1, (b.cell hg).trans h.2.2.1, (b.cell hg).trans h.2.2.2.1, (b.cell hg).trans h.2.2.2.2.1, (b.cell hg).trans h.2.2.2.2.2⟩
/-- The slice at a holds the messages T. -/
def Tbl (a : Option Addr) (T : List Ms) (w : World) : Prop := T.length ≤ maxLen ∧ ∀ j, j < T.length → ∃ g o, a = some ⟨g, o, none⟩ ∧ MsC g (o + j * 6) (nthTb T j) w
theorem Tbl.below {a : Option Addr} {T : List Ms} {w w' : World} (h : Tbl a T w) (b : Below w.heap.size w w') : Tbl a T w' := ⟨h.1, fun j hj => by
  obtain ⟨g, o, e, c⟩ := h.2 j hj
  exact ⟨g, o, e, c.below b c.lt⟩⟩
theorem Tbl.alloc {a : Option Addr} {T : List Ms} {w : World} (h : Tbl a T w) (o : Obj) : Tbl a T (w.alloc o) := h.below ((Below.refl _ _).alloc (Nat.le_refl _) _)
theorem Tbl.drew {a : Option Addr} {T : List Ms} {w : World} (h : Tbl a T w) : Tbl a T w.drew := h
theorem Tbl.nil (a : Option Addr) (w : World) : Tbl a [] w := ⟨Nat.zero_le _, fun j hj => by simp at hj⟩

/-- impl.idOk, at whatever seat. -/
theorem implIdIn (n : Int) (w : World) : Calls Try.prog 61 #[.int .i64 n] w fun e w' => e = .returned (.bool (rng n 0 2047)) ∧ w = w' := by
  go_enter Try.func61, Try.ntmps61
  go_wp2
  all_goals (go_ret; exact ⟨ret_bool (by simp only [rng]; simp_all; try omega), rfl⟩)

/-- impl.msgOk. -/
theorem implMsgOk (m : Ms) (w : World) : Calls Try.prog 51 #[mgV m] w fun e w' => e = .returned (.bool (mgOk m)) ∧ Below w.heap.size w w' := by
  have bb := (Below.refl w.heap.size w).alloc (Nat.le_refl _) (.cells (mgC m) 32)
  obtain ⟨id, sz, pe, ji, de, no⟩ := m
  have HV := Lib.hid (show mgOk ⟨id, sz, pe, ji, de, no⟩ = (rng id 0 2047 && rng sz 0 8 && rng pe 1 20000 && rng ji 0 pe && rng de 1 pe && rng no 0 5) from rfl)
  generalize mgOk ⟨id, sz, pe, ji, de, no⟩ = v at HV ⊢
  go_enter Try.func51, Try.ntmps51
  go_wp2_with fail
  refine (implIdIn _ _).mono ?_
  rintro e w0 ⟨rfl, rfl⟩
  cases q0 : rng id 0 2047 with
  | false =>
    have E := Lib.hid (show v = false by rw [HV.out]; simp [q0])
    clear HV q0
    go_wp2_with fail
    go_ret
    exact ⟨by rw [E.out] <;> rfl, bb⟩
  | true =>
    go_wp2_with fail
    refine (implWithin _ _ _ _).mono ?_
    rintro e w1 ⟨rfl, rfl⟩
    cases q1 : rng sz 0 8 with
    | false =>
      have E := Lib.hid (show v = false by rw [HV.out]; simp [q0, q1])
      clear HV q0 q1
      go_wp2_with fail
      go_ret
      exact ⟨by rw [E.out] <;> rfl, bb⟩
    | true =>
      go_wp2_with fail
      refine (implWithin _ _ _ _).mono ?_
      rintro e w2 ⟨rfl, rfl⟩
      cases q2 : rng pe 1 20000 with
      | false =>
        have E := Lib.hid (show v = false by rw [HV.out]; simp [q0, q1, q2])
        clear HV q0 q1 q2
        go_wp2_with fail
        go_ret
        exact ⟨by rw [E.out] <;> rfl, bb⟩
      | true =>
        go_wp2_with fail
        refine (implWithin _ _ _ _).mono ?_
        rintro e w3 ⟨rfl, rfl⟩
        cases q3 : rng ji 0 pe with
        | false =>
          have E := Lib.hid (show v = false by rw [HV.out]; simp [q0, q1, q2, q3])
          clear HV q0 q1 q2 q3
          go_wp2_with fail
          go_ret
          exact ⟨by rw [E.out] <;> rfl, bb⟩
        | true =>
          go_wp2_with fail
          refine (implWithin _ _ _ _).mono ?_
          rintro e w4 ⟨rfl, rfl⟩
          cases q4 : rng de 1 pe with
          | false =>
            have E := Lib.hid (show v = false by rw [HV.out]; simp [q0, q1, q2, q3, q4])
            clear HV q0 q1 q2 q3 q4
            go_wp2_with fail
            go_ret
            exact ⟨by rw [E.out] <;> rfl, bb⟩
          | true =>
            go_wp2_with fail
            refine (implWithin _ _ _ _).mono ?_
            rintro e w5 ⟨rfl, rfl⟩
            have E := Lib.hid (show v = rng no 0 5 by rw [HV.out]; simp only [q0, q1, q2, q3, q4, Bool.true_and])
            clear HV q0 q1 q2 q3 q4
            go_wp2_with fail
            go_ret
            exact ⟨by rw [E.out] <;> rfl, bb⟩

/-- spec.l1In, told by rng. -/
theorem l1InMs (x lo hi : Int) (w : World) : Calls Try.prog 41 #[.int .i64 x, .int .i64 lo, .int .i64 hi] w fun e w' => e = .returned (.bool (rng x lo hi)) ∧ w = w' := l1In x lo hi w
/-- spec.l15Msg. -/
theorem specMsgOk (m : Ms) (w : World) : Calls Try.prog 42 #[mgV m] w fun e w' => e = .returned (.bool (mgOk m)) ∧ Below w.heap.size w w' := by
  have bb := (Below.refl w.heap.size w).alloc (Nat.le_refl _) (.cells (mgC m) 32)
  obtain ⟨id, sz, pe, ji, de, no⟩ := m
  have HV := Lib.hid (show mgOk ⟨id, sz, pe, ji, de, no⟩ = (rng id 0 2047 && rng sz 0 8 && rng pe 1 20000 && rng ji 0 pe && rng de 1 pe && rng no 0 5) from rfl)
  generalize mgOk ⟨id, sz, pe, ji, de, no⟩ = v at HV ⊢
  go_enter Try.func42, Try.ntmps42
  go_wp2_with fail
  refine (l1InMs _ _ _ _).mono ?_
  rintro e w0 ⟨rfl, rfl⟩
  cases q0 : rng id 0 2047 with
  | false =>
    have E := Lib.hid (show v = false by rw [HV.out]; simp [q0])
    clear HV q0
    go_wp2_with fail
    go_ret
    exact ⟨by rw [E.out] <;> rfl, bb⟩
  | true =>
    go_wp2_with fail
    refine (l1InMs _ _ _ _).mono ?_
    rintro e w1 ⟨rfl, rfl⟩
    cases q1 : rng sz 0 8 with
    | false =>
      have E := Lib.hid (show v = false by rw [HV.out]; simp [q0, q1])
      clear HV q0 q1
      go_wp2_with fail
      go_ret
      exact ⟨by rw [E.out] <;> rfl, bb⟩
    | true =>
      go_wp2_with fail
      refine (l1InMs _ _ _ _).mono ?_
      rintro e w2 ⟨rfl, rfl⟩
      cases q2 : rng pe 1 20000 with
      | false =>
        have E := Lib.hid (show v = false by rw [HV.out]; simp [q0, q1, q2])
        clear HV q0 q1 q2
        go_wp2_with fail
        go_ret
        exact ⟨by rw [E.out] <;> rfl, bb⟩
      | true =>
        go_wp2_with fail
        refine (l1InMs _ _ _ _).mono ?_
        rintro e w3 ⟨rfl, rfl⟩
        cases q3 : rng ji 0 pe with
        | false =>
          have E := Lib.hid (show v = false by rw [HV.out]; simp [q0, q1, q2, q3])
          clear HV q0 q1 q2 q3
          go_wp2_with fail
          go_ret
          exact ⟨by rw [E.out] <;> rfl, bb⟩
        | true =>
          go_wp2_with fail
          refine (l1InMs _ _ _ _).mono ?_
          rintro e w4 ⟨rfl, rfl⟩
          cases q4 : rng de 1 pe with
          | false =>
            have E := Lib.hid (show v = false by rw [HV.out]; simp [q0, q1, q2, q3, q4])
            clear HV q0 q1 q2 q3 q4
            go_wp2_with fail
            go_ret
            exact ⟨by rw [E.out] <;> rfl, bb⟩
          | true =>
            go_wp2_with fail
            refine (l1InMs _ _ _ _).mono ?_
            rintro e w5 ⟨rfl, rfl⟩
            have E := Lib.hid (show v = rng no 0 5 by rw [HV.out]; simp only [q0, q1, q2, q3, q4, Bool.true_and])
            clear HV q0 q1 q2 q3 q4
            go_wp2_with fail
            go_ret
            exact ⟨by rw [E.out] <;> rfl, bb⟩

/-- impl.msgsOk. -/
theorem implMsgsOk (a : Option Addr) (T : List Ms) (c : Nat) (w : World) (hd : Tbl a T w) :
    Calls Try.prog 32 #[.slice a T.length c] w fun e w' => e = .returned (.bool (T.all mgOk)) ∧ Below w.heap.size w w' := by
  have hm := hd.1
  unfold maxLen at hm
  go_enter Try.func32, Try.ntmps32
  go_wp2_with fail
  go_loopw [7] (fun i wr => ∃ k : Nat, k ≤ T.length ∧ i = .int .i64 k ∧ (∀ j, j < k → mgOk (nthTb T j) = true) ∧ Below w.heap.size w wr) (fun i _ => T.length - (intOf i).toNat)
  case atStart => exact ⟨0, Nat.zero_le _, rfl, fun j hj => absurd hj (by omega), Below.refl _ _⟩
  case round =>
    obtain ⟨k, hk, rfl, hr, b⟩ := hrel
    by_cases hlt : k < T.length
    · obtain ⟨g, o, rfl, c0, c1, c2, c3, c4, c5⟩ := (hd.below b).2 k hlt
      have hn := Lib.hid (allM_no (T := T) hlt)
      have H1 := fun w => implMsgOk (nthTb T k) w
      have hq := Lib.hid (show ∀ v, mgOk (nthTb T k) = v → v = true → ∀ j, j < k + 1 → mgOk (nthTb T j) = true from fun v e1 e2 j hj => by
        by_cases e : j = k
        · rw [e, e1, e2]
        · exact hr j (by omega))
      clear hr
      have b1 := below_more b (.cells (mgC (nthTb T k)) 32)
      generalize mgOk (nthTb T k) = v at H1 hn hq
      generalize nthTb T k = m at *
      obtain ⟨id, sz, pe, ji, de, no⟩ := m
      go_wp2_with fail
      refine (H1 _).mono ?_
      rintro e w2 ⟨rfl, b2⟩
      replace b := Below.then2 b1 b2
      clear b1 b2 c0 c1 c2 c3 c4 c5 H1
      cases v with
      | true =>
        go_wp2_with fail
        go_roundw
        case rel => exact ⟨k + 1, by omega, by go_num, hq.out _ rfl rfl, b⟩
        case measure => simp [intOf]; omega
      | false =>
        have HV := Lib.hid (hn.out rfl)
        clear hn hq
        go_wp2_with fail
        go_ret
        exact ⟨by rw [HV.out] <;> rfl, b⟩
    · have hall := Lib.hid (allM_yes (T := T) fun j hj => hr j (by omega))
      clear hr
      go_wp2_with fail
      go_ret
      exact ⟨by rw [hall.out] <;> rfl, b⟩

end Go.Proofs.Ytnabcnmgfchceaa

