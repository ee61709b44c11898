/- Promise 7, plain: of two right frames of two ranks the one of the lesser rank says 0 where the bodies part, within the first 13 bits. -/
import Derived.Test.YtcciabalbdnakabPares
import Derived.Test.YtcciabalbdnakabSpWin
set_option maxRecDepth 20000
namespace Go.Proofs.Ytcciabalbdnakab
open Go.RowKit

theorem num_from : ∀ (l : List UInt8) (m : Int), l.foldl (fun n c => 2 * n + ((c.toNat : Int) - 48)) m = m * 2 ^ l.length + num l := by
  intro l
  induction l with
  | nil => intro m; simp [num]
  | cons c l ih =>
    intro m
    have e : num (c :: l) = l.foldl (fun n c => 2 * n + ((c.toNat : Int) - 48)) (2 * 0 + ((c.toNat : Int) - 48)) := rfl
    rw [List.foldl_cons, ih, e, ih, List.length_cons, Int.pow_succ]
    generalize (2 : Int) ^ l.length = P
    generalize (c.toNat : Int) - 48 = d
    generalize num l = X
    rw [Int.add_mul, Int.add_mul, Int.mul_comm P 2, ← Int.mul_assoc, Int.mul_comm m 2]
    omega
theorem num_cons (c : UInt8) (l : List UInt8) : num (c :: l) = ((c.toNat : Int) - 48) * 2 ^ l.length + num l := by
  have := num_from l (2 * 0 + ((c.toNat : Int) - 48))
  have e : num (c :: l) = l.foldl (fun n c => 2 * n + ((c.toNat : Int) - 48)) (2 * 0 + ((c.toNat : Int) - 48)) := rfl
  rw [e, this]
  simp
theorem part_num : ∀ (u v : List UInt8), u.length = v.length → (∀ c ∈ u, bit c = true) → (∀ c ∈ v, bit c = true) → num u < num v →
    ∃ k, k < u.length ∧ (∀ j, j < k → u[j]? = v[j]?) ∧ u[k]? = some 48 ∧ v[k]? = some 49 := by
  intro u
  induction u with
  | nil =>
    intro v hl _ _ hn
    cases v with
    | nil => simp at hn
    | cons y v => simp at hl
  | cons x u ih =>
    intro v hl hu hv hn
    cases v with
    | nil => simp at hl
    | cons y v =>
      have hl' : u.length = v.length := by simpa using hl
      have bu : ∀ c ∈ u, bit c = true := fun c hc => hu c (by simp [hc])
      have bv : ∀ c ∈ v, bit c = true := fun c hc => hv c (by simp [hc])
      have nu := num_bd u bu
      have nv := num_bd v bv
      rw [num_cons, num_cons, hl'] at hn
      rw [hl'] at nu
      generalize (2 : Int) ^ v.length = P at *
      have e48 : ∀ c : UInt8, c.toNat = 48 → c = 48 := fun c h => UInt8.toNat_inj.1 h
      have e49 : ∀ c : UInt8, c.toNat = 49 → c = 49 := fun c h => UInt8.toNat_inj.1 h
      rcases bit_cases (hu x (by simp)) with hx | hx <;> rcases bit_cases (hv y (by simp)) with hy | hy
      · rw [hx, hy] at hn
        obtain ⟨k, hk, ha, h0, h1⟩ := ih v hl' bu bv (by omega)
        refine ⟨k + 1, by simp; omega, fun j hj => ?_, by simpa using h0, by simpa using h1⟩
        cases j with
        | zero => simp [e48 x hx, e48 y hy]
        | succ j => simpa using ha j (by omega)
      · exact ⟨0, by simp, fun j hj => absurd hj (by omega), by simp [e48 x hx], by simp [e49 y hy]⟩
      · exfalso
        rw [hx, hy] at hn
        simp at hn
        omega
      · rw [hx, hy] at hn
        obtain ⟨k, hk, ha, h0, h1⟩ := ih v hl' bu bv (by omega)
        refine ⟨k + 1, by simp; omega, fun j hj => ?_, by simpa using h0, by simpa using h1⟩
        cases j with
        | zero => simp [e49 x hx, e49 y hy]
        | succ j => simpa using ha j (by omega)

/-- The bits of the Id, and the one that tells of remote. -/
def rankL (id : Int) (rm : Bool) : List UInt8 := (ofS id 11).data.toList ++ [if rm = true then 49 else 48]
theorem rankL_is {id : Int} {rm : Bool} (h0 : 0 ≤ id) (h1 : id ≤ 2047) : (rankL id rm).length = 12 ∧ (∀ c ∈ rankL id rm, bit c = true) ∧ num (rankL id rm) = if rm = true then id * 2 + 1 else id * 2 := by
  have hp : id < 2 ^ 11 := by omega
  obtain ⟨f1, f2, f3, f4⟩ := facts (n := id) (c := 11) (by omega) h0 hp
  have e : ((11 : Nat) : Int) = 11 := rfl
  rw [e] at f1 f2 f3 f4
  rw [numV_yes f3] at f4
  have fb := mem_bit f2
  have hl : (ofS id 11).data.toList.length = 11 := f1
  unfold rankL
  refine ⟨by rw [List.length_append, hl]; rfl, fun c hc => ?_, ?_⟩
  · rcases List.mem_append.1 hc with hc | hc
    · exact fb c hc
    · rw [List.mem_singleton] at hc
      subst hc
      cases rm <;> rfl
  · rw [num_snoc, f4]
    cases rm <;> simp <;> omega
theorem body_front {id : Int} {rm : Bool} {ln : Int} {D : List Int} (h : frOk id rm ln D = true) : ∃ R, (bodyV id rm ln D).data.toList = 48 :: (rankL id rm ++ R) := by
  rw [body_list h, headS, headX_list, rankL]
  exact ⟨[48, 48] ++ (ofS ln 4).data.toList ++ D.flatMap fun b => (ofS b 8).data.toList, by simp⟩

/-- Where they part. -/
structure Parts (s t : ByteArray) (n : Nat) : Prop where
  lt : n < 13
  ls : n < s.size
  lt' : n < t.size
  one : s[n]'ls = 48
  two : t[n]'lt' = 49
  front : s.extract 0 n = t.extract 0 n
  pare : pareB s t = n
  pare' : pareB t s = n
theorem contest_parts {ia : Int} {xa : Bool} {la : Int} {Da : List Int} {ib : Int} {xb : Bool} {lb : Int} {Db : List Int} (ha : frOk ia xa la Da = true) (hb : frOk ib xb lb Db = true)
    (hr : rankV ia xa la Da < rankV ib xb lb Db) : ∃ n, Parts (bodyV ia xa la Da) (bodyV ib xb lb Db) n := by
  have ida := frOk_id ha
  have idb := frOk_id hb
  obtain ⟨la1, la2, la3⟩ := rankL_is (rm := xa) ida.1 ida.2
  obtain ⟨lb1, lb2, lb3⟩ := rankL_is (rm := xb) idb.1 idb.2
  rw [rankV_yes ha, rankV_yes hb, ← la3, ← lb3] at hr
  obtain ⟨k, hk, hf, h0, h1⟩ := part_num _ _ (by rw [la1, lb1]) la2 lb2 hr
  obtain ⟨Ra, ea⟩ := body_front ha
  obtain ⟨Rb, eb⟩ := body_front hb
  rw [la1] at hk
  generalize rankL ia xa = u at *
  generalize rankL ib xb = v at *
  generalize bodyV ia xa la Da = s at *
  generalize bodyV ib xb lb Db = t at *
  have g0 : s.data.toList[k + 1]? = some 48 := by rw [ea, List.getElem?_cons_succ, List.getElem?_append_left (by omega)]; exact h0
  have g1 : t.data.toList[k + 1]? = some 49 := by rw [eb, List.getElem?_cons_succ, List.getElem?_append_left (by omega)]; exact h1
  have gf : ∀ j, j < k + 1 → s.data.toList[j]? = t.data.toList[j]? := by
    intro j hj
    rw [ea, eb]
    cases j with
    | zero => rfl
    | succ j =>
      rw [List.getElem?_cons_succ, List.getElem?_cons_succ, List.getElem?_append_left (by omega), List.getElem?_append_left (by omega)]
      exact hf j (by omega)
  have ls : k + 1 < s.size := (List.getElem?_eq_some_iff.1 g0).1
  have lt : k + 1 < t.size := (List.getElem?_eq_some_iff.1 g1).1
  rw [at_list s _ ls, Option.some.injEq] at g0
  rw [at_list t _ lt, Option.some.injEq] at g1
  have A : Agree s t (k + 1) := ⟨Nat.le_of_lt ls, Nat.le_of_lt lt, gf⟩
  have A' : Agree t s (k + 1) := ⟨Nat.le_of_lt lt, Nat.le_of_lt ls, fun j hj => (gf j hj).symm⟩
  refine ⟨k + 1, by omega, ls, lt, g0, g1, ?_, A.part ls lt (by rw [g0, g1]; decide), A'.part lt ls (by rw [g0, g1]; decide)⟩
  apply ba_inj
  rw [front_list, front_list]
  apply List.ext_getElem?
  intro j
  rw [List.getElem?_take, List.getElem?_take]
  split
  · exact gf j (by assumption)
  · rfl
/-- Of two frames, the one of the lesser rank second, the second one wins. -/
theorem win_second {fb fa : Frm} (ha : 0 ≤ rkF fa) (hl : rkF fa < rkF fb) : winN [fb, fa] 2 = some 1 := by
  have h1 : winN [fb, fa] 1 = some 0 := winN_none rfl (by show 0 ≤ rkF fb; omega)
  exact winN_less h1 (show 0 ≤ rkF fa from ha) (show rkF fa < rkF fb from hl)
end Go.Proofs.Ytcciabalbdnakab
