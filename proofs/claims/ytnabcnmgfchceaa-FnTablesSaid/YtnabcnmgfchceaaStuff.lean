/- Plain facts on stuffing, with no program in sight: what is put in, what comes out again, how much it is at most, and that never are six alike. -/
import Derived.Test.YtnabcnmgfchceaaCrc
set_option linter.unusedSimpArgs false
set_option linter.unusedVariables false
namespace Go.Proofs.Ytnabcnmgfchceaa

/-- All of a list are bits. -/
def AllB (l : List UInt8) : Prop := ∀ c ∈ l, bit c = true
theorem AllB.nil : AllB [] := fun c h => by cases h
theorem AllB.snoc {l : List UInt8} {c : UInt8} (h : AllB l) (hc : bit c = true) : AllB (l ++ [c]) := fun d hd => by
  rcases List.mem_append.1 hd with hd | hd
  · exact h d hd
  · simp at hd; subst hd; exact hc
theorem AllB.front {l : List UInt8} {c : UInt8} (h : AllB (l ++ [c])) : AllB l ∧ bit c = true :=
  ⟨fun d hd => h d (List.mem_append_left _ hd), h c (by simp)⟩

/-- One bit more, and behind five alike the other one. -/
def stf (b : List UInt8) (c : UInt8) : List UInt8 := if run (b ++ [c]) = 5 then b ++ [c] ++ [flip c] else b ++ [c]
def stuffL (l : List UInt8) : List UInt8 := l.foldl stf []
theorem stuffL_nil : stuffL [] = [] := rfl
theorem stuffL_snoc (l : List UInt8) (c : UInt8) : stuffL (l ++ [c]) = stf (stuffL l) c := by simp [stuffL]

theorem bit_ne0 {c : UInt8} (h : bit c = true) : c.toNat ≠ 0 := by have := bit_cases h; omega
theorem flip_ne {c : UInt8} (h : bit c = true) : flip c ≠ c := by rcases bit_val h with rfl | rfl <;> decide
theorem eq_flip {c d : UInt8} (h : bit c = true) (hd : bit d = true) (hn : d ≠ c) : d = flip c := by
  rcases bit_val h with rfl | rfl <;> rcases bit_val hd with rfl | rfl <;> first | rfl | exact absurd rfl hn
theorem run_flip (l : List UInt8) {c : UInt8} (h : bit c = true) : run (l ++ [c] ++ [flip c]) = 1 := run_snoc_other l (flip c) c (fun e => flip_ne h e.symm)
theorem run_pos (l : List UInt8) (c : UInt8) : 1 ≤ run (l ++ [c]) := by simp [run, runR]
theorem run_step (l : List UInt8) (c : UInt8) : run (l ++ [c]) = run l + 1 ∨ run (l ++ [c]) = 1 := by
  rcases snoc_of l with rfl | ⟨r, d, rfl⟩
  · right; rfl
  · by_cases e : d = c
    · subst e; left; exact run_snoc_same r d
    · right; exact run_snoc_other r c d e

/-- By snoc: what holds of none, and goes from a list to one more, holds of all. -/
theorem snoc_ind {P : List UInt8 → Prop} (h0 : P []) (h1 : ∀ l c, P l → P (l ++ [c])) : ∀ l, P l := by
  intro l
  have : ∀ n (l : List UInt8), l.length = n → P l := by
    intro n
    induction n with
    | zero => intro l h; rw [List.length_eq_zero_iff.1 h]; exact h0
    | succ n ih =>
      intro l h
      rcases snoc_of l with rfl | ⟨r, c, rfl⟩
      · simp at h
      · exact h1 r c (ih r (by simpa using h))
  exact this _ l rfl

theorem run_stuff : ∀ l, run (stuffL l) ≤ 4 := by
  refine snoc_ind (by decide) fun l c ih => ?_
  rw [stuffL_snoc]
  unfold stf
  split
  · rename_i h
    by_cases e : flip c = c
    · exfalso; unfold flip at e; split at e <;> simp_all
    · rw [run_snoc_other _ (flip c) c (fun h => e h.symm)]; omega
  · rename_i h
    rcases run_step (stuffL l) c with h' | h' <;> omega
theorem stuff_bits : ∀ l, AllB l → AllB (stuffL l) := by
  refine snoc_ind (fun _ => AllB.nil) fun l c ih h => ?_
  obtain ⟨hl, hc⟩ := h.front
  rw [stuffL_snoc]
  unfold stf
  split
  · exact ((ih hl).snoc hc).snoc (flip_bit c)
  · exact (ih hl).snoc hc

/-! ### Never six alike. -/
theorem stuff_never : ∀ l k, run ((stuffL l).take k) ≤ 5 := by
  refine snoc_ind (fun k => by simp [stuffL_nil]; decide) fun l c ih k => ?_
  have h4 := run_stuff l
  rw [stuffL_snoc]
  unfold stf
  have hb : ∀ k, run ((stuffL l ++ [c]).take k) ≤ 5 := by
    intro k
    by_cases hk : k ≤ (stuffL l).length
    · rw [List.take_append_of_le_length hk]; exact ih k
    · rw [List.take_of_length_le (by simp; omega)]
      rcases run_step (stuffL l) c with h' | h' <;> omega
  split
  · by_cases hk : k ≤ (stuffL l ++ [c]).length
    · rw [List.take_append_of_le_length hk]; exact hb k
    · rw [List.take_of_length_le (by simp at hk ⊢; omega)]
      by_cases e : flip c = c
      · exfalso; unfold flip at e; split at e <;> simp_all
      · rw [run_snoc_other _ (flip c) c (fun h => e h.symm)]; omega
  · exact hb k

/-! ### How many are put in. -/
theorem stuff_len : ∀ l, l.length ≤ (stuffL l).length ∧ (l ≠ [] → 1 ≤ run (stuffL l) ∧ 4 * ((stuffL l).length - l.length) + run (stuffL l) ≤ l.length) := by
  refine snoc_ind ⟨by simp [stuffL_nil], fun h => absurd rfl h⟩ fun l c ih => ?_
  obtain ⟨i1, i2⟩ := ih
  have h4 := run_stuff l
  have hp := run_pos (stuffL l) c
  have hst := run_step (stuffL l) c
  have h0 : l = [] → (stuffL l).length = 0 ∧ run (stuffL l) = 0 := by intro e; subst e; exact ⟨rfl, rfl⟩
  rw [stuffL_snoc]
  unfold stf
  split
  · rename_i h5
    have hf : run (stuffL l ++ [c] ++ [flip c]) = 1 := by
      by_cases e : flip c = c
      · exfalso; unfold flip at e; split at e <;> simp_all
      · exact run_snoc_other _ (flip c) c (fun h => e h.symm)
    rw [hf]
    simp only [List.length_append, List.length_singleton]
    refine ⟨by omega, fun _ => ⟨by omega, ?_⟩⟩
    by_cases e : l = []
    · have := h0 e; omega
    · have := i2 e; omega
  · rename_i h5
    simp only [List.length_append, List.length_singleton]
    refine ⟨by omega, fun _ => ⟨hp, ?_⟩⟩
    by_cases e : l = []
    · have h1 := h0 e; have : l.length = 0 := by rw [e]; rfl
      omega
    · have := i2 e; omega
theorem stuff_most (l : List UInt8) : (stuffL l).length ≤ l.length + (l.length - 1) / 4 := by
  obtain ⟨h1, h2⟩ := stuff_len l
  by_cases e : l = []
  · subst e; simp [stuffL_nil]
  · have := h2 e; omega

/-! ### Taken out again. -/
/-- What has come out of the bits so far: nothing where they are none that stuffing makes. -/
def unS (p : List UInt8) (o : Option (List UInt8)) (c : UInt8) : Option (List UInt8) :=
  match o with
  | none => none
  | some l => if run p = 5 then (if lastC p = (c.toNat : Int) then none else some l) else some (l ++ [c])
def unF : List UInt8 × Option (List UInt8) → UInt8 → List UInt8 × Option (List UInt8) := fun st c => (st.1 ++ [c], unS st.1 st.2 c)
def unP (s : List UInt8) : Option (List UInt8) := (s.foldl unF ([], some [])).2
theorem unP_fst (s : List UInt8) : (s.foldl unF ([], some [])).1 = s := by
  refine snoc_ind (P := fun s => (s.foldl unF ([], some [])).1 = s) rfl (fun l c ih => ?_) s
  rw [List.foldl_append]; simp [unF, ih]
theorem unP_nil : unP [] = some [] := rfl
theorem unP_snoc (s : List UInt8) (c : UInt8) : unP (s ++ [c]) = unS s (unP s) c := by
  have h := unP_fst s
  unfold unP
  rw [List.foldl_append]
  simp [unF, h]
/-- What comes out of the whole. -/
def unL (s : List UInt8) : Option (List UInt8) := if run s = 5 then none else unP s

theorem un_stuff : ∀ l, AllB l → unP (stuffL l) = some l := by
  refine snoc_ind (fun _ => rfl) fun l c ih h => ?_
  obtain ⟨hl, hc⟩ := h.front
  have h4 := run_stuff l
  have h1 : unP (stuffL l ++ [c]) = some (l ++ [c]) := by
    rw [unP_snoc, ih hl]; unfold unS; simp only; rw [if_neg (by omega)]
  rw [stuffL_snoc]
  unfold stf
  split
  · rename_i h5
    rw [unP_snoc, h1]; unfold unS; simp only
    rw [if_pos h5, lastC_snoc, if_neg]
    intro e
    exact flip_ne hc (UInt8.toNat_inj.1 (by omega))
  · exact h1
theorem unL_stuff (l : List UInt8) (h : AllB l) : unL (stuffL l) = some l := by
  have := run_stuff l
  unfold unL
  rw [if_neg (by omega), un_stuff l h]

theorem stuff_un : ∀ s, AllB s → ∀ o, unP s = some o → run s ≤ 5 ∧ AllB o ∧ (if run s = 5 then ∃ r c, s = r ++ [c] ∧ stuffL o = s ++ [flip c] else stuffL o = s) := by
  refine snoc_ind (fun _ o h => ?_) fun s c ih h o ho => ?_
  · simp [unP_nil] at h; subst h
    exact ⟨by decide, AllB.nil, by rw [if_neg (by decide)]; rfl⟩
  · obtain ⟨hs, hc⟩ := h.front
    rw [unP_snoc] at ho
    cases hp : unP s with
    | none => rw [hp] at ho; simp [unS] at ho
    | some o' =>
      rw [hp] at ho
      obtain ⟨i1, i2, i3⟩ := ih hs o' hp
      unfold unS at ho
      simp only at ho
      by_cases h5 : run s = 5
      · rw [if_pos h5] at ho i3
        obtain ⟨r, d, rfl, i4⟩ := i3
        have hd := hs.front.2
        by_cases e : lastC (r ++ [d]) = (c.toNat : Int)
        · rw [if_pos e] at ho; cases ho
        · rw [if_neg e] at ho
          cases ho
          rw [lastC_snoc] at e
          have hn : c ≠ d := fun h => e (by rw [h])
          have hf := eq_flip hd hc hn
          subst hf
          rw [run_flip r hd]
          exact ⟨by omega, i2, by rw [if_neg (by omega)]; exact i4⟩
      · rw [if_neg h5] at ho i3
        cases ho
        refine ⟨by rcases run_step s c with h' | h' <;> omega, i2.snoc hc, ?_⟩
        rw [stuffL_snoc, i3]
        unfold stf
        split
        · exact ⟨s, c, rfl, rfl⟩
        · rfl
theorem unL_back {s o : List UInt8} (h : AllB s) (ho : unL s = some o) : stuffL o = s ∧ AllB o := by
  unfold unL at ho
  by_cases h5 : run s = 5
  · rw [if_pos h5] at ho; cases ho
  · rw [if_neg h5] at ho
    obtain ⟨_, i2, i3⟩ := stuff_un s h o ho
    rw [if_neg h5] at i3
    exact ⟨i3, i2⟩
theorem unP_len : ∀ s o, unP s = some o → o.length ≤ s.length := by
  refine snoc_ind (fun o h => by simp [unP_nil] at h; subst h; simp) fun s c ih o ho => ?_
  rw [unP_snoc] at ho
  cases hp : unP s with
  | none => rw [hp] at ho; simp [unS] at ho
  | some o' =>
    rw [hp] at ho
    have := ih o' hp
    unfold unS at ho
    simp only at ho
    split at ho
    · split at ho
      · cases ho
      · cases ho; simp; omega
    · cases ho; simp; omega

end Go.Proofs.Ytnabcnmgfchceaa
