/- Contracts of headIn, of the head's need and of NeedOf, of the program. -/
import Derived.Test.YtngcekegngmedaaGreatDoorM1
import Derived.Test.YtngcekegngmedaaGreatDoorM13
import Derived.Test.YtngcekegngmedaaGreatDoorM14

set_option linter.unusedVariables false
set_option linter.unusedSimpArgs false
set_option maxRecDepth 20000
namespace Go.Proofs.YtngcekegngmedaaGreatDoor
open Go.RowKit

theorem u8_eq49 (c : UInt8) : (((c.toNat : Int)) == 49) = (c == 49) := by
  by_cases h : c = 49
  · rw [h]; rfl
  · rw [beq_eq_false_iff_ne.2 h, beq_eq_false_iff_ne.2 (u8_ne49 h)]
/-- What headIn answers. -/
def HeadR (s : ByteArray) (w : World) (e : Ending) (w' : World) : Prop :=
  Below w.heap.size w w' ∧ ((okB s = true ∧ 19 ≤ s.size ∧ e = .returned (.tuple #[.agg #[.int .i64 (numV (idS s)), .bool (byteAt s 12 == 49), .int .i64 (numV (lenS s))], .nilIface])) ∨
    (¬ (okB s = true ∧ 19 ≤ s.size) ∧ e = .returned (.tuple #[.agg #[.int .i64 0, .bool false, .int .i64 0], .iface 226 (.int .i64 1)])))

/-- impl.headIn. -/
theorem implHeadIn (s : ByteArray) (w : World) (hs : s.size ≤ maxLen) :
    Calls Tryz.prog 253 #[.string s] w (HeadR s w) := by
  have hs' := hs
  unfold maxLen at hs'
  go_enter Tryz.func253, Tryz.ntmps253
  go_wp2_with fail
  refine (implOk _ _ hs).mono ?_
  rintro e w1 ⟨rfl, b1⟩
  have hx := (Hx.made w (.int .i64 0) (.bool false) (.int .i64 0)).below b1 (by simp)
  replace b1 := (Below.alloc (Below.refl w.heap.size w) (Nat.le_refl _) _).trans (b1.mono (by simp))
  have hg : w.heap.size ≤ w.heap.size := Nat.le_refl _
  generalize hgr : w.heap.size = g at hx hg ⊢
  have c0 := hx.c0
  have c1 := hx.c1
  have c2 := hx.c2
  have q0 := hx.free 0
  have q1 := hx.free 1
  have q2 := hx.free 2
  by_cases hh : okB s = true ∧ 19 ≤ s.size
  · have HH := Lib.hid hh
    obtain ⟨hb, h19⟩ := hh
    have hsp : (s.extract 1 12).size = 11 := size_ext (by omega)
    have hsq : (s.extract 15 19).size = 4 := size_ext h19
    have i12 := fun W : World => index_at s 12 12 W (by omega) rfl
    simp only [byteAt_eq] at i12
    have hn := u8_eq49 (byteAt s 12)
    obtain ⟨rm, hrm⟩ : ∃ rm : Bool, rm = (byteAt s 12 == 49) := ⟨_, rfl⟩
    rw [← hrm] at hn
    have HN := Lib.hid hrm
    generalize ((byteAt s 12).toNat : Int) = d at i12 hn
    clear hrm
    go_wp2_with fail
    refine (implNum _ _ (by rw [hsp]; decide)).mono ?_
    rintro e w2 ⟨rfl, b2⟩
    replace hx := hx.below b2 hx.lt
    replace b1 := b1.trans (b2.mono (by have := b1.size; omega))
    clear b2 c0 c1 c2 q0 q1 q2
    have HI := Lib.hid (show numV (idS s) = numV (s.extract 1 12) from rfl)
    have HL := Lib.hid (show numV (lenS s) = numV (s.extract 15 19) from rfl)
    generalize numV (s.extract 1 12) = id at HI ⊢
    generalize numOk (s.extract 1 12) = k1
    go_wp2_with fail
    refine (implNum _ _ (by rw [hsq]; decide)).mono ?_
    rintro e w3 ⟨rfl, b2⟩
    replace hx := hx.below b2 hx.lt
    replace b1 := b1.trans (b2.mono (by have := b1.size; omega))
    clear b2
    have c0 := hx.c0
    have c1 := hx.c1
    have c2 := hx.c2
    have q0 := hx.free 0
    have q1 := hx.free 1
    have q2 := hx.free 2
    generalize numV (s.extract 15 19) = ln at HL ⊢
    generalize numOk (s.extract 15 19) = k2
    go_wp2_with fail
    have hy := hx.set (.int .i64 id) (.bool rm) (.int .i64 ln)
    replace b1 := Below.set3 b1 (Nat.le_of_eq hgr) (.int .i64 id) (.bool rm) (.int .i64 ln)
    generalize ((w3.setCell ⟨g, 0, none⟩ (.int .i64 id)).setCell ⟨g, 1, none⟩ (.bool rm)).setCell ⟨g, 2, none⟩ (.int .i64 ln) = W at hy b1 ⊢
    have z0 := hy.c0
    have z1 := hy.c1
    have z2 := hy.c2
    refine bodyPost_ret (v := .tuple #[.agg #[.int .i64 id, .bool rm, .int .i64 ln], .nilIface]) (by simp [results, Tryz.results253, go_sem, z0, z1, z2]) rfl ⟨b1, .inl ⟨HH.out.1, HH.out.2, ?_⟩⟩
    rw [HI.out, HL.out, HN.out]
  · have HH := Lib.hid hh
    have fin : ∀ (a : Act) (W : World), a.tmps[2]?.getD undef = .pointer (some ⟨g, 0, none⟩) → a.tmps[3]?.getD undef = .iface 226 (.int .i64 1) → a.defers = [] → Hx g (.int .i64 0) (.bool false) (.int .i64 0) W → Below w.heap.size w W → bodyPost Tryz.prog Tryz.f253 (HeadR s w) .ret a W := by
      intro a W h2 h3 h4 hy b
      have z0 := hy.c0
      have z1 := hy.c1
      have z2 := hy.c2
      exact bodyPost_ret (v := .tuple #[.agg #[.int .i64 0, .bool false, .int .i64 0], .iface 226 (.int .i64 1)]) (by simp [results, Tryz.results253, go_sem, h2, h3, z0, z1, z2]) h4 ⟨b, .inr ⟨HH.out, rfl⟩⟩
    cases hb : okB s with
    | false =>
      clear hh
      go_wp2_with fail
      exact fin _ _ rfl rfl rfl (hx.set _ _ _) (Below.set3 b1 (Nat.le_of_eq hgr) _ _ _)
    | true =>
      have h19 : ¬ 19 ≤ s.size := fun e => hh ⟨hb, e⟩
      clear hh
      go_wp2_with fail
      exact fin _ _ rfl rfl rfl (hx.set _ _ _) (Below.set3 b1 (Nat.le_of_eq hgr) _ _ _)

theorem dataSz (id : Int) (rm : Bool) (ln : Int) (w : World) :
    Calls Tryz.prog 167 #[.agg #[.int .i64 id, .bool rm, .int .i64 ln]] w fun e w' => e = .returned (.int .i64 (if rm = true then 0 else ln)) ∧ Below w.heap.size w w' := by
  go_enter Tryz.func167, Tryz.ntmps167
  cases rm with
  | true =>
    go_wp2
    go_ret
    exact ⟨rfl, (Below.refl _ _).alloc (Nat.le_refl _) _⟩
  | false =>
    go_wp2
    go_ret
    exact ⟨rfl, (Below.refl _ _).alloc (Nat.le_refl _) _⟩
/-- The need of a head. -/
theorem headNeed (id : Int) (rm : Bool) (ln n v : Int) (w : World) (hn : n = if rm = true then 0 else ln) (hb : 0 ≤ n ∧ n ≤ 4294967295) (hv : v = 34 + 8 * (if n < 8 then n else 8)) :
    Calls Tryz.prog 255 #[.agg #[.int .i64 id, .bool rm, .int .i64 ln]] w fun e w' => e = .returned (.int .i64 v) ∧ Below w.heap.size w w' := by
  go_enter Tryz.func255, Tryz.ntmps255
  go_wp2_with fail
  refine (dataSz _ _ _ _).mono ?_
  rintro e w1 ⟨rfl, b1⟩
  replace b1 := (Below.alloc (Below.refl w.heap.size w) (Nat.le_refl _) _).trans (b1.mono (by simp))
  rw [← hn]
  clear hn
  by_cases h8 : n < 8
  · rw [if_pos h8] at hv
    have HV := Lib.hid hv
    clear hv
    go_wp2_with fail
    go_ret
    exact ⟨ret_int (by have := HV.out; omega), b1⟩
  · rw [if_neg h8] at hv
    have HV := Lib.hid hv
    clear hv
    go_wp2_with fail
    · go_ret
      exact ⟨ret_int (by have := HV.out; omega), b1⟩
    · go_ret
      exact ⟨ret_int (by have := HV.out; omega), b1⟩
/-- impl.NeedOf. -/
theorem implNeed (s : ByteArray) (w : World) (hs : s.size ≤ maxLen) :
    Calls Tryz.prog 220 #[.string s] w fun e w' => e = .returned (.int .i64 (needV s)) ∧ Below w.heap.size w w' := by
  go_enter Tryz.func220, Tryz.ntmps220
  go_wp2_with fail
  refine (implHeadIn _ _ hs).mono ?_
  rintro e w1 ⟨b1, h | h⟩
  · obtain ⟨hb, h19, rfl⟩ := h
    have HV := Lib.hid (needV_eq hb h19)
    have hbd := numV_bd (lenS s)
    generalize (byteAt s 12 == 49) = rm at *
    generalize numV (lenS s) = ln at *
    generalize numV (idS s) = id at *
    clear hb h19
    go_wp2_with fail
    refine (is_nil _ _).mono ?_
    rintro e w2 ⟨rfl, rfl⟩
    go_wp2_with fail
    obtain ⟨n, hn⟩ : ∃ n : Int, n = (if rm = true then 0 else ln) := ⟨_, rfl⟩
    rw [← hn] at HV
    have hnb : 0 ≤ n ∧ n ≤ 4294967295 := by rw [hn]; split <;> omega
    refine (headNeed id rm ln n (needV s) _ hn hnb HV.out).mono ?_
    rintro e w2 ⟨rfl, b2⟩
    clear hn
    go_wp2_with fail
    go_ret
    exact ⟨rfl, (b1.alloc b1.size _).trans (b2.mono (by have := b1.size; simp; omega))⟩
  · obtain ⟨hno, rfl⟩ := h
    have HV : Hid (needV s = -1) := Lib.hid (by rw [needV, if_neg hno])
    clear hno
    go_wp2_with fail
    refine (is_same _ _).mono ?_
    rintro e w2 ⟨rfl, rfl⟩
    go_wp2_with fail
    go_ret
    exact ⟨ret_int HV.out.symm, b1.alloc b1.size _⟩
end Go.Proofs.YtngcekegngmedaaGreatDoor
