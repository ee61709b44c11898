/- Contracts of the program's NextBit and Drives. -/
import Derived.Test.YtjlegnnekjcpmaaGreatM25
set_option linter.unusedVariables false
set_option linter.unusedSimpArgs false
set_option maxRecDepth 20000
namespace Go.Proofs.YtjlegnnekjcpmaaGreat
open Go.RowKit

/-- impl.other. -/
theorem implOther (l : Int) (w : World) (h0 : 0 ≤ l) (h1 : l ≤ 1) : Calls Tryz.prog 137 #[.int .i64 l] w fun e w' => e = .returned (.int .i64 (1 - l)) ∧ w = w' := by
  have hw : IntKind.i64.wrap (1 - l) = 1 - l := IntWalk.i64_in _ (by omega)
  go_enter Tryz.func137, Tryz.ntmps137
  go_wp2_with fail
  go_ret
  exact ⟨rfl, rfl⟩
set_option maxHeartbeats 4000000 in
/-- impl.nextBit. -/
theorem implNext (n : Nd) (p : NdP) (w : World) (hm : NdM n p w) (hok : nodeB n = true) :
    Calls Tryz.prog 101 #[ndV n p] w fun e w' => e = .returned (.int .i64 (nextV n)) ∧ Below w.heap.size w w' := by
  have X := NC.made hm
  obtain ⟨-, -, ⟨hl0, hl1⟩, hfr, h98⟩ := nodeB_parts hok
  have hfl : (fullF n.fr).size ≤ 98 := full_len _ _ _ _
  have HB := Lib.hid (fun (k : Nat) (h : k < (fullF n.fr).size) => full_bit hfr h)
  have hff : Hid (fullF n.fr = fullV n.fr.id n.fr.rm n.fr.ln n.fr.D) := Lib.hid rfl
  have HV : Hid (nextV n = if n.run = 5 then 1 - n.last else if (fullF n.fr).size ≤ n.got.size then 1 else ((byteAt (fullF n.fr) n.got.size).toNat : Int) - 48) := Lib.hid rfl
  clear hok hfr
  go_enter Tryz.func101, Tryz.ntmps101
  go_upto_region 1 with fail
  generalize w.alloc _ = W at X ⊢
  generalize w.heap.size = g at X
  have hb := X.nx.bel
  obtain ⟨c0, c1, c2, c3, c4, c5, c6, c7, c8, c9, c10, c11, c12, c13, c14, c15, c16, c17⟩ := X.nx.cells
  by_cases h5 : n.run = 5
  · replace HV := Lib.hid (HV.out.trans (if_pos h5))
    have h5' : (n.run == 5) = true := beq_iff_eq.2 h5
    go_wp2_with fail
    refine (implOther n.last _ hl0 hl1).mono ?_
    rintro e w2 ⟨rfl, rfl⟩
    go_wp2_with fail
    go_ret
    exact ⟨by rw [HV.out]; rfl, hb⟩
  replace HV := Lib.hid (HV.out.trans (if_neg h5))
  have h5' : (n.run == 5) = false := beq_eq_false_iff_ne.2 h5
  clear h5
  go_wp2_with fail
  refine (implChecked _ _ _ _ _ _ _ X.m.nums).mono ?_
  rintro e w1 ⟨he, b⟩
  rw [← hff.out] at he
  subst he
  replace X := X.below b
  replace hb := X.nx.bel
  clear b hff c0 c1 c2 c3 c4 c5 c6 c7 c8 c9 c10 c11 c12 c13 c14 c15 c16 c17
  obtain ⟨c0, c1, c2, c3, c4, c5, c6, c7, c8, c9, c10, c11, c12, c13, c14, c15, c16, c17⟩ := X.nx.cells
  generalize fullF n.fr = u at *
  by_cases hlt : n.got.size < u.size
  · replace HV := Lib.hid (HV.out.trans (if_neg (by omega)))
    have hi := fun W : World => index_at u n.got.size n.got.size W hlt rfl
    simp only [byteAt_eq] at hi
    rcases HB.out _ hlt with e | e
    · rw [e] at hi HV
      have hi' : ∀ W : World, (Instr.index 9 (.string u) (.int .i64 n.got.size)).run Tryz.prog W = .ok (.int .u8 48) W := hi
      clear hi HB e
      go_wp2_with fail
      go_ret
      exact ⟨by rw [HV.out]; rfl, hb⟩
    · rw [e] at hi HV
      have hi' : ∀ W : World, (Instr.index 9 (.string u) (.int .i64 n.got.size)).run Tryz.prog W = .ok (.int .u8 49) W := hi
      clear hi HB e
      go_wp2_with fail
      go_ret
      exact ⟨by rw [HV.out]; rfl, hb⟩
  · replace HV := Lib.hid (HV.out.trans (if_pos (by omega)))
    clear HB
    go_wp2_with fail
    go_ret
    exact ⟨by rw [HV.out]; rfl, hb⟩
set_option maxHeartbeats 4000000 in
/-- impl.NextBit. -/
theorem implNextBit (n : Nd) (p : NdP) (w : World) (hm : NdM n p w) :
    Calls Tryz.prog 47 #[ndV n p] w fun e w' => e = .returned (.int .i64 (nextN n)) ∧ Below w.heap.size w w' := by
  have X := NC.made hm
  have HV : Hid (nextN n = if n.ph = 1 ∧ nodeB n = true then nextV n else 1) := Lib.hid rfl
  go_enter Tryz.func47, Tryz.ntmps47
  go_upto_region 1 with fail
  generalize w.alloc _ = W at X ⊢
  generalize w.heap.size = g at X
  have hb := X.nx.bel
  obtain ⟨c0, c1, c2, c3, c4, c5, c6, c7, c8, c9, c10, c11, c12, c13, c14, c15, c16, c17⟩ := X.nx.cells
  by_cases h1 : n.ph = 1
  case neg =>
    have h1' : (n.ph != 1) = true := bne_iff_ne.2 h1
    replace HV := Lib.hid (HV.out.trans (if_neg (fun h => h1 h.1)))
    go_wp2_with fail
    go_ret
    exact ⟨by rw [HV.out]; rfl, hb⟩
  have h1' : (n.ph != 1) = false := by simp [h1]
  have HP := Lib.hid h1
  clear h1
  go_wp2_with (refine X.nx.take rfl rfl rfl ?_)
  refine (implNodeOk n p _ X.m).mono ?_
  rintro e w1 ⟨rfl, b⟩
  replace X := X.below b
  replace hb := X.nx.bel
  clear b c0 c1 c2 c3 c4 c5 c6 c7 c8 c9 c10 c11 c12 c13 c14 c15 c16 c17
  obtain ⟨c0, c1, c2, c3, c4, c5, c6, c7, c8, c9, c10, c11, c12, c13, c14, c15, c16, c17⟩ := X.nx.cells
  cases hok : nodeB n
  · replace HV := Lib.hid (HV.out.trans (if_neg (fun h => by rw [hok] at h; cases h.2)))
    clear hok
    go_wp2_with fail
    go_ret
    exact ⟨by rw [HV.out]; rfl, hb⟩
  · replace HV := Lib.hid (HV.out.trans (if_pos ⟨HP.out, hok⟩))
    have hok' := Lib.hid hok
    clear hok
    go_wp2_with (refine X.nx.take rfl rfl rfl ?_)
    refine (implNext n p _ X.m hok'.out).mono ?_
    rintro e w2 ⟨rfl, b⟩
    replace hb := Below.then2 hb b
    generalize nextV n = v at *
    go_wp2_with fail
    go_ret
    exact ⟨by rw [HV.out]; rfl, hb⟩
end Go.Proofs.YtjlegnnekjcpmaaGreat

