/- Bounds, the program: what is told of a message and what it waits for; standingOf. -/
import Derived.Test.YtohjfjcpkloigaaM13
import Derived.Test.YtohjfjcpkloigaaM14
import Derived.Test.YtohjfjcpkloigaaM15
import Derived.WalkMore
import Derived.Test.YtohjfjcpkloigaaM17

set_option linter.unusedVariables false
set_option linter.unusedSimpArgs false
set_option maxRecDepth 20000
namespace Go.Proofs.Ytohjfjcpkloigaa
open Go.RowKit

abbrev stC (m : Ms) (co bl : Int) (a : Option Addr) (n c : Nat) : Array Value := #[.int .i64 m.id, .int .i64 m.sz, .int .i64 m.pe, .int .i64 m.ji, .int .i64 m.de, .int .i64 m.no, .int .i64 co, .int .i64 bl, .slice a n c]
abbrev sdV (m : Ms) (co bl : Int) (a : Option Addr) (n c : Nat) : Value := .agg #[.int .i64 m.id, .int .i64 m.sz, .int .i64 m.pe, .int .i64 m.ji, .int .i64 m.de, .int .i64 m.no, .int .i64 co, .int .i64 bl, .slice a n c]
abbrev zeM : Ms := ⟨0, 0, 0, 0, 0, 0⟩
theorem stC_one (m : Ms) (co bl : Int) (a : Option Addr) (n c : Nat) : (stC m co bl a n c).all (·.oneCell') = true := by simp [Value.oneCell']
theorem mid_setRowT (w : World) (g : Nat) (C : Array Value) : Mid g (g + 1) w (w.setRow g C) := ⟨rfl, rfl, rfl, by simp, fun k _ hc => setRow_other _ _ _ _ (by omega)⟩
section
variable {m : Ms} {co bl : Int} {a : Option Addr} {n c g : Nat} {w W : World} {T : TypeId} {C : Array Value} {ops : Array Oper} {rest : List Oper} {o : Oper} {act : Act} {Q : Exit → Act → World → Prop} {x y : Operand}
theorem stTook (h : w.heap[g]? = some (.cells (stC m co bl a n c) T (0, 0))) (ho : o.op = .load 60 x) (hx : act.eval x = .pointer (some ⟨g, 0, none⟩)) : (execOp act.eval o).run Try.prog w = .ok (.value (sdV m co bl a n c)) w := by
  unfold execOp
  simp only [ho, hx, Instr.loadAt, Instr.sureAddr, Sem.run_bind, Sem.run_pure, Result.andThen_ok, run_loadVar_row w g T 60 (stC m co bl a n c) (0, 0) _ h Try.underlying60 rfl (by kernel_rfl)]
theorem stTake (ho : o.op = .load 60 x) (hx : act.eval x = .pointer (some ⟨g, 0, none⟩)) (h : w.heap[g]? = some (.cells (stC m co bl a n c) T (0, 0)))
    (hw : Region.wanted o (yielded ops act.tmps) = true) (k : wpList Try.prog ops Q rest (act.put o.dst (sdV m co bl a n c)) w) : wpList Try.prog ops Q (o :: rest) act w :=
  BigFrame.wpList_want hw fun _ hK => wp_load_row 60 x ho g hx T (stC m co bl a n c) (0, 0) _ h Try.underlying60 rfl (by kernel_rfl) (hK _ _ k)
theorem stPut (ho : o.op = .store 60 x y) (hg : o.guard = none) (hx : act.eval x = .pointer (some ⟨g, 0, none⟩)) (hy : act.eval y = sdV m co bl a n c) (h : w.heap[g]? = some (.cells C 60 (0, 0))) (hC : C.size = 9)
    (k : wpList Try.prog ops Q rest (act.put o.dst undef) (w.setRow g (stC m co bl a n c))) : wpList Try.prog ops Q (o :: rest) act w :=
  wpList_store_row hg 60 x y ho g (stC m co bl a n c) hx hy 60 C h (by kernel_rfl) (hC.trans rfl) (stC_one m co bl a n c) k
theorem stLay (ho : o.op = .store 60 x y) (hg : o.guard = none) (hW : W = w.alloc (.cells C 60)) (hx : act.eval x = .pointer (some ⟨w.heap.size, 0, none⟩)) (hy : act.eval y = sdV m co bl a n c) (hC : C.size = 9)
    (k : wpList Try.prog ops Q rest (act.put o.dst undef) (w.alloc (.cells (stC m co bl a n c) 60))) : wpList Try.prog ops Q (o :: rest) act W := by
  subst hW
  rw [← World.setRow_alloc_new w C (stC m co bl a n c) 60] at k
  exact stPut ho hg hx hy (heap_alloc_new w _) hC k
theorem results_st {fn : Func} {p q : Tmp} {v : Value} (h : fn.results = #[.cell p 60, .tmp q]) (tmps : Array Value) (hp : tmps.getD p undef = .pointer (some ⟨g, 0, none⟩)) (hq : tmps.getD q undef = v)
    (hg : w.heap[g]? = some (.cells C 60 (0, 0))) (hC : C.size = 9) : (results fn tmps).run Try.prog w = .ok (.tuple #[.agg C, v]) w := by
  have hp' : tmps[p]?.getD undef = .pointer (some ⟨g, 0, none⟩) := by simpa using hp
  have hq' : tmps[q]?.getD undef = v := by simpa using hq
  have hl := run_loadVar_row (P := Try.prog) w g 60 60 C (0, 0) _ hg Try.underlying60 rfl (by rw [hC]; kernel_rfl)
  simp [results, h, hp', hq', asAddr, hl]
theorem h_putT {md : Region.Mode} {S : World → Prop} (i g : Nat) {oi : Oper} {fuel : Nat} {listed : Array Bool}
    (hi : ops.toList[i]? = some oi) (hd : oi.dst = none) (hr : Region.ready md ops listed = [i]) (hw : Region.wanted oi (yielded ops act.tmps) = true) (ho : oi.op = .store 60 x y) (hx : act.eval x = .pointer (some ⟨g, 0, none⟩)) (hy : act.eval y = sdV m co bl a n c)
    (hg : w.heap[g]? = some (.cells C 60 (0, 0))) (hC : C.size = 9) (hS : S (w.setRow g (stC m co bl a n c)))
    (k : wpAnyH Try.prog md ops Q S fuel (listed.setIfInBounds i true) act (w.setRow g (stC m co bl a n c))) : wpAnyH Try.prog md ops Q S (fuel + 1) listed act w := by
  refine held_op i (op_at hi) hr hw (wp_store_row 60 x y ho g (stC m co bl a n c) hx hy 60 C hg (by kernel_rfl) (hC.trans rfl) (stC_one m co bl a n c) ⟨hS, ?_⟩)
  rw [hd]
  exact k
end
/-- What standingOf answers. -/
def StR (T : List Ms) (i : Int) (w : World) (e : Ending) (w' : World) : Prop :=
  (hasM T i = false → e = .returned (.tuple #[sdV zeM 0 0 none 0 0, .bool false])) ∧
  (hasM T i = true → ∃ a c, e = .returned (.tuple #[sdV (nthTb T i.toNat) (costV (nthTb T i.toNat)) (blockN T i.toNat T.length) a (pickT T (highN T i.toNat T.length)).length c, .bool true]) ∧ OwnT w.heap.size (pickT T (highN T i.toNat T.length)) (.slice a (pickT T (highN T i.toNat T.length)).length c) w')
set_option maxHeartbeats 8000000 in
/-- impl.standingOf. -/
theorem implStanding (a : Option Addr) (T : List Ms) (c : Nat) (i : Int) (w : World) (hd : Tbl a T w) :
    Calls Try.prog 40 #[.slice a T.length c, .int .i64 i] w fun e w' => StR T i w e w' ∧ Below w.heap.size w w' := by
  have H1 := Lib.hid (fun w h => implHasM a T c i w h)
  have hd0 := hd
  go_enter Try.func40, Try.ntmps40
  have HB := heap_alloc_new w (.cells (stC zeM 0 0 none 0 0) 60)
  have b := below_more (Below.refl w.heap.size w) (.cells (stC zeM 0 0 none 0 0) 60)
  have hg : w.heap.size < (w.alloc (.cells (stC zeM 0 0 none 0 0) 60)).heap.size := by simp
  have hd1 := hd.alloc (.cells (stC zeM 0 0 none 0 0) 60)
  go_upto_region 1 with fail
  generalize w.alloc _ = W at HB b hg hd1 ⊢
  go_wp2_with fail
  refine (H1.out _ hd1).mono ?_
  rintro e w1 ⟨rfl, b1⟩
  replace hd := hd1.below b1
  replace b := Below.then2 b b1
  replace HB := (b1.block _ hg).trans HB
  replace hg := Nat.lt_of_lt_of_le hg b1.size
  clear H1 hd1 b1
  cases hh : hasM T i with
  | false =>
    replace hh := Lib.hid hh
    go_wp2_with (skip; refine stPut (g := w.heap.size) (m := zeM) (co := 0) (bl := 0) (a := none) (n := 0) (c := 0) (C := stC zeM 0 0 none 0 0) (by rfl) (by rfl) (by rfl) (by rfl) HB (by rfl) ?_)
    exact bodyPost_ret (v := .tuple #[sdV zeM 0 0 none 0 0, .bool false]) (results_st (g := w.heap.size) (v := .bool false) Try.results40 _ rfl rfl (setRow_heap _ _ _ _ _ _ HB) rfl) rfl ⟨⟨fun _ => rfl, fun h => absurd h (by rw [hh.out]; simp)⟩, b.trans ((mid_setRowT w1 w.heap.size _).below (Nat.le_refl _) b.size)⟩
  | true =>
    have hV := highV_at hh
    obtain ⟨h0, hi0, hi1⟩ := hasM_iff.1 hh
    replace hh := Lib.hid hh
    obtain ⟨i, rfl⟩ := Int.eq_ofNat_of_zero_le hi0
    simp only [Int.toNat_natCast] at hV
    have hil : i < T.length := by omega
    obtain ⟨hl, hT, -⟩ := codeT_iff.1 h0
    have H2 := Lib.hid (fun w h => implHigherOf a T c (i : Int) w h)
    rw [hV] at H2
    have hp := placesOk_high T i T.length (Nat.le_refl _)
    have hHl := highN_len T i T.length
    have HX := Lib.hid (show StR T (i : Int) w = fun e w' => (hasM T (i : Int) = false → e = .returned (.tuple #[sdV zeM 0 0 none 0 0, .bool false])) ∧ (hasM T (i : Int) = true → ∃ a c, e = .returned (.tuple #[sdV (nthTb T i) (costV (nthTb T i)) (blockN T i T.length) a (pickT T (highN T i T.length)).length c, .bool true]) ∧ OwnT w.heap.size (pickT T (highN T i T.length)) (.slice a (pickT T (highN T i T.length)).length c) w') by unfold StR; simp only [Int.toNat_natCast])
    have HBk := Lib.hid (fun w h => implBlockOf a T c (i : Int) w h)
    have hbv : blockV T (i : Int) = blockN T i T.length := by unfold blockV; rw [if_pos hh.out, Int.toNat_natCast]
    rw [hbv] at HBk
    have hok := allM_at hT hil
    have HC := Lib.hid (fun w => implCostOf (nthTb T i) w (Go.WalkArith.wf_i64 ⟨by have := (mgOk_iff.1 hok).2.1; omega, by have := (mgOk_iff.1 hok).2.1; omega⟩))
    clear hok hV hbv h0 hT
    generalize highN T i T.length = D at *
    generalize blockN T i T.length = bk at *
    go_wp2_with fail
    refine (H2.out _ hd).mono ?_
    rintro e w2 ⟨v, rfl, O, b2⟩
    obtain ⟨ad, cd, rfl, hn⟩ := O.nums
    replace hd := hd.below b2
    replace b := Below.then2 b b2
    replace HB := (b2.block _ hg).trans HB
    replace hg := Nat.lt_of_lt_of_le hg b2.size
    clear b2 O
    go_wp2_with fail
    refine (implMsgsAt a ad T D c cd w2 hd hn (by omega)).mono ?_
    rintro e w3 ⟨⟨k1, -⟩, b2⟩
    obtain ⟨v, rfl, O⟩ := k1 hp
    obtain ⟨av, cv, rfl⟩ := O.is
    have hO : ∀ k, (Value.slice av (pickT T D).length cv).ownBlock = some k → k ≠ w.heap.size := fun k hk => by
      have := (O.low hk).1
      omega
    replace O := (show OwnT w.heap.size (pickT T D) (.slice av (pickT T D).length cv) w3 from ⟨O.1, by
      rcases O.2 with h | ⟨g, cap, cur, e, h1, h2⟩
      · exact .inl h
      · exact .inr ⟨g, cap, cur, e, Nat.le_trans b.size h1, h2⟩⟩)
    replace hd := hd.below b2
    replace b := Below.then2 b b2
    replace HB := (b2.block _ hg).trans HB
    replace hg := Nat.lt_of_lt_of_le hg b2.size
    clear b2 k1 hn hp H2
    replace hO : (Value.slice av (pickT T D).length cv).ownBlock = none ∨ (Value.slice av (pickT T D).length cv).ownBlock ≠ some w.heap.size := .inr fun e => hO _ e rfl
    have hX : ∀ W, OwnT w.heap.size (pickT T D) (.slice av (pickT T D).length cv) W → StR T (i : Int) w (.returned (.tuple #[sdV (nthTb T i) (costV (nthTb T i)) bk av (pickT T D).length cv, .bool true])) W := fun W h => by
      rw [HX.out]
      exact ⟨fun h => absurd h (by rw [hh.out]; simp), fun _ => ⟨_, _, rfl, h⟩⟩
    replace hX := Lib.hid hX
    clear HX hh
    obtain ⟨g, o, rfl, hc⟩ := hd0.2 i hil
    have hgl := hc.lt
    replace hc := hc.below b hgl
    generalize nthTb T i = m at *
    generalize costV m = cc at *
    generalize pickT T D = P at *
    obtain ⟨id, sz, pe, ji, de, no⟩ := m
    dsimp only at *
    have hltI : (i : Int) < T.length := by omega
    go_upto_region 4 with fail
    refine wp_region_held (S := fun u => MsC g (o + i * 6) ⟨id, sz, pe, ji, de, no⟩ u) (by kernel_rfl) ?_
    have b0 : Below w3.heap.size w3 { w3 with drawn := w3.drawn + 1 } := (Below.refl _ _).drew
    replace b := Below.then2 b b0
    replace HB := (b0.block _ hg).trans HB
    replace hg := Nat.lt_of_lt_of_le hg b0.size
    replace O := O.below b0
    replace hc := hc.below b0 hc.lt
    replace hd := hd.below b0
    generalize ({ w3 with drawn := w3.drawn + 1 } : World) = V at b HB hg O hc hd ⊢
    clear b0
    refine h_take 0 21 (.slice (some ⟨g, o, none⟩) T.length c) rfl rfl (by kernel_rfl) (by kernel_rfl) (by kernel_rfl) (fun _ _ _ h => h) rfl (fun u hu => by go_simp) hc ?_
    refine h_take 1 22 (.int .i64 (i : Int)) rfl rfl (by kernel_rfl) (by kernel_rfl) (by kernel_rfl) (fun _ _ _ h => h) rfl (fun u hu => by go_simp) hc ?_
    simp only [Act.put, List.setIfInBounds_toArray, List.set_cons_zero, List.set_cons_succ]
    refine h_take 2 23 (.pointer (some ⟨g, o + i * 6, none⟩)) rfl rfl (by kernel_rfl) (by kernel_rfl) (by kernel_rfl) (fun _ _ _ h => h) rfl (fun u hu => by go_simp) hc ?_
    refine h_take 3 24 (mgV ⟨id, sz, pe, ji, de, no⟩) rfl rfl (by kernel_rfl) (by kernel_rfl) (by kernel_rfl) (fun _ _ _ h => h) rfl (fun u hu => by obtain ⟨c0, c1, c2, c3, c4, c5⟩ := hu; go_simp) hc ?_
    simp only [Act.put, List.setIfInBounds_toArray, List.set_cons_zero, List.set_cons_succ]
    refine h_take 4 25 (.slice (some ⟨g, o, none⟩) T.length c) rfl rfl (by kernel_rfl) (by kernel_rfl) (by kernel_rfl) (fun _ _ _ h => h) rfl (fun u hu => by go_simp) hc ?_
    refine h_take 5 26 (.int .i64 (i : Int)) rfl rfl (by kernel_rfl) (by kernel_rfl) (by kernel_rfl) (fun _ _ _ h => h) rfl (fun u hu => by go_simp) hc ?_
    simp only [Act.put, List.setIfInBounds_toArray, List.set_cons_zero, List.set_cons_succ]
    refine h_take 6 27 (.pointer (some ⟨g, o + i * 6, none⟩)) rfl rfl (by kernel_rfl) (by kernel_rfl) (by kernel_rfl) (fun _ _ _ h => h) rfl (fun u hu => by go_simp) hc ?_
    refine h_take 7 28 (mgV ⟨id, sz, pe, ji, de, no⟩) rfl rfl (by kernel_rfl) (by kernel_rfl) (by kernel_rfl) (fun _ _ _ h => h) rfl (fun u hu => by obtain ⟨c0, c1, c2, c3, c4, c5⟩ := hu; go_simp) hc ?_
    simp only [Act.put, List.setIfInBounds_toArray, List.set_cons_zero, List.set_cons_succ]
    refine h_take 9 30 (.slice (some ⟨g, o, none⟩) T.length c) rfl rfl (by kernel_rfl) (by kernel_rfl) (by kernel_rfl) (fun _ _ _ h => h) rfl (fun u hu => by go_simp) hc ?_
    refine h_take 10 31 (.int .i64 (i : Int)) rfl rfl (by kernel_rfl) (by kernel_rfl) (by kernel_rfl) (fun _ _ _ h => h) rfl (fun u hu => by go_simp) hc ?_
    refine h_take 12 33 (.slice av P.length cv) rfl rfl (by kernel_rfl) (by kernel_rfl) (by kernel_rfl) (fun _ _ _ h => h) rfl (fun u hu => by go_simp) hc ?_
    simp only [Act.put, List.setIfInBounds_toArray, List.set_cons_zero, List.set_cons_succ]
    refine h_call 8 29 18 #[mgV ⟨id, sz, pe, ji, de, no⟩] rfl rfl (by kernel_rfl) rfl (by go_simp) ?_
    refine (HC.out _).mono ?_
    rintro e w4 ⟨rfl, b2⟩
    replace b := Below.then2 b b2
    replace HB := (b2.block _ hg).trans HB
    replace hg := Nat.lt_of_lt_of_le hg b2.size
    replace O := O.below b2
    replace hc := hc.below b2 hc.lt
    replace hd := hd.below b2
    clear b2
    refine ⟨_, rfl, hc, ?_⟩
    simp only [Act.put, List.setIfInBounds_toArray, List.set_cons_zero, List.set_cons_succ]
    refine h_call 11 32 27 #[.slice (some ⟨g, o, none⟩) T.length c, .int .i64 (i : Int)] rfl rfl (by kernel_rfl) rfl (by go_simp) ?_
    refine (HBk.out _ hd).mono ?_
    rintro e w5 ⟨rfl, b2⟩
    replace b := Below.then2 b b2
    replace HB := (b2.block _ hg).trans HB
    replace hg := Nat.lt_of_lt_of_le hg b2.size
    replace O := O.below b2
    replace hc := hc.below b2 hc.lt
    clear b2
    refine ⟨_, rfl, hc, ?_⟩
    simp only [Act.put, List.setIfInBounds_toArray, List.set_cons_zero, List.set_cons_succ]
    refine h_value 13 34 (sdV ⟨id, sz, pe, ji, de, no⟩ cc bk av P.length cv) rfl rfl (by kernel_rfl) rfl (by go_simp) hc ?_
    simp only [Act.put, List.setIfInBounds_toArray, List.set_cons_zero, List.set_cons_succ]
    have m := mid_setRowT w5 w.heap.size (stC ⟨id, sz, pe, ji, de, no⟩ cc bk av P.length cv)
    have hc6 : MsC g (o + i * 6) ⟨id, sz, pe, ji, de, no⟩ (w5.setRow w.heap.size (stC ⟨id, sz, pe, ji, de, no⟩ cc bk av P.length cv)) := hc.below (m.below (Nat.le_refl _) (Nat.le_of_lt hg)) hgl
    refine h_putT 14 w.heap.size (m := ⟨id, sz, pe, ji, de, no⟩) (co := cc) (bl := bk) (a := av) (n := P.length) (c := cv) rfl rfl (by kernel_rfl) rfl rfl rfl rfl HB rfl hc6 ?_
    have HB6 := setRow_heap w5 _ _ (stC ⟨id, sz, pe, ji, de, no⟩ cc bk av P.length cv) _ _ HB
    have O6 : OwnT w.heap.size P (.slice av P.length cv) (w5.setRow w.heap.size (stC ⟨id, sz, pe, ji, de, no⟩ cc bk av P.length cv)) := ownsRow_mid O m (fun q hq => by
      rcases hO with h | h
      · rw [h] at hq; cases hq
      · rw [hq] at h
        have : q ≠ w.heap.size := fun e => h (by rw [e])
        omega)
    have b6 := b.trans (m.below (Nat.le_refl _) b.size)
    generalize w5.setRow _ _ = w6 at HB6 O6 b6 hc6 ⊢
    refine h_value 15 5 (.bool true) rfl rfl (by kernel_rfl) rfl (by go_simp) hc6 ?_
    simp only [Act.put, List.setIfInBounds_toArray, List.set_cons_zero, List.set_cons_succ]
    refine wpAnyH_done (by kernel_rfl) ?_ _
    clear m hc6 hc O hO hd HB
    go_wp2_with fail
    exact bodyPost_ret (v := .tuple #[sdV ⟨id, sz, pe, ji, de, no⟩ cc bk av P.length cv, .bool true]) (results_st (g := w.heap.size) (v := .bool true) Try.results40 _ rfl rfl HB6 rfl) rfl ⟨hX.out _ O6, b6⟩
end Go.Proofs.Ytohjfjcpkloigaa

/- Bounds, the program: atRest, and what comes again and again. -/

set_option linter.unusedVariables false
set_option linter.unusedSimpArgs false
set_option maxRecDepth 20000
namespace Go.Proofs.Ytohjfjcpkloigaa
open Go.RowKit

set_option maxHeartbeats 4000000 in
/-- impl.atRest, of a closure of 1. -/
theorem implAtRest1 (fid : FuncId) (p1 : Value) (F : Int → Int) (most n0 : Int) (K : Nat) (S : World → Prop) (w : World) (hS : ∀ t u, S u → 0 ≤ t → t ≤ most → Calls Try.prog fid #[.int .i64 t, p1] u fun e u' => e = .returned (.int .i64 (F t)) ∧ S u')
    (hce : ∀ args u, (callFunc fid args).run Try.prog u = .ok (.enter fid args) u) (hw : S w) (h0 : 0 ≤ n0) (h1 : n0 ≤ 300000000) (hst : n0 ≤ F n0) (hup : ∀ t, t ≤ F t → F t ≤ F (F t)) (hb : ∀ t, 0 ≤ t → t ≤ most → F t ≤ 300000000) (hm : most ≤ 100000) (hm0 : 0 ≤ most) (hK : (most + 1 - n0).toNat < K) :
    Calls Try.prog 48 #[.int .i64 n0, .int .i64 most, .func (.func fid) #[] #[p1]] w fun e w' => e = .returned (.tuple #[.int .i64 (someR (fixI F most K n0)).1, .bool (someR (fixI F most K n0)).2]) ∧ S w' := by
  obtain ⟨BV, hBV⟩ : ∃ r, fixI F most K n0 = r := ⟨_, rfl⟩
  rw [hBV]
  replace hup := Lib.hid hup
  replace hb := Lib.hid hb
  replace hS := Lib.hid hS
  replace hce := Lib.hid hce
  go_enter Try.func48, Try.ntmps48
  go_wp2_with fail
  go_step3
  go_wp2_with fail
  go_step3
  go_wp2_with fail
  go_loopw [0] (fun t wr => ∃ (tt : Int) (k : Nat), t = .int .i64 tt ∧ fixI F most k tt = BV ∧ (most + 1 - tt).toNat < k ∧ 0 ≤ tt ∧ tt ≤ 300000000 ∧ tt ≤ F tt ∧ S wr) (fun t _ => (most + 1 - Go.RowKit.intOf t).toNat)
  case atStart => exact ⟨n0, K, rfl, hBV, hK, h0, h1, hst, hw⟩
  case round =>
    clear hst hBV
    obtain ⟨tt, k, rfl, hk, hkl, h1, h2, hle, p⟩ := hrel
    obtain ⟨k, rfl⟩ : ∃ k', k = k' + 1 := ⟨k - 1, by omega⟩
    by_cases hmm : tt ≤ most
    · have hbb := hb.out tt h1 hmm
      go_wp2_with fail
      rw [hce.out, Oper.upon_enter]
      refine (hS.out tt _ p h1 hmm).mono ?_
      rintro e w5 ⟨rfl, p5⟩
      by_cases he : F tt = tt
      · have hk' := Lib.hid (hk.symm.trans (fixI_here hmm he))
        have hb1 : (F tt == tt) = true := by rw [he]; simp
        replace he := Lib.hid he
        go_wp2_with fail
        try rw [Exit.noGoto_ret]
        exact bodyPost_ret (v := .tuple #[.int .i64 tt, .bool true]) (by simp [results, Try.results48, go_sem]) rfl ⟨by rw [hk'.out]; rfl, p5⟩
      · have hk' := (fixI_next hmm he).symm.trans hk
        have hup' := hup.out tt hle
        have hgt : tt < F tt := by omega
        have hb1 : (F tt == tt) = false := beq_eq_false_iff_ne.2 he
        clear hk
        generalize hFt : F tt = ft at *
        replace hFt := Lib.hid hFt
        go_wp2_with fail
        go_roundw
        case rel => exact ⟨ft, k, rfl, hk', by omega, by omega, hbb, hup', p5⟩
        case measure => simp [Go.RowKit.intOf]; omega
    · have hk' := Lib.hid (hk.symm.trans (fixI_over hmm))
      clear hk
      go_wp2_with fail
      try rw [Exit.noGoto_ret]
      exact bodyPost_ret (v := .tuple #[.int .i64 0, .bool false]) (by simp [results, Try.results48, go_sem]) rfl ⟨by rw [hk'.out]; rfl, p⟩
set_option maxHeartbeats 4000000 in
/-- impl.atRest, of a closure of 2. -/
theorem implAtRest2 (fid : FuncId) (p1 p2 : Value) (F : Int → Int) (most n0 : Int) (K : Nat) (S : World → Prop) (w : World) (hS : ∀ t u, S u → 0 ≤ t → t ≤ most → Calls Try.prog fid #[.int .i64 t, p1, p2] u fun e u' => e = .returned (.int .i64 (F t)) ∧ S u')
    (hce : ∀ args u, (callFunc fid args).run Try.prog u = .ok (.enter fid args) u) (hw : S w) (h0 : 0 ≤ n0) (h1 : n0 ≤ 300000000) (hst : n0 ≤ F n0) (hup : ∀ t, t ≤ F t → F t ≤ F (F t)) (hb : ∀ t, 0 ≤ t → t ≤ most → F t ≤ 300000000) (hm : most ≤ 100000) (hm0 : 0 ≤ most) (hK : (most + 1 - n0).toNat < K) :
    Calls Try.prog 48 #[.int .i64 n0, .int .i64 most, .func (.func fid) #[] #[p1, p2]] w fun e w' => e = .returned (.tuple #[.int .i64 (someR (fixI F most K n0)).1, .bool (someR (fixI F most K n0)).2]) ∧ S w' := by
  obtain ⟨BV, hBV⟩ : ∃ r, fixI F most K n0 = r := ⟨_, rfl⟩
  rw [hBV]
  replace hup := Lib.hid hup
  replace hb := Lib.hid hb
  replace hS := Lib.hid hS
  replace hce := Lib.hid hce
  go_enter Try.func48, Try.ntmps48
  go_wp2_with fail
  go_step3
  go_wp2_with fail
  go_step3
  go_wp2_with fail
  go_loopw [0] (fun t wr => ∃ (tt : Int) (k : Nat), t = .int .i64 tt ∧ fixI F most k tt = BV ∧ (most + 1 - tt).toNat < k ∧ 0 ≤ tt ∧ tt ≤ 300000000 ∧ tt ≤ F tt ∧ S wr) (fun t _ => (most + 1 - Go.RowKit.intOf t).toNat)
  case atStart => exact ⟨n0, K, rfl, hBV, hK, h0, h1, hst, hw⟩
  case round =>
    clear hst hBV
    obtain ⟨tt, k, rfl, hk, hkl, h1, h2, hle, p⟩ := hrel
    obtain ⟨k, rfl⟩ : ∃ k', k = k' + 1 := ⟨k - 1, by omega⟩
    by_cases hmm : tt ≤ most
    · have hbb := hb.out tt h1 hmm
      go_wp2_with fail
      rw [hce.out, Oper.upon_enter]
      refine (hS.out tt _ p h1 hmm).mono ?_
      rintro e w5 ⟨rfl, p5⟩
      by_cases he : F tt = tt
      · have hk' := Lib.hid (hk.symm.trans (fixI_here hmm he))
        have hb1 : (F tt == tt) = true := by rw [he]; simp
        replace he := Lib.hid he
        go_wp2_with fail
        try rw [Exit.noGoto_ret]
        exact bodyPost_ret (v := .tuple #[.int .i64 tt, .bool true]) (by simp [results, Try.results48, go_sem]) rfl ⟨by rw [hk'.out]; rfl, p5⟩
      · have hk' := (fixI_next hmm he).symm.trans hk
        have hup' := hup.out tt hle
        have hgt : tt < F tt := by omega
        have hb1 : (F tt == tt) = false := beq_eq_false_iff_ne.2 he
        clear hk
        generalize hFt : F tt = ft at *
        replace hFt := Lib.hid hFt
        go_wp2_with fail
        go_roundw
        case rel => exact ⟨ft, k, rfl, hk', by omega, by omega, hbb, hup', p5⟩
        case measure => simp [Go.RowKit.intOf]; omega
    · have hk' := Lib.hid (hk.symm.trans (fixI_over hmm))
      clear hk
      go_wp2_with fail
      try rw [Exit.noGoto_ret]
      exact bodyPost_ret (v := .tuple #[.int .i64 0, .bool false]) (by simp [results, Try.results48, go_sem]) rfl ⟨by rw [hk'.out]; rfl, p⟩
theorem enterBusy (args : Array Value) (u : World) : (callFunc 49 args).run Try.prog u = .ok (.enter 49 args) u := by kernel_rfl
set_option maxHeartbeats 4000000 in
/-- What comes again in BusyOf. -/
theorem implBusyStep (p : Nat) (m : Ms) (cc bk : Int) (av : Option Addr) (P : List Ms) (cv : Nat) (t : Int) (w : World) (hB : w.heap[p]? = some (.cells (stC m cc bk av P.length cv) 60 (0, 0))) (hP : Tbl av P w) (hok : mgOk m = true) (hall : P.all mgOk = true) (hl : P.length ≤ 12) (hbk : 0 ≤ bk ∧ bk ≤ 135) (ht : 0 ≤ t ∧ t ≤ 200000) :
    Calls Try.prog 49 #[.int .i64 t, .pointer (some ⟨p, 0, none⟩)] w fun e w' => e = .returned (.int .i64 (bk + (demA P t P.length + demT m t))) ∧ Below w.heap.size w w' := by
  have hD := demA_bd hall ht.1 P.length (Nat.le_refl _)
  have hE : (P.length : Int) * ((t + 20000) * 135) ≤ 12 * (220000 * 135) := Int.mul_le_mul (by omega) (by omega) (by omega) (by omega)
  have hT := demT_bd hok ht.1
  have HA := Lib.hid (fun w h => implDemAll av P cv t w h hall (by omega) ht)
  have HO := Lib.hid (fun w => implDemOne m t w hok ht)
  clear hall hok
  generalize demA P t P.length = dd at *
  generalize demT m t = dt at *
  obtain ⟨id, sz, pe, ji, de, no⟩ := m
  have wr1 : IntKind.i64.wrap (bk + dd) = bk + dd := by rw [IntKind.wrap_i64]; omega
  have wr2 : IntKind.i64.wrap (bk + dd + dt) = bk + (dd + dt) := by rw [IntKind.wrap_i64]; omega
  go_enter Try.func49, Try.ntmps49
  go_upto_region 1 with fail
  refine region_class (fun u => u.heap[p]? = some (.cells (stC ⟨id, sz, pe, ji, de, no⟩ cc bk av P.length cv) 60 (0, 0)) ∧ Tbl av P u ∧ Below w.heap.size w u) (by kernel_rfl) (by kernel_rfl) ⟨hB, hP, (Below.refl _ _).drew⟩ ?_
  clear hB hP
  repeat first
    | go_big_quiet_skip
    | (go_big_quiet_want
       apply Exists.intro
       refine ⟨fun u hu => ?_, ?_⟩
       · apply quietAt_val
         have e0 := cell_of_row u p 0 _ _ _ hu.1
         have e1 := cell_of_row u p 1 _ _ _ hu.1
         have e2 := cell_of_row u p 2 _ _ _ hu.1
         have e3 := cell_of_row u p 3 _ _ _ hu.1
         have e4 := cell_of_row u p 4 _ _ _ hu.1
         have e5 := cell_of_row u p 5 _ _ _ hu.1
         have e7 := cell_of_row u p 7 _ _ _ hu.1
         have e8 := cell_of_row u p 8 _ _ _ hu.1
         go_simp
         rfl
       simp only [Act.put, List.setIfInBounds_toArray, List.set_cons_zero, List.set_cons_succ]
       go_big_quiet_on)
    | (go_big_quiet_want
       apply Exists.intro
       refine ⟨fun u hu => ?_, ?_⟩
       · apply quietAt_enter 50 #[.slice av P.length cv, .int .i64 t]
         · go_simp
         · refine (HA.out u hu.2.1).mono ?_
           rintro e w2 ⟨rfl, b2⟩
           exact ⟨rfl, (b2.block p (Array.getElem?_eq_some_iff.1 hu.1).1).trans hu.1, hu.2.1.below b2, Below.then2 hu.2.2 b2⟩
       simp only [Act.put, List.setIfInBounds_toArray, List.set_cons_zero, List.set_cons_succ]
       go_big_quiet_on)
    | (go_big_quiet_want
       apply Exists.intro
       refine ⟨fun u hu => ?_, ?_⟩
       · apply quietAt_enter 51 #[mgV ⟨id, sz, pe, ji, de, no⟩, .int .i64 t]
         · go_simp
         · refine (HO.out u).mono ?_
           rintro e w2 ⟨rfl, b2⟩
           exact ⟨rfl, (b2.block p (Array.getElem?_eq_some_iff.1 hu.1).1).trans hu.1, hu.2.1.below b2, Below.then2 hu.2.2 b2⟩
       simp only [Act.put, List.setIfInBounds_toArray, List.set_cons_zero, List.set_cons_succ]
       go_big_quiet_on)
  refine wpQuiet_nil ?_
  intro W2 L2
  have b := L2.2.2
  clear L2
  go_wp2_with fail
  go_ret
  exact ⟨rfl, b⟩
theorem enterWait (args : Array Value) (u : World) : (callFunc 70 args).run Try.prog u = .ok (.enter 70 args) u := by kernel_rfl
set_option maxHeartbeats 4000000 in
/-- What comes again in wait. -/
theorem implWaitStep (q p : Nat) (st : Int) (m : Ms) (cc bk : Int) (av : Option Addr) (P : List Ms) (cv : Nat) (t : Int) (w : World) (hq : w.heap[q]? = some (.cells #[.int .i64 st] 2 (0, 0))) (hB : w.heap[p]? = some (.cells (stC m cc bk av P.length cv) 60 (0, 0))) (hP : Tbl av P w) (hall : P.all mgOk = true) (hl : P.length ≤ 12) (hst : 0 ≤ st ∧ st ≤ 300000000) (ht : 0 ≤ t ∧ t ≤ 199999) :
    Calls Try.prog 70 #[.int .i64 t, .pointer (some ⟨q, 0, none⟩), .pointer (some ⟨p, 0, none⟩)] w fun e w' => e = .returned (.int .i64 (st + demA P (t + 1) P.length)) ∧ Below w.heap.size w w' := by
  have hD := demA_bd hall (show 0 ≤ t + 1 by omega) P.length (Nat.le_refl _)
  have hE : (P.length : Int) * ((t + 1 + 20000) * 135) ≤ 12 * (220000 * 135) := Int.mul_le_mul (by omega) (by omega) (by omega) (by omega)
  have HA := Lib.hid (fun w h => implDemAll av P cv (t + 1) w h hall (by omega) ⟨by omega, by omega⟩)
  clear hall
  generalize demA P (t + 1) P.length = dd at *
  obtain ⟨id, sz, pe, ji, de, no⟩ := m
  have wr1 : IntKind.i64.wrap (t + 1) = t + 1 := by rw [IntKind.wrap_i64]; omega
  have wr2 : IntKind.i64.wrap (st + dd) = st + dd := by rw [IntKind.wrap_i64]; omega
  go_enter Try.func70, Try.ntmps70
  go_upto_region 1 with fail
  refine region_class (fun u => u.heap[q]? = some (.cells #[.int .i64 st] 2 (0, 0)) ∧ u.heap[p]? = some (.cells (stC ⟨id, sz, pe, ji, de, no⟩ cc bk av P.length cv) 60 (0, 0)) ∧ Tbl av P u ∧ Below w.heap.size w u) (by kernel_rfl) (by kernel_rfl) ⟨hq, hB, hP, (Below.refl _ _).drew⟩ ?_
  clear hB hP hq
  repeat first
    | go_big_quiet_skip
    | (go_big_quiet_want
       apply Exists.intro
       refine ⟨fun u hu => ?_, ?_⟩
       · apply quietAt_val
         have e0 := cell_of_row u q 0 _ _ _ hu.1
         have e8 := cell_of_row u p 8 _ _ _ hu.2.1
         go_simp
         rfl
       simp only [Act.put, List.setIfInBounds_toArray, List.set_cons_zero, List.set_cons_succ]
       go_big_quiet_on)
    | (go_big_quiet_want
       apply Exists.intro
       refine ⟨fun u hu => ?_, ?_⟩
       · apply quietAt_enter 50 #[.slice av P.length cv, .int .i64 (t + 1)]
         · go_simp
         · refine (HA.out u hu.2.2.1).mono ?_
           rintro e w2 ⟨rfl, b2⟩
           exact ⟨rfl, (b2.block q (Array.getElem?_eq_some_iff.1 hu.1).1).trans hu.1, (b2.block p (Array.getElem?_eq_some_iff.1 hu.2.1).1).trans hu.2.1, hu.2.2.1.below b2, Below.then2 hu.2.2.2 b2⟩
       simp only [Act.put, List.setIfInBounds_toArray, List.set_cons_zero, List.set_cons_succ]
       go_big_quiet_on)
  refine wpQuiet_nil ?_
  intro W2 L2
  have b := L2.2.2.2
  clear L2
  go_wp2_with fail
  go_ret
  exact ⟨rfl, b⟩
end Go.Proofs.Ytohjfjcpkloigaa

/- Bounds, the program: BusyOf, CountOf, WaitOf, BoundOf, Admitted. -/

set_option linter.unusedVariables false
set_option linter.unusedSimpArgs false
set_option maxRecDepth 20000
namespace Go.Proofs.Ytohjfjcpkloigaa
open Go.RowKit

section
variable {T : List Ms} {i : Nat} (hT : T.all mgOk = true) (hl : T.length ≤ 12) (hi : i < T.length)
include hT hl hi
theorem busyF_bd {t : Int} (h0 : 0 ≤ t) (h1 : t ≤ 100000) : busyF T i t ≤ 300000000 := by
  have hk := highN_len T i T.length
  have d1 := demK_bd hT (placesOk_high T i T.length (Nat.le_refl _)) h0 _ (Nat.le_refl _)
  have d2 := demT_bd (allM_at hT hi) h0
  have d3 := blockN_bd T i T.length
  have hE : ((highN T i T.length).length : Int) * ((t + 20000) * 135) ≤ 12 * (120000 * 135) := Int.mul_le_mul (by omega) (by omega) (by omega) (by omega)
  unfold busyF
  omega
omit hl in
theorem waitB_bd {q : Int} (hq : 0 ≤ q ∧ q ≤ 100000) : 0 ≤ waitB T i q ∧ waitB T i q ≤ 13600000 := by
  have d3 := blockN_bd T i T.length
  have hcc := costV_ok (allM_at hT hi)
  have hqc : 0 ≤ q * costV (nthTb T i) ∧ q * costV (nthTb T i) ≤ 100000 * 135 := ⟨Int.mul_nonneg hq.1 (by omega), Int.mul_le_mul hq.2 hcc.2 (by omega) (by omega)⟩
  unfold waitB
  omega
theorem waitF_bd {q t : Int} (hq : 0 ≤ q ∧ q ≤ 100000) (h0 : 0 ≤ t) (h1 : t ≤ 100000) : waitF T i q t ≤ 300000000 := by
  have hk := highN_len T i T.length
  have d1 := demK_bd hT (placesOk_high T i T.length (Nat.le_refl _)) (show 0 ≤ t + 1 by omega) _ (Nat.le_refl _)
  have d2 := waitB_bd hT hi hq
  have hE : ((highN T i T.length).length : Int) * ((t + 1 + 20000) * 135) ≤ 12 * (130000 * 135) := Int.mul_le_mul (by omega) (by omega) (by omega) (by omega)
  unfold waitF
  omega
omit hl in
theorem wait_big {q : Int} (hq : 100000 < q) : waitV T i q = none := by
  have d3 := blockN_bd T i T.length
  have hcc := costV_ok (allM_at hT hi)
  have hqc : q * 55 ≤ q * costV (nthTb T i) := Int.mul_le_mul_of_nonneg_left hcc.1 (by omega)
  exact fixI_over (by unfold waitB; omega)
omit hl in
theorem countN_cases : countN T i = -1 ∨ 0 < countN T i := by
  cases h : busyV T i with
  | none => left; unfold countN; rw [h]
  | some t => exact .inr (countN_pos hT hi h)
end
/-- What wait answers. -/
def waitQ (T : List Ms) (i : Nat) (q : Int) : Int × Bool := if 0 ≤ q ∧ q ≤ 100000 then someR (waitV T i q) else (0, false)
theorem waitQ_eq {T : List Ms} {i : Nat} (hT : T.all mgOk = true) (hi : i < T.length) {q : Int} (h : 0 ≤ q) : waitQ T i q = someR (waitV T i q) := by
  unfold waitQ
  by_cases hq : q ≤ 100000
  · rw [if_pos ⟨h, hq⟩]
  · rw [if_neg (by omega), wait_big hT hi (by omega)]; rfl
set_option maxHeartbeats 4000000 in
/-- impl.BusyOf. -/
theorem implBusyOf (a : Option Addr) (T : List Ms) (c : Nat) (i : Int) (w : World) (hd : Tbl a T w) :
    Calls Try.prog 21 #[.slice a T.length c, .int .i64 i] w fun e w' => e = .returned (.tuple #[.int .i64 (busyR T i).1, .bool (busyR T i).2]) ∧ Below w.heap.size w w' := by
  have HR := Lib.hid (show busyR T i = if hasM T i = true then someR (busyV T i.toNat) else (-1, false) from rfl)
  generalize busyR T i = R at HR ⊢
  go_enter Try.func21, Try.ntmps21
  go_wp2_with fail
  refine (implStanding a T c i w hd).mono ?_
  rintro e w1 ⟨⟨k0, k1⟩, b⟩
  cases hh : hasM T i with
  | false =>
    obtain rfl := k0 hh
    have HV := Lib.hid (HR.out.trans (if_neg (by simp [hh])))
    clear hh k0 k1
    go_upto_region 2 with (skip; refine stLay (w := w1) (m := zeM) (co := 0) (bl := 0) (a := none) (n := 0) (c := 0) (C := stC zeM 0 0 none 0 0) (by rfl) (by rfl) (by rfl) (by rfl) (by rfl) (by rfl) ?_)
    have b2 := below_more b (.cells (stC zeM 0 0 none 0 0) 60)
    generalize w1.alloc _ = W at b2 ⊢
    go_wp2_with fail
    exact bodyPost_ret (v := .tuple #[.int .i64 (-1), .bool false]) (by simp [results, Try.results21, go_sem]) rfl ⟨by rw [HV.out], b2⟩
  | true =>
    obtain ⟨h0, hi0, hi1⟩ := hasM_iff.1 hh
    obtain ⟨i, rfl⟩ := Int.eq_ofNat_of_zero_le hi0
    simp only [Int.toNat_natCast] at k1 HR
    have HV := Lib.hid (HR.out.trans (if_pos hh))
    obtain ⟨av, cv, rfl, O⟩ := k1 hh
    have hil : i < T.length := by omega
    obtain ⟨hl, hT, -⟩ := codeT_iff.1 h0
    clear hh k0 k1 h0 HR
    have hpo := placesOk_high T i T.length (Nat.le_refl _)
    have hPl : (pickT T (highN T i T.length)).length ≤ 12 := by rw [pickT_len]; have := highN_len T i T.length; omega
    have hPo := pickT_ok hT hpo
    have hPd := O.tbl (by omega)
    have hok := allM_at hT hil
    have hbk := blockN_bd T i T.length
    have hcc := costV_ok hok
    have hF : ∀ t, blockN T i T.length + (demA (pickT T (highN T i T.length)) t (pickT T (highN T i T.length)).length + demT (nthTb T i) t) = busyF T i t := fun t => by rw [demA_all]; rfl
    have hst := busyF_start hT hil
    have hup := fun (t : Int) (h : t ≤ busyF T i t) => busyF_mono hT hil t (busyF T i t) h
    have hbb := fun (t : Int) (h : 0 ≤ t) (h1 : t ≤ 100000) => busyF_bd hT hl.2 hil h h1
    have hfix : fixI (busyF T i) 100000 100002 (costV (nthTb T i)) = busyV T i := rfl
    generalize busyV T i = BV at hfix HV
    generalize busyF T i = F at *
    generalize pickT T (highN T i T.length) = P at *
    generalize nthTb T i = m at *
    generalize costV m = cc at *
    generalize blockN T i T.length = bk at *
    replace hF := Lib.hid hF
    replace hst := Lib.hid hst
    replace hup := Lib.hid hup
    replace hbb := Lib.hid hbb
    replace hfix := Lib.hid hfix
    clear O hpo hT
    go_upto_region 2 with (skip; refine stLay (w := w1) (m := m) (co := cc) (bl := bk) (a := av) (n := P.length) (c := cv) (C := stC zeM 0 0 none 0 0) (by rfl) (by rfl) (by rfl) (by rfl) (by rfl) (by rfl) ?_)
    have b2 := below_more b (.cells (stC m cc bk av P.length cv) 60)
    have HB := heap_alloc_new w1 (.cells (stC m cc bk av P.length cv) 60)
    have hPd2 := hPd.alloc (.cells (stC m cc bk av P.length cv) 60)
    generalize w1.alloc _ = W at b2 HB hPd2 ⊢
    generalize w1.heap.size = p at HB ⊢
    clear b hPd hd
    have e6 := cell_of_row W p 6 _ _ _ HB
    simp at e6
    go_wp2_with fail
    refine (implAtRest1 49 (.pointer (some ⟨p, 0, none⟩)) F 100000 cc 100002 (fun u => u.heap[p]? = some (.cells (stC m cc bk av P.length cv) 60 (0, 0)) ∧ Tbl av P u ∧ Below w.heap.size w u) W (fun t u hu h1 h2 => ?_) enterBusy ⟨HB, hPd2, b2⟩ (by omega) (by omega) hst.out hup.out hbb.out (by omega) (by omega) (by omega)).mono ?_
    · refine (implBusyStep p m cc bk av P cv t u hu.1 hu.2.1 hok hPo hPl hbk ⟨h1, by omega⟩).mono ?_
      rintro e u' ⟨rfl, b3⟩
      exact ⟨by rw [hF.out], (b3.block p (Array.getElem?_eq_some_iff.1 hu.1).1).trans hu.1, hu.2.1.below b3, Below.then2 hu.2.2 b3⟩
    rintro e w3 ⟨rfl, -, -, b3⟩
    rw [hfix.out]
    go_wp2_with fail
    exact bodyPost_ret (v := .tuple #[.int .i64 (someR BV).1, .bool (someR BV).2]) (by simp [results, Try.results21, go_sem]) rfl ⟨by rw [HV.out], b3⟩
set_option maxHeartbeats 8000000 in
/-- impl.CountOf. -/
theorem implCountOf (a : Option Addr) (T : List Ms) (c : Nat) (i : Int) (w : World) (hd : Tbl a T w) :
    Calls Try.prog 29 #[.slice a T.length c, .int .i64 i] w fun e w' => e = .returned (.int .i64 (countR T i)) ∧ Below w.heap.size w w' := by
  have HR := Lib.hid (show countR T i = if hasM T i = true then countN T i.toNat else -1 from rfl)
  generalize countR T i = R at HR ⊢
  have H1 := Lib.hid (fun w h => implBusyOf a T c i w h)
  go_enter Try.func29, Try.ntmps29
  cases hh : hasM T i with
  | false =>
    have HV := Lib.hid (HR.out.trans (if_neg (by simp [hh])))
    rw [show busyR T i = (-1, false) from if_neg (by simp [hh])] at H1
    clear hh
    go_wp2_with fail
    refine (H1.out _ hd).mono ?_
    rintro e w1 ⟨rfl, b⟩
    go_wp2_with fail
    go_ret
    exact ⟨by rw [HV.out] <;> rfl, b⟩
  | true =>
    have HV := Lib.hid (HR.out.trans (if_pos hh))
    rw [show busyR T i = someR (busyV T i.toNat) from if_pos hh] at H1
    obtain ⟨h0, hi0, hi1⟩ := hasM_iff.1 hh
    clear hh HR
    obtain ⟨i, rfl⟩ := Int.eq_ofNat_of_zero_le hi0
    simp only [Int.toNat_natCast] at HV H1
    have hil : i < T.length := by omega
    have hT := (codeT_iff.1 h0).2.1
    have hbs := Lib.hid (fun t (h : busyV T i = some t) => busyV_some hT hil h)
    have hok := mgOk_iff.1 (allM_at hT hil)
    have hcc := costV_ok (allM_at hT hil)
    have HN := Lib.hid (show countN T i = match busyV T i with | some t => upV (t + (nthTb T i).ji) (nthTb T i).pe | none => -1 from rfl)
    generalize countN T i = cn at HV HN
    clear h0 hT
    go_wp2_with fail
    refine (H1.out _ hd).mono ?_
    rintro e w2 ⟨rfl, b⟩
    replace hd := hd.below b
    clear H1
    cases hb : busyV T i with
    | none =>
      have HV2 := Lib.hid (HV.out.trans (HN.out.trans (by rw [hb])))
      clear HV HN hb
      simp only [someR]
      go_wp2_with fail
      go_ret
      exact ⟨by rw [HV2.out] <;> rfl, b⟩
    | some t =>
      have HV2 := Lib.hid (HV.out.trans (HN.out.trans (show _ = upV (t + (nthTb T i).ji) (nthTb T i).pe by rw [hb])))
      obtain ⟨-, hb1, hb2, -⟩ := hbs.out t hb
      clear HV HN hb hbs
      obtain ⟨g, o, rfl, hc⟩ := hd.2 i hil
      obtain ⟨-, -, hpe, hji, -, -⟩ := hok
      have HU := Lib.hid (fun w => implUp (t + (nthTb T i).ji) (nthTb T i).pe w (by omega) (by omega) hpe.1 (by omega))
      generalize nthTb T i = m at *
      generalize costV m = cc at *
      obtain ⟨id, sz, pe, ji, de, no⟩ := m
      dsimp only at *
      generalize upV (t + ji) pe = uu at *
      have wr1 : IntKind.i64.wrap (t + ji) = t + ji := by rw [IntKind.wrap_i64]; omega
      simp only [someR]
      go_upto_region 4 with fail
      refine region_class (fun u => MsC g (o + i * 6) ⟨id, sz, pe, ji, de, no⟩ u ∧ Below w.heap.size w u) (by kernel_rfl) (by kernel_rfl) ⟨hc, b.drew⟩ ?_
      clear hc b
      repeat first
        | go_big_quiet_skip
        | (go_big_quiet_want
           apply Exists.intro
           refine ⟨fun u hu => ?_, ?_⟩
           · apply quietAt_val
             obtain ⟨⟨c0, c1, c2, c3, c4, c5⟩, _⟩ := hu
             go_simp
             rfl
           simp only [Act.put, List.setIfInBounds_toArray, List.set_cons_zero, List.set_cons_succ]
           go_big_quiet_on)
        | (go_big_quiet_want
           apply Exists.intro
           refine ⟨fun u hu => ?_, ?_⟩
           · apply quietAt_enter 62 #[.int .i64 (t + ji), .int .i64 pe]
             · go_simp
             · refine (HU.out u).mono ?_
               rintro e w2 ⟨rfl, rfl⟩
               exact ⟨rfl, hu⟩
           simp only [Act.put, List.setIfInBounds_toArray, List.set_cons_zero, List.set_cons_succ]
           go_big_quiet_on)
      refine wpQuiet_nil ?_
      intro W2 L2
      have b := L2.2
      clear L2 HU
      go_wp2_with fail
      go_ret
      exact ⟨by rw [HV2.out] <;> rfl, b⟩
set_option maxHeartbeats 4000000 in
/-- wait. -/
theorem implWait (T : List Ms) (i : Nat) (av : Option Addr) (cv : Nat) (q : Int) (w : World) (hT : T.all mgOk = true) (hl : T.length ≤ 12) (hil : i < T.length) (hPd : Tbl av (pickT T (highN T i T.length)) w) :
    Calls Try.prog 41 #[sdV (nthTb T i) (costV (nthTb T i)) (blockN T i T.length) av (pickT T (highN T i T.length)).length cv, .int .i64 q] w fun e w' => e = .returned (.tuple #[.int .i64 (waitQ T i q).1, .bool (waitQ T i q).2]) ∧ Below w.heap.size w w' := by
  have HR := Lib.hid (show waitQ T i q = if 0 ≤ q ∧ q ≤ 100000 then someR (waitV T i q) else (0, false) from rfl)
  generalize waitQ T i q = R at HR ⊢
  have hpo := placesOk_high T i T.length (Nat.le_refl _)
  have hPl : (pickT T (highN T i T.length)).length ≤ 12 := by rw [pickT_len]; have := highN_len T i T.length; omega
  have hPo := pickT_ok hT hpo
  have hcc := costV_ok (allM_at hT hil)
  have hbk := blockN_bd T i T.length
  have hB0 : waitB T i q = blockN T i T.length + q * costV (nthTb T i) := rfl
  have hF : ∀ t, waitB T i q + demA (pickT T (highN T i T.length)) (t + 1) (pickT T (highN T i T.length)).length = waitF T i q t := fun t => by rw [demA_all]; rfl
  have hst := fun (h : 0 ≤ q) => waitF_start hT hil h
  have hup := fun (t : Int) (h : t ≤ waitF T i q t) => waitF_mono (i := i) hT q t (waitF T i q t) h
  have hbb := fun (hq : 0 ≤ q ∧ q ≤ 100000) (t : Int) (h : 0 ≤ t) (h1 : t ≤ 99999) => waitF_bd hT hl hil hq h (show t ≤ 100000 by omega)
  have hwb := fun (hq : 0 ≤ q ∧ q ≤ 100000) => waitB_bd hT hil hq
  have hqc : 0 ≤ q ∧ q ≤ 100000 → 0 ≤ q * costV (nthTb T i) ∧ q * costV (nthTb T i) ≤ 100000 * 135 := fun hq => ⟨Int.mul_nonneg hq.1 (by omega), Int.mul_le_mul hq.2 hcc.2 (by omega) (by omega)⟩
  have hfix : fixI (waitF T i q) 99999 100002 (waitB T i q) = waitV T i q := rfl
  generalize waitV T i q = BV at hfix HR
  generalize waitF T i q = F at *
  generalize waitB T i q = bs at *
  generalize pickT T (highN T i T.length) = P at *
  generalize nthTb T i = m at *
  generalize costV m = cc at *
  generalize blockN T i T.length = bk at *
  replace hF := Lib.hid hF
  replace hst := Lib.hid hst
  replace hup := Lib.hid hup
  replace hbb := Lib.hid hbb
  replace hfix := Lib.hid hfix
  replace hqc := Lib.hid hqc
  replace hwb := Lib.hid hwb
  replace hB0 := Lib.hid hB0
  have b := below_more (Below.refl w.heap.size w) (.cells (stC m cc bk av P.length cv) 60)
  have HB := heap_alloc_new w (.cells (stC m cc bk av P.length cv) 60)
  have hPd2 := hPd.alloc (.cells (stC m cc bk av P.length cv) 60)
  go_enter Try.func41, Try.ntmps41
  go_upto_region 1 with fail
  generalize w.alloc _ = W at b HB hPd2 ⊢
  generalize hp : w.heap.size = p at HB ⊢
  replace hp := Lib.hid hp
  clear hPd hT hpo
  go_wp2_with fail
  refine (implWithin _ _ _ _).mono ?_
  rintro e w1 ⟨rfl, rfl⟩
  cases hr : rng q 0 100000 with
  | false =>
    have HV := Lib.hid (HR.out.trans (if_neg (fun h => by rw [rng_iff.2 h] at hr; cases hr)))
    clear hr
    go_wp2_with fail
    exact bodyPost_ret (v := .tuple #[.int .i64 0, .bool false]) (by simp [results, Try.results41, go_sem]) rfl ⟨by rw [HV.out], by rw [← hp.out] at *; exact b⟩
  | true =>
    have hq := rng_iff.1 hr
    have HV := Lib.hid (HR.out.trans (if_pos hq))
    have hqc := hqc.out hq
    replace hst := Lib.hid (hst.out hq.1)
    replace hbb := Lib.hid (hbb.out hq)
    have hwb := hwb.out hq
    clear hr HR
    have e6 := cell_of_row W p 6 _ _ _ HB
    have e7 := cell_of_row W p 7 _ _ _ HB
    simp at e6 e7
    have wr1 : IntKind.i64.wrap (q * cc) = q * cc := by rw [IntKind.wrap_i64]; omega
    have wr2 : IntKind.i64.wrap (bk + q * cc) = bk + q * cc := by rw [IntKind.wrap_i64]; omega
    go_upto_region 4 with fail
    rw [← hB0.out]
    have b2 := below_more b (.cells #[.int .i64 bs] 2)
    have HQ := heap_alloc_new W (.cells #[.int .i64 bs] 2)
    have HB2 := (below_more (Below.refl W.heap.size W) (.cells #[.int .i64 bs] 2)).block p (Array.getElem?_eq_some_iff.1 HB).1 |>.trans HB
    have hPd3 := hPd2.alloc (.cells #[.int .i64 bs] 2)
    generalize W.alloc _ = W2 at b2 HQ HB2 hPd3 ⊢
    generalize W.heap.size = qb at HQ ⊢
    clear b HB hPd2 e6 e7 wr1 wr2
    have e0 := cell_of_row W2 qb 0 _ _ _ HQ
    simp at e0
    go_wp2_with fail
    refine (implAtRest2 70 (.pointer (some ⟨qb, 0, none⟩)) (.pointer (some ⟨p, 0, none⟩)) F 99999 bs 100002 (fun u => u.heap[qb]? = some (.cells #[.int .i64 bs] 2 (0, 0)) ∧ u.heap[p]? = some (.cells (stC m cc bk av P.length cv) 60 (0, 0)) ∧ Tbl av P u ∧ Below w.heap.size w u) W2 (fun t u hu h1 h2 => ?_) enterWait ⟨HQ, HB2, hPd3, b2⟩ (by omega) (by omega) hst.out hup.out hbb.out (by omega) (by omega) (by omega)).mono ?_
    · refine (implWaitStep qb p bs m cc bk av P cv t u hu.1 hu.2.1 hu.2.2.1 hPo hPl ⟨by omega, by omega⟩ ⟨h1, by omega⟩).mono ?_
      rintro e u' ⟨rfl, b3⟩
      exact ⟨by rw [hF.out], (b3.block qb (Array.getElem?_eq_some_iff.1 hu.1).1).trans hu.1, (b3.block p (Array.getElem?_eq_some_iff.1 hu.2.1).1).trans hu.2.1, hu.2.2.1.below b3, Below.then2 hu.2.2.2 b3⟩
    rintro e w3 ⟨rfl, -, -, -, b3⟩
    rw [hfix.out]
    go_wp2_with fail
    exact bodyPost_ret (v := .tuple #[.int .i64 (someR BV).1, .bool (someR BV).2]) (by simp [results, Try.results41, go_sem]) rfl ⟨by rw [HV.out], b3⟩
end Go.Proofs.Ytohjfjcpkloigaa

/- Bounds, the program: WaitOf, BoundOf, Admitted. -/

set_option linter.unusedVariables false
set_option linter.unusedSimpArgs false
set_option maxRecDepth 20000
namespace Go.Proofs.Ytohjfjcpkloigaa
open Go.RowKit

set_option maxHeartbeats 4000000 in
/-- impl.WaitOf. -/
theorem implWaitOf (a : Option Addr) (T : List Ms) (c : Nat) (i q : Int) (w : World) (hd : Tbl a T w) :
    Calls Try.prog 22 #[.slice a T.length c, .int .i64 i, .int .i64 q] w fun e w' => e = .returned (.tuple #[.int .i64 (waitR T i q).1, .bool (waitR T i q).2]) ∧ Below w.heap.size w w' := by
  have HR := Lib.hid (show waitR T i q = if hasM T i = true then waitQ T i.toNat q else (-1, false) from rfl)
  generalize waitR T i q = R at HR ⊢
  go_enter Try.func22, Try.ntmps22
  go_wp2_with fail
  refine (implStanding a T c i w hd).mono ?_
  rintro e w1 ⟨⟨k0, k1⟩, b⟩
  cases hh : hasM T i with
  | false =>
    obtain rfl := k0 hh
    have HV := Lib.hid (HR.out.trans (if_neg (by simp [hh])))
    clear hh k0 k1
    go_upto_region 2 with (skip; refine stLay (w := w1) (m := zeM) (co := 0) (bl := 0) (a := none) (n := 0) (c := 0) (C := stC zeM 0 0 none 0 0) (by rfl) (by rfl) (by rfl) (by rfl) (by rfl) (by rfl) ?_)
    have b2 := below_more b (.cells (stC zeM 0 0 none 0 0) 60)
    generalize w1.alloc _ = W at b2 ⊢
    go_wp2_with fail
    exact bodyPost_ret (v := .tuple #[.int .i64 (-1), .bool false]) (by simp [results, Try.results22, go_sem]) rfl ⟨by rw [HV.out], b2⟩
  | true =>
    obtain ⟨h0, hi0, hi1⟩ := hasM_iff.1 hh
    obtain ⟨i, rfl⟩ := Int.eq_ofNat_of_zero_le hi0
    simp only [Int.toNat_natCast] at k1 HR
    have HV := Lib.hid (HR.out.trans (if_pos hh))
    obtain ⟨av, cv, rfl, O⟩ := k1 hh
    have hil : i < T.length := by omega
    obtain ⟨hl, hT, -⟩ := codeT_iff.1 h0
    clear hh k0 k1 h0 HR
    have hPl : (pickT T (highN T i T.length)).length ≤ 2000000 := by rw [pickT_len]; have := highN_len T i T.length; omega
    have hPd := O.tbl hPl
    have HW := Lib.hid (fun w h => implWait T i av cv q w hT hl.2 hil h)
    generalize waitQ T i q = Q at HV HW
    generalize pickT T (highN T i T.length) = P at *
    generalize nthTb T i = m at *
    generalize costV m = cc at *
    generalize blockN T i T.length = bk at *
    clear O hT
    go_upto_region 2 with (skip; refine stLay (w := w1) (m := m) (co := cc) (bl := bk) (a := av) (n := P.length) (c := cv) (C := stC zeM 0 0 none 0 0) (by rfl) (by rfl) (by rfl) (by rfl) (by rfl) (by rfl) ?_)
    have b2 := below_more b (.cells (stC m cc bk av P.length cv) 60)
    have HB := heap_alloc_new w1 (.cells (stC m cc bk av P.length cv) 60)
    have hPd2 := hPd.alloc (.cells (stC m cc bk av P.length cv) 60)
    generalize w1.alloc _ = W at b2 HB hPd2 ⊢
    generalize w1.heap.size = p at HB ⊢
    clear b hPd hd
    go_wp2_with (skip; refine stTake (by rfl) (by rfl) HB (by rfl) ?_)
    refine (HW.out W hPd2).mono ?_
    rintro e w3 ⟨rfl, b3⟩
    replace b2 := Below.then2 b2 b3
    go_wp2_with fail
    exact bodyPost_ret (v := .tuple #[.int .i64 Q.1, .bool Q.2]) (by simp [results, Try.results22, go_sem]) rfl ⟨by rw [HV.out], b2⟩
set_option maxHeartbeats 8000000 in
/-- impl.BoundOf. -/
theorem implBoundOf (a : Option Addr) (T : List Ms) (c : Nat) (i : Int) (w : World) (hd : Tbl a T w) :
    Calls Try.prog 16 #[.slice a T.length c, .int .i64 i] w fun e w' => e = .returned (.tuple #[.int .i64 (boundR T i).1, .bool (boundR T i).2]) ∧ Below w.heap.size w w' := by
  have HR := Lib.hid (show boundR T i = if hasM T i = true then someR (boundV T i.toNat) else (-1, false) from rfl)
  generalize boundR T i = R at HR ⊢
  go_enter Try.func16, Try.ntmps16
  go_wp2_with fail
  refine (implStanding a T c i w hd).mono ?_
  rintro e w1 ⟨⟨k0, k1⟩, b⟩
  replace hd := hd.below b
  cases hh : hasM T i with
  | false =>
    obtain rfl := k0 hh
    have HV := Lib.hid (HR.out.trans (if_neg (by simp [hh])))
    clear hh k0 k1
    go_upto_region 2 with (skip; refine stLay (w := w1) (m := zeM) (co := 0) (bl := 0) (a := none) (n := 0) (c := 0) (C := stC zeM 0 0 none 0 0) (by rfl) (by rfl) (by rfl) (by rfl) (by rfl) (by rfl) ?_)
    have b2 := below_more b (.cells (stC zeM 0 0 none 0 0) 60)
    generalize w1.alloc _ = W at b2 ⊢
    go_wp2_with fail
    exact bodyPost_ret (v := .tuple #[.int .i64 (-1), .bool false]) (by simp [results, Try.results16, go_sem]) rfl ⟨by rw [HV.out], b2⟩
  | true =>
    have hcR := show countR T i = countN T i.toNat from if_pos hh
    obtain ⟨h0, hi0, hi1⟩ := hasM_iff.1 hh
    obtain ⟨i, rfl⟩ := Int.eq_ofNat_of_zero_le hi0
    simp only [Int.toNat_natCast] at k1 HR hcR
    have HV := Lib.hid (HR.out.trans (if_pos hh))
    obtain ⟨av, cv, rfl, O⟩ := k1 hh
    have hil : i < T.length := by omega
    obtain ⟨hl, hT, -⟩ := codeT_iff.1 h0
    clear hh k0 k1 h0 HR
    have HN := Lib.hid (fun w h => implCountOf a T c (i : Int) w h)
    rw [hcR] at HN
    have hnb := countN_bd hT hil
    have hnc := countN_cases hT hil
    have hPl : (pickT T (highN T i T.length)).length ≤ 2000000 := by rw [pickT_len]; have := highN_len T i T.length; omega
    have hPd := O.tbl hPl
    have HW := Lib.hid (fun (q : Int) w h (hq : 0 ≤ q) => by have := implWait T i av cv q w hT hl.2 hil h; rw [waitQ_eq hT hil hq] at this; exact this)
    have hwb := Lib.hid (fun (q w : Int) (hq : 0 ≤ q) (h : waitV T i q = some w) => (waitV_some hT hil hq h).2.2.1)
    have hwl := Lib.hid (fun (q w : Int) (hq : 0 ≤ q) (h : waitV T i q = some w) => (waitV_some hT hil hq h).2.1)
    have hbb := Lib.hid (fun n b h => boundN_bd hT hil n b h)
    have hVV := Lib.hid (show boundV T i = if 0 < countN T i then boundN T i (countN T i).toNat else none from rfl)
    have hok := allM_at hT hil
    have hcc := costV_ok hok
    obtain ⟨-, hsz, hpe, hji, -, -⟩ := mgOk_iff.1 hok
    have hblk := blockN_bd T i T.length
    have hwb0 := Lib.hid (fun (q : Int) (hq : 0 ≤ q) => (show 0 ≤ waitB T i q by have := Int.mul_nonneg hq (show 0 ≤ costV (nthTb T i) by omega); unfold waitB; omega))
    have hbN := Lib.hid (fun (q n : Nat) h1 h2 => boundN_none (T := T) (i := i) (q := q) (n := n) h1 h2)
    have hbS := Lib.hid (fun (q : Nat) (b w : Int) h1 h2 => boundN_step (T := T) (i := i) (q := q) (b := b) (w := w) h1 h2)
    have hb0 : boundN T i 0 = some 0 := rfl
    clear O hok hsz hcR
    replace hT := Lib.hid hT
    generalize boundV T i = BV at HV hVV
    generalize boundN T i = bN at *
    generalize countN T i = n at *
    generalize waitV T i = wV at *
    generalize waitB T i = wB at *
    generalize pickT T (highN T i T.length) = P at *
    generalize nthTb T i = m at *
    generalize costV m = cc at *
    generalize blockN T i T.length = bk at *
    go_upto_region 2 with (skip; refine stLay (w := w1) (m := m) (co := cc) (bl := bk) (a := av) (n := P.length) (c := cv) (C := stC zeM 0 0 none 0 0) (by rfl) (by rfl) (by rfl) (by rfl) (by rfl) (by rfl) ?_)
    have b2 := below_more b (.cells (stC m cc bk av P.length cv) 60)
    have HB := heap_alloc_new w1 (.cells (stC m cc bk av P.length cv) 60)
    have hPd2 := hPd.alloc (.cells (stC m cc bk av P.length cv) 60)
    have hd2 := hd.alloc (.cells (stC m cc bk av P.length cv) 60)
    generalize w1.alloc _ = W at b2 HB hPd2 hd2 ⊢
    generalize w1.heap.size = p at HB ⊢
    clear b hPd hd
    go_wp2_with fail
    refine (HN.out W hd2).mono ?_
    rintro e w3 ⟨rfl, b3⟩
    replace b2 := Below.then2 b2 b3
    replace HB := (b3.block p (Array.getElem?_eq_some_iff.1 HB).1).trans HB
    replace hPd2 := hPd2.below b3
    clear b3 HN hd2
    by_cases hn : n < 0
    · have hR := Lib.hid (hVV.out.trans (if_neg (show ¬ 0 < n by omega)))
      clear hVV
      go_wp2_with fail
      exact bodyPost_ret (v := .tuple #[.int .i64 0, .bool false]) (by simp [results, Try.results16, go_sem]) rfl ⟨by rw [HV.out, hR.out]; rfl, b2⟩
    · have hn0 : 0 < n := by omega
      replace hVV := Lib.hid (hVV.out.trans (if_pos hn0))
      have hHP : p < w3.heap.size := (Array.getElem?_eq_some_iff.1 HB).1
      go_wp2_with fail
      go_loopw [9, 27] (fun best q wr => ∃ (k : Nat) (bb : Int), q = .int .i64 (k : Int) ∧ best = .int .i64 bb ∧ k ≤ n.toNat ∧ bN k = some bb ∧ Below w3.heap.size w3 wr) (fun _ q _ => (n - Go.RowKit.intOf q).toNat)
      case atStart => exact ⟨0, 0, rfl, rfl, Nat.zero_le _, hb0, Below.refl _ _⟩
      case round =>
        obtain ⟨k, bb, rfl, rfl, hk, hb, z⟩ := hrel
        have hbd := hbb.out k bb hb
        have HBr := (z.block p hHP).trans HB
        by_cases hkn : (k : Int) < n
        · have hltB : decide ((k : Int) < n) = true := decide_eq_true hkn
          go_wp2_with (skip; refine stTake (by rfl) (by rfl) HBr (by rfl) ?_)
          refine (HW.out (k : Int) _ (hPd2.below z) (by omega)).mono ?_
          rintro e w4 ⟨rfl, b4⟩
          replace z := Below.then2 z b4
          replace HBr := (b4.block p (Array.getElem?_eq_some_iff.1 HBr).1).trans HBr
          clear b4
          cases hw : wV (k : Int) with
          | none =>
            have hN : bN n.toNat = none := hbN.out k n.toNat (by omega) hw
            have hR := Lib.hid (hVV.out.trans hN)
            simp only [someR]
            clear hN hw hb
            go_wp2_with fail
            exact bodyPost_ret (v := .tuple #[.int .i64 0, .bool false]) (by simp [results, Try.results16, go_sem]) rfl ⟨by rw [HV.out, hR.out]; rfl, b2.trans (z.mono b2.size)⟩
          | some x =>
            have hx1 := hwb.out (k : Int) x (by omega) hw
            have hx2 := hwl.out (k : Int) x (by omega) hw
            have hx3 := hwb0.out (k : Int) (by omega)
            have hnx := Lib.hid (hbS.out k bb x hb hw)
            simp only [someR]
            clear hw hb
            have hkp : 0 ≤ (k : Int) * m.pe ∧ (k : Int) * m.pe ≤ 120000 * 20000 := ⟨Int.mul_nonneg (by omega) (by omega), Int.mul_le_mul (by omega) hpe.2 (by omega) (by omega)⟩
            obtain ⟨id, sz, pe, ji, de, no⟩ := m
            dsimp only at hkp hnx hpe hji
            have e2 := cell_of_row _ p 2 _ _ _ HBr
            have e3 := cell_of_row _ p 3 _ _ _ HBr
            have e6 := cell_of_row _ p 6 _ _ _ HBr
            simp at e2 e3 e6
            have wr1 : IntKind.i64.wrap (ji + x) = ji + x := by rw [IntKind.wrap_i64]; omega
            have wr2 : IntKind.i64.wrap ((k : Int) * pe) = k * pe := by rw [IntKind.wrap_i64]; omega
            have wr3 : IntKind.i64.wrap (ji + x - k * pe) = ji + x - k * pe := by rw [IntKind.wrap_i64]; omega
            have wr4 : IntKind.i64.wrap (ji + x - k * pe + cc) = ji + x - k * pe + cc := by rw [IntKind.wrap_i64]; omega
            go_wp2_with fail
            go_roundw
            case rel => exact ⟨k + 1, _, by go_num, rfl, by omega, by rw [hnx.out]; congr 1; split <;> omega, z⟩
            case measure => simp [Go.RowKit.intOf]; omega
        · have hltB : decide ((k : Int) < n) = false := decide_eq_false hkn
          have hkk : k = n.toNat := by omega
          have hR := Lib.hid (show BV = some bb from hVV.out.trans (hkk ▸ hb))
          clear hb hkk
          go_wp2_with fail
          exact bodyPost_ret (v := .tuple #[.int .i64 bb, .bool true]) (by simp [results, Try.results16, go_sem]) rfl ⟨by rw [HV.out, hR.out]; rfl, b2.trans (z.mono b2.size)⟩
set_option maxHeartbeats 8000000 in
/-- impl.Admitted. -/
theorem implAdmitted (a : Option Addr) (T : List Ms) (c : Nat) (w : World) (hd : Tbl a T w) :
    Calls Try.prog 39 #[.slice a T.length c] w fun e w' => e = .returned (.bool (admV T)) ∧ Below w.heap.size w w' := by
  have HR := Lib.hid (show admV T = (decide (codeT T = 0) && admK T T.length) from rfl)
  generalize admV T = R at HR ⊢
  have H1 := Lib.hid (fun w h => implCodeOf a T c w h)
  go_enter Try.func39, Try.ntmps39
  go_wp2_with fail
  refine (H1.out _ hd).mono ?_
  rintro e w1 ⟨rfl, b⟩
  replace hd := hd.below b
  clear H1
  by_cases h0 : codeT T = 0
  · have HV := Lib.hid (show R = admK T T.length from HR.out.trans (by rw [h0]; rfl))
    have hl := (codeT_iff.1 h0).1
    have HB := Lib.hid (fun (i : Nat) w h (hi : i < T.length) => by
      have := implBoundOf a T c (i : Int) w h
      rw [show boundR T (i : Int) = someR (boundV T i) by unfold boundR; rw [if_pos (hasM_iff.2 ⟨h0, by omega, by omega⟩), Int.toNat_natCast]] at this
      exact this)
    rw [h0]
    clear h0 HR
    go_wp2_with fail
    go_loopw [12] (fun q wr => ∃ k : Nat, q = .int .i64 (k : Int) ∧ k ≤ T.length ∧ admK T k = true ∧ Below w1.heap.size w1 wr) (fun q _ => (T.length - Go.RowKit.intOf q).toNat)
    case atStart => exact ⟨0, rfl, Nat.zero_le _, rfl, Below.refl _ _⟩
    case round =>
      obtain ⟨k, rfl, hk, ha, p⟩ := hrel
      by_cases hkl : k < T.length
      · have hkI : (k : Int) < T.length := by omega
        obtain ⟨g, o, rfl, hc⟩ := (hd.below p).2 k hkl
        have hd2 := hd.below p
        have hno : ∀ n, boundV T k = some n → (nthTb T k).de < n → admK T T.length = false := fun n hb hn => admK_no hkl (by rw [hb]; simpa using hn)
        have hnn : boundV T k = none → admK T T.length = false := fun hb => admK_no hkl (by rw [hb])
        have hyes : ∀ n, boundV T k = some n → n ≤ (nthTb T k).de → admK T (k + 1) = true := fun n hb hn => admK_all ha hb hn
        replace hno := Lib.hid hno
        replace hnn := Lib.hid hnn
        replace hyes := Lib.hid hyes
        clear ha
        generalize nthTb T k = m at *
        obtain ⟨id, sz, pe, ji, de, no⟩ := m
        dsimp only at hno hyes
        obtain ⟨c0, c1, c2, c3, c4, c5⟩ := hc
        have hM := heap_alloc_new wr (.cells (mgC ⟨id, sz, pe, ji, de, no⟩) 31)
        have p1 := below_more p (.cells (mgC ⟨id, sz, pe, ji, de, no⟩) 31)
        replace hd2 := hd2.alloc (.cells (mgC ⟨id, sz, pe, ji, de, no⟩) 31)
        go_upto_region 6 with fail
        generalize wr.alloc _ = W at hM p1 hd2 ⊢
        generalize wr.heap.size = gm at hM ⊢
        clear c0 c1 c2 c3 c4 c5 p
        go_wp2_with fail
        refine (HB.out k _ hd2 hkl).mono ?_
        rintro e w2 ⟨rfl, b2⟩
        replace p1 := Below.then2 p1 b2
        replace hM := (b2.block gm (Array.getElem?_eq_some_iff.1 hM).1).trans hM
        have e4 := cell_of_row _ gm 4 _ _ _ hM
        simp at e4
        clear b2 hd2
        cases hb : boundV T k with
        | none =>
          have hR := Lib.hid (show R = false from HV.out.trans (hnn.out hb))
          simp only [someR]
          clear hb
          go_wp2_with fail
          go_ret
          exact ⟨by rw [hR.out] <;> rfl, b.trans (p1.mono b.size)⟩
        | some n =>
          simp only [someR]
          by_cases hn : n ≤ de
          · have hnx := Lib.hid (hyes.out n hb hn)
            have hno' : ¬ de < n := by omega
            clear hb
            go_wp2_with fail
            go_roundw
            case rel => exact ⟨k + 1, by go_num, by omega, hnx.out, p1⟩
            case measure => simp [Go.RowKit.intOf]; omega
          · have hR := Lib.hid (show R = false from HV.out.trans (hno.out n hb (by omega)))
            have hno' : de < n := by omega
            clear hb
            go_wp2_with fail
            go_ret
            exact ⟨by rw [hR.out] <;> rfl, b.trans (p1.mono b.size)⟩
      · have hkI : ¬ (k : Int) < T.length := by omega
        have hkk : k = T.length := by omega
        have hR := Lib.hid (show R = true from HV.out.trans (hkk ▸ ha))
        clear ha hkk
        go_wp2_with fail
        go_ret
        exact ⟨by rw [hR.out] <;> rfl, b.trans (p.mono b.size)⟩
  · have HV := Lib.hid (show R = false from HR.out.trans (by simp [h0]))
    generalize codeT T = q at h0
    go_wp2_with fail
    go_ret
    exact ⟨by rw [HV.out] <;> rfl, b⟩
end Go.Proofs.Ytohjfjcpkloigaa
