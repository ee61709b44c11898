/- What stands while a frame is read, and 'append' of one number outside a drawn region. No program's walk in it. -/
import Derived.Test.YtngcekegngmedaaGreatDoorM9
import Derived.Test.YtngcekegngmedaaGreatDoorM11
import Derived.Lib.AppendStr
import Derived.Test.YtngcekegngmedaaGreatDoorM1
import Derived.LoopTactic
import Derived.WalkArith
import Derived.Deep.CutRange

set_option linter.unusedVariables false
set_option maxRecDepth 20000
namespace Go.Proofs.YtngcekegngmedaaGreatDoor
open Go.RowKit

/-- 'append' of one number to a row of the call's own. -/
theorem wpList_appI {ops : Array Oper} {rest : List Oper} {p : Oper} {a : Act} {w : World} {Q : Exit → Act → World → Prop} (hgd : p.guard = none) (s x : Operand)
    (ho : p.op = .call { callee := .builtin .append, args := #[s, x], argTypes := #[24, 24] })
    (Bn : Nat) (D : List Int) (z : Int) (v : Value) (hs : a.eval s = v) (hown : OwnI Bn D v w) (g1 c1 : Nat) (hx : a.eval x = .slice (some ⟨g1, 0, none⟩) 1 c1) (hcell : w.cell? ⟨g1, 0, none⟩ = some (.int .i64 z))
    (hz : (Lit.int .i64 z).wf = true) (hsz : D.length ≤ 1000000) (hB : Bn ≤ w.heap.size)
    (h : ∀ av cv w', OwnI Bn (D ++ [z]) (.slice av (D.length + 1) cv) w' → w.grownBy w' v.ownBlock → wpList Tryz.prog ops Q rest (a.put p.dst (.slice av (D.length + 1) cv)) w') : wpList Tryz.prog ops Q (p :: rest) a w := by
  obtain ⟨i0, hi, hz0, hz1, hz2⟩ := info_parts info64
  refine wpList_append_own _ hgd s x 24 ho Bn 2 i0 (.int .i64 0) 1 8 Tryz.underlying24 hi hz0 hz1 hz2 rfl (by decide) v D.length (D.map (Value.int .i64)) hs hown.1 ⟨g1, 0, none⟩ 1 c1 [.int .i64 z] hx rfl ?_ ?_ ?_ ?_ hB ?_
  · intro j u hu
    match j, hu with
    | 0, hu => simp at hu; subst hu; exact hcell
  · intro u hu; simp at hu; subst hu; rfl
  · unfold maxLen; omega
  · omega
  · intro v' w' h2 h3 h4
    have hown' : OwnI Bn (D ++ [z]) v' w' := by
      refine ⟨?_, ?_⟩
      · rw [List.length_append, List.length_singleton, List.map_append]; exact h2
      · intro y hy
        rcases List.mem_append.1 hy with hy | hy
        · exact hown.2 y hy
        · simp at hy; subst hy; exact hz
    obtain ⟨av, cv, rfl, _⟩ := hown'.nums
    rw [List.length_append, List.length_singleton] at hown'
    simp only [List.length_append, List.length_singleton]
    exact h av cv w' hown' h3

/-- What a reading of a frame answers. -/
def ReadR (s : ByteArray) (w : World) (e : Ending) (w' : World) : Prop :=
  ∃ v, e = .returned (.tuple #[.agg #[.int .i64 (rdId s), .bool (rdRm s), .int .i64 (rdLn s), v], .int .i64 (rdCode s)]) ∧ OwnI w.heap.size (rdD s) v w' ∧ Below w.heap.size w w'

section
variable {w0 w W : World} {gr gf : Nat} {id ln : Int} {rm : Bool} {D : List Int} {v : Value}
/-- Zeros laid in a box of zeros. -/
theorem zero_laid (G : w0.grownBy w none) (R : Bx gr (.int .i64 0) (.bool false) (.int .i64 0) (.slice none 0 0) w) (hl : w0.heap.size ≤ gr)
    (hW : W = (((w.setCell ⟨gr, 0, none⟩ (.int .i64 0)).setCell ⟨gr, 1, none⟩ (.bool false)).setCell ⟨gr, 2, none⟩ (.int .i64 0)).setCell ⟨gr, 3, none⟩ (.slice none 0 0)) :
    Bx gr (.int .i64 0) (.bool false) (.int .i64 0) (.slice none 0 0) W ∧ Below w0.heap.size w0 W := by
  subst hW
  have ka := grown_trans (grown_trans (grown_trans (grown_set w gr 0 (.int .i64 0)) (grown_set _ gr 1 (.bool false))) (grown_set _ gr 2 (.int .i64 0))) (grown_set _ gr 3 (.slice none 0 0))
  exact ⟨(((R.set0 (.int .i64 0)).set1 (.bool false)).set2 (.int .i64 0)).set3 (.slice none 0 0), below_of_grown (grown_own G ka hl) (Nat.le_refl _) (fun _ e => by cases e)⟩

/-- The frame that is being read: the result's box, its own, its row. -/
structure RS (w0 : World) (gr gf : Nat) (id : Int) (rm : Bool) (ln : Int) (D : List Int) (v : Value) (w : World) : Prop where
  grown : w0.grownBy w none
  res : Bx gr (.int .i64 0) (.bool false) (.int .i64 0) (.slice none 0 0) w
  box : Bx gf (.int .i64 id) (.bool rm) (.int .i64 ln) v w
  own : OwnI w0.heap.size D v w
  rl : w0.heap.size ≤ gr
  fl : w0.heap.size ≤ gf
  ne : gr ≠ gf
theorem RS.step {w' : World} (F : RS w0 gr gf id rm ln D v w) (k : w.grownBy w' none) : RS w0 gr gf id rm ln D v w' :=
  ⟨grown_trans F.grown k, F.res.kept k (by simp), F.box.kept k (by simp), F.own.kept k (Classical.em _), F.rl, F.fl, F.ne⟩
theorem RS.alloc (F : RS w0 gr gf id rm ln D v w) (o : Obj) : RS w0 gr gf id rm ln D v (w.alloc o) := F.step (World.grownBy_alloc w o _)
theorem RS.put {id' : Int} {rm' : Bool} {ln' : Int} (F : RS w0 gr gf id rm ln D v w) (k : Nat) (y : Value) (hb : Bx gf (.int .i64 id') (.bool rm') (.int .i64 ln') v (w.setCell ⟨gf, k, none⟩ y)) : RS w0 gr gf id' rm' ln' D v (w.setCell ⟨gf, k, none⟩ y) := by
  have kk := grown_set w gf k y
  exact ⟨grown_own F.grown kk F.fl, F.res.kept kk (by simp; exact F.ne), hb, F.own.kept kk (.inr (F.own.ne_box F.box)), F.rl, F.fl, F.ne⟩
theorem RS.putId (F : RS w0 gr gf id rm ln D v w) (n : Int) : RS w0 gr gf n rm ln D v (w.setCell ⟨gf, 0, none⟩ (.int .i64 n)) := F.put 0 _ (F.box.set0 _)
theorem RS.putLn (F : RS w0 gr gf id rm ln D v w) (n : Int) : RS w0 gr gf id rm n D v (w.setCell ⟨gf, 2, none⟩ (.int .i64 n)) := F.put 2 _ (F.box.set2 _)
theorem RS.app {D' : List Int} {v' : Value} {w' : World} (F : RS w0 gr gf id rm ln D v w) (own' : OwnI w0.heap.size D' v' w') (k : w.grownBy w' v.ownBlock) : RS w0 gr gf id rm ln D' v' (w'.setCell ⟨gf, 3, none⟩ v') := by
  have b' := F.box.kept k (F.own.ne_box F.box).symm
  have r' := F.res.kept k (F.own.ne_box F.res).symm
  have gr' : w0.grownBy w' none := by
    cases hv : v.ownBlock with
    | none => rw [hv] at k; exact grown_trans F.grown k
    | some q => rw [hv] at k; exact grown_own F.grown k (F.own.low hv)
  have kk := grown_set w' gf 3 v'
  exact ⟨grown_own gr' kk F.fl, r'.kept kk (by simp; exact F.ne), b'.set3 v', own'.kept kk (.inr (own'.ne_box b')), F.rl, F.fl, F.ne⟩
/-- The frame laid in the result's box. -/
theorem RS.done (F : RS w0 gr gf id rm ln D v w)
    (hW : W = (((w.setCell ⟨gr, 0, none⟩ (.int .i64 id)).setCell ⟨gr, 1, none⟩ (.bool rm)).setCell ⟨gr, 2, none⟩ (.int .i64 ln)).setCell ⟨gr, 3, none⟩ v) :
    Bx gr (.int .i64 id) (.bool rm) (.int .i64 ln) v W ∧ OwnI w0.heap.size D v W ∧ Below w0.heap.size w0 W := by
  subst hW
  have k : w.grownBy ((((w.setCell ⟨gr, 0, none⟩ (.int .i64 id)).setCell ⟨gr, 1, none⟩ (.bool rm)).setCell ⟨gr, 2, none⟩ (.int .i64 ln)).setCell ⟨gr, 3, none⟩ v) (some gr) :=
    grown_trans (grown_trans (grown_trans (grown_set _ _ _ _) (grown_set _ _ _ _)) (grown_set _ _ _ _)) (grown_set _ _ _ _)
  exact ⟨(((F.res.set0 _).set1 _).set2 _).set3 _, F.own.kept k (.inr (F.own.ne_box F.res)), below_of_grown (grown_own F.grown k F.rl) (Nat.le_refl _) (fun _ e => by cases e)⟩
end
end Go.Proofs.YtngcekegngmedaaGreatDoor

/- The program's bytes of a text of bits (bytesIn): one number for each eight of them. -/

set_option linter.unusedVariables false
set_option linter.unusedSimpArgs false
set_option maxRecDepth 20000
namespace Go.Proofs.YtngcekegngmedaaGreatDoor
open Go.RowKit

theorem grown_of_below {w w' : World} (b : Below w.heap.size w w') : w.grownBy w' none := ⟨b.os, b.tape, b.output, b.size, fun k hk _ => b.block k hk⟩
/-- What is left behind k bytes. -/
def tl8 (s : ByteArray) (k : Nat) : ByteArray := s.extract (8 * k) s.size
def at8 (s : ByteArray) (k : Nat) : ByteArray := s.extract (8 * k) (8 * k + 8)
def byD (s : ByteArray) (k : Nat) : List Int := (List.range k).map fun i => numV (at8 s i)
theorem byD_succ (s : ByteArray) (k : Nat) : byD s (k + 1) = byD s k ++ [numV (at8 s k)] := by simp [byD, List.range_succ]
theorem byD_len (s : ByteArray) (k : Nat) : (byD s k).length = k := by simp [byD]
theorem tl8_zero (s : ByteArray) : tl8 s 0 = s := by
  apply ba_inj; rw [tl8, ext_list]; simp [List.take_of_length_le, len_list]
theorem tl8_size (s : ByteArray) (k : Nat) : (tl8 s k).size = s.size - 8 * k := by rw [tl8, ByteArray.size_extract]; omega
theorem tl8_front {s : ByteArray} {k : Nat} (h : 8 * k + 8 ≤ s.size) : (tl8 s k).extract 0 8 = at8 s k := by
  apply ba_inj
  rw [ext_list, tl8, at8, ext_list, ext_list, List.drop_zero, List.take_take]
  congr 1
  omega
theorem tl8_back {s : ByteArray} {k : Nat} (h : 8 * k + 8 ≤ s.size) : (tl8 s k).extract 8 (tl8 s k).size = tl8 s (k + 1) := by
  apply ba_inj
  rw [ext_list, tl8_size, tl8, tl8, ext_list, ext_list, List.drop_take, List.drop_drop, List.take_take]
  congr 1
  omega
theorem at8_size {s : ByteArray} {k : Nat} (h : 8 * k + 8 ≤ s.size) : (at8 s k).size = 8 := by rw [at8, ByteArray.size_extract]; omega

theorem tl8_more {s : ByteArray} {k : Nat} (h : 8 * k + 8 ≤ s.size) : (tl8 s k).toList.isEmpty = false := by
  rw [ByteArray.toList_eq]
  cases e : (tl8 s k).data.toList with
  | nil => have h1 := tl8_size s k; rw [← len_list, e] at h1; simp at h1; omega
  | cons a r => rfl
theorem tl8_none {s : ByteArray} {k : Nat} (h : s.size = 8 * k) : (tl8 s k).toList.isEmpty = true := by
  rw [ByteArray.toList_eq]
  cases e : (tl8 s k).data.toList with
  | nil => rfl
  | cons a r => have h1 := tl8_size s k; rw [← len_list, e] at h1; simp at h1; omega

/-- impl.bytesIn. -/
theorem implBytes (s : ByteArray) (n : Nat) (w : World) (hn : s.size = 8 * n) (hm : n ≤ 1000) :
    Calls Tryz.prog 276 #[.string s] w fun e w' => ∃ v, e = .returned v ∧ OwnI w.heap.size (byD s n) v w' ∧ Below w.heap.size w w' := by
  go_enter Tryz.func276, Tryz.ntmps276
  have h0 : tl8 s 0 = s := tl8_zero s
  go_wp2
  go_loopw [0, 3] (fun t v wr => ∃ k : Nat, k ≤ n ∧ t = .string (tl8 s k) ∧ OwnI w.heap.size (byD s k) v wr ∧ Below w.heap.size w wr) (fun t _ _ => match t with | .string t => t.size | _ => 0)
  case atStart => exact ⟨0, Nat.zero_le _, by rw [h0], OwnI.nil _ _, Below.refl _ _⟩
  case round =>
    obtain ⟨k, hk, rfl, HO, hB⟩ := hrel
    by_cases hkn : k < n
    · have ht := tl8_more (s := s) (k := k) (by omega)
      have hf := tl8_front (s := s) (k := k) (by omega)
      have hr := tl8_back (s := s) (k := k) (by omega)
      have hz : 8 ≤ (tl8 s k).size := by rw [tl8_size]; omega
      have hz2 : (tl8 s (k + 1)).size < (tl8 s k).size := by rw [tl8_size, tl8_size]; omega
      have ha := at8_size (s := s) (k := k) (by omega)
      have hbd := numV_bd (at8 s k)
      have hwf : (Lit.int .i64 (numV (at8 s k))).wf = true := Go.WalkArith.wf_i64 ⟨by omega, by omega⟩
      have HD := Lib.hid (byD_succ s k)
      have hlen := byD_len s k
      obtain ⟨D', hD'⟩ : ∃ D', D' = byD s (k + 1) := ⟨_, rfl⟩
      obtain ⟨t', ht'⟩ : ∃ t', t' = tl8 s (k + 1) := ⟨_, rfl⟩
      rw [← hD'] at HD
      rw [← ht'] at hr hz2
      replace hD' := Lib.hid hD'
      replace ht' := Lib.hid ht'
      generalize byD s k = D at HO HD hlen
      generalize tl8 s k = t at *
      go_wp2_with fail
      refine (implNum _ _ (by rw [ha]; decide)).mono ?_
      rintro e w1 ⟨rfl, b1⟩
      have hsz := hB.size
      replace HO := HO.kept (grown_of_below b1) (Classical.em _)
      replace hB := hB.trans (b1.mono hsz)
      replace hsz := hB.size
      clear b1 hf ha
      generalize numV (at8 s k) = z at *
      generalize numOk (at8 s k) = k1
      have hc : (w1.alloc (.cells #[.int .i64 z] 2)).cell? ⟨w1.heap.size, 0, none⟩ = some (.int .i64 z) := World.cell?_alloc_at _ _ _ _ rfl
      have hB1 := hB.alloc hsz (.cells #[.int .i64 z] 2)
      go_wp2_with (at_builtin; refine wpList_appI rfl _ _ rfl w.heap.size D z _ rfl (HO.kept (World.grownBy_alloc _ _ none) (Classical.em _)) w1.heap.size 1 rfl hc hwf ?c1 ?c2 ?_)
      case c1 => omega
      case c2 => exact hB1.size
      intro av cv w2 HO2 k2
      have hB2 : Below w.heap.size w w2 := hB1.grown k2 hB1.size (fun q hq => HO.low hq)
      rw [← HD.out] at HO2
      clear HO hB hB1 k2 hc hwf hbd HD
      go_wp2_with fail
      go_roundw
      case rel => exact ⟨k + 1, by omega, by rw [ht'.out], by rw [hD'.out] at HO2; exact HO2, hB2⟩
      case measure => simpa using hz2
    · have ht := tl8_none (s := s) (k := k) (by omega)
      obtain rfl : k = n := by omega
      go_wp2_with fail
      go_ret
      exact ⟨_, rfl, HO, hB⟩
end Go.Proofs.YtngcekegngmedaaGreatDoor

/- Contracts of ReadFrame, of the model. -/

set_option linter.unusedVariables false
set_option linter.unusedSimpArgs false
set_option maxRecDepth 20000
namespace Go.Proofs.YtngcekegngmedaaGreatDoor
open Go.RowKit

set_option maxHeartbeats 4000000 in
/-- spec.ReadFrame. -/
theorem specRead (s : ByteArray) (w : World) (hs : s.size ≤ maxLen) :
    Calls Tryz.prog 247 #[.string s] w (ReadR s w) := by
  have hs' := hs
  unfold maxLen at hs'
  have hbd := needV_bd s
  go_enter Tryz.func247, Tryz.ntmps247
  go_upto_region 2 with fail
  have G : w.grownBy ((w.alloc (.cells #[.int .i64 0, .bool false, .int .i64 0, .slice none 0 0] 26)).alloc (.cells #[.int .i64 0, .bool false, .int .i64 0, .slice none 0 0] 26)) none := grown_trans (World.grownBy_alloc _ _ _) (World.grownBy_alloc _ _ _)
  have R := (Bx.made w (.int .i64 0) (.bool false) (.int .i64 0) (.slice none 0 0)).kept (World.grownBy_alloc _ (.cells #[.int .i64 0, .bool false, .int .i64 0, .slice none 0 0] 26) none) (by simp)
  have N := Bx.made (w.alloc (.cells #[.int .i64 0, .bool false, .int .i64 0, .slice none 0 0] 26)) (.int .i64 0) (.bool false) (.int .i64 0) (.slice none 0 0)
  have hsz : (w.alloc (.cells #[.int .i64 0, .bool false, .int .i64 0, .slice none 0 0] 26)).heap.size = w.heap.size + 1 := by simp
  rw [hsz] at N
  clear hsz
  generalize (w.alloc (.cells #[.int .i64 0, .bool false, .int .i64 0, .slice none 0 0] 26)).alloc (.cells #[.int .i64 0, .bool false, .int .i64 0, .slice none 0 0] 26) = W at G R N ⊢
  have hrl : w.heap.size ≤ w.heap.size := Nat.le_refl _
  have hne : w.heap.size ≠ w.heap.size + 1 := by omega
  have hnl : w.heap.size ≤ w.heap.size + 1 := by omega
  generalize w.heap.size + 1 = gn at N hne hnl ⊢
  generalize hgr : w.heap.size = gr at R hne hrl ⊢
  go_wp2_with fail
  refine (specNeed _ _ hs).mono ?_
  rintro e w1 ⟨rfl, rfl⟩
  by_cases h1 : needV s < 0
  · have HC := Lib.hid (rd_1 h1)
    have HZ := rd_not (s := s) (by rw [HC.out]; decide)
    have y0 := R.c0
    have y1 := R.c1
    have y2 := R.c2
    have y3 := R.c3
    have q0 := R.free 0
    have q1 := R.free 1
    have q2 := R.free 2
    have q3 := R.free 3
    have n0 := N.c0
    have n1 := N.c1
    have n2 := N.c2
    have n3 := N.c3
    go_wp2_with fail
    obtain ⟨d0, d1⟩ := zero_laid G R (Nat.le_of_eq hgr) rfl
    generalize (((W.setCell ⟨gr, 0, none⟩ (.int .i64 0)).setCell ⟨gr, 1, none⟩ (.bool false)).setCell ⟨gr, 2, none⟩ (.int .i64 0)).setCell ⟨gr, 3, none⟩ (.slice none 0 0) = Wx at d0 d1 ⊢
    have z0 := d0.c0
    have z1 := d0.c1
    have z2 := d0.c2
    have z3 := d0.c3
    refine bodyPost_ret (v := .tuple #[.agg #[.int .i64 0, .bool false, .int .i64 0, .slice none 0 0], .int .i64 1]) (by simp [results, Tryz.results247, go_sem, z0, z1, z2, z3]) rfl ⟨.slice none 0 0, ?_, ?_, d1⟩
    · rw [HZ.1, HZ.2.1, HZ.2.2.1, HC.out]
    · rw [HZ.2.2.2]; exact OwnI.nil _ _
  by_cases h2 : needV s ≠ s.size
  · have HC := Lib.hid (rd_2 h1 h2)
    have HZ := rd_not (s := s) (by rw [HC.out]; decide)
    have y0 := R.c0
    have y1 := R.c1
    have y2 := R.c2
    have y3 := R.c3
    have q0 := R.free 0
    have q1 := R.free 1
    have q2 := R.free 2
    have q3 := R.free 3
    have n0 := N.c0
    have n1 := N.c1
    have n2 := N.c2
    have n3 := N.c3
    go_wp2_with fail
    obtain ⟨d0, d1⟩ := zero_laid G R (Nat.le_of_eq hgr) rfl
    generalize (((W.setCell ⟨gr, 0, none⟩ (.int .i64 0)).setCell ⟨gr, 1, none⟩ (.bool false)).setCell ⟨gr, 2, none⟩ (.int .i64 0)).setCell ⟨gr, 3, none⟩ (.slice none 0 0) = Wx at d0 d1 ⊢
    have z0 := d0.c0
    have z1 := d0.c1
    have z2 := d0.c2
    have z3 := d0.c3
    refine bodyPost_ret (v := .tuple #[.agg #[.int .i64 0, .bool false, .int .i64 0, .slice none 0 0], .int .i64 2]) (by simp [results, Tryz.results247, go_sem, z0, z1, z2, z3]) rfl ⟨.slice none 0 0, ?_, ?_, d1⟩
    · rw [HZ.1, HZ.2.1, HZ.2.2.1, HC.out]
    · rw [HZ.2.2.2]; exact OwnI.nil _ _
  replace h2 := Decidable.not_not.1 h2
  have hok : okB s = true := by
    cases hb : okB s with
    | true => rfl
    | false => exact absurd (needV_no hb) (by omega)
  have h19 : 19 ≤ s.size := by
    by_cases h : 19 ≤ s.size
    · exact h
    · exact absurd (needV_short (s := s) (by omega)) (by omega)
  have HOK := Lib.hid hok
  have H2 := Lib.hid h2
  have H1 := Lib.hid h1
  have hlen : s.size ≤ 98 := by omega
  clear hok
  go_wp2_with fail
  refine (specRight _ _ hs).mono ?_
  rintro e w1 ⟨rfl, rfl⟩
  clear h1 h2 hbd
  cases hr : rightB s with
  | false =>
    have HC := Lib.hid (rd_3 (by have := H1.out; omega) H2.out hr)
    have HZ := rd_not (s := s) (by rw [HC.out]; decide)
    have y0 := R.c0
    have y1 := R.c1
    have y2 := R.c2
    have y3 := R.c3
    have q0 := R.free 0
    have q1 := R.free 1
    have q2 := R.free 2
    have q3 := R.free 3
    have n0 := N.c0
    have n1 := N.c1
    have n2 := N.c2
    have n3 := N.c3
    go_wp2_with fail
    obtain ⟨d0, d1⟩ := zero_laid G R (Nat.le_of_eq hgr) rfl
    generalize (((W.setCell ⟨gr, 0, none⟩ (.int .i64 0)).setCell ⟨gr, 1, none⟩ (.bool false)).setCell ⟨gr, 2, none⟩ (.int .i64 0)).setCell ⟨gr, 3, none⟩ (.slice none 0 0) = Wx at d0 d1 ⊢
    have z0 := d0.c0
    have z1 := d0.c1
    have z2 := d0.c2
    have z3 := d0.c3
    refine bodyPost_ret (v := .tuple #[.agg #[.int .i64 0, .bool false, .int .i64 0, .slice none 0 0], .int .i64 3]) (by simp [results, Tryz.results247, go_sem, z0, z1, z2, z3]) rfl ⟨.slice none 0 0, ?_, ?_, d1⟩
    · rw [HZ.1, HZ.2.1, HZ.2.2.1, HC.out]
    · rw [HZ.2.2.2]; exact OwnI.nil _ _
  | true =>
    have i0 := fun W : World => index_at s 0 0 W (by omega) rfl
    have i13 := fun W : World => index_at s 13 13 W (by omega) rfl
    have i14 := fun W : World => index_at s 14 14 W (by omega) rfl
    have i12 := fun W : World => index_at s 12 12 W (by omega) rfl
    simp only [byteAt_eq] at i0 i13 i14 i12
    have HR := Lib.hid hr
    clear hr
    by_cases b0 : byteAt s 0 ≠ 48
    · have HF : Hid (formB s = false) := Lib.hid (by unfold formB; simp [b0])
      have hne0 := u8_ne48 b0
      generalize ((byteAt s 0).toNat : Int) = d at i0 hne0
      clear i12 b0
      have HC := Lib.hid (rd_4 (by have := H1.out; omega) H2.out HR.out HF.out)
      have HZ := rd_not (s := s) (by rw [HC.out]; decide)
      have y0 := R.c0
      have y1 := R.c1
      have y2 := R.c2
      have y3 := R.c3
      have q0 := R.free 0
      have q1 := R.free 1
      have q2 := R.free 2
      have q3 := R.free 3
      have n0 := N.c0
      have n1 := N.c1
      have n2 := N.c2
      have n3 := N.c3
      go_wp2_with fail
      obtain ⟨d0, d1⟩ := zero_laid G R (Nat.le_of_eq hgr) rfl
      generalize (((W.setCell ⟨gr, 0, none⟩ (.int .i64 0)).setCell ⟨gr, 1, none⟩ (.bool false)).setCell ⟨gr, 2, none⟩ (.int .i64 0)).setCell ⟨gr, 3, none⟩ (.slice none 0 0) = Wx at d0 d1 ⊢
      have z0 := d0.c0
      have z1 := d0.c1
      have z2 := d0.c2
      have z3 := d0.c3
      refine bodyPost_ret (v := .tuple #[.agg #[.int .i64 0, .bool false, .int .i64 0, .slice none 0 0], .int .i64 4]) (by simp [results, Tryz.results247, go_sem, z0, z1, z2, z3]) rfl ⟨.slice none 0 0, ?_, ?_, d1⟩
      · rw [HZ.1, HZ.2.1, HZ.2.2.1, HC.out]
      · rw [HZ.2.2.2]; exact OwnI.nil _ _
    replace b0 := Decidable.not_not.1 b0
    by_cases b13 : byteAt s 13 ≠ 48
    · have HF : Hid (formB s = false) := Lib.hid (by unfold formB; simp [b0, b13])
      rw [b0] at i0
      have hne0 := u8_ne48 b13
      generalize ((byteAt s 13).toNat : Int) = d at i13 hne0
      clear i12 b0 b13
      have HC := Lib.hid (rd_4 (by have := H1.out; omega) H2.out HR.out HF.out)
      have HZ := rd_not (s := s) (by rw [HC.out]; decide)
      have y0 := R.c0
      have y1 := R.c1
      have y2 := R.c2
      have y3 := R.c3
      have q0 := R.free 0
      have q1 := R.free 1
      have q2 := R.free 2
      have q3 := R.free 3
      have n0 := N.c0
      have n1 := N.c1
      have n2 := N.c2
      have n3 := N.c3
      go_wp2_with fail
      obtain ⟨d0, d1⟩ := zero_laid G R (Nat.le_of_eq hgr) rfl
      generalize (((W.setCell ⟨gr, 0, none⟩ (.int .i64 0)).setCell ⟨gr, 1, none⟩ (.bool false)).setCell ⟨gr, 2, none⟩ (.int .i64 0)).setCell ⟨gr, 3, none⟩ (.slice none 0 0) = Wx at d0 d1 ⊢
      have z0 := d0.c0
      have z1 := d0.c1
      have z2 := d0.c2
      have z3 := d0.c3
      refine bodyPost_ret (v := .tuple #[.agg #[.int .i64 0, .bool false, .int .i64 0, .slice none 0 0], .int .i64 4]) (by simp [results, Tryz.results247, go_sem, z0, z1, z2, z3]) rfl ⟨.slice none 0 0, ?_, ?_, d1⟩
      · rw [HZ.1, HZ.2.1, HZ.2.2.1, HC.out]
      · rw [HZ.2.2.2]; exact OwnI.nil _ _
    replace b13 := Decidable.not_not.1 b13
    by_cases b14 : byteAt s 14 ≠ 48
    · have HF : Hid (formB s = false) := Lib.hid (by unfold formB; simp [b0, b13, b14])
      rw [b0] at i0
      rw [b13] at i13
      have hne0 := u8_ne48 b14
      generalize ((byteAt s 14).toNat : Int) = d at i14 hne0
      clear i12 b0 b13 b14
      have HC := Lib.hid (rd_4 (by have := H1.out; omega) H2.out HR.out HF.out)
      have HZ := rd_not (s := s) (by rw [HC.out]; decide)
      have y0 := R.c0
      have y1 := R.c1
      have y2 := R.c2
      have y3 := R.c3
      have q0 := R.free 0
      have q1 := R.free 1
      have q2 := R.free 2
      have q3 := R.free 3
      have n0 := N.c0
      have n1 := N.c1
      have n2 := N.c2
      have n3 := N.c3
      go_wp2_with fail
      obtain ⟨d0, d1⟩ := zero_laid G R (Nat.le_of_eq hgr) rfl
      generalize (((W.setCell ⟨gr, 0, none⟩ (.int .i64 0)).setCell ⟨gr, 1, none⟩ (.bool false)).setCell ⟨gr, 2, none⟩ (.int .i64 0)).setCell ⟨gr, 3, none⟩ (.slice none 0 0) = Wx at d0 d1 ⊢
      have z0 := d0.c0
      have z1 := d0.c1
      have z2 := d0.c2
      have z3 := d0.c3
      refine bodyPost_ret (v := .tuple #[.agg #[.int .i64 0, .bool false, .int .i64 0, .slice none 0 0], .int .i64 4]) (by simp [results, Tryz.results247, go_sem, z0, z1, z2, z3]) rfl ⟨.slice none 0 0, ?_, ?_, d1⟩
      · rw [HZ.1, HZ.2.1, HZ.2.2.1, HC.out]
      · rw [HZ.2.2.2]; exact OwnI.nil _ _
    replace b14 := Decidable.not_not.1 b14
    have HF : Hid (formB s = true) := Lib.hid (by unfold formB; simp [b0, b13, b14])
    rw [b0] at i0
    rw [b13] at i13
    rw [b14] at i14
    clear b0 b13 b14
    obtain ⟨rm, d, i12', hd, hrm⟩ : ∃ (rm : Bool) (d : Int), (∀ W : World, (Instr.index 9 (.string s) (.int .i64 12)).run Tryz.prog W = .ok (.int .u8 d) W) ∧ (d == 49) = rm ∧ (byteAt s 12 == 49) = rm := by
      have hm : byteAt s 12 ∈ s.data.toList := by
        rw [byteAt, List.getD_eq_getElem?_getD, List.getElem?_eq_getElem (by rw [len_list]; omega)]
        exact List.getElem_mem _
      rcases bit_val (mem_bit HOK.out _ hm) with e | e
      · exact ⟨false, 48, by rw [e] at i12; exact i12, rfl, by rw [e]; rfl⟩
      · exact ⟨true, 49, by rw [e] at i12; exact i12, rfl, by rw [e]; rfl⟩
    have HRM := Lib.hid hrm
    clear i12 hrm
    have F : RS w gr W.heap.size 0 rm 0 [] (.slice none 0 0) (W.alloc (.cells #[.int .i64 0, .bool rm, .int .i64 0, .slice none 0 0] 26)) := by
      have k := World.grownBy_alloc W (.cells #[.int .i64 0, .bool rm, .int .i64 0, .slice none 0 0] 26) none
      have h1 := R.lt
      exact ⟨grown_trans G k, R.kept k (by simp), Bx.made _ _ _ _ _, OwnI.nil _ _, Nat.le_of_eq hgr, by rw [hgr]; omega, by omega⟩
    have hngf : gn ≠ W.heap.size := by have := N.lt; omega
    replace N := N.kept (World.grownBy_alloc W (.cells #[.int .i64 0, .bool rm, .int .i64 0, .slice none 0 0] 26) none) (by simp)
    have hsp : (s.extract 1 12).size = 11 := size_ext (by omega)
    have hsq : (s.extract 15 19).size = 4 := size_ext h19
    have HI := Lib.hid (show numV (idS s) = numV (s.extract 1 12) from rfl)
    have HL := Lib.hid (show numV (lenS s) = numV (s.extract 15 19) from rfl)
    have hlb := numV_bd (s.extract 15 19)
    have hib := numV_bd (s.extract 1 12)
    go_upto_region 12 with fail
    generalize W.alloc (.cells #[.int .i64 0, .bool rm, .int .i64 0, .slice none 0 0] 26) = W1 at F N ⊢
    generalize W.heap.size = gf at F hngf ⊢
    clear G R i0 i13 i14 i12' hd W
    have f0 := F.box.free 0
    have c0 := F.box.c0
    go_wp2_with fail
    refine (specNum _ _ (by rw [hsp]; decide)).mono ?_
    rintro e w1 ⟨rfl, rfl⟩
    generalize numV (s.extract 1 12) = id at HI hib ⊢
    generalize numOk (s.extract 1 12) = k
    go_upto_region 13 with fail
    replace F := F.putId id
    replace N := N.kept (grown_set W1 gf 0 (.int .i64 id)) (by simp; exact hngf)
    generalize W1.setCell ⟨gf, 0, none⟩ (.int .i64 id) = W2 at F N ⊢
    clear f0 c0 W1
    have f2 := F.box.free 2
    have c2 := F.box.c2
    go_wp2_with fail
    refine (specNum _ _ (by rw [hsq]; decide)).mono ?_
    rintro e w1 ⟨rfl, rfl⟩
    generalize numV (s.extract 15 19) = ln at HL hlb ⊢
    generalize numOk (s.extract 15 19) = k2
    go_upto_region 14 with fail
    replace F := F.putLn ln
    replace N := N.kept (grown_set W2 gf 2 (.int .i64 ln)) (by simp; exact hngf)
    generalize W2.setCell ⟨gf, 2, none⟩ (.int .i64 ln) = W3 at F N ⊢
    clear f2 c2 W2 hsp hsq
    have c2 := F.box.c2
    by_cases h5 : 8 < ln
    · have R := F.res
      have G := F.grown
      have HC := Lib.hid (rd_5 (by have := H1.out; omega) H2.out HR.out HF.out (by rw [HL.out]; exact h5))
      have HZ := rd_not (s := s) (by rw [HC.out]; decide)
      have y0 := R.c0
      have y1 := R.c1
      have y2 := R.c2
      have y3 := R.c3
      have q0 := R.free 0
      have q1 := R.free 1
      have q2 := R.free 2
      have q3 := R.free 3
      have n0 := N.c0
      have n1 := N.c1
      have n2 := N.c2
      have n3 := N.c3
      go_wp2_with fail
      obtain ⟨d0, d1⟩ := zero_laid G R (Nat.le_of_eq hgr) rfl
      generalize (((W3.setCell ⟨gr, 0, none⟩ (.int .i64 0)).setCell ⟨gr, 1, none⟩ (.bool false)).setCell ⟨gr, 2, none⟩ (.int .i64 0)).setCell ⟨gr, 3, none⟩ (.slice none 0 0) = Wx at d0 d1 ⊢
      have z0 := d0.c0
      have z1 := d0.c1
      have z2 := d0.c2
      have z3 := d0.c3
      refine bodyPost_ret (v := .tuple #[.agg #[.int .i64 0, .bool false, .int .i64 0, .slice none 0 0], .int .i64 5]) (by simp [results, Tryz.results247, go_sem, z0, z1, z2, z3]) rfl ⟨.slice none 0 0, ?_, ?_, d1⟩
      · rw [HZ.1, HZ.2.1, HZ.2.2.1, HC.out]
      · rw [HZ.2.2.2]; exact OwnI.nil _ _
    have HC := Lib.hid (rd_0 (by have := H1.out; omega) H2.out HR.out HF.out (by rw [HL.out]; exact h5))
    have HY := Lib.hid (rd_yes HC.out)
    clear N HR HF
    obtain ⟨kk, hkk, hk8⟩ : ∃ kk : Nat, s.size = 34 + 8 * kk ∧ kk ≤ 8 := by
      have hz := H2.out
      by_cases hr : byteAt s 12 = 49
      · rw [needV_rm HOK.out h19 hr] at hz; exact ⟨0, by omega, by omega⟩
      · rw [needV_len HOK.out h19 hr, HL.out] at hz
        exact ⟨ln.toNat, by split at hz <;> omega, by omega⟩
    clear H1 H2
    go_wp2_with fail
    go_loopw [7] (fun i wr => ∃ j : Nat, j ≤ kk ∧ i = .int .i64 (19 + 8 * (j : Int)) ∧ ∃ v, RS w gr gf id rm ln (readD s j) v wr) (fun i _ => s.size - (intOf i).toNat)
    case atStart => exact ⟨0, Nat.zero_le _, rfl, _, F⟩
    case round =>
      obtain ⟨j, hj, rfl, v, F⟩ := hrel
      by_cases hjk : j < kk
      · have hsb : (s.extract (19 + 8 * j) (27 + 8 * j)).size = 8 := by rw [ByteArray.size_extract]; omega
        have hbd := numV_bd (s.extract (19 + 8 * j) (27 + 8 * j))
        obtain ⟨D', hD'⟩ : ∃ D', D' = readD s (j + 1) := ⟨_, rfl⟩
        have HD : Hid (D' = readD s j ++ [numV (s.extract (19 + 8 * j) (27 + 8 * j))]) := Lib.hid (by rw [hD']; exact readD_succ s j)
        replace hD' := Lib.hid hD'
        have hlen2 := readD_len s j
        generalize readD s j = D at F HD hlen2
        have hwf : (Lit.int .i64 (numV (s.extract (19 + 8 * j) (27 + 8 * j)))).wf = true := Go.WalkArith.wf_i64 ⟨by omega, by omega⟩
        go_wp2_with fail
        rw [show 19 + 8 * j + 8 = 27 + 8 * j by omega]
        refine (specNum _ _ (by rw [hsb]; decide)).mono ?_
        rintro e w1 ⟨rfl, rfl⟩
        generalize numV (s.extract (19 + 8 * j) (27 + 8 * j)) = z at *
        generalize numOk (s.extract (19 + 8 * j) (27 + 8 * j)) = k3
        generalize s.extract (19 + 8 * j) (27 + 8 * j) = sx at *
        clear hsb
        have HO := F.own
        obtain ⟨av, cv, rfl, -⟩ := HO.nums
        rw [hlen2] at F HO
        have G := F.grown
        have B := F.box
        have x3 := B.c3
        have o3 := B.free 3
        have hsz := (below_of_grown (B := w.heap.size) F.grown (Nat.le_refl _) (fun _ e => by cases e)).size
        have hc : (wr.alloc (.cells #[.int .i64 z] 2)).cell? ⟨wr.heap.size, 0, none⟩ = some (.int .i64 z) := World.cell?_alloc_at _ _ _ _ rfl
        have F1 := F.alloc (.cells #[.int .i64 z] 2)
        go_wp2_with (at_builtin; refine wpList_appI rfl _ _ rfl w.heap.size D z _ rfl F1.own wr.heap.size 1 rfl hc hwf ?c1 ?c2 ?_)
        case c1 => omega
        case c2 => simp; omega
        intro av2 cv2 w2 HO2 k2
        rw [← hgr] at HO2
        have F2 := F1.app HO2 k2
        rw [← HD.out] at F2
        have B2 := F1.box.kept k2 (F1.own.ne_box F1.box).symm
        have x4 := B2.c3
        have o4 := B2.free 3
        clear x3 o3 B G F F1 hc hwf hbd HD HO2 k2 B2
        go_wp2_with fail
        go_roundw
        case rel => exact ⟨j + 1, by omega, by go_num, _, by rw [hD'.out] at F2; exact F2⟩
        case measure => simp [intOf]; omega
      · obtain rfl : j = kk := by omega
        have R := F.res
        have B := F.box
        have HO := F.own
        obtain ⟨av, cv, rfl, -⟩ := HO.nums
        rw [readD_len] at F B HO
        have x0 := B.c0
        have x1 := B.c1
        have x2 := B.c2
        have x3 := B.c3
        have y0 := R.c0
        have y1 := R.c1
        have y2 := R.c2
        have y3 := R.c3
        have q0 := R.free 0
        have q1 := R.free 1
        have q2 := R.free 2
        have q3 := R.free 3
        go_wp2_with fail
        obtain ⟨d0, d1, d2⟩ := F.done rfl
        generalize (((wr.setCell ⟨gr, 0, none⟩ (.int .i64 id)).setCell ⟨gr, 1, none⟩ (.bool rm)).setCell ⟨gr, 2, none⟩ (.int .i64 ln)).setCell ⟨gr, 3, none⟩ (.slice av j cv) = Wx at d0 d1 d2 ⊢
        have z0 := d0.c0
        have z1 := d0.c1
        have z2 := d0.c2
        have z3 := d0.c3
        refine bodyPost_ret (v := .tuple #[.agg #[.int .i64 id, .bool rm, .int .i64 ln, .slice av j cv], .int .i64 0]) (by simp [results, Tryz.results247, go_sem, z0, z1, z2, z3]) rfl ⟨.slice av j cv, ?_, ?_, d2⟩
        · rw [HY.out.1, HY.out.2.1, HY.out.2.2.1, HI.out, HRM.out, HL.out, HC.out]
        · rw [HY.out.2.2.2, show (s.size - 34) / 8 = j by omega]; exact d1

end Go.Proofs.YtngcekegngmedaaGreatDoor
