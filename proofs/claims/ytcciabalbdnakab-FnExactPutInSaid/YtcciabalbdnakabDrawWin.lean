/- The model's draw of some frames (DrawWinnerOf): they stand in a row of the call's own, each one's data in a row of its own. -/
import Derived.Test.YtcciabalbdnakabFrs
import Derived.Test.YtcciabalbdnakabFrAny
import Derived.Test.YtcciabalbdnakabFrsTo
import Derived.Deep.CutRange
set_option linter.unusedVariables false
set_option maxRecDepth 20000
namespace Go.Proofs.Ytcciabalbdnakab
open Go.RowKit

def flatF (M : List (Frm × Value)) : List Value := M.flatMap fun f => [.int .i64 f.1.id, .bool f.1.rm, .int .i64 f.1.ln, f.2]
theorem flatF_app (M : List (Frm × Value)) (x : Frm × Value) : flatF (M ++ [x]) = flatF M ++ [.int .i64 x.1.id, .bool x.1.rm, .int .i64 x.1.ln, x.2] := by simp [flatF]
theorem flatF_at : ∀ (M : List (Frm × Value)) (j : Nat) (h : j < M.length), (flatF M)[j * 4]? = some (.int .i64 M[j].1.id) ∧ (flatF M)[j * 4 + 1]? = some (.bool M[j].1.rm) ∧ (flatF M)[j * 4 + 2]? = some (.int .i64 M[j].1.ln) ∧ (flatF M)[j * 4 + 3]? = some M[j].2 := by
  intro M
  induction M with
  | nil => intro j h; simp at h
  | cons m M ih =>
    intro j h
    cases j with
    | zero => exact ⟨rfl, rfl, rfl, rfl⟩
    | succ j =>
      have k := ih j (by simpa using h)
      have e1 : (j + 1) * 4 = j * 4 + 1 + 1 + 1 + 1 := by omega
      rw [e1]
      simpa [flatF] using k
/-- The slice v, in a row of the call's own, holds frames, each one's data in a row of its own. -/
def OwnF (B : Nat) (M : List (Frm × Value)) (v : Value) (w : World) : Prop := w.ownsRow B 26 4 v M.length (flatF M) ∧ ∀ m ∈ M, OwnI B m.1.D m.2 w
section
variable {B : Nat} {M : List (Frm × Value)} {v : Value} {w w' : World}
theorem OwnF.kept {row : Option Nat} (h : OwnF B M v w) (k : w.grownBy w' row) (hne : v.ownBlock = none ∨ v.ownBlock ≠ row) (hd : ∀ m ∈ M, m.2.ownBlock = none ∨ m.2.ownBlock ≠ row) : OwnF B M v w' :=
  ⟨h.1.kept k hne, fun m hm => (h.2 m hm).kept k (hd m hm)⟩
theorem OwnF.stay (h : OwnF B M v w) (k : w.grownBy w' none) : OwnF B M v w' := h.kept k (Classical.em _) fun m hm => Classical.em _
theorem OwnF.is (h : OwnF B M v w) : ∃ a c, v = .slice a M.length c := by
  rcases h.1.2 with ⟨rfl, hn⟩ | ⟨g, cap, cur, rfl, _⟩
  · exact ⟨none, 0, by rw [hn]⟩
  · exact ⟨_, cap, rfl⟩
theorem OwnF.ne_cur {B' p : Nat} {a : Option Addr} {len cap : Nat} (h : OwnF B M v w) (s : St B' p a len cap w) : v.ownBlock ≠ some p := by
  rcases h.1.2 with ⟨rfl, _⟩ | ⟨g', cap', cur, rfl, _, hg, _⟩
  · simp [Value.ownBlock]
  · intro e
    simp only [Value.ownBlock, Option.some.injEq] at e
    subst e
    obtain ⟨⟨i, h', c⟩, _⟩ := s
    rw [c.block] at hg
    simp at hg
theorem OwnF.cur {B' p : Nat} {a : Option Addr} {len cap : Nat} (h : OwnF B M v w) (s : St B' p a len cap w) (k : w.grownBy w' (some p)) : OwnF B M v w' :=
  h.kept k (.inr (h.ne_cur s)) fun m hm => .inr ((h.2 m hm).ne_cur s)
/-- A row of numbers is no row of frames. -/
theorem OwnI.ne_row {B' : Nat} {D : List Int} {u : Value} (h : OwnF B M v w) (k : OwnI B' D u w) : u.ownBlock = none ∨ u.ownBlock ≠ v.ownBlock := by
  rcases k.1.2 with ⟨rfl, _⟩ | ⟨g', cap', cur, rfl, _, hg, _⟩
  · left; rfl
  · right
    rcases h.1.2 with ⟨rfl, _⟩ | ⟨g2, cap2, cur2, rfl, _, hg2, _⟩
    · simp [Value.ownBlock]
    · intro e
      simp only [Value.ownBlock, Option.some.injEq] at e
      subst e
      rw [hg] at hg2
      simp at hg2
theorem OwnF.frs (h : OwnF B M v w) (hm : M.length ≤ 2000000) : ∃ a c, v = .slice a M.length c ∧ Frs a (M.map fun m => m.1) w := by
  obtain ⟨hr, hd⟩ := h
  rcases hr.2 with ⟨rfl, hn⟩ | ⟨g, cap, cur, rfl, hrest⟩
  · have e : M = [] := List.length_eq_zero_iff.1 hn
    subst e
    exact ⟨none, 0, rfl, by simp, fun j hj => by simp at hj⟩
  · refine ⟨_, cap, rfl, by simp [maxLen]; omega, fun j hj => ?_⟩
    have hj' : j < M.length := by simpa using hj
    have e : nthF (M.map fun m => m.1) j = M[j].1 := by simp [nthF, List.getD_eq_getElem?_getD, hj']
    rw [e]
    obtain ⟨ad, c, hv, hn⟩ := (hd M[j] (List.getElem_mem hj')).nums
    obtain ⟨f0, f1, f2, f3⟩ := flatF_at M j hj'
    rw [hv] at f3
    refine ⟨g, 0, ad, c, rfl, ⟨?_, ?_, ?_, ?_⟩, hn⟩ <;> rw [Nat.zero_add, hr.cellAt _ (by omega)] <;> assumption
end

theorem infoF : (Try.prog.info? 26).map (fun i => (i.zero, i.size, i.bytes)) = some (some (.agg #[.int .i64 0, .bool false, .int .i64 0, .slice none 0 0]), 4, 48) := by kernel_rfl
/-- 'append' of one frame. -/
theorem wpList_appF {ops : Array Oper} {rest : List Oper} {p : Oper} {a : Act} {w : World} {Q : Exit → Act → World → Prop} (hgd : p.guard = none) (s x : Operand)
    (ho : p.op = .call { callee := .builtin .append, args := #[s, x], argTypes := #[31, 31] })
    (Bn : Nat) (M : List (Frm × Value)) (f : Frm) (dv : Value) (v : Value) (hs : a.eval s = v) (hown : OwnF Bn M v w) (hdv : OwnI Bn f.D dv w) (g1 c1 : Nat) (hx : a.eval x = .slice (some ⟨g1, 0, none⟩) 1 c1)
    (h0 : w.cell? ⟨g1, 0, none⟩ = some (.int .i64 f.id)) (h1 : w.cell? ⟨g1, 1, none⟩ = some (.bool f.rm)) (h2 : w.cell? ⟨g1, 2, none⟩ = some (.int .i64 f.ln)) (h3 : w.cell? ⟨g1, 3, none⟩ = some dv) (hsz : M.length ≤ 2000000) (hB : Bn ≤ w.heap.size)
    (h : ∀ av cv w', OwnF Bn (M ++ [(f, dv)]) (.slice av (M.length + 1) cv) w' → w.grownBy w' v.ownBlock → wpList Try.prog ops Q rest (a.put p.dst (.slice av (M.length + 1) cv)) w') : wpList Try.prog ops Q (p :: rest) a w := by
  obtain ⟨i0, hi, hz0, hz1, hz2⟩ := info_parts infoF
  have hone : dv.oneCell' = true := by
    obtain ⟨ad, c, rfl, _⟩ := hdv.nums
    rfl
  refine wpList_append_own _ hgd s x 31 ho Bn 26 i0 (.agg #[.int .i64 0, .bool false, .int .i64 0, .slice none 0 0]) 4 48 Try.underlying31 hi hz0 hz1 hz2 rfl (by decide) v M.length (flatF M) hs hown.1 ⟨g1, 0, none⟩ 1 c1 [.int .i64 f.id, .bool f.rm, .int .i64 f.ln, dv] hx rfl ?_ ?_ ?_ ?_ hB ?_
  · intro j u hu
    match j, hu with
    | 0, hu => simp at hu; subst hu; exact h0
    | 1, hu => simp at hu; subst hu; exact h1
    | 2, hu => simp at hu; subst hu; exact h2
    | 3, hu => simp at hu; subst hu; exact h3
  · intro u hu; simp at hu; rcases hu with rfl | rfl | rfl | rfl <;> first | rfl | exact hone
  · unfold maxLen; omega
  · omega
  · intro v' w' k2 k3 k4
    have hown' : OwnF Bn (M ++ [(f, dv)]) v' w' := by
      refine ⟨?_, fun m hm => ?_⟩
      · rw [flatF_app, List.length_append, List.length_singleton]; exact k2
      · rcases List.mem_append.1 hm with hm | hm
        · exact (hown.2 m hm).kept k3 (OwnI.ne_row hown (hown.2 m hm))
        · simp at hm; subst hm; exact hdv.kept k3 (OwnI.ne_row hown hdv)
    obtain ⟨av, cv, rfl⟩ := hown'.is
    rw [List.length_append, List.length_singleton] at hown'
    simp only [List.length_append, List.length_singleton]
    exact h av cv w' hown' k3

/-- What a draw of some frames leaves. -/
def SomeF (w : World) (e : Ending) (w' : World) : Prop := ∃ (L : List Frm) (a : Option Addr) (c : Nat), e = .returned (.slice a L.length c) ∧ Frs a L w' ∧ L.length ≤ 5 ∧ Below w.heap.size w w'

set_option maxHeartbeats 4000000 in
/-- spec.DrawWinnerOf. -/
theorem drawFrames {B : Nat} {a : Option Addr} {len cap : Nat} (w : World) (cd : Code B a len w) (hB : B ≤ w.heap.size) :
    Calls Try.prog 15 #[.slice a len cap] w (SomeF w) := by
  go_enter Try.func15, Try.ntmps15
  go_wp2_with fail
  refine (newAny (B := B) _ cd hB).mono ?_
  rintro e w1 ⟨rfl, g1, s1⟩
  have b1 : Below w.heap.size w w1 := (Below.refl _ _).grown g1 (Nat.le_refl _) (fun k e => by cases e)
  clear g1 cd
  generalize hp : w.heap.size = p at s1 ⊢
  have hpw := Lib.hid hp
  clear hp
  have own0 : OwnF p [] (.slice (some ⟨w1.heap.size, 0, none⟩) 0 0) (w1.alloc (.cells #[] 26)) :=
    ⟨World.ownsRow_made (base := p) (e := 26) (size := 4) w1 #[] 0 (by have := b1.size; rw [hpw.out] at this; exact this) (Nat.zero_le _) rfl, fun m hm => by cases hm⟩
  replace s1 := s1.alloc (.cells #[] 26)
  replace b1 := below_more b1 (.cells #[] 26)
  go_wp2_with fail
  refine (belowPos (B := B) (a := a) (len := len) (cap := cap) 6 _ (by omega) (by omega) s1).mono ?_
  rintro e w2 ⟨n, n0, n1, rfl, g2, s2⟩
  have F0 := own0.cur s1 g2
  replace b1 := b1.grown g2 b1.size (fun k e => by cases e; exact Nat.le_of_eq hpw.out)
  clear own0 s1 g2
  obtain ⟨n, rfl⟩ := Int.eq_ofNat_of_zero_le n0
  go_wp2_with fail
  go_loopw [4, 5] (fun l i wr => ∃ (n : Nat) (M : List (Frm × Value)), i = .int .i64 n ∧ M.length + n ≤ 5 ∧ OwnF p M l wr ∧ St B p a len cap wr ∧ Below w.heap.size w wr) (fun _ i _ => (intOf i).toNat)
  case atStart => exact ⟨n, [], rfl, by simp; omega, F0, s2, b1⟩
  case round =>
    clear F0 s2 b1 n0 n1
    obtain ⟨n, M, rfl, hn, F, st, b⟩ := hrel
    obtain ⟨av, cv, rfl⟩ := F.is
    by_cases h0 : n = 0
    · subst h0
      obtain ⟨a', c', e', fr⟩ := F.frs (by omega)
      cases e'
      go_wp2_with fail
      go_ret
      have hl : (M.map fun m => m.1).length = M.length := by simp
      exact ⟨M.map fun m => m.1, av, cv, by rw [hl]; rfl, fr, by rw [hl]; omega, b⟩
    · have hpos : (0 : Int) < n := by omega
      go_wp2_with fail
      refine (drawAnyFr (B := B) (a := a) (len := len) (cap := cap) _ st).mono ?_
      rintro e w3 ⟨id, rm, ln, D, dv, rfl, oA, hD, hi, hl, g3, s3⟩
      have hsz := b.size
      rw [hpw.out] at hsz
      replace F := F.cur st g3
      replace b := b.grown g3 b.size (fun k e => by cases e; exact Nat.le_of_eq hpw.out)
      have oB := oA.mono (B' := p) hsz
      clear oA g3 st hsz
      have F1 := F.stay (World.grownBy_alloc w3 (.cells #[.int .i64 id, .bool rm, .int .i64 ln, dv] 26) none)
      have o1 := oB.stay (World.grownBy_alloc w3 (.cells #[.int .i64 id, .bool rm, .int .i64 ln, dv] 26) none)
      have t1 := s3.alloc (.cells #[.int .i64 id, .bool rm, .int .i64 ln, dv] 26)
      have b1 := below_more b (.cells #[.int .i64 id, .bool rm, .int .i64 ln, dv] 26)
      obtain ⟨ad, cd', rfl, _⟩ := oB.nums
      clear F oB s3
      have hsz1 := b1.size
      rw [hpw.out] at hsz1
      go_wp2_with (at_builtin; refine wpList_appF rfl _ _ rfl p M ⟨id, rm, ln, D⟩ (.slice ad D.length cd') _ rfl F1 o1 w3.heap.size 1 rfl (World.cell?_alloc_at _ _ _ _ rfl) (World.cell?_alloc_at _ _ _ _ rfl) (World.cell?_alloc_at _ _ _ _ rfl) (World.cell?_alloc_at _ _ _ _ rfl) ?c1 ?c2 ?_)
      case c1 => omega
      case c2 => exact hsz1
      intro av2 cv2 w4 F4 g4
      have t4 := t1.step g4 (fun k e => by have h1 := F1.ne_cur t1; have h2 := (F1.1.lt k e).1; rw [e] at h1; simp at h1; omega)
      have b4 := b1.grown g4 b1.size (fun k e => by rw [hpw.out]; exact (F1.1.lt k e).1)
      clear F1 o1 t1 b1 g4
      go_wp2_with fail
      go_roundw
      case rel => exact ⟨n - 1, _, by congr 1; omega, by simp; omega, F4, t4, b4⟩
      case measure => simp [intOf]; omega
end Go.Proofs.Ytcciabalbdnakab
