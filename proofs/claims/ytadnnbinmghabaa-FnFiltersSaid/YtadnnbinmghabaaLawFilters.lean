/- Proved: at every text of bytes: without filters each id from 0 to 2047 passes and 2048 does not; with a mask of 0 each passes, with a full mask the code's own id alone; at the filters and id drawn out of the text Passes, and at the frames drawn PushedIn, answer as the model does (laws.FnFilters answers true). No condition. -/
import Derived.Test.YtadnnbinmghabaaDrawFlt
import Derived.Test.YtadnnbinmghabaaDrawPsh
import Derived.Test.YtadnnbinmghabaaDice
import Derived.Test.YtadnnbinmghabaaLikes
import Derived.Test.YtadnnbinmghabaaSieve
import Derived.Test.YtadnnbinmghabaaFifo
import Derived.Test.YtadnnbinmghabaaRows
import Derived.WalkKit
import Derived.WalkSpells
import Derived.ProofKit
import Derived.OpenShut
import Derived.ShutString
import Derived.ChangeOld
import Derived.Below
import Derived.Deep.CutRange
set_option linter.unusedVariables false
set_option linter.unusedSimpArgs false
namespace Go.Proofs.Ytadnnbinmghabaa.lawFilters
open Go.ChangeShapes Go.WideShapes Go.ChangeAt Go.RowKit
open Go.ChangeMaps (open_string shut_string)

theorem own : ownKnob Try.prog.godebug = none := by kernel_rfl

theorem pass_empty {x : Int} (h : 0 ≤ x ∧ x ≤ 2047) : passV [] x = true := by rw [pass_ok (idIn_iff.2 h) rfl]; rfl
theorem pass_over : passV [] 2048 = false := pass_id (by decide)
theorem pass_zero {x y : Int} (hx : 0 ≤ x ∧ x ≤ 2047) (hy : 0 ≤ y ∧ y ≤ 2047) : passV [(0, y)] x = true := by
  have h0 : flOk (0, y) = true := flOk_iff.2 ⟨by decide, hy⟩
  rw [pass_ok (idIn_iff.2 hx) (by simp [h0])]
  simp [lets_zero hy hx]
theorem pass_full {x y : Int} (hx : 0 ≤ x ∧ x ≤ 2047) (hy : 0 ≤ y ∧ y ≤ 2047) : passV [(2047, y)] x = (x == y) := by
  have h0 : flOk (2047, y) = true := flOk_iff.2 ⟨by decide, hy⟩
  rw [pass_ok (idIn_iff.2 hx) (by simp [h0])]
  simp [lets_full hy hx]
theorem push_len (L : List Frm) (f : Frm) : (pushV L f).1.length ≤ L.length + 1 := by
  unfold pushV
  split <;> simp
/-- One filter that has just been laid. -/
theorem Fls.one (w : World) (m c : Int) : Fls (some ⟨w.heap.size, 0, none⟩) [(m, c)] (w.alloc (.cells #[.int .i64 m, .int .i64 c] 41)) := by
  refine ⟨by simp [maxLen], fun j hj => ?_⟩
  obtain rfl : j = 0 := by simp at hj; exact hj
  exact ⟨_, 0, rfl, World.cell?_alloc_at _ _ _ _ rfl, World.cell?_alloc_at _ _ _ _ rfl⟩

set_option maxHeartbeats 8000000 in
set_option maxRecDepth 20000 in
theorem walkFnFilters (a : Option Addr) (len cap : Nat) (w : World) (cd : Code w.heap.size a len w) :
    Calls Try.prog 3 #[.slice a len cap] w fun e w' => e = .returned (.bool true) ∧ Below w.heap.size w w' := by
  have hlm := cd.1
  go_enter Try.func3, Try.ntmps3
  go_wp2_with fail
  refine (bigAny a len cap w hlm).mono ?_
  rintro e w1 ⟨rfl, rfl⟩
  by_cases hbig : (4096 : Int) < (len : Int)
  · go_wp2_with fail
    go_ret
    exact ⟨rfl, Below.refl _ _⟩
  go_wp2_with fail
  refine (rollAny (B := w.heap.size) 6 w cd (Nat.le_refl _)).mono ?_
  rintro e w1 ⟨rfl, g1, s1⟩
  have b1 := below_new g1
  clear g1 hbig cd
  go_wp2_with fail
  refine (throwAny (B := w.heap.size) (a := a) (len := len) (cap := cap) 2048 _ (by omega) (by omega) s1).mono ?_
  rintro e w2 ⟨x, x0, x1, rfl, g2, s2⟩
  have b2 := b1.trans (below_of_grown g2 b1.size (fun k e => by cases e; exact Nat.le_refl _))
  clear b1 g2 s1
  go_wp2_with fail
  refine (throwAny (B := w.heap.size) (a := a) (len := len) (cap := cap) 2048 _ (by omega) (by omega) s2).mono ?_
  rintro e w3 ⟨y, y0, y1, rfl, g3, s3⟩
  have b := b2.trans (below_of_grown g3 b2.size (fun k e => by cases e; exact Nat.le_refl _))
  have cd := s3.2
  clear b2 g3 s2 s3
  have hx : 0 ≤ x ∧ x ≤ 2047 := ⟨x0, by omega⟩
  have hy : 0 ≤ y ∧ y ≤ 2047 := ⟨y0, by omega⟩
  clear x0 x1 y0 y1
  have p0 := pass_empty hx
  have p1 := pass_zero hx hy
  have p2 := pass_full hx hy
  replace p0 := Lib.hid p0
  replace p1 := Lib.hid p1
  replace p2 := Lib.hid p2
  clear hx hy
  go_wp2_with fail
  refine (drawPasses (B := w.heap.size) w3 cd b.size).mono ?_
  rintro e w4 ⟨L, al, cl, id, rfl, FL, hL3, k⟩
  replace cd := cd.below k b.size
  replace b := b.trans (k.mono b.size)
  clear k
  go_wp2_with fail
  refine (drawPushedIn (B := w.heap.size) w4 cd b.size).mono ?_
  rintro e w5 ⟨Q, af, cf, fid, frm, fln, D, ad, cdd, rfl, F, hcl, hae, hn, hL, h9, hD9, k⟩
  replace FL := FL.below k
  replace b := b.trans (k.mono b.size)
  clear k cd
  go_upto_region 8 with fail
  have X4 := Bx.made w5 (.int .i64 fid) (.bool frm) (.int .i64 fln) (.slice ad D.length cdd)
  have k : Below w5.heap.size w5 (w5.alloc (.cells #[.int .i64 fid, .bool frm, .int .i64 fln, .slice ad D.length cdd] 34)) := (Below.refl _ _).alloc (Nat.le_refl _) _
  replace FL := FL.below k
  replace F := F.below k
  replace hn := hn.below k
  replace b := b.trans (k.mono b.size)
  clear k
  generalize w5.alloc (.cells #[.int .i64 fid, .bool frm, .int .i64 fln, .slice ad D.length cdd] 34) = W1 at *
  generalize w5.heap.size = g4 at *
  have hs9 : ∀ j, j < Q.length → (nthF Q j).D.length ≤ 1048576 := fun j hj => by
    rw [nthF_eq hj]
    have := h9 _ (List.getElem_mem hj)
    omega
  have HI := implPushedIn af Q cf fid frm fln ad D cdd W1 F hcl hae hn (by omega) hs9
  have HS := fun w h h2 => specPushedIn af Q cf fid frm fln ad D cdd w h h2 (by omega) hs9
  have hxl := push_len Q ⟨fid, frm, fln, D⟩
  generalize pushV Q ⟨fid, frm, fln, D⟩ = RR at HI HS hxl
  obtain ⟨X, kc⟩ := RR
  simp only at hxl
  replace HS := Lib.hid HS
  replace HI := Lib.hid HI
  clear h9 hs9
  have x0 := X4.c0
  have x1 := X4.c1
  have x2 := X4.c2
  have x3 := X4.c3
  go_wp2_with fail
  refine HI.out.mono ?_
  intro e w6 h2
  obtain ⟨M6, a6, c6, rfl, hM6, O6, -, k⟩ := h2
  have F6 := O6.frsOf hM6 (by omega)
  replace FL := FL.below k
  replace F := F.below k
  replace hn := hn.below k
  replace X4 := X4.below' k
  replace b := b.trans (k.mono b.size)
  clear k HI hM6 O6 x0 x1 x2 x3
  have x0 := X4.c0
  have x1 := X4.c1
  have x2 := X4.c2
  have x3 := X4.c3
  go_wp2_with fail
  refine (HS.out w6 F hn).mono ?_
  intro e w7 h2
  obtain ⟨M7, g7, c7, rfl, hM7, O7, k⟩ := h2
  have F7 := O7.frsOf hM7 (by omega)
  replace FL := FL.below k
  replace F6 := F6.below k
  replace b := b.trans (k.mono b.size)
  clear k HS hM7 O7 x0 x1 x2 x3 X4 F hn hcl hae
  go_upto_region 10 with fail
  have k : Below w7.heap.size w7 (w7.alloc (.cells #[] 41)) := (Below.refl _ _).alloc (Nat.le_refl _) _
  replace FL := FL.below k
  replace F6 := F6.below k
  replace F7 := F7.below k
  replace b := b.trans (k.mono b.size)
  clear k
  go_wp2_with fail
  refine (implPasses _ [] 0 x _ (Fls.nil _ _) (by simp)).mono ?_
  rintro e w8 ⟨he, k⟩
  rw [p0.out] at he
  subst he
  replace FL := FL.below k
  replace F6 := F6.below k
  replace F7 := F7.below k
  replace b := b.trans (k.mono b.size)
  clear k p0
  have q1 := Fls.one w8 0 y
  have k : Below w8.heap.size w8 (w8.alloc (.cells #[.int .i64 0, .int .i64 y] 41)) := (Below.refl _ _).alloc (Nat.le_refl _) _
  replace FL := FL.below k
  replace F6 := F6.below k
  replace F7 := F7.below k
  replace b := b.trans (k.mono b.size)
  clear k
  go_wp2_with fail
  refine (implPasses _ [(0, y)] 1 x _ q1 (by simp)).mono ?_
  rintro e w9 ⟨he, k⟩
  rw [p1.out] at he
  subst he
  replace FL := FL.below k
  replace F6 := F6.below k
  replace F7 := F7.below k
  replace b := b.trans (k.mono b.size)
  clear k p1 q1
  have q1 := Fls.one w9 2047 y
  have k : Below w9.heap.size w9 (w9.alloc (.cells #[.int .i64 2047, .int .i64 y] 41)) := (Below.refl _ _).alloc (Nat.le_refl _) _
  replace FL := FL.below k
  replace F6 := F6.below k
  replace F7 := F7.below k
  replace b := b.trans (k.mono b.size)
  clear k
  go_wp2_with fail
  refine (implPasses _ [(2047, y)] 1 x _ q1 (by simp)).mono ?_
  rintro e w10 ⟨he, k⟩
  rw [p2.out] at he
  subst he
  replace FL := FL.below k
  replace F6 := F6.below k
  replace F7 := F7.below k
  replace b := b.trans (k.mono b.size)
  clear k p2 q1
  have k : Below w10.heap.size w10 (w10.alloc (.cells #[] 41)) := (Below.refl _ _).alloc (Nat.le_refl _) _
  replace FL := FL.below k
  replace F6 := F6.below k
  replace F7 := F7.below k
  replace b := b.trans (k.mono b.size)
  clear k
  go_wp2_with fail
  refine (implPasses _ [] 0 2048 _ (Fls.nil _ _) (by simp)).mono ?_
  rintro e w11 ⟨he, k⟩
  rw [pass_over] at he
  subst he
  replace FL := FL.below k
  replace F6 := F6.below k
  replace F7 := F7.below k
  replace b := b.trans (k.mono b.size)
  clear k
  obtain ⟨bb, hbb⟩ : ∃ bb, passV L id = bb := ⟨_, rfl⟩
  replace hbb := Lib.hid hbb
  go_wp2_with fail
  refine (implPasses al L cl id w11 FL (by omega)).mono ?_
  rintro e w12 ⟨he, k⟩
  rw [hbb.out] at he
  subst he
  replace FL := FL.below k
  replace F6 := F6.below k
  replace F7 := F7.below k
  replace b := b.trans (k.mono b.size)
  clear k
  go_wp2_with fail
  refine (specPasses al L cl id w12 FL).mono ?_
  rintro e w13 ⟨he, k⟩
  rw [hbb.out] at he
  subst he
  replace F6 := F6.below k
  replace F7 := F7.below k
  replace b := b.trans (k.mono b.size)
  clear k FL hbb
  have hbe : (bb == bb) = true := by cases bb <;> rfl
  have hke : (kc == kc) = true := by cases kc <;> rfl
  go_wp2_with fail
  refine (likeFrs a6 (some ⟨g7, 0, none⟩) X c6 c7 w13 F6 F7).mono ?_
  rintro e w14 ⟨rfl, k⟩
  replace b := b.trans (k.mono b.size)
  clear k F6 F7
  go_wp2_with fail
  go_ret
  exact ⟨rfl, b⟩

theorem laidOut : laidOutB Try.prog = true := by kernel_rfl

/-! ### The row's step of FnFilters. -/
set_option maxRecDepth 100000 in
theorem liftedFnFilters (os : Os) (started : os.Started) (H : Type) (enc : TypeId × Value → H) :
    ReturnsInHanded {} Try.checked os 3 .any (Rows.fnFiltersSpec.pre6 enc Try.prog Try.f3 Rows.fnFiltersRow.domain false) (Rows.fnFiltersSpec.post enc Try.prog Try.f3 false true false false) := by
  refine returnsInHanded_of_change (C := Try.checked) own started (by kernel_rfl) Try.func3
    (ChangeSpec.witness6 (enc := enc) (C := Try.checked) false ⟨#[], #[.slice none 0 0], []⟩ 8 (by kernel_rfl) (by kernel_rfl) (by kernel_rfl) (by kernel_rfl)) ?_
  intro W base args ds gs before hval0 hW hcnd _
  have hval : ∀ (j : Nat) t v, Try.f3.params[j]? = some t → args[j]? = some v → Value.okWide Try.prog W .any base t v := hval0
  have hW' := hW
  obtain ⟨p, q, hA0, hV, rfl, hfz, hnd⟩ := hW
  have hA : DataW.TrodAll enc Try.prog W 0 (fun _ => true) true Try.f3.params.toList args.toList ds p := hA0
  rw [Try.params3] at hA hval
  obtain ⟨v0, vs0, d0, ds0, p0, q0, hargs, rfl, rfl, h0, r0⟩ := trodAll_cons hA
  obtain ⟨rfl, rfl, rfl⟩ := trodAll_nil r0
  obtain rfl : args = #[v0] := by cases args; simp_all
  obtain ⟨rfl, rfl⟩ := trodVars_none hV
  obtain ⟨a0, len0, cap0, rfl⟩ := okWide_slice Try.underlying22 (hval 0 22 v0 rfl rfl)
  have k0 := h0
  have lt0 : ∀ x ∈ p0, x.block < W.heap.size := by obtain ⟨m, hm⟩ := k0; exact DataW.trod_lt m _ _ _ hm
  have w0 : Code W.heap.size a0 len0 W := by
    obtain ⟨fuel, hf⟩ := h0
    rcases open_ints Try.underlying22 Try.underlying5 (by kernel_rfl) hf with ⟨hcs, _⟩ | ⟨x, l, c, zs, hcs, _, hl, hm, hz, _, hcell, hwz⟩
    · simp [Value.cells] at hcs
      obtain ⟨rfl, rfl, rfl⟩ := hcs
      exact ⟨by omega, fun j hj => absurd hj (by omega)⟩
    · simp [Value.cells] at hcs
      obtain ⟨rfl, rfl, rfl⟩ := hcs
      exact code_of hl hm (by simpa using hz) hcell hwz
  clear hA0 hval0
  refine (walkFnFilters a0 len0 cap0 W w0).mono fun e W' ⟨he, bel⟩ => ?_
  subst he
  exact ⟨_, rfl, _, _, _, [], _, [], hW', trodAll_mk1 (shut_bool Try.underlying4 _), (trodAll_cons_mk (Below.trod laidOut (by kernel_rfl) (of_decide_eq_true (by kernel_rfl)) k0 bel lt0) trodAll_mk0), rfl, bel.frame _, fun h => by cases h⟩

theorem fnFilters_holds : Rows.FnFiltersSaid :=
  OpenClaim.holds_of_wide 3 Try.f3 rfl rfl rfl rfl rfl rfl rfl ⟨rfl, rfl, rfl, rfl, rfl⟩ rfl rfl rfl rfl rfl (by kernel_rfl) Try.func3 (by kernel_rfl)
    (of_decide_eq_true (by kernel_rfl)) (by unfold Func.isWrapper; first | (rw [if_pos (by decide +kernel)]; kernel_rfl) | (rw [if_neg (by decide +kernel)]; exact ⟨rfl, rfl⟩))
    (fun os started H enc _ => liftedFnFilters os started H enc)
#print axioms fnFilters_holds
end Go.Proofs.Ytadnnbinmghabaa.lawFilters
