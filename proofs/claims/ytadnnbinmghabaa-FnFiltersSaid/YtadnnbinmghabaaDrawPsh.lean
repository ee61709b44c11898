/- The model's draw for PushedIn: some frames, often some 32 of them, and a frame. -/
import Derived.Test.YtadnnbinmghabaaDrawsB
set_option linter.unusedVariables false
set_option linter.unusedSimpArgs false
set_option maxRecDepth 20000
namespace Go.Proofs.Ytadnnbinmghabaa
open Go.RowKit

/-- What a draw of some frames and a frame leaves. -/
def PushArg (w : World) (e : Ending) (w' : World) : Prop :=
  ∃ (L : List Frm) (a : Option Addr) (c : Nat) (id : Int) (rm : Bool) (ln : Int) (D : List Int) (ad : Option Addr) (cd : Nat),
    e = .returned (.tuple #[.slice a L.length c, frV id rm ln ad D.length cd]) ∧ Frs a L w' ∧ L.length ≤ c ∧ Addressed a c ∧ Nums ad D w' ∧ L.length ≤ 32 ∧ (∀ x ∈ L, x.D.length ≤ 9) ∧ D.length ≤ 9 ∧ Below w.heap.size w w'

set_option maxHeartbeats 4000000 in
/-- spec.DrawPushedIn. -/
theorem drawPushedIn {B : Nat} {a : Option Addr} {len cap : Nat} (w : World) (cd : Code B a len w) (hB : B ≤ w.heap.size) :
    Calls Try.prog 10 #[.slice a len cap] w (PushArg w) := by
  have rA := Bx.made w (.int .i64 0) (.bool false) (.int .i64 0) (.slice none 0 0)
  have G := World.grownBy_alloc w (.cells #[.int .i64 0, .bool false, .int .i64 0, .slice none 0 0] 34) none
  go_enter Try.func10, Try.ntmps10
  go_upto_region 1 with fail
  generalize w.alloc (.cells #[.int .i64 0, .bool false, .int .i64 0, .slice none 0 0] 34) = W at G rA ⊢
  have cd1 := cd.below (below_new G) hB
  have hla := rA.lt
  go_wp2_with fail
  refine (newAny (B := B) _ cd1 (Nat.le_trans hB G.size)).mono ?_
  rintro e w1 ⟨rfl, g1, s1⟩
  have hlow : w.heap.size ≤ W.heap.size := G.size
  replace rA := rA.kept g1 (by simp)
  replace G := grown_trans G g1
  clear cd1 g1
  generalize hp : W.heap.size = p at *
  clear hp
  have hra : w.heap.size + 1 ≤ w1.heap.size := by have := s1.lt; omega
  have hpr : w.heap.size ≠ p := by omega
  have hpl := s1.lt
  have own0 := own_made w1 (Nat.le_refl _)
  have g0 := World.grownBy_alloc w1 (.cells #[] 34) (some p)
  have s0 := s1.alloc (.cells #[] 34)
  go_upto_region 3 with fail
  generalize w1.alloc (.cells #[] 34) = W2 at *
  generalize hv0 : (.slice (some ⟨w1.heap.size, 0, none⟩) 0 0 : Value) = v0 at *
  go_wp2_with fail
  refine (belowPos (B := B) (a := a) (len := len) (cap := cap) 4 _ (by omega) (by omega) s0).mono ?_
  rintro e w2 ⟨n, n0, n1, rfl, g2, s2⟩
  replace own0 := own0.cur s0 g2
  replace g0 := grown_trans g0 g2
  clear g2 s0
  obtain ⟨n, rfl⟩ := Int.eq_ofNat_of_zero_le n0
  have start : BoxAt B p a len cap 0 w1 v0 w2 := ⟨[], [], w1.heap.size, 0, hv0.symm, rfl, by subst hv0; exact own0, Nat.zero_le _, (fun x hx => by cases hx), g0, s2⟩
  clear own0 g0 s2 hv0
  replace start := Lib.hid start
  go_wp2_with fail
  go_loopw [5, 6] (fun l i wr => ∃ n : Nat, i = .int .i64 n ∧ n ≤ 3 ∧ BoxAt B p a len cap (3 - n) w1 l wr) (fun _ i _ => (intOf i).toNat)
  case atStart => exact ⟨n, rfl, by omega, start.out.more (Nat.zero_le _)⟩
  case round =>
    clear start n0 n1
    obtain ⟨n, rfl, hn, L, M, g, c, rfl, hM, O, hL, h9, gr, s⟩ := hrel
    by_cases h0 : n = 0
    · subst h0
      replace hL : L.length ≤ 32 := by omega
      replace h9 := Lib.hid h9
      replace hM := Lib.hid hM
      go_wp2_with fail
      refine (onceAny (B := B) (a := a) (len := len) (cap := cap) 10 _ (by omega) (by omega) s).mono ?_
      rintro e w4 ⟨bb, rfl, g2, s2⟩
      replace O := O.cur s g2
      replace gr := grown_trans gr g2
      clear s g2
      go_upto_if 22 with fail
      go_cut [5] (fun v wx => BoxAt B p a len cap 32 w1 v wx)
      case first =>
        cases bb with
        | false =>
          go_wp2_with fail
          go_meet
          exact ⟨L, M, g, c, rfl, hM.out, O, hL, h9.out, gr, s2⟩
        | true =>
          have start : BoxAt B p a len cap 32 w1 (.slice (some ⟨g, 0, none⟩) L.length c) w4 := ⟨L, M, g, c, rfl, hM.out, O, hL, h9.out, gr, s2⟩
          replace start := Lib.hid start
          clear O hM h9 hL gr s2
          go_wp2_with fail
          go_loopw [5] (fun l wr => BoxAt B p a len cap 32 w1 l wr) (fun l _ => 32 - lenV l)
          case atStart => exact start.out
          case round =>
            clear start
            obtain ⟨L, M, g, c, rfl, hM, O, hL, h9, gr, s⟩ := hrel
            replace hM := Lib.hid hM
            replace h9 := Lib.hid h9
            go_wp2_with fail
            refine (belowPos (B := B) (a := a) (len := len) (cap := cap) 2 _ (by omega) (by omega) s).mono ?_
            rintro e w5 ⟨x, x0, x1, rfl, g3, s3⟩
            replace O := O.cur s g3
            replace gr := grown_trans gr g3
            clear s g3
            by_cases hlt : (L.length : Int) < 32 - x
            · have hml : M.length = L.length := by rw [← hM.out]; simp
              have hsl : L.length + 1 ≤ 32 := by omega
              have O1 := O.stay (World.grownBy_alloc w5 (.cells #[.int .i64 0, .bool false, .int .i64 0, .slice none 0 0] 34) none)
              have s1 := s3.alloc (.cells #[.int .i64 0, .bool false, .int .i64 0, .slice none 0 0] 34)
              have g1 := grown_trans gr (World.grownBy_alloc w5 (.cells #[.int .i64 0, .bool false, .int .i64 0, .slice none 0 0] 34) (some p))
              have nil1 := OwnI.nil (w5.alloc (.cells #[.int .i64 0, .bool false, .int .i64 0, .slice none 0 0] 34)) w1.heap.size
              have hmb : M.length ≤ 2000000 := by omega
              have hsz := g1.size
              have hne := O1.ne_cur s1
              have hlow := fun q e => (O1.1.lt q e).1
              replace hml := Lib.hid hml
              clear O s3 gr
              go_wp2_with (at_builtin; go_loud (refine wpList_appF rfl _ _ rfl w1.heap.size M ⟨0, false, 0, []⟩ (.slice none 0 0) _ rfl O1 nil1 w5.heap.size 1 rfl (World.cell?_alloc_at _ _ _ _ rfl) (World.cell?_alloc_at _ _ _ _ rfl) (World.cell?_alloc_at _ _ _ _ rfl) (World.cell?_alloc_at _ _ _ _ rfl) hmb hsz ?_))
              intro av2 cv2 w6 O4 k4
              have s4 := s1.step k4 (fun k e => by have h2 := hlow k e; omega)
              have g4 := grown_own g1 k4 (hlow g rfl)
              obtain ⟨gg, rfl, -, -, -, -⟩ := O4.form (by simp)
              clear k4 s1 g1 O1 hne hlow hsz
              have hll : (L ++ [(⟨0, false, 0, []⟩ : Frm)]).length = M.length + 1 := by rw [hml.out]; simp
              replace hll := Lib.hid hll
              replace hM := Lib.hid (map_snoc (f := ⟨0, false, 0, []⟩) (v := .slice none 0 0) hM.out)
              clear nil1
              go_wp2_with fail
              go_roundw
              case rel =>
                refine ⟨L ++ [⟨0, false, 0, []⟩], _, gg, cv2, by rw [hll.out] <;> rfl, hM.out, by rw [hll.out]; exact O4, by rw [hll.out, hml.out]; omega, fun x hx => ?_, g4, s4⟩
                rcases List.mem_append.1 hx with hx | hx
                · exact h9.out x hx
                · simp at hx; subst hx; simp
              case measure => simp [lenV, hml.out]; omega
            · go_wp2_with fail
              go_meet
              exact ⟨L, M, g, c, rfl, hM.out, O, hL, h9.out, gr, s3⟩
      case rest =>
      clear O hM h9 gr s2 hL
      obtain ⟨L, M, g, c, rfl, hM, O, hL, h9, gr, s⟩ := hcut
      generalize wc = w4 at *
      replace hM := Lib.hid hM
      replace h9 := Lib.hid h9
      replace rA := rA.kept gr (by simp; omega)
      have b := (below_new G).grown gr G.size (fun q e => by cases e; exact hlow)
      have hcl := O.len.2
      have hae := O.addressed
      have hgz := gr.size
      clear gr G
      go_wp2_with fail
      refine (drawAnyFr (B := B) (a := a) (len := len) (cap := cap) _ s).mono ?_
      rintro e w5 ⟨id, rm, ln, D, dv, rfl, oD, hD, hi, hl, g5, s5⟩
      replace O := O.cur s g5
      replace rA := rA.kept g5 (by simp; omega)
      replace b := b.grown g5 b.size (fun q e => by cases e; exact hlow)
      obtain ⟨ad, cd, rfl, -⟩ := oD.nums
      have hra2 : w.heap.size + 1 ≤ w4.heap.size := by omega
      clear g5 s
      have y0 := rA.c0
      have y1 := rA.c1
      have y2 := rA.c2
      have y3 := rA.c3
      have q0 := rA.free 0
      have q1 := rA.free 1
      have q2 := rA.free 2
      have q3 := rA.free 3
      go_wp2_with fail
      obtain ⟨dA, kA⟩ := lay_box rA id rm ln (.slice ad D.length cd)
      replace O := O.mid kA hra
      replace oD := oD.mid kA hra2
      replace b := b.trans (kA.below (Nat.le_refl _) b.size)
      generalize (((w5.setCell ⟨w.heap.size, 0, none⟩ (.int .i64 id)).setCell ⟨w.heap.size, 1, none⟩ (.bool rm)).setCell ⟨w.heap.size, 2, none⟩ (.int .i64 ln)).setCell ⟨w.heap.size, 3, none⟩ (.slice ad D.length cd) = Wx at *
      have z0 := dA.c0
      have z1 := dA.c1
      have z2 := dA.c2
      have z3 := dA.c3
      have FF := O.frsOf hM.out (by omega)
      exact bodyPost_ret (v := .tuple #[.slice (some ⟨g, 0, none⟩) L.length c, frV id rm ln ad D.length cd]) (by simp [results, Try.results10, go_sem, z0, z1, z2, z3]) rfl ⟨L, _, c, id, rm, ln, D, ad, cd, rfl, FF, hcl, hae, oD.nums2, hL, h9.out, hD, b⟩
    · have hpos : (0 : Int) < n := by omega
      have hml : M.length = L.length := by rw [← hM]; simp
      have hl3 : L.length + n ≤ 3 := by omega
      clear hL
      replace hM := Lib.hid hM
      replace h9 := Lib.hid h9
      go_wp2_with fail
      refine (drawAnyFr (B := B) (a := a) (len := len) (cap := cap) _ s).mono ?_
      rintro e w5 ⟨id, rm, ln, D, dv, rfl, oA, hD, hi, hl, g3, s3⟩
      replace O := O.cur s g3
      replace oA := oA.mono gr.size
      replace gr := grown_trans gr g3
      obtain ⟨ad, cd, rfl, -⟩ := oA.nums
      clear s g3
      have O1 := O.stay (World.grownBy_alloc w5 (.cells #[.int .i64 id, .bool rm, .int .i64 ln, .slice ad D.length cd] 34) none)
      have o1 := oA.stay (World.grownBy_alloc w5 (.cells #[.int .i64 id, .bool rm, .int .i64 ln, .slice ad D.length cd] 34) none)
      have s1 := s3.alloc (.cells #[.int .i64 id, .bool rm, .int .i64 ln, .slice ad D.length cd] 34)
      have g1 := grown_trans gr (World.grownBy_alloc w5 (.cells #[.int .i64 id, .bool rm, .int .i64 ln, .slice ad D.length cd] 34) (some p))
      have hmb : M.length ≤ 2000000 := by omega
      have hsz := g1.size
      have hlow := fun q e => (O1.1.lt q e).1
      have hne := O1.ne_cur s1
      replace hml := Lib.hid hml
      clear O s3 gr oA
      go_wp2_with (at_builtin; go_loud (refine wpList_appF rfl _ _ rfl w1.heap.size M ⟨id, rm, ln, D⟩ (.slice ad D.length cd) _ rfl O1 o1 w5.heap.size 1 rfl (World.cell?_alloc_at _ _ _ _ rfl) (World.cell?_alloc_at _ _ _ _ rfl) (World.cell?_alloc_at _ _ _ _ rfl) (World.cell?_alloc_at _ _ _ _ rfl) hmb hsz ?_))
      intro av2 cv2 w6 O4 k4
      have s4 := s1.step k4 (fun k e => by have h2 := hlow k e; omega)
      have g4 := grown_own g1 k4 (hlow g rfl)
      obtain ⟨gg, rfl, -, -, -, -⟩ := O4.form (by simp)
      clear k4 s1 g1 O1 hne hlow hsz
      clear o1
      have hll : (L ++ [(⟨id, rm, ln, D⟩ : Frm)]).length = M.length + 1 := by rw [hml.out]; simp
      replace hll := Lib.hid hll
      replace hM := Lib.hid (map_snoc (f := ⟨id, rm, ln, D⟩) (v := .slice ad D.length cd) hM.out)
      go_wp2_with fail
      go_roundw
      case rel =>
        refine ⟨n - 1, by congr 1; omega, by omega, L ++ [⟨id, rm, ln, D⟩], _, gg, cv2, by rw [hll.out] <;> rfl, hM.out, by rw [hll.out]; exact O4, by rw [hll.out, hml.out]; omega, fun x hx => ?_, g4, s4⟩
        rcases List.mem_append.1 hx with hx | hx
        · exact h9.out x hx
        · simp at hx; subst hx; exact hD
      case measure => simp [intOf]; omega
end Go.Proofs.Ytadnnbinmghabaa
