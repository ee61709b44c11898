/- Proved: at every text of bytes: at the servers drawn out of it ServerFor, ServerTick, ServerPut and ServerOk answer as the model does; between two events of a run lie at least four bits; a tick tells one at most (laws.FnServer answers true). No condition. -/
import Derived.Test.YtnhmecabppaboaaGreatM29
import Derived.Test.YtnhmecabppaboaaGreatM26
import Derived.Test.YtnhmecabppaboaaGreatM10
import Derived.Test.YtnhmecabppaboaaGreatM24
import Derived.Test.YtnhmecabppaboaaGreatM27
import Derived.Test.YtnhmecabppaboaaGreatM19
import Derived.Test.YtnhmecabppaboaaGreatRows
import Derived.WalkKit
import Derived.WalkSpells
import Derived.ProofKit
import Derived.OpenShut
import Derived.ShutString
import Derived.ChangeOld
import Derived.Below
import Derived.Deep.CutRange

set_option linter.unusedVariables false
set_option linter.unusedSimpArgs false
namespace Go.Proofs.YtnhmecabppaboaaGreat.lawServer
open Go.ChangeShapes Go.WideShapes Go.ChangeAt Go.RowKit
open Go.ChangeMaps (open_string shut_string)

theorem own : ownKnob Tryz.prog.godebug = none := by kernel_rfl

/-- The program's answer can be read as the model's can. -/
theorem for_read {s : Srv} {bits : Int} {w w' : World} {e : Ending} (h : SfR s bits w e w') : MtR (forS s bits) (forE s bits) w e w' := by
  cases hs : srvB s with
  | false =>
    obtain ⟨rfl, b⟩ := h.1 hs
    have e1 : forS s bits = srZ := by unfold forS; rw [if_neg (by rw [hs]; simp)]
    have e2 : forE s bits = [] := by unfold forE; rw [if_neg (by rw [hs]; simp)]
    rw [e1, e2]
    exact ⟨none, 0, none, 0, rfl, Bxs.nil _ _, Evs.nil _ _, b⟩
  | true =>
    obtain ⟨p, G, L, H, a, c, P, LE, HE, rfl, -, O, RE, b⟩ := h.2 hs
    obtain ⟨⟨h1, h2⟩, h3, -⟩ := for_lean s bits
    exact ⟨_, _, a, c, rfl, O.bxs (by omega) (fun j hj => by have := (h2 j hj).1; omega), RE.evo.evs (Nat.le_trans h3 (by decide)), b⟩
/-- What ServerPut answers, as it can be read. -/
def PtR (s : Srv) (k : Int) (w : World) (e : Ending) (w' : World) : Prop := ∃ a c, e = .returned (.tuple #[svV a s.bx.length c s.busy s.node s.rank s.now, .int .i64 k]) ∧ Bxs Adr a s.bx w' ∧ Below w.heap.size w w'
theorem put_no {s : Srv} (h : srvB s = false) (node : Int) (f : Frm) : putS s node f = (srZ, 3) := by unfold putS; rw [if_neg (by rw [h]; simp)]
theorem put_lean {s : Srv} (h : srvB s = true) (node : Int) (f : Frm) : (putS s node f).1.bx.length ≤ 2000000 ∧ ∀ j, j < (putS s node f).1.bx.length → (nthB (putS s node f).1.bx j).length ≤ 2000000 := by
  have hb := (srvB_iff.1 (putS_right node f h)).1
  exact ⟨by have := (boxesB_iff.1 hb).2.1; omega, fun j hj => by have := (boxB_iff.1 ((boxesB_iff.1 hb).2.2 j hj)).1; omega⟩
theorem put_readI {s : Srv} {node : Int} {f : Frm} {w w' : World} {e : Ending} (h : PuR s node f w e w') : PtR (putS s node f).1 (putS s node f).2 w e w' := by
  cases hs : srvB s with
  | false =>
    obtain ⟨rfl, b⟩ := h.1 hs
    rw [put_no hs]
    exact ⟨none, 0, rfl, Bxs.nil _ _, b⟩
  | true =>
    obtain ⟨G, L, H, rfl, O, -, b⟩ := h.2 hs
    obtain ⟨h1, h2⟩ := put_lean hs node f
    exact ⟨_, _, rfl, O.bxs h1 h2, b⟩
theorem put_readM {s : Srv} {node : Int} {f : Frm} {w w' : World} {e : Ending} (h : PmR s node f w e w') : PtR (putS s node f).1 (putS s node f).2 w e w' := by
  cases hs : srvB s with
  | false =>
    obtain ⟨rfl, b⟩ := h.1 hs
    rw [put_no hs]
    exact ⟨none, 0, rfl, Bxs.nil _ _, b⟩
  | true =>
    obtain ⟨G, cap, c, L, H, rfl, O, -, -, b⟩ := h.2 hs
    obtain ⟨h1, h2⟩ := put_lean hs node f
    exact ⟨_, _, rfl, O.bxs h1 h2, b⟩
theorem one_len (s : Srv) : (forE s 1).length ≤ 1 := by
  cases h : srvB s with
  | false => unfold forE; rw [if_neg (by rw [h]; simp)]; simp
  | true => rw [(tik_for h).2]; exact tikE_len s
theorem tik_read {s : Srv} : (if srvB s = true then tikS s else srZ) = forS s 1 ∧ (if srvB s = true then tikE s else []) = forE s 1 := by
  cases h : srvB s with
  | false => unfold forS forE; simp [h]
  | true => rw [(tik_for h).1, (tik_for h).2]; simp
theorem gap_any {s : Srv} (bits : Int) {j : Nat} (hj : j + 1 < (forE s bits).length) : (nthE (forE s bits) j).at_ + 4 ≤ (nthE (forE s bits) (j + 1)).at_ := by
  cases h : srvB s with
  | false => unfold forE at hj; rw [if_neg (by rw [h]; simp)] at hj; simp at hj
  | true => exact for_gap h bits hj
theorem at_any {s : Srv} (bits : Int) {j : Nat} (hj : j < (forE s bits).length) : 0 ≤ (nthE (forE s bits) j).at_ ∧ (nthE (forE s bits) j).at_ ≤ 100000 := by
  cases h : srvB s with
  | false => unfold forE at hj; rw [if_neg (by rw [h]; simp)] at hj; simp at hj
  | true => exact for_at h bits hj
set_option maxHeartbeats 32000000 in
set_option maxRecDepth 20000 in
theorem walkFnServer (a : Option Addr) (len cap : Nat) (w : World) (cd : Code w.heap.size a len w) :
    Calls Tryz.prog 3 #[.slice a len cap] w fun e w' => e = .returned (.bool true) ∧ Below w.heap.size w w' := by
  have hlm := cd.1
  go_enter Tryz.func3, Tryz.ntmps3
  go_wp2_with fail
  refine (bigAny a len cap w hlm).mono ?_
  rintro e w1 ⟨rfl, rfl⟩
  by_cases hbig : (4096 : Int) < (len : Int)
  · go_wp2_with fail
    go_ret
    exact ⟨rfl, Below.refl _ _⟩
  go_wp2_with fail
  refine (drawSvFor (B := w.heap.size) w cd (Nat.le_refl _)).mono ?_
  rintro e w2 ⟨X, aX, c, busy, nd, rank, now, n, rfl, hX, hX6, hX16, b⟩
  obtain ⟨H3, b3⟩ := one_sv w2 (svC aX X.length c busy nd rank now) 26
  go_upto_region 4 with fail
  have B := Below.then2 b b3
  replace hX := hX.below b3
  clear b b3
  generalize w2.alloc _ = W3 at H3 hX B ⊢
  generalize w2.heap.size = g3 at H3 ⊢
  have hgap := Lib.hid (fun j (hj : j + 1 < (forE ⟨X, busy, nd, rank, now⟩ n).length) => And.intro (at_any (s := ⟨X, busy, nd, rank, now⟩) n (j := j) (by omega)) (And.intro (at_any (s := ⟨X, busy, nd, rank, now⟩) n hj) (gap_any n hj)))
  have hone := one_len ⟨X, busy, nd, rank, now⟩
  obtain ⟨⟨hQ6, hQl⟩, hN5, -⟩ := for_lean ⟨X, busy, nd, rank, now⟩ n
  obtain ⟨⟨hT6, -⟩, -, -⟩ := for_lean ⟨X, busy, nd, rank, now⟩ 1
  have K4 := Lib.hid (fun w h => implServerFor Adr aX X c busy nd rank now n w h)
  have K5 := Lib.hid (fun w h => specServerFor Adr aX X c busy nd rank now n w h)
  have K6 := Lib.hid (fun w h => implServerTick Adr aX X c busy nd rank now w h)
  have K7 := Lib.hid (fun w h => specServerTick Adr aX X c busy nd rank now w h)
  have E4 := Lib.hid (fun w e w' => @for_read ⟨X, busy, nd, rank, now⟩ n w w' e)
  have E6 := Lib.hid (fun w e w' => @for_read ⟨X, busy, nd, rank, now⟩ 1 w w' e)
  rw [(tik_read (s := ⟨X, busy, nd, rank, now⟩)).1, (tik_read (s := ⟨X, busy, nd, rank, now⟩)).2] at K7
  obtain ⟨Q, hQ⟩ : ∃ q, forS ⟨X, busy, nd, rank, now⟩ n = q := ⟨_, rfl⟩
  obtain ⟨N, hN⟩ : ∃ q, forE ⟨X, busy, nd, rank, now⟩ n = q := ⟨_, rfl⟩
  obtain ⟨T, hT⟩ : ∃ q, forS ⟨X, busy, nd, rank, now⟩ 1 = q := ⟨_, rfl⟩
  obtain ⟨M, hM⟩ : ∃ q, forE ⟨X, busy, nd, rank, now⟩ 1 = q := ⟨_, rfl⟩
  rw [hQ] at hQ6 hQl K5 E4
  rw [hN] at hgap hN5 K5 E4
  rw [hT] at hT6 K7 E6
  rw [hM] at hone K7 E6
  clear hQ hN hT hM hQl
  obtain ⟨QX, Qb, Qn, Qr, Qt⟩ := Q
  obtain ⟨TX, Tb, Tn, Tr, Tt⟩ := T
  go_wp2_with (refine svTakeI H3 rfl rfl rfl ?_)
  refine (K4.out _ hX).mono ?_
  rintro e w4 h
  obtain ⟨a5, c5, e6, d6, rfl, hB5, hE5, b⟩ := E4.out _ _ _ h
  clear h
  replace H3 := blkV H3 b
  replace hX := hX.below b
  replace B := Below.then2 B b
  clear b
  obtain ⟨H5, b⟩ := one_sv w4 (svC a5 QX.length c5 Qb Qn Qr Qt) 26
  replace H3 := blkV H3 b
  replace hX := hX.below b
  replace hB5 := hB5.below b
  replace hE5 := hE5.below b
  replace B := Below.then2 B b
  clear b
  go_upto_region 5 with fail
  generalize w4.alloc _ = W4 at H3 H5 hX hB5 hE5 B ⊢
  generalize w4.heap.size = g5 at H5 ⊢
  go_wp2_with (refine svTakeI H3 rfl rfl rfl ?_)
  refine (K5.out _ hX).mono ?_
  rintro e w5 h
  obtain ⟨a7, c7, e8, d8, rfl, hB7, hE7, b⟩ := h
  replace H3 := blkV H3 b
  replace H5 := blkV H5 b
  replace hX := hX.below b
  replace hB5 := hB5.below b
  replace hE5 := hE5.below b
  replace B := Below.then2 B b
  clear b
  obtain ⟨H7, b⟩ := one_sv w5 (svC a7 QX.length c7 Qb Qn Qr Qt) 26
  replace H3 := blkV H3 b
  replace H5 := blkV H5 b
  replace hX := hX.below b
  replace hB5 := hB5.below b
  replace hB7 := hB7.below b
  replace hE5 := hE5.below b
  replace hE7 := hE7.below b
  replace B := Below.then2 B b
  clear b
  go_upto_region 6 with fail
  generalize w5.alloc _ = W5 at H3 H5 H7 hX hB5 hB7 hE5 hE7 B ⊢
  generalize w5.heap.size = g7 at H7 ⊢
  go_wp2_with (refine svTakeI H3 rfl rfl rfl ?_)
  refine (K6.out _ hX).mono ?_
  rintro e w6 h
  obtain ⟨a9, c9, e10, d10, rfl, hB9, hE9, b⟩ := E6.out _ _ _ h
  clear h
  replace H3 := blkV H3 b
  replace H5 := blkV H5 b
  replace H7 := blkV H7 b
  replace hX := hX.below b
  replace hB5 := hB5.below b
  replace hB7 := hB7.below b
  replace hE5 := hE5.below b
  replace hE7 := hE7.below b
  replace B := Below.then2 B b
  clear b
  obtain ⟨H9, b⟩ := one_sv w6 (svC a9 TX.length c9 Tb Tn Tr Tt) 26
  replace H3 := blkV H3 b
  replace H5 := blkV H5 b
  replace H7 := blkV H7 b
  replace hX := hX.below b
  replace hB5 := hB5.below b
  replace hB7 := hB7.below b
  replace hB9 := hB9.below b
  replace hE5 := hE5.below b
  replace hE7 := hE7.below b
  replace hE9 := hE9.below b
  replace B := Below.then2 B b
  clear b
  go_upto_region 7 with fail
  generalize w6.alloc _ = W6 at H3 H5 H7 H9 hX hB5 hB7 hB9 hE5 hE7 hE9 B ⊢
  generalize w6.heap.size = g9 at H9 ⊢
  go_wp2_with (refine svTakeI H3 rfl rfl rfl ?_)
  refine (K7.out _ hX).mono ?_
  rintro e w7 h
  obtain ⟨a11, c11, e12, d12, rfl, hB11, hE11, b⟩ := h
  replace H3 := blkV H3 b
  replace H5 := blkV H5 b
  replace H7 := blkV H7 b
  replace H9 := blkV H9 b
  replace hX := hX.below b
  replace hB5 := hB5.below b
  replace hB7 := hB7.below b
  replace hB9 := hB9.below b
  replace hE5 := hE5.below b
  replace hE7 := hE7.below b
  replace hE9 := hE9.below b
  replace B := Below.then2 B b
  clear b
  obtain ⟨H11, b⟩ := one_sv w7 (svC a11 TX.length c11 Tb Tn Tr Tt) 26
  replace H3 := blkV H3 b
  replace H5 := blkV H5 b
  replace H7 := blkV H7 b
  replace H9 := blkV H9 b
  replace hX := hX.below b
  replace hB5 := hB5.below b
  replace hB7 := hB7.below b
  replace hB9 := hB9.below b
  replace hB11 := hB11.below b
  replace hE5 := hE5.below b
  replace hE7 := hE7.below b
  replace hE9 := hE9.below b
  replace hE11 := hE11.below b
  replace B := Below.then2 B b
  clear b
  go_upto_region 8 with fail
  generalize w7.alloc _ = W7 at H3 H5 H7 H9 H11 hX hB5 hB7 hB9 hB11 hE5 hE7 hE9 hE11 B ⊢
  generalize w7.heap.size = g11 at H11 ⊢
  clear K4 K5 K6 K7 E4 E6
  go_wp2_with fail
  refine (drawSvPut (B := w.heap.size) _ (cd.below B (Nat.le_refl _)) B.size).mono ?_
  rintro e w8 ⟨X2, aP, c2, busy2, nd2, rank2, now2, k, f, af, cf, rfl, ⟨hX2, hX26, -, b⟩, hf⟩
  replace H3 := blkV H3 b
  replace H5 := blkV H5 b
  replace H7 := blkV H7 b
  replace H9 := blkV H9 b
  replace H11 := blkV H11 b
  replace hX := hX.below b
  replace hB5 := hB5.below b
  replace hB7 := hB7.below b
  replace hB9 := hB9.below b
  replace hB11 := hB11.below b
  replace hE5 := hE5.below b
  replace hE7 := hE7.below b
  replace hE9 := hE9.below b
  replace hE11 := hE11.below b
  replace B := Below.then2 B b
  clear b
  obtain ⟨H13, H15, b⟩ := two_made w8 (svC aP X2.length c2 busy2 nd2 rank2 now2) (frC f af cf) 26 35
  replace H3 := blkV H3 b
  replace H5 := blkV H5 b
  replace H7 := blkV H7 b
  replace H9 := blkV H9 b
  replace H11 := blkV H11 b
  replace hX := hX.below b
  replace hB5 := hB5.below b
  replace hB7 := hB7.below b
  replace hB9 := hB9.below b
  replace hB11 := hB11.below b
  replace hX2 := hX2.below b
  replace hE5 := hE5.below b
  replace hE7 := hE7.below b
  replace hE9 := hE9.below b
  replace hE11 := hE11.below b
  replace hf := hf.below b
  replace B := Below.then2 B b
  clear b
  go_upto_region 9 with fail
  generalize World.alloc _ _ = W8 at H3 H5 H7 H9 H11 H13 H15 hX hB5 hB7 hB9 hB11 hX2 hE5 hE7 hE9 hE11 hf B ⊢
  generalize w8.heap.size + 1 = g15 at H15 ⊢
  generalize w8.heap.size = g13 at H13 ⊢
  have K9 := Lib.hid (fun w h h2 => implServerPut Adr aP X2 c2 busy2 nd2 rank2 now2 k f af cf w h h2)
  have K10 := Lib.hid (fun w h h2 => specServerPut Adr aP X2 c2 busy2 nd2 rank2 now2 k f af cf w h h2)
  have E9 := Lib.hid (fun w e w' => @put_readI ⟨X2, busy2, nd2, rank2, now2⟩ k f w w' e)
  have E10 := Lib.hid (fun w e w' => @put_readM ⟨X2, busy2, nd2, rank2, now2⟩ k f w w' e)
  have hV6 : (putS ⟨X2, busy2, nd2, rank2, now2⟩ k f).1.bx.length ≤ 2000000 := by
    cases hs : srvB ⟨X2, busy2, nd2, rank2, now2⟩ with
    | false => rw [put_no hs]; decide
    | true => exact (put_lean hs k f).1
  obtain ⟨V, hV⟩ : ∃ q, (putS ⟨X2, busy2, nd2, rank2, now2⟩ k f).1 = q := ⟨_, rfl⟩
  obtain ⟨vk, hvk⟩ : ∃ q, (putS ⟨X2, busy2, nd2, rank2, now2⟩ k f).2 = q := ⟨_, rfl⟩
  rw [hV] at hV6 E9 E10
  rw [hvk] at E9 E10
  clear hV hvk
  obtain ⟨VX, Vb, Vn, Vr, Vt⟩ := V
  go_wp2_with (first | (refine svTakeI H13 rfl rfl rfl ?_) | (refine frTakeI H15 rfl rfl rfl ?_))
  refine (K9.out _ hX2 hf).mono ?_
  rintro e w9 h
  obtain ⟨a16, c16, rfl, hB16, b⟩ := E9.out _ _ _ h
  clear h
  replace H3 := blkV H3 b
  replace H5 := blkV H5 b
  replace H7 := blkV H7 b
  replace H9 := blkV H9 b
  replace H11 := blkV H11 b
  replace H13 := blkV H13 b
  replace H15 := blkV H15 b
  replace hX := hX.below b
  replace hB5 := hB5.below b
  replace hB7 := hB7.below b
  replace hB9 := hB9.below b
  replace hB11 := hB11.below b
  replace hX2 := hX2.below b
  replace hE5 := hE5.below b
  replace hE7 := hE7.below b
  replace hE9 := hE9.below b
  replace hE11 := hE11.below b
  replace hf := hf.below b
  replace B := Below.then2 B b
  clear b
  obtain ⟨H16, b⟩ := one_sv w9 (svC a16 VX.length c16 Vb Vn Vr Vt) 26
  replace H3 := blkV H3 b
  replace H5 := blkV H5 b
  replace H7 := blkV H7 b
  replace H9 := blkV H9 b
  replace H11 := blkV H11 b
  replace H13 := blkV H13 b
  replace H15 := blkV H15 b
  replace hX := hX.below b
  replace hB5 := hB5.below b
  replace hB7 := hB7.below b
  replace hB9 := hB9.below b
  replace hB11 := hB11.below b
  replace hX2 := hX2.below b
  replace hB16 := hB16.below b
  replace hE5 := hE5.below b
  replace hE7 := hE7.below b
  replace hE9 := hE9.below b
  replace hE11 := hE11.below b
  replace hf := hf.below b
  replace B := Below.then2 B b
  clear b
  go_upto_region 10 with fail
  generalize w9.alloc _ = W9 at H3 H5 H7 H9 H11 H13 H15 H16 hX hB5 hB7 hB9 hB11 hX2 hB16 hE5 hE7 hE9 hE11 hf B ⊢
  generalize w9.heap.size = g16 at H16 ⊢
  go_wp2_with (first | (refine svTakeI H13 rfl rfl rfl ?_) | (refine frTakeI H15 rfl rfl rfl ?_))
  refine (K10.out _ hX2 hf).mono ?_
  rintro e w10 h
  obtain ⟨a18, c18, rfl, hB18, b⟩ := E10.out _ _ _ h
  clear h
  replace H3 := blkV H3 b
  replace H5 := blkV H5 b
  replace H7 := blkV H7 b
  replace H9 := blkV H9 b
  replace H11 := blkV H11 b
  replace H13 := blkV H13 b
  replace H15 := blkV H15 b
  replace H16 := blkV H16 b
  replace hX := hX.below b
  replace hB5 := hB5.below b
  replace hB7 := hB7.below b
  replace hB9 := hB9.below b
  replace hB11 := hB11.below b
  replace hX2 := hX2.below b
  replace hB16 := hB16.below b
  replace hE5 := hE5.below b
  replace hE7 := hE7.below b
  replace hE9 := hE9.below b
  replace hE11 := hE11.below b
  replace hf := hf.below b
  replace B := Below.then2 B b
  clear b
  obtain ⟨H18, b⟩ := one_sv w10 (svC a18 VX.length c18 Vb Vn Vr Vt) 26
  replace H3 := blkV H3 b
  replace H5 := blkV H5 b
  replace H7 := blkV H7 b
  replace H9 := blkV H9 b
  replace H11 := blkV H11 b
  replace H13 := blkV H13 b
  replace H15 := blkV H15 b
  replace H16 := blkV H16 b
  replace hX := hX.below b
  replace hB5 := hB5.below b
  replace hB7 := hB7.below b
  replace hB9 := hB9.below b
  replace hB11 := hB11.below b
  replace hX2 := hX2.below b
  replace hB16 := hB16.below b
  replace hB18 := hB18.below b
  replace hE5 := hE5.below b
  replace hE7 := hE7.below b
  replace hE9 := hE9.below b
  replace hE11 := hE11.below b
  replace hf := hf.below b
  replace B := Below.then2 B b
  clear b
  go_upto_region 11 with fail
  generalize w10.alloc _ = WA at H3 H5 H7 H9 H11 H13 H15 H16 H18 hX hB5 hB7 hB9 hB11 hX2 hB16 hB18 hE5 hE7 hE9 hE11 hf B ⊢
  generalize w10.heap.size = g18 at H18 ⊢
  clear K9 K10 E9 E10
  have K17 := Lib.hid (fun w h => implServerOk Adr aX X c busy nd rank now w h)
  have K18 := Lib.hid (fun w h => specServerOk Adr aX X c busy nd rank now w h)
  generalize srvB ⟨X, busy, nd, rank, now⟩ = okb at K17 K18
  have hok : (!(okb == okb)) = false := by simp
  refine region_class (fun u => Below WA.heap.size WA u) (by kernel_rfl) (by kernel_rfl) (Below.refl WA.heap.size WA).drew ?_
  repeat first
    | go_big_quiet_skip
    | (go_big_quiet_want
       apply Exists.intro
       refine ⟨fun u hu => ?_, ?_⟩
       · exact quietAt_val (sv_tookI (blkV H5 hu) rfl rfl)
       simp only [Act.put, List.setIfInBounds_toArray, List.set_cons_zero, List.set_cons_succ]
       go_big_quiet_on)
    | (go_big_quiet_want
       apply Exists.intro
       refine ⟨fun u hu => ?_, ?_⟩
       · exact quietAt_val (sv_tookI (blkV H7 hu) rfl rfl)
       simp only [Act.put, List.setIfInBounds_toArray, List.set_cons_zero, List.set_cons_succ]
       go_big_quiet_on)
    | (go_big_quiet_want
       apply Exists.intro
       refine ⟨fun u hu => ?_, ?_⟩
       · exact quietAt_val (sv_tookI (blkV H9 hu) rfl rfl)
       simp only [Act.put, List.setIfInBounds_toArray, List.set_cons_zero, List.set_cons_succ]
       go_big_quiet_on)
    | (go_big_quiet_want
       apply Exists.intro
       refine ⟨fun u hu => ?_, ?_⟩
       · exact quietAt_val (sv_tookI (blkV H11 hu) rfl rfl)
       simp only [Act.put, List.setIfInBounds_toArray, List.set_cons_zero, List.set_cons_succ]
       go_big_quiet_on)
    | (go_big_quiet_want
       apply Exists.intro
       refine ⟨fun u hu => ?_, ?_⟩
       · exact quietAt_val (sv_tookI (blkV H16 hu) rfl rfl)
       simp only [Act.put, List.setIfInBounds_toArray, List.set_cons_zero, List.set_cons_succ]
       go_big_quiet_on)
    | (go_big_quiet_want
       apply Exists.intro
       refine ⟨fun u hu => ?_, ?_⟩
       · exact quietAt_val (sv_tookI (blkV H18 hu) rfl rfl)
       simp only [Act.put, List.setIfInBounds_toArray, List.set_cons_zero, List.set_cons_succ]
       go_big_quiet_on)
    | (go_big_quiet_want
       apply Exists.intro
       refine ⟨fun u hu => ?_, ?_⟩
       · exact quietAt_val (sv_tookI (blkV H3 hu) rfl rfl)
       simp only [Act.put, List.setIfInBounds_toArray, List.set_cons_zero, List.set_cons_succ]
       go_big_quiet_on)
    | (go_big_quiet_want
       apply Exists.intro
       refine ⟨fun u hu => ?_, ?_⟩
       · apply quietAt_val
         skip
         go_simp
         rfl
       simp only [Act.put, List.setIfInBounds_toArray, List.set_cons_zero, List.set_cons_succ]
       go_big_quiet_on)
    | (go_big_quiet_want
       apply Exists.intro
       refine ⟨fun u hu => ?_, ?_⟩
       · apply quietAt_enter 15 #[svV a5 QX.length c5 Qb Qn Qr Qt, svV a7 QX.length c7 Qb Qn Qr Qt]
         · go_simp
         · refine (likeSrv Adr Adr a5 a7 QX c5 c7 Qb Qn Qr Qt u (hB5.below hu) (hB7.below hu) (by omega)).mono ?_
           rintro x w2 ⟨rfl, b2⟩
           exact ⟨rfl, Below.then2 hu b2⟩
       simp only [Act.put, List.setIfInBounds_toArray, List.set_cons_zero, List.set_cons_succ]
       go_big_quiet_on)
    | (go_big_quiet_want
       apply Exists.intro
       refine ⟨fun u hu => ?_, ?_⟩
       · apply quietAt_enter 16 #[.slice e6 N.length d6, .slice e8 N.length d8]
         · go_simp
         · refine (likeEvs e6 e8 N d6 d8 u (hE5.below hu) (hE7.below hu)).mono ?_
           rintro x w2 ⟨rfl, b2⟩
           exact ⟨rfl, Below.then2 hu b2⟩
       simp only [Act.put, List.setIfInBounds_toArray, List.set_cons_zero, List.set_cons_succ]
       go_big_quiet_on)
    | (go_big_quiet_want
       apply Exists.intro
       refine ⟨fun u hu => ?_, ?_⟩
       · apply quietAt_enter 15 #[svV a9 TX.length c9 Tb Tn Tr Tt, svV a11 TX.length c11 Tb Tn Tr Tt]
         · go_simp
         · refine (likeSrv Adr Adr a9 a11 TX c9 c11 Tb Tn Tr Tt u (hB9.below hu) (hB11.below hu) (by omega)).mono ?_
           rintro x w2 ⟨rfl, b2⟩
           exact ⟨rfl, Below.then2 hu b2⟩
       simp only [Act.put, List.setIfInBounds_toArray, List.set_cons_zero, List.set_cons_succ]
       go_big_quiet_on)
    | (go_big_quiet_want
       apply Exists.intro
       refine ⟨fun u hu => ?_, ?_⟩
       · apply quietAt_enter 16 #[.slice e10 M.length d10, .slice e12 M.length d12]
         · go_simp
         · refine (likeEvs e10 e12 M d10 d12 u (hE9.below hu) (hE11.below hu)).mono ?_
           rintro x w2 ⟨rfl, b2⟩
           exact ⟨rfl, Below.then2 hu b2⟩
       simp only [Act.put, List.setIfInBounds_toArray, List.set_cons_zero, List.set_cons_succ]
       go_big_quiet_on)
    | (go_big_quiet_want
       apply Exists.intro
       refine ⟨fun u hu => ?_, ?_⟩
       · apply quietAt_enter 15 #[svV a16 VX.length c16 Vb Vn Vr Vt, svV a18 VX.length c18 Vb Vn Vr Vt]
         · go_simp
         · refine (likeSrv Adr Adr a16 a18 VX c16 c18 Vb Vn Vr Vt u (hB16.below hu) (hB18.below hu) hV6).mono ?_
           rintro x w2 ⟨rfl, b2⟩
           exact ⟨rfl, Below.then2 hu b2⟩
       simp only [Act.put, List.setIfInBounds_toArray, List.set_cons_zero, List.set_cons_succ]
       go_big_quiet_on)
    | (go_big_quiet_want
       apply Exists.intro
       refine ⟨fun u hu => ?_, ?_⟩
       · apply quietAt_enter 17 #[svV aX X.length c busy nd rank now]
         · go_simp
         · refine (K17.out u (hX.below hu)).mono ?_
           rintro x w2 ⟨rfl, b2⟩
           exact ⟨rfl, Below.then2 hu b2⟩
       simp only [Act.put, List.setIfInBounds_toArray, List.set_cons_zero, List.set_cons_succ]
       go_big_quiet_on)
    | (go_big_quiet_want
       apply Exists.intro
       refine ⟨fun u hu => ?_, ?_⟩
       · apply quietAt_enter 18 #[svV aX X.length c busy nd rank now]
         · go_simp
         · refine (K18.out u (hX.below hu)).mono ?_
           rintro x w2 ⟨rfl, b2⟩
           exact ⟨rfl, Below.then2 hu b2⟩
       simp only [Act.put, List.setIfInBounds_toArray, List.set_cons_zero, List.set_cons_succ]
       go_big_quiet_on)
  refine wpQuiet_nil ?_
  intro W2 L2
  have B2 := Below.then2 B L2
  have hE := hE5.below L2
  clear H3 H5 H7 H9 H11 H13 H15 H16 H18 hX hX2 hf hB5 hB7 hB9 hB11 hB16 hB18 hE5 hE7 hE9 hE11 L2 K17 K18 B
  try simp only [hok, Bool.not_true]
  clear hok
  go_wp2_with fail
  go_loopw [20] (fun i wr => ∃ q m : Nat, i = .int .i64 ((q : Int) + 1) ∧ wr = W2.drewN m) (fun i _ => N.length - (Go.RowKit.intOf i).toNat)
  case atStart => exact ⟨0, 0, rfl, rfl⟩
  case round =>
    obtain ⟨q, m, rfl, rfl⟩ := hrel
    by_cases hlt : q + 1 < N.length
    · obtain ⟨⟨h1, h2⟩, ⟨h3, h4⟩, h5⟩ := hgap.out q hlt
      obtain ⟨g, o, ad, cd1, he, r1, -⟩ := hE.2 q (by omega)
      obtain ⟨g', o', ad', cd2, he', r2, -⟩ := hE.2 (q + 1) hlt
      subst he
      cases he'
      have c1 : W2.cell? ⟨g, o + q * 7, none⟩ = some (.int .i64 (nthE N q).at_) := r1 0 _ rfl
      have c2 : W2.cell? ⟨g, o + (q + 1) * 7, none⟩ = some (.int .i64 (nthE N (q + 1)).at_) := r2 0 _ rfl
      clear r1 r2
      generalize (nthE N q).at_ = x1 at c1 h1 h2 h3 h4 h5
      generalize (nthE N (q + 1)).at_ = x2 at c2 h3 h4 h5
      have hltI : (q : Int) + 1 < N.length := by omega
      have hltq : (q : Int) < N.length := by omega
      have hno : ¬ x2 ≤ x1 + 3 := by omega
      go_wp2_with fail
      go_quiet (fail)
      go_wp2_with fail
      go_roundw
      case rel => exact ⟨q + 1, _, by go_num, rfl⟩
      case measure => simp [Go.RowKit.intOf]; omega
    · have hltI : ¬ (q : Int) + 1 < N.length := by omega
      have hM : (M.length : Int) ≤ 1 := by omega
      go_wp2_with fail
      go_ret
      exact ⟨rfl, belowN B2 m⟩
theorem laidOut : laidOutB Tryz.prog = true := by kernel_rfl

/-! ### The row's step of FnServer. -/
set_option maxRecDepth 100000 in
theorem liftedFnServer (os : Os) (started : os.Started) (H : Type) (enc : TypeId × Value → H) :
    ReturnsInHanded {} Tryz.checked os 3 .any (Rows.fnServerSpec.pre6 enc Tryz.prog Tryz.f3 Rows.fnServerRow.domain false) (Rows.fnServerSpec.post enc Tryz.prog Tryz.f3 false true false false) := by
  refine returnsInHanded_of_change (C := Tryz.checked) own started (by kernel_rfl) Tryz.func3
    (ChangeSpec.witness6 (enc := enc) (C := Tryz.checked) false ⟨#[], #[.slice none 0 0], []⟩ 8 (by kernel_rfl) (by kernel_rfl) (by kernel_rfl) (by kernel_rfl)) ?_
  intro W base args ds gs before hval0 hW hcnd _
  have hval : ∀ (j : Nat) t v, Tryz.f3.params[j]? = some t → args[j]? = some v → Value.okWide Tryz.prog W .any base t v := hval0
  have hW' := hW
  obtain ⟨p, q, hA0, hV, rfl, hfz, hnd⟩ := hW
  have hA : DataW.TrodAll enc Tryz.prog W 0 (fun _ => true) true Tryz.f3.params.toList args.toList ds p := hA0
  rw [Tryz.params3] at hA hval
  obtain ⟨v0, vs0, d0, ds0, p0, q0, hargs, rfl, rfl, h0, r0⟩ := trodAll_cons hA
  obtain ⟨rfl, rfl, rfl⟩ := trodAll_nil r0
  obtain rfl : args = #[v0] := by cases args; simp_all
  obtain ⟨rfl, rfl⟩ := trodVars_none hV
  obtain ⟨a0, len0, cap0, rfl⟩ := okWide_slice Tryz.underlying22 (hval 0 22 v0 rfl rfl)
  have k0 := h0
  have lt0 : ∀ x ∈ p0, x.block < W.heap.size := by obtain ⟨m, hm⟩ := k0; exact DataW.trod_lt m _ _ _ hm
  have w0 : Code W.heap.size a0 len0 W := by
    obtain ⟨fuel, hf⟩ := h0
    rcases open_ints Tryz.underlying22 Tryz.underlying5 (by kernel_rfl) hf with ⟨hcs, _⟩ | ⟨x, l, c, zs, hcs, _, hl, hm, hz, _, hcell, hwz⟩
    · simp [Value.cells] at hcs
      obtain ⟨rfl, rfl, rfl⟩ := hcs
      exact ⟨by omega, fun j hj => absurd hj (by omega)⟩
    · simp [Value.cells] at hcs
      obtain ⟨rfl, rfl, rfl⟩ := hcs
      exact code_of hl hm (by simpa using hz) hcell hwz
  clear hA0 hval0
  refine (walkFnServer a0 len0 cap0 W w0).mono fun e W' ⟨he, bel⟩ => ?_
  subst he
  exact ⟨_, rfl, _, _, _, [], _, [], hW', trodAll_mk1 (shut_bool Tryz.underlying4 _), (trodAll_cons_mk (Below.trod laidOut (by kernel_rfl) (of_decide_eq_true (by kernel_rfl)) k0 bel lt0) trodAll_mk0), rfl, bel.frame _, fun h => by cases h⟩

theorem fnServer_holds : Rows.FnServerSaid :=
  OpenClaim.holds_of_wide 3 Tryz.f3 rfl rfl rfl rfl rfl rfl rfl ⟨rfl, rfl, rfl, rfl, rfl⟩ rfl rfl rfl rfl rfl (by kernel_rfl) Tryz.func3 (by kernel_rfl)
    (of_decide_eq_true (by kernel_rfl)) (by unfold Func.isWrapper; first | (rw [if_pos (by decide +kernel)]; kernel_rfl) | (rw [if_neg (by decide +kernel)]; exact ⟨rfl, rfl⟩))
    (fun os started H enc _ => liftedFnServer os started H enc)
#print axioms fnServer_holds
end Go.Proofs.YtnhmecabppaboaaGreat.lawServer
