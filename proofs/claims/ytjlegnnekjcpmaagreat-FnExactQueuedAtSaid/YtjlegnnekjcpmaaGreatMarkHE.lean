/- laws.heldNodeS. -/
import Derived.Test.YtjlegnnekjcpmaaGreatMarkBE
import Derived.Deep.RegionWith
import Derived.Deep.QuietTactic
import Derived.BigQuiet
import Derived.Deep.DeepCutAuto
set_option linter.unusedVariables false
set_option linter.unusedSimpArgs false
namespace Go.Proofs.YtjlegnnekjcpmaaGreat
open Go.RowKit

theorem mixN_full {k : Int} {N : List Nd} {i : Nat} (h : i < N.length) : nthN (mixN k N N.length) i = mkNd (kNs k N i) (nthN N i) := by rw [mixN_nth h, if_pos h]
set_option maxHeartbeats 8000000 in
set_option maxRecDepth 20000 in
/-- laws.heldNodeS. -/
theorem heldNodes (R : NdP → Prop) (a : Option Addr) (N : List Nd) (c : Nat) (k0 : Int) (w : World) (hd : Nds R a (mixN k0 N N.length) w) (hm : N.length ≤ 1048577) (hs : N.length + sumN N N.length ≤ 1048577) (h0 : 0 < k0) (h1 : k0 ≤ 20000000) :
    Calls Tryz.prog 62 #[.slice a N.length c, .int .i64 k0] w fun e w' => e = .returned (.int .i64 (kNs k0 N N.length)) ∧ Below w.heap.size w w' := by
  go_enter Tryz.func62, Tryz.ntmps62
  go_wp2_with fail
  go_loopw [1, 5] (fun kk i wr => ∃ j : Nat, j ≤ N.length ∧ i = .int .i64 j ∧ kk = .int .i64 (kNs k0 N j) ∧ Below w.heap.size w wr) (fun _ i _ => N.length - (intOf i).toNat)
  case atStart => exact ⟨0, Nat.zero_le _, rfl, by rw [kNs_zero], Below.refl _ _⟩
  case round =>
    obtain ⟨j, hj, rfl, rfl, B0⟩ := hrel
    by_cases hlt : j < N.length
    case neg =>
      obtain rfl : j = N.length := by omega
      go_wp2_with fail
      go_ret
      exact ⟨rfl, B0⟩
    obtain ⟨g, o, p, rfl, hc, hn, -⟩ := (hd.below B0).2 j (by rw [mixN_len]; exact hlt)
    rw [mixN_full hlt] at hc hn
    have hsum := sumN_at N hlt
    have hkb := kNs_bd (k := k0) (N := N) (j := j) (by omega)
    have hsle := sumN_le N (show j ≤ N.length by omega)
    have HK : Hid (kNs k0 N (j + 1) = m5N (kNs k0 N j) (nthN N j)) := Lib.hid (kNs_succ hlt)
    have hroom : roomN (nthN N j) ≤ 1048577 := by omega
    have hkA : 0 < kNs k0 N j := by omega
    have hkB : kNs k0 N j ≤ 40000000 := by omega
    clear hkb hsle hsum
    generalize nthN N j = n at *
    generalize kNs k0 N j = k at *
    have C : ∀ (w2 : World), Below wr.heap.size wr w2 → ∀ i v, (ndC (mkNd k n) p).toList[i]? = some v → w2.cell? ⟨g, o + j * 18 + i, none⟩ = some v := fun w2 b i v hv => rangeAt_below hc b i v hv
    simp only [mkNd, marks_len, mkL_len, mksP_len] at C
    have hnm := hn.nums
    have hbx := hn.box
    have hff := hn.fifo
    have hfl := hn.flt
    simp only [mkNd] at hnm hbx hff hfl
    clear hn hc
    replace C := Lib.hid C
    have b0 := Below.refl wr.heap.size wr
    have c0 := C.out _ b0 0 _ rfl
    have c1 := C.out _ b0 1 _ rfl
    have c2 := C.out _ b0 2 _ rfl
    have c3 := C.out _ b0 3 _ rfl
    have c4 := C.out _ b0 4 _ rfl
    have c5 := C.out _ b0 5 _ rfl
    have c6 := C.out _ b0 6 _ rfl
    have c7 := C.out _ b0 7 _ rfl
    rw [Nat.add_zero] at c0
    have e1 : k + 1 + 1 + 1 + 1 + 1 + 1 + 1 + (n.fr.D.length : Int) = m1N k n := rfl
    have e2 : m1N k n + 1 + 1 + 1 + 1 + 1 + 1 + 1 = m2N k n := rfl
    have e3 : kAt (m2N k n) n.box n.box.length = m3N k n := rfl
    have e4 : kAt (m3N k n) n.fifo n.fifo.length = m4N k n := rfl
    have e5 : m4N k n + 2 * (n.flt.length : Int) = m5N k n := rfl
    have hsD : n.fr.D.length ≤ 2000000 := by unfold roomN at hroom; omega
    have hsB : n.box.length + room n.box n.box.length ≤ 1048577 := by unfold roomN at hroom; omega
    have hsF : n.fifo.length + room n.fifo n.fifo.length ≤ 1048577 := by unfold roomN at hroom; omega
    have hsL : n.flt.length ≤ 1048577 := by unfold roomN at hroom; omega
    have q1 : 0 < m1N k n ∧ m1N k n ≤ 50000000 := by rw [← e1]; omega
    have q2 : 0 < m2N k n ∧ m2N k n ≤ 50000010 := by rw [← e2]; omega
    have q3 : 0 < m3N k n ∧ m3N k n ≤ 60000000 := by rw [← e3]; unfold kAt; omega
    have q4 : 0 < m4N k n ∧ m4N k n ≤ 70000000 := by rw [← e4]; unfold kAt; omega
    have q5 : ¬ m5N k n < 0 := by rw [← e5]; omega
    go_wp2_with fail
    refine (heldInts p.ad n.fr.D.length p.cd _ wr hnm hsD (by omega) (by omega)).mono ?_
    rintro e w2 ⟨rfl, rfl⟩
    rw [e1]
    clear c0 c1 c2 c3 c4 c5 c6 c7 hnm
    have c8 := C.out _ b0 8 _ rfl
    go_upto_region 28 with fail
    refine region_class (fun u => u.cell? ⟨g, o + j * 18 + 8, none⟩ = some (.string (markS (m1N k n))) ∧ Below wr.heap.size wr u) (by kernel_rfl) (by kernel_rfl) ⟨c8, b0.drew⟩ ?_
    repeat first
      | go_big_quiet_skip
      | (go_big_quiet_want
         apply Exists.intro
         refine ⟨fun u hu => ?_, ?_⟩
         · apply quietAt_val
           obtain ⟨c8, _⟩ := hu
           go_simp
           rfl
         simp only [Act.put, List.setIfInBounds_toArray, List.set_cons_zero, List.set_cons_succ]
         go_big_quiet_on)
      | (go_big_quiet_want
         apply Exists.intro
         refine ⟨fun u hu => ?_, ?_⟩
         · apply quietAt_enter 113 #[.int .i64 (m1N k n)]
           · go_simp
           · refine (markTextV (m1N k n) u q1.1 (by omega)).mono ?_
             rintro e w2 ⟨rfl, b2⟩
             exact ⟨rfl, (b2.cell (World.block_lt_of_cell? u _ hu.1)).trans hu.1, Below.then2 hu.2 b2⟩
         simp only [Act.put, List.setIfInBounds_toArray, List.set_cons_zero, List.set_cons_succ]
         go_big_quiet_on)
    refine wpQuiet_nil ?_
    intro w3 h3
    obtain ⟨-, b1⟩ := h3
    replace B0 := Below.then2 B0 b1
    have c9 := C.out _ b1 9 _ rfl
    have c10 := C.out _ b1 10 _ rfl
    have c11 := C.out _ b1 11 _ rfl
    have c12 := C.out _ b1 12 _ rfl
    have c13 := C.out _ b1 13 _ rfl
    have c14 := C.out _ b1 14 _ rfl
    have c15 := C.out _ b1 15 _ rfl
    clear c8
    go_wp2_with fail
    refine (heldFramesB p.ab n.box p.cb (m2N k n) w3 (hbx.below b1) hsB (by omega) (by omega)).mono ?_
    rintro e w4 ⟨he, b2⟩
    rw [e3] at he
    subst he
    replace B0 := Below.then2 B0 b2
    replace b1 := Below.then2 b1 b2
    clear b2 c9 c10 c11 c12 c13 c14 c15 hbx
    have c16 := C.out _ b1 16 _ rfl
    have n3 : ¬ m3N k n < 0 := by omega
    go_wp2_with fail
    refine (heldFramesB p.af n.fifo p.cf (m3N k n) w4 (hff.below b1) hsF (by omega) (by omega)).mono ?_
    rintro e w5 ⟨he, b2⟩
    rw [e4] at he
    subst he
    replace B0 := Below.then2 B0 b2
    replace b1 := Below.then2 b1 b2
    clear b2 c16 hff n3
    have c17 := C.out _ b1 17 _ rfl
    have n4 : ¬ m4N k n < 0 := by omega
    go_wp2_with fail
    refine (heldFlts p.al n.flt.length p.cl (m4N k n) w5 (hfl.below b1) hsL (by omega) (by omega)).mono ?_
    rintro e w6 ⟨rfl, rfl⟩
    rw [e5]
    clear c17 hfl n4
    have HK' := HK.out
    rw [← HK'] at q5 ⊢
    clear C HK'
    go_wp2_with fail
    go_roundw
    case rel => exact ⟨j + 1, hlt, by go_num, rfl, B0⟩
    case measure => simp [intOf]; omega
end Go.Proofs.YtjlegnnekjcpmaaGreat

