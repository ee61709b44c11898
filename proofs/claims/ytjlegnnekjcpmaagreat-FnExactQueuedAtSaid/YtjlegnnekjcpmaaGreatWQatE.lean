/- The walk of laws.FnExactQueuedAt. -/
import Derived.Test.YtjlegnnekjcpmaaGreatQatSE
import Derived.Test.YtjlegnnekjcpmaaGreatQatIE
import Derived.Test.YtjlegnnekjcpmaaGreatMarkUE
import Derived.Test.YtjlegnnekjcpmaaGreatWBusE
import Derived.Test.YtjlegnnekjcpmaaGreatM28
set_option linter.unusedVariables false
set_option linter.unusedSimpArgs false
namespace Go.Proofs.YtjlegnnekjcpmaaGreat
open Go.RowKit

/-- A bus and a frame, as a law of both holds them. -/
structure Yb (ga gb : Nat) (a : Option Addr) (N : List Nd) (c : Nat) (now : Int) (f : Frm) (af : Option Addr) (cf : Nat) (w0 w : World) : Prop where
  bu : w.heap[ga]? = some (.cells (buC a N.length c now) 24 (0, 0))
  fr : w.heap[gb]? = some (.cells (frC f af cf) 46 (0, 0))
  bel : Below w0.heap.size w0 w
theorem Yb.below {ga gb : Nat} {a : Option Addr} {N : List Nd} {c : Nat} {now : Int} {f : Frm} {af : Option Addr} {cf : Nat} {w0 w w' : World} (h : Yb ga gb a N c now f af cf w0 w) (b : Below w.heap.size w w') : Yb ga gb a N c now f af cf w0 w' :=
  ⟨blkB h.bu b, blkB h.fr b, Below.then2 h.bel b⟩
theorem Yb.made (a : Option Addr) (N : List Nd) (c : Nat) (now : Int) (f : Frm) (af : Option Addr) (cf : Nat) (w : World) : Yb w.heap.size (w.heap.size + 1) a N c now f af cf w ((w.alloc (.cells (buC a N.length c now) 24)).alloc (.cells (frC f af cf) 46)) := by
  obtain ⟨h1, h2, b⟩ := two_made w (buC a N.length c now) (frC f af cf) 24 46
  exact ⟨h1, h2, b⟩
section
variable {g : Nat} {a : Option Addr} {len c : Nat} {now : Int} {T : TypeId} {w : World} {ops : Array Oper} {rest : List Oper} {o : Oper} {act : Act} {Q : Exit → Act → World → Prop} {x : Operand}
theorem buTakeL (h : w.heap[g]? = some (.cells (buC a len c now) T (0, 0))) (ho : o.op = .load 24 x) (hx : act.eval x = .pointer (some ⟨g, 0, none⟩))
    (hw : Region.wanted o (yielded ops act.tmps) = true) (k : wpList Tryz.prog ops Q rest (act.put o.dst (buV a len c now)) w) : wpList Tryz.prog ops Q (o :: rest) act w :=
  BigFrame.wpList_want hw fun _ hK => wp_load_row 24 x ho g hx T (buC a len c now) (0, 0) _ h Tryz.underlying24 rfl (by kernel_rfl) (hK _ _ k)
theorem buTakeI (h : w.heap[g]? = some (.cells (buC a len c now) T (0, 0))) (ho : o.op = .load 29 x) (hx : act.eval x = .pointer (some ⟨g, 0, none⟩))
    (hw : Region.wanted o (yielded ops act.tmps) = true) (k : wpList Tryz.prog ops Q rest (act.put o.dst (buV a len c now)) w) : wpList Tryz.prog ops Q (o :: rest) act w :=
  BigFrame.wpList_want hw fun _ hK => wp_load_row 29 x ho g hx T (buC a len c now) (0, 0) _ h Tryz.underlying29 rfl (by kernel_rfl) (hK _ _ k)
end
/-- A bus goes into a fresh block, in a region that draws its order. -/
theorem h_putB {md : Region.Mode} {ops : Array Oper} {Q : Exit → Act → World → Prop} {S : World → Prop} (i g : Nat) {oi : Oper} {fuel : Nat} {listed : Array Bool} {a : Act} {w : World} {a2 : Option Addr} {len c2 : Nat} {now : Int} {x y : Operand} {C : Array Value}
    (hi : ops.toList[i]? = some oi) (hd : oi.dst = none) (hr : Region.ready md ops listed = [i]) (hw : Region.wanted oi (yielded ops a.tmps) = true) (ho : oi.op = .store 29 x y) (hx : a.eval x = .pointer (some ⟨g, 0, none⟩)) (hy : a.eval y = buV a2 len c2 now)
    (hg : w.heap[g]? = some (.cells C 29 (0, 0))) (hC : C.size = 2) (hS : S (w.setRow g (buC a2 len c2 now)))
    (k : wpAnyH Tryz.prog md ops Q S fuel (listed.setIfInBounds i true) a (w.setRow g (buC a2 len c2 now))) : wpAnyH Tryz.prog md ops Q S (fuel + 1) listed a w := by
  refine held_op i (op_at hi) hr hw (wp_store_row 29 x y ho g (buC a2 len c2 now) hx hy 29 C hg (by kernel_rfl) (hC.trans rfl) (by simp [Value.oneCell']) ⟨hS, ?_⟩)
  rw [hd]
  exact k
theorem qat_small (N : List Nd) (now node : Int) (f : Frm) : (qatN N now node f).length ≤ 6 ∧ ∀ j, j < (qatN N now node f).length → roomN (nthN (qatN N now node f) j) ≤ 600 := by
  unfold qatN
  split
  · rename_i h
    obtain ⟨h2, h6, -, hr⟩ := busB_iff.1 h
    split
    · rename_i hn
      have := rng_iff.1 hn
      refine ⟨by rw [List.length_set]; exact h6, fun j hj => ?_⟩
      rw [List.length_set] at hj
      rw [set_nth (by omega)]
      split
      · exact queA_room _ _
      · exact roomN_right (hr _ (nthN_mem hj))
    · exact ⟨h6, fun j hj => roomN_right (hr _ (nthN_mem hj))⟩
  · exact ⟨Nat.zero_le _, fun j hj => absurd hj (by simp)⟩
set_option maxHeartbeats 32000000 in
set_option maxRecDepth 20000 in
theorem walkFnExactQueuedAt (a : Option Addr) (N : List Nd) (c : Nat) (now : Int) (node : Int) (f : Frm) (af : Option Addr) (cf : Nat) (w : World) (hm : Nds (fun _ => True) a N w) (hn : Nums af f.D w) :
    Calls Tryz.prog 6 #[buV a N.length c now, .int .i64 node, frV f.id f.rm f.ln af f.D.length cf] w fun e w' => e = .returned (.bool true) ∧ Below w.heap.size w w' := by

  have Y := Yb.made a N c now f af cf w
  go_enter Tryz.func6, Tryz.ntmps6
  go_upto_region 1 with fail
  generalize World.alloc _ _ = W at Y ⊢
  generalize w.heap.size + 1 = gb at Y ⊢
  generalize w.heap.size = ga at Y ⊢
  go_wp2_with (refine buTakeL Y.bu rfl rfl rfl ?_)
  refine (szBusAny (fun _ => True) a N c now 1048576 _ (hm.below Y.bel) (by omega) (by omega)).mono ?_
  rintro e w1 ⟨hz | hz, b⟩
  case inr =>
    obtain ⟨hz, rfl⟩ := hz
    have hb := Below.then2 Y.bel b
    go_wp2_with fail
    go_ret
    exact ⟨rfl, hb⟩
  obtain ⟨hz, rfl⟩ := hz
  replace Y := Y.below b
  clear b
  have hs : roomB N ≤ 1048576 := by omega
  have hs2 : sumN N N.length ≤ 1048576 := by unfold roomB at hs; omega
  have hs3 : N.length + sumN N N.length ≤ 1048577 := by unfold roomB at hs; omega
  have hl0 : 0 ≤ (1048576 : Int) - roomB N := by omega
  have hl1 : (1048576 : Int) - roomB N ≤ 1048576 := by omega
  have hl2 : ¬ (1048576 : Int) - roomB N < 0 := by omega
  clear hz
  generalize (1048576 : Int) - roomB N = left at hl0 hl1 hl2 ⊢
  go_wp2_with (refine frTake (f := f) (af := af) (cf := cf) Y.fr rfl rfl rfl ?_)
  refine (szFrAny f af cf left _ (hn.below Y.bel) hl0 hl1).mono ?_
  rintro e w2 ⟨hz | hz, b⟩
  case inr =>
    obtain ⟨hz, rfl⟩ := hz
    have hb := Below.then2 Y.bel b
    go_wp2_with fail
    go_ret
    exact ⟨rfl, hb⟩
  obtain ⟨hz, rfl⟩ := hz
  replace Y := Y.below b
  clear b
  have hD : f.D.length ≤ 1048576 := by omega
  have hl3 : ¬ left - f.D.length < 0 := by omega
  clear hz hl0 hl1 hl2
  generalize left - f.D.length = left2 at hl3 ⊢
  have hQ := qat_small N now node f
  obtain ⟨QN, hQN⟩ : ∃ q, qatN N now node f = q := ⟨_, rfl⟩
  obtain ⟨QT, hQT⟩ : ∃ q, qatT N now = q := ⟨_, rfl⟩
  obtain ⟨QK, hQK⟩ : ∃ q, qatK N now node f = q := ⟨_, rfl⟩
  rw [hQN] at hQ
  obtain ⟨hQ6, hQr⟩ := hQ
  have HS := Lib.hid (fun (a : Option Addr) (c : Nat) (af : Option Addr) (cf : Nat) (w : World) (h1 : Nds Bare a N w) (h3 : Nums af f.D w) => show Calls _ _ _ _ (QatY QN QT QK w) from (specQueuedAt Bare (fun _ h => h) a N c now node f af cf w h1 h3).mono (fun e w' h => by rw [hQN, hQT, hQK] at h; exact h))
  have HI := Lib.hid (fun (a : Option Addr) (c : Nat) (af : Option Addr) (cf : Nat) (w : World) (h1 : Nds Bare a N w) (h3 : Nums af f.D w) => show Calls _ _ _ _ (QatO QN QT QK w) from (implQueuedAt Bare a N c now node f af cf w h1 h3).mono (fun e w' h => by rw [hQN, hQT, hQK] at h; exact h))
  clear hQN hQT hQK
  have hQs' := sumN_small hQr QN.length (Nat.le_refl _)
  have hQs : sumN QN QN.length ≤ 1048576 := by omega
  have hQs3 : QN.length + sumN QN QN.length ≤ 1048577 := by omega
  have hQm : QN.length ≤ maxLen := by unfold maxLen; omega
  have hQx := sumN_mix (k := 1) hQr hQ6 (by omega) (by omega) QN.length (Nat.le_refl _)
  have hQx2 : sumN (mixN 1 QN QN.length) (mixN 1 QN QN.length).length ≤ 1048576 := by rw [mixN_len]; omega
  have hQmx : (mixN 1 QN QN.length).length ≤ maxLen := by rw [mixN_len]; exact hQm
  have hkq := kNs_bd (k := 1) (N := QN) (j := QN.length) (Nat.le_refl _)
  have hk1 : ¬ kNs 1 QN QN.length < 0 := by omega
  have hk1' : decide (kNs 1 QN QN.length < 0) = false := decide_eq_false hk1
  have hkx := kNs_bd (k := 1) (N := N) (j := N.length) (Nat.le_refl _)
  have hj0 : 0 ≤ kNs 1 N N.length := by omega
  have hj2 : kNs 1 N N.length ≤ 100000000 := by omega
  have hj1 : ¬ kNs 1 N N.length + (f.D.length : Int) < 0 := by omega
  have hj1' : decide (kNs 1 N N.length + (f.D.length : Int) < 0) = false := decide_eq_false hj1
  clear hQs' hQx hkq hkx
  go_upto_region 8 with fail
  go_cut [8, 9] (fun s8 s9 wx => ∃ (g : Nat) (a2 : Option Addr) (c2 : Nat), s8 = .pointer (some ⟨g, 0, none⟩) ∧ s9 = .int .i64 QK ∧ wx.heap[g]? = some (.cells (buC a2 QN.length c2 QT) 29 (0, 0)) ∧ Nds Bare a2 QN wx ∧ Below w2.heap.size w2 wx)
  case first =>
    refine wp_region_held (S := fun u => Yb ga gb a N c now f af cf w u) (by kernel_rfl) ?_
    have B0 : Below w2.heap.size w2 { w2 with drawn := w2.drawn + 1 } := (Below.refl _ _).drew
    generalize ({ w2 with drawn := w2.drawn + 1 } : World) = v0 at B0 ⊢
    refine h_take 0 30 (buV a N.length c now) rfl rfl (by kernel_rfl) (by kernel_rfl) (by kernel_rfl) (fun _ _ _ h => h) rfl (fun u hu => bu_tookL hu.bu rfl rfl) (Y.below B0) ?_
    refine h_take 2 32 (.int .i64 node) rfl rfl (by kernel_rfl) (by kernel_rfl) (by kernel_rfl) (fun _ _ _ h => h) rfl (fun u hu => by go_simp) (Y.below B0) ?_
    refine h_take 3 33 (frV f.id f.rm f.ln af f.D.length cf) rfl rfl (by kernel_rfl) (by kernel_rfl) (by kernel_rfl) (fun _ _ _ h => h) rfl (fun u hu => frTook (f := f) (af := af) (cf := cf) hu.fr rfl rfl) (Y.below B0) ?_
    try simp only [Act.put, List.setIfInBounds_toArray, List.set_cons_zero, List.set_cons_succ]
    refine held_fork 1 9 (by kernel_rfl) (op_at rfl) (op_at rfl) rfl rfl ?pp1 ?pp2
    case pp1 =>
      refine call_wp 13 #[buV a N.length c now] (by go_simp) ?_
      refine (toBus (fun _ => True) a N c now _ (hm.below (Y.below B0).bel) hs).mono ?_
      rintro e u3 ⟨G1, rfl, O1, b⟩
      replace B0 := Below.then2 B0 b
      have P1 := O1.nds hm.1 hs2
      clear b O1
      refine ⟨_, rfl, (Y.below B0), ?_⟩
      try simp only [Act.put, List.setIfInBounds_toArray, List.set_cons_zero, List.set_cons_succ]
      refine held_fork 4 9 (by kernel_rfl) (op_at rfl) (op_at rfl) rfl rfl ?pp4 ?pp5
      case pp4 =>
        refine call_wp 28 #[frV f.id f.rm f.ln af f.D.length cf] (by go_simp) ?_
        refine (toFrOwn f.id f.rm f.ln af f.D cf _ (hn.below (Y.below B0).bel) hD).mono ?_
        rintro e u6 ⟨a1, rfl, O3, b⟩
        replace B0 := Below.then2 B0 b
        replace P1 := P1.below b
        have N1 := O3.nums2
        clear b O3
        refine ⟨_, rfl, (Y.below B0), ?_⟩
        try simp only [Act.put, List.setIfInBounds_toArray, List.set_cons_zero, List.set_cons_succ]
        refine held_fork 5 9 (by kernel_rfl) (op_at rfl) (op_at rfl) rfl rfl ?pp7 ?pp8
        case pp7 =>
          refine call_wp 27 #[buV (some ⟨G1, 0, none⟩) N.length N.length now, .int .i64 node, frV f.id f.rm f.ln a1 f.D.length f.D.length] (by go_simp) ?_
          refine (HS.out (some ⟨G1, 0, none⟩) N.length a1 f.D.length _ P1 N1).mono ?_
          rintro e u9 ⟨a2, c2, rfl, hc, b⟩
          replace B0 := Below.then2 B0 b
          clear b
          refine ⟨_, rfl, (Y.below B0), ?_⟩
          try simp only [Act.put, List.setIfInBounds_toArray, List.set_cons_zero, List.set_cons_succ]
          refine h_take 6 29 (.tuple #[buV a2 QN.length c2 QT, .int .i64 QK]) rfl rfl (by kernel_rfl) (by kernel_rfl) (by kernel_rfl) (fun _ _ _ h => h) rfl (fun u hu => by go_simp) (Y.below B0) ?_
          try simp only [Act.put, List.setIfInBounds_toArray, List.set_cons_zero, List.set_cons_succ]
          refine h_take 7 36 (buV a2 QN.length c2 QT) rfl rfl (by kernel_rfl) (by kernel_rfl) (by kernel_rfl) (fun _ _ _ h => h) rfl (fun u hu => by go_simp) (Y.below B0) ?_
          try simp only [Act.put, List.setIfInBounds_toArray, List.set_cons_zero, List.set_cons_succ]
          refine h_take 8 37 (.int .i64 QK) rfl rfl (by kernel_rfl) (by kernel_rfl) (by kernel_rfl) (fun _ _ _ h => h) rfl (fun u hu => by go_simp) (Y.below B0) ?_
          try simp only [Act.put, List.setIfInBounds_toArray, List.set_cons_zero, List.set_cons_succ]
          refine h_new 9 8 (.pointer (some ⟨u9.heap.size, 0, none⟩)) (u9.alloc (.cells #[.slice none 0 0, .int .i64 0] 29)) rfl rfl (by kernel_rfl) rfl (by go_simp) ?_
          have AL := heap_alloc_new u9 (.cells #[.slice none 0 0, .int .i64 0] 29)
          have b := below_more (Below.refl u9.heap.size u9) (.cells #[.slice none 0 0, .int .i64 0] 29)
          have hg0 : w2.heap.size ≤ u9.heap.size := B0.size
          replace B0 := Below.then2 B0 b
          have hup := fun B => Up.ofBelow (B := B) b
          clear b
          have ltal := (Array.getElem?_eq_some_iff.1 AL).1
          generalize u9.alloc _ = u10 at B0 AL ltal hup ⊢
          generalize hgal : u9.heap.size = gal at AL ltal hg0 ⊢
          have hal := Nat.le_of_eq hgal
          refine ⟨Y.below B0, ?_⟩
          try simp only [Act.put, List.setIfInBounds_toArray, List.set_cons_zero, List.set_cons_succ]
          have B1 : Below w2.heap.size w2 (u10.setRow gal (buC a2 QN.length c2 QT)) := below_setRow B0 hg0 (buC a2 QN.length c2 QT)
          refine h_putB 10 gal (a2 := a2) (len := QN.length) (c2 := c2) (now := QT) rfl rfl (by kernel_rfl) rfl rfl rfl rfl AL rfl (Y.below B1) ?_
          have M2 : Nds Bare a2 QN (u10.setRow gal (buC a2 QN.length c2 QT)) := hc _ ((hup _).rowAbove (buC a2 QN.length c2 QT) hal)
          have AR : (u10.setRow gal (buC a2 QN.length c2 QT)).heap[gal]? = some (.cells (buC a2 QN.length c2 QT) 29 (0, 0)) := setRow_heap _ _ _ _ _ _ AL
          refine h_value 11 9 (.int .i64 QK) rfl rfl (by kernel_rfl) rfl (by go_simp) (Y.below B1) ?_
          refine wpAnyH_done (by kernel_rfl) ?_ _
          try simp only [Act.put, List.setIfInBounds_toArray, List.set_cons_zero, List.set_cons_succ]
          clear hc AL ltal hal
          go_wp2_with fail
          go_meet
          exact ⟨gal, a2, c2, rfl, rfl, AR, M2, B1⟩
        case pp8 =>
          refine value_wp (.pointer (some ⟨u6.heap.size, 0, none⟩)) (u6.alloc (.cells #[.slice none 0 0, .int .i64 0] 29)) (by go_simp) ?_
          have AL := heap_alloc_new u6 (.cells #[.slice none 0 0, .int .i64 0] 29)
          have b := below_more (Below.refl u6.heap.size u6) (.cells #[.slice none 0 0, .int .i64 0] 29)
          have hg0 : w2.heap.size ≤ u6.heap.size := B0.size
          replace B0 := Below.then2 B0 b
          replace P1 := P1.below b
          replace N1 := N1.below b
          clear b
          have ltal := (Array.getElem?_eq_some_iff.1 AL).1
          generalize u6.alloc _ = u11 at B0 AL ltal P1 N1 ⊢
          generalize hgal : u6.heap.size = gal at AL ltal hg0 ⊢
          refine ⟨Y.below B0, ?_⟩
          try simp only [Act.put, List.setIfInBounds_toArray, List.set_cons_zero, List.set_cons_succ]
          have hal := ltal
          refine h_call 5 35 27 #[buV (some ⟨G1, 0, none⟩) N.length N.length now, .int .i64 node, frV f.id f.rm f.ln a1 f.D.length f.D.length] rfl rfl (by kernel_rfl) rfl (by go_simp) ?_
          refine (HS.out (some ⟨G1, 0, none⟩) N.length a1 f.D.length _ P1 N1).mono ?_
          rintro e u12 ⟨a2, c2, rfl, hc, b⟩
          replace B0 := Below.then2 B0 b
          replace AL := (b.block _ ltal).trans AL
          replace ltal := Nat.lt_of_lt_of_le ltal b.size
          clear b
          refine ⟨_, rfl, (Y.below B0), ?_⟩
          try simp only [Act.put, List.setIfInBounds_toArray, List.set_cons_zero, List.set_cons_succ]
          refine h_take 6 29 (.tuple #[buV a2 QN.length c2 QT, .int .i64 QK]) rfl rfl (by kernel_rfl) (by kernel_rfl) (by kernel_rfl) (fun _ _ _ h => h) rfl (fun u hu => by go_simp) (Y.below B0) ?_
          try simp only [Act.put, List.setIfInBounds_toArray, List.set_cons_zero, List.set_cons_succ]
          refine h_take 7 36 (buV a2 QN.length c2 QT) rfl rfl (by kernel_rfl) (by kernel_rfl) (by kernel_rfl) (fun _ _ _ h => h) rfl (fun u hu => by go_simp) (Y.below B0) ?_
          try simp only [Act.put, List.setIfInBounds_toArray, List.set_cons_zero, List.set_cons_succ]
          refine h_take 8 37 (.int .i64 QK) rfl rfl (by kernel_rfl) (by kernel_rfl) (by kernel_rfl) (fun _ _ _ h => h) rfl (fun u hu => by go_simp) (Y.below B0) ?_
          try simp only [Act.put, List.setIfInBounds_toArray, List.set_cons_zero, List.set_cons_succ]
          have B1 : Below w2.heap.size w2 (u12.setRow gal (buC a2 QN.length c2 QT)) := below_setRow B0 hg0 (buC a2 QN.length c2 QT)
          refine h_putB 10 gal (a2 := a2) (len := QN.length) (c2 := c2) (now := QT) rfl rfl (by kernel_rfl) rfl rfl rfl rfl AL rfl (Y.below B1) ?_
          have M2 : Nds Bare a2 QN (u12.setRow gal (buC a2 QN.length c2 QT)) := hc _ ((Up.refl _ _).grown (grown_setRow _ gal (buC a2 QN.length c2 QT)) hal)
          have AR : (u12.setRow gal (buC a2 QN.length c2 QT)).heap[gal]? = some (.cells (buC a2 QN.length c2 QT) 29 (0, 0)) := setRow_heap _ _ _ _ _ _ AL
          refine h_value 11 9 (.int .i64 QK) rfl rfl (by kernel_rfl) rfl (by go_simp) (Y.below B1) ?_
          refine wpAnyH_done (by kernel_rfl) ?_ _
          try simp only [Act.put, List.setIfInBounds_toArray, List.set_cons_zero, List.set_cons_succ]
          clear hc AL ltal hal
          go_wp2_with fail
          go_meet
          exact ⟨gal, a2, c2, rfl, rfl, AR, M2, B1⟩
      case pp5 =>
        refine value_wp (.pointer (some ⟨u3.heap.size, 0, none⟩)) (u3.alloc (.cells #[.slice none 0 0, .int .i64 0] 29)) (by go_simp) ?_
        have AL := heap_alloc_new u3 (.cells #[.slice none 0 0, .int .i64 0] 29)
        have b := below_more (Below.refl u3.heap.size u3) (.cells #[.slice none 0 0, .int .i64 0] 29)
        have hg0 : w2.heap.size ≤ u3.heap.size := B0.size
        replace B0 := Below.then2 B0 b
        replace P1 := P1.below b
        clear b
        have ltal := (Array.getElem?_eq_some_iff.1 AL).1
        generalize u3.alloc _ = u13 at B0 AL ltal P1 ⊢
        generalize hgal : u3.heap.size = gal at AL ltal hg0 ⊢
        refine ⟨Y.below B0, ?_⟩
        try simp only [Act.put, List.setIfInBounds_toArray, List.set_cons_zero, List.set_cons_succ]
        refine h_call 4 34 28 #[frV f.id f.rm f.ln af f.D.length cf] rfl rfl (by kernel_rfl) rfl (by go_simp) ?_
        refine (toFrOwn f.id f.rm f.ln af f.D cf _ (hn.below (Y.below B0).bel) hD).mono ?_
        rintro e u14 ⟨a1, rfl, O3, b⟩
        replace B0 := Below.then2 B0 b
        replace AL := (b.block _ ltal).trans AL
        replace ltal := Nat.lt_of_lt_of_le ltal b.size
        replace P1 := P1.below b
        have N1 := O3.nums2
        clear b O3
        refine ⟨_, rfl, (Y.below B0), ?_⟩
        try simp only [Act.put, List.setIfInBounds_toArray, List.set_cons_zero, List.set_cons_succ]
        have hal := ltal
        refine h_call 5 35 27 #[buV (some ⟨G1, 0, none⟩) N.length N.length now, .int .i64 node, frV f.id f.rm f.ln a1 f.D.length f.D.length] rfl rfl (by kernel_rfl) rfl (by go_simp) ?_
        refine (HS.out (some ⟨G1, 0, none⟩) N.length a1 f.D.length _ P1 N1).mono ?_
        rintro e u15 ⟨a2, c2, rfl, hc, b⟩
        replace B0 := Below.then2 B0 b
        replace AL := (b.block _ ltal).trans AL
        replace ltal := Nat.lt_of_lt_of_le ltal b.size
        clear b
        refine ⟨_, rfl, (Y.below B0), ?_⟩
        try simp only [Act.put, List.setIfInBounds_toArray, List.set_cons_zero, List.set_cons_succ]
        refine h_take 6 29 (.tuple #[buV a2 QN.length c2 QT, .int .i64 QK]) rfl rfl (by kernel_rfl) (by kernel_rfl) (by kernel_rfl) (fun _ _ _ h => h) rfl (fun u hu => by go_simp) (Y.below B0) ?_
        try simp only [Act.put, List.setIfInBounds_toArray, List.set_cons_zero, List.set_cons_succ]
        refine h_take 7 36 (buV a2 QN.length c2 QT) rfl rfl (by kernel_rfl) (by kernel_rfl) (by kernel_rfl) (fun _ _ _ h => h) rfl (fun u hu => by go_simp) (Y.below B0) ?_
        try simp only [Act.put, List.setIfInBounds_toArray, List.set_cons_zero, List.set_cons_succ]
        refine h_take 8 37 (.int .i64 QK) rfl rfl (by kernel_rfl) (by kernel_rfl) (by kernel_rfl) (fun _ _ _ h => h) rfl (fun u hu => by go_simp) (Y.below B0) ?_
        try simp only [Act.put, List.setIfInBounds_toArray, List.set_cons_zero, List.set_cons_succ]
        have B1 : Below w2.heap.size w2 (u15.setRow gal (buC a2 QN.length c2 QT)) := below_setRow B0 hg0 (buC a2 QN.length c2 QT)
        refine h_putB 10 gal (a2 := a2) (len := QN.length) (c2 := c2) (now := QT) rfl rfl (by kernel_rfl) rfl rfl rfl rfl AL rfl (Y.below B1) ?_
        have M2 : Nds Bare a2 QN (u15.setRow gal (buC a2 QN.length c2 QT)) := hc _ ((Up.refl _ _).grown (grown_setRow _ gal (buC a2 QN.length c2 QT)) hal)
        have AR : (u15.setRow gal (buC a2 QN.length c2 QT)).heap[gal]? = some (.cells (buC a2 QN.length c2 QT) 29 (0, 0)) := setRow_heap _ _ _ _ _ _ AL
        refine h_value 11 9 (.int .i64 QK) rfl rfl (by kernel_rfl) rfl (by go_simp) (Y.below B1) ?_
        refine wpAnyH_done (by kernel_rfl) ?_ _
        try simp only [Act.put, List.setIfInBounds_toArray, List.set_cons_zero, List.set_cons_succ]
        clear hc AL ltal hal
        go_wp2_with fail
        go_meet
        exact ⟨gal, a2, c2, rfl, rfl, AR, M2, B1⟩
    case pp2 =>
      refine value_wp (.pointer (some ⟨v0.heap.size, 0, none⟩)) (v0.alloc (.cells #[.slice none 0 0, .int .i64 0] 29)) (by go_simp) ?_
      have AL := heap_alloc_new v0 (.cells #[.slice none 0 0, .int .i64 0] 29)
      have b := below_more (Below.refl v0.heap.size v0) (.cells #[.slice none 0 0, .int .i64 0] 29)
      have hg0 : w2.heap.size ≤ v0.heap.size := B0.size
      replace B0 := Below.then2 B0 b
      clear b
      have ltal := (Array.getElem?_eq_some_iff.1 AL).1
      generalize v0.alloc _ = u16 at B0 AL ltal ⊢
      generalize hgal : v0.heap.size = gal at AL ltal hg0 ⊢
      refine ⟨Y.below B0, ?_⟩
      try simp only [Act.put, List.setIfInBounds_toArray, List.set_cons_zero, List.set_cons_succ]
      refine h_call 1 31 13 #[buV a N.length c now] rfl rfl (by kernel_rfl) rfl (by go_simp) ?_
      refine (toBus (fun _ => True) a N c now _ (hm.below (Y.below B0).bel) hs).mono ?_
      rintro e u17 ⟨G1, rfl, O1, b⟩
      replace B0 := Below.then2 B0 b
      replace AL := (b.block _ ltal).trans AL
      replace ltal := Nat.lt_of_lt_of_le ltal b.size
      have P1 := O1.nds hm.1 hs2
      clear b O1
      refine ⟨_, rfl, (Y.below B0), ?_⟩
      try simp only [Act.put, List.setIfInBounds_toArray, List.set_cons_zero, List.set_cons_succ]
      refine h_call 4 34 28 #[frV f.id f.rm f.ln af f.D.length cf] rfl rfl (by kernel_rfl) rfl (by go_simp) ?_
      refine (toFrOwn f.id f.rm f.ln af f.D cf _ (hn.below (Y.below B0).bel) hD).mono ?_
      rintro e u18 ⟨a1, rfl, O3, b⟩
      replace B0 := Below.then2 B0 b
      replace AL := (b.block _ ltal).trans AL
      replace ltal := Nat.lt_of_lt_of_le ltal b.size
      replace P1 := P1.below b
      have N1 := O3.nums2
      clear b O3
      refine ⟨_, rfl, (Y.below B0), ?_⟩
      try simp only [Act.put, List.setIfInBounds_toArray, List.set_cons_zero, List.set_cons_succ]
      have hal := ltal
      refine h_call 5 35 27 #[buV (some ⟨G1, 0, none⟩) N.length N.length now, .int .i64 node, frV f.id f.rm f.ln a1 f.D.length f.D.length] rfl rfl (by kernel_rfl) rfl (by go_simp) ?_
      refine (HS.out (some ⟨G1, 0, none⟩) N.length a1 f.D.length _ P1 N1).mono ?_
      rintro e u19 ⟨a2, c2, rfl, hc, b⟩
      replace B0 := Below.then2 B0 b
      replace AL := (b.block _ ltal).trans AL
      replace ltal := Nat.lt_of_lt_of_le ltal b.size
      clear b
      refine ⟨_, rfl, (Y.below B0), ?_⟩
      try simp only [Act.put, List.setIfInBounds_toArray, List.set_cons_zero, List.set_cons_succ]
      refine h_take 6 29 (.tuple #[buV a2 QN.length c2 QT, .int .i64 QK]) rfl rfl (by kernel_rfl) (by kernel_rfl) (by kernel_rfl) (fun _ _ _ h => h) rfl (fun u hu => by go_simp) (Y.below B0) ?_
      try simp only [Act.put, List.setIfInBounds_toArray, List.set_cons_zero, List.set_cons_succ]
      refine h_take 7 36 (buV a2 QN.length c2 QT) rfl rfl (by kernel_rfl) (by kernel_rfl) (by kernel_rfl) (fun _ _ _ h => h) rfl (fun u hu => by go_simp) (Y.below B0) ?_
      try simp only [Act.put, List.setIfInBounds_toArray, List.set_cons_zero, List.set_cons_succ]
      refine h_take 8 37 (.int .i64 QK) rfl rfl (by kernel_rfl) (by kernel_rfl) (by kernel_rfl) (fun _ _ _ h => h) rfl (fun u hu => by go_simp) (Y.below B0) ?_
      try simp only [Act.put, List.setIfInBounds_toArray, List.set_cons_zero, List.set_cons_succ]
      have B1 : Below w2.heap.size w2 (u19.setRow gal (buC a2 QN.length c2 QT)) := below_setRow B0 hg0 (buC a2 QN.length c2 QT)
      refine h_putB 10 gal (a2 := a2) (len := QN.length) (c2 := c2) (now := QT) rfl rfl (by kernel_rfl) rfl rfl rfl rfl AL rfl (Y.below B1) ?_
      have M2 : Nds Bare a2 QN (u19.setRow gal (buC a2 QN.length c2 QT)) := hc _ ((Up.refl _ _).grown (grown_setRow _ gal (buC a2 QN.length c2 QT)) hal)
      have AR : (u19.setRow gal (buC a2 QN.length c2 QT)).heap[gal]? = some (.cells (buC a2 QN.length c2 QT) 29 (0, 0)) := setRow_heap _ _ _ _ _ _ AL
      refine h_value 11 9 (.int .i64 QK) rfl rfl (by kernel_rfl) rfl (by go_simp) (Y.below B1) ?_
      refine wpAnyH_done (by kernel_rfl) ?_ _
      try simp only [Act.put, List.setIfInBounds_toArray, List.set_cons_zero, List.set_cons_succ]
      clear hc AL ltal hal
      go_wp2_with fail
      go_meet
      exact ⟨gal, a2, c2, rfl, rfl, AR, M2, B1⟩
  case rest =>
  obtain ⟨gw, a3, c3, rfl, rfl, A, M3, b⟩ := hcut
  generalize wc = W3 at *
  replace Y := Y.below b
  clear b HS
  have hgw := (Array.getElem?_eq_some_iff.1 A).1
  have Q := Below.refl W3.heap.size W3
  go_wp2_with (refine buTakeL Y.bu rfl rfl rfl ?_)
  refine (toBus (fun _ => True) a N c now _ (hm.below Y.bel) hs).mono ?_
  rintro e w4 ⟨G4, rfl, O4, b⟩
  replace Q := b
  clear b
  have q4 := Q.size
  have b := below_more (Below.refl w4.heap.size w4) (.cells (buC (some ⟨G4, 0, none⟩) N.length N.length now) 29)
  have X := heap_alloc_new w4 (.cells (buC (some ⟨G4, 0, none⟩) N.length N.length now) 29)
  go_upto_region 10 with fail
  replace Q := Below.then2 Q b
  replace O4 := O4.below b
  clear b
  have z4 : w4.heap.size < (w4.alloc (.cells (buC (some ⟨G4, 0, none⟩) N.length N.length now) 29)).heap.size := by simp
  generalize w4.alloc _ = W4 at Q O4 X z4 ⊢
  generalize w4.heap.size = gx at O4 X z4 q4 ⊢
  have YQ := Y.below Q
  go_wp2_with (refine frTake (f := f) (af := af) (cf := cf) YQ.fr rfl rfl rfl ?_)
  refine (toFrOwn f.id f.rm f.ln af f.D cf _ (hn.below YQ.bel) hD).mono ?_
  rintro e w5 ⟨a5, rfl, O5, b⟩
  have z5 := b.size
  have U5 := ownLtI O5
  replace Q := Below.then2 Q b
  replace X := blkB X b
  replace O4 := O4.below b
  clear b YQ
  have b := below_more (Below.refl w5.heap.size w5) (.cells (frC f a5 f.D.length) 50)
  have G := heap_alloc_new w5 (.cells (frC f a5 f.D.length) 50)
  go_upto_region 11 with fail
  replace Q := Below.then2 Q b
  replace X := blkB X b
  replace O4 := O4.below b
  replace O5 := ownInts_below O5 b
  clear b
  have z6 : w5.heap.size < (w5.alloc (.cells (frC f a5 f.D.length) 50)).heap.size := by simp
  generalize w5.alloc _ = W5 at Q X O4 O5 G z6 ⊢
  generalize w5.heap.size = gf at G z6 z5 U5 ⊢
  have N5 := O5.nums2
  go_wp2_with (first | (refine buTakeI X rfl rfl rfl ?_) | (refine frTakeI (f := f) (af := a5) (cf := f.D.length) G rfl rfl rfl ?_))
  refine (HI.out (some ⟨G4, 0, none⟩) N.length a5 f.D.length _ (O4.nds hm.1 hs2) N5).mono ?_
  rintro e w6 ⟨a6, c6, rfl, I5, b⟩
  have z7 := b.size
  clear N5
  replace Q := Below.then2 Q b
  replace X := blkB X b
  replace O4 := O4.below b
  replace O5 := ownInts_below O5 b
  replace G := blkB G b
  clear b
  have b := below_more (Below.refl w6.heap.size w6) (.cells (buC a6 QN.length c6 QT) 29)
  have C := heap_alloc_new w6 (.cells (buC a6 QN.length c6 QT) 29)
  go_upto_region 12 with fail
  replace Q := Below.then2 Q b
  replace X := blkB X b
  replace O4 := O4.below b
  replace O5 := ownInts_below O5 b
  replace G := blkB G b
  replace I5 := I5.below b
  clear b
  have z8 : w6.heap.size < (w6.alloc (.cells (buC a6 QN.length c6 QT) 29)).heap.size := by simp
  generalize w6.alloc _ = W6 at Q X O4 O5 G I5 C z8 ⊢
  generalize w6.heap.size = gi at *
  go_wp2_with (first | (refine buTakeI C rfl rfl rfl ?_) | (refine buTakeI ((Q.block _ hgw).trans A) rfl rfl rfl ?_))
  refine (eqBus Bare Bare a6 a3 QN c6 c3 QT _ (I5.nds hQm hQs) (M3.below Q)).mono ?_
  rintro e w7 ⟨rfl, b⟩
  replace Q := Below.then2 Q b
  replace X := blkB X b
  replace O4 := O4.below b
  replace O5 := ownInts_below O5 b
  replace G := blkB G b
  replace I5 := I5.below b
  replace C := blkB C b
  clear b
  go_upto_region 14 with fail
  refine wp_region_held (S := fun u => u.heap[gx]? = some (.cells (buC (some ⟨G4, 0, none⟩) N.length N.length now) 29 (0, 0)) ∧ Yb ga gb a N c now f af cf w u) (by kernel_rfl) ?_
  have b : Below w7.heap.size w7 { w7 with drawn := w7.drawn + 1 } := (Below.refl w7.heap.size w7).drew
  replace Q := Below.then2 Q b
  replace X := blkB X b
  replace O4 := O4.below b
  replace O5 := ownInts_below O5 b
  replace G := blkB G b
  replace I5 := I5.below b
  replace C := blkB C b
  clear b
  generalize ({ w7 with drawn := w7.drawn + 1 } : World) = w8 at *
  have YQ := Y.below Q
  refine h_take 0 58 (buV (some ⟨G4, 0, none⟩) N.length N.length now) rfl rfl (by kernel_rfl) (by kernel_rfl) (by kernel_rfl) (fun _ _ _ h => h) rfl (fun u hu => bu_tookI hu.1 rfl rfl) ⟨X, YQ⟩ ?_
  refine h_take 1 59 (buV a N.length c now) rfl rfl (by kernel_rfl) (by kernel_rfl) (by kernel_rfl) (fun _ _ _ h => h) rfl (fun u hu => bu_tookL hu.2.bu rfl rfl) ⟨X, YQ⟩ ?_
  try simp only [Act.put, List.setIfInBounds_toArray, List.set_cons_zero, List.set_cons_succ]
  refine h_call 2 60 13 #[buV a N.length c now] rfl rfl (by kernel_rfl) rfl (by go_simp) ?_
  refine (toBus (fun _ => True) a N c now _ (hm.below YQ.bel) hs).mono ?_
  rintro e w9 ⟨G9, rfl, O9, b⟩
  replace Q := Below.then2 Q b
  replace X := blkB X b
  replace O4 := O4.below b
  replace O5 := ownInts_below O5 b
  replace G := blkB G b
  replace I5 := I5.below b
  replace C := blkB C b
  replace YQ := YQ.below b
  have M9 := O9.nds hm.1 hs2
  clear b O9
  refine ⟨_, rfl, ⟨X, YQ⟩, ?_⟩
  try simp only [Act.put, List.setIfInBounds_toArray, List.set_cons_zero, List.set_cons_succ]
  refine h_call 3 61 15 #[buV (some ⟨G4, 0, none⟩) N.length N.length now, buV (some ⟨G9, 0, none⟩) N.length N.length now] rfl rfl (by kernel_rfl) rfl (by go_simp) ?_
  refine (eqBus Bare Bare _ _ N _ _ now _ (O4.nds hm.1 hs2) M9).mono ?_
  rintro e w10 ⟨rfl, b⟩
  replace Q := Below.then2 Q b
  replace X := blkB X b
  replace O4 := O4.below b
  replace O5 := ownInts_below O5 b
  replace G := blkB G b
  replace I5 := I5.below b
  replace C := blkB C b
  replace YQ := YQ.below b
  clear b M9
  refine ⟨_, rfl, ⟨X, YQ⟩, ?_⟩
  try simp only [Act.put, List.setIfInBounds_toArray, List.set_cons_zero, List.set_cons_succ]
  refine h_value 4 62 (.bool false) rfl rfl (by kernel_rfl) rfl (by go_simp) ⟨X, YQ⟩ ?_
  refine wpAnyH_done (by kernel_rfl) ?_ _
  clear YQ
  try simp only [Act.put, List.setIfInBounds_toArray, List.set_cons_zero, List.set_cons_succ]
  go_upto_region 16 with fail
  refine wp_region_held (S := fun u => u.heap[gf]? = some (.cells (frC f a5 f.D.length) 50 (0, 0)) ∧ Yb ga gb a N c now f af cf w u) (by kernel_rfl) ?_
  have b : Below w10.heap.size w10 { w10 with drawn := w10.drawn + 1 } := (Below.refl w10.heap.size w10).drew
  replace Q := Below.then2 Q b
  replace X := blkB X b
  replace O4 := O4.below b
  replace O5 := ownInts_below O5 b
  replace G := blkB G b
  replace I5 := I5.below b
  replace C := blkB C b
  clear b
  generalize ({ w10 with drawn := w10.drawn + 1 } : World) = w11 at *
  have YQ := Y.below Q
  refine h_take 0 63 (frV f.id f.rm f.ln a5 f.D.length f.D.length) rfl rfl (by kernel_rfl) (by kernel_rfl) (by kernel_rfl) (fun _ _ _ h => h) rfl (fun u hu => frTookI (f := f) (af := a5) (cf := f.D.length) hu.1 rfl rfl) ⟨G, YQ⟩ ?_
  refine h_take 1 64 (frV f.id f.rm f.ln af f.D.length cf) rfl rfl (by kernel_rfl) (by kernel_rfl) (by kernel_rfl) (fun _ _ _ h => h) rfl (fun u hu => frTook (f := f) (af := af) (cf := cf) hu.2.fr rfl rfl) ⟨G, YQ⟩ ?_
  try simp only [Act.put, List.setIfInBounds_toArray, List.set_cons_zero, List.set_cons_succ]
  refine h_call 2 65 28 #[frV f.id f.rm f.ln af f.D.length cf] rfl rfl (by kernel_rfl) rfl (by go_simp) ?_
  refine (toFrOwn f.id f.rm f.ln af f.D cf _ (hn.below YQ.bel) hD).mono ?_
  rintro e w12 ⟨a12, rfl, O12, b⟩
  replace Q := Below.then2 Q b
  replace X := blkB X b
  replace O4 := O4.below b
  replace O5 := ownInts_below O5 b
  replace G := blkB G b
  replace I5 := I5.below b
  replace C := blkB C b
  replace YQ := YQ.below b
  have N12 := O12.nums2
  clear b O12
  refine ⟨_, rfl, ⟨G, YQ⟩, ?_⟩
  try simp only [Act.put, List.setIfInBounds_toArray, List.set_cons_zero, List.set_cons_succ]
  refine h_call 3 66 30 #[frV f.id f.rm f.ln a5 f.D.length f.D.length, frV f.id f.rm f.ln a12 f.D.length f.D.length] rfl rfl (by kernel_rfl) rfl (by go_simp) ?_
  refine (eqFr f.id f.rm f.ln a5 a12 f.D f.D.length f.D.length _ O5.nums2 N12).mono ?_
  rintro e w13 ⟨rfl, b⟩
  replace Q := Below.then2 Q b
  replace X := blkB X b
  replace O4 := O4.below b
  replace O5 := ownInts_below O5 b
  replace G := blkB G b
  replace I5 := I5.below b
  replace C := blkB C b
  replace YQ := YQ.below b
  clear b N12
  refine ⟨_, rfl, ⟨G, YQ⟩, ?_⟩
  try simp only [Act.put, List.setIfInBounds_toArray, List.set_cons_zero, List.set_cons_succ]
  refine h_value 4 67 (.bool false) rfl rfl (by kernel_rfl) rfl (by go_simp) ⟨G, YQ⟩ ?_
  refine wpAnyH_done (by kernel_rfl) ?_ _
  clear YQ
  try simp only [Act.put, List.setIfInBounds_toArray, List.set_cons_zero, List.set_cons_succ]
  have x4 := (Array.getElem?_eq_some_iff.1 X).1
  go_wp2_with (refine buTakeI X rfl rfl rfl ?_)
  refine (markBusO W3.heap.size gx N.length (some ⟨G4, 0, none⟩) N now 1 _ (.inr ⟨G4, rfl, O4⟩) (by omega) hs3 (by omega) (by omega)).mono ?_
  rintro e w14 ⟨rfl, -, m⟩
  replace Q := Q.trans (m.below (Nat.le_refl _) Q.size)
  replace C := m.row C (by omega)
  replace G := m.row G (by omega)
  replace I5 := I5.sep m (.inr (by omega))
  replace O5 := O5.mid m (by omega)
  clear m X O4
  go_wp2_with (refine frTakeI (f := f) (af := a5) (cf := f.D.length) G rfl rfl rfl ?_)
  refine (markFr W4.heap.size f.id f.rm f.ln f.D a5 f.D.length (kNs 1 N N.length) _ O5 (by omega) hj0 (by omega)).mono ?_
  rintro e w15 ⟨rfl, -, gg⟩
  have m : Mid W4.heap.size gf w14 w15 := (Mid.refl W4.heap.size gf w14).grown gg (fun q hq => ⟨O5.low hq, U5 q hq⟩)
  replace Q := Q.trans (m.below (by omega) Q.size)
  replace C := m.row C (by omega)
  replace I5 := I5.sep m (.inr (by omega))
  clear m gg O5 G
  go_wp2_with (first | (refine buTakeI C rfl rfl rfl ?_) | (refine buTakeI ((Q.block _ hgw).trans A) rfl rfl rfl ?_))
  refine (eqBus Bare Bare a6 a3 QN c6 c3 QT _ (I5.nds hQm hQs) (M3.below Q)).mono ?_
  rintro e w16 ⟨rfl, b⟩
  replace Q := Below.then2 Q b
  replace I5 := I5.below b
  replace C := blkB C b
  clear b
  have c16 := (Array.getElem?_eq_some_iff.1 C).1
  go_wp2_with (refine buTakeI C rfl rfl rfl ?_)
  refine (markBusO W5.heap.size gi c6 a6 QN QT 1 _ I5 (by omega) hQs3 (by omega) (by omega)).mono ?_
  rintro e w17 ⟨rfl, I9, m⟩
  replace Q := Q.trans (m.below (by omega) Q.size)
  replace C := m.row C (Nat.le_refl _)
  clear m I5
  go_wp2_with (refine buTakeI C rfl rfl rfl ?_)
  refine (heldBusO Bare a6 QN c6 QT 1 _ (I9.nds hQmx hQx2) hQs3 (by omega) (by omega)).mono ?_
  rintro e w18 ⟨rfl, b⟩
  replace Q := Below.then2 Q b
  replace I9 := I9.below b
  replace C := blkB C b
  clear b
  have YQ := Y.below Q
  go_upto_region 31 with fail
  go_cut [17, 18] (fun s8 s9 wx => ∃ (g : Nat) (a2 : Option Addr) (c2 : Nat), s8 = .pointer (some ⟨g, 0, none⟩) ∧ s9 = .int .i64 QK ∧ wx.heap[g]? = some (.cells (buC a2 QN.length c2 QT) 29 (0, 0)) ∧ Nds Bare a2 QN wx ∧ Below w18.heap.size w18 wx)
  case first =>
    refine wp_region_held (S := fun u => Yb ga gb a N c now f af cf w u) (by kernel_rfl) ?_
    have B0 : Below w18.heap.size w18 { w18 with drawn := w18.drawn + 1 } := (Below.refl _ _).drew
    generalize ({ w18 with drawn := w18.drawn + 1 } : World) = v0 at B0 ⊢
    refine h_take 0 99 (buV a N.length c now) rfl rfl (by kernel_rfl) (by kernel_rfl) (by kernel_rfl) (fun _ _ _ h => h) rfl (fun u hu => bu_tookL hu.bu rfl rfl) (YQ.below B0) ?_
    refine h_take 2 101 (.int .i64 node) rfl rfl (by kernel_rfl) (by kernel_rfl) (by kernel_rfl) (fun _ _ _ h => h) rfl (fun u hu => by go_simp) (YQ.below B0) ?_
    refine h_take 3 102 (frV f.id f.rm f.ln af f.D.length cf) rfl rfl (by kernel_rfl) (by kernel_rfl) (by kernel_rfl) (fun _ _ _ h => h) rfl (fun u hu => frTook (f := f) (af := af) (cf := cf) hu.fr rfl rfl) (YQ.below B0) ?_
    try simp only [Act.put, List.setIfInBounds_toArray, List.set_cons_zero, List.set_cons_succ]
    refine held_fork 1 9 (by kernel_rfl) (op_at rfl) (op_at rfl) rfl rfl ?pp20 ?pp21
    case pp20 =>
      refine call_wp 13 #[buV a N.length c now] (by go_simp) ?_
      refine (toBus (fun _ => True) a N c now _ (hm.below (YQ.below B0).bel) hs).mono ?_
      rintro e u22 ⟨G1, rfl, O1, b⟩
      replace B0 := Below.then2 B0 b
      have P1 := O1.nds hm.1 hs2
      clear b O1
      refine ⟨_, rfl, (YQ.below B0), ?_⟩
      try simp only [Act.put, List.setIfInBounds_toArray, List.set_cons_zero, List.set_cons_succ]
      refine held_fork 4 9 (by kernel_rfl) (op_at rfl) (op_at rfl) rfl rfl ?pp23 ?pp24
      case pp23 =>
        refine call_wp 28 #[frV f.id f.rm f.ln af f.D.length cf] (by go_simp) ?_
        refine (toFrOwn f.id f.rm f.ln af f.D cf _ (hn.below (YQ.below B0).bel) hD).mono ?_
        rintro e u25 ⟨a1, rfl, O3, b⟩
        replace B0 := Below.then2 B0 b
        replace P1 := P1.below b
        have N1 := O3.nums2
        clear b O3
        refine ⟨_, rfl, (YQ.below B0), ?_⟩
        try simp only [Act.put, List.setIfInBounds_toArray, List.set_cons_zero, List.set_cons_succ]
        refine held_fork 5 9 (by kernel_rfl) (op_at rfl) (op_at rfl) rfl rfl ?pp26 ?pp27
        case pp26 =>
          refine call_wp 29 #[buV (some ⟨G1, 0, none⟩) N.length N.length now, .int .i64 node, frV f.id f.rm f.ln a1 f.D.length f.D.length] (by go_simp) ?_
          refine (HI.out (some ⟨G1, 0, none⟩) N.length a1 f.D.length _ P1 N1).mono ?_
          rintro e u28 ⟨a2, c2, rfl, I2, b⟩
          have hi2 := b.size
          replace B0 := Below.then2 B0 b
          clear b
          refine ⟨_, rfl, (YQ.below B0), ?_⟩
          try simp only [Act.put, List.setIfInBounds_toArray, List.set_cons_zero, List.set_cons_succ]
          refine h_take 6 98 (.tuple #[buV a2 QN.length c2 QT, .int .i64 QK]) rfl rfl (by kernel_rfl) (by kernel_rfl) (by kernel_rfl) (fun _ _ _ h => h) rfl (fun u hu => by go_simp) (YQ.below B0) ?_
          try simp only [Act.put, List.setIfInBounds_toArray, List.set_cons_zero, List.set_cons_succ]
          refine h_take 7 105 (buV a2 QN.length c2 QT) rfl rfl (by kernel_rfl) (by kernel_rfl) (by kernel_rfl) (fun _ _ _ h => h) rfl (fun u hu => by go_simp) (YQ.below B0) ?_
          try simp only [Act.put, List.setIfInBounds_toArray, List.set_cons_zero, List.set_cons_succ]
          refine h_take 8 106 (.int .i64 QK) rfl rfl (by kernel_rfl) (by kernel_rfl) (by kernel_rfl) (fun _ _ _ h => h) rfl (fun u hu => by go_simp) (YQ.below B0) ?_
          try simp only [Act.put, List.setIfInBounds_toArray, List.set_cons_zero, List.set_cons_succ]
          refine h_new 9 17 (.pointer (some ⟨u28.heap.size, 0, none⟩)) (u28.alloc (.cells #[.slice none 0 0, .int .i64 0] 29)) rfl rfl (by kernel_rfl) rfl (by go_simp) ?_
          have AL := heap_alloc_new u28 (.cells #[.slice none 0 0, .int .i64 0] 29)
          have b := below_more (Below.refl u28.heap.size u28) (.cells #[.slice none 0 0, .int .i64 0] 29)
          have hg0 : w18.heap.size ≤ u28.heap.size := B0.size
          replace B0 := Below.then2 B0 b
          replace I2 := I2.below b
          clear b
          have ltal := (Array.getElem?_eq_some_iff.1 AL).1
          generalize u28.alloc _ = u29 at B0 AL ltal I2 ⊢
          generalize hgal : u28.heap.size = gal at AL ltal hg0 ⊢
          have hal := Nat.le_of_eq hgal
          refine ⟨YQ.below B0, ?_⟩
          try simp only [Act.put, List.setIfInBounds_toArray, List.set_cons_zero, List.set_cons_succ]
          have B1 : Below w18.heap.size w18 (u29.setRow gal (buC a2 QN.length c2 QT)) := below_setRow B0 hg0 (buC a2 QN.length c2 QT)
          refine h_putB 10 gal (a2 := a2) (len := QN.length) (c2 := c2) (now := QT) rfl rfl (by kernel_rfl) rfl rfl rfl rfl AL rfl (YQ.below B1) ?_
          have M2 : Nds Bare a2 QN (u29.setRow gal (buC a2 QN.length c2 QT)) := (I2.sep (mid_setRow _ gal (buC a2 QN.length c2 QT)) (.inl hal)).nds hQm hQs
          have AR : (u29.setRow gal (buC a2 QN.length c2 QT)).heap[gal]? = some (.cells (buC a2 QN.length c2 QT) 29 (0, 0)) := setRow_heap _ _ _ _ _ _ AL
          refine h_value 11 18 (.int .i64 QK) rfl rfl (by kernel_rfl) rfl (by go_simp) (YQ.below B1) ?_
          refine wpAnyH_done (by kernel_rfl) ?_ _
          try simp only [Act.put, List.setIfInBounds_toArray, List.set_cons_zero, List.set_cons_succ]
          clear I2 AL ltal hal
          go_wp2_with fail
          go_meet
          exact ⟨gal, a2, c2, rfl, rfl, AR, M2, B1⟩
        case pp27 =>
          refine value_wp (.pointer (some ⟨u25.heap.size, 0, none⟩)) (u25.alloc (.cells #[.slice none 0 0, .int .i64 0] 29)) (by go_simp) ?_
          have AL := heap_alloc_new u25 (.cells #[.slice none 0 0, .int .i64 0] 29)
          have b := below_more (Below.refl u25.heap.size u25) (.cells #[.slice none 0 0, .int .i64 0] 29)
          have hg0 : w18.heap.size ≤ u25.heap.size := B0.size
          replace B0 := Below.then2 B0 b
          replace P1 := P1.below b
          replace N1 := N1.below b
          clear b
          have ltal := (Array.getElem?_eq_some_iff.1 AL).1
          generalize u25.alloc _ = u30 at B0 AL ltal P1 N1 ⊢
          generalize hgal : u25.heap.size = gal at AL ltal hg0 ⊢
          refine ⟨YQ.below B0, ?_⟩
          try simp only [Act.put, List.setIfInBounds_toArray, List.set_cons_zero, List.set_cons_succ]
          have hal := ltal
          refine h_call 5 104 29 #[buV (some ⟨G1, 0, none⟩) N.length N.length now, .int .i64 node, frV f.id f.rm f.ln a1 f.D.length f.D.length] rfl rfl (by kernel_rfl) rfl (by go_simp) ?_
          refine (HI.out (some ⟨G1, 0, none⟩) N.length a1 f.D.length _ P1 N1).mono ?_
          rintro e u31 ⟨a2, c2, rfl, I2, b⟩
          have hi2 := b.size
          replace B0 := Below.then2 B0 b
          replace AL := (b.block _ ltal).trans AL
          replace ltal := Nat.lt_of_lt_of_le ltal b.size
          clear b
          refine ⟨_, rfl, (YQ.below B0), ?_⟩
          try simp only [Act.put, List.setIfInBounds_toArray, List.set_cons_zero, List.set_cons_succ]
          refine h_take 6 98 (.tuple #[buV a2 QN.length c2 QT, .int .i64 QK]) rfl rfl (by kernel_rfl) (by kernel_rfl) (by kernel_rfl) (fun _ _ _ h => h) rfl (fun u hu => by go_simp) (YQ.below B0) ?_
          try simp only [Act.put, List.setIfInBounds_toArray, List.set_cons_zero, List.set_cons_succ]
          refine h_take 7 105 (buV a2 QN.length c2 QT) rfl rfl (by kernel_rfl) (by kernel_rfl) (by kernel_rfl) (fun _ _ _ h => h) rfl (fun u hu => by go_simp) (YQ.below B0) ?_
          try simp only [Act.put, List.setIfInBounds_toArray, List.set_cons_zero, List.set_cons_succ]
          refine h_take 8 106 (.int .i64 QK) rfl rfl (by kernel_rfl) (by kernel_rfl) (by kernel_rfl) (fun _ _ _ h => h) rfl (fun u hu => by go_simp) (YQ.below B0) ?_
          try simp only [Act.put, List.setIfInBounds_toArray, List.set_cons_zero, List.set_cons_succ]
          have B1 : Below w18.heap.size w18 (u31.setRow gal (buC a2 QN.length c2 QT)) := below_setRow B0 hg0 (buC a2 QN.length c2 QT)
          refine h_putB 10 gal (a2 := a2) (len := QN.length) (c2 := c2) (now := QT) rfl rfl (by kernel_rfl) rfl rfl rfl rfl AL rfl (YQ.below B1) ?_
          have M2 : Nds Bare a2 QN (u31.setRow gal (buC a2 QN.length c2 QT)) := (I2.sep (mid_setRow _ gal (buC a2 QN.length c2 QT)) (.inr hal)).nds hQm hQs
          have AR : (u31.setRow gal (buC a2 QN.length c2 QT)).heap[gal]? = some (.cells (buC a2 QN.length c2 QT) 29 (0, 0)) := setRow_heap _ _ _ _ _ _ AL
          refine h_value 11 18 (.int .i64 QK) rfl rfl (by kernel_rfl) rfl (by go_simp) (YQ.below B1) ?_
          refine wpAnyH_done (by kernel_rfl) ?_ _
          try simp only [Act.put, List.setIfInBounds_toArray, List.set_cons_zero, List.set_cons_succ]
          clear I2 AL ltal hal
          go_wp2_with fail
          go_meet
          exact ⟨gal, a2, c2, rfl, rfl, AR, M2, B1⟩
      case pp24 =>
        refine value_wp (.pointer (some ⟨u22.heap.size, 0, none⟩)) (u22.alloc (.cells #[.slice none 0 0, .int .i64 0] 29)) (by go_simp) ?_
        have AL := heap_alloc_new u22 (.cells #[.slice none 0 0, .int .i64 0] 29)
        have b := below_more (Below.refl u22.heap.size u22) (.cells #[.slice none 0 0, .int .i64 0] 29)
        have hg0 : w18.heap.size ≤ u22.heap.size := B0.size
        replace B0 := Below.then2 B0 b
        replace P1 := P1.below b
        clear b
        have ltal := (Array.getElem?_eq_some_iff.1 AL).1
        generalize u22.alloc _ = u32 at B0 AL ltal P1 ⊢
        generalize hgal : u22.heap.size = gal at AL ltal hg0 ⊢
        refine ⟨YQ.below B0, ?_⟩
        try simp only [Act.put, List.setIfInBounds_toArray, List.set_cons_zero, List.set_cons_succ]
        refine h_call 4 103 28 #[frV f.id f.rm f.ln af f.D.length cf] rfl rfl (by kernel_rfl) rfl (by go_simp) ?_
        refine (toFrOwn f.id f.rm f.ln af f.D cf _ (hn.below (YQ.below B0).bel) hD).mono ?_
        rintro e u33 ⟨a1, rfl, O3, b⟩
        replace B0 := Below.then2 B0 b
        replace AL := (b.block _ ltal).trans AL
        replace ltal := Nat.lt_of_lt_of_le ltal b.size
        replace P1 := P1.below b
        have N1 := O3.nums2
        clear b O3
        refine ⟨_, rfl, (YQ.below B0), ?_⟩
        try simp only [Act.put, List.setIfInBounds_toArray, List.set_cons_zero, List.set_cons_succ]
        have hal := ltal
        refine h_call 5 104 29 #[buV (some ⟨G1, 0, none⟩) N.length N.length now, .int .i64 node, frV f.id f.rm f.ln a1 f.D.length f.D.length] rfl rfl (by kernel_rfl) rfl (by go_simp) ?_
        refine (HI.out (some ⟨G1, 0, none⟩) N.length a1 f.D.length _ P1 N1).mono ?_
        rintro e u34 ⟨a2, c2, rfl, I2, b⟩
        have hi2 := b.size
        replace B0 := Below.then2 B0 b
        replace AL := (b.block _ ltal).trans AL
        replace ltal := Nat.lt_of_lt_of_le ltal b.size
        clear b
        refine ⟨_, rfl, (YQ.below B0), ?_⟩
        try simp only [Act.put, List.setIfInBounds_toArray, List.set_cons_zero, List.set_cons_succ]
        refine h_take 6 98 (.tuple #[buV a2 QN.length c2 QT, .int .i64 QK]) rfl rfl (by kernel_rfl) (by kernel_rfl) (by kernel_rfl) (fun _ _ _ h => h) rfl (fun u hu => by go_simp) (YQ.below B0) ?_
        try simp only [Act.put, List.setIfInBounds_toArray, List.set_cons_zero, List.set_cons_succ]
        refine h_take 7 105 (buV a2 QN.length c2 QT) rfl rfl (by kernel_rfl) (by kernel_rfl) (by kernel_rfl) (fun _ _ _ h => h) rfl (fun u hu => by go_simp) (YQ.below B0) ?_
        try simp only [Act.put, List.setIfInBounds_toArray, List.set_cons_zero, List.set_cons_succ]
        refine h_take 8 106 (.int .i64 QK) rfl rfl (by kernel_rfl) (by kernel_rfl) (by kernel_rfl) (fun _ _ _ h => h) rfl (fun u hu => by go_simp) (YQ.below B0) ?_
        try simp only [Act.put, List.setIfInBounds_toArray, List.set_cons_zero, List.set_cons_succ]
        have B1 : Below w18.heap.size w18 (u34.setRow gal (buC a2 QN.length c2 QT)) := below_setRow B0 hg0 (buC a2 QN.length c2 QT)
        refine h_putB 10 gal (a2 := a2) (len := QN.length) (c2 := c2) (now := QT) rfl rfl (by kernel_rfl) rfl rfl rfl rfl AL rfl (YQ.below B1) ?_
        have M2 : Nds Bare a2 QN (u34.setRow gal (buC a2 QN.length c2 QT)) := (I2.sep (mid_setRow _ gal (buC a2 QN.length c2 QT)) (.inr hal)).nds hQm hQs
        have AR : (u34.setRow gal (buC a2 QN.length c2 QT)).heap[gal]? = some (.cells (buC a2 QN.length c2 QT) 29 (0, 0)) := setRow_heap _ _ _ _ _ _ AL
        refine h_value 11 18 (.int .i64 QK) rfl rfl (by kernel_rfl) rfl (by go_simp) (YQ.below B1) ?_
        refine wpAnyH_done (by kernel_rfl) ?_ _
        try simp only [Act.put, List.setIfInBounds_toArray, List.set_cons_zero, List.set_cons_succ]
        clear I2 AL ltal hal
        go_wp2_with fail
        go_meet
        exact ⟨gal, a2, c2, rfl, rfl, AR, M2, B1⟩
    case pp21 =>
      refine value_wp (.pointer (some ⟨v0.heap.size, 0, none⟩)) (v0.alloc (.cells #[.slice none 0 0, .int .i64 0] 29)) (by go_simp) ?_
      have AL := heap_alloc_new v0 (.cells #[.slice none 0 0, .int .i64 0] 29)
      have b := below_more (Below.refl v0.heap.size v0) (.cells #[.slice none 0 0, .int .i64 0] 29)
      have hg0 : w18.heap.size ≤ v0.heap.size := B0.size
      replace B0 := Below.then2 B0 b
      clear b
      have ltal := (Array.getElem?_eq_some_iff.1 AL).1
      generalize v0.alloc _ = u35 at B0 AL ltal ⊢
      generalize hgal : v0.heap.size = gal at AL ltal hg0 ⊢
      refine ⟨YQ.below B0, ?_⟩
      try simp only [Act.put, List.setIfInBounds_toArray, List.set_cons_zero, List.set_cons_succ]
      refine h_call 1 100 13 #[buV a N.length c now] rfl rfl (by kernel_rfl) rfl (by go_simp) ?_
      refine (toBus (fun _ => True) a N c now _ (hm.below (YQ.below B0).bel) hs).mono ?_
      rintro e u36 ⟨G1, rfl, O1, b⟩
      replace B0 := Below.then2 B0 b
      replace AL := (b.block _ ltal).trans AL
      replace ltal := Nat.lt_of_lt_of_le ltal b.size
      have P1 := O1.nds hm.1 hs2
      clear b O1
      refine ⟨_, rfl, (YQ.below B0), ?_⟩
      try simp only [Act.put, List.setIfInBounds_toArray, List.set_cons_zero, List.set_cons_succ]
      refine h_call 4 103 28 #[frV f.id f.rm f.ln af f.D.length cf] rfl rfl (by kernel_rfl) rfl (by go_simp) ?_
      refine (toFrOwn f.id f.rm f.ln af f.D cf _ (hn.below (YQ.below B0).bel) hD).mono ?_
      rintro e u37 ⟨a1, rfl, O3, b⟩
      replace B0 := Below.then2 B0 b
      replace AL := (b.block _ ltal).trans AL
      replace ltal := Nat.lt_of_lt_of_le ltal b.size
      replace P1 := P1.below b
      have N1 := O3.nums2
      clear b O3
      refine ⟨_, rfl, (YQ.below B0), ?_⟩
      try simp only [Act.put, List.setIfInBounds_toArray, List.set_cons_zero, List.set_cons_succ]
      have hal := ltal
      refine h_call 5 104 29 #[buV (some ⟨G1, 0, none⟩) N.length N.length now, .int .i64 node, frV f.id f.rm f.ln a1 f.D.length f.D.length] rfl rfl (by kernel_rfl) rfl (by go_simp) ?_
      refine (HI.out (some ⟨G1, 0, none⟩) N.length a1 f.D.length _ P1 N1).mono ?_
      rintro e u38 ⟨a2, c2, rfl, I2, b⟩
      have hi2 := b.size
      replace B0 := Below.then2 B0 b
      replace AL := (b.block _ ltal).trans AL
      replace ltal := Nat.lt_of_lt_of_le ltal b.size
      clear b
      refine ⟨_, rfl, (YQ.below B0), ?_⟩
      try simp only [Act.put, List.setIfInBounds_toArray, List.set_cons_zero, List.set_cons_succ]
      refine h_take 6 98 (.tuple #[buV a2 QN.length c2 QT, .int .i64 QK]) rfl rfl (by kernel_rfl) (by kernel_rfl) (by kernel_rfl) (fun _ _ _ h => h) rfl (fun u hu => by go_simp) (YQ.below B0) ?_
      try simp only [Act.put, List.setIfInBounds_toArray, List.set_cons_zero, List.set_cons_succ]
      refine h_take 7 105 (buV a2 QN.length c2 QT) rfl rfl (by kernel_rfl) (by kernel_rfl) (by kernel_rfl) (fun _ _ _ h => h) rfl (fun u hu => by go_simp) (YQ.below B0) ?_
      try simp only [Act.put, List.setIfInBounds_toArray, List.set_cons_zero, List.set_cons_succ]
      refine h_take 8 106 (.int .i64 QK) rfl rfl (by kernel_rfl) (by kernel_rfl) (by kernel_rfl) (fun _ _ _ h => h) rfl (fun u hu => by go_simp) (YQ.below B0) ?_
      try simp only [Act.put, List.setIfInBounds_toArray, List.set_cons_zero, List.set_cons_succ]
      have B1 : Below w18.heap.size w18 (u38.setRow gal (buC a2 QN.length c2 QT)) := below_setRow B0 hg0 (buC a2 QN.length c2 QT)
      refine h_putB 10 gal (a2 := a2) (len := QN.length) (c2 := c2) (now := QT) rfl rfl (by kernel_rfl) rfl rfl rfl rfl AL rfl (YQ.below B1) ?_
      have M2 : Nds Bare a2 QN (u38.setRow gal (buC a2 QN.length c2 QT)) := (I2.sep (mid_setRow _ gal (buC a2 QN.length c2 QT)) (.inr hal)).nds hQm hQs
      have AR : (u38.setRow gal (buC a2 QN.length c2 QT)).heap[gal]? = some (.cells (buC a2 QN.length c2 QT) 29 (0, 0)) := setRow_heap _ _ _ _ _ _ AL
      refine h_value 11 18 (.int .i64 QK) rfl rfl (by kernel_rfl) rfl (by go_simp) (YQ.below B1) ?_
      refine wpAnyH_done (by kernel_rfl) ?_ _
      try simp only [Act.put, List.setIfInBounds_toArray, List.set_cons_zero, List.set_cons_succ]
      clear I2 AL ltal hal
      go_wp2_with fail
      go_meet
      exact ⟨gal, a2, c2, rfl, rfl, AR, M2, B1⟩
  case rest =>
  obtain ⟨gj, a19, c19, rfl, rfl, D, M19, b⟩ := hcut
  generalize wc = w19 at *
  replace Q := Below.then2 Q b
  replace C := blkB C b
  replace I9 := I9.below b
  clear b YQ
  go_wp2_with (first | (refine buTakeI D rfl rfl rfl ?_) | (refine buTakeI ((Q.block _ hgw).trans A) rfl rfl rfl ?_))
  refine (eqBus Bare Bare a19 a3 QN c19 c3 QT _ M19 (M3.below Q)).mono ?_
  rintro e w20 ⟨rfl, b⟩
  replace Q := Below.then2 Q b
  replace I9 := I9.below b
  replace C := blkB C b
  clear b M19 D
  go_wp2_with (refine buTakeI C rfl rfl rfl ?_)
  refine (heldBusO Bare a6 QN c6 QT 1 _ (I9.nds hQmx hQx2) hQs3 (by omega) (by omega)).mono ?_
  rintro e w21 ⟨rfl, b⟩
  replace Q := Below.then2 Q b
  have hb := (Y.below Q).bel
  clear b C I9
  go_wp2_with fail
  go_ret
  exact ⟨rfl, hb⟩
end Go.Proofs.YtjlegnnekjcpmaaGreat

