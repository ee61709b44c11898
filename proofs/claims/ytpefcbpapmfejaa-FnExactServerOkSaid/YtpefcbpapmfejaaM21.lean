/- The walk of laws.FnExactServerPut. -/
import Derived.Test.YtpefcbpapmfejaaM20
import Derived.Deep.DeepCutAuto
import Derived.Deep.CutRange

set_option linter.unusedVariables false
set_option linter.unusedSimpArgs false
namespace Go.Proofs.Ytpefcbpapmfejaa
open Go.RowKit

theorem ownLtS {B : Nat} {D : List Int} {v : Value} {w : World} (h : OwnI B D v w) : ∀ q, v.ownBlock = some q → q < w.heap.size := fun q hq => (h.1.lt q hq).2
theorem mid_setRowS (w : World) (g : Nat) (D : Array Value) : Mid g (g + 1) w (w.setRow g D) := ⟨rfl, rfl, rfl, by simp, fun k hk hc => setRow_other w g k D (by omega)⟩
section
variable {g : Nat} {a : Option Addr} {n c : Nat} {busy node rank now : Int} {T : TypeId} {w : World} {ops : Array Oper} {rest : List Oper} {o : Oper} {act : Act} {Q : Exit → Act → World → Prop} {x : Operand}
theorem svTakeL (h : w.heap[g]? = some (.cells (svC a n c busy node rank now) T (0, 0))) (ho : o.op = .load 24 x) (hx : act.eval x = .pointer (some ⟨g, 0, none⟩))
    (hw : Region.wanted o (yielded ops act.tmps) = true) (k : wpList Try.prog ops Q rest (act.put o.dst (svV a n c busy node rank now)) w) : wpList Try.prog ops Q (o :: rest) act w :=
  BigFrame.wpList_want hw fun _ hK => wp_load_row 24 x ho g hx T (svC a n c busy node rank now) (0, 0) _ h Try.underlying24 rfl (by kernel_rfl) (hK _ _ k)
theorem sv_tookL (h : w.heap[g]? = some (.cells (svC a n c busy node rank now) T (0, 0))) (ho : o.op = .load 24 x) (hx : act.eval x = .pointer (some ⟨g, 0, none⟩)) : (execOp act.eval o).run Try.prog w = .ok (.value (svV a n c busy node rank now)) w := by
  unfold execOp
  simp only [ho, hx, Instr.loadAt, Instr.sureAddr, Sem.run_bind, Sem.run_pure, Result.andThen_ok, run_loadVar_row w g T 24 (svC a n c busy node rank now) (0, 0) _ h Try.underlying24 rfl (by kernel_rfl)]
theorem svTakeI (h : w.heap[g]? = some (.cells (svC a n c busy node rank now) T (0, 0))) (ho : o.op = .load 29 x) (hx : act.eval x = .pointer (some ⟨g, 0, none⟩))
    (hw : Region.wanted o (yielded ops act.tmps) = true) (k : wpList Try.prog ops Q rest (act.put o.dst (svV a n c busy node rank now)) w) : wpList Try.prog ops Q (o :: rest) act w :=
  BigFrame.wpList_want hw fun _ hK => wp_load_row 29 x ho g hx T (svC a n c busy node rank now) (0, 0) _ h Try.underlying29 rfl (by kernel_rfl) (hK _ _ k)
theorem sv_tookI (h : w.heap[g]? = some (.cells (svC a n c busy node rank now) T (0, 0))) (ho : o.op = .load 29 x) (hx : act.eval x = .pointer (some ⟨g, 0, none⟩)) : (execOp act.eval o).run Try.prog w = .ok (.value (svV a n c busy node rank now)) w := by
  unfold execOp
  simp only [ho, hx, Instr.loadAt, Instr.sureAddr, Sem.run_bind, Sem.run_pure, Result.andThen_ok, run_loadVar_row w g T 29 (svC a n c busy node rank now) (0, 0) _ h Try.underlying29 rfl (by kernel_rfl)]
end
/-- A server goes into a fresh block, in a region that draws its order. -/
theorem h_putS {md : Region.Mode} {ops : Array Oper} {Q : Exit → Act → World → Prop} {S : World → Prop} (i g : Nat) {oi : Oper} {fuel : Nat} {listed : Array Bool} {a : Act} {w : World} {a2 : Option Addr} {len c2 : Nat} {busy node rank now : Int} {x y : Operand} {C : Array Value}
    (hi : ops.toList[i]? = some oi) (hd : oi.dst = none) (hr : Region.ready md ops listed = [i]) (hw : Region.wanted oi (yielded ops a.tmps) = true) (ho : oi.op = .store 29 x y) (hx : a.eval x = .pointer (some ⟨g, 0, none⟩)) (hy : a.eval y = svV a2 len c2 busy node rank now)
    (hg : w.heap[g]? = some (.cells C 29 (0, 0))) (hC : C.size = 5) (hS : S (w.setRow g (svC a2 len c2 busy node rank now)))
    (k : wpAnyH Try.prog md ops Q S fuel (listed.setIfInBounds i true) a (w.setRow g (svC a2 len c2 busy node rank now))) : wpAnyH Try.prog md ops Q S (fuel + 1) listed a w := by
  refine held_op i (op_at hi) hr hw (wp_store_row 29 x y ho g (svC a2 len c2 busy node rank now) hx hy 29 C hg (by kernel_rfl) (hC.trans rfl) (by simp [Value.oneCell']) ⟨hS, ?_⟩)
  rw [hd]
  exact k
/-- A server and a frame, as a law of both holds them. -/
structure Yq (ga gb : Nat) (a : Option Addr) (X : List (List Frm)) (c : Nat) (busy nd rank now : Int) (f : Frm) (af : Option Addr) (cf : Nat) (w0 w : World) : Prop where
  bu : w.heap[ga]? = some (.cells (svC a X.length c busy nd rank now) 24 (0, 0))
  fr : w.heap[gb]? = some (.cells (frC f af cf) 39 (0, 0))
  bel : Below w0.heap.size w0 w
theorem Yq.below {ga gb : Nat} {a : Option Addr} {X : List (List Frm)} {c : Nat} {busy nd rank now : Int} {f : Frm} {af : Option Addr} {cf : Nat} {w0 w w' : World} (h : Yq ga gb a X c busy nd rank now f af cf w0 w) (b : Below w.heap.size w w') : Yq ga gb a X c busy nd rank now f af cf w0 w' :=
  ⟨blkV h.bu b, blkV h.fr b, Below.then2 h.bel b⟩
theorem Yq.made (a : Option Addr) (X : List (List Frm)) (c : Nat) (busy nd rank now : Int) (f : Frm) (af : Option Addr) (cf : Nat) (w : World) : Yq w.heap.size (w.heap.size + 1) a X c busy nd rank now f af cf w ((w.alloc (.cells (svC a X.length c busy nd rank now) 24)).alloc (.cells (frC f af cf) 39)) := by
  obtain ⟨h1, h2, b⟩ := two_made w (svC a X.length c busy nd rank now) (frC f af cf) 24 39
  exact ⟨h1, h2, b⟩
set_option maxHeartbeats 32000000 in
set_option maxRecDepth 20000 in
theorem walkFnExactServerPut (a : Option Addr) (X : List (List Frm)) (c : Nat) (busy nd rank now : Int) (node : Int) (f : Frm) (af : Option Addr) (cf : Nat) (w : World) (hm : Bxs (fun _ _ _ => True) a X w) (hn : Nums af f.D w) :
    Calls Try.prog 5 #[svV a X.length c busy nd rank now, .int .i64 node, frV f.id f.rm f.ln af f.D.length cf] w fun e w' => e = .returned (.bool true) ∧ Below w.heap.size w w' := by

  have Y := Yq.made a X c busy nd rank now f af cf w
  go_enter Try.func5, Try.ntmps5
  go_upto_region 1 with fail
  generalize World.alloc _ _ = W at Y ⊢
  generalize w.heap.size + 1 = gb at Y ⊢
  generalize w.heap.size = ga at Y ⊢
  go_wp2_with (refine svTakeL Y.bu rfl rfl rfl ?_)
  refine (szSrvAny (fun _ _ _ => True) a X c busy nd rank now 1048576 _ (hm.below Y.bel) (by omega) (by omega)).mono ?_
  rintro e w1 ⟨hz | hz, b⟩
  case inr =>
    obtain ⟨hz, rfl⟩ := hz
    have hb := Below.then2 Y.bel b
    go_wp2_with fail
    go_ret
    exact ⟨rfl, hb⟩
  obtain ⟨hz, rfl⟩ := hz
  replace Y := Y.below b
  clear b
  have hs : roomX X ≤ 1048576 := by omega
  have hXm : X.length ≤ 2000000 := by unfold roomX at hs; omega
  have hXs : ∀ j, j < X.length → (nthB X j).length ≤ 2000000 := fun j hj => by have := sumX_at X hj; unfold roomX at hs; omega
  have hkX := kB_eq 1 X X.length (Nat.le_refl _)
  have hkX2 : sumX X X.length ≤ 1048576 := by unfold roomX at hs; omega
  replace hXs := Lib.hid hXs
  have hl0 : 0 ≤ (1048576 : Int) - roomX X := by omega
  have hl1 : (1048576 : Int) - roomX X ≤ 1048576 := by omega
  have hl2 : ¬ (1048576 : Int) - roomX X < 0 := by omega
  clear hz
  generalize (1048576 : Int) - roomX X = left at hl0 hl1 hl2 ⊢
  go_wp2_with (refine frTake (f := f) (af := af) (cf := cf) Y.fr rfl rfl rfl ?_)
  refine (szFrAny f af cf left _ (hn.below Y.bel) hl0 hl1).mono ?_
  rintro e w2 ⟨hz | hz, b⟩
  case inr =>
    obtain ⟨hz, rfl⟩ := hz
    have hb := Below.then2 Y.bel b
    go_wp2_with fail
    go_ret
    exact ⟨rfl, hb⟩
  obtain ⟨hz, rfl⟩ := hz
  replace Y := Y.below b
  clear b
  have hD : f.D.length ≤ 1048576 := by omega
  have hl3 : ¬ left - f.D.length < 0 := by omega
  clear hz hl0 hl1 hl2
  generalize left - f.D.length = left2 at hl3 ⊢
  have hQ := put_lean ⟨X, busy, nd, rank, now⟩ node f
  obtain ⟨QX, hQX⟩ : ∃ q, (putS ⟨X, busy, nd, rank, now⟩ node f).1.bx = q := ⟨_, rfl⟩
  obtain ⟨Qb, hQb⟩ : ∃ q, (putS ⟨X, busy, nd, rank, now⟩ node f).1.busy = q := ⟨_, rfl⟩
  obtain ⟨Qn, hQn⟩ : ∃ q, (putS ⟨X, busy, nd, rank, now⟩ node f).1.node = q := ⟨_, rfl⟩
  obtain ⟨Qr, hQr⟩ : ∃ q, (putS ⟨X, busy, nd, rank, now⟩ node f).1.rank = q := ⟨_, rfl⟩
  obtain ⟨QT, hQT⟩ : ∃ q, (putS ⟨X, busy, nd, rank, now⟩ node f).1.now = q := ⟨_, rfl⟩
  obtain ⟨QK, hQK⟩ : ∃ q, (putS ⟨X, busy, nd, rank, now⟩ node f).2 = q := ⟨_, rfl⟩
  rw [hQX] at hQ
  have HS := Lib.hid (fun (a : Option Addr) (c : Nat) (af : Option Addr) (cf : Nat) (w : World) (h1 : Bxs Adr a X w) (h3 : Nums af f.D w) => show Calls _ _ _ _ (SaO False QX Qb Qn Qr QT (.int .i64 QK) w) from (specServerPut Adr a X c busy nd rank now node f af cf w h1 h3).mono (fun e w' h => by have h := h.sa; rw [hQX, hQb, hQn, hQr, hQT, hQK] at h; exact h))
  have HI := Lib.hid (fun (a : Option Addr) (c : Nat) (af : Option Addr) (cf : Nat) (w : World) (h1 : Bxs Adr a X w) (h3 : Nums af f.D w) => show Calls _ _ _ _ (SaO True QX Qb Qn Qr QT (.int .i64 QK) w) from (implServerPut Adr a X c busy nd rank now node f af cf w h1 h3).mono (fun e w' h => by have h := h.sa; rw [hQX, hQb, hQn, hQr, hQT, hQK] at h; exact h))
  clear hQX hQb hQn hQr hQT hQK
  obtain ⟨hQ6, hQl⟩ := hQ
  have hQsum := roomX_small hQl QX.length (Nat.le_refl _)
  have hQm : QX.length ≤ 2000000 := by omega
  have hQr2 : roomX QX ≤ 1048577 := by unfold roomX; omega
  have hQs : ∀ j, j < QX.length → (nthB QX j).length ≤ 2000000 := fun j hj => by have := (hQl j hj).1; omega
  have hQmx : (mkB 1 QX QX.length).length ≤ 2000000 := by rw [mkB_len]; exact hQm
  have hQx2 : ∀ j, j < (mkB 1 QX QX.length).length → (nthB (mkB 1 QX QX.length) j).length ≤ 2000000 := fun j hj => by rw [mkB_len] at hj; rw [mkB_all hj, mkL_len]; exact hQs j hj
  have hkq := kB_eq 1 QX QX.length (Nat.le_refl _)
  have hk1 : ¬ kB 1 QX QX.length < 0 := by omega
  have hk1' : decide (kB 1 QX QX.length < 0) = false := decide_eq_false hk1
  have hj0 : 0 ≤ kB 1 X X.length := by omega
  have hj2 : kB 1 X X.length ≤ 100000000 := by omega
  have hj1 : ¬ kB 1 X X.length + (f.D.length : Int) < 0 := by omega
  have hj1' : decide (kB 1 X X.length + (f.D.length : Int) < 0) = false := decide_eq_false hj1
  clear hQsum hkq hQl hkX hkX2
  replace hQs := Lib.hid hQs
  replace hQx2 := Lib.hid hQx2
  go_upto_region 8 with fail
  go_cut [8, 9] (fun s8 s9 wx => ∃ (g : Nat) (a2 : Option Addr) (c2 : Nat), s8 = .pointer (some ⟨g, 0, none⟩) ∧ s9 = .int .i64 QK ∧ wx.heap[g]? = some (.cells (svC a2 QX.length c2 Qb Qn Qr QT) 29 (0, 0)) ∧ Bxs Adr a2 QX wx ∧ Below w2.heap.size w2 wx)
  case first =>
    refine wp_region_held (S := fun u => Yq ga gb a X c busy nd rank now f af cf w u) (by kernel_rfl) ?_
    have B0 : Below w2.heap.size w2 { w2 with drawn := w2.drawn + 1 } := (Below.refl _ _).drew
    generalize ({ w2 with drawn := w2.drawn + 1 } : World) = v0 at B0 ⊢
    refine h_take 0 30 (svV a X.length c busy nd rank now) rfl rfl (by kernel_rfl) (by kernel_rfl) (by kernel_rfl) (fun _ _ _ h => h) rfl (fun u hu => sv_tookL hu.bu rfl rfl) (Y.below B0) ?_
    refine h_take 2 32 (.int .i64 node) rfl rfl (by kernel_rfl) (by kernel_rfl) (by kernel_rfl) (fun _ _ _ h => h) rfl (fun u hu => by go_simp) (Y.below B0) ?_
    refine h_take 3 33 (frV f.id f.rm f.ln af f.D.length cf) rfl rfl (by kernel_rfl) (by kernel_rfl) (by kernel_rfl) (fun _ _ _ h => h) rfl (fun u hu => frTook (f := f) (af := af) (cf := cf) hu.fr rfl rfl) (Y.below B0) ?_
    try simp only [Act.put, List.setIfInBounds_toArray, List.set_cons_zero, List.set_cons_succ]
    refine held_fork 1 9 (by kernel_rfl) (op_at rfl) (op_at rfl) rfl rfl ?pp1 ?pp2
    case pp1 =>
      refine call_wp 8 #[svV a X.length c busy nd rank now] (by go_simp) ?_
      refine (toSrv (fun _ _ _ => True) a X c busy nd rank now _ (hm.below (Y.below B0).bel) hs).mono ?_
      rintro e u3 ⟨G1, L1, H1, rfl, O1, F1, b⟩
      replace B0 := Below.then2 B0 b
      have P1 := O1.bxs hXm hXs.out
      clear b O1
      refine ⟨_, rfl, (Y.below B0), ?_⟩
      try simp only [Act.put, List.setIfInBounds_toArray, List.set_cons_zero, List.set_cons_succ]
      refine held_fork 4 9 (by kernel_rfl) (op_at rfl) (op_at rfl) rfl rfl ?pp4 ?pp5
      case pp4 =>
        refine call_wp 17 #[frV f.id f.rm f.ln af f.D.length cf] (by go_simp) ?_
        refine (toFrOwn f.id f.rm f.ln af f.D cf _ (hn.below (Y.below B0).bel) hD).mono ?_
        rintro e u6 ⟨a1, rfl, O3, b⟩
        replace B0 := Below.then2 B0 b
        replace P1 := P1.below b
        have N1 := O3.nums2
        clear b O3
        refine ⟨_, rfl, (Y.below B0), ?_⟩
        try simp only [Act.put, List.setIfInBounds_toArray, List.set_cons_zero, List.set_cons_succ]
        refine held_fork 5 9 (by kernel_rfl) (op_at rfl) (op_at rfl) rfl rfl ?pp7 ?pp8
        case pp7 =>
          refine call_wp 16 #[svV (some ⟨G1, 0, none⟩) X.length X.length busy nd rank now, .int .i64 node, frV f.id f.rm f.ln a1 f.D.length f.D.length] (by go_simp) ?_
          refine (HS.out (some ⟨G1, 0, none⟩) X.length a1 f.D.length _ P1 N1).mono ?_
          rintro e u9 ⟨a2, c2, L2, H2, rfl, hc, hne, b⟩
          have hi2 := b.size
          replace B0 := Below.then2 B0 b
          clear b
          refine ⟨_, rfl, (Y.below B0), ?_⟩
          try simp only [Act.put, List.setIfInBounds_toArray, List.set_cons_zero, List.set_cons_succ]
          refine h_take 6 29 (.tuple #[svV a2 QX.length c2 Qb Qn Qr QT, .int .i64 QK]) rfl rfl (by kernel_rfl) (by kernel_rfl) (by kernel_rfl) (fun _ _ _ h => h) rfl (fun u hu => by go_simp) (Y.below B0) ?_
          try simp only [Act.put, List.setIfInBounds_toArray, List.set_cons_zero, List.set_cons_succ]
          refine h_take 7 36 (svV a2 QX.length c2 Qb Qn Qr QT) rfl rfl (by kernel_rfl) (by kernel_rfl) (by kernel_rfl) (fun _ _ _ h => h) rfl (fun u hu => by go_simp) (Y.below B0) ?_
          try simp only [Act.put, List.setIfInBounds_toArray, List.set_cons_zero, List.set_cons_succ]
          refine h_take 8 37 (.int .i64 QK) rfl rfl (by kernel_rfl) (by kernel_rfl) (by kernel_rfl) (fun _ _ _ h => h) rfl (fun u hu => by go_simp) (Y.below B0) ?_
          try simp only [Act.put, List.setIfInBounds_toArray, List.set_cons_zero, List.set_cons_succ]
          refine h_new 9 8 (.pointer (some ⟨u9.heap.size, 0, none⟩)) (u9.alloc (.cells (svC none 0 0 0 0 0 0) 29)) rfl rfl (by kernel_rfl) rfl (by go_simp) ?_
          have AL := heap_alloc_new u9 (.cells (svC none 0 0 0 0 0 0) 29)
          have b := below_more (Below.refl u9.heap.size u9) (.cells (svC none 0 0 0 0 0 0) 29)
          have hg0 : w2.heap.size ≤ u9.heap.size := B0.size
          replace B0 := Below.then2 B0 b
          have hTop := hc.top hne
          replace hc := hc.below b
          clear b
          have ltal := (Array.getElem?_eq_some_iff.1 AL).1
          generalize u9.alloc _ = u10 at B0 AL ltal hc ⊢
          generalize hgal : u9.heap.size = gal at AL ltal hg0 ⊢
          have hal := Nat.le_of_eq hgal
          refine ⟨Y.below B0, ?_⟩
          try simp only [Act.put, List.setIfInBounds_toArray, List.set_cons_zero, List.set_cons_succ]
          have B1 : Below w2.heap.size w2 (u10.setRow gal (svC a2 QX.length c2 Qb Qn Qr QT)) := below_setRow B0 hg0 (svC a2 QX.length c2 Qb Qn Qr QT)
          refine h_putS 10 gal (a2 := a2) (len := QX.length) (c2 := c2) (busy := Qb) (node := Qn) (rank := Qr) (now := QT) rfl rfl (by kernel_rfl) rfl rfl rfl rfl AL rfl (Y.below B1) ?_
          have hA2 := (hc.sep2 (mid_setRowS _ gal (svC a2 QX.length c2 Qb Qn Qr QT)) hTop (.inr hal))
          have M2 : Bxs Adr a2 QX (u10.setRow gal (svC a2 QX.length c2 Qb Qn Qr QT)) := hA2.bxs hQm hQs.out
          have AR : (u10.setRow gal (svC a2 QX.length c2 Qb Qn Qr QT)).heap[gal]? = some (.cells (svC a2 QX.length c2 Qb Qn Qr QT) 29 (0, 0)) := setRow_heap _ _ _ _ _ _ AL
          refine h_value 11 9 (.int .i64 QK) rfl rfl (by kernel_rfl) rfl (by go_simp) (Y.below B1) ?_
          refine wpAnyH_done (by kernel_rfl) ?_ _
          try simp only [Act.put, List.setIfInBounds_toArray, List.set_cons_zero, List.set_cons_succ]
          clear hc AL ltal hal
          go_wp2_with fail
          go_meet
          exact ⟨gal, a2, c2, rfl, rfl, AR, M2, B1⟩
        case pp8 =>
          refine value_wp (.pointer (some ⟨u6.heap.size, 0, none⟩)) (u6.alloc (.cells (svC none 0 0 0 0 0 0) 29)) (by go_simp) ?_
          have AL := heap_alloc_new u6 (.cells (svC none 0 0 0 0 0 0) 29)
          have b := below_more (Below.refl u6.heap.size u6) (.cells (svC none 0 0 0 0 0 0) 29)
          have hg0 : w2.heap.size ≤ u6.heap.size := B0.size
          replace B0 := Below.then2 B0 b
          replace P1 := P1.below b
          replace N1 := N1.below b
          clear b
          have ltal := (Array.getElem?_eq_some_iff.1 AL).1
          generalize u6.alloc _ = u11 at B0 AL ltal P1 N1 ⊢
          generalize hgal : u6.heap.size = gal at AL ltal hg0 ⊢
          refine ⟨Y.below B0, ?_⟩
          try simp only [Act.put, List.setIfInBounds_toArray, List.set_cons_zero, List.set_cons_succ]
          have hal := ltal
          refine h_call 5 35 16 #[svV (some ⟨G1, 0, none⟩) X.length X.length busy nd rank now, .int .i64 node, frV f.id f.rm f.ln a1 f.D.length f.D.length] rfl rfl (by kernel_rfl) rfl (by go_simp) ?_
          refine (HS.out (some ⟨G1, 0, none⟩) X.length a1 f.D.length _ P1 N1).mono ?_
          rintro e u12 ⟨a2, c2, L2, H2, rfl, hc, hne, b⟩
          have hi2 := b.size
          replace B0 := Below.then2 B0 b
          replace AL := (b.block _ ltal).trans AL
          replace ltal := Nat.lt_of_lt_of_le ltal b.size
          clear b
          refine ⟨_, rfl, (Y.below B0), ?_⟩
          try simp only [Act.put, List.setIfInBounds_toArray, List.set_cons_zero, List.set_cons_succ]
          refine h_take 6 29 (.tuple #[svV a2 QX.length c2 Qb Qn Qr QT, .int .i64 QK]) rfl rfl (by kernel_rfl) (by kernel_rfl) (by kernel_rfl) (fun _ _ _ h => h) rfl (fun u hu => by go_simp) (Y.below B0) ?_
          try simp only [Act.put, List.setIfInBounds_toArray, List.set_cons_zero, List.set_cons_succ]
          refine h_take 7 36 (svV a2 QX.length c2 Qb Qn Qr QT) rfl rfl (by kernel_rfl) (by kernel_rfl) (by kernel_rfl) (fun _ _ _ h => h) rfl (fun u hu => by go_simp) (Y.below B0) ?_
          try simp only [Act.put, List.setIfInBounds_toArray, List.set_cons_zero, List.set_cons_succ]
          refine h_take 8 37 (.int .i64 QK) rfl rfl (by kernel_rfl) (by kernel_rfl) (by kernel_rfl) (fun _ _ _ h => h) rfl (fun u hu => by go_simp) (Y.below B0) ?_
          try simp only [Act.put, List.setIfInBounds_toArray, List.set_cons_zero, List.set_cons_succ]
          have B1 : Below w2.heap.size w2 (u12.setRow gal (svC a2 QX.length c2 Qb Qn Qr QT)) := below_setRow B0 hg0 (svC a2 QX.length c2 Qb Qn Qr QT)
          refine h_putS 10 gal (a2 := a2) (len := QX.length) (c2 := c2) (busy := Qb) (node := Qn) (rank := Qr) (now := QT) rfl rfl (by kernel_rfl) rfl rfl rfl rfl AL rfl (Y.below B1) ?_
          have hA2 := (hc.sep (mid_setRowS _ gal (svC a2 QX.length c2 Qb Qn Qr QT)) (.inl hal))
          have M2 : Bxs Adr a2 QX (u12.setRow gal (svC a2 QX.length c2 Qb Qn Qr QT)) := hA2.bxs hQm hQs.out
          have AR : (u12.setRow gal (svC a2 QX.length c2 Qb Qn Qr QT)).heap[gal]? = some (.cells (svC a2 QX.length c2 Qb Qn Qr QT) 29 (0, 0)) := setRow_heap _ _ _ _ _ _ AL
          refine h_value 11 9 (.int .i64 QK) rfl rfl (by kernel_rfl) rfl (by go_simp) (Y.below B1) ?_
          refine wpAnyH_done (by kernel_rfl) ?_ _
          try simp only [Act.put, List.setIfInBounds_toArray, List.set_cons_zero, List.set_cons_succ]
          clear hc AL ltal hal
          go_wp2_with fail
          go_meet
          exact ⟨gal, a2, c2, rfl, rfl, AR, M2, B1⟩
      case pp5 =>
        refine value_wp (.pointer (some ⟨u3.heap.size, 0, none⟩)) (u3.alloc (.cells (svC none 0 0 0 0 0 0) 29)) (by go_simp) ?_
        have AL := heap_alloc_new u3 (.cells (svC none 0 0 0 0 0 0) 29)
        have b := below_more (Below.refl u3.heap.size u3) (.cells (svC none 0 0 0 0 0 0) 29)
        have hg0 : w2.heap.size ≤ u3.heap.size := B0.size
        replace B0 := Below.then2 B0 b
        replace P1 := P1.below b
        clear b
        have ltal := (Array.getElem?_eq_some_iff.1 AL).1
        generalize u3.alloc _ = u13 at B0 AL ltal P1 ⊢
        generalize hgal : u3.heap.size = gal at AL ltal hg0 ⊢
        refine ⟨Y.below B0, ?_⟩
        try simp only [Act.put, List.setIfInBounds_toArray, List.set_cons_zero, List.set_cons_succ]
        refine h_call 4 34 17 #[frV f.id f.rm f.ln af f.D.length cf] rfl rfl (by kernel_rfl) rfl (by go_simp) ?_
        refine (toFrOwn f.id f.rm f.ln af f.D cf _ (hn.below (Y.below B0).bel) hD).mono ?_
        rintro e u14 ⟨a1, rfl, O3, b⟩
        replace B0 := Below.then2 B0 b
        replace AL := (b.block _ ltal).trans AL
        replace ltal := Nat.lt_of_lt_of_le ltal b.size
        replace P1 := P1.below b
        have N1 := O3.nums2
        clear b O3
        refine ⟨_, rfl, (Y.below B0), ?_⟩
        try simp only [Act.put, List.setIfInBounds_toArray, List.set_cons_zero, List.set_cons_succ]
        have hal := ltal
        refine h_call 5 35 16 #[svV (some ⟨G1, 0, none⟩) X.length X.length busy nd rank now, .int .i64 node, frV f.id f.rm f.ln a1 f.D.length f.D.length] rfl rfl (by kernel_rfl) rfl (by go_simp) ?_
        refine (HS.out (some ⟨G1, 0, none⟩) X.length a1 f.D.length _ P1 N1).mono ?_
        rintro e u15 ⟨a2, c2, L2, H2, rfl, hc, hne, b⟩
        have hi2 := b.size
        replace B0 := Below.then2 B0 b
        replace AL := (b.block _ ltal).trans AL
        replace ltal := Nat.lt_of_lt_of_le ltal b.size
        clear b
        refine ⟨_, rfl, (Y.below B0), ?_⟩
        try simp only [Act.put, List.setIfInBounds_toArray, List.set_cons_zero, List.set_cons_succ]
        refine h_take 6 29 (.tuple #[svV a2 QX.length c2 Qb Qn Qr QT, .int .i64 QK]) rfl rfl (by kernel_rfl) (by kernel_rfl) (by kernel_rfl) (fun _ _ _ h => h) rfl (fun u hu => by go_simp) (Y.below B0) ?_
        try simp only [Act.put, List.setIfInBounds_toArray, List.set_cons_zero, List.set_cons_succ]
        refine h_take 7 36 (svV a2 QX.length c2 Qb Qn Qr QT) rfl rfl (by kernel_rfl) (by kernel_rfl) (by kernel_rfl) (fun _ _ _ h => h) rfl (fun u hu => by go_simp) (Y.below B0) ?_
        try simp only [Act.put, List.setIfInBounds_toArray, List.set_cons_zero, List.set_cons_succ]
        refine h_take 8 37 (.int .i64 QK) rfl rfl (by kernel_rfl) (by kernel_rfl) (by kernel_rfl) (fun _ _ _ h => h) rfl (fun u hu => by go_simp) (Y.below B0) ?_
        try simp only [Act.put, List.setIfInBounds_toArray, List.set_cons_zero, List.set_cons_succ]
        have B1 : Below w2.heap.size w2 (u15.setRow gal (svC a2 QX.length c2 Qb Qn Qr QT)) := below_setRow B0 hg0 (svC a2 QX.length c2 Qb Qn Qr QT)
        refine h_putS 10 gal (a2 := a2) (len := QX.length) (c2 := c2) (busy := Qb) (node := Qn) (rank := Qr) (now := QT) rfl rfl (by kernel_rfl) rfl rfl rfl rfl AL rfl (Y.below B1) ?_
        have hA2 := (hc.sep (mid_setRowS _ gal (svC a2 QX.length c2 Qb Qn Qr QT)) (.inl hal))
        have M2 : Bxs Adr a2 QX (u15.setRow gal (svC a2 QX.length c2 Qb Qn Qr QT)) := hA2.bxs hQm hQs.out
        have AR : (u15.setRow gal (svC a2 QX.length c2 Qb Qn Qr QT)).heap[gal]? = some (.cells (svC a2 QX.length c2 Qb Qn Qr QT) 29 (0, 0)) := setRow_heap _ _ _ _ _ _ AL
        refine h_value 11 9 (.int .i64 QK) rfl rfl (by kernel_rfl) rfl (by go_simp) (Y.below B1) ?_
        refine wpAnyH_done (by kernel_rfl) ?_ _
        try simp only [Act.put, List.setIfInBounds_toArray, List.set_cons_zero, List.set_cons_succ]
        clear hc AL ltal hal
        go_wp2_with fail
        go_meet
        exact ⟨gal, a2, c2, rfl, rfl, AR, M2, B1⟩
    case pp2 =>
      refine value_wp (.pointer (some ⟨v0.heap.size, 0, none⟩)) (v0.alloc (.cells (svC none 0 0 0 0 0 0) 29)) (by go_simp) ?_
      have AL := heap_alloc_new v0 (.cells (svC none 0 0 0 0 0 0) 29)
      have b := below_more (Below.refl v0.heap.size v0) (.cells (svC none 0 0 0 0 0 0) 29)
      have hg0 : w2.heap.size ≤ v0.heap.size := B0.size
      replace B0 := Below.then2 B0 b
      clear b
      have ltal := (Array.getElem?_eq_some_iff.1 AL).1
      generalize v0.alloc _ = u16 at B0 AL ltal ⊢
      generalize hgal : v0.heap.size = gal at AL ltal hg0 ⊢
      refine ⟨Y.below B0, ?_⟩
      try simp only [Act.put, List.setIfInBounds_toArray, List.set_cons_zero, List.set_cons_succ]
      refine h_call 1 31 8 #[svV a X.length c busy nd rank now] rfl rfl (by kernel_rfl) rfl (by go_simp) ?_
      refine (toSrv (fun _ _ _ => True) a X c busy nd rank now _ (hm.below (Y.below B0).bel) hs).mono ?_
      rintro e u17 ⟨G1, L1, H1, rfl, O1, F1, b⟩
      replace B0 := Below.then2 B0 b
      replace AL := (b.block _ ltal).trans AL
      replace ltal := Nat.lt_of_lt_of_le ltal b.size
      have P1 := O1.bxs hXm hXs.out
      clear b O1
      refine ⟨_, rfl, (Y.below B0), ?_⟩
      try simp only [Act.put, List.setIfInBounds_toArray, List.set_cons_zero, List.set_cons_succ]
      refine h_call 4 34 17 #[frV f.id f.rm f.ln af f.D.length cf] rfl rfl (by kernel_rfl) rfl (by go_simp) ?_
      refine (toFrOwn f.id f.rm f.ln af f.D cf _ (hn.below (Y.below B0).bel) hD).mono ?_
      rintro e u18 ⟨a1, rfl, O3, b⟩
      replace B0 := Below.then2 B0 b
      replace AL := (b.block _ ltal).trans AL
      replace ltal := Nat.lt_of_lt_of_le ltal b.size
      replace P1 := P1.below b
      have N1 := O3.nums2
      clear b O3
      refine ⟨_, rfl, (Y.below B0), ?_⟩
      try simp only [Act.put, List.setIfInBounds_toArray, List.set_cons_zero, List.set_cons_succ]
      have hal := ltal
      refine h_call 5 35 16 #[svV (some ⟨G1, 0, none⟩) X.length X.length busy nd rank now, .int .i64 node, frV f.id f.rm f.ln a1 f.D.length f.D.length] rfl rfl (by kernel_rfl) rfl (by go_simp) ?_
      refine (HS.out (some ⟨G1, 0, none⟩) X.length a1 f.D.length _ P1 N1).mono ?_
      rintro e u19 ⟨a2, c2, L2, H2, rfl, hc, hne, b⟩
      have hi2 := b.size
      replace B0 := Below.then2 B0 b
      replace AL := (b.block _ ltal).trans AL
      replace ltal := Nat.lt_of_lt_of_le ltal b.size
      clear b
      refine ⟨_, rfl, (Y.below B0), ?_⟩
      try simp only [Act.put, List.setIfInBounds_toArray, List.set_cons_zero, List.set_cons_succ]
      refine h_take 6 29 (.tuple #[svV a2 QX.length c2 Qb Qn Qr QT, .int .i64 QK]) rfl rfl (by kernel_rfl) (by kernel_rfl) (by kernel_rfl) (fun _ _ _ h => h) rfl (fun u hu => by go_simp) (Y.below B0) ?_
      try simp only [Act.put, List.setIfInBounds_toArray, List.set_cons_zero, List.set_cons_succ]
      refine h_take 7 36 (svV a2 QX.length c2 Qb Qn Qr QT) rfl rfl (by kernel_rfl) (by kernel_rfl) (by kernel_rfl) (fun _ _ _ h => h) rfl (fun u hu => by go_simp) (Y.below B0) ?_
      try simp only [Act.put, List.setIfInBounds_toArray, List.set_cons_zero, List.set_cons_succ]
      refine h_take 8 37 (.int .i64 QK) rfl rfl (by kernel_rfl) (by kernel_rfl) (by kernel_rfl) (fun _ _ _ h => h) rfl (fun u hu => by go_simp) (Y.below B0) ?_
      try simp only [Act.put, List.setIfInBounds_toArray, List.set_cons_zero, List.set_cons_succ]
      have B1 : Below w2.heap.size w2 (u19.setRow gal (svC a2 QX.length c2 Qb Qn Qr QT)) := below_setRow B0 hg0 (svC a2 QX.length c2 Qb Qn Qr QT)
      refine h_putS 10 gal (a2 := a2) (len := QX.length) (c2 := c2) (busy := Qb) (node := Qn) (rank := Qr) (now := QT) rfl rfl (by kernel_rfl) rfl rfl rfl rfl AL rfl (Y.below B1) ?_
      have hA2 := (hc.sep (mid_setRowS _ gal (svC a2 QX.length c2 Qb Qn Qr QT)) (.inl hal))
      have M2 : Bxs Adr a2 QX (u19.setRow gal (svC a2 QX.length c2 Qb Qn Qr QT)) := hA2.bxs hQm hQs.out
      have AR : (u19.setRow gal (svC a2 QX.length c2 Qb Qn Qr QT)).heap[gal]? = some (.cells (svC a2 QX.length c2 Qb Qn Qr QT) 29 (0, 0)) := setRow_heap _ _ _ _ _ _ AL
      refine h_value 11 9 (.int .i64 QK) rfl rfl (by kernel_rfl) rfl (by go_simp) (Y.below B1) ?_
      refine wpAnyH_done (by kernel_rfl) ?_ _
      try simp only [Act.put, List.setIfInBounds_toArray, List.set_cons_zero, List.set_cons_succ]
      clear hc AL ltal hal
      go_wp2_with fail
      go_meet
      exact ⟨gal, a2, c2, rfl, rfl, AR, M2, B1⟩
  case rest =>
  obtain ⟨gw, a3, c3, rfl, rfl, A, M3, b⟩ := hcut
  generalize wc = W3 at *
  replace Y := Y.below b
  clear b HS
  have hgw := (Array.getElem?_eq_some_iff.1 A).1
  have Q := Below.refl W3.heap.size W3
  go_wp2_with (refine svTakeL Y.bu rfl rfl rfl ?_)
  refine (toSrv (fun _ _ _ => True) a X c busy nd rank now _ (hm.below Y.bel) hs).mono ?_
  rintro e w4 ⟨G4, L4, H4, rfl, O4, F4, b⟩
  replace Q := b
  clear b
  have q4 := Q.size
  have hH4 : Hid (∀ j, j < X.length → H4 j ≤ w4.heap.size) := Lib.hid fun j hj => (O4.out j hj).2.1
  have b := below_more (Below.refl w4.heap.size w4) (.cells (svC (some ⟨G4, 0, none⟩) X.length X.length busy nd rank now) 29)
  have XB := heap_alloc_new w4 (.cells (svC (some ⟨G4, 0, none⟩) X.length X.length busy nd rank now) 29)
  go_upto_region 10 with fail
  replace Q := Below.then2 Q b
  replace O4 := O4.below b
  clear b
  have z4 : w4.heap.size < (w4.alloc (.cells (svC (some ⟨G4, 0, none⟩) X.length X.length busy nd rank now) 29)).heap.size := by simp
  generalize w4.alloc _ = W4 at Q O4 XB z4 ⊢
  generalize w4.heap.size = gx at O4 XB z4 q4 hH4 ⊢
  have YQ := Y.below Q
  go_wp2_with (refine frTake (f := f) (af := af) (cf := cf) YQ.fr rfl rfl rfl ?_)
  refine (toFrOwn f.id f.rm f.ln af f.D cf _ (hn.below YQ.bel) hD).mono ?_
  rintro e w5 ⟨a5, rfl, O5, b⟩
  have z5 := b.size
  have U5 := ownLtS O5
  replace Q := Below.then2 Q b
  replace XB := blkV XB b
  replace O4 := O4.below b
  clear b YQ
  have b := below_more (Below.refl w5.heap.size w5) (.cells (frC f a5 f.D.length) 43)
  have G := heap_alloc_new w5 (.cells (frC f a5 f.D.length) 43)
  go_upto_region 11 with fail
  replace Q := Below.then2 Q b
  replace XB := blkV XB b
  replace O4 := O4.below b
  replace O5 := ownInts_below O5 b
  clear b
  have z6 : w5.heap.size < (w5.alloc (.cells (frC f a5 f.D.length) 43)).heap.size := by simp
  generalize w5.alloc _ = W5 at Q XB O4 O5 G z6 ⊢
  generalize w5.heap.size = gf at G z6 z5 U5 ⊢
  have N5 := O5.nums2
  go_wp2_with (first | (refine svTakeI XB rfl rfl rfl ?_) | (refine frTakeI (f := f) (af := a5) (cf := f.D.length) G rfl rfl rfl ?_))
  refine (HI.out (some ⟨G4, 0, none⟩) X.length a5 f.D.length _ (O4.bxs hXm hXs.out) N5).mono ?_
  rintro e w6 ⟨a6, c6, L6, H6, rfl, I5, hne6, b⟩
  have z7 := b.size
  have hH6 : Hid (∀ j, j < QX.length → H6 j ≤ w6.heap.size) := Lib.hid (I5.top hne6).2
  clear N5 hne6
  replace Q := Below.then2 Q b
  replace XB := blkV XB b
  replace O4 := O4.below b
  replace O5 := ownInts_below O5 b
  replace G := blkV G b
  clear b
  have b := below_more (Below.refl w6.heap.size w6) (.cells (svC a6 QX.length c6 Qb Qn Qr QT) 29)
  have C := heap_alloc_new w6 (.cells (svC a6 QX.length c6 Qb Qn Qr QT) 29)
  go_upto_region 12 with fail
  replace Q := Below.then2 Q b
  replace XB := blkV XB b
  replace O4 := O4.below b
  replace O5 := ownInts_below O5 b
  replace G := blkV G b
  replace I5 := I5.below b
  clear b
  have z8 : w6.heap.size < (w6.alloc (.cells (svC a6 QX.length c6 Qb Qn Qr QT) 29)).heap.size := by simp
  generalize w6.alloc _ = W6 at Q XB O4 O5 G I5 C z8 ⊢
  generalize w6.heap.size = gi at *
  go_wp2_with (first | (refine svTakeI C rfl rfl rfl ?_) | (refine svTakeI ((Q.block _ hgw).trans A) rfl rfl rfl ?_))
  refine (eqSrv Adr Adr a6 a3 QX c6 c3 Qb Qn Qr QT _ (I5.bxs hQm hQs.out) (M3.below Q)).mono ?_
  rintro e w7 ⟨rfl, b⟩
  replace Q := Below.then2 Q b
  replace XB := blkV XB b
  replace O4 := O4.below b
  replace O5 := ownInts_below O5 b
  replace G := blkV G b
  replace I5 := I5.below b
  replace C := blkV C b
  clear b
  go_upto_region 14 with fail
  refine wp_region_held (S := fun u => u.heap[gx]? = some (.cells (svC (some ⟨G4, 0, none⟩) X.length X.length busy nd rank now) 29 (0, 0)) ∧ Yq ga gb a X c busy nd rank now f af cf w u) (by kernel_rfl) ?_
  have b : Below w7.heap.size w7 { w7 with drawn := w7.drawn + 1 } := (Below.refl w7.heap.size w7).drew
  replace Q := Below.then2 Q b
  replace XB := blkV XB b
  replace O4 := O4.below b
  replace O5 := ownInts_below O5 b
  replace G := blkV G b
  replace I5 := I5.below b
  replace C := blkV C b
  clear b
  generalize ({ w7 with drawn := w7.drawn + 1 } : World) = w8 at *
  have YQ := Y.below Q
  refine h_take 0 58 (svV (some ⟨G4, 0, none⟩) X.length X.length busy nd rank now) rfl rfl (by kernel_rfl) (by kernel_rfl) (by kernel_rfl) (fun _ _ _ h => h) rfl (fun u hu => sv_tookI hu.1 rfl rfl) ⟨XB, YQ⟩ ?_
  refine h_take 1 59 (svV a X.length c busy nd rank now) rfl rfl (by kernel_rfl) (by kernel_rfl) (by kernel_rfl) (fun _ _ _ h => h) rfl (fun u hu => sv_tookL hu.2.bu rfl rfl) ⟨XB, YQ⟩ ?_
  try simp only [Act.put, List.setIfInBounds_toArray, List.set_cons_zero, List.set_cons_succ]
  refine h_call 2 60 8 #[svV a X.length c busy nd rank now] rfl rfl (by kernel_rfl) rfl (by go_simp) ?_
  refine (toSrv (fun _ _ _ => True) a X c busy nd rank now _ (hm.below YQ.bel) hs).mono ?_
  rintro e w9 ⟨G9, L9, H9, rfl, O9, F9, b⟩
  replace Q := Below.then2 Q b
  replace XB := blkV XB b
  replace O4 := O4.below b
  replace O5 := ownInts_below O5 b
  replace G := blkV G b
  replace I5 := I5.below b
  replace C := blkV C b
  replace YQ := YQ.below b
  have M9 := O9.bxs hXm hXs.out
  clear b O9
  refine ⟨_, rfl, ⟨XB, YQ⟩, ?_⟩
  try simp only [Act.put, List.setIfInBounds_toArray, List.set_cons_zero, List.set_cons_succ]
  refine h_call 3 61 10 #[svV (some ⟨G4, 0, none⟩) X.length X.length busy nd rank now, svV (some ⟨G9, 0, none⟩) X.length X.length busy nd rank now] rfl rfl (by kernel_rfl) rfl (by go_simp) ?_
  refine (eqSrv Adr Adr _ _ X _ _ busy nd rank now _ (O4.bxs hXm hXs.out) M9).mono ?_
  rintro e w10 ⟨rfl, b⟩
  replace Q := Below.then2 Q b
  replace XB := blkV XB b
  replace O4 := O4.below b
  replace O5 := ownInts_below O5 b
  replace G := blkV G b
  replace I5 := I5.below b
  replace C := blkV C b
  replace YQ := YQ.below b
  clear b M9
  refine ⟨_, rfl, ⟨XB, YQ⟩, ?_⟩
  try simp only [Act.put, List.setIfInBounds_toArray, List.set_cons_zero, List.set_cons_succ]
  refine h_value 4 62 (.bool false) rfl rfl (by kernel_rfl) rfl (by go_simp) ⟨XB, YQ⟩ ?_
  refine wpAnyH_done (by kernel_rfl) ?_ _
  clear YQ
  try simp only [Act.put, List.setIfInBounds_toArray, List.set_cons_zero, List.set_cons_succ]
  go_upto_region 16 with fail
  refine wp_region_held (S := fun u => u.heap[gf]? = some (.cells (frC f a5 f.D.length) 43 (0, 0)) ∧ Yq ga gb a X c busy nd rank now f af cf w u) (by kernel_rfl) ?_
  have b : Below w10.heap.size w10 { w10 with drawn := w10.drawn + 1 } := (Below.refl w10.heap.size w10).drew
  replace Q := Below.then2 Q b
  replace XB := blkV XB b
  replace O4 := O4.below b
  replace O5 := ownInts_below O5 b
  replace G := blkV G b
  replace I5 := I5.below b
  replace C := blkV C b
  clear b
  generalize ({ w10 with drawn := w10.drawn + 1 } : World) = w11 at *
  have YQ := Y.below Q
  refine h_take 0 63 (frV f.id f.rm f.ln a5 f.D.length f.D.length) rfl rfl (by kernel_rfl) (by kernel_rfl) (by kernel_rfl) (fun _ _ _ h => h) rfl (fun u hu => frTookI (f := f) (af := a5) (cf := f.D.length) hu.1 rfl rfl) ⟨G, YQ⟩ ?_
  refine h_take 1 64 (frV f.id f.rm f.ln af f.D.length cf) rfl rfl (by kernel_rfl) (by kernel_rfl) (by kernel_rfl) (fun _ _ _ h => h) rfl (fun u hu => frTook (f := f) (af := af) (cf := cf) hu.2.fr rfl rfl) ⟨G, YQ⟩ ?_
  try simp only [Act.put, List.setIfInBounds_toArray, List.set_cons_zero, List.set_cons_succ]
  refine h_call 2 65 17 #[frV f.id f.rm f.ln af f.D.length cf] rfl rfl (by kernel_rfl) rfl (by go_simp) ?_
  refine (toFrOwn f.id f.rm f.ln af f.D cf _ (hn.below YQ.bel) hD).mono ?_
  rintro e w12 ⟨a12, rfl, O12, b⟩
  replace Q := Below.then2 Q b
  replace XB := blkV XB b
  replace O4 := O4.below b
  replace O5 := ownInts_below O5 b
  replace G := blkV G b
  replace I5 := I5.below b
  replace C := blkV C b
  replace YQ := YQ.below b
  have N12 := O12.nums2
  clear b O12
  refine ⟨_, rfl, ⟨G, YQ⟩, ?_⟩
  try simp only [Act.put, List.setIfInBounds_toArray, List.set_cons_zero, List.set_cons_succ]
  refine h_call 3 66 19 #[frV f.id f.rm f.ln a5 f.D.length f.D.length, frV f.id f.rm f.ln a12 f.D.length f.D.length] rfl rfl (by kernel_rfl) rfl (by go_simp) ?_
  refine (eqFr f.id f.rm f.ln a5 a12 f.D f.D.length f.D.length _ O5.nums2 N12).mono ?_
  rintro e w13 ⟨rfl, b⟩
  replace Q := Below.then2 Q b
  replace XB := blkV XB b
  replace O4 := O4.below b
  replace O5 := ownInts_below O5 b
  replace G := blkV G b
  replace I5 := I5.below b
  replace C := blkV C b
  replace YQ := YQ.below b
  clear b N12
  refine ⟨_, rfl, ⟨G, YQ⟩, ?_⟩
  try simp only [Act.put, List.setIfInBounds_toArray, List.set_cons_zero, List.set_cons_succ]
  refine h_value 4 67 (.bool false) rfl rfl (by kernel_rfl) rfl (by go_simp) ⟨G, YQ⟩ ?_
  refine wpAnyH_done (by kernel_rfl) ?_ _
  clear YQ
  try simp only [Act.put, List.setIfInBounds_toArray, List.set_cons_zero, List.set_cons_succ]
  have x4 := (Array.getElem?_eq_some_iff.1 XB).1
  go_wp2_with (refine svTakeI XB rfl rfl rfl ?_)
  refine (markAns W3.heap.size gx (some ⟨G4, 0, none⟩) X L4 H4 X.length busy nd rank now 1 _ ⟨.inr ⟨G4, _, rfl, O4⟩, fun G hG => (by cases hG; exact F4.1), F4.2⟩ hH4.out (by omega) (by omega) (by omega)).mono ?_
  rintro e w14 ⟨rfl, -, m⟩
  replace Q := Q.trans (m.below (Nat.le_refl _) Q.size)
  replace C := m.row C (by omega)
  replace G := m.row G (by omega)
  replace I5 := I5.sep m (.inl (by omega))
  replace O5 := O5.mid m (by omega)
  clear m XB O4
  go_wp2_with (refine frTakeI (f := f) (af := a5) (cf := f.D.length) G rfl rfl rfl ?_)
  refine (markFr W4.heap.size f.id f.rm f.ln f.D a5 f.D.length (kB 1 X X.length) _ O5 (by omega) hj0 (by omega)).mono ?_
  rintro e w15 ⟨rfl, -, gg⟩
  have m : Mid W4.heap.size gf w14 w15 := (Mid.refl W4.heap.size gf w14).grown gg (fun q hq => ⟨O5.low hq, U5 q hq⟩)
  replace Q := Q.trans (m.below (by omega) Q.size)
  replace C := m.row C (by omega)
  replace I5 := I5.sep m (.inl (by omega))
  clear m gg O5 G
  go_wp2_with (first | (refine svTakeI C rfl rfl rfl ?_) | (refine svTakeI ((Q.block _ hgw).trans A) rfl rfl rfl ?_))
  refine (eqSrv Adr Adr a6 a3 QX c6 c3 Qb Qn Qr QT _ (I5.bxs hQm hQs.out) (M3.below Q)).mono ?_
  rintro e w16 ⟨rfl, b⟩
  replace Q := Below.then2 Q b
  replace I5 := I5.below b
  replace C := blkV C b
  clear b
  have c16 := (Array.getElem?_eq_some_iff.1 C).1
  go_wp2_with (refine svTakeI C rfl rfl rfl ?_)
  refine (markAns W5.heap.size gi a6 QX L6 H6 c6 Qb Qn Qr QT 1 _ I5 hH6.out hQr2 (by omega) (by omega)).mono ?_
  rintro e w17 ⟨rfl, I9, m⟩
  replace Q := Q.trans (m.below (by omega) Q.size)
  replace C := m.row C (Nat.le_refl _)
  clear m I5
  go_wp2_with (refine svTakeI C rfl rfl rfl ?_)
  refine (heldSrv Adr a6 QX c6 Qb Qn Qr QT 1 _ (by have h := I9.bxs hQmx hQx2.out; exact h) hQr2 (by omega) (by omega)).mono ?_
  rintro e w18 ⟨rfl, b⟩
  replace Q := Below.then2 Q b
  replace I9 := I9.below b
  replace C := blkV C b
  clear b
  have YQ := Y.below Q
  go_upto_region 31 with fail
  go_cut [17, 18] (fun s8 s9 wx => ∃ (g : Nat) (a2 : Option Addr) (c2 : Nat), s8 = .pointer (some ⟨g, 0, none⟩) ∧ s9 = .int .i64 QK ∧ wx.heap[g]? = some (.cells (svC a2 QX.length c2 Qb Qn Qr QT) 29 (0, 0)) ∧ Bxs Adr a2 QX wx ∧ Below w18.heap.size w18 wx)
  case first =>
    refine wp_region_held (S := fun u => Yq ga gb a X c busy nd rank now f af cf w u) (by kernel_rfl) ?_
    have B0 : Below w18.heap.size w18 { w18 with drawn := w18.drawn + 1 } := (Below.refl _ _).drew
    generalize ({ w18 with drawn := w18.drawn + 1 } : World) = v0 at B0 ⊢
    refine h_take 0 99 (svV a X.length c busy nd rank now) rfl rfl (by kernel_rfl) (by kernel_rfl) (by kernel_rfl) (fun _ _ _ h => h) rfl (fun u hu => sv_tookL hu.bu rfl rfl) (YQ.below B0) ?_
    refine h_take 2 101 (.int .i64 node) rfl rfl (by kernel_rfl) (by kernel_rfl) (by kernel_rfl) (fun _ _ _ h => h) rfl (fun u hu => by go_simp) (YQ.below B0) ?_
    refine h_take 3 102 (frV f.id f.rm f.ln af f.D.length cf) rfl rfl (by kernel_rfl) (by kernel_rfl) (by kernel_rfl) (fun _ _ _ h => h) rfl (fun u hu => frTook (f := f) (af := af) (cf := cf) hu.fr rfl rfl) (YQ.below B0) ?_
    try simp only [Act.put, List.setIfInBounds_toArray, List.set_cons_zero, List.set_cons_succ]
    refine held_fork 1 9 (by kernel_rfl) (op_at rfl) (op_at rfl) rfl rfl ?pp20 ?pp21
    case pp20 =>
      refine call_wp 8 #[svV a X.length c busy nd rank now] (by go_simp) ?_
      refine (toSrv (fun _ _ _ => True) a X c busy nd rank now _ (hm.below (YQ.below B0).bel) hs).mono ?_
      rintro e u22 ⟨G1, L1, H1, rfl, O1, F1, b⟩
      replace B0 := Below.then2 B0 b
      have P1 := O1.bxs hXm hXs.out
      clear b O1
      refine ⟨_, rfl, (YQ.below B0), ?_⟩
      try simp only [Act.put, List.setIfInBounds_toArray, List.set_cons_zero, List.set_cons_succ]
      refine held_fork 4 9 (by kernel_rfl) (op_at rfl) (op_at rfl) rfl rfl ?pp23 ?pp24
      case pp23 =>
        refine call_wp 17 #[frV f.id f.rm f.ln af f.D.length cf] (by go_simp) ?_
        refine (toFrOwn f.id f.rm f.ln af f.D cf _ (hn.below (YQ.below B0).bel) hD).mono ?_
        rintro e u25 ⟨a1, rfl, O3, b⟩
        replace B0 := Below.then2 B0 b
        replace P1 := P1.below b
        have N1 := O3.nums2
        clear b O3
        refine ⟨_, rfl, (YQ.below B0), ?_⟩
        try simp only [Act.put, List.setIfInBounds_toArray, List.set_cons_zero, List.set_cons_succ]
        refine held_fork 5 9 (by kernel_rfl) (op_at rfl) (op_at rfl) rfl rfl ?pp26 ?pp27
        case pp26 =>
          refine call_wp 18 #[svV (some ⟨G1, 0, none⟩) X.length X.length busy nd rank now, .int .i64 node, frV f.id f.rm f.ln a1 f.D.length f.D.length] (by go_simp) ?_
          refine (HI.out (some ⟨G1, 0, none⟩) X.length a1 f.D.length _ P1 N1).mono ?_
          rintro e u28 ⟨a2, c2, L2, H2, rfl, I2, hne, b⟩
          have hi2 := b.size
          replace B0 := Below.then2 B0 b
          clear b
          refine ⟨_, rfl, (YQ.below B0), ?_⟩
          try simp only [Act.put, List.setIfInBounds_toArray, List.set_cons_zero, List.set_cons_succ]
          refine h_take 6 98 (.tuple #[svV a2 QX.length c2 Qb Qn Qr QT, .int .i64 QK]) rfl rfl (by kernel_rfl) (by kernel_rfl) (by kernel_rfl) (fun _ _ _ h => h) rfl (fun u hu => by go_simp) (YQ.below B0) ?_
          try simp only [Act.put, List.setIfInBounds_toArray, List.set_cons_zero, List.set_cons_succ]
          refine h_take 7 105 (svV a2 QX.length c2 Qb Qn Qr QT) rfl rfl (by kernel_rfl) (by kernel_rfl) (by kernel_rfl) (fun _ _ _ h => h) rfl (fun u hu => by go_simp) (YQ.below B0) ?_
          try simp only [Act.put, List.setIfInBounds_toArray, List.set_cons_zero, List.set_cons_succ]
          refine h_take 8 106 (.int .i64 QK) rfl rfl (by kernel_rfl) (by kernel_rfl) (by kernel_rfl) (fun _ _ _ h => h) rfl (fun u hu => by go_simp) (YQ.below B0) ?_
          try simp only [Act.put, List.setIfInBounds_toArray, List.set_cons_zero, List.set_cons_succ]
          refine h_new 9 17 (.pointer (some ⟨u28.heap.size, 0, none⟩)) (u28.alloc (.cells (svC none 0 0 0 0 0 0) 29)) rfl rfl (by kernel_rfl) rfl (by go_simp) ?_
          have AL := heap_alloc_new u28 (.cells (svC none 0 0 0 0 0 0) 29)
          have b := below_more (Below.refl u28.heap.size u28) (.cells (svC none 0 0 0 0 0 0) 29)
          have hg0 : w18.heap.size ≤ u28.heap.size := B0.size
          replace B0 := Below.then2 B0 b
          have hTop := I2.top hne
          replace I2 := I2.below b
          clear b
          have ltal := (Array.getElem?_eq_some_iff.1 AL).1
          generalize u28.alloc _ = u29 at B0 AL ltal I2 ⊢
          generalize hgal : u28.heap.size = gal at AL ltal hg0 ⊢
          have hal := Nat.le_of_eq hgal
          refine ⟨YQ.below B0, ?_⟩
          try simp only [Act.put, List.setIfInBounds_toArray, List.set_cons_zero, List.set_cons_succ]
          have B1 : Below w18.heap.size w18 (u29.setRow gal (svC a2 QX.length c2 Qb Qn Qr QT)) := below_setRow B0 hg0 (svC a2 QX.length c2 Qb Qn Qr QT)
          refine h_putS 10 gal (a2 := a2) (len := QX.length) (c2 := c2) (busy := Qb) (node := Qn) (rank := Qr) (now := QT) rfl rfl (by kernel_rfl) rfl rfl rfl rfl AL rfl (YQ.below B1) ?_
          have hA2 := (I2.sep2 (mid_setRowS _ gal (svC a2 QX.length c2 Qb Qn Qr QT)) hTop (.inr hal))
          have M2 : Bxs Adr a2 QX (u29.setRow gal (svC a2 QX.length c2 Qb Qn Qr QT)) := hA2.bxs hQm hQs.out
          have AR : (u29.setRow gal (svC a2 QX.length c2 Qb Qn Qr QT)).heap[gal]? = some (.cells (svC a2 QX.length c2 Qb Qn Qr QT) 29 (0, 0)) := setRow_heap _ _ _ _ _ _ AL
          refine h_value 11 18 (.int .i64 QK) rfl rfl (by kernel_rfl) rfl (by go_simp) (YQ.below B1) ?_
          refine wpAnyH_done (by kernel_rfl) ?_ _
          try simp only [Act.put, List.setIfInBounds_toArray, List.set_cons_zero, List.set_cons_succ]
          clear I2 AL ltal hal
          go_wp2_with fail
          go_meet
          exact ⟨gal, a2, c2, rfl, rfl, AR, M2, B1⟩
        case pp27 =>
          refine value_wp (.pointer (some ⟨u25.heap.size, 0, none⟩)) (u25.alloc (.cells (svC none 0 0 0 0 0 0) 29)) (by go_simp) ?_
          have AL := heap_alloc_new u25 (.cells (svC none 0 0 0 0 0 0) 29)
          have b := below_more (Below.refl u25.heap.size u25) (.cells (svC none 0 0 0 0 0 0) 29)
          have hg0 : w18.heap.size ≤ u25.heap.size := B0.size
          replace B0 := Below.then2 B0 b
          replace P1 := P1.below b
          replace N1 := N1.below b
          clear b
          have ltal := (Array.getElem?_eq_some_iff.1 AL).1
          generalize u25.alloc _ = u30 at B0 AL ltal P1 N1 ⊢
          generalize hgal : u25.heap.size = gal at AL ltal hg0 ⊢
          refine ⟨YQ.below B0, ?_⟩
          try simp only [Act.put, List.setIfInBounds_toArray, List.set_cons_zero, List.set_cons_succ]
          have hal := ltal
          refine h_call 5 104 18 #[svV (some ⟨G1, 0, none⟩) X.length X.length busy nd rank now, .int .i64 node, frV f.id f.rm f.ln a1 f.D.length f.D.length] rfl rfl (by kernel_rfl) rfl (by go_simp) ?_
          refine (HI.out (some ⟨G1, 0, none⟩) X.length a1 f.D.length _ P1 N1).mono ?_
          rintro e u31 ⟨a2, c2, L2, H2, rfl, I2, hne, b⟩
          have hi2 := b.size
          replace B0 := Below.then2 B0 b
          replace AL := (b.block _ ltal).trans AL
          replace ltal := Nat.lt_of_lt_of_le ltal b.size
          clear b
          refine ⟨_, rfl, (YQ.below B0), ?_⟩
          try simp only [Act.put, List.setIfInBounds_toArray, List.set_cons_zero, List.set_cons_succ]
          refine h_take 6 98 (.tuple #[svV a2 QX.length c2 Qb Qn Qr QT, .int .i64 QK]) rfl rfl (by kernel_rfl) (by kernel_rfl) (by kernel_rfl) (fun _ _ _ h => h) rfl (fun u hu => by go_simp) (YQ.below B0) ?_
          try simp only [Act.put, List.setIfInBounds_toArray, List.set_cons_zero, List.set_cons_succ]
          refine h_take 7 105 (svV a2 QX.length c2 Qb Qn Qr QT) rfl rfl (by kernel_rfl) (by kernel_rfl) (by kernel_rfl) (fun _ _ _ h => h) rfl (fun u hu => by go_simp) (YQ.below B0) ?_
          try simp only [Act.put, List.setIfInBounds_toArray, List.set_cons_zero, List.set_cons_succ]
          refine h_take 8 106 (.int .i64 QK) rfl rfl (by kernel_rfl) (by kernel_rfl) (by kernel_rfl) (fun _ _ _ h => h) rfl (fun u hu => by go_simp) (YQ.below B0) ?_
          try simp only [Act.put, List.setIfInBounds_toArray, List.set_cons_zero, List.set_cons_succ]
          have B1 : Below w18.heap.size w18 (u31.setRow gal (svC a2 QX.length c2 Qb Qn Qr QT)) := below_setRow B0 hg0 (svC a2 QX.length c2 Qb Qn Qr QT)
          refine h_putS 10 gal (a2 := a2) (len := QX.length) (c2 := c2) (busy := Qb) (node := Qn) (rank := Qr) (now := QT) rfl rfl (by kernel_rfl) rfl rfl rfl rfl AL rfl (YQ.below B1) ?_
          have hA2 := (I2.sep (mid_setRowS _ gal (svC a2 QX.length c2 Qb Qn Qr QT)) (.inl hal))
          have M2 : Bxs Adr a2 QX (u31.setRow gal (svC a2 QX.length c2 Qb Qn Qr QT)) := hA2.bxs hQm hQs.out
          have AR : (u31.setRow gal (svC a2 QX.length c2 Qb Qn Qr QT)).heap[gal]? = some (.cells (svC a2 QX.length c2 Qb Qn Qr QT) 29 (0, 0)) := setRow_heap _ _ _ _ _ _ AL
          refine h_value 11 18 (.int .i64 QK) rfl rfl (by kernel_rfl) rfl (by go_simp) (YQ.below B1) ?_
          refine wpAnyH_done (by kernel_rfl) ?_ _
          try simp only [Act.put, List.setIfInBounds_toArray, List.set_cons_zero, List.set_cons_succ]
          clear I2 AL ltal hal
          go_wp2_with fail
          go_meet
          exact ⟨gal, a2, c2, rfl, rfl, AR, M2, B1⟩
      case pp24 =>
        refine value_wp (.pointer (some ⟨u22.heap.size, 0, none⟩)) (u22.alloc (.cells (svC none 0 0 0 0 0 0) 29)) (by go_simp) ?_
        have AL := heap_alloc_new u22 (.cells (svC none 0 0 0 0 0 0) 29)
        have b := below_more (Below.refl u22.heap.size u22) (.cells (svC none 0 0 0 0 0 0) 29)
        have hg0 : w18.heap.size ≤ u22.heap.size := B0.size
        replace B0 := Below.then2 B0 b
        replace P1 := P1.below b
        clear b
        have ltal := (Array.getElem?_eq_some_iff.1 AL).1
        generalize u22.alloc _ = u32 at B0 AL ltal P1 ⊢
        generalize hgal : u22.heap.size = gal at AL ltal hg0 ⊢
        refine ⟨YQ.below B0, ?_⟩
        try simp only [Act.put, List.setIfInBounds_toArray, List.set_cons_zero, List.set_cons_succ]
        refine h_call 4 103 17 #[frV f.id f.rm f.ln af f.D.length cf] rfl rfl (by kernel_rfl) rfl (by go_simp) ?_
        refine (toFrOwn f.id f.rm f.ln af f.D cf _ (hn.below (YQ.below B0).bel) hD).mono ?_
        rintro e u33 ⟨a1, rfl, O3, b⟩
        replace B0 := Below.then2 B0 b
        replace AL := (b.block _ ltal).trans AL
        replace ltal := Nat.lt_of_lt_of_le ltal b.size
        replace P1 := P1.below b
        have N1 := O3.nums2
        clear b O3
        refine ⟨_, rfl, (YQ.below B0), ?_⟩
        try simp only [Act.put, List.setIfInBounds_toArray, List.set_cons_zero, List.set_cons_succ]
        have hal := ltal
        refine h_call 5 104 18 #[svV (some ⟨G1, 0, none⟩) X.length X.length busy nd rank now, .int .i64 node, frV f.id f.rm f.ln a1 f.D.length f.D.length] rfl rfl (by kernel_rfl) rfl (by go_simp) ?_
        refine (HI.out (some ⟨G1, 0, none⟩) X.length a1 f.D.length _ P1 N1).mono ?_
        rintro e u34 ⟨a2, c2, L2, H2, rfl, I2, hne, b⟩
        have hi2 := b.size
        replace B0 := Below.then2 B0 b
        replace AL := (b.block _ ltal).trans AL
        replace ltal := Nat.lt_of_lt_of_le ltal b.size
        clear b
        refine ⟨_, rfl, (YQ.below B0), ?_⟩
        try simp only [Act.put, List.setIfInBounds_toArray, List.set_cons_zero, List.set_cons_succ]
        refine h_take 6 98 (.tuple #[svV a2 QX.length c2 Qb Qn Qr QT, .int .i64 QK]) rfl rfl (by kernel_rfl) (by kernel_rfl) (by kernel_rfl) (fun _ _ _ h => h) rfl (fun u hu => by go_simp) (YQ.below B0) ?_
        try simp only [Act.put, List.setIfInBounds_toArray, List.set_cons_zero, List.set_cons_succ]
        refine h_take 7 105 (svV a2 QX.length c2 Qb Qn Qr QT) rfl rfl (by kernel_rfl) (by kernel_rfl) (by kernel_rfl) (fun _ _ _ h => h) rfl (fun u hu => by go_simp) (YQ.below B0) ?_
        try simp only [Act.put, List.setIfInBounds_toArray, List.set_cons_zero, List.set_cons_succ]
        refine h_take 8 106 (.int .i64 QK) rfl rfl (by kernel_rfl) (by kernel_rfl) (by kernel_rfl) (fun _ _ _ h => h) rfl (fun u hu => by go_simp) (YQ.below B0) ?_
        try simp only [Act.put, List.setIfInBounds_toArray, List.set_cons_zero, List.set_cons_succ]
        have B1 : Below w18.heap.size w18 (u34.setRow gal (svC a2 QX.length c2 Qb Qn Qr QT)) := below_setRow B0 hg0 (svC a2 QX.length c2 Qb Qn Qr QT)
        refine h_putS 10 gal (a2 := a2) (len := QX.length) (c2 := c2) (busy := Qb) (node := Qn) (rank := Qr) (now := QT) rfl rfl (by kernel_rfl) rfl rfl rfl rfl AL rfl (YQ.below B1) ?_
        have hA2 := (I2.sep (mid_setRowS _ gal (svC a2 QX.length c2 Qb Qn Qr QT)) (.inl hal))
        have M2 : Bxs Adr a2 QX (u34.setRow gal (svC a2 QX.length c2 Qb Qn Qr QT)) := hA2.bxs hQm hQs.out
        have AR : (u34.setRow gal (svC a2 QX.length c2 Qb Qn Qr QT)).heap[gal]? = some (.cells (svC a2 QX.length c2 Qb Qn Qr QT) 29 (0, 0)) := setRow_heap _ _ _ _ _ _ AL
        refine h_value 11 18 (.int .i64 QK) rfl rfl (by kernel_rfl) rfl (by go_simp) (YQ.below B1) ?_
        refine wpAnyH_done (by kernel_rfl) ?_ _
        try simp only [Act.put, List.setIfInBounds_toArray, List.set_cons_zero, List.set_cons_succ]
        clear I2 AL ltal hal
        go_wp2_with fail
        go_meet
        exact ⟨gal, a2, c2, rfl, rfl, AR, M2, B1⟩
    case pp21 =>
      refine value_wp (.pointer (some ⟨v0.heap.size, 0, none⟩)) (v0.alloc (.cells (svC none 0 0 0 0 0 0) 29)) (by go_simp) ?_
      have AL := heap_alloc_new v0 (.cells (svC none 0 0 0 0 0 0) 29)
      have b := below_more (Below.refl v0.heap.size v0) (.cells (svC none 0 0 0 0 0 0) 29)
      have hg0 : w18.heap.size ≤ v0.heap.size := B0.size
      replace B0 := Below.then2 B0 b
      clear b
      have ltal := (Array.getElem?_eq_some_iff.1 AL).1
      generalize v0.alloc _ = u35 at B0 AL ltal ⊢
      generalize hgal : v0.heap.size = gal at AL ltal hg0 ⊢
      refine ⟨YQ.below B0, ?_⟩
      try simp only [Act.put, List.setIfInBounds_toArray, List.set_cons_zero, List.set_cons_succ]
      refine h_call 1 100 8 #[svV a X.length c busy nd rank now] rfl rfl (by kernel_rfl) rfl (by go_simp) ?_
      refine (toSrv (fun _ _ _ => True) a X c busy nd rank now _ (hm.below (YQ.below B0).bel) hs).mono ?_
      rintro e u36 ⟨G1, L1, H1, rfl, O1, F1, b⟩
      replace B0 := Below.then2 B0 b
      replace AL := (b.block _ ltal).trans AL
      replace ltal := Nat.lt_of_lt_of_le ltal b.size
      have P1 := O1.bxs hXm hXs.out
      clear b O1
      refine ⟨_, rfl, (YQ.below B0), ?_⟩
      try simp only [Act.put, List.setIfInBounds_toArray, List.set_cons_zero, List.set_cons_succ]
      refine h_call 4 103 17 #[frV f.id f.rm f.ln af f.D.length cf] rfl rfl (by kernel_rfl) rfl (by go_simp) ?_
      refine (toFrOwn f.id f.rm f.ln af f.D cf _ (hn.below (YQ.below B0).bel) hD).mono ?_
      rintro e u37 ⟨a1, rfl, O3, b⟩
      replace B0 := Below.then2 B0 b
      replace AL := (b.block _ ltal).trans AL
      replace ltal := Nat.lt_of_lt_of_le ltal b.size
      replace P1 := P1.below b
      have N1 := O3.nums2
      clear b O3
      refine ⟨_, rfl, (YQ.below B0), ?_⟩
      try simp only [Act.put, List.setIfInBounds_toArray, List.set_cons_zero, List.set_cons_succ]
      have hal := ltal
      refine h_call 5 104 18 #[svV (some ⟨G1, 0, none⟩) X.length X.length busy nd rank now, .int .i64 node, frV f.id f.rm f.ln a1 f.D.length f.D.length] rfl rfl (by kernel_rfl) rfl (by go_simp) ?_
      refine (HI.out (some ⟨G1, 0, none⟩) X.length a1 f.D.length _ P1 N1).mono ?_
      rintro e u38 ⟨a2, c2, L2, H2, rfl, I2, hne, b⟩
      have hi2 := b.size
      replace B0 := Below.then2 B0 b
      replace AL := (b.block _ ltal).trans AL
      replace ltal := Nat.lt_of_lt_of_le ltal b.size
      clear b
      refine ⟨_, rfl, (YQ.below B0), ?_⟩
      try simp only [Act.put, List.setIfInBounds_toArray, List.set_cons_zero, List.set_cons_succ]
      refine h_take 6 98 (.tuple #[svV a2 QX.length c2 Qb Qn Qr QT, .int .i64 QK]) rfl rfl (by kernel_rfl) (by kernel_rfl) (by kernel_rfl) (fun _ _ _ h => h) rfl (fun u hu => by go_simp) (YQ.below B0) ?_
      try simp only [Act.put, List.setIfInBounds_toArray, List.set_cons_zero, List.set_cons_succ]
      refine h_take 7 105 (svV a2 QX.length c2 Qb Qn Qr QT) rfl rfl (by kernel_rfl) (by kernel_rfl) (by kernel_rfl) (fun _ _ _ h => h) rfl (fun u hu => by go_simp) (YQ.below B0) ?_
      try simp only [Act.put, List.setIfInBounds_toArray, List.set_cons_zero, List.set_cons_succ]
      refine h_take 8 106 (.int .i64 QK) rfl rfl (by kernel_rfl) (by kernel_rfl) (by kernel_rfl) (fun _ _ _ h => h) rfl (fun u hu => by go_simp) (YQ.below B0) ?_
      try simp only [Act.put, List.setIfInBounds_toArray, List.set_cons_zero, List.set_cons_succ]
      have B1 : Below w18.heap.size w18 (u38.setRow gal (svC a2 QX.length c2 Qb Qn Qr QT)) := below_setRow B0 hg0 (svC a2 QX.length c2 Qb Qn Qr QT)
      refine h_putS 10 gal (a2 := a2) (len := QX.length) (c2 := c2) (busy := Qb) (node := Qn) (rank := Qr) (now := QT) rfl rfl (by kernel_rfl) rfl rfl rfl rfl AL rfl (YQ.below B1) ?_
      have hA2 := (I2.sep (mid_setRowS _ gal (svC a2 QX.length c2 Qb Qn Qr QT)) (.inl hal))
      have M2 : Bxs Adr a2 QX (u38.setRow gal (svC a2 QX.length c2 Qb Qn Qr QT)) := hA2.bxs hQm hQs.out
      have AR : (u38.setRow gal (svC a2 QX.length c2 Qb Qn Qr QT)).heap[gal]? = some (.cells (svC a2 QX.length c2 Qb Qn Qr QT) 29 (0, 0)) := setRow_heap _ _ _ _ _ _ AL
      refine h_value 11 18 (.int .i64 QK) rfl rfl (by kernel_rfl) rfl (by go_simp) (YQ.below B1) ?_
      refine wpAnyH_done (by kernel_rfl) ?_ _
      try simp only [Act.put, List.setIfInBounds_toArray, List.set_cons_zero, List.set_cons_succ]
      clear I2 AL ltal hal
      go_wp2_with fail
      go_meet
      exact ⟨gal, a2, c2, rfl, rfl, AR, M2, B1⟩
  case rest =>
  obtain ⟨gj, a19, c19, rfl, rfl, D, M19, b⟩ := hcut
  generalize wc = w19 at *
  replace Q := Below.then2 Q b
  replace C := blkV C b
  replace I9 := I9.below b
  clear b YQ
  go_wp2_with (first | (refine svTakeI D rfl rfl rfl ?_) | (refine svTakeI ((Q.block _ hgw).trans A) rfl rfl rfl ?_))
  refine (eqSrv Adr Adr a19 a3 QX c19 c3 Qb Qn Qr QT _ M19 (M3.below Q)).mono ?_
  rintro e w20 ⟨rfl, b⟩
  replace Q := Below.then2 Q b
  replace I9 := I9.below b
  replace C := blkV C b
  clear b M19 D
  go_wp2_with (refine svTakeI C rfl rfl rfl ?_)
  refine (heldSrv Adr a6 QX c6 Qb Qn Qr QT 1 _ (by have h := I9.bxs hQmx hQx2.out; exact h) hQr2 (by omega) (by omega)).mono ?_
  rintro e w21 ⟨rfl, b⟩
  replace Q := Below.then2 Q b
  have hb := (Y.below Q).bel
  clear b C I9
  go_wp2_with fail
  go_ret
  exact ⟨rfl, hb⟩
end Go.Proofs.Ytpefcbpapmfejaa

/- impl.NewServer; the walks of laws.FnExactServerOk and FnExactNewServer. -/

set_option linter.unusedVariables false
set_option linter.unusedSimpArgs false
namespace Go.Proofs.Ytpefcbpapmfejaa
open Go.RowKit

def PuB (s : Srv) (w : World) (e : Ending) (w' : World) : Prop :=
  ∃ G L H, e = .returned (.tuple #[svV (some ⟨G, 0, none⟩) s.bx.length s.bx.length s.busy s.node s.rank s.now, .bool true]) ∧ BoxO True G s.bx.length (fun j => j < s.bx.length) s.bx L H w' ∧ FromB w.heap.size G s.bx.length L ∧ Below w.heap.size w w'
set_option maxHeartbeats 4000000 in
/-- impl.NewServer. -/
theorem implNewServer (n : Int) (w : World) :
    Calls Try.prog 12 #[.int .i64 n] w fun e w' => (rng n 2 6 = false → e = .returned (.tuple #[svV none 0 0 0 0 0 0, .bool false]) ∧ Below w.heap.size w w') ∧ (rng n 2 6 = true → PuB (newS n) w e w') := by
  obtain ⟨HR, B⟩ := one_sv w (svC none 0 0 0 0 0 0) 29
  have hz : (w.alloc (.cells (svC none 0 0 0 0 0 0) 29)).heap.size = w.heap.size + 1 := by simp
  go_enter Try.func12, Try.ntmps12
  go_upto_region 1 with fail
  generalize w.alloc _ = W at HR B hz ⊢
  go_wp2_with fail
  refine (implWithin _ _ _ _).mono ?_
  rintro e w1 ⟨rfl, rfl⟩
  cases hr : rng n 2 6
  · have e0 := cell_of_row W w.heap.size 0 _ _ _ HR
    have e1 := cell_of_row W w.heap.size 1 _ _ _ HR
    have e2 := cell_of_row W w.heap.size 2 _ _ _ HR
    have e3 := cell_of_row W w.heap.size 3 _ _ _ HR
    have e4 := cell_of_row W w.heap.size 4 _ _ _ HR
    have k0 := frozen_of_row W w.heap.size 0 _ _ HR
    have k1 := frozen_of_row W w.heap.size 1 _ _ HR
    have k2 := frozen_of_row W w.heap.size 2 _ _ HR
    have k3 := frozen_of_row W w.heap.size 3 _ _ HR
    have k4 := frozen_of_row W w.heap.size 4 _ _ HR
    replace hr := Lib.hid hr
    go_wp2_with fail
    obtain ⟨h5, m⟩ := set5 HR (.slice none 0 0) (.int .i64 0) (.int .i64 0) (.int .i64 0) (.int .i64 0)
    clear e0 e1 e2 e3 e4 k0 k1 k2 k3 k4
    generalize World.setCell _ _ _ = w5 at h5 m ⊢
    refine bodyPost_ret (v := .tuple #[svV none 0 0 0 0 0 0, .bool false]) ?_ rfl ⟨fun _ => ⟨rfl, B.trans (m.below (by omega) B.size)⟩, fun h => absurd h (by rw [hr.out]; simp)⟩
    exact results_srv Try.results12 _ _ w.heap.size _ _ rfl rfl h5 rfl
  · have h26 := rng_iff.1 hr
    obtain ⟨k, rfl⟩ : ∃ k : Nat, n = (k : Int) := ⟨n.toNat, by omega⟩
    replace hr := Lib.hid hr
    have hmk := make_boxes k (by omega)
    go_upto_region 3 with fail
    have e0 := cell_of_row _ w.heap.size 0 _ _ _ HR
    have e1 := cell_of_row _ w.heap.size 1 _ _ _ HR
    have e2 := cell_of_row _ w.heap.size 2 _ _ _ HR
    have e3 := cell_of_row _ w.heap.size 3 _ _ _ HR
    have e4 := cell_of_row _ w.heap.size 4 _ _ _ HR
    have k0 := frozen_of_row _ w.heap.size 0 _ _ HR
    have k1 := frozen_of_row _ w.heap.size 1 _ _ HR
    have k2 := frozen_of_row _ w.heap.size 2 _ _ HR
    have k3 := frozen_of_row _ w.heap.size 3 _ _ HR
    have k4 := frozen_of_row _ w.heap.size 4 _ _ HR
    go_wp2_with fail
    clear e0 e1 e2 e3 e4 k0 k1 k2 k3 k4 hmk
    obtain ⟨h5, m⟩ := set5 HR (.slice (some ⟨w.heap.size + 1, 0, none⟩) k k) (.int .i64 0) (.int .i64 0) (.int .i64 0) (.int .i64 0)
    have hsz : (((((W.setCell ⟨w.heap.size, 0, none⟩ (.slice (some ⟨w.heap.size + 1, 0, none⟩) k k)).setCell ⟨w.heap.size, 1, none⟩ (.int .i64 0)).setCell ⟨w.heap.size, 2, none⟩ (.int .i64 0)).setCell ⟨w.heap.size, 3, none⟩ (.int .i64 0)).setCell ⟨w.heap.size, 4, none⟩ (.int .i64 0)).heap.size = w.heap.size + 1 := by simpa using hz
    generalize World.setCell _ _ _ = W5 at h5 m hsz ⊢
    have ba := below_more (Below.refl W5.heap.size W5) (.cells (madeCells #[.slice none 0 0] k) 51)
    have hG := heap_alloc_new W5 (.cells (madeCells #[.slice none 0 0] k) 51)
    have hza : (W5.alloc (.cells (madeCells #[.slice none 0 0] k) 51)).heap.size = w.heap.size + 2 := by simp; omega
    rw [hsz] at hG
    have B1 := Below.then2 (B.trans (m.below (B := w.heap.size) (Nat.le_refl _) B.size)) ba
    have h6 := blkV h5 ba
    have hl : (newS (k : Int)).bx.length = k := by rw [newS_len]; omega
    clear ba h5 m hsz HR B hz
    generalize W5.alloc _ = W6 at hG hza B1 h6 ⊢
    refine bodyPost_ret (v := .tuple #[svV (some ⟨w.heap.size + 1, 0, none⟩) k k 0 0 0 0, .bool true]) ?_ rfl ⟨fun h => absurd h (by rw [hr.out]; simp), fun _ => ⟨w.heap.size + 1, fun _ => w.heap.size + 1, fun _ => w.heap.size + 1, by rw [hl]; rfl, ⟨⟨_, hG, by rw [hl]; simp [madeCells], fun j hj => ⟨.slice none 0 0, ?_, by rw [newS_nth]; exact OwnX.nil _ _ _ _⟩⟩, fun j hj => ⟨Nat.le_refl _, (show w.heap.size + 1 ≤ W6.heap.size by omega), .inr (Nat.le_refl _)⟩, fun i j hi hj hij => .inl (Nat.le_refl _)⟩, ⟨by omega, fun j hj => Nat.le_succ _⟩, B1⟩⟩
    · exact results_srv Try.results12 _ _ w.heap.size _ _ rfl rfl h6 rfl
    · rw [hl] at hj
      rw [← Array.getElem?_toList, toList_madeCells_one, List.getElem?_replicate, if_pos hj]
set_option maxHeartbeats 4000000 in
set_option maxRecDepth 20000 in
theorem walkFnExactServerOk (a : Option Addr) (X : List (List Frm)) (c : Nat) (busy node rank now : Int) (w : World) (hm : Bxs (fun _ _ _ => True) a X w) :
    Calls Try.prog 3 #[svV a X.length c busy node rank now] w fun e w' => e = .returned (.bool true) ∧ Below w.heap.size w w' := by
  obtain ⟨HC, B⟩ := one_sv w (svC a X.length c busy node rank now) 24
  go_enter Try.func3, Try.ntmps3
  go_upto_region 1 with fail
  generalize World.alloc _ _ = W at HC B ⊢
  generalize w.heap.size = ga at HC ⊢
  go_wp2_with (refine svTakeL HC rfl rfl rfl ?_)
  refine (szSrvAny (fun _ _ _ => True) a X c busy node rank now 1048576 _ (hm.below B) (by omega) (by omega)).mono ?_
  rintro e w1 ⟨hz | hz, b⟩
  case inr =>
    obtain ⟨hz, rfl⟩ := hz
    have hb := Below.then2 B b
    clear HC
    go_wp2_with fail
    go_ret
    exact ⟨rfl, hb⟩
  obtain ⟨hz, rfl⟩ := hz
  have hs : roomX X ≤ 1048576 := by omega
  have hl2 : ¬ (1048576 : Int) - roomX X < 0 := by omega
  have hXm : X.length ≤ 2000000 := by unfold roomX at hs; omega
  have hXs : Hid (∀ j, j < X.length → (nthB X j).length ≤ 2000000) := Lib.hid fun j hj => by have := sumX_at X hj; unfold roomX at hs; omega
  replace HC := blkV HC b
  replace B := Below.then2 B b
  clear b hz
  go_wp2_with (refine svTakeL HC rfl rfl rfl ?_)
  refine (toSrv (fun _ _ _ => True) a X c busy node rank now _ (hm.below B) hs).mono ?_
  rintro e w2 ⟨G2, L2, H2, rfl, O2, F2, b⟩
  replace HC := blkV HC b
  replace B := Below.then2 B b
  have M2 := O2.bxs hXm hXs.out
  clear b O2
  go_wp2_with fail
  refine (specServerOk Adr _ X _ busy node rank now _ M2).mono ?_
  rintro e w3 ⟨rfl, b⟩
  replace HC := blkV HC b
  replace B := Below.then2 B b
  clear b M2
  go_wp2_with (refine svTakeL HC rfl rfl rfl ?_)
  refine (toSrv (fun _ _ _ => True) a X c busy node rank now _ (hm.below B) hs).mono ?_
  rintro e w4 ⟨G4, L4, H4, rfl, O4, F4, b⟩
  replace HC := blkV HC b
  replace B := Below.then2 B b
  have M4 := O4.bxs hXm hXs.out
  clear b O4
  obtain ⟨HX, b⟩ := one_sv w4 (svC (some ⟨G4, 0, none⟩) X.length X.length busy node rank now) 29
  replace HC := blkV HC b
  replace B := Below.then2 B b
  replace M4 := M4.below b
  clear b
  go_upto_region 7 with fail
  generalize w4.alloc _ = W4 at HX HC B M4 ⊢
  generalize w4.heap.size = gx at HX ⊢
  go_wp2_with (refine svTakeI HX rfl rfl rfl ?_)
  refine (implServerOk Adr _ X _ busy node rank now _ M4).mono ?_
  rintro e w5 ⟨rfl, b⟩
  replace HC := blkV HC b
  replace HX := blkV HX b
  replace B := Below.then2 B b
  replace M4 := M4.below b
  clear b
  generalize srvB ⟨X, busy, node, rank, now⟩ = v at *
  go_upto_region 10 with fail
  refine wp_region_held (S := fun u => u.heap[gx]? = some (.cells (svC (some ⟨G4, 0, none⟩) X.length X.length busy node rank now) 29 (0, 0)) ∧ u.heap[ga]? = some (.cells (svC a X.length c busy node rank now) 24 (0, 0))) (by kernel_rfl) ?_
  have b : Below w5.heap.size w5 { w5 with drawn := w5.drawn + 1 } := (Below.refl w5.heap.size w5).drew
  replace HC := blkV HC b
  replace HX := blkV HX b
  replace B := Below.then2 B b
  replace M4 := M4.below b
  clear b
  generalize ({ w5 with drawn := w5.drawn + 1 } : World) = w6 at *
  refine h_take 0 22 (svV (some ⟨G4, 0, none⟩) X.length X.length busy node rank now) rfl rfl (by kernel_rfl) (by kernel_rfl) (by kernel_rfl) (fun _ _ _ h => h) rfl (fun u hu => sv_tookI hu.1 rfl rfl) ⟨HX, HC⟩ ?_
  refine h_take 1 23 (svV a X.length c busy node rank now) rfl rfl (by kernel_rfl) (by kernel_rfl) (by kernel_rfl) (fun _ _ _ h => h) rfl (fun u hu => sv_tookL hu.2 rfl rfl) ⟨HX, HC⟩ ?_
  simp only [Act.put, List.setIfInBounds_toArray, List.set_cons_zero, List.set_cons_succ]
  refine h_call 2 24 8 #[svV a X.length c busy node rank now] rfl rfl (by kernel_rfl) rfl (by go_simp) ?_
  refine (toSrv (fun _ _ _ => True) a X c busy node rank now _ (hm.below B) hs).mono ?_
  rintro e w7 ⟨G7, L7, H7, rfl, O7, F7, b⟩
  replace HC := blkV HC b
  replace HX := blkV HX b
  replace B := Below.then2 B b
  replace M4 := M4.below b
  have M7 := O7.bxs hXm hXs.out
  clear b O7
  refine ⟨_, rfl, ⟨HX, HC⟩, ?_⟩
  simp only [Act.put, List.setIfInBounds_toArray, List.set_cons_zero, List.set_cons_succ]
  refine h_call 3 25 10 #[svV (some ⟨G4, 0, none⟩) X.length X.length busy node rank now, svV (some ⟨G7, 0, none⟩) X.length X.length busy node rank now] rfl rfl (by kernel_rfl) rfl (by go_simp) ?_
  refine (eqSrv Adr Adr _ _ X _ _ busy node rank now _ M4 M7).mono ?_
  rintro e w8 ⟨rfl, b⟩
  replace HC := blkV HC b
  replace HX := blkV HX b
  have hb := Below.then2 B b
  refine ⟨_, rfl, ⟨HX, HC⟩, ?_⟩
  simp only [Act.put, List.setIfInBounds_toArray, List.set_cons_zero, List.set_cons_succ]
  refine h_value 4 26 (.bool false) rfl rfl (by kernel_rfl) rfl (by go_simp) ⟨HX, HC⟩ ?_
  refine wpAnyH_done (by kernel_rfl) ?_ _
  simp only [Act.put, List.setIfInBounds_toArray, List.set_cons_zero, List.set_cons_succ]
  go_wp2_with fail
  go_ret
  exact ⟨rfl, hb⟩
theorem new_sa {Q : Prop} {B : Nat} (v : Value) {n : Int} {w : World} {e : Ending} {w' : World} (hz : rng n 2 6 = false → e = .returned (.tuple #[svV none 0 0 0 0 0 0, .bool false]) ∧ Below w.heap.size w w')
    (hy : rng n 2 6 = true → ∃ G cap c L H, e = .returned (.tuple #[svV (some ⟨G, 0, none⟩) (newS n).bx.length c 0 0 0 0, .bool true]) ∧ BoxO Q G cap (fun j => j < (newS n).bx.length) (newS n).bx L H w' ∧ FromB w.heap.size G (newS n).bx.length L ∧ Below w.heap.size w w') :
    SaO Q (if rng n 2 6 = true then (newS n).bx else []) 0 0 0 0 (.bool (rng n 2 6)) w e w' := by
  cases hr : rng n 2 6
  · obtain ⟨he, b⟩ := hz hr
    rw [if_neg (by simp)]
    exact ⟨none, 0, fun _ => 0, fun _ => 0, he, AnsB.nil _ _ _ _ _, .inr rfl, b⟩
  · obtain ⟨G, cap, c, L, H, he, ho, hF, b⟩ := hy hr
    rw [if_pos rfl]
    refine ⟨_, c, L, H, he, ⟨.inr ⟨G, _, rfl, ho⟩, fun G' hG' => (by cases hG'; exact hF.1), hF.2⟩, .inl fun h0 => ?_, b⟩
    have := newS_len n
    rw [h0] at this
    have := rng_iff.1 hr
    simp at *
    omega
set_option maxHeartbeats 8000000 in
set_option maxRecDepth 20000 in
theorem walkFnExactNewServer (n : Int) (w : World) :
    Calls Try.prog 4 #[.int .i64 n] w fun e w' => e = .returned (.bool true) ∧ Below w.heap.size w w' := by
  have hQ : (if rng n 2 6 = true then (newS n).bx else []).length ≤ 6 ∧ ∀ j, j < (if rng n 2 6 = true then (newS n).bx else []).length → nthB (if rng n 2 6 = true then (newS n).bx else []) j = [] := by
    split
    · rename_i h
      have := rng_iff.1 h
      exact ⟨by rw [newS_len]; omega, fun j _ => newS_nth n j⟩
    · exact ⟨Nat.zero_le _, fun j hj => absurd hj (Nat.not_lt_zero _)⟩
  obtain ⟨QX, hQX⟩ : ∃ q, (if rng n 2 6 = true then (newS n).bx else []) = q := ⟨_, rfl⟩
  obtain ⟨Qk, hQk⟩ : ∃ q, rng n 2 6 = q := ⟨_, rfl⟩
  have HS := Lib.hid (fun (w : World) => show Calls _ _ _ _ (SaO False QX 0 0 0 0 (.bool Qk) w) from (specNewServer n w).mono (fun e w' h => by
    have h := new_sa (Q := False) (B := 0) (.bool true) h.1 (fun hr => by obtain ⟨G, cap, c, L, H, he, ho, hF, -, b⟩ := h.2 hr; exact ⟨G, cap, c, L, H, he, ho, hF, b⟩)
    rw [hQX, hQk] at h; exact h))
  have HI := Lib.hid (fun (w : World) => show Calls _ _ _ _ (SaO True QX 0 0 0 0 (.bool Qk) w) from (implNewServer n w).mono (fun e w' h => by
    have h := new_sa (Q := True) (B := 0) (.bool true) h.1 (fun hr => by obtain ⟨G, L, H, he, ho, hF, b⟩ := h.2 hr; exact ⟨G, _, _, L, H, he, ho, hF, b⟩)
    rw [hQX, hQk] at h; exact h))
  rw [hQX] at hQ
  clear hQX hQk
  obtain ⟨hQ6, hQl⟩ := hQ
  have hQsum := roomX_small (X := QX) (fun j hj => by rw [hQl j hj]; exact Lean16.nil) QX.length (Nat.le_refl _)
  have hQm : QX.length ≤ 2000000 := by omega
  have hQr2 : roomX QX ≤ 1048577 := by unfold roomX; omega
  have hQs : ∀ j, j < QX.length → (nthB QX j).length ≤ 2000000 := fun j hj => by rw [hQl j hj]; exact Nat.zero_le _
  have hQmx : (mkB 1 QX QX.length).length ≤ 2000000 := by rw [mkB_len]; exact hQm
  have hQx2 : ∀ j, j < (mkB 1 QX QX.length).length → (nthB (mkB 1 QX QX.length) j).length ≤ 2000000 := fun j hj => by rw [mkB_len] at hj; rw [mkB_all hj, mkL_len]; exact hQs j hj
  have hkq := kB_eq 1 QX QX.length (Nat.le_refl _)
  have hk1 : ¬ kB 1 QX QX.length < 0 := by omega
  have hk1' : decide (kB 1 QX QX.length < 0) = false := decide_eq_false hk1
  clear hQsum hkq hQl
  replace hQs := Lib.hid hQs
  replace hQx2 := Lib.hid hQx2
  go_enter Try.func4, Try.ntmps4
  go_wp2_with fail
  refine (HS.out _).mono ?_
  rintro e w1 ⟨a1, c1, L1, H1, rfl, A1, hne1, b⟩
  have M1 := A1.bxs hQm hQs.out
  have B := b
  clear b hne1 A1
  obtain ⟨HA, b⟩ := one_sv w1 (svC a1 QX.length c1 0 0 0 0) 29
  replace M1 := M1.below b
  replace B := Below.then2 B b
  clear b
  go_upto_region 2 with fail
  generalize w1.alloc _ = W1 at HA M1 B ⊢
  generalize w1.heap.size = g1 at HA ⊢
  go_wp2_with fail
  refine (HI.out _).mono ?_
  rintro e w2 ⟨a2, c2, L2, H2, rfl, A2, hne2, b⟩
  have hH2 : Hid (∀ j, j < QX.length → H2 j ≤ w2.heap.size) := Lib.hid (A2.top hne2).2
  have hg1 : g1 < W1.heap.size := (Array.getElem?_eq_some_iff.1 HA).1
  have Q := b
  clear b hne2
  obtain ⟨HG, b⟩ := one_sv w2 (svC a2 QX.length c2 0 0 0 0) 29
  have hz2 : w2.heap.size < (w2.alloc (.cells (svC a2 QX.length c2 0 0 0 0) 29)).heap.size := by simp
  replace A2 := A2.below b
  replace Q := Below.then2 Q b
  clear b
  go_upto_region 3 with fail
  generalize w2.alloc _ = W2 at HG A2 Q hz2 ⊢
  generalize w2.heap.size = g2 at HG hH2 hz2 ⊢
  have hQle := Q.size
  go_wp2_with (first | (refine svTakeI HG rfl rfl rfl ?_) | (refine svTakeI (blkV HA Q) rfl rfl rfl ?_))
  refine (eqSrv Adr Adr a2 a1 QX c2 c1 0 0 0 0 _ (A2.bxs hQm hQs.out) (M1.below Q)).mono ?_
  rintro e w3 ⟨rfl, b⟩
  replace Q := Below.then2 Q b
  replace HG := blkV HG b
  replace A2 := A2.below b
  clear b
  go_wp2_with (refine svTakeI HG rfl rfl rfl ?_)
  refine (markAns W1.heap.size g2 a2 QX L2 H2 c2 0 0 0 0 1 _ A2 hH2.out hQr2 (by omega) (by omega)).mono ?_
  rintro e w4 ⟨rfl, A4, m⟩
  have hB0 := B.size
  replace Q := Q.trans (m.below (Nat.le_refl _) Q.size)
  replace HG := m.row HG (Nat.le_refl _)
  clear m A2
  go_wp2_with (refine svTakeI HG rfl rfl rfl ?_)
  refine (heldSrv Adr a2 QX c2 0 0 0 0 1 _ (by have h := A4.bxs hQmx hQx2.out; exact h) hQr2 (by omega) (by omega)).mono ?_
  rintro e w5 ⟨rfl, b⟩
  replace Q := Below.then2 Q b
  replace HG := blkV HG b
  replace A4 := A4.below b
  clear b
  go_wp2_with fail
  refine (HI.out _).mono ?_
  rintro e w6 ⟨a6, c6, L6, H6, rfl, A6, hne6, b⟩
  replace Q := Below.then2 Q b
  replace HG := blkV HG b
  replace A4 := A4.below b
  have M6 := A6.bxs hQm hQs.out
  clear b A6 hne6
  obtain ⟨HH, b⟩ := one_sv w6 (svC a6 QX.length c6 0 0 0 0) 29
  replace Q := Below.then2 Q b
  replace HG := blkV HG b
  replace A4 := A4.below b
  replace M6 := M6.below b
  clear b
  go_upto_region 14 with fail
  generalize w6.alloc _ = W6 at HG HH A4 Q M6 ⊢
  generalize w6.heap.size = g6 at HH ⊢
  go_wp2_with (first | (refine svTakeI HH rfl rfl rfl ?_) | (refine svTakeI (blkV HA Q) rfl rfl rfl ?_))
  refine (eqSrv Adr Adr a6 a1 QX c6 c1 0 0 0 0 _ M6 (M1.below Q)).mono ?_
  rintro e w7 ⟨rfl, b⟩
  replace Q := Below.then2 Q b
  replace HG := blkV HG b
  replace A4 := A4.below b
  clear b M6 HH
  go_wp2_with (refine svTakeI HG rfl rfl rfl ?_)
  refine (heldSrv Adr a2 QX c2 0 0 0 0 1 _ (by have h := A4.bxs hQmx hQx2.out; exact h) hQr2 (by omega) (by omega)).mono ?_
  rintro e w8 ⟨rfl, b⟩
  replace Q := Below.then2 Q b
  have hb := Below.then2 B Q
  clear b HG A4
  go_wp2_with fail
  go_ret
  exact ⟨rfl, hb⟩
end Go.Proofs.Ytpefcbpapmfejaa
