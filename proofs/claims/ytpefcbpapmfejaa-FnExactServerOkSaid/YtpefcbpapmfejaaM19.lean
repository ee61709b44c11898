/- impl.ServerPut. -/
import Derived.Test.YtpefcbpapmfejaaM18
import Derived.Test.YtpefcbpapmfejaaM17

set_option linter.unusedVariables false
set_option linter.unusedSimpArgs false
set_option maxRecDepth 20000
namespace Go.Proofs.Ytpefcbpapmfejaa
open Go.RowKit

theorem results_srv {fn : Func} {p q : Tmp} (h : fn.results = #[.cell p 29, .tmp q]) (tmps : Array Value) (w : World) (g : Nat) (C : Array Value) (v : Value) (hp : tmps.getD p undef = .pointer (some ⟨g, 0, none⟩)) (hq : tmps.getD q undef = v)
    (hg : w.heap[g]? = some (.cells C 29 (0, 0))) (hC : C.size = 5) : (results fn tmps).run Try.prog w = .ok (.tuple #[.agg C, v]) w := by
  have hp' : tmps[p]?.getD undef = .pointer (some ⟨g, 0, none⟩) := by simpa using hp
  have hq' : tmps[q]?.getD undef = v := by simpa using hq
  have hl := run_loadVar_row (P := Try.prog) w g 29 29 C (0, 0) _ hg Try.underlying29 rfl (by rw [hC]; kernel_rfl)
  simp [results, h, hp', hq', asAddr, hl]
/-- What a call hands back beside a server of its own. -/
def PuO (s : Srv) (k : Int) (w : World) (e : Ending) (w' : World) : Prop :=
  ∃ G L H, e = .returned (.tuple #[svV (some ⟨G, 0, none⟩) s.bx.length s.bx.length s.busy s.node s.rank s.now, .int .i64 k]) ∧ BoxO True G s.bx.length (fun j => j < s.bx.length) s.bx L H w' ∧ FromB w.heap.size G s.bx.length L ∧ Below w.heap.size w w'
def PuZ (w : World) (e : Ending) (w' : World) : Prop := e = .returned (.tuple #[svV none 0 0 0 0 0 0, .int .i64 3]) ∧ Below w.heap.size w w'
def PuR (s : Srv) (node : Int) (f : Frm) (w : World) (e : Ending) (w' : World) : Prop := (srvB s = false → PuZ w e w') ∧ (srvB s = true → PuO (putS s node f).1 (putS s node f).2 w e w')
/-- What stands while ServerPut goes on: the server's block, the frame's, the result's, and the boxes of the copy. -/
structure PuS (g G : Nat) (X : List (List Frm)) (busy node rank now : Int) (f : Frm) (af : Option Addr) (cf : Nat) (L H : Nat → Nat) (w0 w : World) : Prop where
  blk : w.heap[g]? = some (.cells (svC (some ⟨G, 0, none⟩) X.length X.length busy node rank now) 29 (0, 0))
  frm : w.heap[g + 1]? = some (.cells (frC f af cf) 43 (0, 0))
  res : w.heap[g + 2]? = some (.cells (svC none 0 0 0 0 0 0) 29 (0, 0))
  box : BoxO True G X.length (fun j => j < X.length) X L H w
  nums : Nums af f.D w
  bel : Below w0.heap.size w0 w
section
variable {g G : Nat} {X : List (List Frm)} {busy node rank now : Int} {f : Frm} {af : Option Addr} {cf : Nat} {L H : Nat → Nat} {w0 w w' : World}
theorem blkV {w w' : World} {g : Nat} {o : Obj} (h : w.heap[g]? = some o) (b : Below w.heap.size w w') : w'.heap[g]? = some o := (b.block g (Array.getElem?_eq_some_iff.1 h).1).trans h
theorem PuS.below (h : PuS g G X busy node rank now f af cf L H w0 w) (b : Below w.heap.size w w') : PuS g G X busy node rank now f af cf L H w0 w' :=
  ⟨blkV h.blk b, blkV h.frm b, blkV h.res b, h.box.below b, h.nums.below b, Below.then2 h.bel b⟩
theorem PuS.drew (h : PuS g G X busy node rank now f af cf L H w0 w) : PuS g G X busy node rank now f af cf L H w0 w.drew := h.below (Below.refl _ _).drew
theorem PuS.sv (h : PuS g G X busy node rank now f af cf L H w0 w) : Sv g (some ⟨G, 0, none⟩) X.length X.length busy node rank now w0 w := ⟨h.blk, h.bel⟩
theorem PuS.cellG (h : PuS g G X busy node rank now f af cf L H w0 w) (hb : boxesB X = true) {j : Nat} (hj : j < X.length) : ∃ al cl, w.cell? ⟨G, j, none⟩ = some (.slice al (nthB X j).length cl) ∧ Frs al (nthB X j) w ∧ Adr al (nthB X j).length cl := by
  obtain ⟨cur, h1, h2, h3⟩ := h.box.row
  obtain ⟨v, hv, ho⟩ := h3 j hj
  obtain ⟨a, c, rfl, hf, hA⟩ := ho.is (by have := (box_small hb hj).1; omega)
  exact ⟨a, c, by rw [cell_of_row w G _ _ _ _ h1]; exact hv, hf, hA⟩
/-- The end: the server is laid in the result's block. -/
theorem PuS.fin (h : PuS g G X busy node rank now f af cf L H w0 w) (hg : w0.heap.size = g) (hG : FromB (g + 3) G X.length L) :
    ∀ w5, w5 = (((((w.setCell ⟨g + 2, 0, none⟩ (.slice (some ⟨G, 0, none⟩) X.length X.length)).setCell ⟨g + 2, 1, none⟩ (.int .i64 busy)).setCell ⟨g + 2, 2, none⟩ (.int .i64 node)).setCell ⟨g + 2, 3, none⟩ (.int .i64 rank)).setCell ⟨g + 2, 4, none⟩ (.int .i64 now)) →
      w5.heap[g + 2]? = some (.cells (svC (some ⟨G, 0, none⟩) X.length X.length busy node rank now) 29 (0, 0)) ∧ BoxO True G X.length (fun j => j < X.length) X L H w5 ∧ Below w0.heap.size w0 w5 := by
  rintro w5 rfl
  obtain ⟨h5, m⟩ := set5 h.res (.slice (some ⟨G, 0, none⟩) X.length X.length) (.int .i64 busy) (.int .i64 node) (.int .i64 rank) (.int .i64 now)
  refine ⟨h5, h.box.kp (Y := fun q => q < g + 2 ∨ g + 3 ≤ q) ⟨m.size, fun q hq hl => m.block q hl (by omega), m.os, m.tape, m.output⟩ (.inr (by have := hG.1; omega)) (fun j hj q h1 h2 => .inr (by have := hG.2 j hj; omega)), h.bel.trans (m.below (by omega) h.bel.size)⟩
end
set_option maxHeartbeats 16000000 in
/-- impl.ServerPut. -/
theorem implServerPut (R : Option Addr → Nat → Nat → Prop) (a : Option Addr) (X : List (List Frm)) (c : Nat) (busy nd rank now node : Int) (f : Frm) (af : Option Addr) (cf : Nat) (w : World) (hd : Bxs R a X w) (hn : Nums af f.D w) :
    Calls Try.prog 18 #[svV a X.length c busy nd rank now, .int .i64 node, frV f.id f.rm f.ln af f.D.length cf] w (PuR ⟨X, busy, nd, rank, now⟩ node f w) := by
  have hm := hd.1
  have hn0 := hn
  obtain ⟨HC, HF, HR, B⟩ := three_made w (svC a X.length c busy nd rank now) (frC f af cf) (svC none 0 0 0 0 0 0) 29 43 29
  have hz : (((w.alloc (.cells (svC a X.length c busy nd rank now) 29)).alloc (.cells (frC f af cf) 43)).alloc (.cells (svC none 0 0 0 0 0 0) 29)).heap.size = w.heap.size + 3 := by simp
  go_enter Try.func18, Try.ntmps18
  go_upto_region 1 with fail
  replace hd := hd.below B
  replace hn := hn.below B
  generalize ((w.alloc (.cells (svC a X.length c busy nd rank now) 29)).alloc (.cells (frC f af cf) 43)).alloc (.cells (svC none 0 0 0 0 0 0) 29) = W at HC HF HR B hz hd hn ⊢
  have S0 : Sv w.heap.size a X.length c busy nd rank now w W := ⟨HC, B⟩
  go_wp2_with (refine S0.take rfl rfl rfl ?_)
  refine (implServerOk R a X c busy nd rank now _ hd).mono ?_
  rintro e w1 ⟨rfl, b⟩
  replace HC := blkV HC b
  replace HF := blkV HF b
  replace HR := blkV HR b
  replace B := Below.then2 B b
  replace hd := hd.below b
  replace hn := hn.below b
  have hz1 : w.heap.size + 3 ≤ w1.heap.size := by have := b.size; omega
  clear b S0 hz
  cases hok : srvB ⟨X, busy, nd, rank, now⟩
  · have e0 := cell_of_row w1 (w.heap.size + 2) 0 _ _ _ HR
    have e1 := cell_of_row w1 (w.heap.size + 2) 1 _ _ _ HR
    have e2 := cell_of_row w1 (w.heap.size + 2) 2 _ _ _ HR
    have e3 := cell_of_row w1 (w.heap.size + 2) 3 _ _ _ HR
    have e4 := cell_of_row w1 (w.heap.size + 2) 4 _ _ _ HR
    have k0 := frozen_of_row w1 (w.heap.size + 2) 0 _ _ HR
    have k1 := frozen_of_row w1 (w.heap.size + 2) 1 _ _ HR
    have k2 := frozen_of_row w1 (w.heap.size + 2) 2 _ _ HR
    have k3 := frozen_of_row w1 (w.heap.size + 2) 3 _ _ HR
    have k4 := frozen_of_row w1 (w.heap.size + 2) 4 _ _ HR
    replace hok := Lib.hid hok
    go_wp2_with fail
    obtain ⟨h5, m⟩ := set5 HR (.slice none 0 0) (.int .i64 0) (.int .i64 0) (.int .i64 0) (.int .i64 0)
    clear e0 e1 e2 e3 e4 k0 k1 k2 k3 k4
    generalize World.setCell _ _ _ = w5 at h5 m ⊢
    refine bodyPost_ret (v := .tuple #[svV none 0 0 0 0 0 0, .int .i64 3]) ?_ rfl ⟨fun _ => ⟨rfl, B.trans (m.below (by omega) B.size)⟩, fun h => absurd h (by rw [hok.out]; simp)⟩
    exact results_srv Try.results18 _ _ (w.heap.size + 2) _ _ rfl rfl h5 rfl
  have hS := srvB_iff.1 hok
  have hbx : boxesB X = true := hS.1
  replace hS := Lib.hid hS
  have h26 := boxesB_iff.1 hbx
  obtain ⟨h2, h6, -⟩ := h26
  replace hok := Lib.hid hok
  have S1 : Sv w.heap.size a X.length c busy nd rank now w w1 := ⟨HC, B⟩
  go_wp2_with (refine S1.take rfl rfl rfl ?_)
  refine (implCopiedServer R a X c busy nd rank now _ hd hbx).mono ?_
  rintro e w2 ⟨G, L, H, rfl, O, hF, b⟩
  dsimp only at O hF
  replace HC := blkV HC b
  replace HF := blkV HF b
  replace HR := blkV HR b
  replace B := Below.then2 B b
  replace hn := hn.below b
  clear S1 b
  have e0 := cell_of_row w2 w.heap.size 0 _ _ _ HC
  have e1 := cell_of_row w2 w.heap.size 1 _ _ _ HC
  have e2 := cell_of_row w2 w.heap.size 2 _ _ _ HC
  have e3 := cell_of_row w2 w.heap.size 3 _ _ _ HC
  have e4 := cell_of_row w2 w.heap.size 4 _ _ _ HC
  have k0 := frozen_of_row w2 w.heap.size 0 _ _ HC
  have k1 := frozen_of_row w2 w.heap.size 1 _ _ HC
  have k2 := frozen_of_row w2 w.heap.size 2 _ _ HC
  have k3 := frozen_of_row w2 w.heap.size 3 _ _ HC
  have k4 := frozen_of_row w2 w.heap.size 4 _ _ HC
  go_upto_region 4 with fail
  clear e0 e1 e2 e3 e4 k0 k1 k2 k3 k4
  obtain ⟨h5, m⟩ := set5 HC (.slice (some ⟨G, 0, none⟩) X.length X.length) (.int .i64 busy) (.int .i64 nd) (.int .i64 rank) (.int .i64 now)
  generalize World.setCell _ _ _ = w3 at h5 m ⊢
  have hFG : FromB (w.heap.size + 3) G X.length L := ⟨by have := hF.1; omega, fun j hj => by have := hF.2 j hj; omega⟩
  have P : PuS w.heap.size G X busy nd rank now f af cf L H w w3 :=
    ⟨h5, (m.block _ (Array.getElem?_eq_some_iff.1 HF).1 (by omega)).trans HF, (m.block _ (Array.getElem?_eq_some_iff.1 HR).1 (by omega)).trans HR,
     O.kp (Y := fun q => q < w.heap.size ∨ w.heap.size + 1 ≤ q) ⟨m.size, fun q hq hl => m.block q hl (by omega), m.os, m.tape, m.output⟩ (.inr (by have := hFG.1; omega)) (fun j hj q h1 h2 => .inr (by have := hFG.2 j hj; omega)),
     hn0.below (B.trans (m.below (Nat.le_refl _) B.size)), B.trans (m.below (Nat.le_refl _) B.size)⟩
  --REST
  clear m HF HR B hd O HC h5 hF
  have P0 := P
  go_wp2_with (refine P0.sv.take rfl rfl rfl ?_)
  refine (implHasBox _ _ _ _ _ _ _ node _ hm).mono ?_
  rintro e w4 ⟨rfl, b⟩
  replace P := P.below b
  clear b P0
  cases hr : rng node 0 ((X.length : Int) - 1)
  · have HV : Hid (putS ⟨X, busy, nd, rank, now⟩ node f = (⟨X, busy, nd, rank, now⟩, 3)) := Lib.hid (by
      unfold putS
      rw [if_pos hok.out, if_neg]
      rintro ⟨h1, h2⟩
      have h2 : node < (X.length : Int) := h2
      rw [rng_iff.2 ⟨h1, by omega⟩] at hr
      cases hr)
    clear hr
    have e0 := cell_of_row w4 (w.heap.size + 2) 0 _ _ _ P.res
    have e1 := cell_of_row w4 (w.heap.size + 2) 1 _ _ _ P.res
    have e2 := cell_of_row w4 (w.heap.size + 2) 2 _ _ _ P.res
    have e3 := cell_of_row w4 (w.heap.size + 2) 3 _ _ _ P.res
    have e4 := cell_of_row w4 (w.heap.size + 2) 4 _ _ _ P.res
    have k0 := frozen_of_row w4 (w.heap.size + 2) 0 _ _ P.res
    have k1 := frozen_of_row w4 (w.heap.size + 2) 1 _ _ P.res
    have k2 := frozen_of_row w4 (w.heap.size + 2) 2 _ _ P.res
    have k3 := frozen_of_row w4 (w.heap.size + 2) 3 _ _ P.res
    have k4 := frozen_of_row w4 (w.heap.size + 2) 4 _ _ P.res
    go_wp2_with (refine P.sv.take rfl rfl rfl ?_)
    clear e0 e1 e2 e3 e4 k0 k1 k2 k3 k4
    obtain ⟨h5, O5, B5⟩ := P.fin rfl (by first | exact hFG | exact hFG') _ rfl
    refine bodyPost_ret (v := .tuple #[svV (some ⟨G, 0, none⟩) X.length X.length busy nd rank now, .int .i64 3]) ?_ rfl ⟨fun h => absurd h (by rw [hok.out]; simp), fun _ => ?_⟩
    · exact results_srv Try.results18 _ _ (w.heap.size + 2) _ _ rfl rfl h5 rfl
    · rw [HV.out]
      exact ⟨G, _, _, rfl, O5, ⟨by have := hFG.1; show w.heap.size ≤ G; omega, fun i hi => by have := hFG.2 i hi; omega⟩, B5⟩
  have h1 := rng_iff.1 hr
  obtain ⟨j, rfl⟩ : ∃ j : Nat, node = (j : Int) := ⟨node.toNat, by omega⟩
  have hj : j < X.length := by omega
  clear hr h1
  go_wp2_with fail
  by_cases hq : 3 < busy ∧ nd = (j : Int) ∧ rank = rkF f
  · have HV : Hid (putS ⟨X, busy, nd, rank, now⟩ (j : Int) f = (⟨X, busy, nd, rank, now⟩, 2)) := Lib.hid (by
      unfold putS
      rw [if_pos hok.out, if_pos ⟨by omega, by show (j : Int) < (X.length : Int); omega⟩, if_pos hq])
    have h3 : decide (3 < busy) = true := decide_eq_true hq.1
    have hn' : ((j : Int) == nd) = true := by rw [hq.2.1]; exact beq_self_eq_true _
    have hr' : (rankV f.id f.rm f.ln f.D == rank) = true := by rw [hq.2.2]; exact beq_self_eq_true (rkF f)
    replace hq := Lib.hid hq
    refine region_class (PuS w.heap.size G X busy nd rank now f af cf L H w) (by kernel_rfl) (by kernel_rfl) P.drew ?_
    repeat first
      | go_big_quiet_skip
      | (go_big_quiet_want
         apply Exists.intro
         refine ⟨fun u hu => ?_, ?_⟩
         · exact quietAt_val (hu.sv.took rfl rfl)
         simp only [Act.put, List.setIfInBounds_toArray, List.set_cons_zero, List.set_cons_succ]
         go_big_quiet_on)
      | (go_big_quiet_want
         apply Exists.intro
         refine ⟨fun u hu => ?_, ?_⟩
         · exact quietAt_val (frTookI (f := f) (af := af) (cf := cf) hu.frm rfl rfl)
         simp only [Act.put, List.setIfInBounds_toArray, List.set_cons_zero, List.set_cons_succ]
         go_big_quiet_on)
      | (go_big_quiet_want
         apply Exists.intro
         refine ⟨fun u hu => ?_, ?_⟩
         · apply quietAt_val
           have x0 := hu.sv.cell 0
           have x2 := hu.sv.cell 2
           have x3 := hu.sv.cell 3
           go_simp
           rfl
         simp only [Act.put, List.setIfInBounds_toArray, List.set_cons_zero, List.set_cons_succ]
         go_big_quiet_on)
      | (go_big_quiet_want
         apply Exists.intro
         refine ⟨fun u hu => ?_, ?_⟩
         · apply quietAt_enter 40 #[svV (some ⟨G, 0, none⟩) X.length X.length busy nd rank now]
           · go_simp
           · refine (implSaying _ _ _ _ _ _ _ u).mono ?_
             rintro e w2 ⟨he, b2⟩
             rw [h3] at he
             exact ⟨he, hu.below b2⟩
         simp only [Act.put, List.setIfInBounds_toArray, List.set_cons_zero, List.set_cons_succ]
         go_big_quiet_on)
      | (go_big_quiet_want
         apply Exists.intro
         refine ⟨fun u hu => ?_, ?_⟩
         · apply quietAt_enter 41 #[frV f.id f.rm f.ln af f.D.length cf]
           · go_simp
           · refine (implRankOf _ _ _ _ _ _ u hu.nums).mono ?_
             rintro e w2 ⟨he, b2⟩
             exact ⟨he, hu.below b2⟩
         simp only [Act.put, List.setIfInBounds_toArray, List.set_cons_zero, List.set_cons_succ]
         go_big_quiet_on)
    refine wpQuiet_nil ?_
    intro W4 P4
    clear P hq h3
    have e0 := cell_of_row W4 (w.heap.size + 2) 0 _ _ _ P4.res
    have e1 := cell_of_row W4 (w.heap.size + 2) 1 _ _ _ P4.res
    have e2 := cell_of_row W4 (w.heap.size + 2) 2 _ _ _ P4.res
    have e3 := cell_of_row W4 (w.heap.size + 2) 3 _ _ _ P4.res
    have e4 := cell_of_row W4 (w.heap.size + 2) 4 _ _ _ P4.res
    have k0 := frozen_of_row W4 (w.heap.size + 2) 0 _ _ P4.res
    have k1 := frozen_of_row W4 (w.heap.size + 2) 1 _ _ P4.res
    have k2 := frozen_of_row W4 (w.heap.size + 2) 2 _ _ P4.res
    have k3 := frozen_of_row W4 (w.heap.size + 2) 3 _ _ P4.res
    have k4 := frozen_of_row W4 (w.heap.size + 2) 4 _ _ P4.res
    go_wp2_with (refine P4.sv.take rfl rfl rfl ?_)
    clear e0 e1 e2 e3 e4 k0 k1 k2 k3 k4
    obtain ⟨h5, O5, B5⟩ := P4.fin rfl (by first | exact hFG | exact hFG') _ rfl
    refine bodyPost_ret (v := .tuple #[svV (some ⟨G, 0, none⟩) X.length X.length busy nd rank now, .int .i64 2]) ?_ rfl ⟨fun h => absurd h (by rw [hok.out]; simp), fun _ => ?_⟩
    · exact results_srv Try.results18 _ _ (w.heap.size + 2) _ _ rfl rfl h5 rfl
    · rw [HV.out]
      exact ⟨G, _, _, rfl, O5, ⟨by have := hFG.1; show w.heap.size ≤ G; omega, fun i hi => by have := hFG.2 i hi; omega⟩, B5⟩
  by_cases h30 : ¬ 3 < busy
  · have h3 : decide (3 < busy) = false := decide_eq_false h30
    refine region_class (PuS w.heap.size G X busy nd rank now f af cf L H w) (by kernel_rfl) (by kernel_rfl) P.drew ?_
    repeat first
      | go_big_quiet_skip
      | (go_big_quiet_want
         apply Exists.intro
         refine ⟨fun u hu => ?_, ?_⟩
         · exact quietAt_val (hu.sv.took rfl rfl)
         simp only [Act.put, List.setIfInBounds_toArray, List.set_cons_zero, List.set_cons_succ]
         go_big_quiet_on)
      | (go_big_quiet_want
         apply Exists.intro
         refine ⟨fun u hu => ?_, ?_⟩
         · exact quietAt_val (frTookI (f := f) (af := af) (cf := cf) hu.frm rfl rfl)
         simp only [Act.put, List.setIfInBounds_toArray, List.set_cons_zero, List.set_cons_succ]
         go_big_quiet_on)
      | (go_big_quiet_want
         apply Exists.intro
         refine ⟨fun u hu => ?_, ?_⟩
         · apply quietAt_val
           have x0 := hu.sv.cell 0
           have x2 := hu.sv.cell 2
           have x3 := hu.sv.cell 3
           go_simp
           rfl
         simp only [Act.put, List.setIfInBounds_toArray, List.set_cons_zero, List.set_cons_succ]
         go_big_quiet_on)
      | (go_big_quiet_want
         apply Exists.intro
         refine ⟨fun u hu => ?_, ?_⟩
         · apply quietAt_enter 40 #[svV (some ⟨G, 0, none⟩) X.length X.length busy nd rank now]
           · go_simp
           · refine (implSaying _ _ _ _ _ _ _ u).mono ?_
             rintro e w2 ⟨he, b2⟩
             rw [h3] at he
             exact ⟨he, hu.below b2⟩
         simp only [Act.put, List.setIfInBounds_toArray, List.set_cons_zero, List.set_cons_succ]
         go_big_quiet_on)
      | (go_big_quiet_want
         apply Exists.intro
         refine ⟨fun u hu => ?_, ?_⟩
         · apply quietAt_enter 41 #[frV f.id f.rm f.ln af f.D.length cf]
           · go_simp
           · refine (implRankOf _ _ _ _ _ _ u hu.nums).mono ?_
             rintro e w2 ⟨he, b2⟩
             exact ⟨he, hu.below b2⟩
         simp only [Act.put, List.setIfInBounds_toArray, List.set_cons_zero, List.set_cons_succ]
         go_big_quiet_on)
    refine wpQuiet_nil ?_
    intro W4 P4
    clear P h3 h30
    obtain ⟨al, cl, hcG, hfr, hA⟩ := P4.cellG hbx hj
    go_upto_region 8 with fail
    refine wp_region_held (S := fun u => u.heap[w.heap.size]? = some (.cells (svC (some ⟨G, 0, none⟩) X.length X.length busy nd rank now) 29 (0, 0)) ∧ u.heap[w.heap.size + 1]? = some (.cells (frC f af cf) 43 (0, 0)) ∧ u.cell? ⟨G, j, none⟩ = some (.slice al (nthB X j).length cl)) (by kernel_rfl) ?_
    have B0 : Below W4.heap.size W4 { W4 with drawn := W4.drawn + 1 } := (Below.refl _ _).drew
    replace P4 := P4.below B0
    replace hcG := (B0.cell (World.block_lt_of_cell? _ _ hcG)).trans hcG
    replace hfr := hfr.below B0
    generalize ({ W4 with drawn := W4.drawn + 1 } : World) = V at P4 hcG hfr ⊢
    clear B0
    have hS : V.heap[w.heap.size]? = some (.cells (svC (some ⟨G, 0, none⟩) X.length X.length busy nd rank now) 29 (0, 0)) ∧ V.heap[w.heap.size + 1]? = some (.cells (frC f af cf) 43 (0, 0)) ∧ V.cell? ⟨G, j, none⟩ = some (.slice al (nthB X j).length cl) := ⟨P4.blk, P4.frm, hcG⟩
    refine h_take 0 38 (.pointer (some ⟨w.heap.size, 0, none⟩)) rfl rfl (by kernel_rfl) (by kernel_rfl) (by kernel_rfl) (fun _ _ _ h => h) rfl (fun u hu => by go_simp) hS ?_
    refine h_take 1 39 (.slice (some ⟨G, 0, none⟩) X.length X.length) rfl rfl (by kernel_rfl) (by kernel_rfl) (by kernel_rfl) (fun _ _ _ h => h) rfl (fun u hu => by have c0 := cell_of_row u _ 0 _ _ _ hu.1; go_simp) hS ?_
    refine h_take 2 40 (.int .i64 (j : Int)) rfl rfl (by kernel_rfl) (by kernel_rfl) (by kernel_rfl) (fun _ _ _ h => h) rfl (fun u hu => by go_simp) hS ?_
    refine h_take 3 41 (.pointer (some ⟨G, j, none⟩)) rfl rfl (by kernel_rfl) (by kernel_rfl) (by kernel_rfl) (fun _ _ _ h => h) rfl (fun u hu => by go_simp) hS ?_
    refine h_take 4 42 (.slice al (nthB X j).length cl) rfl rfl (by kernel_rfl) (by kernel_rfl) (by kernel_rfl) (fun _ _ _ h => h) rfl (fun u hu => by have c0 := hu.2.2; go_simp) hS ?_
    refine h_take 5 43 (frV f.id f.rm f.ln af f.D.length cf) rfl rfl (by kernel_rfl) (by kernel_rfl) (by kernel_rfl) (fun _ _ _ h => h) rfl (fun u hu => frTookI hu.2.1 rfl rfl) hS ?_
    simp only [Act.put, List.setIfInBounds_toArray, List.set_cons_zero, List.set_cons_succ]
    refine h_call 6 44 42 #[.slice al (nthB X j).length cl, frV f.id f.rm f.ln af f.D.length cf] rfl rfl (by kernel_rfl) rfl (by go_simp) ?_
    refine (show Calls _ _ _ _ (PutGot (putV (nthB X j) f) V) from implPutIn al (nthB X j) cl f.id f.rm f.ln af f.D cf V hfr hA.1 hA.2 P4.nums).mono ?_
    rintro e w5 ⟨M, a5, c5, rfl, hM, OB, FB, b⟩
    have OX : OwnX True V.heap.size w5.heap.size (putV (nthB X j) f).1 (.slice a5 (putV (nthB X j) f).1.length c5) w5 := ⟨M, a5, c5, rfl, hM, OB, fun _ => FB, OB.under⟩
    have hle := b.size
    have hzV : w.heap.size + 3 ≤ V.heap.size := (Array.getElem?_eq_some_iff.1 P4.res).1
    have hHj : ∀ i, i < X.length → H i ≤ V.heap.size := fun i hi => (P4.box.out i hi).2.1
    have hGV := P4.box.lt
    have P5 := P4.below b
    have hcG5 := (b.cell (World.block_lt_of_cell? _ _ hcG)).trans hcG
    clear OB FB hM b hfr hA P4 hS hcG
    generalize hL5 : (putV (nthB X j) f).1 = L5 at *
    generalize hk5 : (putV (nthB X j) f).2 = k5 at *
    replace hL5 := Lib.hid hL5
    replace hk5 := Lib.hid hk5
    have hS : w5.heap[w.heap.size]? = some (.cells (svC (some ⟨G, 0, none⟩) X.length X.length busy nd rank now) 29 (0, 0)) ∧ w5.heap[w.heap.size + 1]? = some (.cells (frC f af cf) 43 (0, 0)) ∧ w5.cell? ⟨G, j, none⟩ = some (.slice al (nthB X j).length cl) := ⟨P5.blk, P5.frm, hcG5⟩
    refine ⟨_, rfl, hS, ?_⟩
    simp only [Act.put, List.setIfInBounds_toArray, List.set_cons_zero, List.set_cons_succ]
    refine h_take 7 37 (.tuple #[.slice a5 L5.length c5, .int .i64 k5]) rfl rfl (by kernel_rfl) (by kernel_rfl) (by kernel_rfl) (fun _ _ _ h => h) rfl (fun u hu => by go_simp) hS ?_
    refine h_take 8 45 (.slice a5 L5.length c5) rfl rfl (by kernel_rfl) (by kernel_rfl) (by kernel_rfl) (fun _ _ _ h => h) rfl (fun u hu => by go_simp) hS ?_
    refine h_take 9 46 (.int .i64 k5) rfl rfl (by kernel_rfl) (by kernel_rfl) (by kernel_rfl) (fun _ _ _ h => h) rfl (fun u hu => by go_simp) hS ?_
    refine h_take 10 8 (.slice a5 L5.length c5) rfl rfl (by kernel_rfl) (by kernel_rfl) (by kernel_rfl) (fun _ _ _ h => h) rfl (fun u hu => by go_simp) hS ?_
    refine h_take 11 9 (.int .i64 k5) rfl rfl (by kernel_rfl) (by kernel_rfl) (by kernel_rfl) (fun _ _ _ h => h) rfl (fun u hu => by go_simp) hS ?_
    simp only [Act.put, List.setIfInBounds_toArray, List.set_cons_zero, List.set_cons_succ]
    refine wpAnyH_done (by kernel_rfl) ?_ _
    clear hS
    have c0 := cell_of_row w5 w.heap.size 0 _ _ _ P5.blk
    obtain ⟨cur, hcb, hcs, -⟩ := P5.box.row
    have f0 := frozen_of_row w5 G j _ _ hcb
    clear hcb hcs cur
    go_upto_region 10 with fail
    have O6 := (P5.box.put (i := j) (lo := V.heap.size) (hi := w5.heap.size) (X' := X.set j L5) (v := .slice a5 L5.length c5) hj (fun i hi hne => by rw [nthB_set hj, if_neg hne]) (by rw [nthB_set hj, if_pos rfl]; exact OX) hle (Nat.le_refl _) (.inl hGV) (fun i hi _ => .inl (hHj i hi))).less (F' := fun i => i < X.length) (fun i hi => .inl hi)
    have m := mid_cell w5 G j (.slice a5 L5.length c5)
    have hlX : (X.set j L5).length = X.length := List.length_set
    have hGl := hFG.1
    have P6 : PuS w.heap.size G (X.set j L5) busy nd rank now f af cf (fun i => if i = j then V.heap.size else L i) (fun i => if i = j then w5.heap.size else H i) w (w5.setCell ⟨G, j, none⟩ (.slice a5 L5.length c5)) := by
      refine ⟨?_, (m.block _ (Array.getElem?_eq_some_iff.1 P5.frm).1 (by omega)).trans P5.frm, (m.block _ (Array.getElem?_eq_some_iff.1 P5.res).1 (by omega)).trans P5.res, ?_, ?_, P5.bel.trans (m.below (by omega) P5.bel.size)⟩
      · rw [hlX]; exact (m.block _ (Array.getElem?_eq_some_iff.1 P5.blk).1 (by omega)).trans P5.blk
      · rw [hlX]; exact O6
      · exact hn0.below (P5.bel.trans (m.below (by omega) P5.bel.size))
    have hFG' : FromB (w.heap.size + 3) G (X.set j L5).length (fun i => if i = j then V.heap.size else L i) := ⟨hFG.1, fun i hi => by
      rw [hlX] at hi
      dsimp only
      split
      · exact hzV
      · exact hFG.2 i hi⟩
    have HV : Hid (putS ⟨X, busy, nd, rank, now⟩ (j : Int) f = (⟨X.set j L5, busy, nd, rank, now⟩, k5)) := Lib.hid (by
      unfold putS
      rw [if_pos hok.out, if_pos ⟨by omega, by show (j : Int) < (X.length : Int); omega⟩, if_neg hq]
      show ((⟨X.set (j : Int).toNat (putV (nthB X (j : Int).toNat) f).1, busy, nd, rank, now⟩ : Srv), (putV (nthB X (j : Int).toNat) f).2) = _
      rw [Int.toNat_natCast, hL5.out, hk5.out])
    clear m O6 P5 OX hGV hHj hle hcG5 f0 c0
    generalize w5.setCell _ _ = w6 at P6 ⊢
    clear hlX
    generalize X.set j L5 = X' at P6 hFG' HV
    have e0 := cell_of_row w6 (w.heap.size + 2) 0 _ _ _ P6.res
    have e1 := cell_of_row w6 (w.heap.size + 2) 1 _ _ _ P6.res
    have e2 := cell_of_row w6 (w.heap.size + 2) 2 _ _ _ P6.res
    have e3 := cell_of_row w6 (w.heap.size + 2) 3 _ _ _ P6.res
    have e4 := cell_of_row w6 (w.heap.size + 2) 4 _ _ _ P6.res
    have k0 := frozen_of_row w6 (w.heap.size + 2) 0 _ _ P6.res
    have k1 := frozen_of_row w6 (w.heap.size + 2) 1 _ _ P6.res
    have k2 := frozen_of_row w6 (w.heap.size + 2) 2 _ _ P6.res
    have k3 := frozen_of_row w6 (w.heap.size + 2) 3 _ _ P6.res
    have k4 := frozen_of_row w6 (w.heap.size + 2) 4 _ _ P6.res
    go_wp2_with (refine P6.sv.take rfl rfl rfl ?_)
    clear e0 e1 e2 e3 e4 k0 k1 k2 k3 k4
    obtain ⟨h5, O5, B5⟩ := P6.fin rfl (by first | exact hFG | exact hFG') _ rfl
    refine bodyPost_ret (v := .tuple #[svV (some ⟨G, 0, none⟩) X'.length X'.length busy nd rank now, .int .i64 k5]) ?_ rfl ⟨fun h => absurd h (by rw [hok.out]; simp), fun _ => ?_⟩
    · exact results_srv Try.results18 _ _ (w.heap.size + 2) _ _ rfl rfl h5 rfl
    · rw [HV.out]
      exact ⟨G, _, _, rfl, O5, ⟨by have := hFG.1; show w.heap.size ≤ G; omega, fun i hi => by have := hFG'.2 i hi; omega⟩, B5⟩
  have h3 : decide (3 < busy) = true := decide_eq_true (by omega)
  by_cases hn0' : ¬ nd = (j : Int)
  · have hn' : ((j : Int) == nd) = false := beq_eq_false_iff_ne.2 fun h => hn0' h.symm
    refine region_class (PuS w.heap.size G X busy nd rank now f af cf L H w) (by kernel_rfl) (by kernel_rfl) P.drew ?_
    repeat first
      | go_big_quiet_skip
      | (go_big_quiet_want
         apply Exists.intro
         refine ⟨fun u hu => ?_, ?_⟩
         · exact quietAt_val (hu.sv.took rfl rfl)
         simp only [Act.put, List.setIfInBounds_toArray, List.set_cons_zero, List.set_cons_succ]
         go_big_quiet_on)
      | (go_big_quiet_want
         apply Exists.intro
         refine ⟨fun u hu => ?_, ?_⟩
         · exact quietAt_val (frTookI (f := f) (af := af) (cf := cf) hu.frm rfl rfl)
         simp only [Act.put, List.setIfInBounds_toArray, List.set_cons_zero, List.set_cons_succ]
         go_big_quiet_on)
      | (go_big_quiet_want
         apply Exists.intro
         refine ⟨fun u hu => ?_, ?_⟩
         · apply quietAt_val
           have x0 := hu.sv.cell 0
           have x2 := hu.sv.cell 2
           have x3 := hu.sv.cell 3
           go_simp
           rfl
         simp only [Act.put, List.setIfInBounds_toArray, List.set_cons_zero, List.set_cons_succ]
         go_big_quiet_on)
      | (go_big_quiet_want
         apply Exists.intro
         refine ⟨fun u hu => ?_, ?_⟩
         · apply quietAt_enter 40 #[svV (some ⟨G, 0, none⟩) X.length X.length busy nd rank now]
           · go_simp
           · refine (implSaying _ _ _ _ _ _ _ u).mono ?_
             rintro e w2 ⟨he, b2⟩
             rw [h3] at he
             exact ⟨he, hu.below b2⟩
         simp only [Act.put, List.setIfInBounds_toArray, List.set_cons_zero, List.set_cons_succ]
         go_big_quiet_on)
      | (go_big_quiet_want
         apply Exists.intro
         refine ⟨fun u hu => ?_, ?_⟩
         · apply quietAt_enter 41 #[frV f.id f.rm f.ln af f.D.length cf]
           · go_simp
           · refine (implRankOf _ _ _ _ _ _ u hu.nums).mono ?_
             rintro e w2 ⟨he, b2⟩
             exact ⟨he, hu.below b2⟩
         simp only [Act.put, List.setIfInBounds_toArray, List.set_cons_zero, List.set_cons_succ]
         go_big_quiet_on)
    refine wpQuiet_nil ?_
    intro W4 P4
    clear P h3 h30 hn' hn0'
    obtain ⟨al, cl, hcG, hfr, hA⟩ := P4.cellG hbx hj
    go_upto_region 8 with fail
    refine wp_region_held (S := fun u => u.heap[w.heap.size]? = some (.cells (svC (some ⟨G, 0, none⟩) X.length X.length busy nd rank now) 29 (0, 0)) ∧ u.heap[w.heap.size + 1]? = some (.cells (frC f af cf) 43 (0, 0)) ∧ u.cell? ⟨G, j, none⟩ = some (.slice al (nthB X j).length cl)) (by kernel_rfl) ?_
    have B0 : Below W4.heap.size W4 { W4 with drawn := W4.drawn + 1 } := (Below.refl _ _).drew
    replace P4 := P4.below B0
    replace hcG := (B0.cell (World.block_lt_of_cell? _ _ hcG)).trans hcG
    replace hfr := hfr.below B0
    generalize ({ W4 with drawn := W4.drawn + 1 } : World) = V at P4 hcG hfr ⊢
    clear B0
    have hS : V.heap[w.heap.size]? = some (.cells (svC (some ⟨G, 0, none⟩) X.length X.length busy nd rank now) 29 (0, 0)) ∧ V.heap[w.heap.size + 1]? = some (.cells (frC f af cf) 43 (0, 0)) ∧ V.cell? ⟨G, j, none⟩ = some (.slice al (nthB X j).length cl) := ⟨P4.blk, P4.frm, hcG⟩
    refine h_take 0 38 (.pointer (some ⟨w.heap.size, 0, none⟩)) rfl rfl (by kernel_rfl) (by kernel_rfl) (by kernel_rfl) (fun _ _ _ h => h) rfl (fun u hu => by go_simp) hS ?_
    refine h_take 1 39 (.slice (some ⟨G, 0, none⟩) X.length X.length) rfl rfl (by kernel_rfl) (by kernel_rfl) (by kernel_rfl) (fun _ _ _ h => h) rfl (fun u hu => by have c0 := cell_of_row u _ 0 _ _ _ hu.1; go_simp) hS ?_
    refine h_take 2 40 (.int .i64 (j : Int)) rfl rfl (by kernel_rfl) (by kernel_rfl) (by kernel_rfl) (fun _ _ _ h => h) rfl (fun u hu => by go_simp) hS ?_
    refine h_take 3 41 (.pointer (some ⟨G, j, none⟩)) rfl rfl (by kernel_rfl) (by kernel_rfl) (by kernel_rfl) (fun _ _ _ h => h) rfl (fun u hu => by go_simp) hS ?_
    refine h_take 4 42 (.slice al (nthB X j).length cl) rfl rfl (by kernel_rfl) (by kernel_rfl) (by kernel_rfl) (fun _ _ _ h => h) rfl (fun u hu => by have c0 := hu.2.2; go_simp) hS ?_
    refine h_take 5 43 (frV f.id f.rm f.ln af f.D.length cf) rfl rfl (by kernel_rfl) (by kernel_rfl) (by kernel_rfl) (fun _ _ _ h => h) rfl (fun u hu => frTookI hu.2.1 rfl rfl) hS ?_
    simp only [Act.put, List.setIfInBounds_toArray, List.set_cons_zero, List.set_cons_succ]
    refine h_call 6 44 42 #[.slice al (nthB X j).length cl, frV f.id f.rm f.ln af f.D.length cf] rfl rfl (by kernel_rfl) rfl (by go_simp) ?_
    refine (show Calls _ _ _ _ (PutGot (putV (nthB X j) f) V) from implPutIn al (nthB X j) cl f.id f.rm f.ln af f.D cf V hfr hA.1 hA.2 P4.nums).mono ?_
    rintro e w5 ⟨M, a5, c5, rfl, hM, OB, FB, b⟩
    have OX : OwnX True V.heap.size w5.heap.size (putV (nthB X j) f).1 (.slice a5 (putV (nthB X j) f).1.length c5) w5 := ⟨M, a5, c5, rfl, hM, OB, fun _ => FB, OB.under⟩
    have hle := b.size
    have hzV : w.heap.size + 3 ≤ V.heap.size := (Array.getElem?_eq_some_iff.1 P4.res).1
    have hHj : ∀ i, i < X.length → H i ≤ V.heap.size := fun i hi => (P4.box.out i hi).2.1
    have hGV := P4.box.lt
    have P5 := P4.below b
    have hcG5 := (b.cell (World.block_lt_of_cell? _ _ hcG)).trans hcG
    clear OB FB hM b hfr hA P4 hS hcG
    generalize hL5 : (putV (nthB X j) f).1 = L5 at *
    generalize hk5 : (putV (nthB X j) f).2 = k5 at *
    replace hL5 := Lib.hid hL5
    replace hk5 := Lib.hid hk5
    have hS : w5.heap[w.heap.size]? = some (.cells (svC (some ⟨G, 0, none⟩) X.length X.length busy nd rank now) 29 (0, 0)) ∧ w5.heap[w.heap.size + 1]? = some (.cells (frC f af cf) 43 (0, 0)) ∧ w5.cell? ⟨G, j, none⟩ = some (.slice al (nthB X j).length cl) := ⟨P5.blk, P5.frm, hcG5⟩
    refine ⟨_, rfl, hS, ?_⟩
    simp only [Act.put, List.setIfInBounds_toArray, List.set_cons_zero, List.set_cons_succ]
    refine h_take 7 37 (.tuple #[.slice a5 L5.length c5, .int .i64 k5]) rfl rfl (by kernel_rfl) (by kernel_rfl) (by kernel_rfl) (fun _ _ _ h => h) rfl (fun u hu => by go_simp) hS ?_
    refine h_take 8 45 (.slice a5 L5.length c5) rfl rfl (by kernel_rfl) (by kernel_rfl) (by kernel_rfl) (fun _ _ _ h => h) rfl (fun u hu => by go_simp) hS ?_
    refine h_take 9 46 (.int .i64 k5) rfl rfl (by kernel_rfl) (by kernel_rfl) (by kernel_rfl) (fun _ _ _ h => h) rfl (fun u hu => by go_simp) hS ?_
    refine h_take 10 8 (.slice a5 L5.length c5) rfl rfl (by kernel_rfl) (by kernel_rfl) (by kernel_rfl) (fun _ _ _ h => h) rfl (fun u hu => by go_simp) hS ?_
    refine h_take 11 9 (.int .i64 k5) rfl rfl (by kernel_rfl) (by kernel_rfl) (by kernel_rfl) (fun _ _ _ h => h) rfl (fun u hu => by go_simp) hS ?_
    simp only [Act.put, List.setIfInBounds_toArray, List.set_cons_zero, List.set_cons_succ]
    refine wpAnyH_done (by kernel_rfl) ?_ _
    clear hS
    have c0 := cell_of_row w5 w.heap.size 0 _ _ _ P5.blk
    obtain ⟨cur, hcb, hcs, -⟩ := P5.box.row
    have f0 := frozen_of_row w5 G j _ _ hcb
    clear hcb hcs cur
    go_upto_region 10 with fail
    have O6 := (P5.box.put (i := j) (lo := V.heap.size) (hi := w5.heap.size) (X' := X.set j L5) (v := .slice a5 L5.length c5) hj (fun i hi hne => by rw [nthB_set hj, if_neg hne]) (by rw [nthB_set hj, if_pos rfl]; exact OX) hle (Nat.le_refl _) (.inl hGV) (fun i hi _ => .inl (hHj i hi))).less (F' := fun i => i < X.length) (fun i hi => .inl hi)
    have m := mid_cell w5 G j (.slice a5 L5.length c5)
    have hlX : (X.set j L5).length = X.length := List.length_set
    have hGl := hFG.1
    have P6 : PuS w.heap.size G (X.set j L5) busy nd rank now f af cf (fun i => if i = j then V.heap.size else L i) (fun i => if i = j then w5.heap.size else H i) w (w5.setCell ⟨G, j, none⟩ (.slice a5 L5.length c5)) := by
      refine ⟨?_, (m.block _ (Array.getElem?_eq_some_iff.1 P5.frm).1 (by omega)).trans P5.frm, (m.block _ (Array.getElem?_eq_some_iff.1 P5.res).1 (by omega)).trans P5.res, ?_, ?_, P5.bel.trans (m.below (by omega) P5.bel.size)⟩
      · rw [hlX]; exact (m.block _ (Array.getElem?_eq_some_iff.1 P5.blk).1 (by omega)).trans P5.blk
      · rw [hlX]; exact O6
      · exact hn0.below (P5.bel.trans (m.below (by omega) P5.bel.size))
    have hFG' : FromB (w.heap.size + 3) G (X.set j L5).length (fun i => if i = j then V.heap.size else L i) := ⟨hFG.1, fun i hi => by
      rw [hlX] at hi
      dsimp only
      split
      · exact hzV
      · exact hFG.2 i hi⟩
    have HV : Hid (putS ⟨X, busy, nd, rank, now⟩ (j : Int) f = (⟨X.set j L5, busy, nd, rank, now⟩, k5)) := Lib.hid (by
      unfold putS
      rw [if_pos hok.out, if_pos ⟨by omega, by show (j : Int) < (X.length : Int); omega⟩, if_neg hq]
      show ((⟨X.set (j : Int).toNat (putV (nthB X (j : Int).toNat) f).1, busy, nd, rank, now⟩ : Srv), (putV (nthB X (j : Int).toNat) f).2) = _
      rw [Int.toNat_natCast, hL5.out, hk5.out])
    clear m O6 P5 OX hGV hHj hle hcG5 f0 c0
    generalize w5.setCell _ _ = w6 at P6 ⊢
    clear hlX
    generalize X.set j L5 = X' at P6 hFG' HV
    have e0 := cell_of_row w6 (w.heap.size + 2) 0 _ _ _ P6.res
    have e1 := cell_of_row w6 (w.heap.size + 2) 1 _ _ _ P6.res
    have e2 := cell_of_row w6 (w.heap.size + 2) 2 _ _ _ P6.res
    have e3 := cell_of_row w6 (w.heap.size + 2) 3 _ _ _ P6.res
    have e4 := cell_of_row w6 (w.heap.size + 2) 4 _ _ _ P6.res
    have k0 := frozen_of_row w6 (w.heap.size + 2) 0 _ _ P6.res
    have k1 := frozen_of_row w6 (w.heap.size + 2) 1 _ _ P6.res
    have k2 := frozen_of_row w6 (w.heap.size + 2) 2 _ _ P6.res
    have k3 := frozen_of_row w6 (w.heap.size + 2) 3 _ _ P6.res
    have k4 := frozen_of_row w6 (w.heap.size + 2) 4 _ _ P6.res
    go_wp2_with (refine P6.sv.take rfl rfl rfl ?_)
    clear e0 e1 e2 e3 e4 k0 k1 k2 k3 k4
    obtain ⟨h5, O5, B5⟩ := P6.fin rfl (by first | exact hFG | exact hFG') _ rfl
    refine bodyPost_ret (v := .tuple #[svV (some ⟨G, 0, none⟩) X'.length X'.length busy nd rank now, .int .i64 k5]) ?_ rfl ⟨fun h => absurd h (by rw [hok.out]; simp), fun _ => ?_⟩
    · exact results_srv Try.results18 _ _ (w.heap.size + 2) _ _ rfl rfl h5 rfl
    · rw [HV.out]
      exact ⟨G, _, _, rfl, O5, ⟨by have := hFG.1; show w.heap.size ≤ G; omega, fun i hi => by have := hFG'.2 i hi; omega⟩, B5⟩
  · have hn' : ((j : Int) == nd) = true := by rw [Classical.not_not.1 hn0']; exact beq_self_eq_true _
    have hr' : (rankV f.id f.rm f.ln f.D == rank) = false := beq_eq_false_iff_ne.2 fun h => hq ⟨by omega, Classical.not_not.1 hn0', h.symm⟩
    refine region_class (PuS w.heap.size G X busy nd rank now f af cf L H w) (by kernel_rfl) (by kernel_rfl) P.drew ?_
    repeat first
      | go_big_quiet_skip
      | (go_big_quiet_want
         apply Exists.intro
         refine ⟨fun u hu => ?_, ?_⟩
         · exact quietAt_val (hu.sv.took rfl rfl)
         simp only [Act.put, List.setIfInBounds_toArray, List.set_cons_zero, List.set_cons_succ]
         go_big_quiet_on)
      | (go_big_quiet_want
         apply Exists.intro
         refine ⟨fun u hu => ?_, ?_⟩
         · exact quietAt_val (frTookI (f := f) (af := af) (cf := cf) hu.frm rfl rfl)
         simp only [Act.put, List.setIfInBounds_toArray, List.set_cons_zero, List.set_cons_succ]
         go_big_quiet_on)
      | (go_big_quiet_want
         apply Exists.intro
         refine ⟨fun u hu => ?_, ?_⟩
         · apply quietAt_val
           have x0 := hu.sv.cell 0
           have x2 := hu.sv.cell 2
           have x3 := hu.sv.cell 3
           go_simp
           rfl
         simp only [Act.put, List.setIfInBounds_toArray, List.set_cons_zero, List.set_cons_succ]
         go_big_quiet_on)
      | (go_big_quiet_want
         apply Exists.intro
         refine ⟨fun u hu => ?_, ?_⟩
         · apply quietAt_enter 40 #[svV (some ⟨G, 0, none⟩) X.length X.length busy nd rank now]
           · go_simp
           · refine (implSaying _ _ _ _ _ _ _ u).mono ?_
             rintro e w2 ⟨he, b2⟩
             rw [h3] at he
             exact ⟨he, hu.below b2⟩
         simp only [Act.put, List.setIfInBounds_toArray, List.set_cons_zero, List.set_cons_succ]
         go_big_quiet_on)
      | (go_big_quiet_want
         apply Exists.intro
         refine ⟨fun u hu => ?_, ?_⟩
         · apply quietAt_enter 41 #[frV f.id f.rm f.ln af f.D.length cf]
           · go_simp
           · refine (implRankOf _ _ _ _ _ _ u hu.nums).mono ?_
             rintro e w2 ⟨he, b2⟩
             exact ⟨he, hu.below b2⟩
         simp only [Act.put, List.setIfInBounds_toArray, List.set_cons_zero, List.set_cons_succ]
         go_big_quiet_on)
    refine wpQuiet_nil ?_
    intro W4 P4
    clear P h3 h30 hn' hn0' hr'
    obtain ⟨al, cl, hcG, hfr, hA⟩ := P4.cellG hbx hj
    go_upto_region 8 with fail
    refine wp_region_held (S := fun u => u.heap[w.heap.size]? = some (.cells (svC (some ⟨G, 0, none⟩) X.length X.length busy nd rank now) 29 (0, 0)) ∧ u.heap[w.heap.size + 1]? = some (.cells (frC f af cf) 43 (0, 0)) ∧ u.cell? ⟨G, j, none⟩ = some (.slice al (nthB X j).length cl)) (by kernel_rfl) ?_
    have B0 : Below W4.heap.size W4 { W4 with drawn := W4.drawn + 1 } := (Below.refl _ _).drew
    replace P4 := P4.below B0
    replace hcG := (B0.cell (World.block_lt_of_cell? _ _ hcG)).trans hcG
    replace hfr := hfr.below B0
    generalize ({ W4 with drawn := W4.drawn + 1 } : World) = V at P4 hcG hfr ⊢
    clear B0
    have hS : V.heap[w.heap.size]? = some (.cells (svC (some ⟨G, 0, none⟩) X.length X.length busy nd rank now) 29 (0, 0)) ∧ V.heap[w.heap.size + 1]? = some (.cells (frC f af cf) 43 (0, 0)) ∧ V.cell? ⟨G, j, none⟩ = some (.slice al (nthB X j).length cl) := ⟨P4.blk, P4.frm, hcG⟩
    refine h_take 0 38 (.pointer (some ⟨w.heap.size, 0, none⟩)) rfl rfl (by kernel_rfl) (by kernel_rfl) (by kernel_rfl) (fun _ _ _ h => h) rfl (fun u hu => by go_simp) hS ?_
    refine h_take 1 39 (.slice (some ⟨G, 0, none⟩) X.length X.length) rfl rfl (by kernel_rfl) (by kernel_rfl) (by kernel_rfl) (fun _ _ _ h => h) rfl (fun u hu => by have c0 := cell_of_row u _ 0 _ _ _ hu.1; go_simp) hS ?_
    refine h_take 2 40 (.int .i64 (j : Int)) rfl rfl (by kernel_rfl) (by kernel_rfl) (by kernel_rfl) (fun _ _ _ h => h) rfl (fun u hu => by go_simp) hS ?_
    refine h_take 3 41 (.pointer (some ⟨G, j, none⟩)) rfl rfl (by kernel_rfl) (by kernel_rfl) (by kernel_rfl) (fun _ _ _ h => h) rfl (fun u hu => by go_simp) hS ?_
    refine h_take 4 42 (.slice al (nthB X j).length cl) rfl rfl (by kernel_rfl) (by kernel_rfl) (by kernel_rfl) (fun _ _ _ h => h) rfl (fun u hu => by have c0 := hu.2.2; go_simp) hS ?_
    refine h_take 5 43 (frV f.id f.rm f.ln af f.D.length cf) rfl rfl (by kernel_rfl) (by kernel_rfl) (by kernel_rfl) (fun _ _ _ h => h) rfl (fun u hu => frTookI hu.2.1 rfl rfl) hS ?_
    simp only [Act.put, List.setIfInBounds_toArray, List.set_cons_zero, List.set_cons_succ]
    refine h_call 6 44 42 #[.slice al (nthB X j).length cl, frV f.id f.rm f.ln af f.D.length cf] rfl rfl (by kernel_rfl) rfl (by go_simp) ?_
    refine (show Calls _ _ _ _ (PutGot (putV (nthB X j) f) V) from implPutIn al (nthB X j) cl f.id f.rm f.ln af f.D cf V hfr hA.1 hA.2 P4.nums).mono ?_
    rintro e w5 ⟨M, a5, c5, rfl, hM, OB, FB, b⟩
    have OX : OwnX True V.heap.size w5.heap.size (putV (nthB X j) f).1 (.slice a5 (putV (nthB X j) f).1.length c5) w5 := ⟨M, a5, c5, rfl, hM, OB, fun _ => FB, OB.under⟩
    have hle := b.size
    have hzV : w.heap.size + 3 ≤ V.heap.size := (Array.getElem?_eq_some_iff.1 P4.res).1
    have hHj : ∀ i, i < X.length → H i ≤ V.heap.size := fun i hi => (P4.box.out i hi).2.1
    have hGV := P4.box.lt
    have P5 := P4.below b
    have hcG5 := (b.cell (World.block_lt_of_cell? _ _ hcG)).trans hcG
    clear OB FB hM b hfr hA P4 hS hcG
    generalize hL5 : (putV (nthB X j) f).1 = L5 at *
    generalize hk5 : (putV (nthB X j) f).2 = k5 at *
    replace hL5 := Lib.hid hL5
    replace hk5 := Lib.hid hk5
    have hS : w5.heap[w.heap.size]? = some (.cells (svC (some ⟨G, 0, none⟩) X.length X.length busy nd rank now) 29 (0, 0)) ∧ w5.heap[w.heap.size + 1]? = some (.cells (frC f af cf) 43 (0, 0)) ∧ w5.cell? ⟨G, j, none⟩ = some (.slice al (nthB X j).length cl) := ⟨P5.blk, P5.frm, hcG5⟩
    refine ⟨_, rfl, hS, ?_⟩
    simp only [Act.put, List.setIfInBounds_toArray, List.set_cons_zero, List.set_cons_succ]
    refine h_take 7 37 (.tuple #[.slice a5 L5.length c5, .int .i64 k5]) rfl rfl (by kernel_rfl) (by kernel_rfl) (by kernel_rfl) (fun _ _ _ h => h) rfl (fun u hu => by go_simp) hS ?_
    refine h_take 8 45 (.slice a5 L5.length c5) rfl rfl (by kernel_rfl) (by kernel_rfl) (by kernel_rfl) (fun _ _ _ h => h) rfl (fun u hu => by go_simp) hS ?_
    refine h_take 9 46 (.int .i64 k5) rfl rfl (by kernel_rfl) (by kernel_rfl) (by kernel_rfl) (fun _ _ _ h => h) rfl (fun u hu => by go_simp) hS ?_
    refine h_take 10 8 (.slice a5 L5.length c5) rfl rfl (by kernel_rfl) (by kernel_rfl) (by kernel_rfl) (fun _ _ _ h => h) rfl (fun u hu => by go_simp) hS ?_
    refine h_take 11 9 (.int .i64 k5) rfl rfl (by kernel_rfl) (by kernel_rfl) (by kernel_rfl) (fun _ _ _ h => h) rfl (fun u hu => by go_simp) hS ?_
    simp only [Act.put, List.setIfInBounds_toArray, List.set_cons_zero, List.set_cons_succ]
    refine wpAnyH_done (by kernel_rfl) ?_ _
    clear hS
    have c0 := cell_of_row w5 w.heap.size 0 _ _ _ P5.blk
    obtain ⟨cur, hcb, hcs, -⟩ := P5.box.row
    have f0 := frozen_of_row w5 G j _ _ hcb
    clear hcb hcs cur
    go_upto_region 10 with fail
    have O6 := (P5.box.put (i := j) (lo := V.heap.size) (hi := w5.heap.size) (X' := X.set j L5) (v := .slice a5 L5.length c5) hj (fun i hi hne => by rw [nthB_set hj, if_neg hne]) (by rw [nthB_set hj, if_pos rfl]; exact OX) hle (Nat.le_refl _) (.inl hGV) (fun i hi _ => .inl (hHj i hi))).less (F' := fun i => i < X.length) (fun i hi => .inl hi)
    have m := mid_cell w5 G j (.slice a5 L5.length c5)
    have hlX : (X.set j L5).length = X.length := List.length_set
    have hGl := hFG.1
    have P6 : PuS w.heap.size G (X.set j L5) busy nd rank now f af cf (fun i => if i = j then V.heap.size else L i) (fun i => if i = j then w5.heap.size else H i) w (w5.setCell ⟨G, j, none⟩ (.slice a5 L5.length c5)) := by
      refine ⟨?_, (m.block _ (Array.getElem?_eq_some_iff.1 P5.frm).1 (by omega)).trans P5.frm, (m.block _ (Array.getElem?_eq_some_iff.1 P5.res).1 (by omega)).trans P5.res, ?_, ?_, P5.bel.trans (m.below (by omega) P5.bel.size)⟩
      · rw [hlX]; exact (m.block _ (Array.getElem?_eq_some_iff.1 P5.blk).1 (by omega)).trans P5.blk
      · rw [hlX]; exact O6
      · exact hn0.below (P5.bel.trans (m.below (by omega) P5.bel.size))
    have hFG' : FromB (w.heap.size + 3) G (X.set j L5).length (fun i => if i = j then V.heap.size else L i) := ⟨hFG.1, fun i hi => by
      rw [hlX] at hi
      dsimp only
      split
      · exact hzV
      · exact hFG.2 i hi⟩
    have HV : Hid (putS ⟨X, busy, nd, rank, now⟩ (j : Int) f = (⟨X.set j L5, busy, nd, rank, now⟩, k5)) := Lib.hid (by
      unfold putS
      rw [if_pos hok.out, if_pos ⟨by omega, by show (j : Int) < (X.length : Int); omega⟩, if_neg hq]
      show ((⟨X.set (j : Int).toNat (putV (nthB X (j : Int).toNat) f).1, busy, nd, rank, now⟩ : Srv), (putV (nthB X (j : Int).toNat) f).2) = _
      rw [Int.toNat_natCast, hL5.out, hk5.out])
    clear m O6 P5 OX hGV hHj hle hcG5 f0 c0
    generalize w5.setCell _ _ = w6 at P6 ⊢
    clear hlX
    generalize X.set j L5 = X' at P6 hFG' HV
    have e0 := cell_of_row w6 (w.heap.size + 2) 0 _ _ _ P6.res
    have e1 := cell_of_row w6 (w.heap.size + 2) 1 _ _ _ P6.res
    have e2 := cell_of_row w6 (w.heap.size + 2) 2 _ _ _ P6.res
    have e3 := cell_of_row w6 (w.heap.size + 2) 3 _ _ _ P6.res
    have e4 := cell_of_row w6 (w.heap.size + 2) 4 _ _ _ P6.res
    have k0 := frozen_of_row w6 (w.heap.size + 2) 0 _ _ P6.res
    have k1 := frozen_of_row w6 (w.heap.size + 2) 1 _ _ P6.res
    have k2 := frozen_of_row w6 (w.heap.size + 2) 2 _ _ P6.res
    have k3 := frozen_of_row w6 (w.heap.size + 2) 3 _ _ P6.res
    have k4 := frozen_of_row w6 (w.heap.size + 2) 4 _ _ P6.res
    go_wp2_with (refine P6.sv.take rfl rfl rfl ?_)
    clear e0 e1 e2 e3 e4 k0 k1 k2 k3 k4
    obtain ⟨h5, O5, B5⟩ := P6.fin rfl (by first | exact hFG | exact hFG') _ rfl
    refine bodyPost_ret (v := .tuple #[svV (some ⟨G, 0, none⟩) X'.length X'.length busy nd rank now, .int .i64 k5]) ?_ rfl ⟨fun h => absurd h (by rw [hok.out]; simp), fun _ => ?_⟩
    · exact results_srv Try.results18 _ _ (w.heap.size + 2) _ _ rfl rfl h5 rfl
    · rw [HV.out]
      exact ⟨G, _, _, rfl, O5, ⟨by have := hFG.1; show w.heap.size ≤ G; omega, fun i hi => by have := hFG'.2 i hi; omega⟩, B5⟩
end Go.Proofs.Ytpefcbpapmfejaa

/- spec.l14Copy. -/

set_option linter.unusedVariables false
set_option linter.unusedSimpArgs false
set_option maxRecDepth 20000
namespace Go.Proofs.Ytpefcbpapmfejaa
open Go.RowKit

/-- The model's answer: a server of the call's own; frames may share data. -/
def SrM (s : Srv) (w : World) (e : Ending) (w' : World) : Prop :=
  ∃ G cap c L H, e = .returned (svV (some ⟨G, 0, none⟩) s.bx.length c s.busy s.node s.rank s.now) ∧ BoxO False G cap (fun j => j < s.bx.length) s.bx L H w' ∧ FromB w.heap.size G s.bx.length L ∧ s.bx.length ≤ cap ∧ Below w.heap.size w w'
set_option maxHeartbeats 8000000 in
/-- spec.l14Copy of right boxes. -/
theorem specCopySrv (R : Option Addr → Nat → Nat → Prop) (a : Option Addr) (X : List (List Frm)) (c : Nat) (busy node rank now : Int) (w : World) (hd : Bxs R a X w) (hb : boxesB X = true) :
    Calls Try.prog 33 #[svV a X.length c busy node rank now] w (SrM ⟨X, busy, node, rank, now⟩ w) := by
  have h26 := boxesB_iff.1 hb
  obtain ⟨h2, h6, -⟩ := h26
  have hm := hd.1
  have hsm : Hid (∀ j, j < X.length → (nthB X j).length ≤ 16 ∧ ∀ i, i < (nthB X j).length → (nthF (nthB X j) i).D.length ≤ 8) := Lib.hid fun j hj => box_small hb hj
  replace hb := Lib.hid hb
  obtain ⟨HC, HR, HO, B⟩ := three_made w (svC a X.length c busy node rank now) (svC none 0 0 0 0 0 0) (svC a X.length c busy node rank now) 29 29 29
  go_enter Try.func33, Try.ntmps33
  go_upto_region 2 with fail
  have hs3 : (((w.alloc (.cells (svC a X.length c busy node rank now) 29)).alloc (.cells (svC none 0 0 0 0 0 0) 29)).alloc (.cells (svC a X.length c busy node rank now) 29)).heap.size = w.heap.size + 3 := by simp
  generalize ((w.alloc (.cells (svC a X.length c busy node rank now) 29)).alloc (.cells (svC none 0 0 0 0 0 0) 29)).alloc (.cells (svC a X.length c busy node rank now) 29) = W at HC HR HO B hs3 ⊢
  have d0 := cell_of_row _ _ 0 _ _ _ HO
  have k0 := frozen_of_row _ _ 0 _ _ HO
  go_upto_region 3 with fail
  clear d0 k0
  have m0 := mid_cell W (w.heap.size + 2) 0 (.slice (some ⟨w.heap.size + 3, 0, none⟩) 0 0)
  have HO1 := heap_setCell_same W (w.heap.size + 2) 0 _ _ (.slice (some ⟨w.heap.size + 3, 0, none⟩) 0 0) HO
  replace HC := (m0.block _ (Array.getElem?_eq_some_iff.1 HC).1 (.inl (by omega))).trans HC
  replace HR := (m0.block _ (Array.getElem?_eq_some_iff.1 HR).1 (.inl (by omega))).trans HR
  replace B := B.trans (m0.below (B := w.heap.size) (by omega) B.size)
  have hs1 : (W.setCell ⟨w.heap.size + 2, 0, none⟩ (.slice (some ⟨w.heap.size + 3, 0, none⟩) 0 0)).heap.size = w.heap.size + 3 := by simpa using hs3
  clear m0 HO hs3
  generalize W.setCell _ _ = W1 at HC HR HO1 B hs1 ⊢
  have RX1 := row_made W1 (B := w.heap.size + 3) (by omega) X (fun _ => .slice none 0 0) (fun _ => 0) (fun _ => 0)
  have ba := below_more (Below.refl W1.heap.size W1) (.cells #[] 51)
  have hsa : (W1.alloc (.cells #[] 51)).heap.size = w.heap.size + 4 := by simp; omega
  replace HC := blkX HC ba
  replace HR := blkX HR ba
  replace HO1 := blkX HO1 ba
  replace B := Below.then2 B ba
  rw [hs1] at RX1
  clear ba hs1
  generalize W1.alloc _ = W2 at HC HR HO1 B RX1 hsa ⊢
  go_wp2_with fail
  go_loopw [4] (fun i wr => ∃ (k : Nat) (P : Nat → Value) (L H : Nat → Nat) (v : Value), k ≤ X.length ∧ i = .int .i64 k ∧ wr.heap[w.heap.size]? = some (.cells (svC a X.length c busy node rank now) 29 (0, 0)) ∧ wr.heap[w.heap.size + 1]? = some (.cells (svC none 0 0 0 0 0 0) 29 (0, 0)) ∧ wr.heap[w.heap.size + 2]? = some (.cells #[v, .int .i64 busy, .int .i64 node, .int .i64 rank, .int .i64 now] 29 (0, 0)) ∧ RowX (OwnX False) (w.heap.size + 3) k X P L H v wr ∧ w.heap.size + 3 ≤ wr.heap.size ∧ Below w.heap.size w wr) (fun i _ => X.length - (intOf i).toNat)
  case atStart => exact ⟨0, _, _, _, _, Nat.zero_le _, rfl, HC, HR, HO1, RX1, by omega, B⟩
  case round =>
    clear HC HR HO1 RX1 B hsa
    obtain ⟨k, P, L, H, v, hk, rfl, HC, HR, HO, RX, hs3, B⟩ := hrel
    have c0 := cell_of_row wr _ 0 _ _ _ HC
    by_cases hlt : k < X.length
    · go_upto_region 6 with fail
      obtain ⟨g, o, al, cl, rfl, hc0, hnm0, -⟩ := hd.2 k hlt
      have hgw : g < w.heap.size := World.block_lt_of_cell? w _ hc0
      have hc := (B.cell (p := ⟨g, o + k, none⟩) hgw).trans hc0
      have hnm := hnm0.below B
      clear hc0 hnm0
      obtain ⟨hs16, hs8⟩ := hsm.out k hlt
      replace hs8 := Lib.hid hs8
      have hnn : ∃ M, M = nthB X k := ⟨_, rfl⟩
      obtain ⟨M, hnn⟩ := hnn
      rw [← hnn] at hc hnm hs16 hs8
      replace hnn := Lib.hid hnn
      have hwk : IntKind.i64.wrap (k : Int) = (k : Int) := IntWalk.i64_in _ (by omega)
      refine wp_region_held (S := fun u => u.heap[w.heap.size]? = some (.cells (svC (some ⟨g, o, none⟩) X.length c busy node rank now) 29 (0, 0)) ∧ u.cell? ⟨g, o + k, none⟩ = some (.slice al M.length cl)) (by kernel_rfl) ?_
      have B0 : Below wr.heap.size wr { wr with drawn := wr.drawn + 1 } := (Below.refl _ _).drew
      replace HC := blkX HC B0
      replace HR := blkX HR B0
      replace HO := blkX HO B0
      replace hc := (B0.cell (World.block_lt_of_cell? _ _ hc)).trans hc
      replace RX := RX.below (ownX_sep False) B0
      replace hnm := hnm.below B0
      replace B := Below.then2 B B0
      replace hs3 := Nat.le_trans hs3 B0.size
      generalize ({ wr with drawn := wr.drawn + 1 } : World) = V at HC HR HO hc RX hnm B hs3 ⊢
      clear B0 c0
      obtain ⟨av, cv, rfl⟩ := RX.is
      have hlo : ∀ j, j < k → H j ≤ V.heap.size := fun j hj => (RX.out j hj).2.2
      have hgl : ∀ q, (Value.slice av k cv).ownBlock = some q → q < V.heap.size := RX.lt
      have hge : ∀ q, (Value.slice av k cv).ownBlock = some q → w.heap.size + 3 ≤ q := fun q hq => by
        rcases RX.own.2 with ⟨e, _⟩ | ⟨g', cap, cur, e, hb, _⟩
        · rw [e] at hq; cases hq
        · rw [e] at hq; cases hq; exact hb
      refine h_take 0 15 (.pointer (some ⟨w.heap.size + 2, 0, none⟩)) rfl rfl (by kernel_rfl) (by kernel_rfl) (by kernel_rfl) (fun _ _ _ h => h) rfl (fun u hu => by go_simp) ⟨HC, hc⟩ ?_
      refine h_take 2 17 (.pointer (some ⟨w.heap.size, 0, none⟩)) rfl rfl (by kernel_rfl) (by kernel_rfl) (by kernel_rfl) (fun _ _ _ h => h) rfl (fun u hu => by go_simp) ⟨HC, hc⟩ ?_
      refine h_take 3 18 (.slice (some ⟨g, o, none⟩) X.length c) rfl rfl (by kernel_rfl) (by kernel_rfl) (by kernel_rfl) (fun _ _ _ h => h) rfl (fun u hu => by have c0 := cell_of_row u _ 0 _ _ _ hu.1; go_simp) ⟨HC, hc⟩ ?_
      refine h_take 4 19 (.int .i64 (k : Int)) rfl rfl (by kernel_rfl) (by kernel_rfl) (by kernel_rfl) (fun _ _ _ h => h) rfl (fun u hu => by go_simp) ⟨HC, hc⟩ ?_
      refine h_take 5 20 (.pointer (some ⟨g, o + k, none⟩)) rfl rfl (by kernel_rfl) (by kernel_rfl) (by kernel_rfl) (fun _ _ _ h => h) rfl (fun u hu => by go_simp) ⟨HC, hc⟩ ?_
      refine h_take 6 21 (.slice al M.length cl) rfl rfl (by kernel_rfl) (by kernel_rfl) (by kernel_rfl) (fun _ _ _ h => h) rfl (fun u hu => by have c0 := hu.2; go_simp) ⟨HC, hc⟩ ?_
      simp only [Act.put, List.setIfInBounds_toArray, List.set_cons_zero, List.set_cons_succ]
      refine held_fork 1 7 (by kernel_rfl) (op_at rfl) (op_at rfl) rfl rfl ?pa ?pb
      case pa =>
        refine value_wp (.slice av k cv) V (by have c0 := cell_of_row _ _ 0 _ _ _ HO; go_simp) ?_
        refine ⟨⟨HC, hc⟩, ?_⟩
        simp only [Act.put, List.setIfInBounds_toArray, List.set_cons_zero, List.set_cons_succ]
        refine h_call 7 22 52 #[.slice al M.length cl] rfl rfl (by kernel_rfl) rfl (by go_simp) ?_
        refine (copyAllB al M cl _ hnm (by omega) (fun i hi => by have := hs8.out i hi; omega)).mono ?_
        intro e w2 G3
        obtain ⟨a3, c3, rfl, hM, b⟩ := OwnX.goto G3
        have hVle := b.size
        replace HC := blkX HC b
        replace HR := blkX HR b
        replace HO := blkX HO b
        replace hc := (b.cell (World.block_lt_of_cell? _ _ hc)).trans hc
        replace RX := RX.below (ownX_sep False) b
        replace B := Below.then2 B b
        clear b hnm G3
        refine ⟨_, rfl, ⟨HC, hc⟩, ?_⟩
        simp only [Act.put, List.setIfInBounds_toArray, List.set_cons_zero, List.set_cons_succ]
        refine h_new 8 23 (.slice (some ⟨w2.heap.size, 0, none⟩) 1 1) (w2.alloc (.cells #[.slice a3 M.length c3] 51)) rfl rfl (by kernel_rfl) rfl (by go_simp) ?_
        have HT := heap_alloc_new w2 (.cells #[.slice a3 M.length c3] 51)
        have b := below_more (Below.refl w2.heap.size w2) (.cells #[.slice a3 M.length c3] 51)
        have hM2 := (ownX_sep False) _ _ _ _ _ _ 0 0 hM (Mid.ofBelow b) (.inr (Nat.zero_le _)) (Nat.le_refl _)
        have hle2 := b.size
        replace HC := blkX HC b
        replace HR := blkX HR b
        replace HO := blkX HO b
        replace hc := (b.cell (World.block_lt_of_cell? _ _ hc)).trans hc
        replace RX := RX.below (ownX_sep False) b
        replace B := Below.then2 B b
        clear b hM
        generalize w2.alloc _ = w3 at HT HC HR HO hc RX B hM2 hle2 ⊢
        refine ⟨⟨HC, hc⟩, ?_⟩
        simp only [Act.put, List.setIfInBounds_toArray, List.set_cons_zero, List.set_cons_succ]
        replace hM2 : OwnX False V.heap.size w2.heap.size (nthB X k) (.slice a3 M.length c3) w3 := by rw [← hnn.out]; exact hM2
        refine held_appX (ownX_sep False) 9 24 (.slice av k cv) (.slice a3 M.length c3) V.heap.size w2.heap.size w2.heap.size 1 rfl rfl (by kernel_rfl) rfl rfl rfl RX (by omega) rfl rfl HT hM2 hs3 hVle hle2 hlo hgl (by omega) ?_
        intro v4 w4 RX4 gr
        have hne : ∀ q, q < w.heap.size + 3 → some q ≠ (Value.slice av k cv).ownBlock := fun q hq e => by have := hge q e.symm; omega
        replace HC := (gr.block _ (Array.getElem?_eq_some_iff.1 HC).1 (hne _ (by omega))).trans HC
        replace HR := (gr.block _ (Array.getElem?_eq_some_iff.1 HR).1 (hne _ (by omega))).trans HR
        replace HO := (gr.block _ (Array.getElem?_eq_some_iff.1 HO).1 (hne _ (by omega))).trans HO
        have hgW : g < w3.heap.size := World.block_lt_of_cell? w3 _ hc
        replace hc : w4.cell? ⟨g, o + k, none⟩ = some (.slice al M.length cl) := (World.cell?_of_block (gr.block g hgW (hne g (by omega)))).trans hc
        replace B := B.grown gr B.size (fun q hq => by have := hge q hq; omega)
        have hs4 : w.heap.size + 3 ≤ w4.heap.size := Nat.le_trans (by omega) gr.size
        clear gr hne hge HT hM2 hlo hgl RX hgW
        refine ⟨⟨HC, hc⟩, ?_⟩
        simp only [Act.put, List.setIfInBounds_toArray, List.set_cons_zero, List.set_cons_succ]
        refine h_value 10 25 (.pointer (some ⟨w.heap.size + 2, 0, none⟩)) rfl rfl (by kernel_rfl) rfl (by go_simp) ⟨HC, hc⟩ ?_
        simp only [Act.put, List.setIfInBounds_toArray, List.set_cons_zero, List.set_cons_succ]
        have f0 := frozen_of_row w4 (w.heap.size + 2) 0 _ _ HO
        have c0 := cell_of_row w4 (w.heap.size + 2) 0 _ _ _ HO
        obtain ⟨av4, cv4, rfl⟩ := RX4.is
        refine h_store 11 (w4.setCell ⟨w.heap.size + 2, 0, none⟩ (.slice av4 (k + 1) cv4)) rfl rfl (by kernel_rfl) rfl (by go_simp) ?_
        have m := mid_cell w4 (w.heap.size + 2) 0 (.slice av4 (k + 1) cv4)
        have HO5 := heap_setCell_same w4 (w.heap.size + 2) 0 _ _ (.slice av4 (k + 1) cv4) HO
        replace HC := (m.block _ (Array.getElem?_eq_some_iff.1 HC).1 (.inl (by omega))).trans HC
        replace HR := (m.block _ (Array.getElem?_eq_some_iff.1 HR).1 (.inl (by omega))).trans HR
        have hgW : g < w4.heap.size := World.block_lt_of_cell? w4 _ hc
        replace hc : (w4.setCell ⟨w.heap.size + 2, 0, none⟩ (.slice av4 (k + 1) cv4)).cell? ⟨g, o + k, none⟩ = some (.slice al M.length cl) := (World.cell?_of_block (m.block g hgW (.inl (by omega)))).trans hc
        have hge4 : ∀ q, (Value.slice av4 (k + 1) cv4).ownBlock = some q → w.heap.size + 3 ≤ q := fun q hq => by
          rcases RX4.own.2 with ⟨e, _⟩ | ⟨g', cap, cur, e, hb, _⟩
          · rw [e] at hq; cases hq
          · rw [e] at hq; cases hq; exact hb
        have RX5 := RX4.sep (ownX_sep False) m (fun q hq => .inr (hge4 q hq)) (fun j hj => .inr (by have := RX4.out j hj; omega))
        have B5 := B.trans (m.below (B := w.heap.size) (by omega) B.size)
        have hs5 := Nat.le_trans hs4 m.size
        generalize w4.setCell _ _ = w5 at HC HR HO5 hc RX5 B5 hs5 ⊢
        clear m HO hgW hge4 RX4 B hs4 c0 f0
        refine ⟨⟨HC, hc⟩, ?_⟩
        refine wpAnyH_done (by kernel_rfl) ?_ _
        go_wp2_with fail
        go_roundw
        case rel => exact ⟨k + 1, _, _, _, _, hlt, by go_num, HC, HR, HO5, RX5, hs5, B5⟩
        case measure => simp [intOf]; omega
      case pb =>
        refine call_wp 52 #[.slice al M.length cl] (by go_simp) ?_
        refine (copyAllB al M cl _ hnm (by omega) (fun i hi => by have := hs8.out i hi; omega)).mono ?_
        intro e w2 G3
        obtain ⟨a3, c3, rfl, hM, b⟩ := OwnX.goto G3
        have hVle := b.size
        replace HC := blkX HC b
        replace HR := blkX HR b
        replace HO := blkX HO b
        replace hc := (b.cell (World.block_lt_of_cell? _ _ hc)).trans hc
        replace RX := RX.below (ownX_sep False) b
        replace B := Below.then2 B b
        clear b hnm G3
        refine ⟨_, rfl, ⟨HC, hc⟩, ?_⟩
        simp only [Act.put, List.setIfInBounds_toArray, List.set_cons_zero, List.set_cons_succ]
        refine held_fork 1 8 (by kernel_rfl) (op_at rfl) (op_at rfl) rfl rfl ?pc ?pd
        case pc =>
          refine value_wp (.slice av k cv) w2 (by have c0 := cell_of_row _ _ 0 _ _ _ HO; go_simp) ?_
          refine ⟨⟨HC, hc⟩, ?_⟩
          simp only [Act.put, List.setIfInBounds_toArray, List.set_cons_zero, List.set_cons_succ]
          refine h_new 8 23 (.slice (some ⟨w2.heap.size, 0, none⟩) 1 1) (w2.alloc (.cells #[.slice a3 M.length c3] 51)) rfl rfl (by kernel_rfl) rfl (by go_simp) ?_
          have HT := heap_alloc_new w2 (.cells #[.slice a3 M.length c3] 51)
          have b := below_more (Below.refl w2.heap.size w2) (.cells #[.slice a3 M.length c3] 51)
          have hM2 := (ownX_sep False) _ _ _ _ _ _ 0 0 hM (Mid.ofBelow b) (.inr (Nat.zero_le _)) (Nat.le_refl _)
          have hle2 := b.size
          replace HC := blkX HC b
          replace HR := blkX HR b
          replace HO := blkX HO b
          replace hc := (b.cell (World.block_lt_of_cell? _ _ hc)).trans hc
          replace RX := RX.below (ownX_sep False) b
          replace B := Below.then2 B b
          clear b hM
          generalize w2.alloc _ = w3 at HT HC HR HO hc RX B hM2 hle2 ⊢
          refine ⟨⟨HC, hc⟩, ?_⟩
          simp only [Act.put, List.setIfInBounds_toArray, List.set_cons_zero, List.set_cons_succ]
          replace hM2 : OwnX False V.heap.size w2.heap.size (nthB X k) (.slice a3 M.length c3) w3 := by rw [← hnn.out]; exact hM2
          refine held_appX (ownX_sep False) 9 24 (.slice av k cv) (.slice a3 M.length c3) V.heap.size w2.heap.size w2.heap.size 1 rfl rfl (by kernel_rfl) rfl rfl rfl RX (by omega) rfl rfl HT hM2 hs3 hVle hle2 hlo hgl (by omega) ?_
          intro v4 w4 RX4 gr
          have hne : ∀ q, q < w.heap.size + 3 → some q ≠ (Value.slice av k cv).ownBlock := fun q hq e => by have := hge q e.symm; omega
          replace HC := (gr.block _ (Array.getElem?_eq_some_iff.1 HC).1 (hne _ (by omega))).trans HC
          replace HR := (gr.block _ (Array.getElem?_eq_some_iff.1 HR).1 (hne _ (by omega))).trans HR
          replace HO := (gr.block _ (Array.getElem?_eq_some_iff.1 HO).1 (hne _ (by omega))).trans HO
          have hgW : g < w3.heap.size := World.block_lt_of_cell? w3 _ hc
          replace hc : w4.cell? ⟨g, o + k, none⟩ = some (.slice al M.length cl) := (World.cell?_of_block (gr.block g hgW (hne g (by omega)))).trans hc
          replace B := B.grown gr B.size (fun q hq => by have := hge q hq; omega)
          have hs4 : w.heap.size + 3 ≤ w4.heap.size := Nat.le_trans (by omega) gr.size
          clear gr hne hge HT hM2 hlo hgl RX hgW
          refine ⟨⟨HC, hc⟩, ?_⟩
          simp only [Act.put, List.setIfInBounds_toArray, List.set_cons_zero, List.set_cons_succ]
          refine h_value 10 25 (.pointer (some ⟨w.heap.size + 2, 0, none⟩)) rfl rfl (by kernel_rfl) rfl (by go_simp) ⟨HC, hc⟩ ?_
          simp only [Act.put, List.setIfInBounds_toArray, List.set_cons_zero, List.set_cons_succ]
          have f0 := frozen_of_row w4 (w.heap.size + 2) 0 _ _ HO
          have c0 := cell_of_row w4 (w.heap.size + 2) 0 _ _ _ HO
          obtain ⟨av4, cv4, rfl⟩ := RX4.is
          refine h_store 11 (w4.setCell ⟨w.heap.size + 2, 0, none⟩ (.slice av4 (k + 1) cv4)) rfl rfl (by kernel_rfl) rfl (by go_simp) ?_
          have m := mid_cell w4 (w.heap.size + 2) 0 (.slice av4 (k + 1) cv4)
          have HO5 := heap_setCell_same w4 (w.heap.size + 2) 0 _ _ (.slice av4 (k + 1) cv4) HO
          replace HC := (m.block _ (Array.getElem?_eq_some_iff.1 HC).1 (.inl (by omega))).trans HC
          replace HR := (m.block _ (Array.getElem?_eq_some_iff.1 HR).1 (.inl (by omega))).trans HR
          have hgW : g < w4.heap.size := World.block_lt_of_cell? w4 _ hc
          replace hc : (w4.setCell ⟨w.heap.size + 2, 0, none⟩ (.slice av4 (k + 1) cv4)).cell? ⟨g, o + k, none⟩ = some (.slice al M.length cl) := (World.cell?_of_block (m.block g hgW (.inl (by omega)))).trans hc
          have hge4 : ∀ q, (Value.slice av4 (k + 1) cv4).ownBlock = some q → w.heap.size + 3 ≤ q := fun q hq => by
            rcases RX4.own.2 with ⟨e, _⟩ | ⟨g', cap, cur, e, hb, _⟩
            · rw [e] at hq; cases hq
            · rw [e] at hq; cases hq; exact hb
          have RX5 := RX4.sep (ownX_sep False) m (fun q hq => .inr (hge4 q hq)) (fun j hj => .inr (by have := RX4.out j hj; omega))
          have B5 := B.trans (m.below (B := w.heap.size) (by omega) B.size)
          have hs5 := Nat.le_trans hs4 m.size
          generalize w4.setCell _ _ = w5 at HC HR HO5 hc RX5 B5 hs5 ⊢
          clear m HO hgW hge4 RX4 B hs4 c0 f0
          refine ⟨⟨HC, hc⟩, ?_⟩
          refine wpAnyH_done (by kernel_rfl) ?_ _
          go_wp2_with fail
          go_roundw
          case rel => exact ⟨k + 1, _, _, _, _, hlt, by go_num, HC, HR, HO5, RX5, hs5, B5⟩
          case measure => simp [intOf]; omega
        case pd =>
          refine value_wp (.slice (some ⟨w2.heap.size, 0, none⟩) 1 1) (w2.alloc (.cells #[.slice a3 M.length c3] 51)) (by go_simp) ?_
          have HT := heap_alloc_new w2 (.cells #[.slice a3 M.length c3] 51)
          have b := below_more (Below.refl w2.heap.size w2) (.cells #[.slice a3 M.length c3] 51)
          have hM2 := (ownX_sep False) _ _ _ _ _ _ 0 0 hM (Mid.ofBelow b) (.inr (Nat.zero_le _)) (Nat.le_refl _)
          have hle2 := b.size
          replace HC := blkX HC b
          replace HR := blkX HR b
          replace HO := blkX HO b
          replace hc := (b.cell (World.block_lt_of_cell? _ _ hc)).trans hc
          replace RX := RX.below (ownX_sep False) b
          replace B := Below.then2 B b
          clear b hM
          generalize w2.alloc _ = w3 at HT HC HR HO hc RX B hM2 hle2 ⊢
          refine ⟨⟨HC, hc⟩, ?_⟩
          simp only [Act.put, List.setIfInBounds_toArray, List.set_cons_zero, List.set_cons_succ]
          refine h_value 1 16 (.slice av k cv) rfl rfl (by kernel_rfl) rfl (by have c0 := cell_of_row _ _ 0 _ _ _ HO; go_simp) ⟨HC, hc⟩ ?_
          simp only [Act.put, List.setIfInBounds_toArray, List.set_cons_zero, List.set_cons_succ]
          replace hM2 : OwnX False V.heap.size w2.heap.size (nthB X k) (.slice a3 M.length c3) w3 := by rw [← hnn.out]; exact hM2
          refine held_appX (ownX_sep False) 9 24 (.slice av k cv) (.slice a3 M.length c3) V.heap.size w2.heap.size w2.heap.size 1 rfl rfl (by kernel_rfl) rfl rfl rfl RX (by omega) rfl rfl HT hM2 hs3 hVle hle2 hlo hgl (by omega) ?_
          intro v4 w4 RX4 gr
          have hne : ∀ q, q < w.heap.size + 3 → some q ≠ (Value.slice av k cv).ownBlock := fun q hq e => by have := hge q e.symm; omega
          replace HC := (gr.block _ (Array.getElem?_eq_some_iff.1 HC).1 (hne _ (by omega))).trans HC
          replace HR := (gr.block _ (Array.getElem?_eq_some_iff.1 HR).1 (hne _ (by omega))).trans HR
          replace HO := (gr.block _ (Array.getElem?_eq_some_iff.1 HO).1 (hne _ (by omega))).trans HO
          have hgW : g < w3.heap.size := World.block_lt_of_cell? w3 _ hc
          replace hc : w4.cell? ⟨g, o + k, none⟩ = some (.slice al M.length cl) := (World.cell?_of_block (gr.block g hgW (hne g (by omega)))).trans hc
          replace B := B.grown gr B.size (fun q hq => by have := hge q hq; omega)
          have hs4 : w.heap.size + 3 ≤ w4.heap.size := Nat.le_trans (by omega) gr.size
          clear gr hne hge HT hM2 hlo hgl RX hgW
          refine ⟨⟨HC, hc⟩, ?_⟩
          simp only [Act.put, List.setIfInBounds_toArray, List.set_cons_zero, List.set_cons_succ]
          refine h_value 10 25 (.pointer (some ⟨w.heap.size + 2, 0, none⟩)) rfl rfl (by kernel_rfl) rfl (by go_simp) ⟨HC, hc⟩ ?_
          simp only [Act.put, List.setIfInBounds_toArray, List.set_cons_zero, List.set_cons_succ]
          have f0 := frozen_of_row w4 (w.heap.size + 2) 0 _ _ HO
          have c0 := cell_of_row w4 (w.heap.size + 2) 0 _ _ _ HO
          obtain ⟨av4, cv4, rfl⟩ := RX4.is
          refine h_store 11 (w4.setCell ⟨w.heap.size + 2, 0, none⟩ (.slice av4 (k + 1) cv4)) rfl rfl (by kernel_rfl) rfl (by go_simp) ?_
          have m := mid_cell w4 (w.heap.size + 2) 0 (.slice av4 (k + 1) cv4)
          have HO5 := heap_setCell_same w4 (w.heap.size + 2) 0 _ _ (.slice av4 (k + 1) cv4) HO
          replace HC := (m.block _ (Array.getElem?_eq_some_iff.1 HC).1 (.inl (by omega))).trans HC
          replace HR := (m.block _ (Array.getElem?_eq_some_iff.1 HR).1 (.inl (by omega))).trans HR
          have hgW : g < w4.heap.size := World.block_lt_of_cell? w4 _ hc
          replace hc : (w4.setCell ⟨w.heap.size + 2, 0, none⟩ (.slice av4 (k + 1) cv4)).cell? ⟨g, o + k, none⟩ = some (.slice al M.length cl) := (World.cell?_of_block (m.block g hgW (.inl (by omega)))).trans hc
          have hge4 : ∀ q, (Value.slice av4 (k + 1) cv4).ownBlock = some q → w.heap.size + 3 ≤ q := fun q hq => by
            rcases RX4.own.2 with ⟨e, _⟩ | ⟨g', cap, cur, e, hb, _⟩
            · rw [e] at hq; cases hq
            · rw [e] at hq; cases hq; exact hb
          have RX5 := RX4.sep (ownX_sep False) m (fun q hq => .inr (hge4 q hq)) (fun j hj => .inr (by have := RX4.out j hj; omega))
          have B5 := B.trans (m.below (B := w.heap.size) (by omega) B.size)
          have hs5 := Nat.le_trans hs4 m.size
          generalize w4.setCell _ _ = w5 at HC HR HO5 hc RX5 B5 hs5 ⊢
          clear m HO hgW hge4 RX4 B hs4 c0 f0
          refine ⟨⟨HC, hc⟩, ?_⟩
          refine wpAnyH_done (by kernel_rfl) ?_ _
          go_wp2_with fail
          go_roundw
          case rel => exact ⟨k + 1, _, _, _, _, hlt, by go_num, HC, HR, HO5, RX5, hs5, B5⟩
          case measure => simp [intOf]; omega
    · obtain rfl : k = X.length := by omega
      obtain ⟨G, cap, cv, rfl, O, hF, hcap⟩ := RX.boxO (by omega)
      have d0 := cell_of_row wr (w.heap.size + 2) 0 _ _ _ HO
      have d1 := cell_of_row wr (w.heap.size + 2) 1 _ _ _ HO
      have d2 := cell_of_row wr (w.heap.size + 2) 2 _ _ _ HO
      have d3 := cell_of_row wr (w.heap.size + 2) 3 _ _ _ HO
      have d4 := cell_of_row wr (w.heap.size + 2) 4 _ _ _ HO
      have e0 := cell_of_row wr (w.heap.size + 1) 0 _ _ _ HR
      have e1 := cell_of_row wr (w.heap.size + 1) 1 _ _ _ HR
      have e2 := cell_of_row wr (w.heap.size + 1) 2 _ _ _ HR
      have e3 := cell_of_row wr (w.heap.size + 1) 3 _ _ _ HR
      have e4 := cell_of_row wr (w.heap.size + 1) 4 _ _ _ HR
      have k0 := frozen_of_row wr (w.heap.size + 1) 0 _ _ HR
      have k1 := frozen_of_row wr (w.heap.size + 1) 1 _ _ HR
      have k2 := frozen_of_row wr (w.heap.size + 1) 2 _ _ HR
      have k3 := frozen_of_row wr (w.heap.size + 1) 3 _ _ HR
      have k4 := frozen_of_row wr (w.heap.size + 1) 4 _ _ HR
      go_wp2_with fail
      clear c0 d0 d1 d2 d3 d4 e0 e1 e2 e3 e4 k0 k1 k2 k3 k4
      obtain ⟨HR', m⟩ := set5 HR (.slice (some ⟨G, 0, none⟩) X.length cv) (.int .i64 busy) (.int .i64 node) (.int .i64 rank) (.int .i64 now)
      generalize World.setCell _ _ _ = w2 at m HR' ⊢
      have O' := O.kp (Y := fun q => q < w.heap.size + 1 ∨ w.heap.size + 1 + 1 ≤ q) ⟨m.size, fun q hq hl => m.block q hl hq, m.os, m.tape, m.output⟩ (.inr (by have := hF.1; omega)) (fun j hj q h1 h2 => .inr (by have := hF.2 j hj; omega))
      have B' := B.trans (m.below (B := w.heap.size) (by omega) B.size)
      refine bodyPost_ret (v := svV (some ⟨G, 0, none⟩) X.length cv busy node rank now) ?_ rfl ⟨G, cap, cv, L, H, rfl, O', ⟨by have := hF.1; omega, fun j hj => by have := hF.2 j hj; omega⟩, hcap, B'⟩
      exact results_cell_row rfl _ w2 (w.heap.size + 1) 29 _ (0, 0) _ rfl HR' Try.underlying29 rfl (by kernel_rfl)
end Go.Proofs.Ytpefcbpapmfejaa
