/- laws.markBus, laws.heldBus. -/
import Derived.Test.YtjlegnnekjcpmaaGreatMarkHE
import Derived.Test.YtjlegnnekjcpmaaGreatQatIE
set_option linter.unusedVariables false
set_option linter.unusedSimpArgs false
set_option maxRecDepth 20000
namespace Go.Proofs.YtjlegnnekjcpmaaGreat
open Go.RowKit

theorem mixN_nil (k : Int) (j : Nat) : mixN k [] j = [] := rfl
theorem OwnNs.nds {B hi c : Nat} {a : Option Addr} {N : List Nd} {w : World} (h : OwnNs B hi a c N w) (hm : N.length ≤ maxLen) (hs : sumN N N.length ≤ 1048576) : Nds Bare a N w := by
  rcases h with ⟨rfl, rfl, rfl⟩ | ⟨G, rfl, h⟩
  · exact ⟨Nat.zero_le _, fun j hj => absurd hj (by simp)⟩
  · exact h.nds hm hs
theorem OwnNs.below {B hi c : Nat} {a : Option Addr} {N : List Nd} {w w' : World} (h : OwnNs B hi a c N w) (b : Below w.heap.size w w') : OwnNs B hi a c N w' := by
  rcases h with h | ⟨G, e, h⟩
  · exact .inl h
  · exact .inr ⟨G, e, h.below b⟩
theorem OwnNs.sep {B hi c lo' hi' : Nat} {a : Option Addr} {N : List Nd} {w w' : World} (h : OwnNs B hi a c N w) (m : Mid lo' hi' w w') (hs : hi ≤ lo' ∨ hi' ≤ B) : OwnNs B hi a c N w' := by
  rcases h with h | ⟨G, e, h⟩
  · exact .inl h
  · exact .inr ⟨G, e, h.sep m hs⟩
theorem markS_len (k : Int) : (markS k).size ≤ 1 + k.toNat := by
  have := mtV_size k.toNat k.toNat ⟨#[]⟩
  rw [show (ByteArray.size ⟨#[]⟩) = 0 from rfl] at this
  unfold markS
  rw [ByteArray.size_append, show (ByteArray.size ⟨#[109]⟩) = 1 from rfl]
  omega
theorem roomN_mk (k : Int) (n : Nd) : roomN (mkNd k n) ≤ roomN n + (markS (m1N k n)).size := by
  unfold roomN mkNd
  simp only [marks_len, mkL_len, mksP_len, room_mkL _ _ _ (Nat.le_refl _)]
  omega
theorem sumN_small {N : List Nd} (hr : ∀ j, j < N.length → roomN (nthN N j) ≤ 600) : ∀ j, j ≤ N.length → sumN N j ≤ 600 * j
  | 0, _ => by rw [sumN_zero]; omega
  | j + 1, hj => by
    have ih := sumN_small hr j (by omega)
    have := hr j (by omega)
    rw [sumN_succ _ _ (by omega)]
    omega
/-- A small bus stays small when it is marked. -/
theorem sumN_mix {k : Int} {N : List Nd} (hr : ∀ j, j < N.length → roomN (nthN N j) ≤ 600) (h6 : N.length ≤ 6) (h0 : 0 < k) (h1 : k ≤ 100000) : ∀ j, j ≤ N.length → sumN (mixN k N N.length) j ≤ 120000 * j
  | 0, _ => by rw [sumN_zero]; omega
  | j + 1, hj => by
    have ih := sumN_mix hr h6 h0 h1 j (by omega)
    rw [sumN_succ _ _ (by rw [mixN_len]; omega), mixN_full (by omega)]
    have h2 := hr j (by omega)
    have h3 := roomN_mk (kNs k N j) (nthN N j)
    have h4 := markS_len (m1N (kNs k N j) (nthN N j))
    have h5 := (kNs_bd (k := k) (N := N) (j := j) (by omega)).2
    have h7 := sumN_small hr j (by omega)
    have h8 : (nthN N j).fr.D.length ≤ 600 := by unfold roomN at h2; omega
    have h9 : m1N (kNs k N j) (nthN N j) ≤ kNs k N j + 607 := by unfold m1N; omega
    omega
theorem markNodesNil (k0 : Int) (w : World) : Calls Tryz.prog 61 #[.slice none 0 0, .int .i64 k0] w fun e w' => e = .returned (.int .i64 k0) ∧ w = w' := by
  go_enter Tryz.func61, Tryz.ntmps61
  go_wp2_with fail
  go_loopw [1, 5] (fun k i wr => k = .int .i64 k0 ∧ i = .int .i64 0 ∧ w = wr) (fun _ _ _ => 0)
  case atStart => exact ⟨rfl, rfl, rfl⟩
  case round =>
    obtain ⟨rfl, rfl, rfl⟩ := hrel
    go_wp2_with fail
    go_ret
    exact ⟨rfl, rfl⟩
set_option maxHeartbeats 4000000 in
/-- laws.markBus of a bus that the call owns. -/
theorem markBusO (B hi c : Nat) (a : Option Addr) (N : List Nd) (now k0 : Int) (w : World) (HO : OwnNs B hi a c N w) (hi0 : hi ≤ w.heap.size) (hs : N.length + sumN N N.length ≤ 1048577) (h0 : 0 < k0) (h1 : k0 ≤ 20000000) :
    Calls Tryz.prog 22 #[buV a N.length c now, .int .i64 k0] w fun e w' => e = .returned (.int .i64 (kNs k0 N N.length)) ∧ OwnNs B hi a c (mixN k0 N N.length) w' ∧ Mid B hi w w' := by
  obtain ⟨HC, b⟩ := one_made w (buC a N.length c now) 29
  go_enter Tryz.func22, Tryz.ntmps22
  go_upto_region 1 with fail
  generalize World.alloc _ _ = W at HC b ⊢
  generalize w.heap.size = g1 at HC ⊢
  have c0 := cell_of_row W g1 0 _ _ _ HC
  have m0 : Mid B hi w W := Mid.ofBelow b
  have hz := b.size
  rcases HO with ⟨rfl, rfl, rfl⟩ | ⟨G, rfl, HO⟩
  · go_wp2_with fail
    refine (markNodesNil k0 W).mono ?_
    rintro e w2 ⟨rfl, rfl⟩
    go_wp2_with fail
    go_ret
    exact ⟨by rw [show kNs k0 [] ([] : List Nd).length = k0 from kNs_zero _ _]; rfl, .inl ⟨rfl, rfl, rfl⟩, m0⟩
  · replace HO := HO.below b
    go_wp2_with fail
    refine (markNodes B G hi c N k0 W HO (by omega) (by omega) hs h0 h1).mono ?_
    rintro e w2 ⟨rfl, O2, m2⟩
    go_wp2_with fail
    go_ret
    exact ⟨rfl, .inr ⟨G, rfl, by rw [mixN_len]; exact O2⟩, m0.trans m2⟩
set_option maxHeartbeats 4000000 in
/-- laws.heldBus of a marked bus. -/
theorem heldBusO (R : NdP → Prop) (a : Option Addr) (N : List Nd) (c : Nat) (now k0 : Int) (w : World) (hd : Nds R a (mixN k0 N N.length) w) (hs : N.length + sumN N N.length ≤ 1048577) (h0 : 0 < k0) (h1 : k0 ≤ 20000000) :
    Calls Tryz.prog 23 #[buV a N.length c now, .int .i64 k0] w fun e w' => e = .returned (.int .i64 (kNs k0 N N.length)) ∧ Below w.heap.size w w' := by
  have hkb := kNs_bd (k := k0) (N := N) (j := N.length) (Nat.le_refl _)
  have hng : ¬ kNs k0 N N.length < 0 := by omega
  obtain ⟨HC, b⟩ := one_made w (buC a N.length c now) 29
  go_enter Tryz.func23, Tryz.ntmps23
  go_upto_region 1 with fail
  generalize World.alloc _ _ = W at HC b ⊢
  generalize w.heap.size = g1 at HC ⊢
  have c0 := cell_of_row W g1 0 _ _ _ HC
  go_wp2_with fail
  refine (heldNodes R a N c k0 W (hd.below b) (by omega) hs h0 h1).mono ?_
  rintro e w2 ⟨rfl, b2⟩
  have hb := Below.then2 b b2
  go_wp2_with fail
  go_ret
  exact ⟨rfl, hb⟩
end Go.Proofs.YtjlegnnekjcpmaaGreat

