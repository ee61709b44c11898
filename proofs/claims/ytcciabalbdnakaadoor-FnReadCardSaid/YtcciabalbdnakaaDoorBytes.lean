/- The program's bytes of a text of bits (bytesIn): one number for each eight of them. -/
import Derived.Test.YtcciabalbdnakaaDoorReadM
import Derived.Test.YtcciabalbdnakaaDoorNum
import Derived.LoopTactic
import Derived.WalkArith
set_option linter.unusedVariables false
set_option linter.unusedSimpArgs false
set_option maxRecDepth 20000
namespace Go.Proofs.YtcciabalbdnakaaDoor
open Go.RowKit

theorem grown_of_below {w w' : World} (b : Below w.heap.size w w') : w.grownBy w' none := ⟨b.os, b.tape, b.output, b.size, fun k hk _ => b.block k hk⟩
/-- What is left behind k bytes. -/
def tl8 (s : ByteArray) (k : Nat) : ByteArray := s.extract (8 * k) s.size
def at8 (s : ByteArray) (k : Nat) : ByteArray := s.extract (8 * k) (8 * k + 8)
def byD (s : ByteArray) (k : Nat) : List Int := (List.range k).map fun i => numV (at8 s i)
theorem byD_zero (s : ByteArray) : byD s 0 = [] := rfl
theorem byD_succ (s : ByteArray) (k : Nat) : byD s (k + 1) = byD s k ++ [numV (at8 s k)] := by simp [byD, List.range_succ]
theorem byD_len (s : ByteArray) (k : Nat) : (byD s k).length = k := by simp [byD]
theorem tl8_zero (s : ByteArray) : tl8 s 0 = s := by
  apply ba_inj; rw [tl8, ext_list]; simp [List.take_of_length_le, len_list]
theorem tl8_size (s : ByteArray) (k : Nat) : (tl8 s k).size = s.size - 8 * k := by rw [tl8, ByteArray.size_extract]; omega
theorem tl8_front {s : ByteArray} {k : Nat} (h : 8 * k + 8 ≤ s.size) : (tl8 s k).extract 0 8 = at8 s k := by
  apply ba_inj
  rw [ext_list, tl8, at8, ext_list, ext_list, List.drop_zero, List.take_take]
  congr 1
  omega
theorem tl8_back {s : ByteArray} {k : Nat} (h : 8 * k + 8 ≤ s.size) : (tl8 s k).extract 8 (tl8 s k).size = tl8 s (k + 1) := by
  apply ba_inj
  rw [ext_list, tl8_size, tl8, tl8, ext_list, ext_list, List.drop_take, List.drop_drop, List.take_take]
  congr 1
  omega
theorem at8_size {s : ByteArray} {k : Nat} (h : 8 * k + 8 ≤ s.size) : (at8 s k).size = 8 := by rw [at8, ByteArray.size_extract]; omega

theorem tl8_more {s : ByteArray} {k : Nat} (h : 8 * k + 8 ≤ s.size) : (tl8 s k).toList.isEmpty = false := by
  rw [ByteArray.toList_eq]
  cases e : (tl8 s k).data.toList with
  | nil => have h1 := tl8_size s k; rw [← len_list, e] at h1; simp at h1; omega
  | cons a r => rfl
theorem tl8_none {s : ByteArray} {k : Nat} (h : s.size = 8 * k) : (tl8 s k).toList.isEmpty = true := by
  rw [ByteArray.toList_eq]
  cases e : (tl8 s k).data.toList with
  | nil => rfl
  | cons a r => have h1 := tl8_size s k; rw [← len_list, e] at h1; simp at h1; omega

/-- impl.bytesIn. -/
theorem implBytes (s : ByteArray) (n : Nat) (w : World) (hn : s.size = 8 * n) (hm : n ≤ 1000) :
    Calls Tryd.prog 53 #[.string s] w fun e w' => ∃ v, e = .returned v ∧ OwnI w.heap.size (byD s n) v w' ∧ Below w.heap.size w w' := by
  go_enter Tryd.func53, Tryd.ntmps53
  have h0 : tl8 s 0 = s := tl8_zero s
  go_wp2
  go_loopw [0, 3] (fun t v wr => ∃ k : Nat, k ≤ n ∧ t = .string (tl8 s k) ∧ OwnI w.heap.size (byD s k) v wr ∧ Below w.heap.size w wr) (fun t _ _ => match t with | .string t => t.size | _ => 0)
  case atStart => exact ⟨0, Nat.zero_le _, by rw [h0], OwnI.nil _ _, Below.refl _ _⟩
  case round =>
    obtain ⟨k, hk, rfl, HO, hB⟩ := hrel
    by_cases hkn : k < n
    · have ht := tl8_more (s := s) (k := k) (by omega)
      have hf := tl8_front (s := s) (k := k) (by omega)
      have hr := tl8_back (s := s) (k := k) (by omega)
      have hz : 8 ≤ (tl8 s k).size := by rw [tl8_size]; omega
      have hz2 : (tl8 s (k + 1)).size < (tl8 s k).size := by rw [tl8_size, tl8_size]; omega
      have ha := at8_size (s := s) (k := k) (by omega)
      have hbd := numV_bd (at8 s k)
      have hwf : (Lit.int .i64 (numV (at8 s k))).wf = true := Go.WalkArith.wf_i64 ⟨by omega, by omega⟩
      have HD := Lib.hid (byD_succ s k)
      have hlen := byD_len s k
      obtain ⟨D', hD'⟩ : ∃ D', D' = byD s (k + 1) := ⟨_, rfl⟩
      obtain ⟨t', ht'⟩ : ∃ t', t' = tl8 s (k + 1) := ⟨_, rfl⟩
      rw [← hD'] at HD
      rw [← ht'] at hr hz2
      replace hD' := Lib.hid hD'
      replace ht' := Lib.hid ht'
      generalize byD s k = D at HO HD hlen
      generalize tl8 s k = t at *
      go_wp2_with fail
      refine (implNum _ _ (by rw [ha]; decide)).mono ?_
      rintro e w1 ⟨rfl, b1⟩
      have hsz := hB.size
      replace HO := HO.kept (grown_of_below b1) (Classical.em _)
      replace hB := hB.trans (b1.mono hsz)
      replace hsz := hB.size
      clear b1 hf ha
      generalize numV (at8 s k) = z at *
      generalize numOk (at8 s k) = k1
      have hc : (w1.alloc (.cells #[.int .i64 z] 2)).cell? ⟨w1.heap.size, 0, none⟩ = some (.int .i64 z) := World.cell?_alloc_at _ _ _ _ rfl
      have hB1 := hB.alloc hsz (.cells #[.int .i64 z] 2)
      go_wp2_with (at_builtin; refine wpList_appI rfl _ _ rfl w.heap.size D z _ rfl (HO.kept (World.grownBy_alloc _ _ none) (Classical.em _)) w1.heap.size 1 rfl hc hwf ?c1 ?c2 ?_)
      case c1 => omega
      case c2 => exact hB1.size
      intro av cv w2 HO2 k2
      have hB2 : Below w.heap.size w w2 := hB1.grown k2 hB1.size (fun q hq => HO.low hq)
      rw [← HD.out] at HO2
      clear HO hB hB1 k2 hc hwf hbd HD
      go_wp2_with fail
      go_roundw
      case rel => exact ⟨k + 1, by omega, by rw [ht'.out], by rw [hD'.out] at HO2; exact HO2, hB2⟩
      case measure => simpa using hz2
    · have ht := tl8_none (s := s) (k := k) (by omega)
      obtain rfl : k = n := by omega
      go_wp2_with fail
      go_ret
      exact ⟨_, rfl, HO, hB⟩
end Go.Proofs.YtcciabalbdnakaaDoor
