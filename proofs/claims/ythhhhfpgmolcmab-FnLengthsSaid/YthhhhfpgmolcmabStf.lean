/- The closure of stuffing, by a contract: what it keeps (the last bit that was put out, and how many at the end are alike), and what it answers. -/
import Derived.Test.YthhhhfpgmolcmabStuff
import Derived.Test.YthhhhfpgmolcmabOk
import Derived.Test.YthhhhfpgmolcmabShelf
import Derived.WalkKit
import Derived.WalkSpells
import Derived.LoopTactic
import Derived.Lib.Hide
import Derived.IntWalk
import Derived.WalkSmall
import Derived.BigCall
namespace Go.Proofs.Ythhhhfpgmolcmab
open Go.RowKit

/-- What the closure keeps, in two blocks. -/
def Kept (L R : Nat) (last : Int) (n : Int) (w : World) : Prop :=
  w.heap[L]? = some (.cells #[.int .i32 last] 21 (0, 0)) ∧ w.heap[R]? = some (.cells #[.int .i64 n] 2 (0, 0))
/-- Nothing turns but these two blocks. -/
def Two (L R : Nat) (w w' : World) : Prop := w'.os = w.os ∧ w'.tape = w.tape ∧ w'.output = w.output ∧ w'.heap.size = w.heap.size ∧ ∀ k, k ≠ L → k ≠ R → w'.heap[k]? = w.heap[k]?
theorem Two.below {L R B : Nat} {w w' : World} (h : Two L R w w') (hL : B ≤ L) (hR : B ≤ R) : Below B w w' :=
  ⟨h.1, h.2.1, h.2.2.1, by rw [h.2.2.2.1]; exact Nat.le_refl _, fun k hk => h.2.2.2.2 k (by omega) (by omega)⟩
theorem Two.builder {L R B b : Nat} {T e : TypeId} {bs : List Value} {w w' : World} (h : Two L R w w') (hL : L < B) (hR : R < B) (k : Lib.IsBuilderF T e B b bs w) : Lib.IsBuilderF T e B b bs w' := by
  have one : ∀ p, Lib.BuilderAtF T e B b p bs w → Lib.BuilderAtF T e B b p bs w' := by
    intro p ⟨hB, v, hb, hown, hne⟩
    refine ⟨hB, v, (h.2.2.2.2 b (by omega) (by omega)).trans hb, ⟨hown.1, ?_⟩, hne⟩
    rcases hown.2 with hn | ⟨g, cap, cur, fz, hv, hbg, hg, rest⟩
    · exact .inl hn
    · exact .inr ⟨g, cap, cur, fz, hv, hbg, (h.2.2.2.2 g (by omega) (by omega)).trans hg, rest⟩
  exact k.elim (fun x => .inl (one _ x)) (fun x => .inr (one _ x))
theorem Two.refl (L R : Nat) (w : World) : Two L R w w := ⟨rfl, rfl, rfl, rfl, fun _ _ _ => rfl⟩
theorem Two.trans {L R : Nat} {a b c : World} (h : Two L R a b) (k : Two L R b c) : Two L R a c :=
  ⟨k.1.trans h.1, k.2.1.trans h.2.1, k.2.2.1.trans h.2.2.1, k.2.2.2.1.trans h.2.2.2.1, fun i hi hj => (k.2.2.2.2 i hi hj).trans (h.2.2.2.2 i hi hj)⟩

theorem cell_set (w : World) (g : Nat) (t : TypeId) (u v : Value) (h : w.heap[g]? = some (.cells #[u] t (0, 0))) : (w.setCell ⟨g, 0, none⟩ v).heap[g]? = some (.cells #[v] t (0, 0)) := by
  rw [setCell_eq_setRow w g 0 #[u] t (0, 0) v h, setRow_heap w g #[u] _ t (0, 0) h]; rfl
theorem set_size (w : World) (p : Addr) (v : Value) : (w.setCell p v).heap.size = w.heap.size := by simp [World.setCell]
theorem Kept.set {L R : Nat} {a n : Int} {w : World} (h : Kept L R a n w) (hne : L ≠ R) (x y : Int) :
    Kept L R x y ((w.setCell ⟨L, 0, none⟩ (.int .i32 x)).setCell ⟨R, 0, none⟩ (.int .i64 y)) ∧ Two L R w ((w.setCell ⟨L, 0, none⟩ (.int .i32 x)).setCell ⟨R, 0, none⟩ (.int .i64 y)) := by
  refine ⟨⟨?_, ?_⟩, rfl, rfl, rfl, ?_, fun k hL hR => ?_⟩
  · rw [Below.heap_setCell _ _ _ _ hne]; exact cell_set w L _ _ _ h.1
  · exact cell_set _ R _ _ _ ((Below.heap_setCell _ _ _ _ fun e => hne e.symm).trans h.2)
  · rw [set_size, set_size]
  · rw [Below.heap_setCell _ _ _ _ hR, Below.heap_setCell _ _ _ _ hL]
theorem Kept.setR {L R : Nat} {a n : Int} {w : World} (h : Kept L R a n w) (hne : L ≠ R) (y : Int) :
    Kept L R a y (w.setCell ⟨R, 0, none⟩ (.int .i64 y)) ∧ Two L R w (w.setCell ⟨R, 0, none⟩ (.int .i64 y)) := by
  refine ⟨⟨(Below.heap_setCell _ _ _ _ hne).trans h.1, cell_set w R _ _ _ h.2⟩, rfl, rfl, rfl, set_size _ _ _, fun k _ hR => Below.heap_setCell _ _ _ _ hR⟩

/-- What is put in behind c. -/
def due (b : List UInt8) (c : UInt8) : List UInt8 := if run (b ++ [c]) = 5 then [flip c] else []
theorem stf_due (b : List UInt8) (c : UInt8) : stf b c = b ++ [c] ++ due b c := by unfold stf due; split <;> simp
theorem enc_other {c : UInt8} (h : bit c = true) : Utf8.encode (97 - (c.toNat : Int)) = ⟨#[flip c]⟩ := by
  rcases bit_val h with rfl | rfl <;> decide
theorem flip_nat {c : UInt8} (h : bit c = true) : ((flip c).toNat : Int) = 97 - (c.toNat : Int) := by
  rcases bit_val h with rfl | rfl <;> decide
theorem ret_str {a b : ByteArray} (h : a = b) : Ending.returned (.string a) = .returned (.string b) := by rw [h]

theorem closureStep (L R : Nat) (b : List UInt8) (c : UInt8) (w : World) (hne : L ≠ R) (hb : bit c = true) (hn4 : run b ≤ 4) (h : Kept L R (lastC b) (run b) w) :
    Calls Try.prog 56 #[.int .i32 c.toNat, .pointer (some ⟨L, 0, none⟩), .pointer (some ⟨R, 0, none⟩)] w fun e w' =>
      e = .returned (.string ⟨(due b c).toArray⟩) ∧ Kept L R (lastC (stf b c)) (run (stf b c)) w' ∧ Two L R w w' := by
  have cL : w.cell? ⟨L, 0, none⟩ = some (.int .i32 (lastC b)) := by simp [World.cell?, h.1]
  have cR : w.cell? ⟨R, 0, none⟩ = some (.int .i64 (run b)) := by simp [World.cell?, h.2]
  have fL : w.frozen? ⟨L, 0, none⟩ = false := by simp [World.frozen?, h.1]
  have fR : w.frozen? ⟨R, 0, none⟩ = false := by simp [World.frozen?, h.2]
  have hne' : R ≠ L := fun e => hne e.symm
  have hc := bit_cases hb
  have HK := Lib.hid h
  have HB := Lib.hid hb
  by_cases h1 : lastC b = (c.toNat : Int)
  · have HR := Lib.hid (run_same h1 (bit_ne0 hb))
    by_cases h5 : run b < 4
    · have HD : Hid (due b c = [] ∧ stf b c = b ++ [c]) := Lib.hid (by unfold due stf; rw [HR.out, if_neg (by omega), if_neg (by omega)]; exact ⟨rfl, rfl⟩)
      have h5' : ((run b : Nat) : Int) + 1 < 5 := by omega
      have d0 : 0 ≤ ((run b : Nat) : Int) := by omega
      clear hb h hn4
      go_enter Try.func56, Try.ntmps56
      go_wp2
      go_ret
      obtain ⟨k1, k2⟩ := HK.out.set hne (c.toNat : Int) ((run b : Nat) + 1)
      refine ⟨ret_str (by rw [HD.out.1]), ?_, k2⟩
      rw [HD.out.2, lastC_snoc, HR.out]; exact_mod_cast k1
    · have HD : Hid (due b c = [flip c] ∧ stf b c = b ++ [c] ++ [flip c]) := Lib.hid (by unfold due stf; rw [HR.out, if_pos (by omega), if_pos (by omega)]; exact ⟨rfl, rfl⟩)
      have h5' : 5 ≤ ((run b : Nat) : Int) + 1 := by omega
      have d1 : ((run b : Nat) : Int) ≤ 4 := by omega
      clear hb h hn4
      go_enter Try.func56, Try.ntmps56
      go_wp2
      go_ret
      obtain ⟨k1, k2⟩ := HK.out.set hne (c.toNat : Int) ((run b : Nat) + 1)
      obtain ⟨k3, k4⟩ := k1.set hne (97 - (c.toNat : Int)) 1
      refine ⟨ret_str (by rw [HD.out.1, enc_other HB.out]), ?_, k2.trans k4⟩
      rw [HD.out.2, lastC_snoc, run_flip _ HB.out, flip_nat HB.out]; exact k3
  · have HR := Lib.hid (run_other h1)
    have HD : Hid (due b c = [] ∧ stf b c = b ++ [c]) := Lib.hid (by unfold due stf; rw [HR.out, if_neg (by omega), if_neg (by omega)]; exact ⟨rfl, rfl⟩)
    have h1' : (c.toNat : Int) ≠ lastC b := fun e => h1 e.symm
    clear hb h hn4
    go_enter Try.func56, Try.ntmps56
    go_wp2
    go_ret
    obtain ⟨k1, k2⟩ := HK.out.setR hne 0
    obtain ⟨k3, k4⟩ := k1.set hne (c.toNat : Int) 1
    refine ⟨ret_str (by rw [HD.out.1]), ?_, k2.trans k4⟩
    rw [HD.out.2, lastC_snoc, HR.out]; exact k3

/-- The closure is made. -/
theorem closureMade (w : World) :
    Calls Try.prog 40 #[] w fun e w' =>
      e = .returned (.func (.func 56) #[] #[.pointer (some ⟨w.heap.size, 0, none⟩), .pointer (some ⟨w.heap.size + 1, 0, none⟩)]) ∧
      w' = (w.alloc (.cells #[.int .i32 0] 21)).alloc (.cells #[.int .i64 0] 2) := by
  have hmf : ∀ (fn : Fn) (first cap : Array Value) (w : World), (Instr.makeFunc fn first cap).run Try.prog w = .ok (.func fn first cap) w := fun _ _ _ _ => rfl
  go_enter Try.func40, Try.ntmps40
  go_wp2
  go_ret
  exact ⟨rfl, rfl⟩

end Go.Proofs.Ythhhhfpgmolcmab
