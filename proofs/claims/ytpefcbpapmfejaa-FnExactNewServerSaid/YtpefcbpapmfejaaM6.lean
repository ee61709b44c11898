/- The closure of stuffing, by a contract: what it keeps (the last bit that was put out, and how many at the end are alike), and what it answers. -/
import Derived.Test.YtpefcbpapmfejaaM0
import Derived.Test.YtpefcbpapmfejaaM1
import Derived.Test.YtpefcbpapmfejaaM4
import Derived.WalkKit
import Derived.WalkSpells
import Derived.LoopTactic
import Derived.Lib.Hide
import Derived.IntWalk
import Derived.WalkSmall
import Derived.BigCall
import Derived.Lib.OthersKept

set_option maxRecDepth 20000
namespace Go.Proofs.Ytpefcbpapmfejaa
open Go.RowKit

/-- What the closure keeps, in two blocks. -/
def Kept (L R : Nat) (last : Int) (n : Int) (w : World) : Prop :=
  w.heap[L]? = some (.cells #[.int .i32 last] 21 (0, 0)) ∧ w.heap[R]? = some (.cells #[.int .i64 n] 2 (0, 0))
/-- Nothing turns but these two blocks. -/
def Two (L R : Nat) (w w' : World) : Prop := w'.os = w.os ∧ w'.tape = w.tape ∧ w'.output = w.output ∧ w'.heap.size = w.heap.size ∧ ∀ k, k ≠ L → k ≠ R → w'.heap[k]? = w.heap[k]?
theorem Two.below {L R B : Nat} {w w' : World} (h : Two L R w w') (hL : B ≤ L) (hR : B ≤ R) : Below B w w' :=
  ⟨h.1, h.2.1, h.2.2.1, by rw [h.2.2.2.1]; exact Nat.le_refl _, fun k hk => h.2.2.2.2 k (by omega) (by omega)⟩
theorem Two.builder {L R B b : Nat} {T e : TypeId} {bs : List Value} {w w' : World} (h : Two L R w w') (hL : L < B) (hR : R < B) (k : Lib.IsBuilderF T e B b bs w) : Lib.IsBuilderF T e B b bs w' := by
  have one : ∀ p, Lib.BuilderAtF T e B b p bs w → Lib.BuilderAtF T e B b p bs w' := by
    intro p ⟨hB, v, hb, hown, hne⟩
    refine ⟨hB, v, (h.2.2.2.2 b (by omega) (by omega)).trans hb, ⟨hown.1, ?_⟩, hne⟩
    rcases hown.2 with hn | ⟨g, cap, cur, fz, hv, hbg, hg, rest⟩
    · exact .inl hn
    · exact .inr ⟨g, cap, cur, fz, hv, hbg, (h.2.2.2.2 g (by omega) (by omega)).trans hg, rest⟩
  exact k.elim (fun x => .inl (one _ x)) (fun x => .inr (one _ x))
theorem Two.refl (L R : Nat) (w : World) : Two L R w w := ⟨rfl, rfl, rfl, rfl, fun _ _ _ => rfl⟩
theorem Two.trans {L R : Nat} {a b c : World} (h : Two L R a b) (k : Two L R b c) : Two L R a c :=
  ⟨k.1.trans h.1, k.2.1.trans h.2.1, k.2.2.1.trans h.2.2.1, k.2.2.2.1.trans h.2.2.2.1, fun i hi hj => (k.2.2.2.2 i hi hj).trans (h.2.2.2.2 i hi hj)⟩

theorem cell_set (w : World) (g : Nat) (t : TypeId) (u v : Value) (h : w.heap[g]? = some (.cells #[u] t (0, 0))) : (w.setCell ⟨g, 0, none⟩ v).heap[g]? = some (.cells #[v] t (0, 0)) := by
  rw [setCell_eq_setRow w g 0 #[u] t (0, 0) v h, setRow_heap w g #[u] _ t (0, 0) h]; rfl
theorem set_size (w : World) (p : Addr) (v : Value) : (w.setCell p v).heap.size = w.heap.size := by simp [World.setCell]
theorem Kept.set {L R : Nat} {a n : Int} {w : World} (h : Kept L R a n w) (hne : L ≠ R) (x y : Int) :
    Kept L R x y ((w.setCell ⟨L, 0, none⟩ (.int .i32 x)).setCell ⟨R, 0, none⟩ (.int .i64 y)) ∧ Two L R w ((w.setCell ⟨L, 0, none⟩ (.int .i32 x)).setCell ⟨R, 0, none⟩ (.int .i64 y)) := by
  refine ⟨⟨?_, ?_⟩, rfl, rfl, rfl, ?_, fun k hL hR => ?_⟩
  · rw [Below.heap_setCell _ _ _ _ hne]; exact cell_set w L _ _ _ h.1
  · exact cell_set _ R _ _ _ ((Below.heap_setCell _ _ _ _ fun e => hne e.symm).trans h.2)
  · rw [set_size, set_size]
  · rw [Below.heap_setCell _ _ _ _ hR, Below.heap_setCell _ _ _ _ hL]
theorem Kept.setR {L R : Nat} {a n : Int} {w : World} (h : Kept L R a n w) (hne : L ≠ R) (y : Int) :
    Kept L R a y (w.setCell ⟨R, 0, none⟩ (.int .i64 y)) ∧ Two L R w (w.setCell ⟨R, 0, none⟩ (.int .i64 y)) := by
  refine ⟨⟨(Below.heap_setCell _ _ _ _ hne).trans h.1, cell_set w R _ _ _ h.2⟩, rfl, rfl, rfl, set_size _ _ _, fun k _ hR => Below.heap_setCell _ _ _ _ hR⟩

/-- What is put in behind c. -/
def due (b : List UInt8) (c : UInt8) : List UInt8 := if run (b ++ [c]) = 5 then [flip c] else []
theorem stf_due (b : List UInt8) (c : UInt8) : stf b c = b ++ [c] ++ due b c := by unfold stf due; split <;> simp
theorem enc_other {c : UInt8} (h : bit c = true) : Utf8.encode (97 - (c.toNat : Int)) = ⟨#[flip c]⟩ := by
  rcases bit_val h with rfl | rfl <;> decide
theorem flip_nat {c : UInt8} (h : bit c = true) : ((flip c).toNat : Int) = 97 - (c.toNat : Int) := by
  rcases bit_val h with rfl | rfl <;> decide
theorem ret_str {a b : ByteArray} (h : a = b) : Ending.returned (.string a) = .returned (.string b) := by rw [h]



end Go.Proofs.Ytpefcbpapmfejaa

/- Contracts of the program's Stuffed. -/

set_option maxRecDepth 20000
namespace Go.Proofs.Ytpefcbpapmfejaa
open Go.RowKit

def stfOk (s : ByteArray) : Bool := okB s && decide ((stuffL s.data.toList).length ≤ 400)
def stfV (s : ByteArray) : ByteArray := if stfOk s then ⟨(stuffL s.data.toList).toArray⟩ else ByteArray.empty
theorem stfOk_no {s : ByteArray} (h : okB s = false) : stfOk s = false := by simp [stfOk, h]
theorem stfOk_long {s : ByteArray} (h : 400 < (stuffL s.data.toList).length) : stfOk s = false := by simp [stfOk]; intro _; omega
theorem stfOk_yes {s : ByteArray} (h : okB s = true) (hl : (stuffL s.data.toList).length ≤ 400) : stfOk s = true := by simp [stfOk, h, hl]
theorem stfV_no {s : ByteArray} (h : stfOk s = false) : stfV s = ByteArray.empty := by simp [stfV, h]
theorem stfV_yes {s : ByteArray} (h : stfOk s = true) : stfV s = ⟨(stuffL s.data.toList).toArray⟩ := by simp [stfV, h]
theorem stuff_short {s : ByteArray} (h : okB s = true) (k : Nat) : (stuffL (s.data.toList.take k)).length ≤ 500 := by
  have h1 := stuff_most (s.data.toList.take k)
  have h2 := okB_size h
  have h3 : (s.data.toList.take k).length ≤ s.size := by rw [List.length_take]; exact Nat.le_trans (Nat.min_le_right _ _) (Nat.le_refl _)
  omega

theorem bc_len (l : List UInt8) : (Lib.byteCells l).length = l.length := Lib.byteCells_length l
theorem arr_size (l : List UInt8) : ByteArray.size ⟨l.toArray⟩ = l.length := by simp [ByteArray.size]
theorem rune_bit {c : UInt8} (h : bit c = true) : Lib.runeCells (c.toNat : Int) = Lib.byteCells [c] := by rcases bit_val h with rfl | rfl <;> rfl
theorem bit_i32 {c : UInt8} (h : bit c = true) : -2147483648 ≤ (c.toNat : Int) ∧ (c.toNat : Int) ≤ 2147483647 := by have := bit_cases h; omega



end Go.Proofs.Ytpefcbpapmfejaa
