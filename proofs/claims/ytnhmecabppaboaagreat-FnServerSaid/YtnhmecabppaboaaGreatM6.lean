/- The closure of stuffing, by a contract: what it keeps (the last bit that was put out, and how many at the end are alike), and what it answers. -/
import Derived.Test.YtnhmecabppaboaaGreatM0
import Derived.Test.YtnhmecabppaboaaGreatM1
import Derived.Test.YtnhmecabppaboaaGreatM4
import Derived.WalkKit
import Derived.WalkSpells
import Derived.LoopTactic
import Derived.Lib.Hide
import Derived.IntWalk
import Derived.WalkSmall
import Derived.BigCall
import Derived.Lib.OthersKept

set_option maxRecDepth 20000
namespace Go.Proofs.YtnhmecabppaboaaGreat
open Go.RowKit

/-- What the closure keeps, in two blocks. -/
def Kept (L R : Nat) (last : Int) (n : Int) (w : World) : Prop :=
  w.heap[L]? = some (.cells #[.int .i32 last] 21 (0, 0)) ∧ w.heap[R]? = some (.cells #[.int .i64 n] 2 (0, 0))
/-- Nothing turns but these two blocks. -/
def TwoK (L R : Nat) (w w' : World) : Prop := w'.os = w.os ∧ w'.tape = w.tape ∧ w'.output = w.output ∧ w'.heap.size = w.heap.size ∧ ∀ k, k ≠ L → k ≠ R → w'.heap[k]? = w.heap[k]?
theorem TwoK.below {L R B : Nat} {w w' : World} (h : TwoK L R w w') (hL : B ≤ L) (hR : B ≤ R) : Below B w w' :=
  ⟨h.1, h.2.1, h.2.2.1, by rw [h.2.2.2.1]; exact Nat.le_refl _, fun k hk => h.2.2.2.2 k (by omega) (by omega)⟩
theorem TwoK.builder {L R B b : Nat} {T e : TypeId} {bs : List Value} {w w' : World} (h : TwoK L R w w') (hL : L < B) (hR : R < B) (k : Lib.IsBuilderF T e B b bs w) : Lib.IsBuilderF T e B b bs w' := by
  have one : ∀ p, Lib.BuilderAtF T e B b p bs w → Lib.BuilderAtF T e B b p bs w' := by
    intro p ⟨hB, v, hb, hown, hne⟩
    refine ⟨hB, v, (h.2.2.2.2 b (by omega) (by omega)).trans hb, ⟨hown.1, ?_⟩, hne⟩
    rcases hown.2 with hn | ⟨g, cap, cur, fz, hv, hbg, hg, rest⟩
    · exact .inl hn
    · exact .inr ⟨g, cap, cur, fz, hv, hbg, (h.2.2.2.2 g (by omega) (by omega)).trans hg, rest⟩
  exact k.elim (fun x => .inl (one _ x)) (fun x => .inr (one _ x))
theorem TwoK.refl (L R : Nat) (w : World) : TwoK L R w w := ⟨rfl, rfl, rfl, rfl, fun _ _ _ => rfl⟩
theorem TwoK.trans {L R : Nat} {a b c : World} (h : TwoK L R a b) (k : TwoK L R b c) : TwoK L R a c :=
  ⟨k.1.trans h.1, k.2.1.trans h.2.1, k.2.2.1.trans h.2.2.1, k.2.2.2.1.trans h.2.2.2.1, fun i hi hj => (k.2.2.2.2 i hi hj).trans (h.2.2.2.2 i hi hj)⟩

theorem cell_set (w : World) (g : Nat) (t : TypeId) (u v : Value) (h : w.heap[g]? = some (.cells #[u] t (0, 0))) : (w.setCell ⟨g, 0, none⟩ v).heap[g]? = some (.cells #[v] t (0, 0)) := by
  rw [setCell_eq_setRow w g 0 #[u] t (0, 0) v h, setRow_heap w g #[u] _ t (0, 0) h]; rfl
theorem set_size (w : World) (p : Addr) (v : Value) : (w.setCell p v).heap.size = w.heap.size := by simp [World.setCell]
theorem Kept.set {L R : Nat} {a n : Int} {w : World} (h : Kept L R a n w) (hne : L ≠ R) (x y : Int) :
    Kept L R x y ((w.setCell ⟨L, 0, none⟩ (.int .i32 x)).setCell ⟨R, 0, none⟩ (.int .i64 y)) ∧ TwoK L R w ((w.setCell ⟨L, 0, none⟩ (.int .i32 x)).setCell ⟨R, 0, none⟩ (.int .i64 y)) := by
  refine ⟨⟨?_, ?_⟩, rfl, rfl, rfl, ?_, fun k hL hR => ?_⟩
  · rw [Below.heap_setCell _ _ _ _ hne]; exact cell_set w L _ _ _ h.1
  · exact cell_set _ R _ _ _ ((Below.heap_setCell _ _ _ _ fun e => hne e.symm).trans h.2)
  · rw [set_size, set_size]
  · rw [Below.heap_setCell _ _ _ _ hR, Below.heap_setCell _ _ _ _ hL]
theorem Kept.setR {L R : Nat} {a n : Int} {w : World} (h : Kept L R a n w) (hne : L ≠ R) (y : Int) :
    Kept L R a y (w.setCell ⟨R, 0, none⟩ (.int .i64 y)) ∧ TwoK L R w (w.setCell ⟨R, 0, none⟩ (.int .i64 y)) := by
  refine ⟨⟨(Below.heap_setCell _ _ _ _ hne).trans h.1, cell_set w R _ _ _ h.2⟩, rfl, rfl, rfl, set_size _ _ _, fun k _ hR => Below.heap_setCell _ _ _ _ hR⟩

/-- What is put in behind c. -/
def due (b : List UInt8) (c : UInt8) : List UInt8 := if run (b ++ [c]) = 5 then [flip c] else []
theorem stf_due (b : List UInt8) (c : UInt8) : stf b c = b ++ [c] ++ due b c := by unfold stf due; split <;> simp
theorem enc_other {c : UInt8} (h : bit c = true) : Utf8.encode (97 - (c.toNat : Int)) = ⟨#[flip c]⟩ := by
  rcases bit_val h with rfl | rfl <;> decide
theorem flip_nat {c : UInt8} (h : bit c = true) : ((flip c).toNat : Int) = 97 - (c.toNat : Int) := by
  rcases bit_val h with rfl | rfl <;> decide
theorem ret_str {a b : ByteArray} (h : a = b) : Ending.returned (.string a) = .returned (.string b) := by rw [h]

theorem closureStep (L R : Nat) (b : List UInt8) (c : UInt8) (w : World) (hne : L ≠ R) (hb : bit c = true) (hn4 : run b ≤ 4) (h : Kept L R (lastC b) (run b) w) :
    Calls Tryz.prog 133 #[.int .i32 c.toNat, .pointer (some ⟨L, 0, none⟩), .pointer (some ⟨R, 0, none⟩)] w fun e w' =>
      e = .returned (.string ⟨(due b c).toArray⟩) ∧ Kept L R (lastC (stf b c)) (run (stf b c)) w' ∧ TwoK L R w w' := by
  have cL : w.cell? ⟨L, 0, none⟩ = some (.int .i32 (lastC b)) := by simp [World.cell?, h.1]
  have cR : w.cell? ⟨R, 0, none⟩ = some (.int .i64 (run b)) := by simp [World.cell?, h.2]
  have fL : w.frozen? ⟨L, 0, none⟩ = false := by simp [World.frozen?, h.1]
  have fR : w.frozen? ⟨R, 0, none⟩ = false := by simp [World.frozen?, h.2]
  have hne' : R ≠ L := fun e => hne e.symm
  have hc := bit_cases hb
  have HK := Lib.hid h
  have HB := Lib.hid hb
  by_cases h1 : lastC b = (c.toNat : Int)
  · have HR := Lib.hid (run_same h1 (bit_ne0 hb))
    by_cases h5 : run b < 4
    · have HD : Hid (due b c = [] ∧ stf b c = b ++ [c]) := Lib.hid (by unfold due stf; rw [HR.out, if_neg (by omega), if_neg (by omega)]; exact ⟨rfl, rfl⟩)
      have h5' : ((run b : Nat) : Int) + 1 < 5 := by omega
      have d0 : 0 ≤ ((run b : Nat) : Int) := by omega
      clear hb h hn4
      go_enter Tryz.func133, Tryz.ntmps133
      go_wp2
      go_ret
      obtain ⟨k1, k2⟩ := HK.out.set hne (c.toNat : Int) ((run b : Nat) + 1)
      refine ⟨ret_str (by rw [HD.out.1]), ?_, k2⟩
      rw [HD.out.2, lastC_snoc, HR.out]; exact_mod_cast k1
    · have HD : Hid (due b c = [flip c] ∧ stf b c = b ++ [c] ++ [flip c]) := Lib.hid (by unfold due stf; rw [HR.out, if_pos (by omega), if_pos (by omega)]; exact ⟨rfl, rfl⟩)
      have h5' : 5 ≤ ((run b : Nat) : Int) + 1 := by omega
      have d1 : ((run b : Nat) : Int) ≤ 4 := by omega
      clear hb h hn4
      go_enter Tryz.func133, Tryz.ntmps133
      go_wp2
      go_ret
      obtain ⟨k1, k2⟩ := HK.out.set hne (c.toNat : Int) ((run b : Nat) + 1)
      obtain ⟨k3, k4⟩ := k1.set hne (97 - (c.toNat : Int)) 1
      refine ⟨ret_str (by rw [HD.out.1, enc_other HB.out]), ?_, k2.trans k4⟩
      rw [HD.out.2, lastC_snoc, run_flip _ HB.out, flip_nat HB.out]; exact k3
  · have HR := Lib.hid (run_other h1)
    have HD : Hid (due b c = [] ∧ stf b c = b ++ [c]) := Lib.hid (by unfold due stf; rw [HR.out, if_neg (by omega), if_neg (by omega)]; exact ⟨rfl, rfl⟩)
    have h1' : (c.toNat : Int) ≠ lastC b := fun e => h1 e.symm
    clear hb h hn4
    go_enter Tryz.func133, Tryz.ntmps133
    go_wp2
    go_ret
    obtain ⟨k1, k2⟩ := HK.out.setR hne 0
    obtain ⟨k3, k4⟩ := k1.set hne (c.toNat : Int) 1
    refine ⟨ret_str (by rw [HD.out.1]), ?_, k2.trans k4⟩
    rw [HD.out.2, lastC_snoc, HR.out]; exact k3

/-- The closure is made. -/
theorem closureMade (w : World) :
    Calls Tryz.prog 122 #[] w fun e w' =>
      e = .returned (.func (.func 133) #[] #[.pointer (some ⟨w.heap.size, 0, none⟩), .pointer (some ⟨w.heap.size + 1, 0, none⟩)]) ∧
      w' = (w.alloc (.cells #[.int .i32 0] 21)).alloc (.cells #[.int .i64 0] 2) := by
  have hmf : ∀ (fn : Fn) (first cap : Array Value) (w : World), (Instr.makeFunc fn first cap).run Tryz.prog w = .ok (.func fn first cap) w := fun _ _ _ _ => rfl
  go_enter Tryz.func122, Tryz.ntmps122
  go_wp2
  go_ret
  exact ⟨rfl, rfl⟩

end Go.Proofs.YtnhmecabppaboaaGreat

/- Contracts of the program's Stuffed. -/

set_option maxRecDepth 20000
namespace Go.Proofs.YtnhmecabppaboaaGreat
open Go.RowKit

def stfOk (s : ByteArray) : Bool := okB s && decide ((stuffL s.data.toList).length ≤ 400)
def stfV (s : ByteArray) : ByteArray := if stfOk s then ⟨(stuffL s.data.toList).toArray⟩ else ByteArray.empty
theorem stfOk_no {s : ByteArray} (h : okB s = false) : stfOk s = false := by simp [stfOk, h]
theorem stfOk_long {s : ByteArray} (h : 400 < (stuffL s.data.toList).length) : stfOk s = false := by simp [stfOk]; intro _; omega
theorem stfOk_yes {s : ByteArray} (h : okB s = true) (hl : (stuffL s.data.toList).length ≤ 400) : stfOk s = true := by simp [stfOk, h, hl]
theorem stfV_no {s : ByteArray} (h : stfOk s = false) : stfV s = ByteArray.empty := by simp [stfV, h]
theorem stfV_yes {s : ByteArray} (h : stfOk s = true) : stfV s = ⟨(stuffL s.data.toList).toArray⟩ := by simp [stfV, h]
theorem stuff_short {s : ByteArray} (h : okB s = true) (k : Nat) : (stuffL (s.data.toList.take k)).length ≤ 500 := by
  have h1 := stuff_most (s.data.toList.take k)
  have h2 := okB_size h
  have h3 : (s.data.toList.take k).length ≤ s.size := by rw [List.length_take]; exact Nat.le_trans (Nat.min_le_right _ _) (Nat.le_refl _)
  omega

theorem bc_len (l : List UInt8) : (Lib.byteCells l).length = l.length := Lib.byteCells_length l
theorem arr_size (l : List UInt8) : ByteArray.size ⟨l.toArray⟩ = l.length := by simp [ByteArray.size]
theorem rune_bit {c : UInt8} (h : bit c = true) : Lib.runeCells (c.toNat : Int) = Lib.byteCells [c] := by rcases bit_val h with rfl | rfl <;> rfl
theorem bit_i32 {c : UInt8} (h : bit c = true) : -2147483648 ≤ (c.toNat : Int) ∧ (c.toNat : Int) ≤ 2147483647 := by have := bit_cases h; omega

/-- What stands while the text is gone through: the builder (a block), what the closure keeps in the two below it, the iterator in the one above it. -/
structure Going (w : World) (n : Nat) (l : List UInt8) (o : List UInt8) (s : ByteArray) (k : Nat) (wr : World) : Prop where
  low : w.heap.size ≤ n
  b : Lib.IsBuilderF 143 5 (n + 1 + 1) (n + 1 + 1) (Lib.byteCells o) wr
  it : wr.heap[n + 1 + 1 + 1]? = some (.stringIter s k)
  kept : Kept n (n + 1) (lastC l) (run l) wr
  below : Below w.heap.size w wr
  size : n + 1 + 1 + 1 < wr.heap.size
theorem Going.start (w w1 : World) (h : Below w.heap.size w w1) (s : ByteArray) :
    Going w w1.heap.size [] [] s 0 ((((w1.alloc (.cells #[.int .i32 0] 21)).alloc (.cells #[.int .i64 0] 2)).alloc (.cells #[.pointer none, .slice none 0 0] 143)).iter s 0) := by
  have hsz := h.size
  have e1 : ((w1.alloc (.cells #[.int .i32 0] 21)).alloc (.cells #[.int .i64 0] 2)).heap.size = w1.heap.size + 1 + 1 := by simp
  refine ⟨hsz, ?_, ?_, ⟨?_, ?_⟩, ?_, ?_⟩
  · have := (Lib.IsBuilderF.of (Lib.fresh_isBuilder 143 5 ((w1.alloc (.cells #[.int .i32 0] 21)).alloc (.cells #[.int .i64 0] 2)))).alloc (.stringIter s 0)
    rw [e1] at this
    exact this
  · have := World.iter_heap (((w1.alloc (.cells #[.int .i32 0] 21)).alloc (.cells #[.int .i64 0] 2)).alloc (.cells #[.pointer none, .slice none 0 0] 143)) s 0
    simpa using this
  · exact ((Lib.alloc_old _ _ _ (by simp; omega)).trans ((Lib.alloc_old _ _ _ (by simp; omega)).trans ((Lib.alloc_old _ _ _ (by simp)).trans (heap_alloc_new w1 _))))
  · have := (Lib.alloc_old (((w1.alloc (.cells #[.int .i32 0] 21)).alloc (.cells #[.int .i64 0] 2)).alloc (.cells #[.pointer none, .slice none 0 0] 143)) (.stringIter s 0) (w1.heap.size + 1) (by simp)).trans (Lib.alloc_old _ _ _ (by simp))
    have k := heap_alloc_new (w1.alloc (.cells #[.int .i32 0] 21)) (.cells #[.int .i64 0] 2)
    rw [show (w1.alloc (.cells #[.int .i32 0] 21)).heap.size = w1.heap.size + 1 from by simp] at k
    exact this.trans k
  · exact (((h.alloc hsz _).alloc (by simp; omega) _).alloc (by simp; omega) _).alloc (by simp; omega) _
  · simp [World.iter]
theorem Going.pos {w : World} {n : Nat} {l o : List UInt8} {s : ByteArray} {k : Nat} {wr : World} (h : Going w n l o s k wr) : wr.iterPos (n + 1 + 1 + 1) = k := by simp [World.iterPos, h.it]
theorem Going.next {w : World} {n : Nat} {l o : List UInt8} {s : ByteArray} {k : Nat} {wr : World} (h : Going w n l o s k wr) : Going w n l o s (k + 1) (wr.iterAt (n + 1 + 1 + 1) s (k + 1)) where
  low := h.low
  b := h.b.iterAt h.it _
  it := Lib.iterAt_heap wr _ s k _ h.it
  kept := ⟨(Lib.iterAt_other wr _ _ s _ (by omega)).trans h.kept.1, (Lib.iterAt_other wr _ _ s _ (by omega)).trans h.kept.2⟩
  below := Lib.below_iterAt h.below (by have := h.low; omega) s _
  size := by rw [Lib.iterAt_size]; exact h.size
theorem Going.wrote {w : World} {n : Nat} {l o o' : List UInt8} {s : ByteArray} {k : Nat} {wr W : World} (h : Going w n l o s k wr) (hb : Lib.IsBuilderF 143 5 (n + 1 + 1) (n + 1 + 1) (Lib.byteCells o') W)
    (b1 : Below (n + 1 + 1) wr W) (k1 : Lib.OthersKept 5 (some (n + 1 + 1)) wr W) : Going w n l o' s k W where
  low := h.low
  b := hb
  it := k1.iter h.it (by omega)
  kept := ⟨(b1.block _ (by omega)).trans h.kept.1, (b1.block _ (by omega)).trans h.kept.2⟩
  below := h.below.trans (b1.mono (by have := h.low; omega))
  size := Nat.lt_of_lt_of_le h.size b1.size
theorem Going.told {w : World} {n : Nat} {l l' o : List UInt8} {s : ByteArray} {k : Nat} {wr W : World} (h : Going w n l o s k wr) (hk : Kept n (n + 1) (lastC l') (run l') W) (ht : TwoK n (n + 1) wr W) : Going w n l' o s k W where
  low := h.low
  b := ht.builder (by omega) (by omega) h.b
  it := (ht.2.2.2.2 _ (by omega) (by omega)).trans h.it
  kept := hk
  below := h.below.trans (ht.below h.low (by have := h.low; omega))
  size := by rw [ht.2.2.2.1]; exact h.size

theorem implStuffed (s : ByteArray) (w : World) (hs : s.size ≤ maxLen) :
    Calls Tryz.prog 114 #[.string s] w fun e w' => e = .returned (.tuple #[.string (stfV s), .bool (stfOk s)]) ∧ Below w.heap.size w w' := by
  have hs' := hs
  unfold maxLen at hs'
  cases hb : okB s with
  | false =>
    have HO := Lib.hid (stfOk_no hb)
    go_enter Tryz.func114, Tryz.ntmps114
    go_wp2_with (go_at_call 121; refine (implOk _ _ hs).mono ?_; rintro e w1 ⟨rfl, hb1⟩)
    go_ret2
    refine ⟨?_, ‹_›⟩
    rw [HO.out, stfV_no HO.out]; rfl
  | true =>
    have HB := Lib.hid hb
    have hl := okB_size hb
    go_enter Tryz.func114, Tryz.ntmps114
    go_wp2_with fail
    refine (implOk _ _ hs).mono ?_
    rintro e w1 ⟨rfl, hb1⟩
    rw [hb]
    clear hb
    go_wp2_with fail
    refine (closureMade _).mono ?_
    rintro e w2 ⟨rfl, rfl⟩
    go_wp2_with fail
    have hG := Going.start w w1 (by assumption) s
    go_loopw [] (fun wr => ∃ k, k ≤ s.size ∧ Going w w1.heap.size (stuffL (s.data.toList.take k)) (stuffL (s.data.toList.take k)) s k wr) (fun wr => s.size - wr.iterPos (w1.heap.size + 1 + 1 + 1))
    case atStart => exact ⟨0, Nat.zero_le _, hG⟩
    case round =>
      clear hG
      obtain ⟨k, hk, hG⟩ := hrel
      have hsh := stuff_short HB.out k
      have HP := Lib.hid hG.pos
      by_cases hlt : k < s.size
      · have hbk := okB_bit HB.out k hlt
        have hc := bit_cases hbk
        have h32 := bit_i32 hbk
        have hnx : ∀ ty, (Instr.next (.pointer (some ⟨w1.heap.size + 1 + 1 + 1, 0, none⟩)) true ty).run Tryz.prog wr = _ := fun ty => Lib.run_next_ascii_at wr _ s k ty hG.it hlt (by omega)
        have HBK := Lib.hid hbk
        have HN := hG.next
        have hsz := HN.size
        clear hc hbk
        go_wp2_with fail
        refine (writeRune _ _ _ _ h32.1 h32.2 _ HN.b (by rw [bc_len]; omega) (by omega)).mono ?_
        rintro e W1 ⟨rfl, g1, g2, g3⟩
        have HW := HN.wrote (o' := stuffL (s.data.toList.take k) ++ [s[k]]) (by rw [Lib.byteCells_append, ← rune_bit HBK.out]; exact Or.inr g1) g2 g3
        clear hnx hG hsz HN g1 g2 g3
        go_wp2_with fail
        refine (closureStep _ _ _ _ _ (by omega) HBK.out (run_stuff _) HW.kept).mono ?_
        rintro e W2 ⟨rfl, g1, g2⟩
        have HT := HW.told g1 g2
        have HX : Hid (stuffL (s.data.toList.take (k + 1)) = stf (stuffL (s.data.toList.take k)) s[k]) := Lib.hid (by rw [take_snoc s k hlt, stuffL_snoc])
        have hdl : (due (stuffL (s.data.toList.take k)) s[k]).length ≤ 1 := by unfold due; split <;> simp
        have HSZ := Lib.hid HT.size
        clear HW g1 g2
        go_wp2_with fail
        refine (writeString _ _ _ _ _ HT.b (by rw [bc_len, List.length_append, arr_size, List.length_singleton]; omega) (by have := HSZ.out; omega)).mono ?_
        rintro e W3 ⟨rfl, g1, g2, g3⟩
        have HV := HT.wrote (o' := stf (stuffL (s.data.toList.take k)) s[k]) (by rw [stf_due, Lib.byteCells_append]; exact Or.inr g1) g2 g3
        clear HT HSZ g1 g2 g3
        go_wp2
        go_roundw
        case rel => exact ⟨k + 1, by omega, by rw [HX.out]; exact HV⟩
        case measure =>
          rw [HV.pos, HP.out]; omega
      · obtain rfl : k = s.size := by omega
        have hta := take_all s s.size (Nat.le_refl _)
        rw [hta] at hG hsh
        have hnx : ∀ ty, (Instr.next (.pointer (some ⟨w1.heap.size + 1 + 1 + 1, 0, none⟩)) true ty).run Tryz.prog wr = _ := fun ty => Lib.run_next_end_at wr _ s s.size ty hG.it hlt
        have HG := Lib.hid hG
        clear hG hta hk
        go_wp2_with fail
        refine (lenOf _ _ _ _ HG.out.b).mono ?_
        rintro e W1 ⟨rfl, rfl⟩
        rw [bc_len]
        by_cases h4 : (stuffL s.data.toList).length ≤ 400
        · have HO := Lib.hid (stfOk_yes HB.out h4)
          have h4' : ((stuffL s.data.toList).length : Int) ≤ 400 := by omega
          clear h4
          go_wp2_with fail
          refine (textOf _ _ _ _ HG.out.b (by have := HG.out.size; omega)).mono ?_
          rintro e W2 ⟨rfl, _, g2, _⟩
          have HW := Lib.hid (HG.out.below.trans (g2.mono (by have := HG.out.low; omega)))
          clear g2 HG HP
          go_wp2
          go_ret2
          refine ⟨?_, HW.out⟩
          rw [HO.out, stfV_yes HO.out]; rfl
        · have HO := Lib.hid (stfOk_long (s := s) (by omega))
          have h4' : 400 < ((stuffL s.data.toList).length : Int) := by omega
          clear h4
          go_wp2
          go_ret2
          refine ⟨?_, HG.out.below⟩
          rw [HO.out, stfV_no HO.out]; rfl

end Go.Proofs.YtnhmecabppaboaaGreat
