/- Contracts of the program's Stuffed. -/
import Derived.Test.YthhhhfpgmolcmabStf
import Derived.Lib.OthersKept
namespace Go.Proofs.Ythhhhfpgmolcmab
open Go.RowKit

def stfOk (s : ByteArray) : Bool := okB s && decide ((stuffL s.data.toList).length ≤ 400)
def stfV (s : ByteArray) : ByteArray := if stfOk s then ⟨(stuffL s.data.toList).toArray⟩ else ByteArray.empty
theorem stfOk_no {s : ByteArray} (h : okB s = false) : stfOk s = false := by simp [stfOk, h]
theorem stfOk_long {s : ByteArray} (h : 400 < (stuffL s.data.toList).length) : stfOk s = false := by simp [stfOk]; intro _; omega
theorem stfOk_yes {s : ByteArray} (h : okB s = true) (hl : (stuffL s.data.toList).length ≤ 400) : stfOk s = true := by simp [stfOk, h, hl]
theorem stfV_no {s : ByteArray} (h : stfOk s = false) : stfV s = ByteArray.empty := by simp [stfV, h]
theorem stfV_yes {s : ByteArray} (h : stfOk s = true) : stfV s = ⟨(stuffL s.data.toList).toArray⟩ := by simp [stfV, h]
theorem stuff_short {s : ByteArray} (h : okB s = true) (k : Nat) : (stuffL (s.data.toList.take k)).length ≤ 500 := by
  have h1 := stuff_most (s.data.toList.take k)
  have h2 := okB_size h
  have h3 : (s.data.toList.take k).length ≤ s.size := by rw [List.length_take]; exact Nat.le_trans (Nat.min_le_right _ _) (Nat.le_refl _)
  omega

theorem bc_len (l : List UInt8) : (Lib.byteCells l).length = l.length := Lib.byteCells_length l
theorem arr_size (l : List UInt8) : ByteArray.size ⟨l.toArray⟩ = l.length := by simp [ByteArray.size]
theorem rune_bit {c : UInt8} (h : bit c = true) : Lib.runeCells (c.toNat : Int) = Lib.byteCells [c] := by rcases bit_val h with rfl | rfl <;> rfl
theorem bit_i32 {c : UInt8} (h : bit c = true) : -2147483648 ≤ (c.toNat : Int) ∧ (c.toNat : Int) ≤ 2147483647 := by have := bit_cases h; omega

/-- What stands while the text is gone through: the builder (a block), what the closure keeps in the two below it, the iterator in the one above it. -/
structure Going (w : World) (n : Nat) (l : List UInt8) (o : List UInt8) (s : ByteArray) (k : Nat) (wr : World) : Prop where
  low : w.heap.size ≤ n
  b : Lib.IsBuilderF 63 5 (n + 1 + 1) (n + 1 + 1) (Lib.byteCells o) wr
  it : wr.heap[n + 1 + 1 + 1]? = some (.stringIter s k)
  kept : Kept n (n + 1) (lastC l) (run l) wr
  below : Below w.heap.size w wr
  size : n + 1 + 1 + 1 < wr.heap.size
theorem Going.start (w w1 : World) (h : Below w.heap.size w w1) (s : ByteArray) :
    Going w w1.heap.size [] [] s 0 ((((w1.alloc (.cells #[.int .i32 0] 21)).alloc (.cells #[.int .i64 0] 2)).alloc (.cells #[.pointer none, .slice none 0 0] 63)).iter s 0) := by
  have hsz := h.size
  have e1 : ((w1.alloc (.cells #[.int .i32 0] 21)).alloc (.cells #[.int .i64 0] 2)).heap.size = w1.heap.size + 1 + 1 := by simp
  refine ⟨hsz, ?_, ?_, ⟨?_, ?_⟩, ?_, ?_⟩
  · have := (Lib.IsBuilderF.of (Lib.fresh_isBuilder 63 5 ((w1.alloc (.cells #[.int .i32 0] 21)).alloc (.cells #[.int .i64 0] 2)))).alloc (.stringIter s 0)
    rw [e1] at this
    exact this
  · have := World.iter_heap (((w1.alloc (.cells #[.int .i32 0] 21)).alloc (.cells #[.int .i64 0] 2)).alloc (.cells #[.pointer none, .slice none 0 0] 63)) s 0
    simpa using this
  · exact ((Lib.alloc_old _ _ _ (by simp; omega)).trans ((Lib.alloc_old _ _ _ (by simp; omega)).trans ((Lib.alloc_old _ _ _ (by simp)).trans (heap_alloc_new w1 _))))
  · have := (Lib.alloc_old (((w1.alloc (.cells #[.int .i32 0] 21)).alloc (.cells #[.int .i64 0] 2)).alloc (.cells #[.pointer none, .slice none 0 0] 63)) (.stringIter s 0) (w1.heap.size + 1) (by simp)).trans (Lib.alloc_old _ _ _ (by simp))
    have k := heap_alloc_new (w1.alloc (.cells #[.int .i32 0] 21)) (.cells #[.int .i64 0] 2)
    rw [show (w1.alloc (.cells #[.int .i32 0] 21)).heap.size = w1.heap.size + 1 from by simp] at k
    exact this.trans k
  · exact (((h.alloc hsz _).alloc (by simp; omega) _).alloc (by simp; omega) _).alloc (by simp; omega) _
  · simp [World.iter]
theorem Going.pos {w : World} {n : Nat} {l o : List UInt8} {s : ByteArray} {k : Nat} {wr : World} (h : Going w n l o s k wr) : wr.iterPos (n + 1 + 1 + 1) = k := by simp [World.iterPos, h.it]
theorem Going.next {w : World} {n : Nat} {l o : List UInt8} {s : ByteArray} {k : Nat} {wr : World} (h : Going w n l o s k wr) : Going w n l o s (k + 1) (wr.iterAt (n + 1 + 1 + 1) s (k + 1)) where
  low := h.low
  b := h.b.iterAt h.it _
  it := Lib.iterAt_heap wr _ s k _ h.it
  kept := ⟨(Lib.iterAt_other wr _ _ s _ (by omega)).trans h.kept.1, (Lib.iterAt_other wr _ _ s _ (by omega)).trans h.kept.2⟩
  below := Lib.below_iterAt h.below (by have := h.low; omega) s _
  size := by rw [Lib.iterAt_size]; exact h.size
theorem Going.wrote {w : World} {n : Nat} {l o o' : List UInt8} {s : ByteArray} {k : Nat} {wr W : World} (h : Going w n l o s k wr) (hb : Lib.IsBuilderF 63 5 (n + 1 + 1) (n + 1 + 1) (Lib.byteCells o') W)
    (b1 : Below (n + 1 + 1) wr W) (k1 : Lib.OthersKept 5 (some (n + 1 + 1)) wr W) : Going w n l o' s k W where
  low := h.low
  b := hb
  it := k1.iter h.it (by omega)
  kept := ⟨(b1.block _ (by omega)).trans h.kept.1, (b1.block _ (by omega)).trans h.kept.2⟩
  below := h.below.trans (b1.mono (by have := h.low; omega))
  size := Nat.lt_of_lt_of_le h.size b1.size
theorem Going.told {w : World} {n : Nat} {l l' o : List UInt8} {s : ByteArray} {k : Nat} {wr W : World} (h : Going w n l o s k wr) (hk : Kept n (n + 1) (lastC l') (run l') W) (ht : Two n (n + 1) wr W) : Going w n l' o s k W where
  low := h.low
  b := ht.builder (by omega) (by omega) h.b
  it := (ht.2.2.2.2 _ (by omega) (by omega)).trans h.it
  kept := hk
  below := h.below.trans (ht.below h.low (by have := h.low; omega))
  size := by rw [ht.2.2.2.1]; exact h.size

theorem implStuffed (s : ByteArray) (w : World) (hs : s.size ≤ maxLen) :
    Calls Try.prog 21 #[.string s] w fun e w' => e = .returned (.tuple #[.string (stfV s), .bool (stfOk s)]) ∧ Below w.heap.size w w' := by
  have hs' := hs
  unfold maxLen at hs'
  cases hb : okB s with
  | false =>
    have HO := Lib.hid (stfOk_no hb)
    go_enter Try.func21, Try.ntmps21
    go_wp2_with (go_at_call 39; refine (implOk _ _ hs).mono ?_; rintro e w1 ⟨rfl, hb1⟩)
    go_ret2
    refine ⟨?_, ‹_›⟩
    rw [HO.out, stfV_no HO.out]; rfl
  | true =>
    have HB := Lib.hid hb
    have hl := okB_size hb
    go_enter Try.func21, Try.ntmps21
    go_wp2_with fail
    refine (implOk _ _ hs).mono ?_
    rintro e w1 ⟨rfl, hb1⟩
    rw [hb]
    clear hb
    go_wp2_with fail
    refine (closureMade _).mono ?_
    rintro e w2 ⟨rfl, rfl⟩
    go_wp2_with fail
    have hG := Going.start w w1 (by assumption) s
    go_loopw [] (fun wr => ∃ k, k ≤ s.size ∧ Going w w1.heap.size (stuffL (s.data.toList.take k)) (stuffL (s.data.toList.take k)) s k wr) (fun wr => s.size - wr.iterPos (w1.heap.size + 1 + 1 + 1))
    case atStart => exact ⟨0, Nat.zero_le _, hG⟩
    case round =>
      clear hG
      obtain ⟨k, hk, hG⟩ := hrel
      have hsh := stuff_short HB.out k
      have HP := Lib.hid hG.pos
      by_cases hlt : k < s.size
      · have hbk := okB_bit HB.out k hlt
        have hc := bit_cases hbk
        have h32 := bit_i32 hbk
        have hnx : ∀ ty, (Instr.next (.pointer (some ⟨w1.heap.size + 1 + 1 + 1, 0, none⟩)) true ty).run Try.prog wr = _ := fun ty => Lib.run_next_ascii_at wr _ s k ty hG.it hlt (by omega)
        have HBK := Lib.hid hbk
        have HN := hG.next
        have hsz := HN.size
        clear hc hbk
        go_wp2_with fail
        refine (writeRune _ _ _ _ h32.1 h32.2 _ HN.b (by rw [bc_len]; omega) (by omega)).mono ?_
        rintro e W1 ⟨rfl, g1, g2, g3⟩
        have HW := HN.wrote (o' := stuffL (s.data.toList.take k) ++ [s[k]]) (by rw [Lib.byteCells_append, ← rune_bit HBK.out]; exact Or.inr g1) g2 g3
        clear hnx hG hsz HN g1 g2 g3
        go_wp2_with fail
        refine (closureStep _ _ _ _ _ (by omega) HBK.out (run_stuff _) HW.kept).mono ?_
        rintro e W2 ⟨rfl, g1, g2⟩
        have HT := HW.told g1 g2
        have HX : Hid (stuffL (s.data.toList.take (k + 1)) = stf (stuffL (s.data.toList.take k)) s[k]) := Lib.hid (by rw [take_snoc s k hlt, stuffL_snoc])
        have hdl : (due (stuffL (s.data.toList.take k)) s[k]).length ≤ 1 := by unfold due; split <;> simp
        have HSZ := Lib.hid HT.size
        clear HW g1 g2
        go_wp2_with fail
        refine (writeString _ _ _ _ _ HT.b (by rw [bc_len, List.length_append, arr_size, List.length_singleton]; omega) (by have := HSZ.out; omega)).mono ?_
        rintro e W3 ⟨rfl, g1, g2, g3⟩
        have HV := HT.wrote (o' := stf (stuffL (s.data.toList.take k)) s[k]) (by rw [stf_due, Lib.byteCells_append]; exact Or.inr g1) g2 g3
        clear HT HSZ g1 g2 g3
        go_wp2
        go_roundw
        case rel => exact ⟨k + 1, by omega, by rw [HX.out]; exact HV⟩
        case measure =>
          rw [HV.pos, HP.out]; omega
      · obtain rfl : k = s.size := by omega
        have hta := take_all s s.size (Nat.le_refl _)
        rw [hta] at hG hsh
        have hnx : ∀ ty, (Instr.next (.pointer (some ⟨w1.heap.size + 1 + 1 + 1, 0, none⟩)) true ty).run Try.prog wr = _ := fun ty => Lib.run_next_end_at wr _ s s.size ty hG.it hlt
        have HG := Lib.hid hG
        clear hG hta hk
        go_wp2_with fail
        refine (lenOf _ _ _ _ HG.out.b).mono ?_
        rintro e W1 ⟨rfl, rfl⟩
        rw [bc_len]
        by_cases h4 : (stuffL s.data.toList).length ≤ 400
        · have HO := Lib.hid (stfOk_yes HB.out h4)
          have h4' : ((stuffL s.data.toList).length : Int) ≤ 400 := by omega
          clear h4
          go_wp2_with fail
          refine (textOf _ _ _ _ HG.out.b (by have := HG.out.size; omega)).mono ?_
          rintro e W2 ⟨rfl, _, g2, _⟩
          have HW := Lib.hid (HG.out.below.trans (g2.mono (by have := HG.out.low; omega)))
          clear g2 HG HP
          go_wp2
          go_ret2
          refine ⟨?_, HW.out⟩
          rw [HO.out, stfV_yes HO.out]; rfl
        · have HO := Lib.hid (stfOk_long (s := s) (by omega))
          have h4' : 400 < ((stuffL s.data.toList).length : Int) := by omega
          clear h4
          go_wp2
          go_ret2
          refine ⟨?_, HG.out.below⟩
          rw [HO.out, stfV_no HO.out]; rfl

end Go.Proofs.Ythhhhfpgmolcmab
