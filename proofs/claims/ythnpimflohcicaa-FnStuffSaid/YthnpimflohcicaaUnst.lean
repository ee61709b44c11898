/- Plain facts on what comes out, and the contract of the program's Unstuffed. -/
import Derived.Test.YthnpimflohcicaaStfd
namespace Go.Proofs.Ythnpimflohcicaa
open Go.RowKit

def unO (s : ByteArray) : Option (List UInt8) := if okB s then unL s.data.toList else none
def unOk (s : ByteArray) : Bool := (unO s).isSome
def unV (s : ByteArray) : ByteArray := match unO s with | some o => ⟨o.toArray⟩ | none => ByteArray.empty
theorem unO_no {s : ByteArray} (h : okB s = false) : unO s = none := by simp [unO, h]
theorem unO_yes {s : ByteArray} (h : okB s = true) : unO s = unL s.data.toList := by simp [unO, h]
theorem unOk_none {s : ByteArray} (h : unO s = none) : unOk s = false := by simp [unOk, h]
theorem unOk_some {s : ByteArray} {o : List UInt8} (h : unO s = some o) : unOk s = true := by simp [unOk, h]
theorem unV_none {s : ByteArray} (h : unO s = none) : unV s = ByteArray.empty := by simp [unV, h]
theorem unV_some {s : ByteArray} {o : List UInt8} (h : unO s = some o) : unV s = ⟨o.toArray⟩ := by simp [unV, h]
theorem unP_none (l : List UInt8) (h : unP l = none) : ∀ r, unP (l ++ r) = none := by
  refine snoc_ind (by rw [List.append_nil]; exact h) fun r c ih => ?_
  rw [← List.append_assoc, unP_snoc, ih]; rfl
theorem unP_cut {s : ByteArray} (k : Nat) (h : unP (s.data.toList.take k) = none) : unP s.data.toList = none := by
  have := unP_none _ h (s.data.toList.drop k)
  rwa [List.take_append_drop] at this
theorem unO_cut {s : ByteArray} (hb : okB s = true) (k : Nat) (h : unP (s.data.toList.take k) = none) : unO s = none := by
  rw [unO_yes hb]; unfold unL; split
  · rfl
  · exact unP_cut k h
theorem unO_end {s : ByteArray} (hb : okB s = true) {o : List UInt8} (h : unP s.data.toList = some o) (h5 : run s.data.toList ≠ 5) : unO s = some o := by
  rw [unO_yes hb]; unfold unL; rw [if_neg h5]; exact h
theorem unO_five {s : ByteArray} (hb : okB s = true) (h5 : run s.data.toList = 5) : unO s = none := by
  rw [unO_yes hb]; unfold unL; rw [if_pos h5]
theorem all_take {s : ByteArray} (h : okB s = true) (k : Nat) : AllB (s.data.toList.take k) := fun c hc => mem_bit h c (List.mem_of_mem_take hc)

/-- Where a text that is taken apart stands: nothing is due, or the other bit is. -/
inductive Is (p o : List UInt8) : List UInt8 → Prop
  | free (h : run p ≤ 4) (e : stuffL o = p) : Is p o []
  | owed (r : List UInt8) (c : UInt8) (hp : p = r ++ [c]) (h : run p = 5) (e : stuffL o = p ++ [flip c]) : Is p o [flip c]
theorem Is.start : Is [] [] [] := .free (by decide) rfl
theorem Is.more {p o : List UInt8} {c : UInt8} (h : Is p o []) : Is (p ++ [c]) (o ++ [c]) (due p c) := by
  have hs : ∀ (dv : List UInt8), Is p o dv → dv = [] → run p ≤ 4 ∧ stuffL o = p := by
    intro dv h e0
    cases h with
    | free h e => exact ⟨h, e⟩
    | owed r c hp h e' => cases e0
  obtain ⟨h4, e⟩ := hs _ h rfl
  have h' := run_step p c
  unfold due
  split
  · rename_i h5
    refine .owed p c rfl h5 ?_
    rw [stuffL_snoc, e]; unfold stf; rw [if_pos h5]
  · rename_i h5
    refine .free (by omega) ?_
    rw [stuffL_snoc, e]; unfold stf; rw [if_neg h5]

/-- What stands at a round. -/
structure At (p o dv : List UInt8) : Prop where
  un : unP p = some o
  is : Is p o dv
theorem At.start : At [] [] [] := ⟨rfl, .start⟩
theorem At.free {p o : List UInt8} (h : At p o []) : run p ≤ 4 ∧ stuffL o = p := by
  have hs : ∀ (dv : List UInt8), Is p o dv → dv = [] → run p ≤ 4 ∧ stuffL o = p := by
    intro dv h e0
    cases h with
    | free h e => exact ⟨h, e⟩
    | owed r c hp h e' => cases e0
  exact hs _ h.is rfl
theorem At.more {p o : List UInt8} (h : At p o []) (c : UInt8) : At (p ++ [c]) (o ++ [c]) (due p c) :=
  ⟨by rw [unP_snoc, h.un]; unfold unS; simp only; rw [if_neg (by have := h.free.1; omega)], h.is.more⟩
theorem At.owed {p o : List UInt8} {d : UInt8} (h : At p o [d]) : ∃ r c, p = r ++ [c] ∧ run p = 5 ∧ d = flip c ∧ stuffL o = p ++ [flip c] := by
  have hs : ∀ (dv : List UInt8), Is p o dv → dv = [d] → ∃ r c, p = r ++ [c] ∧ run p = 5 ∧ d = flip c ∧ stuffL o = p ++ [flip c] := by
    intro dv h0 e0
    cases h0 with
    | free h1 e' => cases e0
    | owed r c hp h1 e' => cases e0; exact ⟨r, c, hp, h1, rfl, e'⟩
  exact hs _ h.is rfl
theorem At.paid {p o : List UInt8} {d : UInt8} (h : At p o [d]) (hp : AllB p) (hd : bit d = true) : At (p ++ [d]) o [] := by
  obtain ⟨r, c, rfl, h5, rfl, e⟩ := h.owed
  have hc := hp.front.2
  refine ⟨?_, .free ?_ e⟩
  · rw [unP_snoc, h.un]; unfold unS; simp only; rw [if_pos h5, lastC_snoc, if_neg]
    intro e'; exact flip_ne hc (UInt8.toNat_inj.1 (by omega))
  · rw [run_flip r hc]; omega
theorem At.wrong {p o : List UInt8} {d c : UInt8} (h : At p o [d]) (hp : AllB p) (hc : bit c = true) (hne : c ≠ d) : unP (p ++ [c]) = none := by
  obtain ⟨r, c', rfl, h5, rfl, e⟩ := h.owed
  have hc' := hp.front.2
  have : c = c' := Classical.byContradiction fun hn => hne (eq_flip hc' hc hn)
  subst this
  rw [unP_snoc, h.un]; unfold unS; simp only; rw [if_pos h5, lastC_snoc, if_pos rfl]
theorem At.one {p o dv : List UInt8} (h : At p o dv) : dv = [] ∨ ∃ d, dv = [d] ∧ run p = 5 := by
  cases h.is with
  | free h1 e => exact .inl rfl
  | owed r c hp h1 e => exact .inr ⟨_, rfl, h1⟩
theorem At.short {p o dv : List UInt8} (h : At p o dv) : o.length ≤ p.length := unP_len p o h.un
theorem enc_bit {c : UInt8} (h : bit c = true) : Utf8.encode (c.toNat : Int) = ⟨#[c]⟩ := by rcases bit_val h with rfl | rfl <;> decide

theorem enc_list {c : UInt8} (h : bit c = true) : (Utf8.encode (c.toNat : Int)).toList = [c] := by rw [enc_bit h, ByteArray.toList_eq]

theorem implUnstuffed (s : ByteArray) (w : World) (hs : s.size ≤ maxLen) :
    Calls Try.prog 13 #[.string s] w fun e w' => e = .returned (.tuple #[.string (unV s), .bool (unOk s)]) ∧ Below w.heap.size w w' := by
  have hs' := hs
  unfold maxLen at hs'
  cases hb : okB s with
  | false =>
    have HO := Lib.hid (unO_no hb)
    go_enter Try.func13, Try.ntmps13
    go_wp2_with (go_at_call 21; refine (implOk _ _ hs).mono ?_; rintro e w1 ⟨rfl, hb1⟩)
    go_ret2
    refine ⟨?_, ‹_›⟩
    rw [unOk_none HO.out, unV_none HO.out]; rfl
  | true =>
    have HB := Lib.hid hb
    have hl := okB_size hb
    go_enter Try.func13, Try.ntmps13
    go_wp2_with fail
    refine (implOk _ _ hs).mono ?_
    rintro e w1 ⟨rfl, hb1⟩
    rw [hb]
    clear hb
    go_wp2_with fail
    refine (closureMade _).mono ?_
    rintro e w2 ⟨rfl, rfl⟩
    go_wp2_with fail
    have hG := Going.start w w1 (by assumption) s
    go_loopw [6] (fun dw wr => ∃ (k : Nat) (o dv : List UInt8), k ≤ s.size ∧ dw = .string ⟨dv.toArray⟩ ∧ Hid (At (s.data.toList.take k) o dv) ∧ Going w w1.heap.size (stuffL o) o s k wr) (fun _ wr => s.size - wr.iterPos (w1.heap.size + 1 + 1 + 1))
    case atStart => exact ⟨0, [], [], Nat.zero_le _, rfl, Lib.hid At.start, hG⟩
    case round =>
      clear hG
      obtain ⟨k, o, dv, hk, rfl, HA, hG⟩ := hrel
      have hol : o.length ≤ 400 := by
        have h1 := HA.out.short
        rw [List.length_take] at h1
        have : s.data.toList.length = s.size := by simp
        omega
      have HP := Lib.hid hG.pos
      by_cases hlt : k < s.size
      · have hbk := okB_bit HB.out k hlt
        have hc := bit_cases hbk
        have h32 := bit_i32 hbk
        have hnx : ∀ ty, (Instr.next (.pointer (some ⟨w1.heap.size + 1 + 1 + 1, 0, none⟩)) true ty).run Try.prog wr = _ := fun ty => Lib.run_next_ascii_at wr _ s k ty hG.it hlt (by omega)
        have HBK := Lib.hid hbk
        have HX := Lib.hid (take_snoc s k hlt)
        have HN := hG.next
        have hsz := HN.size
        clear hc hbk
        have hone := HA.out.one
        rcases hone with rfl | ⟨d, rfl, hr5⟩
        · go_wp2_with fail
          refine (writeRune _ _ _ _ h32.1 h32.2 _ HN.b (by rw [bc_len]; omega) (by omega)).mono ?_
          rintro e W1 ⟨rfl, g1, g2, g3⟩
          have HW := HN.wrote (o' := o ++ [s[k]]) (by rw [Lib.byteCells_append, ← rune_bit HBK.out]; exact Or.inr g1) g2 g3
          clear hnx hG hsz HN g1 g2 g3
          go_wp2_with fail
          refine (closureStep _ _ _ _ _ (by omega) HBK.out (run_stuff _) HW.kept).mono ?_
          rintro e W2 ⟨rfl, g1, g2⟩
          have HT := HW.told (l' := stuffL (o ++ [s[k]])) (by rw [stuffL_snoc]; exact g1) g2
          have HD := Lib.hid (HA.out.more s[k])
          have HE := Lib.hid HA.out.free.2
          clear HW g1 g2
          go_wp2_with fail
          go_roundw
          case rel => exact ⟨k + 1, o ++ [s[k]], due (s.data.toList.take k) s[k], by omega, by rw [HE.out], by rw [HX.out]; exact HD, HT⟩
          case measure => rw [HT.pos, HP.out]; omega
        · by_cases hd : s[k] = d
          · subst hd
            have ht : ([s[k]] == (Utf8.encode (s[k].toNat : Int)).toList) = true := by rw [enc_list HBK.out]; simp
            have HD := Lib.hid (HA.out.paid (all_take HB.out k) HBK.out)
            clear hG hsz
            go_wp2_with fail
            go_roundw
            case rel => exact ⟨k + 1, o, [], by omega, rfl, by rw [HX.out]; exact HD, HN⟩
            case measure => rw [HN.pos, HP.out]; omega
          · have ht : ([d] == (Utf8.encode (s[k].toNat : Int)).toList) = false := by rw [enc_list HBK.out]; simpa using fun e => hd e.symm
            have HD := Lib.hid (HA.out.wrong (all_take HB.out k) HBK.out hd)
            have HO := Lib.hid (unO_cut HB.out (k + 1) (by rw [HX.out]; exact HD.out))
            have HW := Lib.hid HN.below
            clear hG hsz HN
            go_wp2_with fail
            go_ret2
            refine ⟨?_, HW.out⟩
            rw [unOk_none HO.out, unV_none HO.out]; rfl
      · obtain rfl : k = s.size := by omega
        have hta := take_all s s.size (Nat.le_refl _)
        rw [hta] at HA
        have hnx : ∀ ty, (Instr.next (.pointer (some ⟨w1.heap.size + 1 + 1 + 1, 0, none⟩)) true ty).run Try.prog wr = _ := fun ty => Lib.run_next_end_at wr _ s s.size ty hG.it hlt
        have HG := Lib.hid hG
        clear hG hta hk
        have hone := HA.out.one
        rcases hone with rfl | ⟨d, rfl, hr5⟩
        · have HO := Lib.hid (unO_end HB.out HA.out.un (by have := HA.out.free.1; omega))
          go_wp2_with fail
          refine (textOf _ _ _ _ HG.out.b (by have := HG.out.size; omega)).mono ?_
          rintro e W2 ⟨rfl, _, g2, _⟩
          have HW := Lib.hid (HG.out.below.trans (g2.mono (by have := HG.out.low; omega)))
          clear g2 HG HP
          go_wp2
          go_ret2
          refine ⟨?_, HW.out⟩
          rw [unOk_some HO.out, unV_some HO.out]; rfl
        · have HO := Lib.hid (unO_five HB.out hr5)
          go_wp2
          go_ret2
          refine ⟨?_, HG.out.below⟩
          rw [unOk_none HO.out, unV_none HO.out]; rfl

end Go.Proofs.Ythnpimflohcicaa
