/- The contract of l1Bend: of a text of at most N bytes it answers some text of at most N + 2, and writes into nothing that was there but the cursor. -/
import Derived.Test.YtcciabalbdnakaaDoorDrawT
set_option linter.unusedSimpArgs false
set_option linter.unusedVariables false
namespace Go.Proofs.YtcciabalbdnakaaDoor
open Go.RowKit

set_option maxRecDepth 100000 in
set_option maxHeartbeats 1000000 in
/-- spec.l1Bend. -/
theorem bendAny {B p : Nat} {a : Option Addr} {len cap : Nat} (s signs : ByteArray) (N : Nat) (w : World) (hs : s.size ≤ N) (hN : N ≤ 100000) (h1 : 1 ≤ signs.size) (h2 : signs.size ≤ 100) (st : St B p a len cap w) :
    Calls Tryd.prog 40 #[.pointer (some ⟨p, 0, none⟩), .string s, .string signs] w (Text B p a len cap (N + 2) w) := by
  have hcv := fun W : World => run_bytes_of_string (P := Tryd.prog) W 9 22 5 s Tryd.underlying9 Tryd.underlying22 Tryd.underlying5
  have hmade := Row.made s w (by omega)
  have hp := st.lt
  have st0 := st.drew
  have st1 := st0.alloc (.cells (bytesRow s (grownCap w s.size 0 5)) 5 ((bytesRow s (grownCap w s.size 0 5)).size, (bytesRow s (grownCap w s.size 0 5)).size + 1))
  have g1 : w.grownBy (w.drew.alloc (.cells (bytesRow s (grownCap w s.size 0 5)) 5 ((bytesRow s (grownCap w s.size 0 5)).size, (bytesRow s (grownCap w s.size 0 5)).size + 1))) (some p) := grown_of_drew (World.grownBy_alloc w.drew _ (some p))
  generalize hw1 : w.drew.alloc (.cells (bytesRow s (grownCap w s.size 0 5)) 5 ((bytesRow s (grownCap w s.size 0 5)).size, (bytesRow s (grownCap w s.size 0 5)).size + 1)) = w1 at hmade st1 g1
  have hcv1 := hcv w
  rw [hw1] at hcv1
  clear hcv hw1 st0
  generalize grownCap w s.size 0 5 = c0 at hcv1 hmade
  go_enter Tryd.func40, Tryd.ntmps40
  go_wp2_with fail
  clear hcv1
  refine (belowPos (B := B) (a := a) (len := len) (cap := cap) 3 _ (by omega) (by omega) st1).mono ?_
  rintro e w2 ⟨n0, n00, n01, rfl, g2, s2⟩
  have r2 := hmade.kept g2 (by simp; omega)
  go_wp2_with fail
  go_loopw [7, 8] (fun b n wr => ∃ (i : Int) (g m c : Nat) (zs : List Int), n = .int .i64 i ∧ b = .slice (some ⟨g, 0, none⟩) m c ∧ i ≤ 2 ∧ 0 ≤ i ∧ (m : Int) + i ≤ N + 2 ∧ Row w.heap.size g m c zs wr ∧ w.grownBy wr (some p) ∧ St B p a len cap wr) (fun _ n _ => (intOf n).toNat)
  case atStart => exact ⟨n0, _, _, _, _, rfl, rfl, by omega, by omega, by omega, r2, grown_trans g1 g2, s2⟩
  case round =>
    clear r2 hmade s2 g2 g1 st1
    obtain ⟨i, g, m, c, zs, rfl, rfl, hi, hi0, hm, row, gr, sr⟩ := hrel
    by_cases hlt : 0 < i
    · by_cases h0 : 0 < m
      · go_wp2_with fail
        refine (belowPos (B := B) (a := a) (len := len) (cap := cap) m _ (by omega) (by omega) sr).mono ?_
        rintro e w3 ⟨k, k0, k1, rfl, g3, s3⟩
        have row3 := row.kept g3 (by have := row.base; simp; omega)
        go_wp2_with fail
        refine (belowPos (B := B) (a := a) (len := len) (cap := cap) 4 _ (by omega) (by omega) s3).mono ?_
        rintro e w4 ⟨x, x0, x1, rfl, g4, s4⟩
        have row4 := row3.kept g4 (by have := row.base; simp; omega)
        have G4 := grown_trans (grown_trans gr g3) g4
        clear row row3 s3 g3 g4 gr sr
        obtain ⟨q, rfl⟩ := Int.eq_ofNat_of_zero_le k0
        have hx : x = 0 ∨ x = 1 ∨ x = 2 ∨ x = 3 := by omega
        rcases hx with rfl | rfl | rfl | rfl
        · have hq : q < m := by omega
          have hsz4 := G4.size
          have hb4 := row4.base
          go_wp2_with fail
          refine (belowPos (B := B) (a := a) (len := len) (cap := cap) signs.size _ (by omega) (by omega) s4).mono ?_
          rintro e w7 ⟨x7, x70, x71, rfl, gr7, st7⟩
          have row7 := row4.kept gr7 (by simp; omega)
          have cell7 := row7.cell q hq
          have free7 := row7.free q hq
          have hz7 : x7.toNat < signs.size := by omega
          have byte7 := (signs[x7.toNat]'hz7).toNat_lt
          have R8 := row7.put q ((signs[x7.toNat]'hz7).toNat : Int) (by omega) (by omega)
          have G8 := grown_own (grown_trans G4 gr7) (grown_set w7 g q (.int .u8 ((signs[x7.toNat]'hz7).toNat : Int))) (by omega)
          have S8 := st7.step (grown_set w7 g q (.int .u8 ((signs[x7.toNat]'hz7).toNat : Int))) (fun k e => by cases e; omega)
          clear row4 gr7 row7
          go_wp2_with fail
          go_roundw
          case rel => exact ⟨i - 1, _, _, _, _, rfl, rfl, by omega, by omega, by omega, R8, G8, S8⟩
          case measure => simp [intOf]; omega
        · have hc := row4.le
          have R8 := row4.cut q (by omega)
          have hle1 : q ≤ c := by omega
          go_wp2_with fail
          go_roundw
          case rel => exact ⟨i - 1, _, _, _, _, rfl, rfl, by omega, by omega, by omega, R8, G4, s4⟩
          case measure => simp [intOf]; omega
        · have hq : q < m := by omega
          have hc := row4.le
          have hc2 := row4.max
          unfold maxLen at hc2
          have hlt4 := row4.lt
          have own0 := (World.ownsRow_made (base := w4.heap.size) (e := 5) (size := 1) w4 #[] 0 (Nat.le_refl _) (Nat.zero_le _) rfl).drew
          have rowA := row4.kept (grown_drew (World.grownBy_alloc w4 (.cells #[] 5) none)) (by simp)
          have stA := (s4.alloc (.cells #[] 5)).drew
          have q1 : IntKind.i64.wrap ((q : Int) + 1) = (q : Int) + 1 := IntWalk.i64_in _ (by omega)
          have hle1 : q ≤ c := by omega
          have hle2 : q + 1 ≤ m := by omega
          have hle3 : q + 1 ≤ c := by omega
          have hsl1 : 0 ≤ (q : Int) + 1 := by omega
          have hsl2 : (q : Int) + 1 ≤ (m : Int) := by omega
          by_cases hqc : c = q + 1
          · subst hqc
            obtain rfl : m = q + 1 := by omega
            have hz1 : (q : Int) ≤ (q : Int) + 1 := by omega
            go_wp2_with fail
            go_region_law (first
              | (refine step_app rfl (.tmp 47) (.tmp 50) rfl w4.heap.size w4.heap.size 0 0 [] (by simp [Act.eval, Act.put]) own0 ⟨g, 0, none⟩ q (q + 1) (zs.take q) (by simp [Act.eval, Act.put]) (by rw [List.length_take, row4.len]; omega) (rowA.head q (by omega)) (by omega) (by simp) ?_
                 intro g5 c5 w5 own5 gr5
                 have row5 := rowA.kept gr5 (by simp; omega)
                 have sz5 := gr5.size
                 simp only [Nat.zero_add, List.nil_append] at own5)
              | (refine step_app rfl (.tmp 51) (.tmp 55) rfl w4.heap.size g5 q c5 (zs.take q) (by simp [Act.eval, Act.put]) own5 ⟨g, 0, none⟩ 0 0 [] (by simp [Act.eval, Act.put]) rfl (fun j u h => by simp at h) (by omega) (by simp at sz5; omega) ?_
                 intro g6 c6 w6 own6 gr6
                 simp only [Nat.add_zero, List.append_nil] at own6))
            have hlow := (own5.lt g5 rfl).1
            have hsz4 := G4.size
            have G5 := grown_own (grown_trans G4 (grown_drew (World.grownBy_alloc w4 (.cells #[] 5) (some p)))) gr5 G4.size
            have G6 := grown_own G5 gr6 (Nat.le_trans G4.size hlow)
            have S6 := (stA.step gr5 (fun k e => by cases e; omega)).step gr6 (fun k e => by cases e; omega)
            have R6 := (Row.of_owns own6 (fun z hz => row4.bd z (List.mem_of_mem_take hz))).mono G4.size
            clear own5 own6 gr5 gr6 row5 rowA own0 stA sz5 row4
            go_wp2_with fail
            go_roundw
            case rel => exact ⟨i - 1, _, _, _, _, rfl, rfl, by omega, by omega, by omega, R6, G6, S6⟩
            case measure => simp [intOf]; omega
          · go_wp2_with fail
            go_region_law (first
              | (refine step_app rfl (.tmp 47) (.tmp 50) rfl w4.heap.size w4.heap.size 0 0 [] (by simp [Act.eval, Act.put]) own0 ⟨g, 0, none⟩ q c (zs.take q) (by simp [Act.eval, Act.put]) (by rw [List.length_take, row4.len]; omega) (rowA.head q (by omega)) (by omega) (by simp) ?_
                 intro g5 c5 w5 own5 gr5
                 have row5 := rowA.kept gr5 (by simp; omega)
                 have sz5 := gr5.size
                 simp only [Nat.zero_add, List.nil_append] at own5)
              | (refine step_app rfl (.tmp 51) (.tmp 55) rfl w4.heap.size g5 q c5 (zs.take q) (by simp [Act.eval, Act.put]) own5 ⟨g, q + 1, none⟩ (m - (q + 1)) (c - (q + 1)) (zs.drop (q + 1)) (by simp [Act.eval, Act.put]) (by rw [List.length_drop, row4.len]) (row5.tail (q + 1) (by omega)) (by omega) (by simp at sz5; omega) ?_
                 intro g6 c6 w6 own6 gr6))
            have hlow := (own5.lt g5 rfl).1
            have hsz4 := G4.size
            have G5 := grown_own (grown_trans G4 (grown_drew (World.grownBy_alloc w4 (.cells #[] 5) (some p)))) gr5 G4.size
            have G6 := grown_own G5 gr6 (Nat.le_trans G4.size hlow)
            have S6 := (stA.step gr5 (fun k e => by cases e; omega)).step gr6 (fun k e => by cases e; omega)
            have R6 := (Row.of_owns own6 (fun z hz => (List.mem_append.1 hz).elim (fun h => row4.bd z (List.mem_of_mem_take h)) (fun h => row4.bd z (List.mem_of_mem_drop h)))).mono G4.size
            clear own5 own6 gr5 gr6 row5 rowA own0 stA sz5 row4
            go_wp2_with fail
            go_roundw
            case rel => exact ⟨i - 1, _, _, _, _, rfl, rfl, by omega, by omega, by omega, R6, G6, S6⟩
            case measure => simp [intOf]; omega
        · have hq : q < m := by omega
          have hc := row4.le
          have hc2 := row4.max
          unfold maxLen at hc2
          have hlt4 := row4.lt
          have own0 := (World.ownsRow_made (base := w4.heap.size) (e := 5) (size := 1) w4 #[] 0 (Nat.le_refl _) (Nat.zero_le _) rfl).drew
          have rowA := row4.kept (grown_drew (World.grownBy_alloc w4 (.cells #[] 5) none)) (by simp)
          have stA := (s4.alloc (.cells #[] 5)).drew
          have hsz4 := G4.size
          have hle1 : q ≤ c := by omega
          have hle2 : q ≤ m := by omega
          have hcq : ¬ c = q := by omega
          have hb4 := row4.base
          have hsl2 : (q : Int) ≤ (m : Int) := by omega
          go_wp2_with fail
          go_region_law (first
            | (refine step_app rfl (.tmp 59) (.tmp 62) rfl w4.heap.size w4.heap.size 0 0 [] (by simp [Act.eval, Act.put]) own0 ⟨g, 0, none⟩ q c (zs.take q) (by simp [Act.eval, Act.put]) (by rw [List.length_take, row4.len]; omega) (rowA.head q (by omega)) (by omega) (by simp) ?_
               intro g5 c5 w5 own5 gr5
               have row5 := rowA.kept gr5 (by simp; omega)
               have st5 := stA.step gr5 (fun k e => by cases e; omega)
               have sz5 := gr5.size
               simp only [Nat.zero_add, List.nil_append] at own5)
            | (go_simp
               go_at_call 36
               refine (belowPos (B := B) (a := a) (len := len) (cap := cap) signs.size _ (by omega) (by omega) st5).mono ?_
               rintro e w7 ⟨x7, x70, x71, rfl, gr7, st7⟩
               have hg5 := (own5.lt g5 rfl).1
               have row7 := row5.kept gr7 (by simp; omega)
               have own7 := own5.kept gr7 (.inr (by simp [Value.ownBlock]; omega))
               have sz7 := gr7.size
               obtain ⟨z7, i7, z70, z71⟩ : ∃ z : Int, (∀ W, (Instr.index 9 (.string signs) (.int .i64 x7)).run Tryd.prog W = .ok (.int .u8 z) W) ∧ 0 ≤ z ∧ z ≤ 255 :=
                 ⟨_, fun W => index_at signs x7 x7.toNat W (by omega) (by omega), by omega, by have := (signs[x7.toNat]'(by omega)).toNat_lt; omega⟩)
            | (refine step_app rfl (.tmp 63) (.tmp 70) rfl w4.heap.size g5 q c5 (zs.take q) (by simp [Act.eval, Act.put]) (own7.alloc _) ⟨w7.heap.size, 0, none⟩ 1 1 [z7] (by simp [Act.eval, Act.put]) rfl (one_news w7 z7) (by omega) (by simp at sz5 sz7 ⊢; omega) ?_
               intro g8 c8 w8 own8 gr8
               have row8 := (row7.kept (World.grownBy_alloc w7 (.cells #[.int .u8 z7] 5) none) (by simp)).kept gr8 (by simp; omega)
               have sz8 := gr8.size)
            | (refine step_app rfl (.tmp 71) (.tmp 74) rfl w4.heap.size g8 (q + 1) c8 (zs.take q ++ [z7]) (by simp [Act.eval, Act.put]) own8 ⟨g, q, none⟩ (m - q) (c - q) (zs.drop q) (by simp [Act.eval, Act.put]) (by rw [List.length_drop, row4.len]) (row8.tail q (by omega)) (by omega) (by simp at sz5 sz7 sz8; omega) ?_
               intro g9 c9 w9 own9 gr9))
          have hg8 := (own8.lt g8 rfl).1
          have G5 := grown_own (grown_trans G4 (grown_drew (World.grownBy_alloc w4 (.cells #[] 5) (some p)))) gr5 G4.size
          have G8 := grown_own (grown_trans (grown_trans G5 gr7) (World.grownBy_alloc w7 (.cells #[.int .u8 z7] 5) (some p))) gr8 (by omega)
          have G9 := grown_own G8 gr9 (by omega)
          have S9 := ((st7.alloc (.cells #[.int .u8 z7] 5)).step gr8 (fun k e => by cases e; omega)).step gr9 (fun k e => by cases e; omega)
          have R9 := (Row.of_owns own9 (fun z hz => (List.mem_append.1 hz).elim
            (fun h => (List.mem_append.1 h).elim (fun h => row4.bd z (List.mem_of_mem_take h)) (fun h => by rw [List.mem_singleton] at h; subst h; exact ⟨z70, z71⟩))
            (fun h => row4.bd z (List.mem_of_mem_drop h)))).mono G4.size
          clear own5 own7 own8 own9 gr5 gr7 gr8 gr9 row5 row7 row8 rowA own0 stA st5 sz5 sz7 sz8 row4 i7
          go_wp2_with fail
          go_roundw
          case rel => exact ⟨i - 1, _, _, _, _, rfl, rfl, by omega, by omega, by omega, R9, G9, S9⟩
          case measure => simp [intOf]; omega
      · have hm0 : m = 0 := by omega
        subst hm0
        have hcv := row.text
        go_wp2_with fail
        go_ret
        exact ⟨_, by rw [strOfNums_size, row.len]; omega, rfl, gr, sr⟩
    · have hcv := row.text
      go_wp2_with fail
      go_ret
      exact ⟨_, by rw [strOfNums_size, row.len]; omega, rfl, gr, sr⟩

end Go.Proofs.YtcciabalbdnakaaDoor
