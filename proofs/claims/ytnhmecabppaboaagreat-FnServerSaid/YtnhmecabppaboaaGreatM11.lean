/- A row of bytes that a call owns: what reading, writing, cutting and appending do to it. No program's walk in it. -/
import Derived.Test.YtnhmecabppaboaaGreatM9
import Derived.Laws.BytesArg
import Derived.Deep.RegionLaw
import Derived.Lib.AppendStr
import Derived.Below

set_option linter.unusedSimpArgs false
set_option linter.unusedVariables false
set_option maxRecDepth 20000
namespace Go.Proofs.YtnhmecabppaboaaGreat
open Go.RowKit

/-- Block g, from B on, holds the bytes zs behind its head, in a slice of m elements and room for cap. -/
structure Row (B g m cap : Nat) (zs : List Int) (w : World) : Prop where
  base : B ≤ g
  le : m ≤ cap
  max : cap ≤ maxLen
  len : zs.length = m
  bd : ∀ z ∈ zs, 0 ≤ z ∧ z ≤ 255
  block : ∃ cur lo hi, w.heap[g]? = some (.cells cur 5 (lo, hi)) ∧ (hi = 0 ∨ cap ≤ lo) ∧ ∀ j (hj : j < m), cur[j]? = some (.int .u8 (zs.getD j 0))

section
variable {B g m cap : Nat} {zs : List Int} {w : World}
theorem Row.lt (r : Row B g m cap zs w) : g < w.heap.size := by
  obtain ⟨cur, lo, hi, h, _⟩ := r.block
  exact (Array.getElem?_eq_some_iff.1 h).1
theorem Row.cell (r : Row B g m cap zs w) (j : Nat) (hj : j < m) : w.cell? ⟨g, j, none⟩ = some (.int .u8 (zs.getD j 0)) := by
  obtain ⟨cur, lo, hi, h, _, hc⟩ := r.block
  rw [← hc j hj]; simp [World.cell?, h]
theorem Row.free (r : Row B g m cap zs w) (j : Nat) (hj : j < m) : w.frozen? ⟨g, j, none⟩ = false := by
  obtain ⟨cur, lo, hi, h, hf, _⟩ := r.block
  have := r.le
  simp only [World.frozen?, h]
  simp only [Bool.and_eq_false_iff, decide_eq_false_iff_not]
  omega
theorem Row.kept {w' : World} {row : Option Nat} (r : Row B g m cap zs w) (hg : w.grownBy w' row) (hne : some g ≠ row) : Row B g m cap zs w' := by
  obtain ⟨cur, lo, hi, h, hf, hc⟩ := r.block
  exact ⟨r.base, r.le, r.max, r.len, r.bd, cur, lo, hi, by rw [hg.block g r.lt hne]; exact h, hf, hc⟩
theorem Row.cut (r : Row B g m cap zs w) (k : Nat) (hk : k ≤ m) : Row B g k cap (zs.take k) w := by
  obtain ⟨cur, lo, hi, h, hf, hc⟩ := r.block
  refine ⟨r.base, Nat.le_trans hk r.le, r.max, by rw [List.length_take, r.len]; omega, fun z hz => r.bd z (List.mem_of_mem_take hz), cur, lo, hi, h, hf, fun j hj => ?_⟩
  rw [hc j (by omega)]
  simp [List.getD, List.getElem?_take, hj]
theorem Row.put (r : Row B g m cap zs w) (k : Nat) (z : Int) (h0 : 0 ≤ z) (h1 : z ≤ 255) : Row B g m cap (zs.set k z) (w.setCell ⟨g, k, none⟩ (.int .u8 z)) := by
  obtain ⟨cur, lo, hi, h, hf, hc⟩ := r.block
  refine ⟨r.base, r.le, r.max, by rw [List.length_set]; exact r.len, fun x hx => ?_, cur.setIfInBounds k (.int .u8 z), lo, hi, by simp [World.setCell, Array.getElem?_modify, h], hf, fun j hj => ?_⟩
  · rcases List.mem_or_eq_of_mem_set hx with hx | hx
    · exact r.bd x hx
    · subst hx; exact ⟨h0, h1⟩
  · have hj' : j < zs.length := by rw [r.len]; exact hj
    have hcj := hc j hj
    by_cases e : k = j
    · subst e
      have hks : k < cur.size := (Array.getElem?_eq_some_iff.1 hcj).1
      simp [Array.getElem?_setIfInBounds, hks, List.getD, List.getElem?_set, hj']
    · rw [Array.getElem?_setIfInBounds_ne e, hcj]
      simp [List.getD, List.getElem?_set, e]
theorem Row.text (r : Row B g m cap zs w) : ∀ dst, Tryz.prog.underlying dst = some .string → (convert 22 dst (.slice (some ⟨g, 0, none⟩) m cap)).run Tryz.prog w = .ok (.string (strOfNums zs)) w :=
  run_convert_bytes_arg w 22 5 Tryz.underlying22 Tryz.underlying5 g 0 m cap zs r.len (fun i hi => by rw [Nat.zero_add]; exact r.cell i hi)
theorem Row.news (r : Row B g m cap zs w) (lo n : Nat) (h : lo + n ≤ m) : ∀ j u, (((zs.drop lo).take n).map (Value.int .u8))[j]? = some u → w.cell? ((⟨g, lo, none⟩ : Addr).add j) = some u := by
  intro j u hu
  have hj : j < n := by
    have := (List.getElem?_eq_some_iff.1 hu).1
    simp at this; omega
  have hadd : (⟨g, lo, none⟩ : Addr).add j = ⟨g, lo + j, none⟩ := by unfold Addr.add; split <;> simp_all
  rw [hadd, r.cell (lo + j) (by omega)]
  rw [List.getElem?_map, List.getElem?_take, if_pos hj, List.getElem?_drop] at hu
  have hl : lo + j < zs.length := by rw [r.len]; omega
  rw [List.getElem?_eq_getElem hl] at hu
  simp only [Option.map_some, Option.some.injEq] at hu
  rw [← hu]
  simp [List.getD, hl]
theorem Row.head (r : Row B g m cap zs w) (n : Nat) (h : n ≤ m) : ∀ j u, ((zs.take n).map (Value.int .u8))[j]? = some u → w.cell? ((⟨g, 0, none⟩ : Addr).add j) = some u := by
  have := r.news 0 n (by omega)
  rwa [List.drop_zero] at this
theorem Row.tail (r : Row B g m cap zs w) (lo : Nat) (h : lo ≤ m) : ∀ j u, ((zs.drop lo).map (Value.int .u8))[j]? = some u → w.cell? ((⟨g, lo, none⟩ : Addr).add j) = some u := by
  have := r.news lo (m - lo) (by omega)
  rwa [List.take_of_length_le (by rw [List.length_drop, r.len]; exact Nat.le_refl _)] at this
theorem Row.mono {B' : Nat} (r : Row B g m cap zs w) (h : B' ≤ B) : Row B' g m cap zs w := ⟨Nat.le_trans h r.base, r.le, r.max, r.len, r.bd, r.block⟩

theorem Row.of_owns (h : w.ownsRow B 5 1 (.slice (some ⟨g, 0, none⟩) m cap) m (zs.map (Value.int .u8))) (bd : ∀ z ∈ zs, 0 ≤ z ∧ z ≤ 255) : Row B g m cap zs w := by
  have hl : zs.length = m := by have := h.1; simpa using this
  rcases h.2 with ⟨h', _⟩ | ⟨g', cap', cur, h', hb, hg, hnc, hcm, hcs, htake⟩
  · simp at h'
  · simp only [Value.slice.injEq, Option.some.injEq, Addr.mk.injEq, and_true, true_and] at h'
    obtain ⟨rfl, rfl⟩ := h'
    refine ⟨hb, hnc, hcm, hl, bd, cur, 0, 0, hg, .inl rfl, fun j hj => ?_⟩
    have h2 : (cur.toList.take (m * 1))[j]? = (zs.map (Value.int .u8))[j]? := by rw [htake]
    rw [List.getElem?_take, if_pos (by omega), Array.getElem?_toList] at h2
    rw [h2]
    have hj' : j < zs.length := by rw [hl]; exact hj
    simp [List.getD, hj']
end

/-- A new text as bytes: the row that is laid. -/
theorem Row.made (s : ByteArray) (w : World) (hs : s.size ≤ 1000000) : Row w.heap.size w.heap.size s.size (grownCap w s.size 0 5) (s.data.toList.map fun b => (b.toNat : Int))
    (w.drew.alloc (.cells (bytesRow s (grownCap w s.size 0 5)) 5 ((bytesRow s (grownCap w s.size 0 5)).size, (bytesRow s (grownCap w s.size 0 5)).size + 1))) := by
  have hge := grownCap_ge w s.size 0 5
  have hcm : grownCap w s.size 0 5 ≤ maxLen := grownCap_le_maxLen w s.size 0 5 (by unfold maxLen; omega)
  have hsz : (bytesRow s (grownCap w s.size 0 5)).size = grownCap w s.size 0 5 := by
    simp [bytesRow]; omega
  refine ⟨Nat.le_refl _, hge, hcm, by simp, fun z hz => ?_, _, _, _, heap_alloc_new w.drew _, .inr (by rw [hsz]; exact Nat.le_refl _), fun j hj => ?_⟩
  · obtain ⟨b, _, rfl⟩ := List.mem_map.1 hz
    have := b.toNat_lt; omega
  · have hj' : j < s.data.size := hj
    have hl : j < s.data.toList.length := by simpa using hj
    simp only [bytesRow]
    rw [Array.getElem?_append_left (by simpa using hj')]
    rw [List.getD_eq_getElem?_getD, List.getElem?_map, Array.getElem?_toList, Array.getElem?_map, Array.getElem?_eq_getElem hj']
    rfl

/-- One byte in a block of its own, as what is appended. -/
theorem one_news (w : World) (z : Int) : ∀ j u, ([z].map (Value.int .u8))[j]? = some u → (w.alloc (.cells #[.int .u8 z] 5)).cell? ((⟨w.heap.size, 0, none⟩ : Addr).add j) = some u := by
  intro j u hu
  match j, hu with
  | 0, hu =>
    simp at hu; subst hu
    exact World.cell?_alloc_at _ _ _ _ rfl

theorem info8 : (Tryz.prog.info? 5).map (fun i => (i.zero, i.size, i.bytes)) = some (some (.int .u8 0), 1, 1) := by kernel_rfl

/-- 'append' of some bytes onto a row that was made behind block Bn: at a step of a region that draws its order. -/
theorem step_app {ops : Array Oper} {o : Oper} {a : Act} {w : World} {K : Act → World → Prop} {Q : Exit → Act → World → Prop} {E : Prop} (hgd : o.guard = none) (s x : Operand)
    (ho : o.op = .call { callee := .builtin .append, args := #[s, x], argTypes := #[22, 22] })
    (Bn g n cap : Nat) (xs : List Int) (hs : a.eval s = .slice (some ⟨g, 0, none⟩) n cap) (hown : w.ownsRow Bn 5 1 (.slice (some ⟨g, 0, none⟩) n cap) n (xs.map (Value.int .u8)))
    (ad : Addr) (m c : Nat) (news : List Int) (hx : a.eval x = .slice (some ad) m c) (hl : news.length = m) (hnews : ∀ j u, (news.map (Value.int .u8))[j]? = some u → w.cell? (ad.add j) = some u)
    (hsz : n + m ≤ 10000000) (hbase : Bn ≤ w.heap.size)
    (h : ∀ g' cap' w', w'.ownsRow Bn 5 1 (.slice (some ⟨g', 0, none⟩) (n + m) cap') (n + m) ((xs ++ news).map (Value.int .u8)) → w.grownBy w' (some g) → K (a.put o.dst (.slice (some ⟨g', 0, none⟩) (n + m) cap')) w') :
    if Region.wanted o (yielded ops a.tmps) = true then Oper.wp Tryz.prog o a w K Q else E := by
  have hw : Region.wanted o (yielded ops a.tmps) = true := by simp [Region.wanted, hgd]
  rw [if_pos hw]
  obtain ⟨i0, hi, hz0, hz1, hz2⟩ := info_parts info8
  obtain ⟨v', w', hr, h2, h3, h4⟩ := run_append_own (P := Tryz.prog) w Bn 22 o.type 5 i0 (.int .u8 0) 1 1 Tryz.underlying22 hi hz0 hz1 hz2 rfl (by decide)
    (.slice (some ⟨g, 0, none⟩) n cap) n (xs.map (Value.int .u8)) hown ad m c (news.map (Value.int .u8)) (by simpa using hl) hnews (fun u hu => by obtain ⟨z, _, rfl⟩ := List.mem_map.1 hu; rfl) (by unfold maxLen; omega) (by omega) hbase
  rcases h2.2 with ⟨hv, _⟩ | ⟨g', cap', cur, hv, _⟩
  · have := (h4.1 hv).1
    simp at this
  · subst hv
    unfold Oper.wp
    simp [execOp, ho, resolve, invoke, builtin, hs, hx, hr, Result.andThen]
    exact h g' cap' w' (by rw [List.map_append]; exact h2) h3

end Go.Proofs.YtnhmecabppaboaaGreat

/- Contracts of the model's cursor (l1New) and of its draws of texts (l1Bend, l1DrawAny): each answers some text within its bounds, and writes into nothing that was there. -/

set_option maxRecDepth 20000
namespace Go.Proofs.YtnhmecabppaboaaGreat
open Go.RowKit

theorem grown_own {w wr w' : World} {r : Option Nat} {g : Nat} (h : w.grownBy wr r) (k : wr.grownBy w' (some g)) (hg : w.heap.size ≤ g) : w.grownBy w' r :=
  ⟨k.os.trans h.os, k.tape.trans h.tape, k.output.trans h.output, Nat.le_trans h.size k.size,
    fun i hi hr => (k.block i (Nat.lt_of_lt_of_le hi h.size) (fun e => by cases e; omega)).trans (h.block i hi hr)⟩
theorem grown_drew {w w' : World} {r : Option Nat} (h : w.grownBy w' r) : w.grownBy w'.drew r := ⟨h.os, h.tape, h.output, h.size, h.block⟩
theorem grown_of_drew {w w' : World} {r : Option Nat} (h : w.drew.grownBy w' r) : w.grownBy w' r := ⟨h.os, h.tape, h.output, h.size, h.block⟩
theorem St.drew {B p : Nat} {a : Option Addr} {len cap : Nat} {w : World} (s : St B p a len cap w) : St B p a len cap w.drew := s.step (r := none) ⟨rfl, rfl, rfl, Nat.le_refl _, fun _ _ _ => rfl⟩ (fun _ h => by cases h)
theorem grown_none {w wr w' : World} {r : Option Nat} (h : w.grownBy wr r) (k : wr.grownBy w' none) : w.grownBy w' r := grown_trans h (grown_some k r)

/-- spec.l1New. -/
theorem newAny {B : Nat} {a : Option Addr} {len cap : Nat} (w : World) (cd : Code B a len w) (hB : B ≤ w.heap.size) :
    Calls Tryz.prog 27 #[.slice a len cap] w fun e w' => e = .returned (.pointer (some ⟨w.heap.size, 0, none⟩)) ∧ w.grownBy w' none ∧ St B w.heap.size a len cap w' := by
  have hl := cd.1
  go_enter Tryz.func27, Tryz.ntmps27
  go_wp2
  go_loop [3, 4] (fun h i => ∃ (n : Int) (k : Nat), h = .int .i64 n ∧ i = .int .i64 k ∧ k ≤ len) (fun _ i => len - (intOf i).toNat)
  case atStart => exact ⟨_, 0, rfl, rfl, Nat.zero_le _⟩
  case round =>
    obtain ⟨n, k, rfl, rfl, hk⟩ := hrel
    by_cases hlt : k < len
    · obtain ⟨b, off, rfl, hb, z, hz, z0, z1⟩ := cd.2 k hlt
      go_wp2
      go_round
      case rel => exact ⟨_, k + 1, rfl, by go_num, by omega⟩
      case measure => simp [intOf]; omega
    · go_wp2
      go_ret
      have g : w.grownBy (w.alloc (.cells #[.slice a len cap, .int .i64 0, .int .i64 n] 84)) none := World.grownBy_alloc w _ none
      refine ⟨rfl, g, ⟨0, n, hB, heap_alloc_new w _, Int.le_refl _, by omega⟩, hl, fun j hj => ?_⟩
      obtain ⟨b, off, ha, hb, z, hz, z0, z1⟩ := cd.2 j hj
      exact ⟨b, off, ha, hb, z, g.cell hz (by simp), z0, z1⟩

end Go.Proofs.YtnhmecabppaboaaGreat

/- The contract of l1Bend: of a text of at most N bytes it answers some text of at most N + 2, and writes into nothing that was there but the cursor. -/

set_option linter.unusedSimpArgs false
set_option linter.unusedVariables false
set_option maxRecDepth 20000
namespace Go.Proofs.YtnhmecabppaboaaGreat
open Go.RowKit

end Go.Proofs.YtnhmecabppaboaaGreat

/- Bytes that a call owns, appended one by one. No program's walk in it. -/

set_option maxRecDepth 20000
namespace Go.Proofs.YtnhmecabppaboaaGreat
open Go.RowKit

/-- The slice v, made behind block B, holds just the bytes o. -/
def OwnB (B : Nat) (o : List UInt8) (v : Value) (w : World) : Prop :=
  ∃ g cap, v = .slice (some ⟨g, 0, none⟩) o.length cap ∧ w.ownsRow B 5 1 (.slice (some ⟨g, 0, none⟩) o.length cap) o.length (o.map fun b => Value.int .u8 b.toNat)
theorem OwnB.made (w : World) : OwnB w.heap.size [] (.slice (some ⟨w.heap.size, 0, none⟩) 0 0) (w.alloc (.cells #[] 5)) :=
  ⟨w.heap.size, 0, rfl, World.ownsRow_made (base := w.heap.size) (e := 5) (size := 1) w #[] 0 (Nat.le_refl _) (Nat.zero_le _) rfl⟩
theorem OwnB.alloc {B : Nat} {o : List UInt8} {v : Value} {w : World} (h : OwnB B o v w) (x : Obj) : OwnB B o v (w.alloc x) := by
  obtain ⟨g, cap, e, k⟩ := h; exact ⟨g, cap, e, k.alloc x⟩
theorem OwnB.drew {B : Nat} {o : List UInt8} {v : Value} {w : World} (h : OwnB B o v w) : OwnB B o v w.drew := by
  obtain ⟨g, cap, e, k⟩ := h; exact ⟨g, cap, e, k.drew⟩
theorem OwnB.drewN {B : Nat} {o : List UInt8} {v : Value} {w : World} (h : OwnB B o v w) (n : Nat) : OwnB B o v (w.drewN n) := by
  obtain ⟨g, cap, e, k⟩ := h; exact ⟨g, cap, e, k⟩
theorem below_drewn {B : Nat} {a w : World} (h : Below B a w) (n : Nat) : Below B a (w.drewN n) := ⟨h.os, h.tape, h.output, h.size, h.block⟩
theorem OwnB.row {B : Nat} {o : List UInt8} {v : Value} {w : World} (h : OwnB B o v w) : ∃ g cap, v = .slice (some ⟨g, 0, none⟩) o.length cap ∧ Row B g o.length cap (o.map fun b => (b.toNat : Int)) w := by
  obtain ⟨g, cap, e, k⟩ := h
  refine ⟨g, cap, e, Row.of_owns (zs := o.map fun b => (b.toNat : Int)) ?_ ?_⟩
  · rw [List.map_map]; exact k
  · intro z hz
    obtain ⟨b, _, rfl⟩ := List.mem_map.1 hz
    have := b.toNat_lt; omega
theorem OwnB.last {B : Nat} {r : List UInt8} {d : UInt8} {v : Value} {w : World} (h : OwnB B (r ++ [d]) v w) : ∃ g cap, v = .slice (some ⟨g, 0, none⟩) (r.length + 1) cap ∧ w.cell? ⟨g, r.length, none⟩ = some (.int .u8 d.toNat) := by
  obtain ⟨g, cap, e, k⟩ := h.row
  have hc := k.cell r.length (by simp)
  refine ⟨g, cap, by rw [e, List.length_append, List.length_singleton], ?_⟩
  rw [hc]; simp

/-- 'append' of one byte. -/
theorem wpList_app8 {ops : Array Oper} {rest : List Oper} {p : Oper} {a : Act} {w : World} {Q : Exit → Act → World → Prop} (hgd : p.guard = none) (s x : Operand)
    (ho : p.op = .call { callee := .builtin .append, args := #[s, x], argTypes := #[22, 22] })
    (B : Nat) (o : List UInt8) (c : UInt8) (v : Value) (hs : a.eval s = v) (hown : OwnB B o v w) (g1 c1 : Nat) (hx : a.eval x = .slice (some ⟨g1, 0, none⟩) 1 c1) (hcell : w.cell? ⟨g1, 0, none⟩ = some (.int .u8 c.toNat))
    (hsz : o.length ≤ 1000000) (hB : B ≤ w.heap.size)
    (h : ∀ v' w', OwnB B (o ++ [c]) v' w' → Below B w w' → wpList Tryz.prog ops Q rest (a.put p.dst v') w') : wpList Tryz.prog ops Q (p :: rest) a w := by
  obtain ⟨i0, hi, hz0, hz1, hz2⟩ := info_parts info8
  obtain ⟨g, cap, hv, k⟩ := hown
  rw [hv] at hs
  refine wpList_append_own _ hgd s x 22 ho B 5 i0 (.int .u8 0) 1 1 Tryz.underlying22 hi hz0 hz1 hz2 rfl (by decide) _ o.length _ hs k ⟨g1, 0, none⟩ 1 c1 [.int .u8 c.toNat] hx rfl ?_ ?_ ?_ ?_ hB ?_
  · intro j u hu
    match j, hu with
    | 0, hu => simp at hu; subst hu; exact hcell
  · intro u hu; simp at hu; subst hu; rfl
  · unfold maxLen; omega
  · omega
  · intro v' w' h2 h3 h4
    have hb := (k.lt g rfl).1
    refine h v' w' ?_ ((Below.refl B w).grown h3 hB (fun i hi => by simp [Value.ownBlock] at hi; omega))
    rcases h2.2 with ⟨e, e2⟩ | ⟨g', cap', cur, e, _⟩
    · omega
    · subst e
      refine ⟨g', cap', by rw [List.length_append, List.length_singleton], ?_⟩
      rw [List.length_append, List.length_singleton, List.map_append]; exact h2

end Go.Proofs.YtnhmecabppaboaaGreat
