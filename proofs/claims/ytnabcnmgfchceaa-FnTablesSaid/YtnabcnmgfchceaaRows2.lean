/- A row of bytes that a call owns: what reading, writing, cutting and appending do to it. No program's walk in it. -/
import Derived.Test.YtnabcnmgfchceaaDrawN
import Derived.Laws.BytesArg
import Derived.Deep.RegionLaw
set_option linter.unusedSimpArgs false
set_option linter.unusedVariables false
namespace Go.Proofs.Ytnabcnmgfchceaa
open Go.RowKit

/-- Block g, from B on, holds the bytes zs behind its head, in a slice of m elements and room for cap. -/
structure Row (B g m cap : Nat) (zs : List Int) (w : World) : Prop where
  base : B ≤ g
  le : m ≤ cap
  max : cap ≤ maxLen
  len : zs.length = m
  bd : ∀ z ∈ zs, 0 ≤ z ∧ z ≤ 255
  block : ∃ cur lo hi, w.heap[g]? = some (.cells cur 5 (lo, hi)) ∧ (hi = 0 ∨ cap ≤ lo) ∧ ∀ j (hj : j < m), cur[j]? = some (.int .u8 (zs.getD j 0))

section
variable {B g m cap : Nat} {zs : List Int} {w : World}
theorem Row.lt (r : Row B g m cap zs w) : g < w.heap.size := by
  obtain ⟨cur, lo, hi, h, _⟩ := r.block
  exact (Array.getElem?_eq_some_iff.1 h).1
theorem Row.cell (r : Row B g m cap zs w) (j : Nat) (hj : j < m) : w.cell? ⟨g, j, none⟩ = some (.int .u8 (zs.getD j 0)) := by
  obtain ⟨cur, lo, hi, h, _, hc⟩ := r.block
  rw [← hc j hj]; simp [World.cell?, h]
theorem Row.free (r : Row B g m cap zs w) (j : Nat) (hj : j < m) : w.frozen? ⟨g, j, none⟩ = false := by
  obtain ⟨cur, lo, hi, h, hf, _⟩ := r.block
  have := r.le
  simp only [World.frozen?, h]
  simp only [Bool.and_eq_false_iff, decide_eq_false_iff_not]
  omega
theorem Row.kept {w' : World} {row : Option Nat} (r : Row B g m cap zs w) (hg : w.grownBy w' row) (hne : some g ≠ row) : Row B g m cap zs w' := by
  obtain ⟨cur, lo, hi, h, hf, hc⟩ := r.block
  exact ⟨r.base, r.le, r.max, r.len, r.bd, cur, lo, hi, by rw [hg.block g r.lt hne]; exact h, hf, hc⟩
theorem Row.cut (r : Row B g m cap zs w) (k : Nat) (hk : k ≤ m) : Row B g k cap (zs.take k) w := by
  obtain ⟨cur, lo, hi, h, hf, hc⟩ := r.block
  refine ⟨r.base, Nat.le_trans hk r.le, r.max, by rw [List.length_take, r.len]; omega, fun z hz => r.bd z (List.mem_of_mem_take hz), cur, lo, hi, h, hf, fun j hj => ?_⟩
  rw [hc j (by omega)]
  simp [List.getD, List.getElem?_take, hj]
theorem Row.put (r : Row B g m cap zs w) (k : Nat) (z : Int) (h0 : 0 ≤ z) (h1 : z ≤ 255) : Row B g m cap (zs.set k z) (w.setCell ⟨g, k, none⟩ (.int .u8 z)) := by
  obtain ⟨cur, lo, hi, h, hf, hc⟩ := r.block
  refine ⟨r.base, r.le, r.max, by rw [List.length_set]; exact r.len, fun x hx => ?_, cur.setIfInBounds k (.int .u8 z), lo, hi, by simp [World.setCell, Array.getElem?_modify, h], hf, fun j hj => ?_⟩
  · rcases List.mem_or_eq_of_mem_set hx with hx | hx
    · exact r.bd x hx
    · subst hx; exact ⟨h0, h1⟩
  · have hj' : j < zs.length := by rw [r.len]; exact hj
    have hcj := hc j hj
    by_cases e : k = j
    · subst e
      have hks : k < cur.size := (Array.getElem?_eq_some_iff.1 hcj).1
      simp [Array.getElem?_setIfInBounds, hks, List.getD, List.getElem?_set, hj']
    · rw [Array.getElem?_setIfInBounds_ne e, hcj]
      simp [List.getD, List.getElem?_set, e]
theorem Row.text (r : Row B g m cap zs w) : ∀ dst, Try.prog.underlying dst = some .string → (convert 22 dst (.slice (some ⟨g, 0, none⟩) m cap)).run Try.prog w = .ok (.string (strOfNums zs)) w :=
  run_convert_bytes_arg w 22 5 Try.underlying22 Try.underlying5 g 0 m cap zs r.len (fun i hi => by rw [Nat.zero_add]; exact r.cell i hi)
theorem Row.news (r : Row B g m cap zs w) (lo n : Nat) (h : lo + n ≤ m) : ∀ j u, (((zs.drop lo).take n).map (Value.int .u8))[j]? = some u → w.cell? ((⟨g, lo, none⟩ : Addr).add j) = some u := by
  intro j u hu
  have hj : j < n := by
    have := (List.getElem?_eq_some_iff.1 hu).1
    simp at this; omega
  have hadd : (⟨g, lo, none⟩ : Addr).add j = ⟨g, lo + j, none⟩ := by unfold Addr.add; split <;> simp_all
  rw [hadd, r.cell (lo + j) (by omega)]
  rw [List.getElem?_map, List.getElem?_take, if_pos hj, List.getElem?_drop] at hu
  have hl : lo + j < zs.length := by rw [r.len]; omega
  rw [List.getElem?_eq_getElem hl] at hu
  simp only [Option.map_some, Option.some.injEq] at hu
  rw [← hu]
  simp [List.getD, hl]
theorem Row.head (r : Row B g m cap zs w) (n : Nat) (h : n ≤ m) : ∀ j u, ((zs.take n).map (Value.int .u8))[j]? = some u → w.cell? ((⟨g, 0, none⟩ : Addr).add j) = some u := by
  have := r.news 0 n (by omega)
  rwa [List.drop_zero] at this
theorem Row.tail (r : Row B g m cap zs w) (lo : Nat) (h : lo ≤ m) : ∀ j u, ((zs.drop lo).map (Value.int .u8))[j]? = some u → w.cell? ((⟨g, lo, none⟩ : Addr).add j) = some u := by
  have := r.news lo (m - lo) (by omega)
  rwa [List.take_of_length_le (by rw [List.length_drop, r.len]; exact Nat.le_refl _)] at this
theorem Row.mono {B' : Nat} (r : Row B g m cap zs w) (h : B' ≤ B) : Row B' g m cap zs w := ⟨Nat.le_trans h r.base, r.le, r.max, r.len, r.bd, r.block⟩

theorem Row.of_owns (h : w.ownsRow B 5 1 (.slice (some ⟨g, 0, none⟩) m cap) m (zs.map (Value.int .u8))) (bd : ∀ z ∈ zs, 0 ≤ z ∧ z ≤ 255) : Row B g m cap zs w := by
  have hl : zs.length = m := by have := h.1; simpa using this
  rcases h.2 with ⟨h', _⟩ | ⟨g', cap', cur, h', hb, hg, hnc, hcm, hcs, htake⟩
  · simp at h'
  · simp only [Value.slice.injEq, Option.some.injEq, Addr.mk.injEq, and_true, true_and] at h'
    obtain ⟨rfl, rfl⟩ := h'
    refine ⟨hb, hnc, hcm, hl, bd, cur, 0, 0, hg, .inl rfl, fun j hj => ?_⟩
    have h2 : (cur.toList.take (m * 1))[j]? = (zs.map (Value.int .u8))[j]? := by rw [htake]
    rw [List.getElem?_take, if_pos (by omega), Array.getElem?_toList] at h2
    rw [h2]
    have hj' : j < zs.length := by rw [hl]; exact hj
    simp [List.getD, hj']
end

/-- A new text as bytes: the row that is laid. -/
theorem Row.made (s : ByteArray) (w : World) (hs : s.size ≤ 1000000) : Row w.heap.size w.heap.size s.size (grownCap w s.size 0 5) (s.data.toList.map fun b => (b.toNat : Int))
    (w.drew.alloc (.cells (bytesRow s (grownCap w s.size 0 5)) 5 ((bytesRow s (grownCap w s.size 0 5)).size, (bytesRow s (grownCap w s.size 0 5)).size + 1))) := by
  have hge := grownCap_ge w s.size 0 5
  have hcm : grownCap w s.size 0 5 ≤ maxLen := grownCap_le_maxLen w s.size 0 5 (by unfold maxLen; omega)
  have hsz : (bytesRow s (grownCap w s.size 0 5)).size = grownCap w s.size 0 5 := by
    simp [bytesRow]; omega
  refine ⟨Nat.le_refl _, hge, hcm, by simp, fun z hz => ?_, _, _, _, heap_alloc_new w.drew _, .inr (by rw [hsz]; exact Nat.le_refl _), fun j hj => ?_⟩
  · obtain ⟨b, _, rfl⟩ := List.mem_map.1 hz
    have := b.toNat_lt; omega
  · have hj' : j < s.data.size := hj
    have hl : j < s.data.toList.length := by simpa using hj
    simp only [bytesRow]
    rw [Array.getElem?_append_left (by simpa using hj')]
    rw [List.getD_eq_getElem?_getD, List.getElem?_map, Array.getElem?_toList, Array.getElem?_map, Array.getElem?_eq_getElem hj']
    rfl

/-- One byte in a block of its own, as what is appended. -/
theorem one_news (w : World) (z : Int) : ∀ j u, ([z].map (Value.int .u8))[j]? = some u → (w.alloc (.cells #[.int .u8 z] 5)).cell? ((⟨w.heap.size, 0, none⟩ : Addr).add j) = some u := by
  intro j u hu
  match j, hu with
  | 0, hu =>
    simp at hu; subst hu
    exact World.cell?_alloc_at _ _ _ _ rfl

theorem info8 : (Try.prog.info? 5).map (fun i => (i.zero, i.size, i.bytes)) = some (some (.int .u8 0), 1, 1) := by kernel_rfl

/-- 'append' of some bytes onto a row that was made behind block Bn: at a step of a region that draws its order. -/
theorem step_app {ops : Array Oper} {o : Oper} {a : Act} {w : World} {K : Act → World → Prop} {Q : Exit → Act → World → Prop} {E : Prop} (hgd : o.guard = none) (s x : Operand)
    (ho : o.op = .call { callee := .builtin .append, args := #[s, x], argTypes := #[22, 22] })
    (Bn g n cap : Nat) (xs : List Int) (hs : a.eval s = .slice (some ⟨g, 0, none⟩) n cap) (hown : w.ownsRow Bn 5 1 (.slice (some ⟨g, 0, none⟩) n cap) n (xs.map (Value.int .u8)))
    (ad : Addr) (m c : Nat) (news : List Int) (hx : a.eval x = .slice (some ad) m c) (hl : news.length = m) (hnews : ∀ j u, (news.map (Value.int .u8))[j]? = some u → w.cell? (ad.add j) = some u)
    (hsz : n + m ≤ 10000000) (hbase : Bn ≤ w.heap.size)
    (h : ∀ g' cap' w', w'.ownsRow Bn 5 1 (.slice (some ⟨g', 0, none⟩) (n + m) cap') (n + m) ((xs ++ news).map (Value.int .u8)) → w.grownBy w' (some g) → K (a.put o.dst (.slice (some ⟨g', 0, none⟩) (n + m) cap')) w') :
    if Region.wanted o (yielded ops a.tmps) = true then Oper.wp Try.prog o a w K Q else E := by
  have hw : Region.wanted o (yielded ops a.tmps) = true := by simp [Region.wanted, hgd]
  rw [if_pos hw]
  obtain ⟨i0, hi, hz0, hz1, hz2⟩ := info_parts info8
  obtain ⟨v', w', hr, h2, h3, h4⟩ := run_append_own (P := Try.prog) w Bn 22 o.type 5 i0 (.int .u8 0) 1 1 Try.underlying22 hi hz0 hz1 hz2 rfl (by decide)
    (.slice (some ⟨g, 0, none⟩) n cap) n (xs.map (Value.int .u8)) hown ad m c (news.map (Value.int .u8)) (by simpa using hl) hnews (fun u hu => by obtain ⟨z, _, rfl⟩ := List.mem_map.1 hu; rfl) (by unfold maxLen; omega) (by omega) hbase
  rcases h2.2 with ⟨hv, _⟩ | ⟨g', cap', cur, hv, _⟩
  · have := (h4.1 hv).1
    simp at this
  · subst hv
    unfold Oper.wp
    simp [execOp, ho, resolve, invoke, builtin, hs, hx, hr, Result.andThen]
    exact h g' cap' w' (by rw [List.map_append]; exact h2) h3

end Go.Proofs.Ytnabcnmgfchceaa
