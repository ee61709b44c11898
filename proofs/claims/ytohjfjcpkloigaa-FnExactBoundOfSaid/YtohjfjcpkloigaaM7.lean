/- A row of bytes that a call owns: what reading, writing, cutting and appending do to it. No program's walk in it. -/
import Derived.Test.YtohjfjcpkloigaaM4
import Derived.Laws.BytesArg
import Derived.Deep.RegionLaw
import Derived.RegionTactic
import Derived.ChangeAlike
import Derived.BigRegion

set_option linter.unusedSimpArgs false
set_option linter.unusedVariables false
set_option maxRecDepth 20000
namespace Go.Proofs.Ytohjfjcpkloigaa
open Go.RowKit

/-- Block g, from B on, holds the bytes zs behind its head, in a slice of m elements and room for cap. -/
structure Row (B g m cap : Nat) (zs : List Int) (w : World) : Prop where
  base : B ≤ g
  le : m ≤ cap
  max : cap ≤ maxLen
  len : zs.length = m
  bd : ∀ z ∈ zs, 0 ≤ z ∧ z ≤ 255
  block : ∃ cur lo hi, w.heap[g]? = some (.cells cur 5 (lo, hi)) ∧ (hi = 0 ∨ cap ≤ lo) ∧ ∀ j (hj : j < m), cur[j]? = some (.int .u8 (zs.getD j 0))

section
variable {B g m cap : Nat} {zs : List Int} {w : World}
theorem Row.lt (r : Row B g m cap zs w) : g < w.heap.size := by
  obtain ⟨cur, lo, hi, h, _⟩ := r.block
  exact (Array.getElem?_eq_some_iff.1 h).1
theorem Row.cell (r : Row B g m cap zs w) (j : Nat) (hj : j < m) : w.cell? ⟨g, j, none⟩ = some (.int .u8 (zs.getD j 0)) := by
  obtain ⟨cur, lo, hi, h, _, hc⟩ := r.block
  rw [← hc j hj]; simp [World.cell?, h]
theorem Row.free (r : Row B g m cap zs w) (j : Nat) (hj : j < m) : w.frozen? ⟨g, j, none⟩ = false := by
  obtain ⟨cur, lo, hi, h, hf, _⟩ := r.block
  have := r.le
  simp only [World.frozen?, h]
  simp only [Bool.and_eq_false_iff, decide_eq_false_iff_not]
  omega
theorem Row.kept {w' : World} {row : Option Nat} (r : Row B g m cap zs w) (hg : w.grownBy w' row) (hne : some g ≠ row) : Row B g m cap zs w' := by
  obtain ⟨cur, lo, hi, h, hf, hc⟩ := r.block
  exact ⟨r.base, r.le, r.max, r.len, r.bd, cur, lo, hi, by rw [hg.block g r.lt hne]; exact h, hf, hc⟩
theorem Row.cut (r : Row B g m cap zs w) (k : Nat) (hk : k ≤ m) : Row B g k cap (zs.take k) w := by
  obtain ⟨cur, lo, hi, h, hf, hc⟩ := r.block
  refine ⟨r.base, Nat.le_trans hk r.le, r.max, by rw [List.length_take, r.len]; omega, fun z hz => r.bd z (List.mem_of_mem_take hz), cur, lo, hi, h, hf, fun j hj => ?_⟩
  rw [hc j (by omega)]
  simp [List.getD, List.getElem?_take, hj]
theorem Row.put (r : Row B g m cap zs w) (k : Nat) (z : Int) (h0 : 0 ≤ z) (h1 : z ≤ 255) : Row B g m cap (zs.set k z) (w.setCell ⟨g, k, none⟩ (.int .u8 z)) := by
  obtain ⟨cur, lo, hi, h, hf, hc⟩ := r.block
  refine ⟨r.base, r.le, r.max, by rw [List.length_set]; exact r.len, fun x hx => ?_, cur.setIfInBounds k (.int .u8 z), lo, hi, by simp [World.setCell, Array.getElem?_modify, h], hf, fun j hj => ?_⟩
  · rcases List.mem_or_eq_of_mem_set hx with hx | hx
    · exact r.bd x hx
    · subst hx; exact ⟨h0, h1⟩
  · have hj' : j < zs.length := by rw [r.len]; exact hj
    have hcj := hc j hj
    by_cases e : k = j
    · subst e
      have hks : k < cur.size := (Array.getElem?_eq_some_iff.1 hcj).1
      simp [Array.getElem?_setIfInBounds, hks, List.getD, List.getElem?_set, hj']
    · rw [Array.getElem?_setIfInBounds_ne e, hcj]
      simp [List.getD, List.getElem?_set, e]
theorem Row.text (r : Row B g m cap zs w) : ∀ dst, Try.prog.underlying dst = some .string → (convert 22 dst (.slice (some ⟨g, 0, none⟩) m cap)).run Try.prog w = .ok (.string (strOfNums zs)) w :=
  run_convert_bytes_arg w 22 5 Try.underlying22 Try.underlying5 g 0 m cap zs r.len (fun i hi => by rw [Nat.zero_add]; exact r.cell i hi)
theorem Row.news (r : Row B g m cap zs w) (lo n : Nat) (h : lo + n ≤ m) : ∀ j u, (((zs.drop lo).take n).map (Value.int .u8))[j]? = some u → w.cell? ((⟨g, lo, none⟩ : Addr).add j) = some u := by
  intro j u hu
  have hj : j < n := by
    have := (List.getElem?_eq_some_iff.1 hu).1
    simp at this; omega
  have hadd : (⟨g, lo, none⟩ : Addr).add j = ⟨g, lo + j, none⟩ := by unfold Addr.add; split <;> simp_all
  rw [hadd, r.cell (lo + j) (by omega)]
  rw [List.getElem?_map, List.getElem?_take, if_pos hj, List.getElem?_drop] at hu
  have hl : lo + j < zs.length := by rw [r.len]; omega
  rw [List.getElem?_eq_getElem hl] at hu
  simp only [Option.map_some, Option.some.injEq] at hu
  rw [← hu]
  simp [List.getD, hl]
theorem Row.head (r : Row B g m cap zs w) (n : Nat) (h : n ≤ m) : ∀ j u, ((zs.take n).map (Value.int .u8))[j]? = some u → w.cell? ((⟨g, 0, none⟩ : Addr).add j) = some u := by
  have := r.news 0 n (by omega)
  rwa [List.drop_zero] at this
theorem Row.tail (r : Row B g m cap zs w) (lo : Nat) (h : lo ≤ m) : ∀ j u, ((zs.drop lo).map (Value.int .u8))[j]? = some u → w.cell? ((⟨g, lo, none⟩ : Addr).add j) = some u := by
  have := r.news lo (m - lo) (by omega)
  rwa [List.take_of_length_le (by rw [List.length_drop, r.len]; exact Nat.le_refl _)] at this
theorem Row.mono {B' : Nat} (r : Row B g m cap zs w) (h : B' ≤ B) : Row B' g m cap zs w := ⟨Nat.le_trans h r.base, r.le, r.max, r.len, r.bd, r.block⟩

theorem Row.of_owns (h : w.ownsRow B 5 1 (.slice (some ⟨g, 0, none⟩) m cap) m (zs.map (Value.int .u8))) (bd : ∀ z ∈ zs, 0 ≤ z ∧ z ≤ 255) : Row B g m cap zs w := by
  have hl : zs.length = m := by have := h.1; simpa using this
  rcases h.2 with ⟨h', _⟩ | ⟨g', cap', cur, h', hb, hg, hnc, hcm, hcs, htake⟩
  · simp at h'
  · simp only [Value.slice.injEq, Option.some.injEq, Addr.mk.injEq, and_true, true_and] at h'
    obtain ⟨rfl, rfl⟩ := h'
    refine ⟨hb, hnc, hcm, hl, bd, cur, 0, 0, hg, .inl rfl, fun j hj => ?_⟩
    have h2 : (cur.toList.take (m * 1))[j]? = (zs.map (Value.int .u8))[j]? := by rw [htake]
    rw [List.getElem?_take, if_pos (by omega), Array.getElem?_toList] at h2
    rw [h2]
    have hj' : j < zs.length := by rw [hl]; exact hj
    simp [List.getD, hj']
end

/-- A new text as bytes: the row that is laid. -/
theorem Row.made (s : ByteArray) (w : World) (hs : s.size ≤ 1000000) : Row w.heap.size w.heap.size s.size (grownCap w s.size 0 5) (s.data.toList.map fun b => (b.toNat : Int))
    (w.drew.alloc (.cells (bytesRow s (grownCap w s.size 0 5)) 5 ((bytesRow s (grownCap w s.size 0 5)).size, (bytesRow s (grownCap w s.size 0 5)).size + 1))) := by
  have hge := grownCap_ge w s.size 0 5
  have hcm : grownCap w s.size 0 5 ≤ maxLen := grownCap_le_maxLen w s.size 0 5 (by unfold maxLen; omega)
  have hsz : (bytesRow s (grownCap w s.size 0 5)).size = grownCap w s.size 0 5 := by
    simp [bytesRow]; omega
  refine ⟨Nat.le_refl _, hge, hcm, by simp, fun z hz => ?_, _, _, _, heap_alloc_new w.drew _, .inr (by rw [hsz]; exact Nat.le_refl _), fun j hj => ?_⟩
  · obtain ⟨b, _, rfl⟩ := List.mem_map.1 hz
    have := b.toNat_lt; omega
  · have hj' : j < s.data.size := hj
    have hl : j < s.data.toList.length := by simpa using hj
    simp only [bytesRow]
    rw [Array.getElem?_append_left (by simpa using hj')]
    rw [List.getD_eq_getElem?_getD, List.getElem?_map, Array.getElem?_toList, Array.getElem?_map, Array.getElem?_eq_getElem hj']
    rfl

/-- One byte in a block of its own, as what is appended. -/
theorem one_news (w : World) (z : Int) : ∀ j u, ([z].map (Value.int .u8))[j]? = some u → (w.alloc (.cells #[.int .u8 z] 5)).cell? ((⟨w.heap.size, 0, none⟩ : Addr).add j) = some u := by
  intro j u hu
  match j, hu with
  | 0, hu =>
    simp at hu; subst hu
    exact World.cell?_alloc_at _ _ _ _ rfl

theorem info8 : (Try.prog.info? 5).map (fun i => (i.zero, i.size, i.bytes)) = some (some (.int .u8 0), 1, 1) := by kernel_rfl

/-- 'append' of some bytes onto a row that was made behind block Bn: at a step of a region that draws its order. -/
theorem step_app {ops : Array Oper} {o : Oper} {a : Act} {w : World} {K : Act → World → Prop} {Q : Exit → Act → World → Prop} {E : Prop} (hgd : o.guard = none) (s x : Operand)
    (ho : o.op = .call { callee := .builtin .append, args := #[s, x], argTypes := #[22, 22] })
    (Bn g n cap : Nat) (xs : List Int) (hs : a.eval s = .slice (some ⟨g, 0, none⟩) n cap) (hown : w.ownsRow Bn 5 1 (.slice (some ⟨g, 0, none⟩) n cap) n (xs.map (Value.int .u8)))
    (ad : Addr) (m c : Nat) (news : List Int) (hx : a.eval x = .slice (some ad) m c) (hl : news.length = m) (hnews : ∀ j u, (news.map (Value.int .u8))[j]? = some u → w.cell? (ad.add j) = some u)
    (hsz : n + m ≤ 10000000) (hbase : Bn ≤ w.heap.size)
    (h : ∀ g' cap' w', w'.ownsRow Bn 5 1 (.slice (some ⟨g', 0, none⟩) (n + m) cap') (n + m) ((xs ++ news).map (Value.int .u8)) → w.grownBy w' (some g) → K (a.put o.dst (.slice (some ⟨g', 0, none⟩) (n + m) cap')) w') :
    if Region.wanted o (yielded ops a.tmps) = true then Oper.wp Try.prog o a w K Q else E := by
  have hw : Region.wanted o (yielded ops a.tmps) = true := by simp [Region.wanted, hgd]
  rw [if_pos hw]
  obtain ⟨i0, hi, hz0, hz1, hz2⟩ := info_parts info8
  obtain ⟨v', w', hr, h2, h3, h4⟩ := run_append_own (P := Try.prog) w Bn 22 o.type 5 i0 (.int .u8 0) 1 1 Try.underlying22 hi hz0 hz1 hz2 rfl (by decide)
    (.slice (some ⟨g, 0, none⟩) n cap) n (xs.map (Value.int .u8)) hown ad m c (news.map (Value.int .u8)) (by simpa using hl) hnews (fun u hu => by obtain ⟨z, _, rfl⟩ := List.mem_map.1 hu; rfl) (by unfold maxLen; omega) (by omega) hbase
  rcases h2.2 with ⟨hv, _⟩ | ⟨g', cap', cur, hv, _⟩
  · have := (h4.1 hv).1
    simp at this
  · subst hv
    unfold Oper.wp
    simp [execOp, ho, resolve, invoke, builtin, hs, hx, hr, Result.andThen]
    exact h g' cap' w' (by rw [List.map_append]; exact h2) h3

end Go.Proofs.Ytohjfjcpkloigaa

/- Contracts of the model's cursor (l1New) and of its draws of texts (l1Bend, l1DrawAny): each answers some text within its bounds, and writes into nothing that was there. -/

set_option maxRecDepth 20000
namespace Go.Proofs.Ytohjfjcpkloigaa
open Go.RowKit

theorem grown_own {w wr w' : World} {r : Option Nat} {g : Nat} (h : w.grownBy wr r) (k : wr.grownBy w' (some g)) (hg : w.heap.size ≤ g) : w.grownBy w' r :=
  ⟨k.os.trans h.os, k.tape.trans h.tape, k.output.trans h.output, Nat.le_trans h.size k.size,
    fun i hi hr => (k.block i (Nat.lt_of_lt_of_le hi h.size) (fun e => by cases e; omega)).trans (h.block i hi hr)⟩
theorem grown_drew {w w' : World} {r : Option Nat} (h : w.grownBy w' r) : w.grownBy w'.drew r := ⟨h.os, h.tape, h.output, h.size, h.block⟩
theorem grown_of_drew {w w' : World} {r : Option Nat} (h : w.drew.grownBy w' r) : w.grownBy w' r := ⟨h.os, h.tape, h.output, h.size, h.block⟩
theorem St.drew {B p : Nat} {a : Option Addr} {len cap : Nat} {w : World} (s : St B p a len cap w) : St B p a len cap w.drew := s.step (r := none) ⟨rfl, rfl, rfl, Nat.le_refl _, fun _ _ _ => rfl⟩ (fun _ h => by cases h)
theorem grown_none {w wr w' : World} {r : Option Nat} (h : w.grownBy wr r) (k : wr.grownBy w' none) : w.grownBy w' r := grown_trans h (grown_some k r)

/-- spec.l1New. -/
theorem newAny {B : Nat} {a : Option Addr} {len cap : Nat} (w : World) (cd : Code B a len w) (hB : B ≤ w.heap.size) :
    Calls Try.prog 52 #[.slice a len cap] w fun e w' => e = .returned (.pointer (some ⟨w.heap.size, 0, none⟩)) ∧ w.grownBy w' none ∧ St B w.heap.size a len cap w' := by
  have hl := cd.1
  go_enter Try.func52, Try.ntmps52
  go_wp2
  go_loop [3, 4] (fun h i => ∃ (n : Int) (k : Nat), h = .int .i64 n ∧ i = .int .i64 k ∧ k ≤ len) (fun _ i => len - (intOf i).toNat)
  case atStart => exact ⟨_, 0, rfl, rfl, Nat.zero_le _⟩
  case round =>
    obtain ⟨n, k, rfl, rfl, hk⟩ := hrel
    by_cases hlt : k < len
    · obtain ⟨b, off, rfl, hb, z, hz, z0, z1⟩ := cd.2 k hlt
      go_wp2
      go_round
      case rel => exact ⟨_, k + 1, rfl, by go_num, by omega⟩
      case measure => simp [intOf]; omega
    · go_wp2
      go_ret
      have g : w.grownBy (w.alloc (.cells #[.slice a len cap, .int .i64 0, .int .i64 n] 83)) none := World.grownBy_alloc w _ none
      refine ⟨rfl, g, ⟨0, n, hB, heap_alloc_new w _, Int.le_refl _, by omega⟩, hl, fun j hj => ?_⟩
      obtain ⟨b, off, ha, hb, z, hz, z0, z1⟩ := cd.2 j hj
      exact ⟨b, off, ha, hb, z, g.cell hz (by simp), z0, z1⟩

end Go.Proofs.Ytohjfjcpkloigaa

/- The contract of l1Bend: of a text of at most N bytes it answers some text of at most N + 2, and writes into nothing that was there but the cursor. -/

set_option linter.unusedSimpArgs false
set_option linter.unusedVariables false
set_option maxRecDepth 20000
namespace Go.Proofs.Ytohjfjcpkloigaa
open Go.RowKit

end Go.Proofs.Ytohjfjcpkloigaa

/- Contracts of the laws' own draws (roll, dice.below, bits, turned): each answers some value within its bounds, and writes into nothing but its own cursor. -/

set_option linter.unusedSimpArgs false
set_option linter.unusedVariables false
set_option maxRecDepth 20000
namespace Go.Proofs.Ytohjfjcpkloigaa
open Go.RowKit

/-- The laws' cursor: what was handed in (a slice), how far it has been read, the number. -/
structure Die (B p : Nat) (a : Option Addr) (len cap : Nat) (i h : Int) (w : World) : Prop where
  base : B ≤ p
  block : w.heap[p]? = some (.cells #[.slice a len cap, .int .i64 i, .int .u64 h] 57 (0, 0))
  at0 : 0 ≤ i
  atL : i ≤ len
/-- The state that a throw keeps. -/
def Dt (B p : Nat) (a : Option Addr) (len cap : Nat) (w : World) : Prop := (∃ i h, Die B p a len cap i h w) ∧ Code B a len w

section
variable {B p : Nat} {a : Option Addr} {len cap : Nat} {i h : Int} {w : World}
theorem Die.c0 (c : Die B p a len cap i h w) : w.cell? ⟨p, 0, none⟩ = some (.slice a len cap) := by simp [World.cell?, c.block]
theorem Die.c1 (c : Die B p a len cap i h w) : w.cell? ⟨p, 1, none⟩ = some (.int .i64 i) := by simp [World.cell?, c.block]
theorem Die.c2 (c : Die B p a len cap i h w) : w.cell? ⟨p, 2, none⟩ = some (.int .u64 h) := by simp [World.cell?, c.block]
theorem Die.f (c : Die B p a len cap i h w) (k : Nat) : w.frozen? ⟨p, k, none⟩ = false := by simp [World.frozen?, c.block]
theorem Die.set1 (c : Die B p a len cap i h w) (n : Int) (h0 : 0 ≤ n) (hL : n ≤ len) : Die B p a len cap n h (w.setCell ⟨p, 1, none⟩ (.int .i64 n)) :=
  ⟨c.base, by simp [World.setCell, Array.getElem?_modify, c.block], h0, hL⟩
theorem Die.set2 (c : Die B p a len cap i h w) (n : Int) : Die B p a len cap i n (w.setCell ⟨p, 2, none⟩ (.int .u64 n)) :=
  ⟨c.base, by simp [World.setCell, Array.getElem?_modify, c.block], c.at0, c.atL⟩
theorem Die.drewN (c : Die B p a len cap i h w) (n : Nat) : Die B p a len cap i h (w.drewN n) := ⟨c.base, c.block, c.at0, c.atL⟩
theorem Dt.lt (s : Dt B p a len cap w) : p < w.heap.size := by
  obtain ⟨⟨i, h, c⟩, _⟩ := s
  exact (Array.getElem?_eq_some_iff.1 c.block).1
theorem Dt.base (s : Dt B p a len cap w) : B ≤ p := by
  obtain ⟨⟨i, h, c⟩, _⟩ := s; exact c.base
theorem Dt.step {w' : World} {r : Option Nat} (s : Dt B p a len cap w) (g : w.grownBy w' r) (hr : ∀ k, r = some k → p < k) : Dt B p a len cap w' := by
  have hlt := s.lt
  obtain ⟨⟨i, h, c⟩, cd⟩ := s
  refine ⟨⟨i, h, c.base, ?_, c.at0, c.atL⟩, cd.1, fun j hj => ?_⟩
  · rw [g.block p hlt (fun e => by have := hr p e.symm; omega)]; exact c.block
  · obtain ⟨b, off, ha, hb, z, hz, h0, h1⟩ := cd.2 j hj
    have := c.base
    exact ⟨b, off, ha, hb, z, g.cell hz (fun e => by have := hr b e.symm; omega), h0, h1⟩
/-- A step that turns nothing that was there when it began. -/
theorem Dt.below {w' : World} (s : Dt B p a len cap w) (b : Below w.heap.size w w') : Dt B p a len cap w' := by
  have hlt := s.lt
  obtain ⟨⟨i, h, c⟩, cd⟩ := s
  refine ⟨⟨i, h, c.base, ?_, c.at0, c.atL⟩, cd.1, fun j hj => ?_⟩
  · rw [b.block p hlt]; exact c.block
  · obtain ⟨bl, off, ha, hb, z, hz, h0, h1⟩ := cd.2 j hj
    have := c.base
    exact ⟨bl, off, ha, hb, z, (b.cell (p := ⟨bl, off + j, none⟩) (by show bl < _; omega)).trans hz, h0, h1⟩
end

/-- What a throw leaves: a number from lo to hi; nothing but the cursor has been written. -/
def Thrown (B p : Nat) (a : Option Addr) (len cap : Nat) (lo hi : Int) (w : World) (e : Ending) (w' : World) : Prop :=
  ∃ x : Int, lo ≤ x ∧ x ≤ hi ∧ e = .returned (.int .i64 x) ∧ w.grownBy w' (some p) ∧ Dt B p a len cap w'

theorem u64_and24 (n : Int) : Go.bits .and .u64 n 16777215 = n % 16777216 := by
  have h1 : (BitVec.ofInt 64 16777215).toNat = 2 ^ 24 - 1 := by decide
  have key : (BitVec.ofInt 64 n &&& BitVec.ofInt 64 16777215).toNat = (n % ((2 ^ 64 : Nat) : Int)).toNat % 2 ^ 24 := by
    rw [BitVec.toNat_and, BitVec.toNat_ofInt, h1, Nat.and_two_pow_sub_one_eq_mod]
  show IntKind.u64.wrap ((BitVec.ofInt 64 n &&& BitVec.ofInt 64 16777215).toNat : Nat) = n % 16777216
  rw [key, IntKind.wrap_u64]
  omega

/-- (*dice).below, of a number above 0. -/
theorem throwAny {B p : Nat} {a : Option Addr} {len cap : Nat} (n : Int) (w : World) (hn : 1 ≤ n) (hn' : n ≤ 9223372036854775807) (st : Dt B p a len cap w) :
    Calls Try.prog 15 #[.pointer (some ⟨p, 0, none⟩), .int .i64 n] w (Thrown B p a len cap 0 (n - 1) w) := by
  obtain ⟨⟨i, h, c⟩, cd⟩ := st
  have c0 := c.c0; have c1 := c.c1; have c2 := c.c2; have f1 := c.f 1; have f2 := c.f 2
  have a0 := c.at0; have aL := c.atL; have cl := cd.1
  go_enter Try.func15, Try.ntmps15
  go_wp2
  rw [u64_and24]
  generalize IntKind.u64.wrap (IntKind.u64.wrap (h * 6364136223846793005) + 1442695040888963407) = h'
  generalize IntKind.u64.wrap (h * 6364136223846793005) = h''
  generalize h' / 8589934592 = y
  have x0 : 0 ≤ y % 16777216 := by omega
  have x1 : y % 16777216 ≤ 16777215 := by omega
  generalize y % 16777216 = x at x0 x1 ⊢
  have ex : wrap64 x = x := IntWalk.wrap64_in _ (by omega)
  rw [ex]
  clear ex
  have C2 := c.set2 h'
  have G2 := grown_set w p 2 (.int .u64 h')
  have D2 := cd.kept G2 c.base
  generalize w.setCell ⟨p, 2, none⟩ (.int .u64 h') = w2 at C2 G2 D2 ⊢
  clear c0 c1 c2 f1 f2
  have c0 := C2.c0; have c1 := C2.c1; have c2 := C2.c2; have f1 := C2.f 1
  by_cases hlt : i < len
  · go_quiet (fail)
    go_wp2
    have C3 := C2.drewN nq
    have G3 := grown_trans G2 (grown_drewN w2 nq _)
    have D3 := D2.kept (grown_drewN w2 nq _) c.base
    generalize w2.drewN nq = w3 at C3 G3 D3 ⊢
    clear c0 c1 c2 f1 C2 G2 D2
    have c0 := C3.c0; have c1 := C3.c1; have f1 := C3.f 1
    obtain ⟨b, off, rfl, hb, z, hz, z0, z1⟩ := D3.2 i.toNat (by omega)
    go_quiet (fail)
    go_wp2
    go_ret
    have hm := mod_bd (x + z) n hn
    refine ⟨(x + z) % n, hm.1, hm.2, rfl, ?_, ⟨_, _, (C3.drewN nq).set1 (i + 1) (by omega) (by omega)⟩, ?_⟩
    · exact grown_trans (grown_trans G3 (grown_drewN w3 nq _)) (grown_set _ _ _ _)
    · exact (D3.kept (grown_drewN w3 nq _) c.base).kept (grown_set _ _ _ _) c.base
  · go_quiet (fail)
    go_wp2
    go_ret
    have hm := mod_bd x n hn
    exact ⟨x % n, hm.1, hm.2, rfl, grown_trans G2 (grown_drewN w2 _ _), ⟨_, _, C2.drewN _⟩, D2.kept (grown_drewN w2 _ _) c.base⟩

/-- laws.roll. -/
theorem rollAny {B : Nat} {a : Option Addr} {len cap : Nat} (seed : Int) (w : World) (cd : Code B a len w) (hB : B ≤ w.heap.size) :
    Calls Try.prog 13 #[.slice a len cap, .int .u64 seed] w fun e w' => e = .returned (.pointer (some ⟨w.heap.size, 0, none⟩)) ∧ w.grownBy w' none ∧ Dt B w.heap.size a len cap w' := by
  have hl := cd.1
  go_enter Try.func13, Try.ntmps13
  go_wp2
  have c0 : Die w.heap.size w.heap.size a len cap 0 (IntKind.u64.wrap (IntKind.u64.wrap (seed * 7919) + (len : Int))) (w.alloc (.cells #[.slice a len cap, .int .i64 0, .int .u64 (IntKind.u64.wrap (IntKind.u64.wrap (seed * 7919) + (len : Int)))] 57)) :=
    ⟨Nat.le_refl _, heap_alloc_new w _, Int.le_refl _, by omega⟩
  have g0 : w.grownBy (w.alloc (.cells #[.slice a len cap, .int .i64 0, .int .u64 (IntKind.u64.wrap (IntKind.u64.wrap (seed * 7919) + (len : Int)))] 57)) none := World.grownBy_alloc w _ none
  generalize IntKind.u64.wrap (IntKind.u64.wrap (seed * 7919) + (len : Int)) = h0 at c0 g0 ⊢
  go_loopw [6] (fun i wr => ∃ (k : Nat) (h : Int), i = .int .i64 k ∧ k ≤ len ∧ Die w.heap.size w.heap.size a len cap 0 h wr ∧ w.grownBy wr none) (fun i _ => len - (intOf i).toNat)
  case atStart => exact ⟨0, h0, rfl, Nat.zero_le _, c0, g0⟩
  case round =>
    obtain ⟨k, h, rfl, hk, c, g⟩ := hrel
    clear c0 g0
    by_cases hlt : k < len
    · obtain ⟨b, off, rfl, hb, z, hz, z0, z1⟩ := cd.2 k hlt
      have hz' : wr.cell? ⟨b, off + k, none⟩ = some (.int .u8 z) := g.cell hz (by simp)
      have c2 := c.c2; have f2 := c.f 2
      clear hz
      go_wp2
      go_region
      go_wp2
      go_roundw
      case rel => exact ⟨k + 1, _, by go_num, by omega, (c.set2 _).drewN 1, grown_drew (grown_own g (grown_set _ _ _ _) (Nat.le_refl _))⟩
      case measure => simp [intOf]; omega
    · go_wp2
      go_ret
      refine ⟨rfl, g, ⟨0, h, hB, c.block, c.at0, c.atL⟩, hl, fun j hj => ?_⟩
      obtain ⟨b, off, ha, hb, z, hz, z0, z1⟩ := cd.2 j hj
      exact ⟨b, off, ha, hb, z, g.cell hz (by simp), z0, z1⟩

end Go.Proofs.Ytohjfjcpkloigaa
