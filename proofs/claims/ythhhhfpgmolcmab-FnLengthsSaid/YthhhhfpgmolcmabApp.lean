/- Bytes that a call owns, appended one by one. No program's walk in it. -/
import Derived.Test.YthhhhfpgmolcmabRows2
import Derived.Lib.AppendStr
import Derived.Below
namespace Go.Proofs.Ythhhhfpgmolcmab
open Go.RowKit

/-- The slice v, made behind block B, holds just the bytes o. -/
def OwnB (B : Nat) (o : List UInt8) (v : Value) (w : World) : Prop :=
  ∃ g cap, v = .slice (some ⟨g, 0, none⟩) o.length cap ∧ w.ownsRow B 5 1 (.slice (some ⟨g, 0, none⟩) o.length cap) o.length (o.map fun b => Value.int .u8 b.toNat)
theorem OwnB.made (w : World) : OwnB w.heap.size [] (.slice (some ⟨w.heap.size, 0, none⟩) 0 0) (w.alloc (.cells #[] 5)) :=
  ⟨w.heap.size, 0, rfl, World.ownsRow_made (base := w.heap.size) (e := 5) (size := 1) w #[] 0 (Nat.le_refl _) (Nat.zero_le _) rfl⟩
theorem OwnB.alloc {B : Nat} {o : List UInt8} {v : Value} {w : World} (h : OwnB B o v w) (x : Obj) : OwnB B o v (w.alloc x) := by
  obtain ⟨g, cap, e, k⟩ := h; exact ⟨g, cap, e, k.alloc x⟩
theorem OwnB.drew {B : Nat} {o : List UInt8} {v : Value} {w : World} (h : OwnB B o v w) : OwnB B o v w.drew := by
  obtain ⟨g, cap, e, k⟩ := h; exact ⟨g, cap, e, k.drew⟩
theorem OwnB.drewN {B : Nat} {o : List UInt8} {v : Value} {w : World} (h : OwnB B o v w) (n : Nat) : OwnB B o v (w.drewN n) := by
  obtain ⟨g, cap, e, k⟩ := h; exact ⟨g, cap, e, k⟩
theorem below_drewn {B : Nat} {a w : World} (h : Below B a w) (n : Nat) : Below B a (w.drewN n) := ⟨h.os, h.tape, h.output, h.size, h.block⟩
theorem OwnB.row {B : Nat} {o : List UInt8} {v : Value} {w : World} (h : OwnB B o v w) : ∃ g cap, v = .slice (some ⟨g, 0, none⟩) o.length cap ∧ Row B g o.length cap (o.map fun b => (b.toNat : Int)) w := by
  obtain ⟨g, cap, e, k⟩ := h
  refine ⟨g, cap, e, Row.of_owns (zs := o.map fun b => (b.toNat : Int)) ?_ ?_⟩
  · rw [List.map_map]; exact k
  · intro z hz
    obtain ⟨b, _, rfl⟩ := List.mem_map.1 hz
    have := b.toNat_lt; omega
theorem OwnB.last {B : Nat} {r : List UInt8} {d : UInt8} {v : Value} {w : World} (h : OwnB B (r ++ [d]) v w) : ∃ g cap, v = .slice (some ⟨g, 0, none⟩) (r.length + 1) cap ∧ w.cell? ⟨g, r.length, none⟩ = some (.int .u8 d.toNat) := by
  obtain ⟨g, cap, e, k⟩ := h.row
  have hc := k.cell r.length (by simp)
  refine ⟨g, cap, by rw [e, List.length_append, List.length_singleton], ?_⟩
  rw [hc]; simp

/-- 'append' of one byte. -/
theorem wpList_app8 {ops : Array Oper} {rest : List Oper} {p : Oper} {a : Act} {w : World} {Q : Exit → Act → World → Prop} (hgd : p.guard = none) (s x : Operand)
    (ho : p.op = .call { callee := .builtin .append, args := #[s, x], argTypes := #[22, 22] })
    (B : Nat) (o : List UInt8) (c : UInt8) (v : Value) (hs : a.eval s = v) (hown : OwnB B o v w) (g1 c1 : Nat) (hx : a.eval x = .slice (some ⟨g1, 0, none⟩) 1 c1) (hcell : w.cell? ⟨g1, 0, none⟩ = some (.int .u8 c.toNat))
    (hsz : o.length ≤ 1000000) (hB : B ≤ w.heap.size)
    (h : ∀ v' w', OwnB B (o ++ [c]) v' w' → Below B w w' → wpList Try.prog ops Q rest (a.put p.dst v') w') : wpList Try.prog ops Q (p :: rest) a w := by
  obtain ⟨i0, hi, hz0, hz1, hz2⟩ := info_parts info8
  obtain ⟨g, cap, hv, k⟩ := hown
  rw [hv] at hs
  refine wpList_append_own _ hgd s x 22 ho B 5 i0 (.int .u8 0) 1 1 Try.underlying22 hi hz0 hz1 hz2 rfl (by decide) _ o.length _ hs k ⟨g1, 0, none⟩ 1 c1 [.int .u8 c.toNat] hx rfl ?_ ?_ ?_ ?_ hB ?_
  · intro j u hu
    match j, hu with
    | 0, hu => simp at hu; subst hu; exact hcell
  · intro u hu; simp at hu; subst hu; rfl
  · unfold maxLen; omega
  · omega
  · intro v' w' h2 h3 h4
    have hb := (k.lt g rfl).1
    refine h v' w' ?_ ((Below.refl B w).grown h3 hB (fun i hi => by simp [Value.ownBlock] at hi; omega))
    rcases h2.2 with ⟨e, e2⟩ | ⟨g', cap', cur, e, _⟩
    · omega
    · subst e
      refine ⟨g', cap', by rw [List.length_append, List.length_singleton], ?_⟩
      rw [List.length_append, List.length_singleton, List.map_append]; exact h2

end Go.Proofs.Ythhhhfpgmolcmab
