/- Two frames in their boxes, which may change places; their data lie below. -/
import Derived.Test.YtcciabalbdnakabPares
import Derived.Test.YtcciabalbdnakabFrM
set_option maxRecDepth 20000
namespace Go.Proofs.Ytcciabalbdnakab
open Go.RowKit

/-- Two boxes ga and gb, made behind the world w1, in which the data of the two frames stand; the call began in w. -/
structure Ring (w w1 : World) (ga gb : Nat) (ia : Int) (xa : Bool) (la : Int) (Da : List Int) (av : Option Addr) (ca : Nat) (ib : Int) (xb : Bool) (lb : Int) (Db : List Int) (bv : Option Addr) (cb : Nat) (u : World) : Prop where
  bw : Below w.heap.size w w1
  low : w1.heap.size = ga
  le : ga < gb
  A : Bx ga (.int .i64 ia) (.bool xa) (.int .i64 la) (.slice av Da.length ca) u
  B : Bx gb (.int .i64 ib) (.bool xb) (.int .i64 lb) (.slice bv Db.length cb) u
  K : Below ga w1 u
  nA : Nums av Da w1
  nB : Nums bv Db w1
section
variable {w w1 : World} {ga gb : Nat} {ia : Int} {xa : Bool} {la : Int} {Da : List Int} {av : Option Addr} {ca : Nat} {ib : Int} {xb : Bool} {lb : Int} {Db : List Int} {bv : Option Addr} {cb : Nat} {u u' : World}
theorem Ring.below (h : Ring w w1 ga gb ia xa la Da av ca ib xb lb Db bv cb u) (b : Below u.heap.size u u') : Ring w w1 ga gb ia xa la Da av ca ib xb lb Db bv cb u' := by
  have kk : u.grownBy u' none := ⟨b.os, b.tape, b.output, b.size, fun k hk _ => b.block k hk⟩
  have hs := h.K.size
  have hl := h.low
  exact ⟨h.bw, h.low, h.le, h.A.kept kk (by simp), h.B.kept kk (by simp), h.K.trans (b.mono (by omega)), h.nA, h.nB⟩
theorem Ring.bel (h : Ring w w1 ga gb ia xa la Da av ca ib xb lb Db bv cb u) : Below w.heap.size w u := by
  have hs := h.bw.size
  have hl := h.low
  exact h.bw.trans (h.K.mono (by omega))
theorem Ring.two (h : Ring w w1 ga gb ia xa la Da av ca ib xb lb Db bv cb u) : Two w ga gb ia xa la Da av ca ib xb lb Db bv cb u := by
  have hK := h.K
  rw [← h.low] at hK
  exact ⟨⟨⟨h.A.c0, h.A.c1, h.A.c2, h.A.c3⟩, h.bel⟩, ⟨⟨h.B.c0, h.B.c1, h.B.c2, h.B.c3⟩, h.bel⟩, h.nA.below hK, h.nB.below hK⟩
theorem Ring.made (b1 : Below w.heap.size w w1) (nA : Nums av Da w1) (nB : Nums bv Db w1) :
    Ring w w1 w1.heap.size (w1.heap.size + 1) ia xa la Da av ca ib xb lb Db bv cb ((w1.alloc (.cells #[.int .i64 ia, .bool xa, .int .i64 la, .slice av Da.length ca] 26)).alloc (.cells #[.int .i64 ib, .bool xb, .int .i64 lb, .slice bv Db.length cb] 26)) := by
  have A := Bx.made w1 (.int .i64 ia) (.bool xa) (.int .i64 la) (.slice av Da.length ca)
  have B := Bx.made (w1.alloc (.cells #[.int .i64 ia, .bool xa, .int .i64 la, .slice av Da.length ca] 26)) (.int .i64 ib) (.bool xb) (.int .i64 lb) (.slice bv Db.length cb)
  have hg : (w1.alloc (.cells #[.int .i64 ia, .bool xa, .int .i64 la, .slice av Da.length ca] 26)).heap.size = w1.heap.size + 1 := by simp
  rw [hg] at B
  exact ⟨b1, rfl, by omega, A.kept (World.grownBy_alloc _ _ none) (by simp), B, below_more (below_more (Below.refl _ _) _) _, nA, nB⟩
/-- The world behind the stores of the one into the box of the other. -/
def swapW (ga gb : Nat) (ia : Int) (xa : Bool) (la : Int) (va : Value) (ib : Int) (xb : Bool) (lb : Int) (vb : Value) (u : World) : World :=
  (((((((u.setCell ⟨ga, 0, none⟩ (.int .i64 ib)).setCell ⟨ga, 1, none⟩ (.bool xb)).setCell ⟨ga, 2, none⟩ (.int .i64 lb)).setCell ⟨ga, 3, none⟩ vb).setCell ⟨gb, 0, none⟩ (.int .i64 ia)).setCell ⟨gb, 1, none⟩ (.bool xa)).setCell ⟨gb, 2, none⟩ (.int .i64 la)).setCell ⟨gb, 3, none⟩ va
theorem Ring.swap (h : Ring w w1 ga gb ia xa la Da av ca ib xb lb Db bv cb u) :
    Ring w w1 ga gb ib xb lb Db bv cb ia xa la Da av ca (swapW ga gb ia xa la (.slice av Da.length ca) ib xb lb (.slice bv Db.length cb) u) := by
  have hle := h.le
  have ka := grown_trans (grown_trans (grown_trans (grown_set u ga 0 (.int .i64 ib)) (grown_set _ ga 1 (.bool xb))) (grown_set _ ga 2 (.int .i64 lb))) (grown_set _ ga 3 (.slice bv Db.length cb))
  have dA := (((h.A.set0 (.int .i64 ib)).set1 (.bool xb)).set2 (.int .i64 lb)).set3 (.slice bv Db.length cb)
  have B2 := h.B.kept ka (by simp; omega)
  have kA := (((h.K.setCell (p := ⟨ga, 0, none⟩) (Nat.le_refl _) (.int .i64 ib)).setCell (p := ⟨ga, 1, none⟩) (Nat.le_refl _) (.bool xb)).setCell (p := ⟨ga, 2, none⟩) (Nat.le_refl _) (.int .i64 lb)).setCell (p := ⟨ga, 3, none⟩) (Nat.le_refl _) (.slice bv Db.length cb)
  unfold swapW
  generalize (((u.setCell ⟨ga, 0, none⟩ (.int .i64 ib)).setCell ⟨ga, 1, none⟩ (.bool xb)).setCell ⟨ga, 2, none⟩ (.int .i64 lb)).setCell ⟨ga, 3, none⟩ (.slice bv Db.length cb) = W at dA B2 kA ⊢
  have kb := grown_trans (grown_trans (grown_trans (grown_set W gb 0 (.int .i64 ia)) (grown_set _ gb 1 (.bool xa))) (grown_set _ gb 2 (.int .i64 la))) (grown_set _ gb 3 (.slice av Da.length ca))
  have dB := (((B2.set0 (.int .i64 ia)).set1 (.bool xa)).set2 (.int .i64 la)).set3 (.slice av Da.length ca)
  have dA2 := dA.kept kb (by simp; omega)
  have hg : ga ≤ gb := by omega
  have kB := (((kA.setCell (p := ⟨gb, 0, none⟩) hg (.int .i64 ia)).setCell (p := ⟨gb, 1, none⟩) hg (.bool xa)).setCell (p := ⟨gb, 2, none⟩) hg (.int .i64 la)).setCell (p := ⟨gb, 3, none⟩) hg (.slice av Da.length ca)
  exact ⟨h.bw, h.low, h.le, dA2, dB, kB, h.nB, h.nA⟩
end
end Go.Proofs.Ytcciabalbdnakab
