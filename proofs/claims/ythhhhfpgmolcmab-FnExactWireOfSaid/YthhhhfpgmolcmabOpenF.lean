/- A frame and a list of int64 as they come in: what the reading of the argument says of the memory. -/
import Derived.Test.YthhhhfpgmolcmabLiftF
import Derived.ChangeSlices
import Derived.Lib.SmallJoins
namespace Go.Proofs.Ythhhhfpgmolcmab
open Go.ChangeShapes Go.WideShapes Go.ChangeAt Go.RowKit Go.Joins

theorem nums_open {H : Type} {enc : TypeId × Value → H} {w : World} {base : Nat} {fuel : Nat} {cs : List Value} {x : DataW H × List MemPlace}
    (h : DataW.trod enc Try.prog w base (fun _ => true) true fuel 24 cs = some x) : ∃ a D c, cs = [.slice a (D : List Int).length c] ∧ Nums a D w := by
  rcases open_ints Try.underlying24 Try.underlying2 (by kernel_rfl) h with ⟨hcs, _⟩ | ⟨⟨b, off, spot⟩, l, c, zs, hcs, _, hl, hm, hz, _, hcell, hwz⟩
  · exact ⟨none, [], 0, hcs, by simp, by simp, fun j hj => absurd hj (by simp)⟩
  · have hz' : zs.length = c := by simpa using hz
    have hlen : (zs.take l).length = l := by rw [List.length_take]; omega
    refine ⟨some ⟨b, off, spot⟩, zs.take l, c, by rw [hlen]; exact hcs, by rw [hlen]; omega, fun v hv => hwz v (List.mem_of_mem_take hv), fun j hj => ?_⟩
    rw [hlen] at hj
    have h0 := hcell j (by omega)
    have hspot : spot = none := by simpa [Addr.add] using World.cell?_spot (hcell 0 (by omega))
    subst hspot
    have hadd : (⟨b, off, none⟩ : Addr).add j = ⟨b, off + j, none⟩ := by unfold Addr.add; split <;> simp_all
    rw [hadd] at h0
    refine ⟨b, off, rfl, h0.trans ?_⟩
    simp only [nth, List.getD_eq_getElem?_getD, List.getElem?_take, hj, if_true]

theorem cellsFrame : Try.prog.cellsOf 32 = 4 := by kernel_rfl
/-- A frame by value, opened. -/
theorem frame_open {H : Type} {enc : TypeId × Value → H} {w : World} {r : Reach} {b0 base : Nat} {v : Value} {d : DataW H} {p : List MemPlace}
    (hv : Value.okWide Try.prog w r b0 32 v) (h : DataW.Trod enc Try.prog w base (fun _ => true) true 32 v d p) :
    ∃ id rm ln a D c, v = frV id rm ln a (D : List Int).length c ∧ Nums a D w ∧ (Lit.int .i64 id).wf = true ∧ (Lit.int .i64 ln).wf = true := by
  obtain ⟨c0, c1, c2, c3, y0, y1, y2, y3, m, rfl, rfl, rfl, hy0, hy1, hy2, hy3⟩ := open_agg4 Try.underlying32 (by kernel_rfl) cellsFrame hv h
  obtain ⟨id, e0, -, w0⟩ := DataW.trod_int Try.underlying2 hy0
  obtain ⟨rm, e1, -⟩ := DataW.trod_bool Try.underlying4 hy1
  obtain ⟨ln, e2, -, w2⟩ := DataW.trod_int Try.underlying2 hy2
  obtain ⟨a, D, c, e3, hn⟩ := nums_open hy3
  simp only [List.cons.injEq, and_true] at e0 e1 e2 e3
  subst e0 e1 e2 e3
  exact ⟨id, rm, ln, a, D, c, rfl, hn, w0, w2⟩
end Go.Proofs.Ythhhhfpgmolcmab
