/- A frame and a list of int64 as they come in: what the reading of the argument says of the memory. -/
import Derived.Test.YtohjfjcpkloigaaM6
import Derived.ChangeSlices
import Derived.Lib.SmallJoins
import Derived.Deep.Slices

set_option maxRecDepth 20000
namespace Go.Proofs.Ytohjfjcpkloigaa
open Go.ChangeShapes Go.WideShapes Go.ChangeAt Go.RowKit Go.Joins

theorem nums_open {H : Type} {enc : TypeId × Value → H} {w : World} {base : Nat} {fuel : Nat} {cs : List Value} {x : DataW H × List MemPlace}
    (h : DataW.trod enc Try.prog w base (fun _ => true) true fuel 36 cs = some x) : ∃ a D c, cs = [.slice a (D : List Int).length c] ∧ Nums a D w := by
  rcases open_ints Try.underlying36 Try.underlying2 (by kernel_rfl) h with ⟨hcs, _⟩ | ⟨⟨b, off, spot⟩, l, c, zs, hcs, _, hl, hm, hz, _, hcell, hwz⟩
  · exact ⟨none, [], 0, hcs, by simp, by simp, fun j hj => absurd hj (by simp)⟩
  · have hz' : zs.length = c := by simpa using hz
    have hlen : (zs.take l).length = l := by rw [List.length_take]; omega
    refine ⟨some ⟨b, off, spot⟩, zs.take l, c, by rw [hlen]; exact hcs, by rw [hlen]; omega, fun v hv => hwz v (List.mem_of_mem_take hv), fun j hj => ?_⟩
    rw [hlen] at hj
    have h0 := hcell j (by omega)
    have hspot : spot = none := by simpa [Addr.add] using World.cell?_spot (hcell 0 (by omega))
    subst hspot
    have hadd : (⟨b, off, none⟩ : Addr).add j = ⟨b, off + j, none⟩ := by unfold Addr.add; split <;> simp_all
    rw [hadd] at h0
    refine ⟨b, off, rfl, h0.trans ?_⟩
    simp only [nth, List.getD_eq_getElem?_getD, List.getElem?_take, hj, if_true]

end Go.Proofs.Ytohjfjcpkloigaa

/- A slice of frames as it comes in: what the reading of the argument says of the memory. -/

set_option maxRecDepth 20000
namespace Go.Proofs.Ytohjfjcpkloigaa
open Go.ChangeShapes Go.WideShapes Go.ChangeAt Go.RowKit Go.Joins

instance : Inhabited Frm := ⟨⟨0, false, 0, []⟩⟩
theorem one64 : Try.prog.cellsOf 2 = 1 := by kernel_rfl
theorem oneBool : Try.prog.cellsOf 4 = 1 := by kernel_rfl
theorem oneInts : Try.prog.cellsOf 36 = 1 := by kernel_rfl


end Go.Proofs.Ytohjfjcpkloigaa
