/- A frame and a list of int64 as they come in: what the reading of the argument says of the memory. -/
import Derived.Test.YtnhmecabppaboaaGreatM3
import Derived.ChangeSlices
import Derived.Lib.SmallJoins
import Derived.Deep.Slices

set_option maxRecDepth 20000
namespace Go.Proofs.YtnhmecabppaboaaGreat
open Go.ChangeShapes Go.WideShapes Go.ChangeAt Go.RowKit Go.Joins

theorem nums_open {H : Type} {enc : TypeId × Value → H} {w : World} {base : Nat} {fuel : Nat} {cs : List Value} {x : DataW H × List MemPlace}
    (h : DataW.trod enc Tryz.prog w base (fun _ => true) true fuel 33 cs = some x) : ∃ a D c, cs = [.slice a (D : List Int).length c] ∧ Nums a D w := by
  rcases open_ints Tryz.underlying33 Tryz.underlying2 (by kernel_rfl) h with ⟨hcs, _⟩ | ⟨⟨b, off, spot⟩, l, c, zs, hcs, _, hl, hm, hz, _, hcell, hwz⟩
  · exact ⟨none, [], 0, hcs, by simp, by simp, fun j hj => absurd hj (by simp)⟩
  · have hz' : zs.length = c := by simpa using hz
    have hlen : (zs.take l).length = l := by rw [List.length_take]; omega
    refine ⟨some ⟨b, off, spot⟩, zs.take l, c, by rw [hlen]; exact hcs, by rw [hlen]; omega, fun v hv => hwz v (List.mem_of_mem_take hv), fun j hj => ?_⟩
    rw [hlen] at hj
    have h0 := hcell j (by omega)
    have hspot : spot = none := by simpa [Addr.add] using World.cell?_spot (hcell 0 (by omega))
    subst hspot
    have hadd : (⟨b, off, none⟩ : Addr).add j = ⟨b, off + j, none⟩ := by unfold Addr.add; split <;> simp_all
    rw [hadd] at h0
    refine ⟨b, off, rfl, h0.trans ?_⟩
    simp only [nth, List.getD_eq_getElem?_getD, List.getElem?_take, hj, if_true]

theorem cellsFrame : Tryz.prog.cellsOf 114 = 4 := by kernel_rfl
/-- A frame by value, opened. -/
theorem frame_open {H : Type} {enc : TypeId × Value → H} {w : World} {r : Reach} {b0 base : Nat} {v : Value} {d : DataW H} {p : List MemPlace}
    (hv : Value.okWide Tryz.prog w r b0 114 v) (h : DataW.Trod enc Tryz.prog w base (fun _ => true) true 114 v d p) :
    ∃ id rm ln a D c, v = frV id rm ln a (D : List Int).length c ∧ Nums a D w ∧ (Lit.int .i64 id).wf = true ∧ (Lit.int .i64 ln).wf = true := by
  obtain ⟨c0, c1, c2, c3, y0, y1, y2, y3, m, rfl, rfl, rfl, hy0, hy1, hy2, hy3⟩ := open_agg4 Tryz.underlying114 (by kernel_rfl) cellsFrame hv h
  obtain ⟨id, e0, -, w0⟩ := DataW.trod_int Tryz.underlying2 hy0
  obtain ⟨rm, e1, -⟩ := DataW.trod_bool Tryz.underlying4 hy1
  obtain ⟨ln, e2, -, w2⟩ := DataW.trod_int Tryz.underlying2 hy2
  obtain ⟨a, D, c, e3, hn⟩ := nums_open hy3
  simp only [List.cons.injEq, and_true] at e0 e1 e2 e3
  subst e0 e1 e2 e3
  exact ⟨id, rm, ln, a, D, c, rfl, hn, w0, w2⟩
end Go.Proofs.YtnhmecabppaboaaGreat

/- A slice of frames as it comes in: what the reading of the argument says of the memory. -/

set_option maxRecDepth 20000
namespace Go.Proofs.YtnhmecabppaboaaGreat
open Go.ChangeShapes Go.WideShapes Go.ChangeAt Go.RowKit Go.Joins

instance : Inhabited Frm := ⟨⟨0, false, 0, []⟩⟩
theorem one64 : Tryz.prog.cellsOf 2 = 1 := by kernel_rfl
theorem oneBool : Tryz.prog.cellsOf 4 = 1 := by kernel_rfl
theorem oneInts : Tryz.prog.cellsOf 33 = 1 := by kernel_rfl

/-- The four cells of a frame, opened. -/
theorem frame_cells {H : Type} {enc : TypeId × Value → H} {w : World} {base n : Nat} {cs : List Value} {y : DataW H × List MemPlace}
    (h : DataW.trod enc Tryz.prog w base (fun _ => true) true n 114 cs = some y) :
    ∃ id rm ln ad D c, cs = [.int .i64 id, .bool rm, .int .i64 ln, .slice ad (D : List Int).length c] ∧ Nums ad D w := by
  obtain ⟨y0, y1, y2, y3, m, _, hl, h0, h1, h2, h3⟩ := trod_struct4 Tryz.underlying114 h
  have hl4 : cs.length = 4 := hl.trans cellsFrame
  match cs, hl4 with
  | [c0, c1, c2, c3], _ =>
    simp [one64, oneBool, oneInts] at h0 h1 h2 h3
    obtain ⟨id, e0, -, -⟩ := DataW.trod_int Tryz.underlying2 h0
    obtain ⟨rm, e1, -⟩ := DataW.trod_bool Tryz.underlying4 h1
    obtain ⟨ln, e2, -, -⟩ := DataW.trod_int Tryz.underlying2 h2
    obtain ⟨ad, D, c, e3, hn⟩ := nums_open h3
    simp only [List.cons.injEq, and_true] at e0 e1 e2 e3
    subst e0 e1 e2 e3
    exact ⟨id, rm, ln, ad, D, c, rfl, hn⟩

/-- A slice of frames, opened. -/
theorem frames_open {H : Type} {enc : TypeId × Value → H} {w : World} {base : Nat} {fuel : Nat} {cs : List Value} {x : DataW H × List MemPlace}
    (h : DataW.trod enc Tryz.prog w base (fun _ => true) true fuel 95 cs = some x) : ∃ a L c, cs = [.slice a (L : List Frm).length c] ∧ Frs a L w := by
  rcases Go.Deep.open_slice Tryz.underlying95 h with ⟨hcs, _⟩ | ⟨a, len, cap, m, n, D, Pl, hcs, _, hl, hm, hmm, _, hx⟩
  · exact ⟨none, [], 0, hcs, by simp, fun j hj => absurd hj (by simp)⟩
  · rw [if_pos rfl] at hmm
    subst hmm
    rw [cellsFrame] at hx
    obtain ⟨f, hf⟩ := Go.Deep.choose_lt (α := Frm) (p := fun i f => FrAt (some a) i f w) (n := len) (fun i hi => by
      obtain ⟨cs', h1, h2⟩ := hx i (by omega)
      obtain ⟨id, rm, ln, ad, E, c, rfl, hn⟩ := frame_cells h2
      obtain ⟨_, _, hc⟩ := World.cells?_some h1
      have k0 := hc 0 (by omega)
      have k1 := hc 1 (by omega)
      have k2 := hc 2 (by omega)
      have k3 := hc 3 (by omega)
      obtain ⟨b, off, spot⟩ := a
      have hspot : spot = none := by
        obtain ⟨cs0, g1, g2⟩ := hx 0 (by omega)
        obtain ⟨_, _, _, _, _, _, rfl, _⟩ := frame_cells g2
        obtain ⟨_, _, gc⟩ := World.cells?_some g1
        have := World.cell?_spot ((gc 0 (by omega)).trans rfl)
        simpa [Addr.add] using this
      subst hspot
      have hadd : ∀ j, ((⟨b, off, none⟩ : Addr).add (i * 4)).add j = ⟨b, off + i * 4 + j, none⟩ := by
        intro j
        unfold Addr.add
        split <;> split <;> simp_all
      rw [hadd] at k0 k1 k2 k3
      exact ⟨⟨id, rm, ln, E⟩, b, off, ad, c, rfl, ⟨k0, k1, k2, k3⟩, hn⟩)
    refine ⟨some a, (List.range len).map f, m, by simpa using hcs, by simp; omega, fun j hj => ?_⟩
    have hj' : j < len := by simpa using hj
    have e : nthF ((List.range len).map f) j = f j := by simp [nthF, List.getD_eq_getElem?_getD, hj']
    rw [e]
    exact hf j hj'
end Go.Proofs.YtnhmecabppaboaaGreat
