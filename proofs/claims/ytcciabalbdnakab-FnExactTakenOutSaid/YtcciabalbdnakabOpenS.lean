/- A slice of frames as it comes in: what the reading of the argument says of the memory. -/
import Derived.Test.YtcciabalbdnakabOpenF
import Derived.Test.YtcciabalbdnakabFrs
import Derived.Deep.Slices
set_option maxRecDepth 20000
namespace Go.Proofs.Ytcciabalbdnakab
open Go.ChangeShapes Go.WideShapes Go.ChangeAt Go.RowKit Go.Joins

instance : Inhabited Frm := ⟨⟨0, false, 0, []⟩⟩
theorem one64 : Try.prog.cellsOf 2 = 1 := by kernel_rfl
theorem oneBool : Try.prog.cellsOf 4 = 1 := by kernel_rfl
theorem oneInts : Try.prog.cellsOf 24 = 1 := by kernel_rfl

/-- The four cells of a frame, opened. -/
theorem frame_cells {H : Type} {enc : TypeId × Value → H} {w : World} {base n : Nat} {cs : List Value} {y : DataW H × List MemPlace}
    (h : DataW.trod enc Try.prog w base (fun _ => true) true n 35 cs = some y) :
    ∃ id rm ln ad D c, cs = [.int .i64 id, .bool rm, .int .i64 ln, .slice ad (D : List Int).length c] ∧ Nums ad D w := by
  obtain ⟨y0, y1, y2, y3, m, _, hl, h0, h1, h2, h3⟩ := trod_struct4 Try.underlying35 h
  have hl4 : cs.length = 4 := hl.trans cellsFrame
  match cs, hl4 with
  | [c0, c1, c2, c3], _ =>
    simp [one64, oneBool, oneInts] at h0 h1 h2 h3
    obtain ⟨id, e0, -, -⟩ := DataW.trod_int Try.underlying2 h0
    obtain ⟨rm, e1, -⟩ := DataW.trod_bool Try.underlying4 h1
    obtain ⟨ln, e2, -, -⟩ := DataW.trod_int Try.underlying2 h2
    obtain ⟨ad, D, c, e3, hn⟩ := nums_open h3
    simp only [List.cons.injEq, and_true] at e0 e1 e2 e3
    subst e0 e1 e2 e3
    exact ⟨id, rm, ln, ad, D, c, rfl, hn⟩

/-- A slice of frames, opened. -/
theorem frames_open {H : Type} {enc : TypeId × Value → H} {w : World} {base : Nat} {fuel : Nat} {cs : List Value} {x : DataW H × List MemPlace}
    (h : DataW.trod enc Try.prog w base (fun _ => true) true fuel 40 cs = some x) : ∃ a L c, cs = [.slice a (L : List Frm).length c] ∧ Frs a L w := by
  rcases Go.Deep.open_slice Try.underlying40 h with ⟨hcs, _⟩ | ⟨a, len, cap, m, n, D, Pl, hcs, _, hl, hm, hmm, _, hx⟩
  · exact ⟨none, [], 0, hcs, by simp, fun j hj => absurd hj (by simp)⟩
  · rw [if_pos rfl] at hmm
    subst hmm
    rw [cellsFrame] at hx
    obtain ⟨f, hf⟩ := Go.Deep.choose_lt (α := Frm) (p := fun i f => FrAt (some a) i f w) (n := len) (fun i hi => by
      obtain ⟨cs', h1, h2⟩ := hx i (by omega)
      obtain ⟨id, rm, ln, ad, E, c, rfl, hn⟩ := frame_cells h2
      obtain ⟨_, _, hc⟩ := World.cells?_some h1
      have k0 := hc 0 (by omega)
      have k1 := hc 1 (by omega)
      have k2 := hc 2 (by omega)
      have k3 := hc 3 (by omega)
      obtain ⟨b, off, spot⟩ := a
      have hspot : spot = none := by
        obtain ⟨cs0, g1, g2⟩ := hx 0 (by omega)
        obtain ⟨_, _, _, _, _, _, rfl, _⟩ := frame_cells g2
        obtain ⟨_, _, gc⟩ := World.cells?_some g1
        have := World.cell?_spot ((gc 0 (by omega)).trans rfl)
        simpa [Addr.add] using this
      subst hspot
      have hadd : ∀ j, ((⟨b, off, none⟩ : Addr).add (i * 4)).add j = ⟨b, off + i * 4 + j, none⟩ := by
        intro j
        unfold Addr.add
        split <;> split <;> simp_all
      rw [hadd] at k0 k1 k2 k3
      exact ⟨⟨id, rm, ln, E⟩, b, off, ad, c, rfl, ⟨k0, k1, k2, k3⟩, hn⟩)
    refine ⟨some a, (List.range len).map f, m, by simpa using hcs, by simp; omega, fun j hj => ?_⟩
    have hj' : j < len := by simpa using hj
    have e : nthF ((List.range len).map f) j = f j := by simp [nthF, List.getD_eq_getElem?_getD, hj']
    rw [e]
    exact hf j hj'
end Go.Proofs.Ytcciabalbdnakab
