/- A slice of nodes, and a bus, as they come in: what the reading of the argument says of the memory. -/
import Derived.Test.YtjlegnnekjcpmaaGreatM19
import Derived.Test.YtjlegnnekjcpmaaGreatNdsE
set_option linter.unusedVariables false
set_option linter.unusedSimpArgs false
set_option maxRecDepth 20000
namespace Go.Proofs.YtjlegnnekjcpmaaGreat
open Go.ChangeShapes Go.WideShapes Go.ChangeAt Go.RowKit Go.Joins

instance : Inhabited (Nd × NdP) := ⟨⟨ndN, ⟨none, 0, none, 0, none, 0, none, 0⟩⟩⟩
/-- A slice of nodes, opened. -/
theorem nodes_open {H : Type} {enc : TypeId × Value → H} {w : World} {base : Nat} {fuel : Nat} {cs : List Value} {x : DataW H × List MemPlace}
    (h : DataW.trod enc Tryz.prog w base (fun _ => true) true fuel 22 cs = some x) : ∃ a N c, cs = [.slice a (N : List Nd).length c] ∧ Nds (fun _ => True) a N w := by
  rcases Go.Deep.open_slice Tryz.underlying22 h with ⟨hcs, _⟩ | ⟨a, len, cap, m, n, D, Pl, hcs, _, hl, hm, hmm, _, hx⟩
  · exact ⟨none, [], 0, hcs, by simp, fun j hj => absurd hj (by simp)⟩
  · rw [if_pos rfl] at hmm
    subst hmm
    rw [cellsNode] at hx
    obtain ⟨f, hf⟩ := Go.Deep.choose_lt (α := Nd × NdP) (p := fun i f => NdAt (fun _ => True) (some a) i f.1 w) (n := len) (fun i hi => by
      obtain ⟨cs', h1, h2⟩ := hx i (by omega)
      obtain ⟨nd, p, rfl, hn⟩ := node_cells h2
      obtain ⟨_, _, hc⟩ := World.cells?_some h1
      obtain ⟨b, off, spot⟩ := a
      have hspot : spot = none := by
        obtain ⟨cs0, g1, g2⟩ := hx 0 (by omega)
        obtain ⟨_, _, rfl, _⟩ := node_cells g2
        obtain ⟨_, _, gc⟩ := World.cells?_some g1
        have := World.cell?_spot ((gc 0 (by omega)).trans rfl)
        simpa [Addr.add] using this
      subst hspot
      have hadd : ∀ j, ((⟨b, off, none⟩ : Addr).add (i * 18)).add j = ⟨b, off + i * 18 + j, none⟩ := by
        intro j
        unfold Addr.add
        split <;> split <;> simp_all
      refine ⟨⟨nd, p⟩, b, off, p, rfl, fun j v hv => ?_, hn, trivial⟩
      have hj : j < 18 := (List.getElem?_eq_some_iff.1 hv).1
      have := hc j hj
      rw [hadd, hv] at this
      exact this)
    refine ⟨some a, (List.range len).map fun j => (f j).1, m, by simpa using hcs, by simp; omega, fun j hj => ?_⟩
    have hj' : j < len := by simpa using hj
    have e : nthN ((List.range len).map fun j => (f j).1) j = (f j).1 := by simp [nthN, List.getD_eq_getElem?_getD, hj']
    rw [e]
    exact hf j hj'
theorem oneNds : Tryz.prog.cellsOf 22 = 1 := by kernel_rfl
theorem cellsBus : Tryz.prog.cellsOf 24 = 2 := by kernel_rfl
/-- A bus by value, opened. -/
theorem bus_open {H : Type} {enc : TypeId × Value → H} {w : World} {r : Reach} {b0 base : Nat} {v : Value} {d : DataW H} {p : List MemPlace}
    (hv : Value.okWide Tryz.prog w r b0 24 v) (h : DataW.Trod enc Tryz.prog w base (fun _ => true) true 24 v d p) : ∃ a N c now, v = buV a (N : List Nd).length c now ∧ Nds (fun _ => True) a N w := by
  obtain ⟨cs, rfl, hsz⟩ := okWide_struct Tryz.underlying24 hv
  obtain ⟨fuel, hf⟩ := h
  obtain ⟨z0, z1, k2, _, hl2, j0, j1⟩ := Go.ChangeShapes.trod_struct2 Tryz.underlying24 hf
  have hl : cs.toList.length = 2 := hl2.trans cellsBus
  obtain ⟨l⟩ := cs
  match l, hl with
  | [x0, x1], _ =>
    replace j0 : DataW.trod enc Tryz.prog w base (fun _ => true) true k2 22 [x0] = some z0 := by have h := j0; simp only [oneNds] at h; exact h
    replace j1 : DataW.trod enc Tryz.prog w base (fun _ => true) true k2 2 [x1] = some z1 := by have h := j1; simp only [oneNds, one64] at h; exact h
    obtain ⟨a, N, c, e0, hN⟩ := nodes_open j0
    obtain ⟨now, e1, -, -⟩ := DataW.trod_int Tryz.underlying2 j1
    simp only [List.cons.injEq, and_true] at e0 e1
    subst e0 e1
    exact ⟨a, N, c, now, rfl, hN⟩
end Go.Proofs.YtjlegnnekjcpmaaGreat

