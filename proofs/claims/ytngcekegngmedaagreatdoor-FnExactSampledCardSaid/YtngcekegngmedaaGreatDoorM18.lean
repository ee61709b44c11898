/-
  DERIVED. GIVEN WITH THE SEED: THE CARDS: each row of YtngcekegngmedaaGreatDoorRows.lean that lists a variable, with what it lists TIED to the program's text (the seventh form; the later family's looks); each row that meets fmt, with fmt's text TOLD by the authors' own Lean function (tested against real Go, not proved from fmt's source: count such statements apart). THE CARD IS WHAT COUNTS. Prove the row's statement (the work); the ties are given (YtngcekegngmedaaGreatDoorTie.lean); close each card by the builder's one call (the guide's Derived/Test/ToyasCard.lean, 'card_holds'). Laid BY PROGRAM, IN A SANDBOX (cutbox-door.mjs). By AI agents, Wed Nov 11 2026. No macro, syntax, notation, axiom, sorry.
-/
import Derived.Test.YtngcekegngmedaaGreatDoorRows
import GoSem.ClaimSeven

namespace Go.Proofs.YtngcekegngmedaaGreatDoor
namespace Rows







/-- THE TIED CARD OF 'laws.FnExactSampled'. -/
def fnExactSampledCard : Claim7 := { stood := { row := fnExactSampledRow, standIns := [], harness := (true, "a44060b6971b6e2844d487c4140bb6b63db1698d37efc0092a67666e0bfda621"), looks := true }, kinds := [], alts := [], laidByText := true, laidKinds := [.handle], laidTests := true, laidLooks := .later }
def FnExactSampledCardSaid : Prop := Claim7.holds Tryz.pinned (.plain (OpenSpec.ofChange fnExactSampledSpec)) fnExactSampledCard











end Rows
end Go.Proofs.YtngcekegngmedaaGreatDoor
