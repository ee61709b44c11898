/-
  DERIVED. GIVEN WITH THE SEED: THE CARDS: each row of YtngcekegngmedaaGreatDoorRows.lean that lists a variable, with what it lists TIED to the program's text (the seventh form; the later family's looks); each row that meets fmt, with fmt's text TOLD by the authors' own Lean function (tested against real Go, not proved from fmt's source: count such statements apart). THE CARD IS WHAT COUNTS. Prove the row's statement (the work); the ties are given (YtngcekegngmedaaGreatDoorTie.lean); close each card by the builder's one call (the guide's Derived/Test/ToyasCard.lean, 'card_holds'). Laid BY PROGRAM, IN A SANDBOX (cutbox-door.mjs). By AI agents, Wed Nov 11 2026. No macro, syntax, notation, axiom, sorry.
-/
import Derived.Test.YtngcekegngmedaaGreatDoorRows
import GoSem.ClaimSeven

namespace Go.Proofs.YtngcekegngmedaaGreatDoor
namespace Rows

/-- THE TIED CARD OF 'laws.FnRight'. -/
def fnRightCard : Claim7 := { stood := { row := fnRightRow, standIns := [], harness := (true, "a44060b6971b6e2844d487c4140bb6b63db1698d37efc0092a67666e0bfda621"), looks := true }, kinds := [], alts := [], laidByText := true, laidKinds := [.handle], laidTests := true, laidLooks := .later }
def FnRightCardSaid : Prop := Claim7.holds Tryz.pinned (.plain (OpenSpec.ofChange fnRightSpec)) fnRightCard

/-- THE TIED CARD OF 'laws.FnEcho'. -/
def fnEchoCard : Claim7 := { stood := { row := fnEchoRow, standIns := [], harness := (true, "a44060b6971b6e2844d487c4140bb6b63db1698d37efc0092a67666e0bfda621"), looks := true }, kinds := [], alts := [], laidByText := true, laidKinds := [.handle], laidTests := true, laidLooks := .later }
def FnEchoCardSaid : Prop := Claim7.holds Tryz.pinned (.plain (OpenSpec.ofChange fnEchoSpec)) fnEchoCard

/-- THE TIED CARD OF 'laws.FnFlipFree'. -/
def fnFlipFreeCard : Claim7 := { stood := { row := fnFlipFreeRow, standIns := [], harness := (true, "a44060b6971b6e2844d487c4140bb6b63db1698d37efc0092a67666e0bfda621"), looks := true }, kinds := [], alts := [], laidByText := true, laidKinds := [.handle], laidTests := true, laidLooks := .later }
def FnFlipFreeCardSaid : Prop := Claim7.holds Tryz.pinned (.plain (OpenSpec.ofChange fnFlipFreeSpec)) fnFlipFreeCard

/-- THE TIED CARD OF 'laws.FnNothingLost'. -/
def fnNothingLostCard : Claim7 := { stood := { row := fnNothingLostRow, standIns := [], harness := (true, "a44060b6971b6e2844d487c4140bb6b63db1698d37efc0092a67666e0bfda621"), looks := true }, kinds := [], alts := [], laidByText := true, laidKinds := [.handle], laidTests := true, laidLooks := .later }
def FnNothingLostCardSaid : Prop := Claim7.holds Tryz.pinned (.plain (OpenSpec.ofChange fnNothingLostSpec)) fnNothingLostCard

/-- THE TIED CARD OF 'laws.FnParts'. -/
def fnPartsCard : Claim7 := { stood := { row := fnPartsRow, standIns := [], harness := (true, "a44060b6971b6e2844d487c4140bb6b63db1698d37efc0092a67666e0bfda621"), looks := true }, kinds := [], alts := [], laidByText := true, laidKinds := [.handle], laidTests := true, laidLooks := .later }
def FnPartsCardSaid : Prop := Claim7.holds Tryz.pinned (.plain (OpenSpec.ofChange fnPartsSpec)) fnPartsCard

/-- THE TIED CARD OF 'laws.FnNewBus'. -/
def fnNewBusCard : Claim7 := { stood := { row := fnNewBusRow, standIns := [], harness := (true, "a44060b6971b6e2844d487c4140bb6b63db1698d37efc0092a67666e0bfda621"), looks := true }, kinds := [], alts := [], laidByText := true, laidKinds := [.handle], laidTests := true, laidLooks := .later }
def FnNewBusCardSaid : Prop := Claim7.holds Tryz.pinned (.plain (OpenSpec.ofChange fnNewBusSpec)) fnNewBusCard

/-- THE TIED CARD OF 'laws.FnExactSampled'. -/
def fnExactSampledCard : Claim7 := { stood := { row := fnExactSampledRow, standIns := [], harness := (true, "a44060b6971b6e2844d487c4140bb6b63db1698d37efc0092a67666e0bfda621"), looks := true }, kinds := [], alts := [], laidByText := true, laidKinds := [.handle], laidTests := true, laidLooks := .later }
def FnExactSampledCardSaid : Prop := Claim7.holds Tryz.pinned (.plain (OpenSpec.ofChange fnExactSampledSpec)) fnExactSampledCard

/-- THE TIED CARD OF 'laws.FnExactTicked'. -/
def fnExactTickedCard : Claim7 := { stood := { row := fnExactTickedRow, standIns := [], harness := (true, "a44060b6971b6e2844d487c4140bb6b63db1698d37efc0092a67666e0bfda621"), looks := true }, kinds := [], alts := [], laidByText := true, laidKinds := [.handle], laidTests := true, laidLooks := .later }
def FnExactTickedCardSaid : Prop := Claim7.holds Tryz.pinned (.plain (OpenSpec.ofChange fnExactTickedSpec)) fnExactTickedCard

/-- THE TIED CARD OF 'laws.FnExactRunFor'. -/
def fnExactRunForCard : Claim7 := { stood := { row := fnExactRunForRow, standIns := [], harness := (true, "a44060b6971b6e2844d487c4140bb6b63db1698d37efc0092a67666e0bfda621"), looks := true }, kinds := [], alts := [], laidByText := true, laidKinds := [.handle], laidTests := true, laidLooks := .later }
def FnExactRunForCardSaid : Prop := Claim7.holds Tryz.pinned (.plain (OpenSpec.ofChange fnExactRunForSpec)) fnExactRunForCard

/-- THE SECOND FORM's CARD OF 'laws.FnRight'. -/
def fnRightUptoCard : Claim7 := { stood := { row := fnRightUptoRow, standIns := [], harness := (true, "a44060b6971b6e2844d487c4140bb6b63db1698d37efc0092a67666e0bfda621"), looks := true }, kinds := [], alts := [], laidByText := true, laidKinds := [.handle], laidTests := true, laidLooks := .later }
def FnRightUptoCardSaid : Prop := Claim7.holds Tryz.pinned (.plain (OpenSpec.upto fnRightSpec)) fnRightUptoCard

/-- THE SECOND FORM's CARD OF 'laws.FnEcho'. -/
def fnEchoUptoCard : Claim7 := { stood := { row := fnEchoUptoRow, standIns := [], harness := (true, "a44060b6971b6e2844d487c4140bb6b63db1698d37efc0092a67666e0bfda621"), looks := true }, kinds := [], alts := [], laidByText := true, laidKinds := [.handle], laidTests := true, laidLooks := .later }
def FnEchoUptoCardSaid : Prop := Claim7.holds Tryz.pinned (.plain (OpenSpec.upto fnEchoSpec)) fnEchoUptoCard

/-- THE SECOND FORM's CARD OF 'laws.FnFlipFree'. -/
def fnFlipFreeUptoCard : Claim7 := { stood := { row := fnFlipFreeUptoRow, standIns := [], harness := (true, "a44060b6971b6e2844d487c4140bb6b63db1698d37efc0092a67666e0bfda621"), looks := true }, kinds := [], alts := [], laidByText := true, laidKinds := [.handle], laidTests := true, laidLooks := .later }
def FnFlipFreeUptoCardSaid : Prop := Claim7.holds Tryz.pinned (.plain (OpenSpec.upto fnFlipFreeSpec)) fnFlipFreeUptoCard

/-- THE SECOND FORM's CARD OF 'laws.FnNothingLost'. -/
def fnNothingLostUptoCard : Claim7 := { stood := { row := fnNothingLostUptoRow, standIns := [], harness := (true, "a44060b6971b6e2844d487c4140bb6b63db1698d37efc0092a67666e0bfda621"), looks := true }, kinds := [], alts := [], laidByText := true, laidKinds := [.handle], laidTests := true, laidLooks := .later }
def FnNothingLostUptoCardSaid : Prop := Claim7.holds Tryz.pinned (.plain (OpenSpec.upto fnNothingLostSpec)) fnNothingLostUptoCard

/-- THE SECOND FORM's CARD OF 'laws.FnParts'. -/
def fnPartsUptoCard : Claim7 := { stood := { row := fnPartsUptoRow, standIns := [], harness := (true, "a44060b6971b6e2844d487c4140bb6b63db1698d37efc0092a67666e0bfda621"), looks := true }, kinds := [], alts := [], laidByText := true, laidKinds := [.handle], laidTests := true, laidLooks := .later }
def FnPartsUptoCardSaid : Prop := Claim7.holds Tryz.pinned (.plain (OpenSpec.upto fnPartsSpec)) fnPartsUptoCard

/-- THE SECOND FORM's CARD OF 'laws.FnNewBus'. -/
def fnNewBusUptoCard : Claim7 := { stood := { row := fnNewBusUptoRow, standIns := [], harness := (true, "a44060b6971b6e2844d487c4140bb6b63db1698d37efc0092a67666e0bfda621"), looks := true }, kinds := [], alts := [], laidByText := true, laidKinds := [.handle], laidTests := true, laidLooks := .later }
def FnNewBusUptoCardSaid : Prop := Claim7.holds Tryz.pinned (.plain (OpenSpec.upto fnNewBusSpec)) fnNewBusUptoCard

/-- THE SECOND FORM's CARD OF 'laws.FnExactSampled'. -/
def fnExactSampledUptoCard : Claim7 := { stood := { row := fnExactSampledUptoRow, standIns := [], harness := (true, "a44060b6971b6e2844d487c4140bb6b63db1698d37efc0092a67666e0bfda621"), looks := true }, kinds := [], alts := [], laidByText := true, laidKinds := [.handle], laidTests := true, laidLooks := .later }
def FnExactSampledUptoCardSaid : Prop := Claim7.holds Tryz.pinned (.plain (OpenSpec.upto fnExactSampledSpec)) fnExactSampledUptoCard

/-- THE SECOND FORM's CARD OF 'laws.FnExactTicked'. -/
def fnExactTickedUptoCard : Claim7 := { stood := { row := fnExactTickedUptoRow, standIns := [], harness := (true, "a44060b6971b6e2844d487c4140bb6b63db1698d37efc0092a67666e0bfda621"), looks := true }, kinds := [], alts := [], laidByText := true, laidKinds := [.handle], laidTests := true, laidLooks := .later }
def FnExactTickedUptoCardSaid : Prop := Claim7.holds Tryz.pinned (.plain (OpenSpec.upto fnExactTickedSpec)) fnExactTickedUptoCard

/-- THE SECOND FORM's CARD OF 'laws.FnExactRunFor'. -/
def fnExactRunForUptoCard : Claim7 := { stood := { row := fnExactRunForUptoRow, standIns := [], harness := (true, "a44060b6971b6e2844d487c4140bb6b63db1698d37efc0092a67666e0bfda621"), looks := true }, kinds := [], alts := [], laidByText := true, laidKinds := [.handle], laidTests := true, laidLooks := .later }
def FnExactRunForUptoCardSaid : Prop := Claim7.holds Tryz.pinned (.plain (OpenSpec.upto fnExactRunForSpec)) fnExactRunForUptoCard
end Rows
end Go.Proofs.YtngcekegngmedaaGreatDoor
