/-
  DERIVED. GIVEN WITH THE SEED: THE CARDS: each row of YtpenjbpcebfecaaGreatDoorRows.lean that lists a variable, with what it lists TIED to the program's text (the seventh form; the later family's looks); each row that meets fmt, with fmt's text TOLD by the authors' own Lean function (tested against real Go, not proved from fmt's source: count such statements apart). THE CARD IS WHAT COUNTS. Prove the row's statement (the work); the ties are given (YtpenjbpcebfecaaGreatDoorTie.lean); close each card by the builder's one call (the guide's Derived/Test/ToyasCard.lean, 'card_holds'). Laid BY PROGRAM, IN A SANDBOX (cutbox-door.mjs). By AI agents, Wed Nov 11 2026. No macro, syntax, notation, axiom, sorry.
-/
import Derived.Test.YtpenjbpcebfecaaGreatDoorRows
import GoSem.ClaimSeven

namespace Go.Proofs.YtpenjbpcebfecaaGreatDoor
namespace Rows

/-- THE TIED CARD OF 'laws.FnRight'. -/
def fnRightCard : Claim7 := { stood := { row := fnRightRow, standIns := [], harness := (true, "1bbb5c48abc8fabfdcebabdec25a694a6b36853ce91dcc006915f74475e34958"), looks := true }, kinds := [], alts := [], laidByText := true, laidKinds := [.handle], laidTests := true, laidLooks := .later }
def FnRightCardSaid : Prop := Claim7.holds Tryz.pinned (.plain (OpenSpec.ofChange fnRightSpec)) fnRightCard

/-- THE TIED CARD OF 'laws.FnEcho'. -/
def fnEchoCard : Claim7 := { stood := { row := fnEchoRow, standIns := [], harness := (true, "1bbb5c48abc8fabfdcebabdec25a694a6b36853ce91dcc006915f74475e34958"), looks := true }, kinds := [], alts := [], laidByText := true, laidKinds := [.handle], laidTests := true, laidLooks := .later }
def FnEchoCardSaid : Prop := Claim7.holds Tryz.pinned (.plain (OpenSpec.ofChange fnEchoSpec)) fnEchoCard

/-- THE TIED CARD OF 'laws.FnExactSampled'. -/
def fnExactSampledCard : Claim7 := { stood := { row := fnExactSampledRow, standIns := [], harness := (true, "1bbb5c48abc8fabfdcebabdec25a694a6b36853ce91dcc006915f74475e34958"), looks := true }, kinds := [], alts := [], laidByText := true, laidKinds := [.handle], laidTests := true, laidLooks := .later }
def FnExactSampledCardSaid : Prop := Claim7.holds Tryz.pinned (.plain (OpenSpec.ofChange fnExactSampledSpec)) fnExactSampledCard

/-- THE SECOND FORM's CARD OF 'laws.FnRight'. -/
def fnRightUptoCard : Claim7 := { stood := { row := fnRightUptoRow, standIns := [], harness := (true, "1bbb5c48abc8fabfdcebabdec25a694a6b36853ce91dcc006915f74475e34958"), looks := true }, kinds := [], alts := [], laidByText := true, laidKinds := [.handle], laidTests := true, laidLooks := .later }
def FnRightUptoCardSaid : Prop := Claim7.holds Tryz.pinned (.plain (OpenSpec.upto fnRightSpec)) fnRightUptoCard

/-- THE SECOND FORM's CARD OF 'laws.FnEcho'. -/
def fnEchoUptoCard : Claim7 := { stood := { row := fnEchoUptoRow, standIns := [], harness := (true, "1bbb5c48abc8fabfdcebabdec25a694a6b36853ce91dcc006915f74475e34958"), looks := true }, kinds := [], alts := [], laidByText := true, laidKinds := [.handle], laidTests := true, laidLooks := .later }
def FnEchoUptoCardSaid : Prop := Claim7.holds Tryz.pinned (.plain (OpenSpec.upto fnEchoSpec)) fnEchoUptoCard

/-- THE SECOND FORM's CARD OF 'laws.FnExactSampled'. -/
def fnExactSampledUptoCard : Claim7 := { stood := { row := fnExactSampledUptoRow, standIns := [], harness := (true, "1bbb5c48abc8fabfdcebabdec25a694a6b36853ce91dcc006915f74475e34958"), looks := true }, kinds := [], alts := [], laidByText := true, laidKinds := [.handle], laidTests := true, laidLooks := .later }
def FnExactSampledUptoCardSaid : Prop := Claim7.holds Tryz.pinned (.plain (OpenSpec.upto fnExactSampledSpec)) fnExactSampledUptoCard
end Rows
end Go.Proofs.YtpenjbpcebfecaaGreatDoor
