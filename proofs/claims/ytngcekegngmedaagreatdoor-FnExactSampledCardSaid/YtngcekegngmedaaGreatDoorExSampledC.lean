/- Proved: at every argument the program's Sampled answers as the model's does, in every field, writes into no argument, and its answer owns its memory (laws.FnExactSampled answers true at every argument). Condition: errors.errorType starts as the program's text lays it; the card ties it. -/
import Derived.Test.YtngcekegngmedaaGreatDoorExSampledRC
import Derived.Test.YtngcekegngmedaaGreatDoorExSampledGC
import Derived.Test.YtngcekegngmedaaGreatDoorExSampledHC
import Derived.Test.YtngcekegngmedaaGreatDoorExSampledKC
import Derived.Test.YtngcekegngmedaaGreatDoorM17
import Derived.Test.YtngcekegngmedaaGreatDoorM43
import Derived.Test.YtngcekegngmedaaGreatDoorM33
import Derived.Test.YtngcekegngmedaaGreatDoorM18
import Derived.Test.YtngcekegngmedaaGreatDoorM44
import Derived.SevenTiedAt
import Derived.ProofKit
import Derived.OpenShut
import Derived.ShutString
import Derived.ChangeOld
import Derived.Below

set_option maxRecDepth 20000
namespace Go.Proofs.YtngcekegngmedaaGreatDoor.fnExactSampled
open Go Go.ChangeShapes Go.WideShapes Go.ChangeAt Go.RowKit
open Go.ChangeMaps (open_string shut_string)
set_option linter.unusedVariables false

/-- The tied card. -/
theorem card_holds : Rows.FnExactSampledCardSaid :=
  Claim7.holds_tied_plain_at .later [] [.handle] true (true, "a44060b6971b6e2844d487c4140bb6b63db1698d37efc0092a67666e0bfda621") true
    row_holds (fun _ h => by cases h) qWf (fun _ h => by cases h) fnExactSampled_row_tie rfl ⟨rfl, rfl⟩ qMi rfl
    (fun f fn hf hfn => by
      obtain rfl : f = 9 := Option.some.inj ((show Tryz.prog.funcNamed "loop.example/g00753/laws.FnExactSampled" = some 9 by kernel_rfl).symm.trans hf) |>.symm
      obtain rfl : fn = Tryz.f9 := (Option.some.inj (Tryz.func9.symm.trans hfn)).symm
      exact ⟨qLo, fun j t ht => by
        rw [Tryz.params9] at ht
        rcases j with _ | _ | j
        · obtain rfl : t = 83 := by simpa using ht.symm
          exact qWs0
        · obtain rfl : t = 2 := by simpa using ht.symm
          exact qWs1
        · simp at ht⟩)
    qGo
#print axioms card_holds
end Go.Proofs.YtngcekegngmedaaGreatDoor.fnExactSampled
