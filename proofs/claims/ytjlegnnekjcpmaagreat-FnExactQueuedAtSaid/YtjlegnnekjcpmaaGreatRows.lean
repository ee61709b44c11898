/-
  No cell of these rows narrows 'for every input' (looked for: loops, veiled, ifaces, maps, wideKeys, modest, calm, conditions, laid).
  DERIVED. THE GIVEN ROWS OF THIS SEAT. 8 by the template 'for every input the law returns true; each argument reads behind the call as it read before'; 0 by the template 'total and deterministic' (their statements: YtjlegnnekjcpmaaGreatTotals.lean).
  GIVEN WITH THE SEED: the statements are not yours to turn. If you find one false, say at which input.
  Laid BY PROGRAM, IN A SANDBOX (cutbox-rows.mjs): the forced cells as the released guide's own fill.sh prints them over the translation e226aeb95150b1e9… (all of the seat's roots in one cut). By AI agents, Wed Nov 11 2026. No macro, syntax, notation, axiom, sorry.
-/
import Derived.Test.YtjlegnnekjcpmaaGreatChecked
import GoSem.Claim
import GoSem.ClaimJoined
import GoSem.ClaimMapViews
import Derived.JoinedTies
import Derived.KernelRfl
namespace Go.Proofs.YtjlegnnekjcpmaaGreat
/- THE CELL 'sum', in the pinned program and in every row, IS THE sha256 OF THE DUMP (.gsa) THAT YtjlegnnekjcpmaaGreatProg.lean LOADS. Nothing in Lean hashes anything: it is a label: what it is worth is what the hold of that sum in a sandbox is worth. -/
noncomputable def Tryz.pinned : Pinned := { name := "ytjlegnnekjcpmaagreat", sum := "e226aeb95150b1e90ed41d37dde8cef71ed50d434b827923062b5bae2ab34bed", checked := Tryz.checked }
namespace Rows
def none {H : Type} : Left H := { results := [], args := [] }

/-- 'laws.FnExactBusOk': WHATEVER THE INPUT: true; the input reads as it did. -/
def fnExactBusOkSpec : ChangeSpec := { name := "fnExactBusOk", fn := fun _ => fun
  | [d] => { results := [.lit (.bool true)], args := [d] }
  | _ => none }
def fnExactBusOkRow : OpenClaim := { program := "ytjlegnnekjcpmaagreat", sum := "e226aeb95150b1e90ed41d37dde8cef71ed50d434b827923062b5bae2ab34bed", func := "loop.example/g00753/laws.FnExactBusOk", spec := "fnExactBusOk", inPlace := ["internal/reflectlite.TypeOf", "internal/abi.NoEscape"], unfollowed := true, recurses := true, apart := false }
def FnExactBusOkSaid : Prop := fnExactBusOkRow.holds Tryz.pinned (OpenSpec.ofChange fnExactBusOkSpec)

/-- ITS FALSE NEIGHBOUR: 'it returns false'. Refute it at one input. -/
def fnExactBusOkWrong : ChangeSpec := { name := "fnExactBusOk", fn := fun _ => fun
  | [d] => { results := [.lit (.bool false)], args := [d] }
  | _ => none }
def FnExactBusOkWrongFalsely : Prop := fnExactBusOkRow.holds Tryz.pinned (OpenSpec.ofChange fnExactBusOkWrong)

/-- 'laws.FnExactNewBus': WHATEVER THE INPUT: true; the input reads as it did. -/
def fnExactNewBusSpec : ChangeSpec := { name := "fnExactNewBus", fn := fun _ => fun
  | [d] => { results := [.lit (.bool true)], args := [d] }
  | _ => none }
def fnExactNewBusRow : OpenClaim := { program := "ytjlegnnekjcpmaagreat", sum := "e226aeb95150b1e90ed41d37dde8cef71ed50d434b827923062b5bae2ab34bed", func := "loop.example/g00753/laws.FnExactNewBus", spec := "fnExactNewBus", inPlace := ["internal/reflectlite.TypeOf", "internal/abi.NoEscape"], unfollowed := true, recurses := true, apart := false }
def FnExactNewBusSaid : Prop := fnExactNewBusRow.holds Tryz.pinned (OpenSpec.ofChange fnExactNewBusSpec)

/-- ITS FALSE NEIGHBOUR: 'it returns false'. Refute it at one input. -/
def fnExactNewBusWrong : ChangeSpec := { name := "fnExactNewBus", fn := fun _ => fun
  | [d] => { results := [.lit (.bool false)], args := [d] }
  | _ => none }
def FnExactNewBusWrongFalsely : Prop := fnExactNewBusRow.holds Tryz.pinned (OpenSpec.ofChange fnExactNewBusWrong)

/-- 'laws.FnExactLevelOf': WHATEVER THE INPUT: true; the input reads as it did. -/
def fnExactLevelOfSpec : ChangeSpec := { name := "fnExactLevelOf", fn := fun _ => fun
  | [d] => { results := [.lit (.bool true)], args := [d] }
  | _ => none }
def fnExactLevelOfRow : OpenClaim := { program := "ytjlegnnekjcpmaagreat", sum := "e226aeb95150b1e90ed41d37dde8cef71ed50d434b827923062b5bae2ab34bed", func := "loop.example/g00753/laws.FnExactLevelOf", spec := "fnExactLevelOf", inPlace := ["internal/reflectlite.TypeOf", "internal/abi.NoEscape"], unfollowed := true, recurses := true, apart := false }
def FnExactLevelOfSaid : Prop := fnExactLevelOfRow.holds Tryz.pinned (OpenSpec.ofChange fnExactLevelOfSpec)

/-- ITS FALSE NEIGHBOUR: 'it returns false'. Refute it at one input. -/
def fnExactLevelOfWrong : ChangeSpec := { name := "fnExactLevelOf", fn := fun _ => fun
  | [d] => { results := [.lit (.bool false)], args := [d] }
  | _ => none }
def FnExactLevelOfWrongFalsely : Prop := fnExactLevelOfRow.holds Tryz.pinned (OpenSpec.ofChange fnExactLevelOfWrong)

/-- 'laws.FnExactQueuedAt': WHATEVER THE INPUT: true; the input reads as it did. -/
def fnExactQueuedAtSpec : ChangeSpec := { name := "fnExactQueuedAt", fn := fun _ => fun
  | [d1, d2, d3] => { results := [.lit (.bool true)], args := [d1, d2, d3] }
  | _ => none }
def fnExactQueuedAtRow : OpenClaim := { program := "ytjlegnnekjcpmaagreat", sum := "e226aeb95150b1e90ed41d37dde8cef71ed50d434b827923062b5bae2ab34bed", func := "loop.example/g00753/laws.FnExactQueuedAt", spec := "fnExactQueuedAt", inPlace := ["internal/reflectlite.TypeOf", "internal/abi.NoEscape"], unfollowed := true, recurses := true, apart := false }
def FnExactQueuedAtSaid : Prop := fnExactQueuedAtRow.holds Tryz.pinned (OpenSpec.ofChange fnExactQueuedAtSpec)

/-- ITS FALSE NEIGHBOUR: 'it returns false'. Refute it at one input. -/
def fnExactQueuedAtWrong : ChangeSpec := { name := "fnExactQueuedAt", fn := fun _ => fun
  | [d1, d2, d3] => { results := [.lit (.bool false)], args := [d1, d2, d3] }
  | _ => none }
def FnExactQueuedAtWrongFalsely : Prop := fnExactQueuedAtRow.holds Tryz.pinned (OpenSpec.ofChange fnExactQueuedAtWrong)

/-- 'laws.FnExactQueued': WHATEVER THE INPUT: true; the input reads as it did. -/
def fnExactQueuedSpec : ChangeSpec := { name := "fnExactQueued", fn := fun _ => fun
  | [d1, d2] => { results := [.lit (.bool true)], args := [d1, d2] }
  | _ => none }
def fnExactQueuedRow : OpenClaim := { program := "ytjlegnnekjcpmaagreat", sum := "e226aeb95150b1e90ed41d37dde8cef71ed50d434b827923062b5bae2ab34bed", func := "loop.example/g00753/laws.FnExactQueued", spec := "fnExactQueued", inPlace := ["internal/reflectlite.TypeOf", "internal/abi.NoEscape"], unfollowed := true, recurses := true, apart := false }
def FnExactQueuedSaid : Prop := fnExactQueuedRow.holds Tryz.pinned (OpenSpec.ofChange fnExactQueuedSpec)

/-- ITS FALSE NEIGHBOUR: 'it returns false'. Refute it at one input. -/
def fnExactQueuedWrong : ChangeSpec := { name := "fnExactQueued", fn := fun _ => fun
  | [d1, d2] => { results := [.lit (.bool false)], args := [d1, d2] }
  | _ => none }
def FnExactQueuedWrongFalsely : Prop := fnExactQueuedRow.holds Tryz.pinned (OpenSpec.ofChange fnExactQueuedWrong)

/-- 'laws.FnStill': WHATEVER THE INPUT: true; the input reads as it did. -/
def fnStillSpec : ChangeSpec := { name := "fnStill", fn := fun _ => fun
  | [d] => { results := [.lit (.bool true)], args := [d] }
  | _ => none }
def fnStillRow : OpenClaim := { program := "ytjlegnnekjcpmaagreat", sum := "e226aeb95150b1e90ed41d37dde8cef71ed50d434b827923062b5bae2ab34bed", func := "loop.example/g00753/laws.FnStill", spec := "fnStill", inPlace := ["internal/reflectlite.TypeOf", "internal/abi.NoEscape"], unfollowed := true, recurses := true, apart := false }
def FnStillSaid : Prop := fnStillRow.holds Tryz.pinned (OpenSpec.ofChange fnStillSpec)

/-- ITS FALSE NEIGHBOUR: 'it returns false'. Refute it at one input. -/
def fnStillWrong : ChangeSpec := { name := "fnStill", fn := fun _ => fun
  | [d] => { results := [.lit (.bool false)], args := [d] }
  | _ => none }
def FnStillWrongFalsely : Prop := fnStillRow.holds Tryz.pinned (OpenSpec.ofChange fnStillWrong)

/-- 'laws.FnExactDrives': WHATEVER THE INPUT: true; the input reads as it did. -/
def fnExactDrivesSpec : ChangeSpec := { name := "fnExactDrives", fn := fun _ => fun
  | [d] => { results := [.lit (.bool true)], args := [d] }
  | _ => none }
def fnExactDrivesRow : OpenClaim := { program := "ytjlegnnekjcpmaagreat", sum := "e226aeb95150b1e90ed41d37dde8cef71ed50d434b827923062b5bae2ab34bed", func := "loop.example/g00753/laws.FnExactDrives", spec := "fnExactDrives", inPlace := ["internal/reflectlite.TypeOf", "internal/abi.NoEscape"], unfollowed := true, recurses := true, apart := false }
def FnExactDrivesSaid : Prop := fnExactDrivesRow.holds Tryz.pinned (OpenSpec.ofChange fnExactDrivesSpec)

/-- ITS FALSE NEIGHBOUR: 'it returns false'. Refute it at one input. -/
def fnExactDrivesWrong : ChangeSpec := { name := "fnExactDrives", fn := fun _ => fun
  | [d] => { results := [.lit (.bool false)], args := [d] }
  | _ => none }
def FnExactDrivesWrongFalsely : Prop := fnExactDrivesRow.holds Tryz.pinned (OpenSpec.ofChange fnExactDrivesWrong)

/-- 'laws.FnExactNextBit': WHATEVER THE INPUT: true; the input reads as it did. -/
def fnExactNextBitSpec : ChangeSpec := { name := "fnExactNextBit", fn := fun _ => fun
  | [d] => { results := [.lit (.bool true)], args := [d] }
  | _ => none }
def fnExactNextBitRow : OpenClaim := { program := "ytjlegnnekjcpmaagreat", sum := "e226aeb95150b1e90ed41d37dde8cef71ed50d434b827923062b5bae2ab34bed", func := "loop.example/g00753/laws.FnExactNextBit", spec := "fnExactNextBit", inPlace := ["internal/reflectlite.TypeOf", "internal/abi.NoEscape"], unfollowed := true, recurses := true, apart := false }
def FnExactNextBitSaid : Prop := fnExactNextBitRow.holds Tryz.pinned (OpenSpec.ofChange fnExactNextBitSpec)

/-- ITS FALSE NEIGHBOUR: 'it returns false'. Refute it at one input. -/
def fnExactNextBitWrong : ChangeSpec := { name := "fnExactNextBit", fn := fun _ => fun
  | [d] => { results := [.lit (.bool false)], args := [d] }
  | _ => none }
def FnExactNextBitWrongFalsely : Prop := fnExactNextBitRow.holds Tryz.pinned (OpenSpec.ofChange fnExactNextBitWrong)

/- THE SECOND FORM. 'bulk': how many values and letters a reading holds, each counted each time it is reached (what is shared counts as often as it is met; a slice's spare places count too). A statement '..UptoSaid' is the law's where the arguments, and the package variables that the reading takes, are together of bulk at most 1048576: NARROWER than '..Said'. Prove '..Said' where nothing that the law and all that it calls make is longer than what came in: it says more and counts as full. Else prove '..UptoSaid'. A law counts once. -/
mutual
def uptoBulk {H : Type} : DataW H → Nat
  | .lit (.string bytes) => bytes.length + 1
  | .lit _ => 1
  | .nil => 1
  | .ptr d => uptoBulk d + 1
  | .slice elems spare => uptoBulkAll elems + uptoBulkAll spare + 1
  | .agg parts => uptoBulkAll parts + 1
  | .iface _ d => uptoBulk d + 1
  | .map entries => uptoBulkEntries entries + 1
  | .held _ => 1
def uptoBulkAll {H : Type} : List (DataW H) → Nat
  | [] => 0
  | d :: r => uptoBulk d + uptoBulkAll r
def uptoBulkEntries {H : Type} : List (Lit × DataW H) → Nat
  | [] => 0
  | x :: r => uptoBulkEntry x + uptoBulkEntries r
def uptoBulkEntry {H : Type} : Lit × DataW H → Nat
  | (.string bytes, d) => bytes.length + uptoBulk d + 1
  | (_, d) => uptoBulk d + 1
 end
def uptoSmall : (H : Type) → List (DataW H) → Bool := fun _ ds => decide (uptoBulkAll ds ≤ 1048576)
def OpenSpec.upto (s : _root_.Go.ChangeSpec) : _root_.Go.OpenSpec := { _root_.Go.OpenSpec.ofChange s with cond := some uptoSmall }

/-- 'laws.FnExactBusOk', WHERE WHAT IT READS IS OF BULK AT MOST 1048576: true; the input reads as it did. -/
def fnExactBusOkUptoRow : OpenClaim := { program := "ytjlegnnekjcpmaagreat", sum := "e226aeb95150b1e90ed41d37dde8cef71ed50d434b827923062b5bae2ab34bed", func := "loop.example/g00753/laws.FnExactBusOk", spec := "fnExactBusOk", inPlace := ["internal/reflectlite.TypeOf", "internal/abi.NoEscape"], unfollowed := true, recurses := true, apart := false, narrowed := true }
def FnExactBusOkUptoSaid : Prop := fnExactBusOkUptoRow.holds Tryz.pinned (OpenSpec.upto fnExactBusOkSpec)

/-- 'laws.FnExactNewBus', WHERE WHAT IT READS IS OF BULK AT MOST 1048576: true; the input reads as it did. -/
def fnExactNewBusUptoRow : OpenClaim := { program := "ytjlegnnekjcpmaagreat", sum := "e226aeb95150b1e90ed41d37dde8cef71ed50d434b827923062b5bae2ab34bed", func := "loop.example/g00753/laws.FnExactNewBus", spec := "fnExactNewBus", inPlace := ["internal/reflectlite.TypeOf", "internal/abi.NoEscape"], unfollowed := true, recurses := true, apart := false, narrowed := true }
def FnExactNewBusUptoSaid : Prop := fnExactNewBusUptoRow.holds Tryz.pinned (OpenSpec.upto fnExactNewBusSpec)

/-- 'laws.FnExactLevelOf', WHERE WHAT IT READS IS OF BULK AT MOST 1048576: true; the input reads as it did. -/
def fnExactLevelOfUptoRow : OpenClaim := { program := "ytjlegnnekjcpmaagreat", sum := "e226aeb95150b1e90ed41d37dde8cef71ed50d434b827923062b5bae2ab34bed", func := "loop.example/g00753/laws.FnExactLevelOf", spec := "fnExactLevelOf", inPlace := ["internal/reflectlite.TypeOf", "internal/abi.NoEscape"], unfollowed := true, recurses := true, apart := false, narrowed := true }
def FnExactLevelOfUptoSaid : Prop := fnExactLevelOfUptoRow.holds Tryz.pinned (OpenSpec.upto fnExactLevelOfSpec)

/-- 'laws.FnExactQueuedAt', WHERE WHAT IT READS IS OF BULK AT MOST 1048576: true; the input reads as it did. -/
def fnExactQueuedAtUptoRow : OpenClaim := { program := "ytjlegnnekjcpmaagreat", sum := "e226aeb95150b1e90ed41d37dde8cef71ed50d434b827923062b5bae2ab34bed", func := "loop.example/g00753/laws.FnExactQueuedAt", spec := "fnExactQueuedAt", inPlace := ["internal/reflectlite.TypeOf", "internal/abi.NoEscape"], unfollowed := true, recurses := true, apart := false, narrowed := true }
def FnExactQueuedAtUptoSaid : Prop := fnExactQueuedAtUptoRow.holds Tryz.pinned (OpenSpec.upto fnExactQueuedAtSpec)

/-- 'laws.FnExactQueued', WHERE WHAT IT READS IS OF BULK AT MOST 1048576: true; the input reads as it did. -/
def fnExactQueuedUptoRow : OpenClaim := { program := "ytjlegnnekjcpmaagreat", sum := "e226aeb95150b1e90ed41d37dde8cef71ed50d434b827923062b5bae2ab34bed", func := "loop.example/g00753/laws.FnExactQueued", spec := "fnExactQueued", inPlace := ["internal/reflectlite.TypeOf", "internal/abi.NoEscape"], unfollowed := true, recurses := true, apart := false, narrowed := true }
def FnExactQueuedUptoSaid : Prop := fnExactQueuedUptoRow.holds Tryz.pinned (OpenSpec.upto fnExactQueuedSpec)

/-- 'laws.FnStill', WHERE WHAT IT READS IS OF BULK AT MOST 1048576: true; the input reads as it did. -/
def fnStillUptoRow : OpenClaim := { program := "ytjlegnnekjcpmaagreat", sum := "e226aeb95150b1e90ed41d37dde8cef71ed50d434b827923062b5bae2ab34bed", func := "loop.example/g00753/laws.FnStill", spec := "fnStill", inPlace := ["internal/reflectlite.TypeOf", "internal/abi.NoEscape"], unfollowed := true, recurses := true, apart := false, narrowed := true }
def FnStillUptoSaid : Prop := fnStillUptoRow.holds Tryz.pinned (OpenSpec.upto fnStillSpec)

/-- 'laws.FnExactDrives', WHERE WHAT IT READS IS OF BULK AT MOST 1048576: true; the input reads as it did. -/
def fnExactDrivesUptoRow : OpenClaim := { program := "ytjlegnnekjcpmaagreat", sum := "e226aeb95150b1e90ed41d37dde8cef71ed50d434b827923062b5bae2ab34bed", func := "loop.example/g00753/laws.FnExactDrives", spec := "fnExactDrives", inPlace := ["internal/reflectlite.TypeOf", "internal/abi.NoEscape"], unfollowed := true, recurses := true, apart := false, narrowed := true }
def FnExactDrivesUptoSaid : Prop := fnExactDrivesUptoRow.holds Tryz.pinned (OpenSpec.upto fnExactDrivesSpec)

/-- 'laws.FnExactNextBit', WHERE WHAT IT READS IS OF BULK AT MOST 1048576: true; the input reads as it did. -/
def fnExactNextBitUptoRow : OpenClaim := { program := "ytjlegnnekjcpmaagreat", sum := "e226aeb95150b1e90ed41d37dde8cef71ed50d434b827923062b5bae2ab34bed", func := "loop.example/g00753/laws.FnExactNextBit", spec := "fnExactNextBit", inPlace := ["internal/reflectlite.TypeOf", "internal/abi.NoEscape"], unfollowed := true, recurses := true, apart := false, narrowed := true }
def FnExactNextBitUptoSaid : Prop := fnExactNextBitUptoRow.holds Tryz.pinned (OpenSpec.upto fnExactNextBitSpec)

end Rows
end Go.Proofs.YtjlegnnekjcpmaaGreat
