/-
  NARROWER THAN 'FOR EVERY INPUT', by the rows' own cells (each row's printed sentence says how): FnRight: laid · FnEcho: laid · FnFlipFree: laid · FnNothingLost: laid · FnParts: laid · FnNewBus: laid · FnExactSampled: laid · FnExactTicked: laid · FnExactRunFor: laid.
  DERIVED. THE GIVEN ROWS OF THIS SEAT. 9 by the template 'for every input the law returns true; each argument reads behind the call as it read before'; 0 by the template 'total and deterministic' (their statements: YtngcekegngmedaaGreatDoorTotals.lean).
  GIVEN WITH THE SEED: the statements are not yours to turn. If you find one false, say at which input.
  Laid BY PROGRAM, IN A SANDBOX (cutbox-rows.mjs): the forced cells as the released guide's own fill.sh prints them over the translation 69308d0d799ea48f… (all of the seat's roots in one cut). By AI agents, Wed Nov 11 2026. No macro, syntax, notation, axiom, sorry.
-/
import Derived.Test.YtngcekegngmedaaGreatDoorChecked
import GoSem.Claim
import GoSem.ClaimJoined
import GoSem.ClaimMapViews
import Derived.JoinedTies
import Derived.KernelRfl
namespace Go.Proofs.YtngcekegngmedaaGreatDoor
/- THE CELL 'sum', in the pinned program and in every row, IS THE sha256 OF THE DUMP (.gsa) THAT YtngcekegngmedaaGreatDoorProg.lean LOADS. Nothing in Lean hashes anything: it is a label: what it is worth is what the hold of that sum in a sandbox is worth. -/
noncomputable def Tryz.pinned : Pinned := { name := "ytngcekegngmedaagreatdoor", sum := "69308d0d799ea48f580009c86c337e184dd1f5d1d25e64049edc7e9865d8763d", checked := Tryz.checked }
namespace Rows
def none {H : Type} : Left H := { results := [], args := [] }

/- WHAT THE LISTED PACKAGE-LEVEL VARIABLES READ AS WHEN THE CALL BEGINS. Each datum BY PROGRAM (the guide's laid-datum.mjs) off the statement by which the dump's own 'gosem.cut.vars' lays the variable. In a bare row this is a premise. The card (YtngcekegngmedaaGreatDoorCards.lean) ties it to the program's text. -/
def laid_errors_errorType {H : Type} : DataW H := .iface "internal/reflectlite.rtype" (.agg [.ptr (.lit (.string [101, 114, 114, 111, 114]))])

/-- 'laws.FnRight': WHATEVER THE INPUT: true; the input reads as it did. -/
def fnRightSpec : ChangeSpec := { name := "fnRight", fn := fun _ => fun
  | [d] => { results := [.lit (.bool true)], args := [d] }
  | _ => none }
def fnRightRow : OpenClaim := { program := "ytngcekegngmedaagreatdoor", sum := "69308d0d799ea48f580009c86c337e184dd1f5d1d25e64049edc7e9865d8763d", func := "loop.example/g00753/laws.FnRight", spec := "fnRight", inPlace := ["internal/reflectlite.TypeOf", "internal/abi.NoEscape", "internal/reflectlite.ValueOf", "(internal/reflectlite.Value).Type", "(internal/reflectlite.Value).IsNil", "(internal/reflectlite.Value).Elem", "(internal/reflectlite.Value).Set"], unfollowed := true, recurses := true, named := ["errors.errorType"], apart := false, laid := [("errors.errorType", laid_errors_errorType)] }
def FnRightSaid : Prop := fnRightRow.holds Tryz.pinned (OpenSpec.ofChange fnRightSpec)

/-- ITS FALSE NEIGHBOUR: 'it returns false'. Refute it at one input. -/
def fnRightWrong : ChangeSpec := { name := "fnRight", fn := fun _ => fun
  | [d] => { results := [.lit (.bool false)], args := [d] }
  | _ => none }
def FnRightWrongFalsely : Prop := fnRightRow.holds Tryz.pinned (OpenSpec.ofChange fnRightWrong)

/-- 'laws.FnEcho': WHATEVER THE INPUT: true; the input reads as it did. -/
def fnEchoSpec : ChangeSpec := { name := "fnEcho", fn := fun _ => fun
  | [d] => { results := [.lit (.bool true)], args := [d] }
  | _ => none }
def fnEchoRow : OpenClaim := { program := "ytngcekegngmedaagreatdoor", sum := "69308d0d799ea48f580009c86c337e184dd1f5d1d25e64049edc7e9865d8763d", func := "loop.example/g00753/laws.FnEcho", spec := "fnEcho", inPlace := ["internal/reflectlite.TypeOf", "internal/abi.NoEscape", "internal/reflectlite.ValueOf", "(internal/reflectlite.Value).Type", "(internal/reflectlite.Value).IsNil", "(internal/reflectlite.Value).Elem", "(internal/reflectlite.Value).Set"], unfollowed := true, recurses := true, named := ["errors.errorType"], apart := false, laid := [("errors.errorType", laid_errors_errorType)] }
def FnEchoSaid : Prop := fnEchoRow.holds Tryz.pinned (OpenSpec.ofChange fnEchoSpec)

/-- ITS FALSE NEIGHBOUR: 'it returns false'. Refute it at one input. -/
def fnEchoWrong : ChangeSpec := { name := "fnEcho", fn := fun _ => fun
  | [d] => { results := [.lit (.bool false)], args := [d] }
  | _ => none }
def FnEchoWrongFalsely : Prop := fnEchoRow.holds Tryz.pinned (OpenSpec.ofChange fnEchoWrong)

/-- 'laws.FnFlipFree': WHATEVER THE INPUT: true; the input reads as it did. -/
def fnFlipFreeSpec : ChangeSpec := { name := "fnFlipFree", fn := fun _ => fun
  | [d] => { results := [.lit (.bool true)], args := [d] }
  | _ => none }
def fnFlipFreeRow : OpenClaim := { program := "ytngcekegngmedaagreatdoor", sum := "69308d0d799ea48f580009c86c337e184dd1f5d1d25e64049edc7e9865d8763d", func := "loop.example/g00753/laws.FnFlipFree", spec := "fnFlipFree", inPlace := ["internal/reflectlite.TypeOf", "internal/abi.NoEscape", "internal/reflectlite.ValueOf", "(internal/reflectlite.Value).Type", "(internal/reflectlite.Value).IsNil", "(internal/reflectlite.Value).Elem", "(internal/reflectlite.Value).Set"], unfollowed := true, recurses := true, named := ["errors.errorType"], apart := false, laid := [("errors.errorType", laid_errors_errorType)] }
def FnFlipFreeSaid : Prop := fnFlipFreeRow.holds Tryz.pinned (OpenSpec.ofChange fnFlipFreeSpec)

/-- ITS FALSE NEIGHBOUR: 'it returns false'. Refute it at one input. -/
def fnFlipFreeWrong : ChangeSpec := { name := "fnFlipFree", fn := fun _ => fun
  | [d] => { results := [.lit (.bool false)], args := [d] }
  | _ => none }
def FnFlipFreeWrongFalsely : Prop := fnFlipFreeRow.holds Tryz.pinned (OpenSpec.ofChange fnFlipFreeWrong)

/-- 'laws.FnNothingLost': WHATEVER THE INPUT: true; the input reads as it did. -/
def fnNothingLostSpec : ChangeSpec := { name := "fnNothingLost", fn := fun _ => fun
  | [d] => { results := [.lit (.bool true)], args := [d] }
  | _ => none }
def fnNothingLostRow : OpenClaim := { program := "ytngcekegngmedaagreatdoor", sum := "69308d0d799ea48f580009c86c337e184dd1f5d1d25e64049edc7e9865d8763d", func := "loop.example/g00753/laws.FnNothingLost", spec := "fnNothingLost", inPlace := ["internal/reflectlite.TypeOf", "internal/abi.NoEscape", "internal/reflectlite.ValueOf", "(internal/reflectlite.Value).Type", "(internal/reflectlite.Value).IsNil", "(internal/reflectlite.Value).Elem", "(internal/reflectlite.Value).Set"], unfollowed := true, recurses := true, named := ["errors.errorType"], apart := false, laid := [("errors.errorType", laid_errors_errorType)] }
def FnNothingLostSaid : Prop := fnNothingLostRow.holds Tryz.pinned (OpenSpec.ofChange fnNothingLostSpec)

/-- ITS FALSE NEIGHBOUR: 'it returns false'. Refute it at one input. -/
def fnNothingLostWrong : ChangeSpec := { name := "fnNothingLost", fn := fun _ => fun
  | [d] => { results := [.lit (.bool false)], args := [d] }
  | _ => none }
def FnNothingLostWrongFalsely : Prop := fnNothingLostRow.holds Tryz.pinned (OpenSpec.ofChange fnNothingLostWrong)

/-- 'laws.FnParts': WHATEVER THE INPUT: true; the input reads as it did. -/
def fnPartsSpec : ChangeSpec := { name := "fnParts", fn := fun _ => fun
  | [d] => { results := [.lit (.bool true)], args := [d] }
  | _ => none }
def fnPartsRow : OpenClaim := { program := "ytngcekegngmedaagreatdoor", sum := "69308d0d799ea48f580009c86c337e184dd1f5d1d25e64049edc7e9865d8763d", func := "loop.example/g00753/laws.FnParts", spec := "fnParts", inPlace := ["internal/reflectlite.TypeOf", "internal/abi.NoEscape", "internal/reflectlite.ValueOf", "(internal/reflectlite.Value).Type", "(internal/reflectlite.Value).IsNil", "(internal/reflectlite.Value).Elem", "(internal/reflectlite.Value).Set"], unfollowed := true, recurses := true, named := ["errors.errorType"], apart := false, laid := [("errors.errorType", laid_errors_errorType)] }
def FnPartsSaid : Prop := fnPartsRow.holds Tryz.pinned (OpenSpec.ofChange fnPartsSpec)

/-- ITS FALSE NEIGHBOUR: 'it returns false'. Refute it at one input. -/
def fnPartsWrong : ChangeSpec := { name := "fnParts", fn := fun _ => fun
  | [d] => { results := [.lit (.bool false)], args := [d] }
  | _ => none }
def FnPartsWrongFalsely : Prop := fnPartsRow.holds Tryz.pinned (OpenSpec.ofChange fnPartsWrong)

/-- 'laws.FnNewBus': WHATEVER THE INPUT: true; the input reads as it did. -/
def fnNewBusSpec : ChangeSpec := { name := "fnNewBus", fn := fun _ => fun
  | [d] => { results := [.lit (.bool true)], args := [d] }
  | _ => none }
def fnNewBusRow : OpenClaim := { program := "ytngcekegngmedaagreatdoor", sum := "69308d0d799ea48f580009c86c337e184dd1f5d1d25e64049edc7e9865d8763d", func := "loop.example/g00753/laws.FnNewBus", spec := "fnNewBus", inPlace := ["internal/reflectlite.TypeOf", "internal/abi.NoEscape", "internal/reflectlite.ValueOf", "(internal/reflectlite.Value).Type", "(internal/reflectlite.Value).IsNil", "(internal/reflectlite.Value).Elem", "(internal/reflectlite.Value).Set"], unfollowed := true, recurses := true, named := ["errors.errorType"], apart := false, laid := [("errors.errorType", laid_errors_errorType)] }
def FnNewBusSaid : Prop := fnNewBusRow.holds Tryz.pinned (OpenSpec.ofChange fnNewBusSpec)

/-- ITS FALSE NEIGHBOUR: 'it returns false'. Refute it at one input. -/
def fnNewBusWrong : ChangeSpec := { name := "fnNewBus", fn := fun _ => fun
  | [d] => { results := [.lit (.bool false)], args := [d] }
  | _ => none }
def FnNewBusWrongFalsely : Prop := fnNewBusRow.holds Tryz.pinned (OpenSpec.ofChange fnNewBusWrong)

/-- 'laws.FnExactSampled': WHATEVER THE INPUT: true; the input reads as it did. -/
def fnExactSampledSpec : ChangeSpec := { name := "fnExactSampled", fn := fun _ => fun
  | [d1, d2] => { results := [.lit (.bool true)], args := [d1, d2] }
  | _ => none }
def fnExactSampledRow : OpenClaim := { program := "ytngcekegngmedaagreatdoor", sum := "69308d0d799ea48f580009c86c337e184dd1f5d1d25e64049edc7e9865d8763d", func := "loop.example/g00753/laws.FnExactSampled", spec := "fnExactSampled", inPlace := ["internal/reflectlite.TypeOf", "internal/abi.NoEscape", "internal/reflectlite.ValueOf", "(internal/reflectlite.Value).Type", "(internal/reflectlite.Value).IsNil", "(internal/reflectlite.Value).Elem", "(internal/reflectlite.Value).Set"], unfollowed := true, recurses := true, named := ["errors.errorType"], apart := false, laid := [("errors.errorType", laid_errors_errorType)] }
def FnExactSampledSaid : Prop := fnExactSampledRow.holds Tryz.pinned (OpenSpec.ofChange fnExactSampledSpec)

/-- ITS FALSE NEIGHBOUR: 'it returns false'. Refute it at one input. -/
def fnExactSampledWrong : ChangeSpec := { name := "fnExactSampled", fn := fun _ => fun
  | [d1, d2] => { results := [.lit (.bool false)], args := [d1, d2] }
  | _ => none }
def FnExactSampledWrongFalsely : Prop := fnExactSampledRow.holds Tryz.pinned (OpenSpec.ofChange fnExactSampledWrong)

/-- 'laws.FnExactTicked': WHATEVER THE INPUT: true; the input reads as it did. -/
def fnExactTickedSpec : ChangeSpec := { name := "fnExactTicked", fn := fun _ => fun
  | [d1, d2] => { results := [.lit (.bool true)], args := [d1, d2] }
  | _ => none }
def fnExactTickedRow : OpenClaim := { program := "ytngcekegngmedaagreatdoor", sum := "69308d0d799ea48f580009c86c337e184dd1f5d1d25e64049edc7e9865d8763d", func := "loop.example/g00753/laws.FnExactTicked", spec := "fnExactTicked", inPlace := ["internal/reflectlite.TypeOf", "internal/abi.NoEscape", "internal/reflectlite.ValueOf", "(internal/reflectlite.Value).Type", "(internal/reflectlite.Value).IsNil", "(internal/reflectlite.Value).Elem", "(internal/reflectlite.Value).Set"], unfollowed := true, recurses := true, named := ["errors.errorType"], apart := false, laid := [("errors.errorType", laid_errors_errorType)] }
def FnExactTickedSaid : Prop := fnExactTickedRow.holds Tryz.pinned (OpenSpec.ofChange fnExactTickedSpec)

/-- ITS FALSE NEIGHBOUR: 'it returns false'. Refute it at one input. -/
def fnExactTickedWrong : ChangeSpec := { name := "fnExactTicked", fn := fun _ => fun
  | [d1, d2] => { results := [.lit (.bool false)], args := [d1, d2] }
  | _ => none }
def FnExactTickedWrongFalsely : Prop := fnExactTickedRow.holds Tryz.pinned (OpenSpec.ofChange fnExactTickedWrong)

/-- 'laws.FnExactRunFor': WHATEVER THE INPUT: true; the input reads as it did. -/
def fnExactRunForSpec : ChangeSpec := { name := "fnExactRunFor", fn := fun _ => fun
  | [d1, d2] => { results := [.lit (.bool true)], args := [d1, d2] }
  | _ => none }
def fnExactRunForRow : OpenClaim := { program := "ytngcekegngmedaagreatdoor", sum := "69308d0d799ea48f580009c86c337e184dd1f5d1d25e64049edc7e9865d8763d", func := "loop.example/g00753/laws.FnExactRunFor", spec := "fnExactRunFor", inPlace := ["internal/reflectlite.TypeOf", "internal/abi.NoEscape", "internal/reflectlite.ValueOf", "(internal/reflectlite.Value).Type", "(internal/reflectlite.Value).IsNil", "(internal/reflectlite.Value).Elem", "(internal/reflectlite.Value).Set"], unfollowed := true, recurses := true, named := ["errors.errorType"], apart := false, laid := [("errors.errorType", laid_errors_errorType)] }
def FnExactRunForSaid : Prop := fnExactRunForRow.holds Tryz.pinned (OpenSpec.ofChange fnExactRunForSpec)

/-- ITS FALSE NEIGHBOUR: 'it returns false'. Refute it at one input. -/
def fnExactRunForWrong : ChangeSpec := { name := "fnExactRunFor", fn := fun _ => fun
  | [d1, d2] => { results := [.lit (.bool false)], args := [d1, d2] }
  | _ => none }
def FnExactRunForWrongFalsely : Prop := fnExactRunForRow.holds Tryz.pinned (OpenSpec.ofChange fnExactRunForWrong)

/- THE SECOND FORM. 'bulk': how many values and letters a reading holds, each counted each time it is reached (what is shared counts as often as it is met; a slice's spare places count too). A statement '..UptoSaid' is the law's where the arguments, and the package variables that the reading takes, are together of bulk at most 1048576: NARROWER than '..Said'. Prove '..Said' where nothing that the law and all that it calls make is longer than what came in: it says more and counts as full. Else prove '..UptoSaid'. A law counts once. -/
mutual
def uptoBulk {H : Type} : DataW H → Nat
  | .lit (.string bytes) => bytes.length + 1
  | .lit _ => 1
  | .nil => 1
  | .ptr d => uptoBulk d + 1
  | .slice elems spare => uptoBulkAll elems + uptoBulkAll spare + 1
  | .agg parts => uptoBulkAll parts + 1
  | .iface _ d => uptoBulk d + 1
  | .map entries => uptoBulkEntries entries + 1
  | .held _ => 1
def uptoBulkAll {H : Type} : List (DataW H) → Nat
  | [] => 0
  | d :: r => uptoBulk d + uptoBulkAll r
def uptoBulkEntries {H : Type} : List (Lit × DataW H) → Nat
  | [] => 0
  | x :: r => uptoBulkEntry x + uptoBulkEntries r
def uptoBulkEntry {H : Type} : Lit × DataW H → Nat
  | (.string bytes, d) => bytes.length + uptoBulk d + 1
  | (_, d) => uptoBulk d + 1
 end
def uptoSmall : (H : Type) → List (DataW H) → Bool := fun _ ds => decide (uptoBulkAll ds ≤ 1048576)
def OpenSpec.upto (s : _root_.Go.ChangeSpec) : _root_.Go.OpenSpec := { _root_.Go.OpenSpec.ofChange s with cond := some uptoSmall }

/-- 'laws.FnRight', WHERE WHAT IT READS IS OF BULK AT MOST 1048576: true; the input reads as it did. -/
def fnRightUptoRow : OpenClaim := { program := "ytngcekegngmedaagreatdoor", sum := "69308d0d799ea48f580009c86c337e184dd1f5d1d25e64049edc7e9865d8763d", func := "loop.example/g00753/laws.FnRight", spec := "fnRight", inPlace := ["internal/reflectlite.TypeOf", "internal/abi.NoEscape", "internal/reflectlite.ValueOf", "(internal/reflectlite.Value).Type", "(internal/reflectlite.Value).IsNil", "(internal/reflectlite.Value).Elem", "(internal/reflectlite.Value).Set"], unfollowed := true, recurses := true, named := ["errors.errorType"], apart := false, laid := [("errors.errorType", laid_errors_errorType)], narrowed := true }
def FnRightUptoSaid : Prop := fnRightUptoRow.holds Tryz.pinned (OpenSpec.upto fnRightSpec)

/-- 'laws.FnEcho', WHERE WHAT IT READS IS OF BULK AT MOST 1048576: true; the input reads as it did. -/
def fnEchoUptoRow : OpenClaim := { program := "ytngcekegngmedaagreatdoor", sum := "69308d0d799ea48f580009c86c337e184dd1f5d1d25e64049edc7e9865d8763d", func := "loop.example/g00753/laws.FnEcho", spec := "fnEcho", inPlace := ["internal/reflectlite.TypeOf", "internal/abi.NoEscape", "internal/reflectlite.ValueOf", "(internal/reflectlite.Value).Type", "(internal/reflectlite.Value).IsNil", "(internal/reflectlite.Value).Elem", "(internal/reflectlite.Value).Set"], unfollowed := true, recurses := true, named := ["errors.errorType"], apart := false, laid := [("errors.errorType", laid_errors_errorType)], narrowed := true }
def FnEchoUptoSaid : Prop := fnEchoUptoRow.holds Tryz.pinned (OpenSpec.upto fnEchoSpec)

/-- 'laws.FnFlipFree', WHERE WHAT IT READS IS OF BULK AT MOST 1048576: true; the input reads as it did. -/
def fnFlipFreeUptoRow : OpenClaim := { program := "ytngcekegngmedaagreatdoor", sum := "69308d0d799ea48f580009c86c337e184dd1f5d1d25e64049edc7e9865d8763d", func := "loop.example/g00753/laws.FnFlipFree", spec := "fnFlipFree", inPlace := ["internal/reflectlite.TypeOf", "internal/abi.NoEscape", "internal/reflectlite.ValueOf", "(internal/reflectlite.Value).Type", "(internal/reflectlite.Value).IsNil", "(internal/reflectlite.Value).Elem", "(internal/reflectlite.Value).Set"], unfollowed := true, recurses := true, named := ["errors.errorType"], apart := false, laid := [("errors.errorType", laid_errors_errorType)], narrowed := true }
def FnFlipFreeUptoSaid : Prop := fnFlipFreeUptoRow.holds Tryz.pinned (OpenSpec.upto fnFlipFreeSpec)

/-- 'laws.FnNothingLost', WHERE WHAT IT READS IS OF BULK AT MOST 1048576: true; the input reads as it did. -/
def fnNothingLostUptoRow : OpenClaim := { program := "ytngcekegngmedaagreatdoor", sum := "69308d0d799ea48f580009c86c337e184dd1f5d1d25e64049edc7e9865d8763d", func := "loop.example/g00753/laws.FnNothingLost", spec := "fnNothingLost", inPlace := ["internal/reflectlite.TypeOf", "internal/abi.NoEscape", "internal/reflectlite.ValueOf", "(internal/reflectlite.Value).Type", "(internal/reflectlite.Value).IsNil", "(internal/reflectlite.Value).Elem", "(internal/reflectlite.Value).Set"], unfollowed := true, recurses := true, named := ["errors.errorType"], apart := false, laid := [("errors.errorType", laid_errors_errorType)], narrowed := true }
def FnNothingLostUptoSaid : Prop := fnNothingLostUptoRow.holds Tryz.pinned (OpenSpec.upto fnNothingLostSpec)

/-- 'laws.FnParts', WHERE WHAT IT READS IS OF BULK AT MOST 1048576: true; the input reads as it did. -/
def fnPartsUptoRow : OpenClaim := { program := "ytngcekegngmedaagreatdoor", sum := "69308d0d799ea48f580009c86c337e184dd1f5d1d25e64049edc7e9865d8763d", func := "loop.example/g00753/laws.FnParts", spec := "fnParts", inPlace := ["internal/reflectlite.TypeOf", "internal/abi.NoEscape", "internal/reflectlite.ValueOf", "(internal/reflectlite.Value).Type", "(internal/reflectlite.Value).IsNil", "(internal/reflectlite.Value).Elem", "(internal/reflectlite.Value).Set"], unfollowed := true, recurses := true, named := ["errors.errorType"], apart := false, laid := [("errors.errorType", laid_errors_errorType)], narrowed := true }
def FnPartsUptoSaid : Prop := fnPartsUptoRow.holds Tryz.pinned (OpenSpec.upto fnPartsSpec)

/-- 'laws.FnNewBus', WHERE WHAT IT READS IS OF BULK AT MOST 1048576: true; the input reads as it did. -/
def fnNewBusUptoRow : OpenClaim := { program := "ytngcekegngmedaagreatdoor", sum := "69308d0d799ea48f580009c86c337e184dd1f5d1d25e64049edc7e9865d8763d", func := "loop.example/g00753/laws.FnNewBus", spec := "fnNewBus", inPlace := ["internal/reflectlite.TypeOf", "internal/abi.NoEscape", "internal/reflectlite.ValueOf", "(internal/reflectlite.Value).Type", "(internal/reflectlite.Value).IsNil", "(internal/reflectlite.Value).Elem", "(internal/reflectlite.Value).Set"], unfollowed := true, recurses := true, named := ["errors.errorType"], apart := false, laid := [("errors.errorType", laid_errors_errorType)], narrowed := true }
def FnNewBusUptoSaid : Prop := fnNewBusUptoRow.holds Tryz.pinned (OpenSpec.upto fnNewBusSpec)

/-- 'laws.FnExactSampled', WHERE WHAT IT READS IS OF BULK AT MOST 1048576: true; the input reads as it did. -/
def fnExactSampledUptoRow : OpenClaim := { program := "ytngcekegngmedaagreatdoor", sum := "69308d0d799ea48f580009c86c337e184dd1f5d1d25e64049edc7e9865d8763d", func := "loop.example/g00753/laws.FnExactSampled", spec := "fnExactSampled", inPlace := ["internal/reflectlite.TypeOf", "internal/abi.NoEscape", "internal/reflectlite.ValueOf", "(internal/reflectlite.Value).Type", "(internal/reflectlite.Value).IsNil", "(internal/reflectlite.Value).Elem", "(internal/reflectlite.Value).Set"], unfollowed := true, recurses := true, named := ["errors.errorType"], apart := false, laid := [("errors.errorType", laid_errors_errorType)], narrowed := true }
def FnExactSampledUptoSaid : Prop := fnExactSampledUptoRow.holds Tryz.pinned (OpenSpec.upto fnExactSampledSpec)

/-- 'laws.FnExactTicked', WHERE WHAT IT READS IS OF BULK AT MOST 1048576: true; the input reads as it did. -/
def fnExactTickedUptoRow : OpenClaim := { program := "ytngcekegngmedaagreatdoor", sum := "69308d0d799ea48f580009c86c337e184dd1f5d1d25e64049edc7e9865d8763d", func := "loop.example/g00753/laws.FnExactTicked", spec := "fnExactTicked", inPlace := ["internal/reflectlite.TypeOf", "internal/abi.NoEscape", "internal/reflectlite.ValueOf", "(internal/reflectlite.Value).Type", "(internal/reflectlite.Value).IsNil", "(internal/reflectlite.Value).Elem", "(internal/reflectlite.Value).Set"], unfollowed := true, recurses := true, named := ["errors.errorType"], apart := false, laid := [("errors.errorType", laid_errors_errorType)], narrowed := true }
def FnExactTickedUptoSaid : Prop := fnExactTickedUptoRow.holds Tryz.pinned (OpenSpec.upto fnExactTickedSpec)

/-- 'laws.FnExactRunFor', WHERE WHAT IT READS IS OF BULK AT MOST 1048576: true; the input reads as it did. -/
def fnExactRunForUptoRow : OpenClaim := { program := "ytngcekegngmedaagreatdoor", sum := "69308d0d799ea48f580009c86c337e184dd1f5d1d25e64049edc7e9865d8763d", func := "loop.example/g00753/laws.FnExactRunFor", spec := "fnExactRunFor", inPlace := ["internal/reflectlite.TypeOf", "internal/abi.NoEscape", "internal/reflectlite.ValueOf", "(internal/reflectlite.Value).Type", "(internal/reflectlite.Value).IsNil", "(internal/reflectlite.Value).Elem", "(internal/reflectlite.Value).Set"], unfollowed := true, recurses := true, named := ["errors.errorType"], apart := false, laid := [("errors.errorType", laid_errors_errorType)], narrowed := true }
def FnExactRunForUptoSaid : Prop := fnExactRunForUptoRow.holds Tryz.pinned (OpenSpec.upto fnExactRunForSpec)

end Rows
end Go.Proofs.YtngcekegngmedaaGreatDoor
