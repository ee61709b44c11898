/-
  No cell of these rows narrows 'for every input' (looked for: loops, veiled, ifaces, maps, wideKeys, modest, calm, conditions, laid).
  DERIVED. THE GIVEN ROWS OF THIS SEAT. 5 by the template 'for every input the law returns true; each argument reads behind the call as it read before'; 0 by the template 'total and deterministic' (their statements: YthhhhfpgmolcmaaGreatTotals.lean).
  GIVEN WITH THE SEED: the statements are not yours to turn. If you find one false, say at which input.
  Laid BY PROGRAM, IN A SANDBOX (cutbox-rows.mjs): the forced cells as the released guide's own fill.sh prints them over the translation 55ddef61d69a51dd… (all of the seat's roots in one cut). By AI agents, Wed Nov 11 2026. No macro, syntax, notation, axiom, sorry.
-/
import Derived.Test.YthhhhfpgmolcmaaGreatChecked
import GoSem.Claim
import GoSem.ClaimJoined
import GoSem.ClaimMapViews
import Derived.JoinedTies
import Derived.KernelRfl
namespace Go.Proofs.YthhhhfpgmolcmaaGreat
/- THE CELL 'sum', in the pinned program and in every row, IS THE sha256 OF THE DUMP (.gsa) THAT YthhhhfpgmolcmaaGreatProg.lean LOADS. Nothing in Lean hashes anything: it is a label: what it is worth is what the hold of that sum in a sandbox is worth. -/
noncomputable def Tryz.pinned : Pinned := { name := "ythhhhfpgmolcmaagreat", sum := "55ddef61d69a51dda22a0a8f733c46e6f6b74941a3c837d1872c27fd6e9111b1", checked := Tryz.checked }
namespace Rows
def none {H : Type} : Left H := { results := [], args := [] }

/-- 'laws.FnStill': WHATEVER THE INPUT: true; the input reads as it did. -/
def fnStillSpec : ChangeSpec := { name := "fnStill", fn := fun _ => fun
  | [d] => { results := [.lit (.bool true)], args := [d] }
  | _ => none }
def fnStillRow : OpenClaim := { program := "ythhhhfpgmolcmaagreat", sum := "55ddef61d69a51dda22a0a8f733c46e6f6b74941a3c837d1872c27fd6e9111b1", func := "loop.example/g00753/laws.FnStill", spec := "fnStill", inPlace := ["internal/reflectlite.TypeOf", "internal/abi.NoEscape"], unfollowed := true, recurses := true, apart := false }
def FnStillSaid : Prop := fnStillRow.holds Tryz.pinned (OpenSpec.ofChange fnStillSpec)

/-- ITS FALSE NEIGHBOUR: 'it returns false'. Refute it at one input. -/
def fnStillWrong : ChangeSpec := { name := "fnStill", fn := fun _ => fun
  | [d] => { results := [.lit (.bool false)], args := [d] }
  | _ => none }
def FnStillWrongFalsely : Prop := fnStillRow.holds Tryz.pinned (OpenSpec.ofChange fnStillWrong)

/-- 'laws.FnExactNodeOk': WHATEVER THE INPUT: true; the input reads as it did. -/
def fnExactNodeOkSpec : ChangeSpec := { name := "fnExactNodeOk", fn := fun _ => fun
  | [d] => { results := [.lit (.bool true)], args := [d] }
  | _ => none }
def fnExactNodeOkRow : OpenClaim := { program := "ythhhhfpgmolcmaagreat", sum := "55ddef61d69a51dda22a0a8f733c46e6f6b74941a3c837d1872c27fd6e9111b1", func := "loop.example/g00753/laws.FnExactNodeOk", spec := "fnExactNodeOk", inPlace := ["internal/reflectlite.TypeOf", "internal/abi.NoEscape"], unfollowed := true, recurses := true, apart := false }
def FnExactNodeOkSaid : Prop := fnExactNodeOkRow.holds Tryz.pinned (OpenSpec.ofChange fnExactNodeOkSpec)

/-- ITS FALSE NEIGHBOUR: 'it returns false'. Refute it at one input. -/
def fnExactNodeOkWrong : ChangeSpec := { name := "fnExactNodeOk", fn := fun _ => fun
  | [d] => { results := [.lit (.bool false)], args := [d] }
  | _ => none }
def FnExactNodeOkWrongFalsely : Prop := fnExactNodeOkRow.holds Tryz.pinned (OpenSpec.ofChange fnExactNodeOkWrong)

/-- 'laws.FnExactNewNode': WHATEVER THE INPUT: true; the input reads as it did. -/
def fnExactNewNodeSpec : ChangeSpec := { name := "fnExactNewNode", fn := fun _ => fun
  | [d] => { results := [.lit (.bool true)], args := [d] }
  | _ => none }
def fnExactNewNodeRow : OpenClaim := { program := "ythhhhfpgmolcmaagreat", sum := "55ddef61d69a51dda22a0a8f733c46e6f6b74941a3c837d1872c27fd6e9111b1", func := "loop.example/g00753/laws.FnExactNewNode", spec := "fnExactNewNode", inPlace := ["internal/reflectlite.TypeOf", "internal/abi.NoEscape"], unfollowed := true, recurses := true, apart := false }
def FnExactNewNodeSaid : Prop := fnExactNewNodeRow.holds Tryz.pinned (OpenSpec.ofChange fnExactNewNodeSpec)

/-- ITS FALSE NEIGHBOUR: 'it returns false'. Refute it at one input. -/
def fnExactNewNodeWrong : ChangeSpec := { name := "fnExactNewNode", fn := fun _ => fun
  | [d] => { results := [.lit (.bool false)], args := [d] }
  | _ => none }
def FnExactNewNodeWrongFalsely : Prop := fnExactNewNodeRow.holds Tryz.pinned (OpenSpec.ofChange fnExactNewNodeWrong)

/-- 'laws.FnExactNextBit': WHATEVER THE INPUT: true; the input reads as it did. -/
def fnExactNextBitSpec : ChangeSpec := { name := "fnExactNextBit", fn := fun _ => fun
  | [d] => { results := [.lit (.bool true)], args := [d] }
  | _ => none }
def fnExactNextBitRow : OpenClaim := { program := "ythhhhfpgmolcmaagreat", sum := "55ddef61d69a51dda22a0a8f733c46e6f6b74941a3c837d1872c27fd6e9111b1", func := "loop.example/g00753/laws.FnExactNextBit", spec := "fnExactNextBit", inPlace := ["internal/reflectlite.TypeOf", "internal/abi.NoEscape"], unfollowed := true, recurses := true, apart := false }
def FnExactNextBitSaid : Prop := fnExactNextBitRow.holds Tryz.pinned (OpenSpec.ofChange fnExactNextBitSpec)

/-- ITS FALSE NEIGHBOUR: 'it returns false'. Refute it at one input. -/
def fnExactNextBitWrong : ChangeSpec := { name := "fnExactNextBit", fn := fun _ => fun
  | [d] => { results := [.lit (.bool false)], args := [d] }
  | _ => none }
def FnExactNextBitWrongFalsely : Prop := fnExactNextBitRow.holds Tryz.pinned (OpenSpec.ofChange fnExactNextBitWrong)

/-- 'laws.FnExactDrives': WHATEVER THE INPUT: true; the input reads as it did. -/
def fnExactDrivesSpec : ChangeSpec := { name := "fnExactDrives", fn := fun _ => fun
  | [d] => { results := [.lit (.bool true)], args := [d] }
  | _ => none }
def fnExactDrivesRow : OpenClaim := { program := "ythhhhfpgmolcmaagreat", sum := "55ddef61d69a51dda22a0a8f733c46e6f6b74941a3c837d1872c27fd6e9111b1", func := "loop.example/g00753/laws.FnExactDrives", spec := "fnExactDrives", inPlace := ["internal/reflectlite.TypeOf", "internal/abi.NoEscape"], unfollowed := true, recurses := true, apart := false }
def FnExactDrivesSaid : Prop := fnExactDrivesRow.holds Tryz.pinned (OpenSpec.ofChange fnExactDrivesSpec)

/-- ITS FALSE NEIGHBOUR: 'it returns false'. Refute it at one input. -/
def fnExactDrivesWrong : ChangeSpec := { name := "fnExactDrives", fn := fun _ => fun
  | [d] => { results := [.lit (.bool false)], args := [d] }
  | _ => none }
def FnExactDrivesWrongFalsely : Prop := fnExactDrivesRow.holds Tryz.pinned (OpenSpec.ofChange fnExactDrivesWrong)

/- THE SECOND FORM. 'bulk': how many values and letters a reading holds, each counted each time it is reached (what is shared counts as often as it is met; a slice's spare places count too). A statement '..UptoSaid' is the law's where the arguments, and the package variables that the reading takes, are together of bulk at most 1048576: NARROWER than '..Said'. Prove '..Said' where nothing that the law and all that it calls make is longer than what came in: it says more and counts as full. Else prove '..UptoSaid'. A law counts once. -/
mutual
def uptoBulk {H : Type} : DataW H → Nat
  | .lit (.string bytes) => bytes.length + 1
  | .lit _ => 1
  | .nil => 1
  | .ptr d => uptoBulk d + 1
  | .slice elems spare => uptoBulkAll elems + uptoBulkAll spare + 1
  | .agg parts => uptoBulkAll parts + 1
  | .iface _ d => uptoBulk d + 1
  | .map entries => uptoBulkEntries entries + 1
  | .held _ => 1
def uptoBulkAll {H : Type} : List (DataW H) → Nat
  | [] => 0
  | d :: r => uptoBulk d + uptoBulkAll r
def uptoBulkEntries {H : Type} : List (Lit × DataW H) → Nat
  | [] => 0
  | x :: r => uptoBulkEntry x + uptoBulkEntries r
def uptoBulkEntry {H : Type} : Lit × DataW H → Nat
  | (.string bytes, d) => bytes.length + uptoBulk d + 1
  | (_, d) => uptoBulk d + 1
 end
def uptoSmall : (H : Type) → List (DataW H) → Bool := fun _ ds => decide (uptoBulkAll ds ≤ 1048576)
def OpenSpec.upto (s : _root_.Go.ChangeSpec) : _root_.Go.OpenSpec := { _root_.Go.OpenSpec.ofChange s with cond := some uptoSmall }

/-- 'laws.FnStill', WHERE WHAT IT READS IS OF BULK AT MOST 1048576: true; the input reads as it did. -/
def fnStillUptoRow : OpenClaim := { program := "ythhhhfpgmolcmaagreat", sum := "55ddef61d69a51dda22a0a8f733c46e6f6b74941a3c837d1872c27fd6e9111b1", func := "loop.example/g00753/laws.FnStill", spec := "fnStill", inPlace := ["internal/reflectlite.TypeOf", "internal/abi.NoEscape"], unfollowed := true, recurses := true, apart := false, narrowed := true }
def FnStillUptoSaid : Prop := fnStillUptoRow.holds Tryz.pinned (OpenSpec.upto fnStillSpec)

/-- 'laws.FnExactNodeOk', WHERE WHAT IT READS IS OF BULK AT MOST 1048576: true; the input reads as it did. -/
def fnExactNodeOkUptoRow : OpenClaim := { program := "ythhhhfpgmolcmaagreat", sum := "55ddef61d69a51dda22a0a8f733c46e6f6b74941a3c837d1872c27fd6e9111b1", func := "loop.example/g00753/laws.FnExactNodeOk", spec := "fnExactNodeOk", inPlace := ["internal/reflectlite.TypeOf", "internal/abi.NoEscape"], unfollowed := true, recurses := true, apart := false, narrowed := true }
def FnExactNodeOkUptoSaid : Prop := fnExactNodeOkUptoRow.holds Tryz.pinned (OpenSpec.upto fnExactNodeOkSpec)

/-- 'laws.FnExactNewNode', WHERE WHAT IT READS IS OF BULK AT MOST 1048576: true; the input reads as it did. -/
def fnExactNewNodeUptoRow : OpenClaim := { program := "ythhhhfpgmolcmaagreat", sum := "55ddef61d69a51dda22a0a8f733c46e6f6b74941a3c837d1872c27fd6e9111b1", func := "loop.example/g00753/laws.FnExactNewNode", spec := "fnExactNewNode", inPlace := ["internal/reflectlite.TypeOf", "internal/abi.NoEscape"], unfollowed := true, recurses := true, apart := false, narrowed := true }
def FnExactNewNodeUptoSaid : Prop := fnExactNewNodeUptoRow.holds Tryz.pinned (OpenSpec.upto fnExactNewNodeSpec)

/-- 'laws.FnExactNextBit', WHERE WHAT IT READS IS OF BULK AT MOST 1048576: true; the input reads as it did. -/
def fnExactNextBitUptoRow : OpenClaim := { program := "ythhhhfpgmolcmaagreat", sum := "55ddef61d69a51dda22a0a8f733c46e6f6b74941a3c837d1872c27fd6e9111b1", func := "loop.example/g00753/laws.FnExactNextBit", spec := "fnExactNextBit", inPlace := ["internal/reflectlite.TypeOf", "internal/abi.NoEscape"], unfollowed := true, recurses := true, apart := false, narrowed := true }
def FnExactNextBitUptoSaid : Prop := fnExactNextBitUptoRow.holds Tryz.pinned (OpenSpec.upto fnExactNextBitSpec)

/-- 'laws.FnExactDrives', WHERE WHAT IT READS IS OF BULK AT MOST 1048576: true; the input reads as it did. -/
def fnExactDrivesUptoRow : OpenClaim := { program := "ythhhhfpgmolcmaagreat", sum := "55ddef61d69a51dda22a0a8f733c46e6f6b74941a3c837d1872c27fd6e9111b1", func := "loop.example/g00753/laws.FnExactDrives", spec := "fnExactDrives", inPlace := ["internal/reflectlite.TypeOf", "internal/abi.NoEscape"], unfollowed := true, recurses := true, apart := false, narrowed := true }
def FnExactDrivesUptoSaid : Prop := fnExactDrivesUptoRow.holds Tryz.pinned (OpenSpec.upto fnExactDrivesSpec)

end Rows
end Go.Proofs.YthhhhfpgmolcmaaGreat
