/-
  No cell of these rows narrows 'for every input' (looked for: loops, veiled, ifaces, maps, wideKeys, modest, calm, conditions, laid).
  DERIVED. THE GIVEN ROWS OF THIS SEAT. 5 by the template 'for every input the law returns true; each argument reads behind the call as it read before'; 0 by the template 'total and deterministic' (their statements: YthnpimflohcicaaTotals.lean).
  GIVEN WITH THE SEED: the statements are not yours to turn. If you find one false, say at which input.
  Laid BY PROGRAM, IN A SANDBOX (cutbox-rows.mjs): the forced cells as the released guide's own fill.sh prints them over the translation 0cd87e84b7f241ff… (all of the seat's roots in one cut). By AI agents, Wed Nov 11 2026. No macro, syntax, notation, axiom, sorry.
-/
import Derived.Test.YthnpimflohcicaaChecked
import GoSem.Claim
import GoSem.ClaimJoined
import GoSem.ClaimMapViews
import Derived.JoinedTies
import Derived.KernelRfl
namespace Go.Proofs.Ythnpimflohcicaa
/- THE CELL 'sum', in the pinned program and in every row, IS THE sha256 OF THE DUMP (.gsa) THAT YthnpimflohcicaaProg.lean LOADS. Nothing in Lean hashes anything: it is a label: what it is worth is what the hold of that sum in a sandbox is worth. -/
noncomputable def Try.pinned : Pinned := { name := "ythnpimflohcicaa", sum := "0cd87e84b7f241ff8930c43b5eadc88974add9ee9be0a532adebab6b04741613", checked := Try.checked }
namespace Rows
def none {H : Type} : Left H := { results := [], args := [] }

/-- 'laws.FnStuff': WHATEVER THE INPUT: true; the input reads as it did. -/
def fnStuffSpec : ChangeSpec := { name := "fnStuff", fn := fun _ => fun
  | [d] => { results := [.lit (.bool true)], args := [d] }
  | _ => none }
def fnStuffRow : OpenClaim := { program := "ythnpimflohcicaa", sum := "0cd87e84b7f241ff8930c43b5eadc88974add9ee9be0a532adebab6b04741613", func := "loop.example/g00753/laws.FnStuff", spec := "fnStuff", inPlace := ["internal/abi.NoEscape"], unfollowed := true, recurses := true, apart := false }
def FnStuffSaid : Prop := fnStuffRow.holds Try.pinned (OpenSpec.ofChange fnStuffSpec)

/-- ITS FALSE NEIGHBOUR: 'it returns false'. Refute it at one input. -/
def fnStuffWrong : ChangeSpec := { name := "fnStuff", fn := fun _ => fun
  | [d] => { results := [.lit (.bool false)], args := [d] }
  | _ => none }
def FnStuffWrongFalsely : Prop := fnStuffRow.holds Try.pinned (OpenSpec.ofChange fnStuffWrong)

/-- 'laws.FnUnstuff': WHATEVER THE INPUT: true; the input reads as it did. -/
def fnUnstuffSpec : ChangeSpec := { name := "fnUnstuff", fn := fun _ => fun
  | [d] => { results := [.lit (.bool true)], args := [d] }
  | _ => none }
def fnUnstuffRow : OpenClaim := { program := "ythnpimflohcicaa", sum := "0cd87e84b7f241ff8930c43b5eadc88974add9ee9be0a532adebab6b04741613", func := "loop.example/g00753/laws.FnUnstuff", spec := "fnUnstuff", inPlace := ["internal/abi.NoEscape"], unfollowed := true, recurses := true, apart := false }
def FnUnstuffSaid : Prop := fnUnstuffRow.holds Try.pinned (OpenSpec.ofChange fnUnstuffSpec)

/-- ITS FALSE NEIGHBOUR: 'it returns false'. Refute it at one input. -/
def fnUnstuffWrong : ChangeSpec := { name := "fnUnstuff", fn := fun _ => fun
  | [d] => { results := [.lit (.bool false)], args := [d] }
  | _ => none }
def FnUnstuffWrongFalsely : Prop := fnUnstuffRow.holds Try.pinned (OpenSpec.ofChange fnUnstuffWrong)

/-- 'laws.FnExactStuffed': WHATEVER THE INPUT: true; the input reads as it did. -/
def fnExactStuffedSpec : ChangeSpec := { name := "fnExactStuffed", fn := fun _ => fun
  | [d] => { results := [.lit (.bool true)], args := [d] }
  | _ => none }
def fnExactStuffedRow : OpenClaim := { program := "ythnpimflohcicaa", sum := "0cd87e84b7f241ff8930c43b5eadc88974add9ee9be0a532adebab6b04741613", func := "loop.example/g00753/laws.FnExactStuffed", spec := "fnExactStuffed", inPlace := ["internal/abi.NoEscape"], unfollowed := true, recurses := true, apart := false }
def FnExactStuffedSaid : Prop := fnExactStuffedRow.holds Try.pinned (OpenSpec.ofChange fnExactStuffedSpec)

/-- ITS FALSE NEIGHBOUR: 'it returns false'. Refute it at one input. -/
def fnExactStuffedWrong : ChangeSpec := { name := "fnExactStuffed", fn := fun _ => fun
  | [d] => { results := [.lit (.bool false)], args := [d] }
  | _ => none }
def FnExactStuffedWrongFalsely : Prop := fnExactStuffedRow.holds Try.pinned (OpenSpec.ofChange fnExactStuffedWrong)

/-- 'laws.FnExactUnstuffed': WHATEVER THE INPUT: true; the input reads as it did. -/
def fnExactUnstuffedSpec : ChangeSpec := { name := "fnExactUnstuffed", fn := fun _ => fun
  | [d] => { results := [.lit (.bool true)], args := [d] }
  | _ => none }
def fnExactUnstuffedRow : OpenClaim := { program := "ythnpimflohcicaa", sum := "0cd87e84b7f241ff8930c43b5eadc88974add9ee9be0a532adebab6b04741613", func := "loop.example/g00753/laws.FnExactUnstuffed", spec := "fnExactUnstuffed", inPlace := ["internal/abi.NoEscape"], unfollowed := true, recurses := true, apart := false }
def FnExactUnstuffedSaid : Prop := fnExactUnstuffedRow.holds Try.pinned (OpenSpec.ofChange fnExactUnstuffedSpec)

/-- ITS FALSE NEIGHBOUR: 'it returns false'. Refute it at one input. -/
def fnExactUnstuffedWrong : ChangeSpec := { name := "fnExactUnstuffed", fn := fun _ => fun
  | [d] => { results := [.lit (.bool false)], args := [d] }
  | _ => none }
def FnExactUnstuffedWrongFalsely : Prop := fnExactUnstuffedRow.holds Try.pinned (OpenSpec.ofChange fnExactUnstuffedWrong)

/-- 'laws.FnExactMostStuffs': WHATEVER THE INPUT: true; the input reads as it did. -/
def fnExactMostStuffsSpec : ChangeSpec := { name := "fnExactMostStuffs", fn := fun _ => fun
  | [d] => { results := [.lit (.bool true)], args := [d] }
  | _ => none }
def fnExactMostStuffsRow : OpenClaim := { program := "ythnpimflohcicaa", sum := "0cd87e84b7f241ff8930c43b5eadc88974add9ee9be0a532adebab6b04741613", func := "loop.example/g00753/laws.FnExactMostStuffs", spec := "fnExactMostStuffs", apart := false }
def FnExactMostStuffsSaid : Prop := fnExactMostStuffsRow.holds Try.pinned (OpenSpec.ofChange fnExactMostStuffsSpec)

/-- ITS FALSE NEIGHBOUR: 'it returns false'. Refute it at one input. -/
def fnExactMostStuffsWrong : ChangeSpec := { name := "fnExactMostStuffs", fn := fun _ => fun
  | [d] => { results := [.lit (.bool false)], args := [d] }
  | _ => none }
def FnExactMostStuffsWrongFalsely : Prop := fnExactMostStuffsRow.holds Try.pinned (OpenSpec.ofChange fnExactMostStuffsWrong)

/- THE SECOND FORM. 'bulk': how many values and letters a reading holds, each counted each time it is reached (what is shared counts as often as it is met; a slice's spare places count too). A statement '..UptoSaid' is the law's where the arguments, and the package variables that the reading takes, are together of bulk at most 1048576: NARROWER than '..Said'. Prove '..Said' where nothing that the law and all that it calls make is longer than what came in: it says more and counts as full. Else prove '..UptoSaid'. A law counts once. -/
mutual
def uptoBulk {H : Type} : DataW H → Nat
  | .lit (.string bytes) => bytes.length + 1
  | .lit _ => 1
  | .nil => 1
  | .ptr d => uptoBulk d + 1
  | .slice elems spare => uptoBulkAll elems + uptoBulkAll spare + 1
  | .agg parts => uptoBulkAll parts + 1
  | .iface _ d => uptoBulk d + 1
  | .map entries => uptoBulkEntries entries + 1
  | .held _ => 1
def uptoBulkAll {H : Type} : List (DataW H) → Nat
  | [] => 0
  | d :: r => uptoBulk d + uptoBulkAll r
def uptoBulkEntries {H : Type} : List (Lit × DataW H) → Nat
  | [] => 0
  | x :: r => uptoBulkEntry x + uptoBulkEntries r
def uptoBulkEntry {H : Type} : Lit × DataW H → Nat
  | (.string bytes, d) => bytes.length + uptoBulk d + 1
  | (_, d) => uptoBulk d + 1
 end
def uptoSmall : (H : Type) → List (DataW H) → Bool := fun _ ds => decide (uptoBulkAll ds ≤ 1048576)
def OpenSpec.upto (s : _root_.Go.ChangeSpec) : _root_.Go.OpenSpec := { _root_.Go.OpenSpec.ofChange s with cond := some uptoSmall }

/-- 'laws.FnStuff', WHERE WHAT IT READS IS OF BULK AT MOST 1048576: true; the input reads as it did. -/
def fnStuffUptoRow : OpenClaim := { program := "ythnpimflohcicaa", sum := "0cd87e84b7f241ff8930c43b5eadc88974add9ee9be0a532adebab6b04741613", func := "loop.example/g00753/laws.FnStuff", spec := "fnStuff", inPlace := ["internal/abi.NoEscape"], unfollowed := true, recurses := true, apart := false, narrowed := true }
def FnStuffUptoSaid : Prop := fnStuffUptoRow.holds Try.pinned (OpenSpec.upto fnStuffSpec)

/-- 'laws.FnUnstuff', WHERE WHAT IT READS IS OF BULK AT MOST 1048576: true; the input reads as it did. -/
def fnUnstuffUptoRow : OpenClaim := { program := "ythnpimflohcicaa", sum := "0cd87e84b7f241ff8930c43b5eadc88974add9ee9be0a532adebab6b04741613", func := "loop.example/g00753/laws.FnUnstuff", spec := "fnUnstuff", inPlace := ["internal/abi.NoEscape"], unfollowed := true, recurses := true, apart := false, narrowed := true }
def FnUnstuffUptoSaid : Prop := fnUnstuffUptoRow.holds Try.pinned (OpenSpec.upto fnUnstuffSpec)

/-- 'laws.FnExactStuffed', WHERE WHAT IT READS IS OF BULK AT MOST 1048576: true; the input reads as it did. -/
def fnExactStuffedUptoRow : OpenClaim := { program := "ythnpimflohcicaa", sum := "0cd87e84b7f241ff8930c43b5eadc88974add9ee9be0a532adebab6b04741613", func := "loop.example/g00753/laws.FnExactStuffed", spec := "fnExactStuffed", inPlace := ["internal/abi.NoEscape"], unfollowed := true, recurses := true, apart := false, narrowed := true }
def FnExactStuffedUptoSaid : Prop := fnExactStuffedUptoRow.holds Try.pinned (OpenSpec.upto fnExactStuffedSpec)

/-- 'laws.FnExactUnstuffed', WHERE WHAT IT READS IS OF BULK AT MOST 1048576: true; the input reads as it did. -/
def fnExactUnstuffedUptoRow : OpenClaim := { program := "ythnpimflohcicaa", sum := "0cd87e84b7f241ff8930c43b5eadc88974add9ee9be0a532adebab6b04741613", func := "loop.example/g00753/laws.FnExactUnstuffed", spec := "fnExactUnstuffed", inPlace := ["internal/abi.NoEscape"], unfollowed := true, recurses := true, apart := false, narrowed := true }
def FnExactUnstuffedUptoSaid : Prop := fnExactUnstuffedUptoRow.holds Try.pinned (OpenSpec.upto fnExactUnstuffedSpec)

/-- 'laws.FnExactMostStuffs', WHERE WHAT IT READS IS OF BULK AT MOST 1048576: true; the input reads as it did. -/
def fnExactMostStuffsUptoRow : OpenClaim := { program := "ythnpimflohcicaa", sum := "0cd87e84b7f241ff8930c43b5eadc88974add9ee9be0a532adebab6b04741613", func := "loop.example/g00753/laws.FnExactMostStuffs", spec := "fnExactMostStuffs", apart := false, narrowed := true }
def FnExactMostStuffsUptoSaid : Prop := fnExactMostStuffsUptoRow.holds Try.pinned (OpenSpec.upto fnExactMostStuffsSpec)

end Rows
end Go.Proofs.Ythnpimflohcicaa
