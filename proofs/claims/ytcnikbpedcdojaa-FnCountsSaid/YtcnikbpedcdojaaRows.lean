/-
  No cell of these rows narrows 'for every input' (looked for: loops, veiled, ifaces, maps, wideKeys, modest, calm, conditions, laid).
  DERIVED. THE GIVEN ROWS OF THIS SEAT. 7 by the template 'for every input the law returns true; each argument reads behind the call as it read before'; 0 by the template 'total and deterministic' (their statements: YtcnikbpedcdojaaTotals.lean).
  GIVEN WITH THE SEED: the statements are not yours to turn. If you find one false, say at which input.
  Laid BY PROGRAM, IN A SANDBOX (cutbox-rows.mjs): the forced cells as the released guide's own fill.sh prints them over the translation 0856ed270ac40f1d… (all of the seat's roots in one cut). By AI agents, Wed Nov 11 2026. No macro, syntax, notation, axiom, sorry.
-/
import Derived.Test.YtcnikbpedcdojaaChecked
import GoSem.Claim
import GoSem.ClaimJoined
import GoSem.ClaimMapViews
import Derived.JoinedTies
import Derived.KernelRfl
namespace Go.Proofs.Ytcnikbpedcdojaa
/- THE CELL 'sum', in the pinned program and in every row, IS THE sha256 OF THE DUMP (.gsa) THAT YtcnikbpedcdojaaProg.lean LOADS. Nothing in Lean hashes anything: it is a label: what it is worth is what the hold of that sum in a sandbox is worth. -/
noncomputable def Try.pinned : Pinned := { name := "ytcnikbpedcdojaa", sum := "0856ed270ac40f1d38273642eceb6ef4ff93c3a983b24ed8bcd61a4e0fc75b30", checked := Try.checked }
namespace Rows
def none {H : Type} : Left H := { results := [], args := [] }

/-- 'laws.FnCounts': WHATEVER THE INPUT: true; the input reads as it did. -/
def fnCountsSpec : ChangeSpec := { name := "fnCounts", fn := fun _ => fun
  | [d] => { results := [.lit (.bool true)], args := [d] }
  | _ => none }
def fnCountsRow : OpenClaim := { program := "ytcnikbpedcdojaa", sum := "0856ed270ac40f1d38273642eceb6ef4ff93c3a983b24ed8bcd61a4e0fc75b30", func := "loop.example/g00753/laws.FnCounts", spec := "fnCounts", apart := false }
def FnCountsSaid : Prop := fnCountsRow.holds Try.pinned (OpenSpec.ofChange fnCountsSpec)

/-- ITS FALSE NEIGHBOUR: 'it returns false'. Refute it at one input. -/
def fnCountsWrong : ChangeSpec := { name := "fnCounts", fn := fun _ => fun
  | [d] => { results := [.lit (.bool false)], args := [d] }
  | _ => none }
def FnCountsWrongFalsely : Prop := fnCountsRow.holds Try.pinned (OpenSpec.ofChange fnCountsWrong)

/-- 'laws.FnExactCountOk': WHATEVER THE INPUT: true; the input reads as it did. -/
def fnExactCountOkSpec : ChangeSpec := { name := "fnExactCountOk", fn := fun _ => fun
  | [d] => { results := [.lit (.bool true)], args := [d] }
  | _ => none }
def fnExactCountOkRow : OpenClaim := { program := "ytcnikbpedcdojaa", sum := "0856ed270ac40f1d38273642eceb6ef4ff93c3a983b24ed8bcd61a4e0fc75b30", func := "loop.example/g00753/laws.FnExactCountOk", spec := "fnExactCountOk", apart := false }
def FnExactCountOkSaid : Prop := fnExactCountOkRow.holds Try.pinned (OpenSpec.ofChange fnExactCountOkSpec)

/-- ITS FALSE NEIGHBOUR: 'it returns false'. Refute it at one input. -/
def fnExactCountOkWrong : ChangeSpec := { name := "fnExactCountOk", fn := fun _ => fun
  | [d] => { results := [.lit (.bool false)], args := [d] }
  | _ => none }
def FnExactCountOkWrongFalsely : Prop := fnExactCountOkRow.holds Try.pinned (OpenSpec.ofChange fnExactCountOkWrong)

/-- 'laws.FnExactStateOf': WHATEVER THE INPUT: true; the input reads as it did. -/
def fnExactStateOfSpec : ChangeSpec := { name := "fnExactStateOf", fn := fun _ => fun
  | [d] => { results := [.lit (.bool true)], args := [d] }
  | _ => none }
def fnExactStateOfRow : OpenClaim := { program := "ytcnikbpedcdojaa", sum := "0856ed270ac40f1d38273642eceb6ef4ff93c3a983b24ed8bcd61a4e0fc75b30", func := "loop.example/g00753/laws.FnExactStateOf", spec := "fnExactStateOf", apart := false }
def FnExactStateOfSaid : Prop := fnExactStateOfRow.holds Try.pinned (OpenSpec.ofChange fnExactStateOfSpec)

/-- ITS FALSE NEIGHBOUR: 'it returns false'. Refute it at one input. -/
def fnExactStateOfWrong : ChangeSpec := { name := "fnExactStateOf", fn := fun _ => fun
  | [d] => { results := [.lit (.bool false)], args := [d] }
  | _ => none }
def FnExactStateOfWrongFalsely : Prop := fnExactStateOfRow.holds Try.pinned (OpenSpec.ofChange fnExactStateOfWrong)

/-- 'laws.FnExactSentWell': WHATEVER THE INPUT: true; the input reads as it did. -/
def fnExactSentWellSpec : ChangeSpec := { name := "fnExactSentWell", fn := fun _ => fun
  | [d] => { results := [.lit (.bool true)], args := [d] }
  | _ => none }
def fnExactSentWellRow : OpenClaim := { program := "ytcnikbpedcdojaa", sum := "0856ed270ac40f1d38273642eceb6ef4ff93c3a983b24ed8bcd61a4e0fc75b30", func := "loop.example/g00753/laws.FnExactSentWell", spec := "fnExactSentWell", apart := false }
def FnExactSentWellSaid : Prop := fnExactSentWellRow.holds Try.pinned (OpenSpec.ofChange fnExactSentWellSpec)

/-- ITS FALSE NEIGHBOUR: 'it returns false'. Refute it at one input. -/
def fnExactSentWellWrong : ChangeSpec := { name := "fnExactSentWell", fn := fun _ => fun
  | [d] => { results := [.lit (.bool false)], args := [d] }
  | _ => none }
def FnExactSentWellWrongFalsely : Prop := fnExactSentWellRow.holds Try.pinned (OpenSpec.ofChange fnExactSentWellWrong)

/-- 'laws.FnExactGotWell': WHATEVER THE INPUT: true; the input reads as it did. -/
def fnExactGotWellSpec : ChangeSpec := { name := "fnExactGotWell", fn := fun _ => fun
  | [d] => { results := [.lit (.bool true)], args := [d] }
  | _ => none }
def fnExactGotWellRow : OpenClaim := { program := "ytcnikbpedcdojaa", sum := "0856ed270ac40f1d38273642eceb6ef4ff93c3a983b24ed8bcd61a4e0fc75b30", func := "loop.example/g00753/laws.FnExactGotWell", spec := "fnExactGotWell", apart := false }
def FnExactGotWellSaid : Prop := fnExactGotWellRow.holds Try.pinned (OpenSpec.ofChange fnExactGotWellSpec)

/-- ITS FALSE NEIGHBOUR: 'it returns false'. Refute it at one input. -/
def fnExactGotWellWrong : ChangeSpec := { name := "fnExactGotWell", fn := fun _ => fun
  | [d] => { results := [.lit (.bool false)], args := [d] }
  | _ => none }
def FnExactGotWellWrongFalsely : Prop := fnExactGotWellRow.holds Try.pinned (OpenSpec.ofChange fnExactGotWellWrong)

/-- 'laws.FnExactSentBad': WHATEVER THE INPUT: true; the input reads as it did. -/
def fnExactSentBadSpec : ChangeSpec := { name := "fnExactSentBad", fn := fun _ => fun
  | [d] => { results := [.lit (.bool true)], args := [d] }
  | _ => none }
def fnExactSentBadRow : OpenClaim := { program := "ytcnikbpedcdojaa", sum := "0856ed270ac40f1d38273642eceb6ef4ff93c3a983b24ed8bcd61a4e0fc75b30", func := "loop.example/g00753/laws.FnExactSentBad", spec := "fnExactSentBad", apart := false }
def FnExactSentBadSaid : Prop := fnExactSentBadRow.holds Try.pinned (OpenSpec.ofChange fnExactSentBadSpec)

/-- ITS FALSE NEIGHBOUR: 'it returns false'. Refute it at one input. -/
def fnExactSentBadWrong : ChangeSpec := { name := "fnExactSentBad", fn := fun _ => fun
  | [d] => { results := [.lit (.bool false)], args := [d] }
  | _ => none }
def FnExactSentBadWrongFalsely : Prop := fnExactSentBadRow.holds Try.pinned (OpenSpec.ofChange fnExactSentBadWrong)

/-- 'laws.FnExactGotBad': WHATEVER THE INPUT: true; the input reads as it did. -/
def fnExactGotBadSpec : ChangeSpec := { name := "fnExactGotBad", fn := fun _ => fun
  | [d] => { results := [.lit (.bool true)], args := [d] }
  | _ => none }
def fnExactGotBadRow : OpenClaim := { program := "ytcnikbpedcdojaa", sum := "0856ed270ac40f1d38273642eceb6ef4ff93c3a983b24ed8bcd61a4e0fc75b30", func := "loop.example/g00753/laws.FnExactGotBad", spec := "fnExactGotBad", apart := false }
def FnExactGotBadSaid : Prop := fnExactGotBadRow.holds Try.pinned (OpenSpec.ofChange fnExactGotBadSpec)

/-- ITS FALSE NEIGHBOUR: 'it returns false'. Refute it at one input. -/
def fnExactGotBadWrong : ChangeSpec := { name := "fnExactGotBad", fn := fun _ => fun
  | [d] => { results := [.lit (.bool false)], args := [d] }
  | _ => none }
def FnExactGotBadWrongFalsely : Prop := fnExactGotBadRow.holds Try.pinned (OpenSpec.ofChange fnExactGotBadWrong)

/- THE SECOND FORM. 'bulk': how many values and letters a reading holds, each counted each time it is reached (what is shared counts as often as it is met; a slice's spare places count too). A statement '..UptoSaid' is the law's where the arguments, and the package variables that the reading takes, are together of bulk at most 1048576: NARROWER than '..Said'. Prove '..Said' where nothing that the law and all that it calls make is longer than what came in: it says more and counts as full. Else prove '..UptoSaid'. A law counts once. -/
mutual
def uptoBulk {H : Type} : DataW H → Nat
  | .lit (.string bytes) => bytes.length + 1
  | .lit _ => 1
  | .nil => 1
  | .ptr d => uptoBulk d + 1
  | .slice elems spare => uptoBulkAll elems + uptoBulkAll spare + 1
  | .agg parts => uptoBulkAll parts + 1
  | .iface _ d => uptoBulk d + 1
  | .map entries => uptoBulkEntries entries + 1
  | .held _ => 1
def uptoBulkAll {H : Type} : List (DataW H) → Nat
  | [] => 0
  | d :: r => uptoBulk d + uptoBulkAll r
def uptoBulkEntries {H : Type} : List (Lit × DataW H) → Nat
  | [] => 0
  | x :: r => uptoBulkEntry x + uptoBulkEntries r
def uptoBulkEntry {H : Type} : Lit × DataW H → Nat
  | (.string bytes, d) => bytes.length + uptoBulk d + 1
  | (_, d) => uptoBulk d + 1
 end
def uptoSmall : (H : Type) → List (DataW H) → Bool := fun _ ds => decide (uptoBulkAll ds ≤ 1048576)
def OpenSpec.upto (s : _root_.Go.ChangeSpec) : _root_.Go.OpenSpec := { _root_.Go.OpenSpec.ofChange s with cond := some uptoSmall }

/-- 'laws.FnCounts', WHERE WHAT IT READS IS OF BULK AT MOST 1048576: true; the input reads as it did. -/
def fnCountsUptoRow : OpenClaim := { program := "ytcnikbpedcdojaa", sum := "0856ed270ac40f1d38273642eceb6ef4ff93c3a983b24ed8bcd61a4e0fc75b30", func := "loop.example/g00753/laws.FnCounts", spec := "fnCounts", apart := false, narrowed := true }
def FnCountsUptoSaid : Prop := fnCountsUptoRow.holds Try.pinned (OpenSpec.upto fnCountsSpec)

/-- 'laws.FnExactCountOk', WHERE WHAT IT READS IS OF BULK AT MOST 1048576: true; the input reads as it did. -/
def fnExactCountOkUptoRow : OpenClaim := { program := "ytcnikbpedcdojaa", sum := "0856ed270ac40f1d38273642eceb6ef4ff93c3a983b24ed8bcd61a4e0fc75b30", func := "loop.example/g00753/laws.FnExactCountOk", spec := "fnExactCountOk", apart := false, narrowed := true }
def FnExactCountOkUptoSaid : Prop := fnExactCountOkUptoRow.holds Try.pinned (OpenSpec.upto fnExactCountOkSpec)

/-- 'laws.FnExactStateOf', WHERE WHAT IT READS IS OF BULK AT MOST 1048576: true; the input reads as it did. -/
def fnExactStateOfUptoRow : OpenClaim := { program := "ytcnikbpedcdojaa", sum := "0856ed270ac40f1d38273642eceb6ef4ff93c3a983b24ed8bcd61a4e0fc75b30", func := "loop.example/g00753/laws.FnExactStateOf", spec := "fnExactStateOf", apart := false, narrowed := true }
def FnExactStateOfUptoSaid : Prop := fnExactStateOfUptoRow.holds Try.pinned (OpenSpec.upto fnExactStateOfSpec)

/-- 'laws.FnExactSentWell', WHERE WHAT IT READS IS OF BULK AT MOST 1048576: true; the input reads as it did. -/
def fnExactSentWellUptoRow : OpenClaim := { program := "ytcnikbpedcdojaa", sum := "0856ed270ac40f1d38273642eceb6ef4ff93c3a983b24ed8bcd61a4e0fc75b30", func := "loop.example/g00753/laws.FnExactSentWell", spec := "fnExactSentWell", apart := false, narrowed := true }
def FnExactSentWellUptoSaid : Prop := fnExactSentWellUptoRow.holds Try.pinned (OpenSpec.upto fnExactSentWellSpec)

/-- 'laws.FnExactGotWell', WHERE WHAT IT READS IS OF BULK AT MOST 1048576: true; the input reads as it did. -/
def fnExactGotWellUptoRow : OpenClaim := { program := "ytcnikbpedcdojaa", sum := "0856ed270ac40f1d38273642eceb6ef4ff93c3a983b24ed8bcd61a4e0fc75b30", func := "loop.example/g00753/laws.FnExactGotWell", spec := "fnExactGotWell", apart := false, narrowed := true }
def FnExactGotWellUptoSaid : Prop := fnExactGotWellUptoRow.holds Try.pinned (OpenSpec.upto fnExactGotWellSpec)

/-- 'laws.FnExactSentBad', WHERE WHAT IT READS IS OF BULK AT MOST 1048576: true; the input reads as it did. -/
def fnExactSentBadUptoRow : OpenClaim := { program := "ytcnikbpedcdojaa", sum := "0856ed270ac40f1d38273642eceb6ef4ff93c3a983b24ed8bcd61a4e0fc75b30", func := "loop.example/g00753/laws.FnExactSentBad", spec := "fnExactSentBad", apart := false, narrowed := true }
def FnExactSentBadUptoSaid : Prop := fnExactSentBadUptoRow.holds Try.pinned (OpenSpec.upto fnExactSentBadSpec)

/-- 'laws.FnExactGotBad', WHERE WHAT IT READS IS OF BULK AT MOST 1048576: true; the input reads as it did. -/
def fnExactGotBadUptoRow : OpenClaim := { program := "ytcnikbpedcdojaa", sum := "0856ed270ac40f1d38273642eceb6ef4ff93c3a983b24ed8bcd61a4e0fc75b30", func := "loop.example/g00753/laws.FnExactGotBad", spec := "fnExactGotBad", apart := false, narrowed := true }
def FnExactGotBadUptoSaid : Prop := fnExactGotBadUptoRow.holds Try.pinned (OpenSpec.upto fnExactGotBadSpec)

end Rows
end Go.Proofs.Ytcnikbpedcdojaa
