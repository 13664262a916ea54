/-
  No cell of these rows narrows 'for every input' (looked for: loops, veiled, ifaces, maps, wideKeys, modest, calm, conditions, laid).
  DERIVED. THE GIVEN ROWS OF THIS SEAT. 7 by the template 'for every input the law returns true; each argument reads behind the call as it read before'; 0 by the template 'total and deterministic' (their statements: YtefcfeikooknmaaTotals.lean).
  GIVEN WITH THE SEED: the statements are not yours to turn. If you find one false, say at which input.
  Laid BY PROGRAM, IN A SANDBOX (cutbox-rows.mjs): the forced cells as the released guide's own fill.sh prints them over the translation b81bebf8ef9c00ed… (all of the seat's roots in one cut). By AI agents, Wed Nov 11 2026. No macro, syntax, notation, axiom, sorry.
-/
import Derived.Test.YtefcfeikooknmaaChecked
import GoSem.Claim
import GoSem.ClaimJoined
import GoSem.ClaimMapViews
import Derived.JoinedTies
import Derived.KernelRfl
namespace Go.Proofs.Ytefcfeikooknmaa
/- THE CELL 'sum', in the pinned program and in every row, IS THE sha256 OF THE DUMP (.gsa) THAT YtefcfeikooknmaaProg.lean LOADS. Nothing in Lean hashes anything: it is a label: what it is worth is what the hold of that sum in a sandbox is worth. -/
noncomputable def Try.pinned : Pinned := { name := "ytefcfeikooknmaa", sum := "b81bebf8ef9c00ed4be0c8de595d711899b8cb645007bd779e68b384437865ff", checked := Try.checked }
namespace Rows
def none {H : Type} : Left H := { results := [], args := [] }

/-- 'laws.FnOrthogonality': WHATEVER THE INPUT: true; the input reads as it did. -/
def fnOrthogonalitySpec : ChangeSpec := { name := "fnOrthogonality", fn := fun _ => fun
  | [d] => { results := [.lit (.bool true)], args := [d] }
  | _ => none }
def fnOrthogonalityRow : OpenClaim := { program := "ytefcfeikooknmaa", sum := "b81bebf8ef9c00ed4be0c8de595d711899b8cb645007bd779e68b384437865ff", func := "loop.example/g00513/laws.FnOrthogonality", spec := "fnOrthogonality", inPlace := ["slices.overlaps[[]int]"], unfollowed := true, recurses := true, apart := false }
def FnOrthogonalitySaid : Prop := fnOrthogonalityRow.holds Try.pinned (OpenSpec.ofChange fnOrthogonalitySpec)

/-- ITS FALSE NEIGHBOUR: 'it returns false'. Refute it at one input. -/
def fnOrthogonalityWrong : ChangeSpec := { name := "fnOrthogonality", fn := fun _ => fun
  | [d] => { results := [.lit (.bool false)], args := [d] }
  | _ => none }
def FnOrthogonalityWrongFalsely : Prop := fnOrthogonalityRow.holds Try.pinned (OpenSpec.ofChange fnOrthogonalityWrong)

/-- 'laws.FnCoordinates': WHATEVER THE INPUT: true; the input reads as it did. -/
def fnCoordinatesSpec : ChangeSpec := { name := "fnCoordinates", fn := fun _ => fun
  | [d] => { results := [.lit (.bool true)], args := [d] }
  | _ => none }
def fnCoordinatesRow : OpenClaim := { program := "ytefcfeikooknmaa", sum := "b81bebf8ef9c00ed4be0c8de595d711899b8cb645007bd779e68b384437865ff", func := "loop.example/g00513/laws.FnCoordinates", spec := "fnCoordinates", inPlace := ["slices.overlaps[[]int]"], unfollowed := true, recurses := true, apart := false }
def FnCoordinatesSaid : Prop := fnCoordinatesRow.holds Try.pinned (OpenSpec.ofChange fnCoordinatesSpec)

/-- ITS FALSE NEIGHBOUR: 'it returns false'. Refute it at one input. -/
def fnCoordinatesWrong : ChangeSpec := { name := "fnCoordinates", fn := fun _ => fun
  | [d] => { results := [.lit (.bool false)], args := [d] }
  | _ => none }
def FnCoordinatesWrongFalsely : Prop := fnCoordinatesRow.holds Try.pinned (OpenSpec.ofChange fnCoordinatesWrong)

/-- 'laws.FnExactSpanOf': WHATEVER THE INPUT: true; the input reads as it did. -/
def fnExactSpanOfSpec : ChangeSpec := { name := "fnExactSpanOf", fn := fun _ => fun
  | [d1, d2] => { results := [.lit (.bool true)], args := [d1, d2] }
  | _ => none }
def fnExactSpanOfRow : OpenClaim := { program := "ytefcfeikooknmaa", sum := "b81bebf8ef9c00ed4be0c8de595d711899b8cb645007bd779e68b384437865ff", func := "loop.example/g00513/laws.FnExactSpanOf", spec := "fnExactSpanOf", inPlace := ["slices.overlaps[[]int]"], unfollowed := true, recurses := true, apart := false }
def FnExactSpanOfSaid : Prop := fnExactSpanOfRow.holds Try.pinned (OpenSpec.ofChange fnExactSpanOfSpec)

/-- ITS FALSE NEIGHBOUR: 'it returns false'. Refute it at one input. -/
def fnExactSpanOfWrong : ChangeSpec := { name := "fnExactSpanOf", fn := fun _ => fun
  | [d1, d2] => { results := [.lit (.bool false)], args := [d1, d2] }
  | _ => none }
def FnExactSpanOfWrongFalsely : Prop := fnExactSpanOfRow.holds Try.pinned (OpenSpec.ofChange fnExactSpanOfWrong)

/-- 'laws.FnExactSumOf': WHATEVER THE INPUT: true; the input reads as it did. -/
def fnExactSumOfSpec : ChangeSpec := { name := "fnExactSumOf", fn := fun _ => fun
  | [d1, d2] => { results := [.lit (.bool true)], args := [d1, d2] }
  | _ => none }
def fnExactSumOfRow : OpenClaim := { program := "ytefcfeikooknmaa", sum := "b81bebf8ef9c00ed4be0c8de595d711899b8cb645007bd779e68b384437865ff", func := "loop.example/g00513/laws.FnExactSumOf", spec := "fnExactSumOf", inPlace := ["slices.overlaps[[]int]"], unfollowed := true, recurses := true, apart := false }
def FnExactSumOfSaid : Prop := fnExactSumOfRow.holds Try.pinned (OpenSpec.ofChange fnExactSumOfSpec)

/-- ITS FALSE NEIGHBOUR: 'it returns false'. Refute it at one input. -/
def fnExactSumOfWrong : ChangeSpec := { name := "fnExactSumOf", fn := fun _ => fun
  | [d1, d2] => { results := [.lit (.bool false)], args := [d1, d2] }
  | _ => none }
def FnExactSumOfWrongFalsely : Prop := fnExactSumOfRow.holds Try.pinned (OpenSpec.ofChange fnExactSumOfWrong)

/-- 'laws.FnExactIsSubspace': WHATEVER THE INPUT: true; the input reads as it did. -/
def fnExactIsSubspaceSpec : ChangeSpec := { name := "fnExactIsSubspace", fn := fun _ => fun
  | [d1, d2] => { results := [.lit (.bool true)], args := [d1, d2] }
  | _ => none }
def fnExactIsSubspaceRow : OpenClaim := { program := "ytefcfeikooknmaa", sum := "b81bebf8ef9c00ed4be0c8de595d711899b8cb645007bd779e68b384437865ff", func := "loop.example/g00513/laws.FnExactIsSubspace", spec := "fnExactIsSubspace", inPlace := ["slices.overlaps[[]int]"], unfollowed := true, recurses := true, apart := false }
def FnExactIsSubspaceSaid : Prop := fnExactIsSubspaceRow.holds Try.pinned (OpenSpec.ofChange fnExactIsSubspaceSpec)

/-- ITS FALSE NEIGHBOUR: 'it returns false'. Refute it at one input. -/
def fnExactIsSubspaceWrong : ChangeSpec := { name := "fnExactIsSubspace", fn := fun _ => fun
  | [d1, d2] => { results := [.lit (.bool false)], args := [d1, d2] }
  | _ => none }
def FnExactIsSubspaceWrongFalsely : Prop := fnExactIsSubspaceRow.holds Try.pinned (OpenSpec.ofChange fnExactIsSubspaceWrong)

/-- 'laws.FnExactCoordinates': WHATEVER THE INPUT: true; the input reads as it did. -/
def fnExactCoordinatesSpec : ChangeSpec := { name := "fnExactCoordinates", fn := fun _ => fun
  | [d1, d2] => { results := [.lit (.bool true)], args := [d1, d2] }
  | _ => none }
def fnExactCoordinatesRow : OpenClaim := { program := "ytefcfeikooknmaa", sum := "b81bebf8ef9c00ed4be0c8de595d711899b8cb645007bd779e68b384437865ff", func := "loop.example/g00513/laws.FnExactCoordinates", spec := "fnExactCoordinates", unfollowed := true, recurses := true, apart := false }
def FnExactCoordinatesSaid : Prop := fnExactCoordinatesRow.holds Try.pinned (OpenSpec.ofChange fnExactCoordinatesSpec)

/-- ITS FALSE NEIGHBOUR: 'it returns false'. Refute it at one input. -/
def fnExactCoordinatesWrong : ChangeSpec := { name := "fnExactCoordinates", fn := fun _ => fun
  | [d1, d2] => { results := [.lit (.bool false)], args := [d1, d2] }
  | _ => none }
def FnExactCoordinatesWrongFalsely : Prop := fnExactCoordinatesRow.holds Try.pinned (OpenSpec.ofChange fnExactCoordinatesWrong)

/-- 'laws.FnExactInnovationOf': WHATEVER THE INPUT: true; the input reads as it did. -/
def fnExactInnovationOfSpec : ChangeSpec := { name := "fnExactInnovationOf", fn := fun _ => fun
  | [d1, d2] => { results := [.lit (.bool true)], args := [d1, d2] }
  | _ => none }
def fnExactInnovationOfRow : OpenClaim := { program := "ytefcfeikooknmaa", sum := "b81bebf8ef9c00ed4be0c8de595d711899b8cb645007bd779e68b384437865ff", func := "loop.example/g00513/laws.FnExactInnovationOf", spec := "fnExactInnovationOf", inPlace := ["slices.overlaps[[]int]"], unfollowed := true, recurses := true, apart := false }
def FnExactInnovationOfSaid : Prop := fnExactInnovationOfRow.holds Try.pinned (OpenSpec.ofChange fnExactInnovationOfSpec)

/-- ITS FALSE NEIGHBOUR: 'it returns false'. Refute it at one input. -/
def fnExactInnovationOfWrong : ChangeSpec := { name := "fnExactInnovationOf", fn := fun _ => fun
  | [d1, d2] => { results := [.lit (.bool false)], args := [d1, d2] }
  | _ => none }
def FnExactInnovationOfWrongFalsely : Prop := fnExactInnovationOfRow.holds Try.pinned (OpenSpec.ofChange fnExactInnovationOfWrong)

/- THE SECOND FORM. 'bulk': how many values and letters a reading holds, each counted each time it is reached (what is shared counts as often as it is met; a slice's spare places count too). A statement '..UptoSaid' is the law's where the arguments, and the package variables that the reading takes, are together of bulk at most 1048576: NARROWER than '..Said'. Prove '..Said' where nothing that the law and all that it calls make is longer than what came in: it says more and counts as full. Else prove '..UptoSaid'. A law counts once. -/
mutual
def uptoBulk {H : Type} : DataW H → Nat
  | .lit (.string bytes) => bytes.length + 1
  | .lit _ => 1
  | .nil => 1
  | .ptr d => uptoBulk d + 1
  | .slice elems spare => uptoBulkAll elems + uptoBulkAll spare + 1
  | .agg parts => uptoBulkAll parts + 1
  | .iface _ d => uptoBulk d + 1
  | .map entries => uptoBulkEntries entries + 1
  | .held _ => 1
def uptoBulkAll {H : Type} : List (DataW H) → Nat
  | [] => 0
  | d :: r => uptoBulk d + uptoBulkAll r
def uptoBulkEntries {H : Type} : List (Lit × DataW H) → Nat
  | [] => 0
  | x :: r => uptoBulkEntry x + uptoBulkEntries r
def uptoBulkEntry {H : Type} : Lit × DataW H → Nat
  | (.string bytes, d) => bytes.length + uptoBulk d + 1
  | (_, d) => uptoBulk d + 1
 end
def uptoSmall : (H : Type) → List (DataW H) → Bool := fun _ ds => decide (uptoBulkAll ds ≤ 1048576)
def OpenSpec.upto (s : _root_.Go.ChangeSpec) : _root_.Go.OpenSpec := { _root_.Go.OpenSpec.ofChange s with cond := some uptoSmall }

/-- 'laws.FnOrthogonality', WHERE WHAT IT READS IS OF BULK AT MOST 1048576: true; the input reads as it did. -/
def fnOrthogonalityUptoRow : OpenClaim := { program := "ytefcfeikooknmaa", sum := "b81bebf8ef9c00ed4be0c8de595d711899b8cb645007bd779e68b384437865ff", func := "loop.example/g00513/laws.FnOrthogonality", spec := "fnOrthogonality", inPlace := ["slices.overlaps[[]int]"], unfollowed := true, recurses := true, apart := false, narrowed := true }
def FnOrthogonalityUptoSaid : Prop := fnOrthogonalityUptoRow.holds Try.pinned (OpenSpec.upto fnOrthogonalitySpec)

/-- 'laws.FnCoordinates', WHERE WHAT IT READS IS OF BULK AT MOST 1048576: true; the input reads as it did. -/
def fnCoordinatesUptoRow : OpenClaim := { program := "ytefcfeikooknmaa", sum := "b81bebf8ef9c00ed4be0c8de595d711899b8cb645007bd779e68b384437865ff", func := "loop.example/g00513/laws.FnCoordinates", spec := "fnCoordinates", inPlace := ["slices.overlaps[[]int]"], unfollowed := true, recurses := true, apart := false, narrowed := true }
def FnCoordinatesUptoSaid : Prop := fnCoordinatesUptoRow.holds Try.pinned (OpenSpec.upto fnCoordinatesSpec)

/-- 'laws.FnExactSpanOf', WHERE WHAT IT READS IS OF BULK AT MOST 1048576: true; the input reads as it did. -/
def fnExactSpanOfUptoRow : OpenClaim := { program := "ytefcfeikooknmaa", sum := "b81bebf8ef9c00ed4be0c8de595d711899b8cb645007bd779e68b384437865ff", func := "loop.example/g00513/laws.FnExactSpanOf", spec := "fnExactSpanOf", inPlace := ["slices.overlaps[[]int]"], unfollowed := true, recurses := true, apart := false, narrowed := true }
def FnExactSpanOfUptoSaid : Prop := fnExactSpanOfUptoRow.holds Try.pinned (OpenSpec.upto fnExactSpanOfSpec)

/-- 'laws.FnExactSumOf', WHERE WHAT IT READS IS OF BULK AT MOST 1048576: true; the input reads as it did. -/
def fnExactSumOfUptoRow : OpenClaim := { program := "ytefcfeikooknmaa", sum := "b81bebf8ef9c00ed4be0c8de595d711899b8cb645007bd779e68b384437865ff", func := "loop.example/g00513/laws.FnExactSumOf", spec := "fnExactSumOf", inPlace := ["slices.overlaps[[]int]"], unfollowed := true, recurses := true, apart := false, narrowed := true }
def FnExactSumOfUptoSaid : Prop := fnExactSumOfUptoRow.holds Try.pinned (OpenSpec.upto fnExactSumOfSpec)

/-- 'laws.FnExactIsSubspace', WHERE WHAT IT READS IS OF BULK AT MOST 1048576: true; the input reads as it did. -/
def fnExactIsSubspaceUptoRow : OpenClaim := { program := "ytefcfeikooknmaa", sum := "b81bebf8ef9c00ed4be0c8de595d711899b8cb645007bd779e68b384437865ff", func := "loop.example/g00513/laws.FnExactIsSubspace", spec := "fnExactIsSubspace", inPlace := ["slices.overlaps[[]int]"], unfollowed := true, recurses := true, apart := false, narrowed := true }
def FnExactIsSubspaceUptoSaid : Prop := fnExactIsSubspaceUptoRow.holds Try.pinned (OpenSpec.upto fnExactIsSubspaceSpec)

/-- 'laws.FnExactCoordinates', WHERE WHAT IT READS IS OF BULK AT MOST 1048576: true; the input reads as it did. -/
def fnExactCoordinatesUptoRow : OpenClaim := { program := "ytefcfeikooknmaa", sum := "b81bebf8ef9c00ed4be0c8de595d711899b8cb645007bd779e68b384437865ff", func := "loop.example/g00513/laws.FnExactCoordinates", spec := "fnExactCoordinates", unfollowed := true, recurses := true, apart := false, narrowed := true }
def FnExactCoordinatesUptoSaid : Prop := fnExactCoordinatesUptoRow.holds Try.pinned (OpenSpec.upto fnExactCoordinatesSpec)

/-- 'laws.FnExactInnovationOf', WHERE WHAT IT READS IS OF BULK AT MOST 1048576: true; the input reads as it did. -/
def fnExactInnovationOfUptoRow : OpenClaim := { program := "ytefcfeikooknmaa", sum := "b81bebf8ef9c00ed4be0c8de595d711899b8cb645007bd779e68b384437865ff", func := "loop.example/g00513/laws.FnExactInnovationOf", spec := "fnExactInnovationOf", inPlace := ["slices.overlaps[[]int]"], unfollowed := true, recurses := true, apart := false, narrowed := true }
def FnExactInnovationOfUptoSaid : Prop := fnExactInnovationOfUptoRow.holds Try.pinned (OpenSpec.upto fnExactInnovationOfSpec)

end Rows
end Go.Proofs.Ytefcfeikooknmaa
