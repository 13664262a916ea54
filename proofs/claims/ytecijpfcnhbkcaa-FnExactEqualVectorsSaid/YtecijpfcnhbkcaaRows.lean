/-
  No cell of these rows narrows 'for every input' (looked for: loops, veiled, ifaces, maps, wideKeys, modest, calm, conditions, laid).
  DERIVED. THE GIVEN ROWS OF THIS SEAT. 11 by the template 'for every input the law returns true; each argument reads behind the call as it read before'; 0 by the template 'total and deterministic' (their statements: YtecijpfcnhbkcaaTotals.lean).
  GIVEN WITH THE SEED: the statements are not yours to turn. If you find one false, say at which input.
  Laid BY PROGRAM, IN A SANDBOX (cutbox-rows.mjs): the forced cells as the released guide's own fill.sh prints them over the translation 3ec24bda11eb2d29… (all of the seat's roots in one cut). By AI agents, Wed Nov 11 2026. No macro, syntax, notation, axiom, sorry.
-/
import Derived.Test.YtecijpfcnhbkcaaChecked
import GoSem.Claim
import GoSem.ClaimJoined
import GoSem.ClaimMapViews
import Derived.JoinedTies
import Derived.KernelRfl
namespace Go.Proofs.Ytecijpfcnhbkcaa
/- THE CELL 'sum', in the pinned program and in every row, IS THE sha256 OF THE DUMP (.gsa) THAT YtecijpfcnhbkcaaProg.lean LOADS. Nothing in Lean hashes anything: it is a label: what it is worth is what the hold of that sum in a sandbox is worth. -/
noncomputable def Try.pinned : Pinned := { name := "ytecijpfcnhbkcaa", sum := "3ec24bda11eb2d29b989d9428a4399965d078c1bfa2ea0c506c8296677366baf", checked := Try.checked }
namespace Rows
def none {H : Type} : Left H := { results := [], args := [] }

/-- 'laws.FnVectors': WHATEVER THE INPUT: true; the input reads as it did. -/
def fnVectorsSpec : ChangeSpec := { name := "fnVectors", fn := fun _ => fun
  | [d] => { results := [.lit (.bool true)], args := [d] }
  | _ => none }
def fnVectorsRow : OpenClaim := { program := "ytecijpfcnhbkcaa", sum := "3ec24bda11eb2d29b989d9428a4399965d078c1bfa2ea0c506c8296677366baf", func := "loop.example/g00513/laws.FnVectors", spec := "fnVectors", unfollowed := true, recurses := true, apart := false }
def FnVectorsSaid : Prop := fnVectorsRow.holds Try.pinned (OpenSpec.ofChange fnVectorsSpec)

/-- ITS FALSE NEIGHBOUR: 'it returns false'. Refute it at one input. -/
def fnVectorsWrong : ChangeSpec := { name := "fnVectors", fn := fun _ => fun
  | [d] => { results := [.lit (.bool false)], args := [d] }
  | _ => none }
def FnVectorsWrongFalsely : Prop := fnVectorsRow.holds Try.pinned (OpenSpec.ofChange fnVectorsWrong)

/-- 'laws.FnCombinations': WHATEVER THE INPUT: true; the input reads as it did. -/
def fnCombinationsSpec : ChangeSpec := { name := "fnCombinations", fn := fun _ => fun
  | [d] => { results := [.lit (.bool true)], args := [d] }
  | _ => none }
def fnCombinationsRow : OpenClaim := { program := "ytecijpfcnhbkcaa", sum := "3ec24bda11eb2d29b989d9428a4399965d078c1bfa2ea0c506c8296677366baf", func := "loop.example/g00513/laws.FnCombinations", spec := "fnCombinations", unfollowed := true, recurses := true, apart := false }
def FnCombinationsSaid : Prop := fnCombinationsRow.holds Try.pinned (OpenSpec.ofChange fnCombinationsSpec)

/-- ITS FALSE NEIGHBOUR: 'it returns false'. Refute it at one input. -/
def fnCombinationsWrong : ChangeSpec := { name := "fnCombinations", fn := fun _ => fun
  | [d] => { results := [.lit (.bool false)], args := [d] }
  | _ => none }
def FnCombinationsWrongFalsely : Prop := fnCombinationsRow.holds Try.pinned (OpenSpec.ofChange fnCombinationsWrong)

/-- 'laws.FnExactIsValidVector': WHATEVER THE INPUT: true; the input reads as it did. -/
def fnExactIsValidVectorSpec : ChangeSpec := { name := "fnExactIsValidVector", fn := fun _ => fun
  | [d] => { results := [.lit (.bool true)], args := [d] }
  | _ => none }
def fnExactIsValidVectorRow : OpenClaim := { program := "ytecijpfcnhbkcaa", sum := "3ec24bda11eb2d29b989d9428a4399965d078c1bfa2ea0c506c8296677366baf", func := "loop.example/g00513/laws.FnExactIsValidVector", spec := "fnExactIsValidVector", apart := false }
def FnExactIsValidVectorSaid : Prop := fnExactIsValidVectorRow.holds Try.pinned (OpenSpec.ofChange fnExactIsValidVectorSpec)

/-- ITS FALSE NEIGHBOUR: 'it returns false'. Refute it at one input. -/
def fnExactIsValidVectorWrong : ChangeSpec := { name := "fnExactIsValidVector", fn := fun _ => fun
  | [d] => { results := [.lit (.bool false)], args := [d] }
  | _ => none }
def FnExactIsValidVectorWrongFalsely : Prop := fnExactIsValidVectorRow.holds Try.pinned (OpenSpec.ofChange fnExactIsValidVectorWrong)

/-- 'laws.FnExactAddVectors': WHATEVER THE INPUT: true; the input reads as it did. -/
def fnExactAddVectorsSpec : ChangeSpec := { name := "fnExactAddVectors", fn := fun _ => fun
  | [d1, d2] => { results := [.lit (.bool true)], args := [d1, d2] }
  | _ => none }
def fnExactAddVectorsRow : OpenClaim := { program := "ytecijpfcnhbkcaa", sum := "3ec24bda11eb2d29b989d9428a4399965d078c1bfa2ea0c506c8296677366baf", func := "loop.example/g00513/laws.FnExactAddVectors", spec := "fnExactAddVectors", unfollowed := true, recurses := true, apart := false }
def FnExactAddVectorsSaid : Prop := fnExactAddVectorsRow.holds Try.pinned (OpenSpec.ofChange fnExactAddVectorsSpec)

/-- ITS FALSE NEIGHBOUR: 'it returns false'. Refute it at one input. -/
def fnExactAddVectorsWrong : ChangeSpec := { name := "fnExactAddVectors", fn := fun _ => fun
  | [d1, d2] => { results := [.lit (.bool false)], args := [d1, d2] }
  | _ => none }
def FnExactAddVectorsWrongFalsely : Prop := fnExactAddVectorsRow.holds Try.pinned (OpenSpec.ofChange fnExactAddVectorsWrong)

/-- 'laws.FnExactScaleVector': WHATEVER THE INPUT: true; the input reads as it did. -/
def fnExactScaleVectorSpec : ChangeSpec := { name := "fnExactScaleVector", fn := fun _ => fun
  | [d1, d2] => { results := [.lit (.bool true)], args := [d1, d2] }
  | _ => none }
def fnExactScaleVectorRow : OpenClaim := { program := "ytecijpfcnhbkcaa", sum := "3ec24bda11eb2d29b989d9428a4399965d078c1bfa2ea0c506c8296677366baf", func := "loop.example/g00513/laws.FnExactScaleVector", spec := "fnExactScaleVector", unfollowed := true, recurses := true, apart := false }
def FnExactScaleVectorSaid : Prop := fnExactScaleVectorRow.holds Try.pinned (OpenSpec.ofChange fnExactScaleVectorSpec)

/-- ITS FALSE NEIGHBOUR: 'it returns false'. Refute it at one input. -/
def fnExactScaleVectorWrong : ChangeSpec := { name := "fnExactScaleVector", fn := fun _ => fun
  | [d1, d2] => { results := [.lit (.bool false)], args := [d1, d2] }
  | _ => none }
def FnExactScaleVectorWrongFalsely : Prop := fnExactScaleVectorRow.holds Try.pinned (OpenSpec.ofChange fnExactScaleVectorWrong)

/-- 'laws.FnExactAddScaled': WHATEVER THE INPUT: true; the input reads as it did. -/
def fnExactAddScaledSpec : ChangeSpec := { name := "fnExactAddScaled", fn := fun _ => fun
  | [d1, d2, d3] => { results := [.lit (.bool true)], args := [d1, d2, d3] }
  | _ => none }
def fnExactAddScaledRow : OpenClaim := { program := "ytecijpfcnhbkcaa", sum := "3ec24bda11eb2d29b989d9428a4399965d078c1bfa2ea0c506c8296677366baf", func := "loop.example/g00513/laws.FnExactAddScaled", spec := "fnExactAddScaled", unfollowed := true, recurses := true, apart := false }
def FnExactAddScaledSaid : Prop := fnExactAddScaledRow.holds Try.pinned (OpenSpec.ofChange fnExactAddScaledSpec)

/-- ITS FALSE NEIGHBOUR: 'it returns false'. Refute it at one input. -/
def fnExactAddScaledWrong : ChangeSpec := { name := "fnExactAddScaled", fn := fun _ => fun
  | [d1, d2, d3] => { results := [.lit (.bool false)], args := [d1, d2, d3] }
  | _ => none }
def FnExactAddScaledWrongFalsely : Prop := fnExactAddScaledRow.holds Try.pinned (OpenSpec.ofChange fnExactAddScaledWrong)

/-- 'laws.FnExactDotProduct': WHATEVER THE INPUT: true; the input reads as it did. -/
def fnExactDotProductSpec : ChangeSpec := { name := "fnExactDotProduct", fn := fun _ => fun
  | [d1, d2] => { results := [.lit (.bool true)], args := [d1, d2] }
  | _ => none }
def fnExactDotProductRow : OpenClaim := { program := "ytecijpfcnhbkcaa", sum := "3ec24bda11eb2d29b989d9428a4399965d078c1bfa2ea0c506c8296677366baf", func := "loop.example/g00513/laws.FnExactDotProduct", spec := "fnExactDotProduct", unfollowed := true, recurses := true, apart := false }
def FnExactDotProductSaid : Prop := fnExactDotProductRow.holds Try.pinned (OpenSpec.ofChange fnExactDotProductSpec)

/-- ITS FALSE NEIGHBOUR: 'it returns false'. Refute it at one input. -/
def fnExactDotProductWrong : ChangeSpec := { name := "fnExactDotProduct", fn := fun _ => fun
  | [d1, d2] => { results := [.lit (.bool false)], args := [d1, d2] }
  | _ => none }
def FnExactDotProductWrongFalsely : Prop := fnExactDotProductRow.holds Try.pinned (OpenSpec.ofChange fnExactDotProductWrong)

/-- 'laws.FnExactLeadingIndex': WHATEVER THE INPUT: true; the input reads as it did. -/
def fnExactLeadingIndexSpec : ChangeSpec := { name := "fnExactLeadingIndex", fn := fun _ => fun
  | [d] => { results := [.lit (.bool true)], args := [d] }
  | _ => none }
def fnExactLeadingIndexRow : OpenClaim := { program := "ytecijpfcnhbkcaa", sum := "3ec24bda11eb2d29b989d9428a4399965d078c1bfa2ea0c506c8296677366baf", func := "loop.example/g00513/laws.FnExactLeadingIndex", spec := "fnExactLeadingIndex", unfollowed := true, recurses := true, apart := false }
def FnExactLeadingIndexSaid : Prop := fnExactLeadingIndexRow.holds Try.pinned (OpenSpec.ofChange fnExactLeadingIndexSpec)

/-- ITS FALSE NEIGHBOUR: 'it returns false'. Refute it at one input. -/
def fnExactLeadingIndexWrong : ChangeSpec := { name := "fnExactLeadingIndex", fn := fun _ => fun
  | [d] => { results := [.lit (.bool false)], args := [d] }
  | _ => none }
def FnExactLeadingIndexWrongFalsely : Prop := fnExactLeadingIndexRow.holds Try.pinned (OpenSpec.ofChange fnExactLeadingIndexWrong)

/-- 'laws.FnExactUnitVector': WHATEVER THE INPUT: true; the input reads as it did. -/
def fnExactUnitVectorSpec : ChangeSpec := { name := "fnExactUnitVector", fn := fun _ => fun
  | [d1, d2] => { results := [.lit (.bool true)], args := [d1, d2] }
  | _ => none }
def fnExactUnitVectorRow : OpenClaim := { program := "ytecijpfcnhbkcaa", sum := "3ec24bda11eb2d29b989d9428a4399965d078c1bfa2ea0c506c8296677366baf", func := "loop.example/g00513/laws.FnExactUnitVector", spec := "fnExactUnitVector", apart := false }
def FnExactUnitVectorSaid : Prop := fnExactUnitVectorRow.holds Try.pinned (OpenSpec.ofChange fnExactUnitVectorSpec)

/-- ITS FALSE NEIGHBOUR: 'it returns false'. Refute it at one input. -/
def fnExactUnitVectorWrong : ChangeSpec := { name := "fnExactUnitVector", fn := fun _ => fun
  | [d1, d2] => { results := [.lit (.bool false)], args := [d1, d2] }
  | _ => none }
def FnExactUnitVectorWrongFalsely : Prop := fnExactUnitVectorRow.holds Try.pinned (OpenSpec.ofChange fnExactUnitVectorWrong)

/-- 'laws.FnExactCombine': WHATEVER THE INPUT: true; the input reads as it did. -/
def fnExactCombineSpec : ChangeSpec := { name := "fnExactCombine", fn := fun _ => fun
  | [d1, d2] => { results := [.lit (.bool true)], args := [d1, d2] }
  | _ => none }
def fnExactCombineRow : OpenClaim := { program := "ytecijpfcnhbkcaa", sum := "3ec24bda11eb2d29b989d9428a4399965d078c1bfa2ea0c506c8296677366baf", func := "loop.example/g00513/laws.FnExactCombine", spec := "fnExactCombine", unfollowed := true, recurses := true, apart := false }
def FnExactCombineSaid : Prop := fnExactCombineRow.holds Try.pinned (OpenSpec.ofChange fnExactCombineSpec)

/-- ITS FALSE NEIGHBOUR: 'it returns false'. Refute it at one input. -/
def fnExactCombineWrong : ChangeSpec := { name := "fnExactCombine", fn := fun _ => fun
  | [d1, d2] => { results := [.lit (.bool false)], args := [d1, d2] }
  | _ => none }
def FnExactCombineWrongFalsely : Prop := fnExactCombineRow.holds Try.pinned (OpenSpec.ofChange fnExactCombineWrong)

/-- 'laws.FnExactEqualVectors': WHATEVER THE INPUT: true; the input reads as it did. -/
def fnExactEqualVectorsSpec : ChangeSpec := { name := "fnExactEqualVectors", fn := fun _ => fun
  | [d1, d2] => { results := [.lit (.bool true)], args := [d1, d2] }
  | _ => none }
def fnExactEqualVectorsRow : OpenClaim := { program := "ytecijpfcnhbkcaa", sum := "3ec24bda11eb2d29b989d9428a4399965d078c1bfa2ea0c506c8296677366baf", func := "loop.example/g00513/laws.FnExactEqualVectors", spec := "fnExactEqualVectors", apart := false }
def FnExactEqualVectorsSaid : Prop := fnExactEqualVectorsRow.holds Try.pinned (OpenSpec.ofChange fnExactEqualVectorsSpec)

/-- ITS FALSE NEIGHBOUR: 'it returns false'. Refute it at one input. -/
def fnExactEqualVectorsWrong : ChangeSpec := { name := "fnExactEqualVectors", fn := fun _ => fun
  | [d1, d2] => { results := [.lit (.bool false)], args := [d1, d2] }
  | _ => none }
def FnExactEqualVectorsWrongFalsely : Prop := fnExactEqualVectorsRow.holds Try.pinned (OpenSpec.ofChange fnExactEqualVectorsWrong)

/- THE SECOND FORM. 'bulk': how many values and letters a reading holds, each counted each time it is reached (what is shared counts as often as it is met; a slice's spare places count too). A statement '..UptoSaid' is the law's where the arguments, and the package variables that the reading takes, are together of bulk at most 1048576: NARROWER than '..Said'. Prove '..Said' where nothing that the law and all that it calls make is longer than what came in: it says more and counts as full. Else prove '..UptoSaid'. A law counts once. -/
mutual
def uptoBulk {H : Type} : DataW H → Nat
  | .lit (.string bytes) => bytes.length + 1
  | .lit _ => 1
  | .nil => 1
  | .ptr d => uptoBulk d + 1
  | .slice elems spare => uptoBulkAll elems + uptoBulkAll spare + 1
  | .agg parts => uptoBulkAll parts + 1
  | .iface _ d => uptoBulk d + 1
  | .map entries => uptoBulkEntries entries + 1
  | .held _ => 1
def uptoBulkAll {H : Type} : List (DataW H) → Nat
  | [] => 0
  | d :: r => uptoBulk d + uptoBulkAll r
def uptoBulkEntries {H : Type} : List (Lit × DataW H) → Nat
  | [] => 0
  | x :: r => uptoBulkEntry x + uptoBulkEntries r
def uptoBulkEntry {H : Type} : Lit × DataW H → Nat
  | (.string bytes, d) => bytes.length + uptoBulk d + 1
  | (_, d) => uptoBulk d + 1
 end
def uptoSmall : (H : Type) → List (DataW H) → Bool := fun _ ds => decide (uptoBulkAll ds ≤ 1048576)
def OpenSpec.upto (s : _root_.Go.ChangeSpec) : _root_.Go.OpenSpec := { _root_.Go.OpenSpec.ofChange s with cond := some uptoSmall }

/-- 'laws.FnVectors', WHERE WHAT IT READS IS OF BULK AT MOST 1048576: true; the input reads as it did. -/
def fnVectorsUptoRow : OpenClaim := { program := "ytecijpfcnhbkcaa", sum := "3ec24bda11eb2d29b989d9428a4399965d078c1bfa2ea0c506c8296677366baf", func := "loop.example/g00513/laws.FnVectors", spec := "fnVectors", unfollowed := true, recurses := true, apart := false, narrowed := true }
def FnVectorsUptoSaid : Prop := fnVectorsUptoRow.holds Try.pinned (OpenSpec.upto fnVectorsSpec)

/-- 'laws.FnCombinations', WHERE WHAT IT READS IS OF BULK AT MOST 1048576: true; the input reads as it did. -/
def fnCombinationsUptoRow : OpenClaim := { program := "ytecijpfcnhbkcaa", sum := "3ec24bda11eb2d29b989d9428a4399965d078c1bfa2ea0c506c8296677366baf", func := "loop.example/g00513/laws.FnCombinations", spec := "fnCombinations", unfollowed := true, recurses := true, apart := false, narrowed := true }
def FnCombinationsUptoSaid : Prop := fnCombinationsUptoRow.holds Try.pinned (OpenSpec.upto fnCombinationsSpec)

/-- 'laws.FnExactIsValidVector', WHERE WHAT IT READS IS OF BULK AT MOST 1048576: true; the input reads as it did. -/
def fnExactIsValidVectorUptoRow : OpenClaim := { program := "ytecijpfcnhbkcaa", sum := "3ec24bda11eb2d29b989d9428a4399965d078c1bfa2ea0c506c8296677366baf", func := "loop.example/g00513/laws.FnExactIsValidVector", spec := "fnExactIsValidVector", apart := false, narrowed := true }
def FnExactIsValidVectorUptoSaid : Prop := fnExactIsValidVectorUptoRow.holds Try.pinned (OpenSpec.upto fnExactIsValidVectorSpec)

/-- 'laws.FnExactAddVectors', WHERE WHAT IT READS IS OF BULK AT MOST 1048576: true; the input reads as it did. -/
def fnExactAddVectorsUptoRow : OpenClaim := { program := "ytecijpfcnhbkcaa", sum := "3ec24bda11eb2d29b989d9428a4399965d078c1bfa2ea0c506c8296677366baf", func := "loop.example/g00513/laws.FnExactAddVectors", spec := "fnExactAddVectors", unfollowed := true, recurses := true, apart := false, narrowed := true }
def FnExactAddVectorsUptoSaid : Prop := fnExactAddVectorsUptoRow.holds Try.pinned (OpenSpec.upto fnExactAddVectorsSpec)

/-- 'laws.FnExactScaleVector', WHERE WHAT IT READS IS OF BULK AT MOST 1048576: true; the input reads as it did. -/
def fnExactScaleVectorUptoRow : OpenClaim := { program := "ytecijpfcnhbkcaa", sum := "3ec24bda11eb2d29b989d9428a4399965d078c1bfa2ea0c506c8296677366baf", func := "loop.example/g00513/laws.FnExactScaleVector", spec := "fnExactScaleVector", unfollowed := true, recurses := true, apart := false, narrowed := true }
def FnExactScaleVectorUptoSaid : Prop := fnExactScaleVectorUptoRow.holds Try.pinned (OpenSpec.upto fnExactScaleVectorSpec)

/-- 'laws.FnExactAddScaled', WHERE WHAT IT READS IS OF BULK AT MOST 1048576: true; the input reads as it did. -/
def fnExactAddScaledUptoRow : OpenClaim := { program := "ytecijpfcnhbkcaa", sum := "3ec24bda11eb2d29b989d9428a4399965d078c1bfa2ea0c506c8296677366baf", func := "loop.example/g00513/laws.FnExactAddScaled", spec := "fnExactAddScaled", unfollowed := true, recurses := true, apart := false, narrowed := true }
def FnExactAddScaledUptoSaid : Prop := fnExactAddScaledUptoRow.holds Try.pinned (OpenSpec.upto fnExactAddScaledSpec)

/-- 'laws.FnExactDotProduct', WHERE WHAT IT READS IS OF BULK AT MOST 1048576: true; the input reads as it did. -/
def fnExactDotProductUptoRow : OpenClaim := { program := "ytecijpfcnhbkcaa", sum := "3ec24bda11eb2d29b989d9428a4399965d078c1bfa2ea0c506c8296677366baf", func := "loop.example/g00513/laws.FnExactDotProduct", spec := "fnExactDotProduct", unfollowed := true, recurses := true, apart := false, narrowed := true }
def FnExactDotProductUptoSaid : Prop := fnExactDotProductUptoRow.holds Try.pinned (OpenSpec.upto fnExactDotProductSpec)

/-- 'laws.FnExactLeadingIndex', WHERE WHAT IT READS IS OF BULK AT MOST 1048576: true; the input reads as it did. -/
def fnExactLeadingIndexUptoRow : OpenClaim := { program := "ytecijpfcnhbkcaa", sum := "3ec24bda11eb2d29b989d9428a4399965d078c1bfa2ea0c506c8296677366baf", func := "loop.example/g00513/laws.FnExactLeadingIndex", spec := "fnExactLeadingIndex", unfollowed := true, recurses := true, apart := false, narrowed := true }
def FnExactLeadingIndexUptoSaid : Prop := fnExactLeadingIndexUptoRow.holds Try.pinned (OpenSpec.upto fnExactLeadingIndexSpec)

/-- 'laws.FnExactUnitVector', WHERE WHAT IT READS IS OF BULK AT MOST 1048576: true; the input reads as it did. -/
def fnExactUnitVectorUptoRow : OpenClaim := { program := "ytecijpfcnhbkcaa", sum := "3ec24bda11eb2d29b989d9428a4399965d078c1bfa2ea0c506c8296677366baf", func := "loop.example/g00513/laws.FnExactUnitVector", spec := "fnExactUnitVector", apart := false, narrowed := true }
def FnExactUnitVectorUptoSaid : Prop := fnExactUnitVectorUptoRow.holds Try.pinned (OpenSpec.upto fnExactUnitVectorSpec)

/-- 'laws.FnExactCombine', WHERE WHAT IT READS IS OF BULK AT MOST 1048576: true; the input reads as it did. -/
def fnExactCombineUptoRow : OpenClaim := { program := "ytecijpfcnhbkcaa", sum := "3ec24bda11eb2d29b989d9428a4399965d078c1bfa2ea0c506c8296677366baf", func := "loop.example/g00513/laws.FnExactCombine", spec := "fnExactCombine", unfollowed := true, recurses := true, apart := false, narrowed := true }
def FnExactCombineUptoSaid : Prop := fnExactCombineUptoRow.holds Try.pinned (OpenSpec.upto fnExactCombineSpec)

/-- 'laws.FnExactEqualVectors', WHERE WHAT IT READS IS OF BULK AT MOST 1048576: true; the input reads as it did. -/
def fnExactEqualVectorsUptoRow : OpenClaim := { program := "ytecijpfcnhbkcaa", sum := "3ec24bda11eb2d29b989d9428a4399965d078c1bfa2ea0c506c8296677366baf", func := "loop.example/g00513/laws.FnExactEqualVectors", spec := "fnExactEqualVectors", apart := false, narrowed := true }
def FnExactEqualVectorsUptoSaid : Prop := fnExactEqualVectorsUptoRow.holds Try.pinned (OpenSpec.upto fnExactEqualVectorsSpec)

end Rows
end Go.Proofs.Ytecijpfcnhbkcaa
