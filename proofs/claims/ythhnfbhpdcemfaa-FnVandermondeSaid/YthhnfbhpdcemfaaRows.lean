/-
  No cell of these rows narrows 'for every input' (looked for: loops, veiled, ifaces, maps, wideKeys, modest, calm, conditions, laid).
  DERIVED. THE GIVEN ROWS OF THIS SEAT. 10 by the template 'for every input the law returns true; each argument reads behind the call as it read before'; 0 by the template 'total and deterministic' (their statements: YthhnfbhpdcemfaaTotals.lean).
  GIVEN WITH THE SEED: the statements are not yours to turn. If you find one false, say at which input.
  Laid BY PROGRAM, IN A SANDBOX (cutbox-rows.mjs): the forced cells as the released guide's own fill.sh prints them over the translation 0454c4d591479780… (all of the seat's roots in one cut). By AI agents, Wed Nov 11 2026. No macro, syntax, notation, axiom, sorry.
-/
import Derived.Test.YthhnfbhpdcemfaaChecked
import GoSem.Claim
import GoSem.ClaimJoined
import GoSem.ClaimMapViews
import Derived.JoinedTies
import Derived.KernelRfl
namespace Go.Proofs.Ythhnfbhpdcemfaa
/- THE CELL 'sum', in the pinned program and in every row, IS THE sha256 OF THE DUMP (.gsa) THAT YthhnfbhpdcemfaaProg.lean LOADS. Nothing in Lean hashes anything: it is a label: what it is worth is what the hold of that sum in a sandbox is worth. -/
noncomputable def Try.pinned : Pinned := { name := "ythhnfbhpdcemfaa", sum := "0454c4d5914797803de8d4ac38e7bf44ebaff430677bddb1aa29733f9ee55fd0", checked := Try.checked }
namespace Rows
def none {H : Type} : Left H := { results := [], args := [] }

/-- 'laws.FnMatrices': WHATEVER THE INPUT: true; the input reads as it did. -/
def fnMatricesSpec : ChangeSpec := { name := "fnMatrices", fn := fun _ => fun
  | [d] => { results := [.lit (.bool true)], args := [d] }
  | _ => none }
def fnMatricesRow : OpenClaim := { program := "ythhnfbhpdcemfaa", sum := "0454c4d5914797803de8d4ac38e7bf44ebaff430677bddb1aa29733f9ee55fd0", func := "loop.example/g00513/laws.FnMatrices", spec := "fnMatrices", unfollowed := true, recurses := true, apart := false }
def FnMatricesSaid : Prop := fnMatricesRow.holds Try.pinned (OpenSpec.ofChange fnMatricesSpec)

/-- ITS FALSE NEIGHBOUR: 'it returns false'. Refute it at one input. -/
def fnMatricesWrong : ChangeSpec := { name := "fnMatrices", fn := fun _ => fun
  | [d] => { results := [.lit (.bool false)], args := [d] }
  | _ => none }
def FnMatricesWrongFalsely : Prop := fnMatricesRow.holds Try.pinned (OpenSpec.ofChange fnMatricesWrong)

/-- 'laws.FnVandermonde': WHATEVER THE INPUT: true; the input reads as it did. -/
def fnVandermondeSpec : ChangeSpec := { name := "fnVandermonde", fn := fun _ => fun
  | [d] => { results := [.lit (.bool true)], args := [d] }
  | _ => none }
def fnVandermondeRow : OpenClaim := { program := "ythhnfbhpdcemfaa", sum := "0454c4d5914797803de8d4ac38e7bf44ebaff430677bddb1aa29733f9ee55fd0", func := "loop.example/g00513/laws.FnVandermonde", spec := "fnVandermonde", unfollowed := true, recurses := true, apart := false }
def FnVandermondeSaid : Prop := fnVandermondeRow.holds Try.pinned (OpenSpec.ofChange fnVandermondeSpec)

/-- ITS FALSE NEIGHBOUR: 'it returns false'. Refute it at one input. -/
def fnVandermondeWrong : ChangeSpec := { name := "fnVandermonde", fn := fun _ => fun
  | [d] => { results := [.lit (.bool false)], args := [d] }
  | _ => none }
def FnVandermondeWrongFalsely : Prop := fnVandermondeRow.holds Try.pinned (OpenSpec.ofChange fnVandermondeWrong)

/-- 'laws.FnExactIsValidMatrix': WHATEVER THE INPUT: true; the input reads as it did. -/
def fnExactIsValidMatrixSpec : ChangeSpec := { name := "fnExactIsValidMatrix", fn := fun _ => fun
  | [d] => { results := [.lit (.bool true)], args := [d] }
  | _ => none }
def fnExactIsValidMatrixRow : OpenClaim := { program := "ythhnfbhpdcemfaa", sum := "0454c4d5914797803de8d4ac38e7bf44ebaff430677bddb1aa29733f9ee55fd0", func := "loop.example/g00513/laws.FnExactIsValidMatrix", spec := "fnExactIsValidMatrix", apart := false }
def FnExactIsValidMatrixSaid : Prop := fnExactIsValidMatrixRow.holds Try.pinned (OpenSpec.ofChange fnExactIsValidMatrixSpec)

/-- ITS FALSE NEIGHBOUR: 'it returns false'. Refute it at one input. -/
def fnExactIsValidMatrixWrong : ChangeSpec := { name := "fnExactIsValidMatrix", fn := fun _ => fun
  | [d] => { results := [.lit (.bool false)], args := [d] }
  | _ => none }
def FnExactIsValidMatrixWrongFalsely : Prop := fnExactIsValidMatrixRow.holds Try.pinned (OpenSpec.ofChange fnExactIsValidMatrixWrong)

/-- 'laws.FnExactColumnsOf': WHATEVER THE INPUT: true; the input reads as it did. -/
def fnExactColumnsOfSpec : ChangeSpec := { name := "fnExactColumnsOf", fn := fun _ => fun
  | [d] => { results := [.lit (.bool true)], args := [d] }
  | _ => none }
def fnExactColumnsOfRow : OpenClaim := { program := "ythhnfbhpdcemfaa", sum := "0454c4d5914797803de8d4ac38e7bf44ebaff430677bddb1aa29733f9ee55fd0", func := "loop.example/g00513/laws.FnExactColumnsOf", spec := "fnExactColumnsOf", apart := false }
def FnExactColumnsOfSaid : Prop := fnExactColumnsOfRow.holds Try.pinned (OpenSpec.ofChange fnExactColumnsOfSpec)

/-- ITS FALSE NEIGHBOUR: 'it returns false'. Refute it at one input. -/
def fnExactColumnsOfWrong : ChangeSpec := { name := "fnExactColumnsOf", fn := fun _ => fun
  | [d] => { results := [.lit (.bool false)], args := [d] }
  | _ => none }
def FnExactColumnsOfWrongFalsely : Prop := fnExactColumnsOfRow.holds Try.pinned (OpenSpec.ofChange fnExactColumnsOfWrong)

/-- 'laws.FnExactIdentity': WHATEVER THE INPUT: true; the input reads as it did. -/
def fnExactIdentitySpec : ChangeSpec := { name := "fnExactIdentity", fn := fun _ => fun
  | [d] => { results := [.lit (.bool true)], args := [d] }
  | _ => none }
def fnExactIdentityRow : OpenClaim := { program := "ythhnfbhpdcemfaa", sum := "0454c4d5914797803de8d4ac38e7bf44ebaff430677bddb1aa29733f9ee55fd0", func := "loop.example/g00513/laws.FnExactIdentity", spec := "fnExactIdentity", apart := false }
def FnExactIdentitySaid : Prop := fnExactIdentityRow.holds Try.pinned (OpenSpec.ofChange fnExactIdentitySpec)

/-- ITS FALSE NEIGHBOUR: 'it returns false'. Refute it at one input. -/
def fnExactIdentityWrong : ChangeSpec := { name := "fnExactIdentity", fn := fun _ => fun
  | [d] => { results := [.lit (.bool false)], args := [d] }
  | _ => none }
def FnExactIdentityWrongFalsely : Prop := fnExactIdentityRow.holds Try.pinned (OpenSpec.ofChange fnExactIdentityWrong)

/-- 'laws.FnExactTranspose': WHATEVER THE INPUT: true; the input reads as it did. -/
def fnExactTransposeSpec : ChangeSpec := { name := "fnExactTranspose", fn := fun _ => fun
  | [d] => { results := [.lit (.bool true)], args := [d] }
  | _ => none }
def fnExactTransposeRow : OpenClaim := { program := "ythhnfbhpdcemfaa", sum := "0454c4d5914797803de8d4ac38e7bf44ebaff430677bddb1aa29733f9ee55fd0", func := "loop.example/g00513/laws.FnExactTranspose", spec := "fnExactTranspose", unfollowed := true, recurses := true, apart := false }
def FnExactTransposeSaid : Prop := fnExactTransposeRow.holds Try.pinned (OpenSpec.ofChange fnExactTransposeSpec)

/-- ITS FALSE NEIGHBOUR: 'it returns false'. Refute it at one input. -/
def fnExactTransposeWrong : ChangeSpec := { name := "fnExactTranspose", fn := fun _ => fun
  | [d] => { results := [.lit (.bool false)], args := [d] }
  | _ => none }
def FnExactTransposeWrongFalsely : Prop := fnExactTransposeRow.holds Try.pinned (OpenSpec.ofChange fnExactTransposeWrong)

/-- 'laws.FnExactMulMatrices': WHATEVER THE INPUT: true; the input reads as it did. -/
def fnExactMulMatricesSpec : ChangeSpec := { name := "fnExactMulMatrices", fn := fun _ => fun
  | [d1, d2] => { results := [.lit (.bool true)], args := [d1, d2] }
  | _ => none }
def fnExactMulMatricesRow : OpenClaim := { program := "ythhnfbhpdcemfaa", sum := "0454c4d5914797803de8d4ac38e7bf44ebaff430677bddb1aa29733f9ee55fd0", func := "loop.example/g00513/laws.FnExactMulMatrices", spec := "fnExactMulMatrices", unfollowed := true, recurses := true, apart := false }
def FnExactMulMatricesSaid : Prop := fnExactMulMatricesRow.holds Try.pinned (OpenSpec.ofChange fnExactMulMatricesSpec)

/-- ITS FALSE NEIGHBOUR: 'it returns false'. Refute it at one input. -/
def fnExactMulMatricesWrong : ChangeSpec := { name := "fnExactMulMatrices", fn := fun _ => fun
  | [d1, d2] => { results := [.lit (.bool false)], args := [d1, d2] }
  | _ => none }
def FnExactMulMatricesWrongFalsely : Prop := fnExactMulMatricesRow.holds Try.pinned (OpenSpec.ofChange fnExactMulMatricesWrong)

/-- 'laws.FnExactMulMatrixVector': WHATEVER THE INPUT: true; the input reads as it did. -/
def fnExactMulMatrixVectorSpec : ChangeSpec := { name := "fnExactMulMatrixVector", fn := fun _ => fun
  | [d1, d2] => { results := [.lit (.bool true)], args := [d1, d2] }
  | _ => none }
def fnExactMulMatrixVectorRow : OpenClaim := { program := "ythhnfbhpdcemfaa", sum := "0454c4d5914797803de8d4ac38e7bf44ebaff430677bddb1aa29733f9ee55fd0", func := "loop.example/g00513/laws.FnExactMulMatrixVector", spec := "fnExactMulMatrixVector", unfollowed := true, recurses := true, apart := false }
def FnExactMulMatrixVectorSaid : Prop := fnExactMulMatrixVectorRow.holds Try.pinned (OpenSpec.ofChange fnExactMulMatrixVectorSpec)

/-- ITS FALSE NEIGHBOUR: 'it returns false'. Refute it at one input. -/
def fnExactMulMatrixVectorWrong : ChangeSpec := { name := "fnExactMulMatrixVector", fn := fun _ => fun
  | [d1, d2] => { results := [.lit (.bool false)], args := [d1, d2] }
  | _ => none }
def FnExactMulMatrixVectorWrongFalsely : Prop := fnExactMulMatrixVectorRow.holds Try.pinned (OpenSpec.ofChange fnExactMulMatrixVectorWrong)

/-- 'laws.FnExactVandermonde': WHATEVER THE INPUT: true; the input reads as it did. -/
def fnExactVandermondeSpec : ChangeSpec := { name := "fnExactVandermonde", fn := fun _ => fun
  | [d1, d2] => { results := [.lit (.bool true)], args := [d1, d2] }
  | _ => none }
def fnExactVandermondeRow : OpenClaim := { program := "ythhnfbhpdcemfaa", sum := "0454c4d5914797803de8d4ac38e7bf44ebaff430677bddb1aa29733f9ee55fd0", func := "loop.example/g00513/laws.FnExactVandermonde", spec := "fnExactVandermonde", unfollowed := true, recurses := true, apart := false }
def FnExactVandermondeSaid : Prop := fnExactVandermondeRow.holds Try.pinned (OpenSpec.ofChange fnExactVandermondeSpec)

/-- ITS FALSE NEIGHBOUR: 'it returns false'. Refute it at one input. -/
def fnExactVandermondeWrong : ChangeSpec := { name := "fnExactVandermonde", fn := fun _ => fun
  | [d1, d2] => { results := [.lit (.bool false)], args := [d1, d2] }
  | _ => none }
def FnExactVandermondeWrongFalsely : Prop := fnExactVandermondeRow.holds Try.pinned (OpenSpec.ofChange fnExactVandermondeWrong)

/-- 'laws.FnExactEqualMatrices': WHATEVER THE INPUT: true; the input reads as it did. -/
def fnExactEqualMatricesSpec : ChangeSpec := { name := "fnExactEqualMatrices", fn := fun _ => fun
  | [d1, d2] => { results := [.lit (.bool true)], args := [d1, d2] }
  | _ => none }
def fnExactEqualMatricesRow : OpenClaim := { program := "ythhnfbhpdcemfaa", sum := "0454c4d5914797803de8d4ac38e7bf44ebaff430677bddb1aa29733f9ee55fd0", func := "loop.example/g00513/laws.FnExactEqualMatrices", spec := "fnExactEqualMatrices", unfollowed := true, recurses := true, apart := false }
def FnExactEqualMatricesSaid : Prop := fnExactEqualMatricesRow.holds Try.pinned (OpenSpec.ofChange fnExactEqualMatricesSpec)

/-- ITS FALSE NEIGHBOUR: 'it returns false'. Refute it at one input. -/
def fnExactEqualMatricesWrong : ChangeSpec := { name := "fnExactEqualMatrices", fn := fun _ => fun
  | [d1, d2] => { results := [.lit (.bool false)], args := [d1, d2] }
  | _ => none }
def FnExactEqualMatricesWrongFalsely : Prop := fnExactEqualMatricesRow.holds Try.pinned (OpenSpec.ofChange fnExactEqualMatricesWrong)

/- THE SECOND FORM. 'bulk': how many values and letters a reading holds, each counted each time it is reached (what is shared counts as often as it is met; a slice's spare places count too). A statement '..UptoSaid' is the law's where the arguments, and the package variables that the reading takes, are together of bulk at most 1048576: NARROWER than '..Said'. Prove '..Said' where nothing that the law and all that it calls make is longer than what came in: it says more and counts as full. Else prove '..UptoSaid'. A law counts once. -/
mutual
def uptoBulk {H : Type} : DataW H → Nat
  | .lit (.string bytes) => bytes.length + 1
  | .lit _ => 1
  | .nil => 1
  | .ptr d => uptoBulk d + 1
  | .slice elems spare => uptoBulkAll elems + uptoBulkAll spare + 1
  | .agg parts => uptoBulkAll parts + 1
  | .iface _ d => uptoBulk d + 1
  | .map entries => uptoBulkEntries entries + 1
  | .held _ => 1
def uptoBulkAll {H : Type} : List (DataW H) → Nat
  | [] => 0
  | d :: r => uptoBulk d + uptoBulkAll r
def uptoBulkEntries {H : Type} : List (Lit × DataW H) → Nat
  | [] => 0
  | x :: r => uptoBulkEntry x + uptoBulkEntries r
def uptoBulkEntry {H : Type} : Lit × DataW H → Nat
  | (.string bytes, d) => bytes.length + uptoBulk d + 1
  | (_, d) => uptoBulk d + 1
 end
def uptoSmall : (H : Type) → List (DataW H) → Bool := fun _ ds => decide (uptoBulkAll ds ≤ 1048576)
def OpenSpec.upto (s : _root_.Go.ChangeSpec) : _root_.Go.OpenSpec := { _root_.Go.OpenSpec.ofChange s with cond := some uptoSmall }

/-- 'laws.FnMatrices', WHERE WHAT IT READS IS OF BULK AT MOST 1048576: true; the input reads as it did. -/
def fnMatricesUptoRow : OpenClaim := { program := "ythhnfbhpdcemfaa", sum := "0454c4d5914797803de8d4ac38e7bf44ebaff430677bddb1aa29733f9ee55fd0", func := "loop.example/g00513/laws.FnMatrices", spec := "fnMatrices", unfollowed := true, recurses := true, apart := false, narrowed := true }
def FnMatricesUptoSaid : Prop := fnMatricesUptoRow.holds Try.pinned (OpenSpec.upto fnMatricesSpec)

/-- 'laws.FnVandermonde', WHERE WHAT IT READS IS OF BULK AT MOST 1048576: true; the input reads as it did. -/
def fnVandermondeUptoRow : OpenClaim := { program := "ythhnfbhpdcemfaa", sum := "0454c4d5914797803de8d4ac38e7bf44ebaff430677bddb1aa29733f9ee55fd0", func := "loop.example/g00513/laws.FnVandermonde", spec := "fnVandermonde", unfollowed := true, recurses := true, apart := false, narrowed := true }
def FnVandermondeUptoSaid : Prop := fnVandermondeUptoRow.holds Try.pinned (OpenSpec.upto fnVandermondeSpec)

/-- 'laws.FnExactIsValidMatrix', WHERE WHAT IT READS IS OF BULK AT MOST 1048576: true; the input reads as it did. -/
def fnExactIsValidMatrixUptoRow : OpenClaim := { program := "ythhnfbhpdcemfaa", sum := "0454c4d5914797803de8d4ac38e7bf44ebaff430677bddb1aa29733f9ee55fd0", func := "loop.example/g00513/laws.FnExactIsValidMatrix", spec := "fnExactIsValidMatrix", apart := false, narrowed := true }
def FnExactIsValidMatrixUptoSaid : Prop := fnExactIsValidMatrixUptoRow.holds Try.pinned (OpenSpec.upto fnExactIsValidMatrixSpec)

/-- 'laws.FnExactColumnsOf', WHERE WHAT IT READS IS OF BULK AT MOST 1048576: true; the input reads as it did. -/
def fnExactColumnsOfUptoRow : OpenClaim := { program := "ythhnfbhpdcemfaa", sum := "0454c4d5914797803de8d4ac38e7bf44ebaff430677bddb1aa29733f9ee55fd0", func := "loop.example/g00513/laws.FnExactColumnsOf", spec := "fnExactColumnsOf", apart := false, narrowed := true }
def FnExactColumnsOfUptoSaid : Prop := fnExactColumnsOfUptoRow.holds Try.pinned (OpenSpec.upto fnExactColumnsOfSpec)

/-- 'laws.FnExactIdentity', WHERE WHAT IT READS IS OF BULK AT MOST 1048576: true; the input reads as it did. -/
def fnExactIdentityUptoRow : OpenClaim := { program := "ythhnfbhpdcemfaa", sum := "0454c4d5914797803de8d4ac38e7bf44ebaff430677bddb1aa29733f9ee55fd0", func := "loop.example/g00513/laws.FnExactIdentity", spec := "fnExactIdentity", apart := false, narrowed := true }
def FnExactIdentityUptoSaid : Prop := fnExactIdentityUptoRow.holds Try.pinned (OpenSpec.upto fnExactIdentitySpec)

/-- 'laws.FnExactTranspose', WHERE WHAT IT READS IS OF BULK AT MOST 1048576: true; the input reads as it did. -/
def fnExactTransposeUptoRow : OpenClaim := { program := "ythhnfbhpdcemfaa", sum := "0454c4d5914797803de8d4ac38e7bf44ebaff430677bddb1aa29733f9ee55fd0", func := "loop.example/g00513/laws.FnExactTranspose", spec := "fnExactTranspose", unfollowed := true, recurses := true, apart := false, narrowed := true }
def FnExactTransposeUptoSaid : Prop := fnExactTransposeUptoRow.holds Try.pinned (OpenSpec.upto fnExactTransposeSpec)

/-- 'laws.FnExactMulMatrices', WHERE WHAT IT READS IS OF BULK AT MOST 1048576: true; the input reads as it did. -/
def fnExactMulMatricesUptoRow : OpenClaim := { program := "ythhnfbhpdcemfaa", sum := "0454c4d5914797803de8d4ac38e7bf44ebaff430677bddb1aa29733f9ee55fd0", func := "loop.example/g00513/laws.FnExactMulMatrices", spec := "fnExactMulMatrices", unfollowed := true, recurses := true, apart := false, narrowed := true }
def FnExactMulMatricesUptoSaid : Prop := fnExactMulMatricesUptoRow.holds Try.pinned (OpenSpec.upto fnExactMulMatricesSpec)

/-- 'laws.FnExactMulMatrixVector', WHERE WHAT IT READS IS OF BULK AT MOST 1048576: true; the input reads as it did. -/
def fnExactMulMatrixVectorUptoRow : OpenClaim := { program := "ythhnfbhpdcemfaa", sum := "0454c4d5914797803de8d4ac38e7bf44ebaff430677bddb1aa29733f9ee55fd0", func := "loop.example/g00513/laws.FnExactMulMatrixVector", spec := "fnExactMulMatrixVector", unfollowed := true, recurses := true, apart := false, narrowed := true }
def FnExactMulMatrixVectorUptoSaid : Prop := fnExactMulMatrixVectorUptoRow.holds Try.pinned (OpenSpec.upto fnExactMulMatrixVectorSpec)

/-- 'laws.FnExactVandermonde', WHERE WHAT IT READS IS OF BULK AT MOST 1048576: true; the input reads as it did. -/
def fnExactVandermondeUptoRow : OpenClaim := { program := "ythhnfbhpdcemfaa", sum := "0454c4d5914797803de8d4ac38e7bf44ebaff430677bddb1aa29733f9ee55fd0", func := "loop.example/g00513/laws.FnExactVandermonde", spec := "fnExactVandermonde", unfollowed := true, recurses := true, apart := false, narrowed := true }
def FnExactVandermondeUptoSaid : Prop := fnExactVandermondeUptoRow.holds Try.pinned (OpenSpec.upto fnExactVandermondeSpec)

/-- 'laws.FnExactEqualMatrices', WHERE WHAT IT READS IS OF BULK AT MOST 1048576: true; the input reads as it did. -/
def fnExactEqualMatricesUptoRow : OpenClaim := { program := "ythhnfbhpdcemfaa", sum := "0454c4d5914797803de8d4ac38e7bf44ebaff430677bddb1aa29733f9ee55fd0", func := "loop.example/g00513/laws.FnExactEqualMatrices", spec := "fnExactEqualMatrices", unfollowed := true, recurses := true, apart := false, narrowed := true }
def FnExactEqualMatricesUptoSaid : Prop := fnExactEqualMatricesUptoRow.holds Try.pinned (OpenSpec.upto fnExactEqualMatricesSpec)

end Rows
end Go.Proofs.Ythhnfbhpdcemfaa
