/-
  No cell of these rows narrows 'for every input' (looked for: loops, veiled, ifaces, maps, wideKeys, modest, calm, conditions, laid).
  DERIVED. THE GIVEN ROWS OF THIS SEAT. 8 by the template 'for every input the law returns true; each argument reads behind the call as it read before'; 0 by the template 'total and deterministic' (their statements: YtlgmiojlpnoiaaaTotals.lean).
  GIVEN WITH THE SEED: the statements are not yours to turn. If you find one false, say at which input.
  Laid BY PROGRAM, IN A SANDBOX (cutbox-rows.mjs): the forced cells as the released guide's own fill.sh prints them over the translation f491ee50068cda1a… (all of the seat's roots in one cut). By AI agents, Wed Nov 11 2026. No macro, syntax, notation, axiom, sorry.
-/
import Derived.Test.YtlgmiojlpnoiaaaChecked
import GoSem.Claim
import GoSem.ClaimJoined
import GoSem.ClaimMapViews
import Derived.JoinedTies
import Derived.KernelRfl
namespace Go.Proofs.Ytlgmiojlpnoiaaa
/- THE CELL 'sum', in the pinned program and in every row, IS THE sha256 OF THE DUMP (.gsa) THAT YtlgmiojlpnoiaaaProg.lean LOADS. Nothing in Lean hashes anything: it is a label: what it is worth is what the hold of that sum in a sandbox is worth. -/
noncomputable def Try.pinned : Pinned := { name := "ytlgmiojlpnoiaaa", sum := "f491ee50068cda1a2ab2a0238b70b9de416c2a45cbadd82cf760d8e147a41603", checked := Try.checked }
namespace Rows
def none {H : Type} : Left H := { results := [], args := [] }

/-- 'laws.FnCoefficients': WHATEVER THE INPUT: true; the input reads as it did. -/
def fnCoefficientsSpec : ChangeSpec := { name := "fnCoefficients", fn := fun _ => fun
  | [d] => { results := [.lit (.bool true)], args := [d] }
  | _ => none }
def fnCoefficientsRow : OpenClaim := { program := "ytlgmiojlpnoiaaa", sum := "f491ee50068cda1a2ab2a0238b70b9de416c2a45cbadd82cf760d8e147a41603", func := "loop.example/g00513/laws.FnCoefficients", spec := "fnCoefficients", unfollowed := true, recurses := true, apart := false }
def FnCoefficientsSaid : Prop := fnCoefficientsRow.holds Try.pinned (OpenSpec.ofChange fnCoefficientsSpec)

/-- ITS FALSE NEIGHBOUR: 'it returns false'. Refute it at one input. -/
def fnCoefficientsWrong : ChangeSpec := { name := "fnCoefficients", fn := fun _ => fun
  | [d] => { results := [.lit (.bool false)], args := [d] }
  | _ => none }
def FnCoefficientsWrongFalsely : Prop := fnCoefficientsRow.holds Try.pinned (OpenSpec.ofChange fnCoefficientsWrong)

/-- 'laws.FnExactCountNonzero': WHATEVER THE INPUT: true; the input reads as it did. -/
def fnExactCountNonzeroSpec : ChangeSpec := { name := "fnExactCountNonzero", fn := fun _ => fun
  | [d] => { results := [.lit (.bool true)], args := [d] }
  | _ => none }
def fnExactCountNonzeroRow : OpenClaim := { program := "ytlgmiojlpnoiaaa", sum := "f491ee50068cda1a2ab2a0238b70b9de416c2a45cbadd82cf760d8e147a41603", func := "loop.example/g00513/laws.FnExactCountNonzero", spec := "fnExactCountNonzero", apart := false }
def FnExactCountNonzeroSaid : Prop := fnExactCountNonzeroRow.holds Try.pinned (OpenSpec.ofChange fnExactCountNonzeroSpec)

/-- ITS FALSE NEIGHBOUR: 'it returns false'. Refute it at one input. -/
def fnExactCountNonzeroWrong : ChangeSpec := { name := "fnExactCountNonzero", fn := fun _ => fun
  | [d] => { results := [.lit (.bool false)], args := [d] }
  | _ => none }
def FnExactCountNonzeroWrongFalsely : Prop := fnExactCountNonzeroRow.holds Try.pinned (OpenSpec.ofChange fnExactCountNonzeroWrong)

/-- 'laws.FnExactEncodeDense': WHATEVER THE INPUT: true; the input reads as it did. -/
def fnExactEncodeDenseSpec : ChangeSpec := { name := "fnExactEncodeDense", fn := fun _ => fun
  | [d] => { results := [.lit (.bool true)], args := [d] }
  | _ => none }
def fnExactEncodeDenseRow : OpenClaim := { program := "ytlgmiojlpnoiaaa", sum := "f491ee50068cda1a2ab2a0238b70b9de416c2a45cbadd82cf760d8e147a41603", func := "loop.example/g00513/laws.FnExactEncodeDense", spec := "fnExactEncodeDense", unfollowed := true, recurses := true, apart := false }
def FnExactEncodeDenseSaid : Prop := fnExactEncodeDenseRow.holds Try.pinned (OpenSpec.ofChange fnExactEncodeDenseSpec)

/-- ITS FALSE NEIGHBOUR: 'it returns false'. Refute it at one input. -/
def fnExactEncodeDenseWrong : ChangeSpec := { name := "fnExactEncodeDense", fn := fun _ => fun
  | [d] => { results := [.lit (.bool false)], args := [d] }
  | _ => none }
def FnExactEncodeDenseWrongFalsely : Prop := fnExactEncodeDenseRow.holds Try.pinned (OpenSpec.ofChange fnExactEncodeDenseWrong)

/-- 'laws.FnExactEncodeSparse': WHATEVER THE INPUT: true; the input reads as it did. -/
def fnExactEncodeSparseSpec : ChangeSpec := { name := "fnExactEncodeSparse", fn := fun _ => fun
  | [d] => { results := [.lit (.bool true)], args := [d] }
  | _ => none }
def fnExactEncodeSparseRow : OpenClaim := { program := "ytlgmiojlpnoiaaa", sum := "f491ee50068cda1a2ab2a0238b70b9de416c2a45cbadd82cf760d8e147a41603", func := "loop.example/g00513/laws.FnExactEncodeSparse", spec := "fnExactEncodeSparse", unfollowed := true, recurses := true, apart := false }
def FnExactEncodeSparseSaid : Prop := fnExactEncodeSparseRow.holds Try.pinned (OpenSpec.ofChange fnExactEncodeSparseSpec)

/-- ITS FALSE NEIGHBOUR: 'it returns false'. Refute it at one input. -/
def fnExactEncodeSparseWrong : ChangeSpec := { name := "fnExactEncodeSparse", fn := fun _ => fun
  | [d] => { results := [.lit (.bool false)], args := [d] }
  | _ => none }
def FnExactEncodeSparseWrongFalsely : Prop := fnExactEncodeSparseRow.holds Try.pinned (OpenSpec.ofChange fnExactEncodeSparseWrong)

/-- 'laws.FnExactEncodeCoefficients': WHATEVER THE INPUT: true; the input reads as it did. -/
def fnExactEncodeCoefficientsSpec : ChangeSpec := { name := "fnExactEncodeCoefficients", fn := fun _ => fun
  | [d] => { results := [.lit (.bool true)], args := [d] }
  | _ => none }
def fnExactEncodeCoefficientsRow : OpenClaim := { program := "ytlgmiojlpnoiaaa", sum := "f491ee50068cda1a2ab2a0238b70b9de416c2a45cbadd82cf760d8e147a41603", func := "loop.example/g00513/laws.FnExactEncodeCoefficients", spec := "fnExactEncodeCoefficients", unfollowed := true, recurses := true, apart := false }
def FnExactEncodeCoefficientsSaid : Prop := fnExactEncodeCoefficientsRow.holds Try.pinned (OpenSpec.ofChange fnExactEncodeCoefficientsSpec)

/-- ITS FALSE NEIGHBOUR: 'it returns false'. Refute it at one input. -/
def fnExactEncodeCoefficientsWrong : ChangeSpec := { name := "fnExactEncodeCoefficients", fn := fun _ => fun
  | [d] => { results := [.lit (.bool false)], args := [d] }
  | _ => none }
def FnExactEncodeCoefficientsWrongFalsely : Prop := fnExactEncodeCoefficientsRow.holds Try.pinned (OpenSpec.ofChange fnExactEncodeCoefficientsWrong)

/-- 'laws.FnExactDecodeCoefficients': WHATEVER THE INPUT: true; the input reads as it did. -/
def fnExactDecodeCoefficientsSpec : ChangeSpec := { name := "fnExactDecodeCoefficients", fn := fun _ => fun
  | [d] => { results := [.lit (.bool true)], args := [d] }
  | _ => none }
def fnExactDecodeCoefficientsRow : OpenClaim := { program := "ytlgmiojlpnoiaaa", sum := "f491ee50068cda1a2ab2a0238b70b9de416c2a45cbadd82cf760d8e147a41603", func := "loop.example/g00513/laws.FnExactDecodeCoefficients", spec := "fnExactDecodeCoefficients", unfollowed := true, recurses := true, apart := false }
def FnExactDecodeCoefficientsSaid : Prop := fnExactDecodeCoefficientsRow.holds Try.pinned (OpenSpec.ofChange fnExactDecodeCoefficientsSpec)

/-- ITS FALSE NEIGHBOUR: 'it returns false'. Refute it at one input. -/
def fnExactDecodeCoefficientsWrong : ChangeSpec := { name := "fnExactDecodeCoefficients", fn := fun _ => fun
  | [d] => { results := [.lit (.bool false)], args := [d] }
  | _ => none }
def FnExactDecodeCoefficientsWrongFalsely : Prop := fnExactDecodeCoefficientsRow.holds Try.pinned (OpenSpec.ofChange fnExactDecodeCoefficientsWrong)

/-- 'laws.FnExactEncodedSize': WHATEVER THE INPUT: true; the input reads as it did. -/
def fnExactEncodedSizeSpec : ChangeSpec := { name := "fnExactEncodedSize", fn := fun _ => fun
  | [d] => { results := [.lit (.bool true)], args := [d] }
  | _ => none }
def fnExactEncodedSizeRow : OpenClaim := { program := "ytlgmiojlpnoiaaa", sum := "f491ee50068cda1a2ab2a0238b70b9de416c2a45cbadd82cf760d8e147a41603", func := "loop.example/g00513/laws.FnExactEncodedSize", spec := "fnExactEncodedSize", unfollowed := true, recurses := true, apart := false }
def FnExactEncodedSizeSaid : Prop := fnExactEncodedSizeRow.holds Try.pinned (OpenSpec.ofChange fnExactEncodedSizeSpec)

/-- ITS FALSE NEIGHBOUR: 'it returns false'. Refute it at one input. -/
def fnExactEncodedSizeWrong : ChangeSpec := { name := "fnExactEncodedSize", fn := fun _ => fun
  | [d] => { results := [.lit (.bool false)], args := [d] }
  | _ => none }
def FnExactEncodedSizeWrongFalsely : Prop := fnExactEncodedSizeRow.holds Try.pinned (OpenSpec.ofChange fnExactEncodedSizeWrong)

/-- 'laws.FnExactDensityPercent': WHATEVER THE INPUT: true; the input reads as it did. -/
def fnExactDensityPercentSpec : ChangeSpec := { name := "fnExactDensityPercent", fn := fun _ => fun
  | [d] => { results := [.lit (.bool true)], args := [d] }
  | _ => none }
def fnExactDensityPercentRow : OpenClaim := { program := "ytlgmiojlpnoiaaa", sum := "f491ee50068cda1a2ab2a0238b70b9de416c2a45cbadd82cf760d8e147a41603", func := "loop.example/g00513/laws.FnExactDensityPercent", spec := "fnExactDensityPercent", apart := false }
def FnExactDensityPercentSaid : Prop := fnExactDensityPercentRow.holds Try.pinned (OpenSpec.ofChange fnExactDensityPercentSpec)

/-- ITS FALSE NEIGHBOUR: 'it returns false'. Refute it at one input. -/
def fnExactDensityPercentWrong : ChangeSpec := { name := "fnExactDensityPercent", fn := fun _ => fun
  | [d] => { results := [.lit (.bool false)], args := [d] }
  | _ => none }
def FnExactDensityPercentWrongFalsely : Prop := fnExactDensityPercentRow.holds Try.pinned (OpenSpec.ofChange fnExactDensityPercentWrong)

/- THE SECOND FORM. 'bulk': how many values and letters a reading holds, each counted each time it is reached (what is shared counts as often as it is met; a slice's spare places count too). A statement '..UptoSaid' is the law's where the arguments, and the package variables that the reading takes, are together of bulk at most 1048576: NARROWER than '..Said'. Prove '..Said' where nothing that the law and all that it calls make is longer than what came in: it says more and counts as full. Else prove '..UptoSaid'. A law counts once. -/
mutual
def uptoBulk {H : Type} : DataW H → Nat
  | .lit (.string bytes) => bytes.length + 1
  | .lit _ => 1
  | .nil => 1
  | .ptr d => uptoBulk d + 1
  | .slice elems spare => uptoBulkAll elems + uptoBulkAll spare + 1
  | .agg parts => uptoBulkAll parts + 1
  | .iface _ d => uptoBulk d + 1
  | .map entries => uptoBulkEntries entries + 1
  | .held _ => 1
def uptoBulkAll {H : Type} : List (DataW H) → Nat
  | [] => 0
  | d :: r => uptoBulk d + uptoBulkAll r
def uptoBulkEntries {H : Type} : List (Lit × DataW H) → Nat
  | [] => 0
  | x :: r => uptoBulkEntry x + uptoBulkEntries r
def uptoBulkEntry {H : Type} : Lit × DataW H → Nat
  | (.string bytes, d) => bytes.length + uptoBulk d + 1
  | (_, d) => uptoBulk d + 1
 end
def uptoSmall : (H : Type) → List (DataW H) → Bool := fun _ ds => decide (uptoBulkAll ds ≤ 1048576)
def OpenSpec.upto (s : _root_.Go.ChangeSpec) : _root_.Go.OpenSpec := { _root_.Go.OpenSpec.ofChange s with cond := some uptoSmall }

/-- 'laws.FnCoefficients', WHERE WHAT IT READS IS OF BULK AT MOST 1048576: true; the input reads as it did. -/
def fnCoefficientsUptoRow : OpenClaim := { program := "ytlgmiojlpnoiaaa", sum := "f491ee50068cda1a2ab2a0238b70b9de416c2a45cbadd82cf760d8e147a41603", func := "loop.example/g00513/laws.FnCoefficients", spec := "fnCoefficients", unfollowed := true, recurses := true, apart := false, narrowed := true }
def FnCoefficientsUptoSaid : Prop := fnCoefficientsUptoRow.holds Try.pinned (OpenSpec.upto fnCoefficientsSpec)

/-- 'laws.FnExactCountNonzero', WHERE WHAT IT READS IS OF BULK AT MOST 1048576: true; the input reads as it did. -/
def fnExactCountNonzeroUptoRow : OpenClaim := { program := "ytlgmiojlpnoiaaa", sum := "f491ee50068cda1a2ab2a0238b70b9de416c2a45cbadd82cf760d8e147a41603", func := "loop.example/g00513/laws.FnExactCountNonzero", spec := "fnExactCountNonzero", apart := false, narrowed := true }
def FnExactCountNonzeroUptoSaid : Prop := fnExactCountNonzeroUptoRow.holds Try.pinned (OpenSpec.upto fnExactCountNonzeroSpec)

/-- 'laws.FnExactEncodeDense', WHERE WHAT IT READS IS OF BULK AT MOST 1048576: true; the input reads as it did. -/
def fnExactEncodeDenseUptoRow : OpenClaim := { program := "ytlgmiojlpnoiaaa", sum := "f491ee50068cda1a2ab2a0238b70b9de416c2a45cbadd82cf760d8e147a41603", func := "loop.example/g00513/laws.FnExactEncodeDense", spec := "fnExactEncodeDense", unfollowed := true, recurses := true, apart := false, narrowed := true }
def FnExactEncodeDenseUptoSaid : Prop := fnExactEncodeDenseUptoRow.holds Try.pinned (OpenSpec.upto fnExactEncodeDenseSpec)

/-- 'laws.FnExactEncodeSparse', WHERE WHAT IT READS IS OF BULK AT MOST 1048576: true; the input reads as it did. -/
def fnExactEncodeSparseUptoRow : OpenClaim := { program := "ytlgmiojlpnoiaaa", sum := "f491ee50068cda1a2ab2a0238b70b9de416c2a45cbadd82cf760d8e147a41603", func := "loop.example/g00513/laws.FnExactEncodeSparse", spec := "fnExactEncodeSparse", unfollowed := true, recurses := true, apart := false, narrowed := true }
def FnExactEncodeSparseUptoSaid : Prop := fnExactEncodeSparseUptoRow.holds Try.pinned (OpenSpec.upto fnExactEncodeSparseSpec)

/-- 'laws.FnExactEncodeCoefficients', WHERE WHAT IT READS IS OF BULK AT MOST 1048576: true; the input reads as it did. -/
def fnExactEncodeCoefficientsUptoRow : OpenClaim := { program := "ytlgmiojlpnoiaaa", sum := "f491ee50068cda1a2ab2a0238b70b9de416c2a45cbadd82cf760d8e147a41603", func := "loop.example/g00513/laws.FnExactEncodeCoefficients", spec := "fnExactEncodeCoefficients", unfollowed := true, recurses := true, apart := false, narrowed := true }
def FnExactEncodeCoefficientsUptoSaid : Prop := fnExactEncodeCoefficientsUptoRow.holds Try.pinned (OpenSpec.upto fnExactEncodeCoefficientsSpec)

/-- 'laws.FnExactDecodeCoefficients', WHERE WHAT IT READS IS OF BULK AT MOST 1048576: true; the input reads as it did. -/
def fnExactDecodeCoefficientsUptoRow : OpenClaim := { program := "ytlgmiojlpnoiaaa", sum := "f491ee50068cda1a2ab2a0238b70b9de416c2a45cbadd82cf760d8e147a41603", func := "loop.example/g00513/laws.FnExactDecodeCoefficients", spec := "fnExactDecodeCoefficients", unfollowed := true, recurses := true, apart := false, narrowed := true }
def FnExactDecodeCoefficientsUptoSaid : Prop := fnExactDecodeCoefficientsUptoRow.holds Try.pinned (OpenSpec.upto fnExactDecodeCoefficientsSpec)

/-- 'laws.FnExactEncodedSize', WHERE WHAT IT READS IS OF BULK AT MOST 1048576: true; the input reads as it did. -/
def fnExactEncodedSizeUptoRow : OpenClaim := { program := "ytlgmiojlpnoiaaa", sum := "f491ee50068cda1a2ab2a0238b70b9de416c2a45cbadd82cf760d8e147a41603", func := "loop.example/g00513/laws.FnExactEncodedSize", spec := "fnExactEncodedSize", unfollowed := true, recurses := true, apart := false, narrowed := true }
def FnExactEncodedSizeUptoSaid : Prop := fnExactEncodedSizeUptoRow.holds Try.pinned (OpenSpec.upto fnExactEncodedSizeSpec)

/-- 'laws.FnExactDensityPercent', WHERE WHAT IT READS IS OF BULK AT MOST 1048576: true; the input reads as it did. -/
def fnExactDensityPercentUptoRow : OpenClaim := { program := "ytlgmiojlpnoiaaa", sum := "f491ee50068cda1a2ab2a0238b70b9de416c2a45cbadd82cf760d8e147a41603", func := "loop.example/g00513/laws.FnExactDensityPercent", spec := "fnExactDensityPercent", apart := false, narrowed := true }
def FnExactDensityPercentUptoSaid : Prop := fnExactDensityPercentUptoRow.holds Try.pinned (OpenSpec.upto fnExactDensityPercentSpec)

end Rows
end Go.Proofs.Ytlgmiojlpnoiaaa
