/-
  No cell of these rows narrows 'for every input' (looked for: loops, veiled, ifaces, maps, wideKeys, modest, calm, conditions, laid).
  DERIVED. THE GIVEN ROWS OF THIS SEAT. 9 by the template 'for every input the law returns true; each argument reads behind the call as it read before'; 0 by the template 'total and deterministic' (their statements: YtaieadpbfonkiaaTotals.lean).
  GIVEN WITH THE SEED: the statements are not yours to turn. If you find one false, say at which input.
  Laid BY PROGRAM, IN A SANDBOX (cutbox-rows.mjs): the forced cells as the released guide's own fill.sh prints them over the translation 905c2e91cc87bb19… (all of the seat's roots in one cut). By AI agents, Wed Nov 11 2026. No macro, syntax, notation, axiom, sorry.
-/
import Derived.Test.YtaieadpbfonkiaaChecked
import GoSem.Claim
import GoSem.ClaimJoined
import GoSem.ClaimMapViews
import Derived.JoinedTies
import Derived.KernelRfl
namespace Go.Proofs.Ytaieadpbfonkiaa
/- THE CELL 'sum', in the pinned program and in every row, IS THE sha256 OF THE DUMP (.gsa) THAT YtaieadpbfonkiaaProg.lean LOADS. Nothing in Lean hashes anything: it is a label: what it is worth is what the hold of that sum in a sandbox is worth. -/
noncomputable def Try.pinned : Pinned := { name := "ytaieadpbfonkiaa", sum := "905c2e91cc87bb1997a28b69b55f551db871b30f44d47148bde55279ba85754d", checked := Try.checked }
namespace Rows
def none {H : Type} : Left H := { results := [], args := [] }

/-- 'laws.FnBases': WHATEVER THE INPUT: true; the input reads as it did. -/
def fnBasesSpec : ChangeSpec := { name := "fnBases", fn := fun _ => fun
  | [d] => { results := [.lit (.bool true)], args := [d] }
  | _ => none }
def fnBasesRow : OpenClaim := { program := "ytaieadpbfonkiaa", sum := "905c2e91cc87bb1997a28b69b55f551db871b30f44d47148bde55279ba85754d", func := "loop.example/g00513/laws.FnBases", spec := "fnBases", inPlace := ["slices.overlaps[[]int]"], unfollowed := true, recurses := true, apart := false }
def FnBasesSaid : Prop := fnBasesRow.holds Try.pinned (OpenSpec.ofChange fnBasesSpec)

/-- ITS FALSE NEIGHBOUR: 'it returns false'. Refute it at one input. -/
def fnBasesWrong : ChangeSpec := { name := "fnBases", fn := fun _ => fun
  | [d] => { results := [.lit (.bool false)], args := [d] }
  | _ => none }
def FnBasesWrongFalsely : Prop := fnBasesRow.holds Try.pinned (OpenSpec.ofChange fnBasesWrong)

/-- 'laws.FnExactNewBasis': WHATEVER THE INPUT: true; the input reads as it did. -/
def fnExactNewBasisSpec : ChangeSpec := { name := "fnExactNewBasis", fn := fun _ => fun
  | [d] => { results := [.lit (.bool true)], args := [d] }
  | _ => none }
def fnExactNewBasisRow : OpenClaim := { program := "ytaieadpbfonkiaa", sum := "905c2e91cc87bb1997a28b69b55f551db871b30f44d47148bde55279ba85754d", func := "loop.example/g00513/laws.FnExactNewBasis", spec := "fnExactNewBasis", apart := false }
def FnExactNewBasisSaid : Prop := fnExactNewBasisRow.holds Try.pinned (OpenSpec.ofChange fnExactNewBasisSpec)

/-- ITS FALSE NEIGHBOUR: 'it returns false'. Refute it at one input. -/
def fnExactNewBasisWrong : ChangeSpec := { name := "fnExactNewBasis", fn := fun _ => fun
  | [d] => { results := [.lit (.bool false)], args := [d] }
  | _ => none }
def FnExactNewBasisWrongFalsely : Prop := fnExactNewBasisRow.holds Try.pinned (OpenSpec.ofChange fnExactNewBasisWrong)

/-- 'laws.FnExactIsValidBasis': WHATEVER THE INPUT: true; the input reads as it did. -/
def fnExactIsValidBasisSpec : ChangeSpec := { name := "fnExactIsValidBasis", fn := fun _ => fun
  | [d] => { results := [.lit (.bool true)], args := [d] }
  | _ => none }
def fnExactIsValidBasisRow : OpenClaim := { program := "ytaieadpbfonkiaa", sum := "905c2e91cc87bb1997a28b69b55f551db871b30f44d47148bde55279ba85754d", func := "loop.example/g00513/laws.FnExactIsValidBasis", spec := "fnExactIsValidBasis", unfollowed := true, recurses := true, apart := false }
def FnExactIsValidBasisSaid : Prop := fnExactIsValidBasisRow.holds Try.pinned (OpenSpec.ofChange fnExactIsValidBasisSpec)

/-- ITS FALSE NEIGHBOUR: 'it returns false'. Refute it at one input. -/
def fnExactIsValidBasisWrong : ChangeSpec := { name := "fnExactIsValidBasis", fn := fun _ => fun
  | [d] => { results := [.lit (.bool false)], args := [d] }
  | _ => none }
def FnExactIsValidBasisWrongFalsely : Prop := fnExactIsValidBasisRow.holds Try.pinned (OpenSpec.ofChange fnExactIsValidBasisWrong)

/-- 'laws.FnExactReduceVector': WHATEVER THE INPUT: true; the input reads as it did. -/
def fnExactReduceVectorSpec : ChangeSpec := { name := "fnExactReduceVector", fn := fun _ => fun
  | [d1, d2] => { results := [.lit (.bool true)], args := [d1, d2] }
  | _ => none }
def fnExactReduceVectorRow : OpenClaim := { program := "ytaieadpbfonkiaa", sum := "905c2e91cc87bb1997a28b69b55f551db871b30f44d47148bde55279ba85754d", func := "loop.example/g00513/laws.FnExactReduceVector", spec := "fnExactReduceVector", unfollowed := true, recurses := true, apart := false }
def FnExactReduceVectorSaid : Prop := fnExactReduceVectorRow.holds Try.pinned (OpenSpec.ofChange fnExactReduceVectorSpec)

/-- ITS FALSE NEIGHBOUR: 'it returns false'. Refute it at one input. -/
def fnExactReduceVectorWrong : ChangeSpec := { name := "fnExactReduceVector", fn := fun _ => fun
  | [d1, d2] => { results := [.lit (.bool false)], args := [d1, d2] }
  | _ => none }
def FnExactReduceVectorWrongFalsely : Prop := fnExactReduceVectorRow.holds Try.pinned (OpenSpec.ofChange fnExactReduceVectorWrong)

/-- 'laws.FnExactContainsVector': WHATEVER THE INPUT: true; the input reads as it did. -/
def fnExactContainsVectorSpec : ChangeSpec := { name := "fnExactContainsVector", fn := fun _ => fun
  | [d1, d2] => { results := [.lit (.bool true)], args := [d1, d2] }
  | _ => none }
def fnExactContainsVectorRow : OpenClaim := { program := "ytaieadpbfonkiaa", sum := "905c2e91cc87bb1997a28b69b55f551db871b30f44d47148bde55279ba85754d", func := "loop.example/g00513/laws.FnExactContainsVector", spec := "fnExactContainsVector", unfollowed := true, recurses := true, apart := false }
def FnExactContainsVectorSaid : Prop := fnExactContainsVectorRow.holds Try.pinned (OpenSpec.ofChange fnExactContainsVectorSpec)

/-- ITS FALSE NEIGHBOUR: 'it returns false'. Refute it at one input. -/
def fnExactContainsVectorWrong : ChangeSpec := { name := "fnExactContainsVector", fn := fun _ => fun
  | [d1, d2] => { results := [.lit (.bool false)], args := [d1, d2] }
  | _ => none }
def FnExactContainsVectorWrongFalsely : Prop := fnExactContainsVectorRow.holds Try.pinned (OpenSpec.ofChange fnExactContainsVectorWrong)

/-- 'laws.FnExactInsertVector': WHATEVER THE INPUT: true; the input reads as it did. -/
def fnExactInsertVectorSpec : ChangeSpec := { name := "fnExactInsertVector", fn := fun _ => fun
  | [d1, d2] => { results := [.lit (.bool true)], args := [d1, d2] }
  | _ => none }
def fnExactInsertVectorRow : OpenClaim := { program := "ytaieadpbfonkiaa", sum := "905c2e91cc87bb1997a28b69b55f551db871b30f44d47148bde55279ba85754d", func := "loop.example/g00513/laws.FnExactInsertVector", spec := "fnExactInsertVector", inPlace := ["slices.overlaps[[]int]"], unfollowed := true, recurses := true, apart := false }
def FnExactInsertVectorSaid : Prop := fnExactInsertVectorRow.holds Try.pinned (OpenSpec.ofChange fnExactInsertVectorSpec)

/-- ITS FALSE NEIGHBOUR: 'it returns false'. Refute it at one input. -/
def fnExactInsertVectorWrong : ChangeSpec := { name := "fnExactInsertVector", fn := fun _ => fun
  | [d1, d2] => { results := [.lit (.bool false)], args := [d1, d2] }
  | _ => none }
def FnExactInsertVectorWrongFalsely : Prop := fnExactInsertVectorRow.holds Try.pinned (OpenSpec.ofChange fnExactInsertVectorWrong)

/-- 'laws.FnExactDimension': WHATEVER THE INPUT: true; the input reads as it did. -/
def fnExactDimensionSpec : ChangeSpec := { name := "fnExactDimension", fn := fun _ => fun
  | [d] => { results := [.lit (.bool true)], args := [d] }
  | _ => none }
def fnExactDimensionRow : OpenClaim := { program := "ytaieadpbfonkiaa", sum := "905c2e91cc87bb1997a28b69b55f551db871b30f44d47148bde55279ba85754d", func := "loop.example/g00513/laws.FnExactDimension", spec := "fnExactDimension", unfollowed := true, recurses := true, apart := false }
def FnExactDimensionSaid : Prop := fnExactDimensionRow.holds Try.pinned (OpenSpec.ofChange fnExactDimensionSpec)

/-- ITS FALSE NEIGHBOUR: 'it returns false'. Refute it at one input. -/
def fnExactDimensionWrong : ChangeSpec := { name := "fnExactDimension", fn := fun _ => fun
  | [d] => { results := [.lit (.bool false)], args := [d] }
  | _ => none }
def FnExactDimensionWrongFalsely : Prop := fnExactDimensionRow.holds Try.pinned (OpenSpec.ofChange fnExactDimensionWrong)

/-- 'laws.FnExactFreeColumns': WHATEVER THE INPUT: true; the input reads as it did. -/
def fnExactFreeColumnsSpec : ChangeSpec := { name := "fnExactFreeColumns", fn := fun _ => fun
  | [d] => { results := [.lit (.bool true)], args := [d] }
  | _ => none }
def fnExactFreeColumnsRow : OpenClaim := { program := "ytaieadpbfonkiaa", sum := "905c2e91cc87bb1997a28b69b55f551db871b30f44d47148bde55279ba85754d", func := "loop.example/g00513/laws.FnExactFreeColumns", spec := "fnExactFreeColumns", unfollowed := true, recurses := true, apart := false }
def FnExactFreeColumnsSaid : Prop := fnExactFreeColumnsRow.holds Try.pinned (OpenSpec.ofChange fnExactFreeColumnsSpec)

/-- ITS FALSE NEIGHBOUR: 'it returns false'. Refute it at one input. -/
def fnExactFreeColumnsWrong : ChangeSpec := { name := "fnExactFreeColumns", fn := fun _ => fun
  | [d] => { results := [.lit (.bool false)], args := [d] }
  | _ => none }
def FnExactFreeColumnsWrongFalsely : Prop := fnExactFreeColumnsRow.holds Try.pinned (OpenSpec.ofChange fnExactFreeColumnsWrong)

/-- 'laws.FnExactEqualBases': WHATEVER THE INPUT: true; the input reads as it did. -/
def fnExactEqualBasesSpec : ChangeSpec := { name := "fnExactEqualBases", fn := fun _ => fun
  | [d1, d2] => { results := [.lit (.bool true)], args := [d1, d2] }
  | _ => none }
def fnExactEqualBasesRow : OpenClaim := { program := "ytaieadpbfonkiaa", sum := "905c2e91cc87bb1997a28b69b55f551db871b30f44d47148bde55279ba85754d", func := "loop.example/g00513/laws.FnExactEqualBases", spec := "fnExactEqualBases", unfollowed := true, recurses := true, apart := false }
def FnExactEqualBasesSaid : Prop := fnExactEqualBasesRow.holds Try.pinned (OpenSpec.ofChange fnExactEqualBasesSpec)

/-- ITS FALSE NEIGHBOUR: 'it returns false'. Refute it at one input. -/
def fnExactEqualBasesWrong : ChangeSpec := { name := "fnExactEqualBases", fn := fun _ => fun
  | [d1, d2] => { results := [.lit (.bool false)], args := [d1, d2] }
  | _ => none }
def FnExactEqualBasesWrongFalsely : Prop := fnExactEqualBasesRow.holds Try.pinned (OpenSpec.ofChange fnExactEqualBasesWrong)

/- THE SECOND FORM. 'bulk': how many values and letters a reading holds, each counted each time it is reached (what is shared counts as often as it is met; a slice's spare places count too). A statement '..UptoSaid' is the law's where the arguments, and the package variables that the reading takes, are together of bulk at most 1048576: NARROWER than '..Said'. Prove '..Said' where nothing that the law and all that it calls make is longer than what came in: it says more and counts as full. Else prove '..UptoSaid'. A law counts once. -/
mutual
def uptoBulk {H : Type} : DataW H → Nat
  | .lit (.string bytes) => bytes.length + 1
  | .lit _ => 1
  | .nil => 1
  | .ptr d => uptoBulk d + 1
  | .slice elems spare => uptoBulkAll elems + uptoBulkAll spare + 1
  | .agg parts => uptoBulkAll parts + 1
  | .iface _ d => uptoBulk d + 1
  | .map entries => uptoBulkEntries entries + 1
  | .held _ => 1
def uptoBulkAll {H : Type} : List (DataW H) → Nat
  | [] => 0
  | d :: r => uptoBulk d + uptoBulkAll r
def uptoBulkEntries {H : Type} : List (Lit × DataW H) → Nat
  | [] => 0
  | x :: r => uptoBulkEntry x + uptoBulkEntries r
def uptoBulkEntry {H : Type} : Lit × DataW H → Nat
  | (.string bytes, d) => bytes.length + uptoBulk d + 1
  | (_, d) => uptoBulk d + 1
 end
def uptoSmall : (H : Type) → List (DataW H) → Bool := fun _ ds => decide (uptoBulkAll ds ≤ 1048576)
def OpenSpec.upto (s : _root_.Go.ChangeSpec) : _root_.Go.OpenSpec := { _root_.Go.OpenSpec.ofChange s with cond := some uptoSmall }

/-- 'laws.FnBases', WHERE WHAT IT READS IS OF BULK AT MOST 1048576: true; the input reads as it did. -/
def fnBasesUptoRow : OpenClaim := { program := "ytaieadpbfonkiaa", sum := "905c2e91cc87bb1997a28b69b55f551db871b30f44d47148bde55279ba85754d", func := "loop.example/g00513/laws.FnBases", spec := "fnBases", inPlace := ["slices.overlaps[[]int]"], unfollowed := true, recurses := true, apart := false, narrowed := true }
def FnBasesUptoSaid : Prop := fnBasesUptoRow.holds Try.pinned (OpenSpec.upto fnBasesSpec)

/-- 'laws.FnExactNewBasis', WHERE WHAT IT READS IS OF BULK AT MOST 1048576: true; the input reads as it did. -/
def fnExactNewBasisUptoRow : OpenClaim := { program := "ytaieadpbfonkiaa", sum := "905c2e91cc87bb1997a28b69b55f551db871b30f44d47148bde55279ba85754d", func := "loop.example/g00513/laws.FnExactNewBasis", spec := "fnExactNewBasis", apart := false, narrowed := true }
def FnExactNewBasisUptoSaid : Prop := fnExactNewBasisUptoRow.holds Try.pinned (OpenSpec.upto fnExactNewBasisSpec)

/-- 'laws.FnExactIsValidBasis', WHERE WHAT IT READS IS OF BULK AT MOST 1048576: true; the input reads as it did. -/
def fnExactIsValidBasisUptoRow : OpenClaim := { program := "ytaieadpbfonkiaa", sum := "905c2e91cc87bb1997a28b69b55f551db871b30f44d47148bde55279ba85754d", func := "loop.example/g00513/laws.FnExactIsValidBasis", spec := "fnExactIsValidBasis", unfollowed := true, recurses := true, apart := false, narrowed := true }
def FnExactIsValidBasisUptoSaid : Prop := fnExactIsValidBasisUptoRow.holds Try.pinned (OpenSpec.upto fnExactIsValidBasisSpec)

/-- 'laws.FnExactReduceVector', WHERE WHAT IT READS IS OF BULK AT MOST 1048576: true; the input reads as it did. -/
def fnExactReduceVectorUptoRow : OpenClaim := { program := "ytaieadpbfonkiaa", sum := "905c2e91cc87bb1997a28b69b55f551db871b30f44d47148bde55279ba85754d", func := "loop.example/g00513/laws.FnExactReduceVector", spec := "fnExactReduceVector", unfollowed := true, recurses := true, apart := false, narrowed := true }
def FnExactReduceVectorUptoSaid : Prop := fnExactReduceVectorUptoRow.holds Try.pinned (OpenSpec.upto fnExactReduceVectorSpec)

/-- 'laws.FnExactContainsVector', WHERE WHAT IT READS IS OF BULK AT MOST 1048576: true; the input reads as it did. -/
def fnExactContainsVectorUptoRow : OpenClaim := { program := "ytaieadpbfonkiaa", sum := "905c2e91cc87bb1997a28b69b55f551db871b30f44d47148bde55279ba85754d", func := "loop.example/g00513/laws.FnExactContainsVector", spec := "fnExactContainsVector", unfollowed := true, recurses := true, apart := false, narrowed := true }
def FnExactContainsVectorUptoSaid : Prop := fnExactContainsVectorUptoRow.holds Try.pinned (OpenSpec.upto fnExactContainsVectorSpec)

/-- 'laws.FnExactInsertVector', WHERE WHAT IT READS IS OF BULK AT MOST 1048576: true; the input reads as it did. -/
def fnExactInsertVectorUptoRow : OpenClaim := { program := "ytaieadpbfonkiaa", sum := "905c2e91cc87bb1997a28b69b55f551db871b30f44d47148bde55279ba85754d", func := "loop.example/g00513/laws.FnExactInsertVector", spec := "fnExactInsertVector", inPlace := ["slices.overlaps[[]int]"], unfollowed := true, recurses := true, apart := false, narrowed := true }
def FnExactInsertVectorUptoSaid : Prop := fnExactInsertVectorUptoRow.holds Try.pinned (OpenSpec.upto fnExactInsertVectorSpec)

/-- 'laws.FnExactDimension', WHERE WHAT IT READS IS OF BULK AT MOST 1048576: true; the input reads as it did. -/
def fnExactDimensionUptoRow : OpenClaim := { program := "ytaieadpbfonkiaa", sum := "905c2e91cc87bb1997a28b69b55f551db871b30f44d47148bde55279ba85754d", func := "loop.example/g00513/laws.FnExactDimension", spec := "fnExactDimension", unfollowed := true, recurses := true, apart := false, narrowed := true }
def FnExactDimensionUptoSaid : Prop := fnExactDimensionUptoRow.holds Try.pinned (OpenSpec.upto fnExactDimensionSpec)

/-- 'laws.FnExactFreeColumns', WHERE WHAT IT READS IS OF BULK AT MOST 1048576: true; the input reads as it did. -/
def fnExactFreeColumnsUptoRow : OpenClaim := { program := "ytaieadpbfonkiaa", sum := "905c2e91cc87bb1997a28b69b55f551db871b30f44d47148bde55279ba85754d", func := "loop.example/g00513/laws.FnExactFreeColumns", spec := "fnExactFreeColumns", unfollowed := true, recurses := true, apart := false, narrowed := true }
def FnExactFreeColumnsUptoSaid : Prop := fnExactFreeColumnsUptoRow.holds Try.pinned (OpenSpec.upto fnExactFreeColumnsSpec)

/-- 'laws.FnExactEqualBases', WHERE WHAT IT READS IS OF BULK AT MOST 1048576: true; the input reads as it did. -/
def fnExactEqualBasesUptoRow : OpenClaim := { program := "ytaieadpbfonkiaa", sum := "905c2e91cc87bb1997a28b69b55f551db871b30f44d47148bde55279ba85754d", func := "loop.example/g00513/laws.FnExactEqualBases", spec := "fnExactEqualBases", unfollowed := true, recurses := true, apart := false, narrowed := true }
def FnExactEqualBasesUptoSaid : Prop := fnExactEqualBasesUptoRow.holds Try.pinned (OpenSpec.upto fnExactEqualBasesSpec)

end Rows
end Go.Proofs.Ytaieadpbfonkiaa
