/-
  No cell of these rows narrows 'for every input' (looked for: loops, veiled, ifaces, maps, wideKeys, modest, calm, conditions, laid).
  DERIVED. THE GIVEN ROWS OF THIS SEAT. 3 by the template 'for every input the law returns true; each argument reads behind the call as it read before'; 0 by the template 'total and deterministic' (their statements: YtefcfeikooknmaaGreatTotals.lean).
  GIVEN WITH THE SEED: the statements are not yours to turn. If you find one false, say at which input.
  Laid BY PROGRAM, IN A SANDBOX (cutbox-rows.mjs): the forced cells as the released guide's own fill.sh prints them over the translation f025a33b2664eb0c… (all of the seat's roots in one cut). By AI agents, Wed Nov 11 2026. No macro, syntax, notation, axiom, sorry.
-/
import Derived.Test.YtefcfeikooknmaaGreatChecked
import GoSem.Claim
import GoSem.ClaimJoined
import GoSem.ClaimMapViews
import Derived.JoinedTies
import Derived.KernelRfl
namespace Go.Proofs.YtefcfeikooknmaaGreat
/- THE CELL 'sum', in the pinned program and in every row, IS THE sha256 OF THE DUMP (.gsa) THAT YtefcfeikooknmaaGreatProg.lean LOADS. Nothing in Lean hashes anything: it is a label: what it is worth is what the hold of that sum in a sandbox is worth. -/
noncomputable def Tryz.pinned : Pinned := { name := "ytefcfeikooknmaagreat", sum := "f025a33b2664eb0cb109a404f27841c6494fd19a25752446981115f0c0fc820f", checked := Tryz.checked }
namespace Rows
def none {H : Type} : Left H := { results := [], args := [] }

/-- 'laws.FnSubspaces': WHATEVER THE INPUT: true; the input reads as it did. -/
def fnSubspacesSpec : ChangeSpec := { name := "fnSubspaces", fn := fun _ => fun
  | [d] => { results := [.lit (.bool true)], args := [d] }
  | _ => none }
def fnSubspacesRow : OpenClaim := { program := "ytefcfeikooknmaagreat", sum := "f025a33b2664eb0cb109a404f27841c6494fd19a25752446981115f0c0fc820f", func := "loop.example/g00513/laws.FnSubspaces", spec := "fnSubspaces", inPlace := ["slices.overlaps[[]int]"], unfollowed := true, recurses := true, apart := false }
def FnSubspacesSaid : Prop := fnSubspacesRow.holds Tryz.pinned (OpenSpec.ofChange fnSubspacesSpec)

/-- ITS FALSE NEIGHBOUR: 'it returns false'. Refute it at one input. -/
def fnSubspacesWrong : ChangeSpec := { name := "fnSubspaces", fn := fun _ => fun
  | [d] => { results := [.lit (.bool false)], args := [d] }
  | _ => none }
def FnSubspacesWrongFalsely : Prop := fnSubspacesRow.holds Tryz.pinned (OpenSpec.ofChange fnSubspacesWrong)

/-- 'laws.FnExactOrthogonalSpace': WHATEVER THE INPUT: true; the input reads as it did. -/
def fnExactOrthogonalSpaceSpec : ChangeSpec := { name := "fnExactOrthogonalSpace", fn := fun _ => fun
  | [d] => { results := [.lit (.bool true)], args := [d] }
  | _ => none }
def fnExactOrthogonalSpaceRow : OpenClaim := { program := "ytefcfeikooknmaagreat", sum := "f025a33b2664eb0cb109a404f27841c6494fd19a25752446981115f0c0fc820f", func := "loop.example/g00513/laws.FnExactOrthogonalSpace", spec := "fnExactOrthogonalSpace", inPlace := ["slices.overlaps[[]int]"], unfollowed := true, recurses := true, apart := false }
def FnExactOrthogonalSpaceSaid : Prop := fnExactOrthogonalSpaceRow.holds Tryz.pinned (OpenSpec.ofChange fnExactOrthogonalSpaceSpec)

/-- ITS FALSE NEIGHBOUR: 'it returns false'. Refute it at one input. -/
def fnExactOrthogonalSpaceWrong : ChangeSpec := { name := "fnExactOrthogonalSpace", fn := fun _ => fun
  | [d] => { results := [.lit (.bool false)], args := [d] }
  | _ => none }
def FnExactOrthogonalSpaceWrongFalsely : Prop := fnExactOrthogonalSpaceRow.holds Tryz.pinned (OpenSpec.ofChange fnExactOrthogonalSpaceWrong)

/-- 'laws.FnExactIntersectionOf': WHATEVER THE INPUT: true; the input reads as it did. -/
def fnExactIntersectionOfSpec : ChangeSpec := { name := "fnExactIntersectionOf", fn := fun _ => fun
  | [d1, d2] => { results := [.lit (.bool true)], args := [d1, d2] }
  | _ => none }
def fnExactIntersectionOfRow : OpenClaim := { program := "ytefcfeikooknmaagreat", sum := "f025a33b2664eb0cb109a404f27841c6494fd19a25752446981115f0c0fc820f", func := "loop.example/g00513/laws.FnExactIntersectionOf", spec := "fnExactIntersectionOf", inPlace := ["slices.overlaps[[]int]"], unfollowed := true, recurses := true, apart := false }
def FnExactIntersectionOfSaid : Prop := fnExactIntersectionOfRow.holds Tryz.pinned (OpenSpec.ofChange fnExactIntersectionOfSpec)

/-- ITS FALSE NEIGHBOUR: 'it returns false'. Refute it at one input. -/
def fnExactIntersectionOfWrong : ChangeSpec := { name := "fnExactIntersectionOf", fn := fun _ => fun
  | [d1, d2] => { results := [.lit (.bool false)], args := [d1, d2] }
  | _ => none }
def FnExactIntersectionOfWrongFalsely : Prop := fnExactIntersectionOfRow.holds Tryz.pinned (OpenSpec.ofChange fnExactIntersectionOfWrong)

/- THE SECOND FORM. 'bulk': how many values and letters a reading holds, each counted each time it is reached (what is shared counts as often as it is met; a slice's spare places count too). A statement '..UptoSaid' is the law's where the arguments, and the package variables that the reading takes, are together of bulk at most 1048576: NARROWER than '..Said'. Prove '..Said' where nothing that the law and all that it calls make is longer than what came in: it says more and counts as full. Else prove '..UptoSaid'. A law counts once. -/
mutual
def uptoBulk {H : Type} : DataW H → Nat
  | .lit (.string bytes) => bytes.length + 1
  | .lit _ => 1
  | .nil => 1
  | .ptr d => uptoBulk d + 1
  | .slice elems spare => uptoBulkAll elems + uptoBulkAll spare + 1
  | .agg parts => uptoBulkAll parts + 1
  | .iface _ d => uptoBulk d + 1
  | .map entries => uptoBulkEntries entries + 1
  | .held _ => 1
def uptoBulkAll {H : Type} : List (DataW H) → Nat
  | [] => 0
  | d :: r => uptoBulk d + uptoBulkAll r
def uptoBulkEntries {H : Type} : List (Lit × DataW H) → Nat
  | [] => 0
  | x :: r => uptoBulkEntry x + uptoBulkEntries r
def uptoBulkEntry {H : Type} : Lit × DataW H → Nat
  | (.string bytes, d) => bytes.length + uptoBulk d + 1
  | (_, d) => uptoBulk d + 1
 end
def uptoSmall : (H : Type) → List (DataW H) → Bool := fun _ ds => decide (uptoBulkAll ds ≤ 1048576)
def OpenSpec.upto (s : _root_.Go.ChangeSpec) : _root_.Go.OpenSpec := { _root_.Go.OpenSpec.ofChange s with cond := some uptoSmall }

/-- 'laws.FnSubspaces', WHERE WHAT IT READS IS OF BULK AT MOST 1048576: true; the input reads as it did. -/
def fnSubspacesUptoRow : OpenClaim := { program := "ytefcfeikooknmaagreat", sum := "f025a33b2664eb0cb109a404f27841c6494fd19a25752446981115f0c0fc820f", func := "loop.example/g00513/laws.FnSubspaces", spec := "fnSubspaces", inPlace := ["slices.overlaps[[]int]"], unfollowed := true, recurses := true, apart := false, narrowed := true }
def FnSubspacesUptoSaid : Prop := fnSubspacesUptoRow.holds Tryz.pinned (OpenSpec.upto fnSubspacesSpec)

/-- 'laws.FnExactOrthogonalSpace', WHERE WHAT IT READS IS OF BULK AT MOST 1048576: true; the input reads as it did. -/
def fnExactOrthogonalSpaceUptoRow : OpenClaim := { program := "ytefcfeikooknmaagreat", sum := "f025a33b2664eb0cb109a404f27841c6494fd19a25752446981115f0c0fc820f", func := "loop.example/g00513/laws.FnExactOrthogonalSpace", spec := "fnExactOrthogonalSpace", inPlace := ["slices.overlaps[[]int]"], unfollowed := true, recurses := true, apart := false, narrowed := true }
def FnExactOrthogonalSpaceUptoSaid : Prop := fnExactOrthogonalSpaceUptoRow.holds Tryz.pinned (OpenSpec.upto fnExactOrthogonalSpaceSpec)

/-- 'laws.FnExactIntersectionOf', WHERE WHAT IT READS IS OF BULK AT MOST 1048576: true; the input reads as it did. -/
def fnExactIntersectionOfUptoRow : OpenClaim := { program := "ytefcfeikooknmaagreat", sum := "f025a33b2664eb0cb109a404f27841c6494fd19a25752446981115f0c0fc820f", func := "loop.example/g00513/laws.FnExactIntersectionOf", spec := "fnExactIntersectionOf", inPlace := ["slices.overlaps[[]int]"], unfollowed := true, recurses := true, apart := false, narrowed := true }
def FnExactIntersectionOfUptoSaid : Prop := fnExactIntersectionOfUptoRow.holds Tryz.pinned (OpenSpec.upto fnExactIntersectionOfSpec)

end Rows
end Go.Proofs.YtefcfeikooknmaaGreat
