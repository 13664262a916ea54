/-
  No cell of these rows narrows 'for every input' (looked for: loops, veiled, ifaces, maps, wideKeys, modest, calm, conditions, laid).
  DERIVED. THE GIVEN ROWS OF THIS SEAT. 11 by the template 'for every input the law returns true; each argument reads behind the call as it read before'; 0 by the template 'total and deterministic' (their statements: YtklcaagjneggpaaTotals.lean).
  GIVEN WITH THE SEED: the statements are not yours to turn. If you find one false, say at which input.
  Laid BY PROGRAM, IN A SANDBOX (cutbox-rows.mjs): the forced cells as the released guide's own fill.sh prints them over the translation 1bc0344e21bcb1a1… (all of the seat's roots in one cut). By AI agents, Wed Nov 11 2026. No macro, syntax, notation, axiom, sorry.
-/
import Derived.Test.YtklcaagjneggpaaChecked
import GoSem.Claim
import GoSem.ClaimJoined
import GoSem.ClaimMapViews
import Derived.JoinedTies
import Derived.KernelRfl
namespace Go.Proofs.Ytklcaagjneggpaa
/- THE CELL 'sum', in the pinned program and in every row, IS THE sha256 OF THE DUMP (.gsa) THAT YtklcaagjneggpaaProg.lean LOADS. Nothing in Lean hashes anything: it is a label: what it is worth is what the hold of that sum in a sandbox is worth. -/
noncomputable def Try.pinned : Pinned := { name := "ytklcaagjneggpaa", sum := "1bc0344e21bcb1a1611c0ce0d126c2df331af0e314f329ab523f90c5abb8dc21", checked := Try.checked }
namespace Rows
def none {H : Type} : Left H := { results := [], args := [] }

/-- 'laws.FnField': WHATEVER THE INPUT: true; the input reads as it did. -/
def fnFieldSpec : ChangeSpec := { name := "fnField", fn := fun _ => fun
  | [d] => { results := [.lit (.bool true)], args := [d] }
  | _ => none }
def fnFieldRow : OpenClaim := { program := "ytklcaagjneggpaa", sum := "1bc0344e21bcb1a1611c0ce0d126c2df331af0e314f329ab523f90c5abb8dc21", func := "loop.example/g00513/laws.FnField", spec := "fnField", apart := false }
def FnFieldSaid : Prop := fnFieldRow.holds Try.pinned (OpenSpec.ofChange fnFieldSpec)

/-- ITS FALSE NEIGHBOUR: 'it returns false'. Refute it at one input. -/
def fnFieldWrong : ChangeSpec := { name := "fnField", fn := fun _ => fun
  | [d] => { results := [.lit (.bool false)], args := [d] }
  | _ => none }
def FnFieldWrongFalsely : Prop := fnFieldRow.holds Try.pinned (OpenSpec.ofChange fnFieldWrong)

/-- 'laws.FnGroupElements': WHATEVER THE INPUT: true; the input reads as it did. -/
def fnGroupElementsSpec : ChangeSpec := { name := "fnGroupElements", fn := fun _ => fun
  | [d] => { results := [.lit (.bool true)], args := [d] }
  | _ => none }
def fnGroupElementsRow : OpenClaim := { program := "ytklcaagjneggpaa", sum := "1bc0344e21bcb1a1611c0ce0d126c2df331af0e314f329ab523f90c5abb8dc21", func := "loop.example/g00513/laws.FnGroupElements", spec := "fnGroupElements", apart := false }
def FnGroupElementsSaid : Prop := fnGroupElementsRow.holds Try.pinned (OpenSpec.ofChange fnGroupElementsSpec)

/-- ITS FALSE NEIGHBOUR: 'it returns false'. Refute it at one input. -/
def fnGroupElementsWrong : ChangeSpec := { name := "fnGroupElements", fn := fun _ => fun
  | [d] => { results := [.lit (.bool false)], args := [d] }
  | _ => none }
def FnGroupElementsWrongFalsely : Prop := fnGroupElementsRow.holds Try.pinned (OpenSpec.ofChange fnGroupElementsWrong)

/-- 'laws.FnExactIsElement': WHATEVER THE INPUT: true; the input reads as it did. -/
def fnExactIsElementSpec : ChangeSpec := { name := "fnExactIsElement", fn := fun _ => fun
  | [d] => { results := [.lit (.bool true)], args := [d] }
  | _ => none }
def fnExactIsElementRow : OpenClaim := { program := "ytklcaagjneggpaa", sum := "1bc0344e21bcb1a1611c0ce0d126c2df331af0e314f329ab523f90c5abb8dc21", func := "loop.example/g00513/laws.FnExactIsElement", spec := "fnExactIsElement", apart := false }
def FnExactIsElementSaid : Prop := fnExactIsElementRow.holds Try.pinned (OpenSpec.ofChange fnExactIsElementSpec)

/-- ITS FALSE NEIGHBOUR: 'it returns false'. Refute it at one input. -/
def fnExactIsElementWrong : ChangeSpec := { name := "fnExactIsElement", fn := fun _ => fun
  | [d] => { results := [.lit (.bool false)], args := [d] }
  | _ => none }
def FnExactIsElementWrongFalsely : Prop := fnExactIsElementRow.holds Try.pinned (OpenSpec.ofChange fnExactIsElementWrong)

/-- 'laws.FnExactAddField': WHATEVER THE INPUT: true; the input reads as it did. -/
def fnExactAddFieldSpec : ChangeSpec := { name := "fnExactAddField", fn := fun _ => fun
  | [d1, d2] => { results := [.lit (.bool true)], args := [d1, d2] }
  | _ => none }
def fnExactAddFieldRow : OpenClaim := { program := "ytklcaagjneggpaa", sum := "1bc0344e21bcb1a1611c0ce0d126c2df331af0e314f329ab523f90c5abb8dc21", func := "loop.example/g00513/laws.FnExactAddField", spec := "fnExactAddField", apart := false }
def FnExactAddFieldSaid : Prop := fnExactAddFieldRow.holds Try.pinned (OpenSpec.ofChange fnExactAddFieldSpec)

/-- ITS FALSE NEIGHBOUR: 'it returns false'. Refute it at one input. -/
def fnExactAddFieldWrong : ChangeSpec := { name := "fnExactAddField", fn := fun _ => fun
  | [d1, d2] => { results := [.lit (.bool false)], args := [d1, d2] }
  | _ => none }
def FnExactAddFieldWrongFalsely : Prop := fnExactAddFieldRow.holds Try.pinned (OpenSpec.ofChange fnExactAddFieldWrong)

/-- 'laws.FnExactSubField': WHATEVER THE INPUT: true; the input reads as it did. -/
def fnExactSubFieldSpec : ChangeSpec := { name := "fnExactSubField", fn := fun _ => fun
  | [d1, d2] => { results := [.lit (.bool true)], args := [d1, d2] }
  | _ => none }
def fnExactSubFieldRow : OpenClaim := { program := "ytklcaagjneggpaa", sum := "1bc0344e21bcb1a1611c0ce0d126c2df331af0e314f329ab523f90c5abb8dc21", func := "loop.example/g00513/laws.FnExactSubField", spec := "fnExactSubField", apart := false }
def FnExactSubFieldSaid : Prop := fnExactSubFieldRow.holds Try.pinned (OpenSpec.ofChange fnExactSubFieldSpec)

/-- ITS FALSE NEIGHBOUR: 'it returns false'. Refute it at one input. -/
def fnExactSubFieldWrong : ChangeSpec := { name := "fnExactSubField", fn := fun _ => fun
  | [d1, d2] => { results := [.lit (.bool false)], args := [d1, d2] }
  | _ => none }
def FnExactSubFieldWrongFalsely : Prop := fnExactSubFieldRow.holds Try.pinned (OpenSpec.ofChange fnExactSubFieldWrong)

/-- 'laws.FnExactMulField': WHATEVER THE INPUT: true; the input reads as it did. -/
def fnExactMulFieldSpec : ChangeSpec := { name := "fnExactMulField", fn := fun _ => fun
  | [d1, d2] => { results := [.lit (.bool true)], args := [d1, d2] }
  | _ => none }
def fnExactMulFieldRow : OpenClaim := { program := "ytklcaagjneggpaa", sum := "1bc0344e21bcb1a1611c0ce0d126c2df331af0e314f329ab523f90c5abb8dc21", func := "loop.example/g00513/laws.FnExactMulField", spec := "fnExactMulField", apart := false }
def FnExactMulFieldSaid : Prop := fnExactMulFieldRow.holds Try.pinned (OpenSpec.ofChange fnExactMulFieldSpec)

/-- ITS FALSE NEIGHBOUR: 'it returns false'. Refute it at one input. -/
def fnExactMulFieldWrong : ChangeSpec := { name := "fnExactMulField", fn := fun _ => fun
  | [d1, d2] => { results := [.lit (.bool false)], args := [d1, d2] }
  | _ => none }
def FnExactMulFieldWrongFalsely : Prop := fnExactMulFieldRow.holds Try.pinned (OpenSpec.ofChange fnExactMulFieldWrong)

/-- 'laws.FnExactPowField': WHATEVER THE INPUT: true; the input reads as it did. -/
def fnExactPowFieldSpec : ChangeSpec := { name := "fnExactPowField", fn := fun _ => fun
  | [d1, d2] => { results := [.lit (.bool true)], args := [d1, d2] }
  | _ => none }
def fnExactPowFieldRow : OpenClaim := { program := "ytklcaagjneggpaa", sum := "1bc0344e21bcb1a1611c0ce0d126c2df331af0e314f329ab523f90c5abb8dc21", func := "loop.example/g00513/laws.FnExactPowField", spec := "fnExactPowField", apart := false }
def FnExactPowFieldSaid : Prop := fnExactPowFieldRow.holds Try.pinned (OpenSpec.ofChange fnExactPowFieldSpec)

/-- ITS FALSE NEIGHBOUR: 'it returns false'. Refute it at one input. -/
def fnExactPowFieldWrong : ChangeSpec := { name := "fnExactPowField", fn := fun _ => fun
  | [d1, d2] => { results := [.lit (.bool false)], args := [d1, d2] }
  | _ => none }
def FnExactPowFieldWrongFalsely : Prop := fnExactPowFieldRow.holds Try.pinned (OpenSpec.ofChange fnExactPowFieldWrong)

/-- 'laws.FnExactInverseField': WHATEVER THE INPUT: true; the input reads as it did. -/
def fnExactInverseFieldSpec : ChangeSpec := { name := "fnExactInverseField", fn := fun _ => fun
  | [d] => { results := [.lit (.bool true)], args := [d] }
  | _ => none }
def fnExactInverseFieldRow : OpenClaim := { program := "ytklcaagjneggpaa", sum := "1bc0344e21bcb1a1611c0ce0d126c2df331af0e314f329ab523f90c5abb8dc21", func := "loop.example/g00513/laws.FnExactInverseField", spec := "fnExactInverseField", apart := false }
def FnExactInverseFieldSaid : Prop := fnExactInverseFieldRow.holds Try.pinned (OpenSpec.ofChange fnExactInverseFieldSpec)

/-- ITS FALSE NEIGHBOUR: 'it returns false'. Refute it at one input. -/
def fnExactInverseFieldWrong : ChangeSpec := { name := "fnExactInverseField", fn := fun _ => fun
  | [d] => { results := [.lit (.bool false)], args := [d] }
  | _ => none }
def FnExactInverseFieldWrongFalsely : Prop := fnExactInverseFieldRow.holds Try.pinned (OpenSpec.ofChange fnExactInverseFieldWrong)

/-- 'laws.FnExactPowGroup': WHATEVER THE INPUT: true; the input reads as it did. -/
def fnExactPowGroupSpec : ChangeSpec := { name := "fnExactPowGroup", fn := fun _ => fun
  | [d1, d2] => { results := [.lit (.bool true)], args := [d1, d2] }
  | _ => none }
def fnExactPowGroupRow : OpenClaim := { program := "ytklcaagjneggpaa", sum := "1bc0344e21bcb1a1611c0ce0d126c2df331af0e314f329ab523f90c5abb8dc21", func := "loop.example/g00513/laws.FnExactPowGroup", spec := "fnExactPowGroup", apart := false }
def FnExactPowGroupSaid : Prop := fnExactPowGroupRow.holds Try.pinned (OpenSpec.ofChange fnExactPowGroupSpec)

/-- ITS FALSE NEIGHBOUR: 'it returns false'. Refute it at one input. -/
def fnExactPowGroupWrong : ChangeSpec := { name := "fnExactPowGroup", fn := fun _ => fun
  | [d1, d2] => { results := [.lit (.bool false)], args := [d1, d2] }
  | _ => none }
def FnExactPowGroupWrongFalsely : Prop := fnExactPowGroupRow.holds Try.pinned (OpenSpec.ofChange fnExactPowGroupWrong)

/-- 'laws.FnExactMulGroup': WHATEVER THE INPUT: true; the input reads as it did. -/
def fnExactMulGroupSpec : ChangeSpec := { name := "fnExactMulGroup", fn := fun _ => fun
  | [d1, d2] => { results := [.lit (.bool true)], args := [d1, d2] }
  | _ => none }
def fnExactMulGroupRow : OpenClaim := { program := "ytklcaagjneggpaa", sum := "1bc0344e21bcb1a1611c0ce0d126c2df331af0e314f329ab523f90c5abb8dc21", func := "loop.example/g00513/laws.FnExactMulGroup", spec := "fnExactMulGroup", apart := false }
def FnExactMulGroupSaid : Prop := fnExactMulGroupRow.holds Try.pinned (OpenSpec.ofChange fnExactMulGroupSpec)

/-- ITS FALSE NEIGHBOUR: 'it returns false'. Refute it at one input. -/
def fnExactMulGroupWrong : ChangeSpec := { name := "fnExactMulGroup", fn := fun _ => fun
  | [d1, d2] => { results := [.lit (.bool false)], args := [d1, d2] }
  | _ => none }
def FnExactMulGroupWrongFalsely : Prop := fnExactMulGroupRow.holds Try.pinned (OpenSpec.ofChange fnExactMulGroupWrong)

/-- 'laws.FnExactIsGroupElement': WHATEVER THE INPUT: true; the input reads as it did. -/
def fnExactIsGroupElementSpec : ChangeSpec := { name := "fnExactIsGroupElement", fn := fun _ => fun
  | [d] => { results := [.lit (.bool true)], args := [d] }
  | _ => none }
def fnExactIsGroupElementRow : OpenClaim := { program := "ytklcaagjneggpaa", sum := "1bc0344e21bcb1a1611c0ce0d126c2df331af0e314f329ab523f90c5abb8dc21", func := "loop.example/g00513/laws.FnExactIsGroupElement", spec := "fnExactIsGroupElement", apart := false }
def FnExactIsGroupElementSaid : Prop := fnExactIsGroupElementRow.holds Try.pinned (OpenSpec.ofChange fnExactIsGroupElementSpec)

/-- ITS FALSE NEIGHBOUR: 'it returns false'. Refute it at one input. -/
def fnExactIsGroupElementWrong : ChangeSpec := { name := "fnExactIsGroupElement", fn := fun _ => fun
  | [d] => { results := [.lit (.bool false)], args := [d] }
  | _ => none }
def FnExactIsGroupElementWrongFalsely : Prop := fnExactIsGroupElementRow.holds Try.pinned (OpenSpec.ofChange fnExactIsGroupElementWrong)

/- THE SECOND FORM. 'bulk': how many values and letters a reading holds, each counted each time it is reached (what is shared counts as often as it is met; a slice's spare places count too). A statement '..UptoSaid' is the law's where the arguments, and the package variables that the reading takes, are together of bulk at most 1048576: NARROWER than '..Said'. Prove '..Said' where nothing that the law and all that it calls make is longer than what came in: it says more and counts as full. Else prove '..UptoSaid'. A law counts once. -/
mutual
def uptoBulk {H : Type} : DataW H → Nat
  | .lit (.string bytes) => bytes.length + 1
  | .lit _ => 1
  | .nil => 1
  | .ptr d => uptoBulk d + 1
  | .slice elems spare => uptoBulkAll elems + uptoBulkAll spare + 1
  | .agg parts => uptoBulkAll parts + 1
  | .iface _ d => uptoBulk d + 1
  | .map entries => uptoBulkEntries entries + 1
  | .held _ => 1
def uptoBulkAll {H : Type} : List (DataW H) → Nat
  | [] => 0
  | d :: r => uptoBulk d + uptoBulkAll r
def uptoBulkEntries {H : Type} : List (Lit × DataW H) → Nat
  | [] => 0
  | x :: r => uptoBulkEntry x + uptoBulkEntries r
def uptoBulkEntry {H : Type} : Lit × DataW H → Nat
  | (.string bytes, d) => bytes.length + uptoBulk d + 1
  | (_, d) => uptoBulk d + 1
 end
def uptoSmall : (H : Type) → List (DataW H) → Bool := fun _ ds => decide (uptoBulkAll ds ≤ 1048576)
def OpenSpec.upto (s : _root_.Go.ChangeSpec) : _root_.Go.OpenSpec := { _root_.Go.OpenSpec.ofChange s with cond := some uptoSmall }

/-- 'laws.FnField', WHERE WHAT IT READS IS OF BULK AT MOST 1048576: true; the input reads as it did. -/
def fnFieldUptoRow : OpenClaim := { program := "ytklcaagjneggpaa", sum := "1bc0344e21bcb1a1611c0ce0d126c2df331af0e314f329ab523f90c5abb8dc21", func := "loop.example/g00513/laws.FnField", spec := "fnField", apart := false, narrowed := true }
def FnFieldUptoSaid : Prop := fnFieldUptoRow.holds Try.pinned (OpenSpec.upto fnFieldSpec)

/-- 'laws.FnGroupElements', WHERE WHAT IT READS IS OF BULK AT MOST 1048576: true; the input reads as it did. -/
def fnGroupElementsUptoRow : OpenClaim := { program := "ytklcaagjneggpaa", sum := "1bc0344e21bcb1a1611c0ce0d126c2df331af0e314f329ab523f90c5abb8dc21", func := "loop.example/g00513/laws.FnGroupElements", spec := "fnGroupElements", apart := false, narrowed := true }
def FnGroupElementsUptoSaid : Prop := fnGroupElementsUptoRow.holds Try.pinned (OpenSpec.upto fnGroupElementsSpec)

/-- 'laws.FnExactIsElement', WHERE WHAT IT READS IS OF BULK AT MOST 1048576: true; the input reads as it did. -/
def fnExactIsElementUptoRow : OpenClaim := { program := "ytklcaagjneggpaa", sum := "1bc0344e21bcb1a1611c0ce0d126c2df331af0e314f329ab523f90c5abb8dc21", func := "loop.example/g00513/laws.FnExactIsElement", spec := "fnExactIsElement", apart := false, narrowed := true }
def FnExactIsElementUptoSaid : Prop := fnExactIsElementUptoRow.holds Try.pinned (OpenSpec.upto fnExactIsElementSpec)

/-- 'laws.FnExactAddField', WHERE WHAT IT READS IS OF BULK AT MOST 1048576: true; the input reads as it did. -/
def fnExactAddFieldUptoRow : OpenClaim := { program := "ytklcaagjneggpaa", sum := "1bc0344e21bcb1a1611c0ce0d126c2df331af0e314f329ab523f90c5abb8dc21", func := "loop.example/g00513/laws.FnExactAddField", spec := "fnExactAddField", apart := false, narrowed := true }
def FnExactAddFieldUptoSaid : Prop := fnExactAddFieldUptoRow.holds Try.pinned (OpenSpec.upto fnExactAddFieldSpec)

/-- 'laws.FnExactSubField', WHERE WHAT IT READS IS OF BULK AT MOST 1048576: true; the input reads as it did. -/
def fnExactSubFieldUptoRow : OpenClaim := { program := "ytklcaagjneggpaa", sum := "1bc0344e21bcb1a1611c0ce0d126c2df331af0e314f329ab523f90c5abb8dc21", func := "loop.example/g00513/laws.FnExactSubField", spec := "fnExactSubField", apart := false, narrowed := true }
def FnExactSubFieldUptoSaid : Prop := fnExactSubFieldUptoRow.holds Try.pinned (OpenSpec.upto fnExactSubFieldSpec)

/-- 'laws.FnExactMulField', WHERE WHAT IT READS IS OF BULK AT MOST 1048576: true; the input reads as it did. -/
def fnExactMulFieldUptoRow : OpenClaim := { program := "ytklcaagjneggpaa", sum := "1bc0344e21bcb1a1611c0ce0d126c2df331af0e314f329ab523f90c5abb8dc21", func := "loop.example/g00513/laws.FnExactMulField", spec := "fnExactMulField", apart := false, narrowed := true }
def FnExactMulFieldUptoSaid : Prop := fnExactMulFieldUptoRow.holds Try.pinned (OpenSpec.upto fnExactMulFieldSpec)

/-- 'laws.FnExactPowField', WHERE WHAT IT READS IS OF BULK AT MOST 1048576: true; the input reads as it did. -/
def fnExactPowFieldUptoRow : OpenClaim := { program := "ytklcaagjneggpaa", sum := "1bc0344e21bcb1a1611c0ce0d126c2df331af0e314f329ab523f90c5abb8dc21", func := "loop.example/g00513/laws.FnExactPowField", spec := "fnExactPowField", apart := false, narrowed := true }
def FnExactPowFieldUptoSaid : Prop := fnExactPowFieldUptoRow.holds Try.pinned (OpenSpec.upto fnExactPowFieldSpec)

/-- 'laws.FnExactInverseField', WHERE WHAT IT READS IS OF BULK AT MOST 1048576: true; the input reads as it did. -/
def fnExactInverseFieldUptoRow : OpenClaim := { program := "ytklcaagjneggpaa", sum := "1bc0344e21bcb1a1611c0ce0d126c2df331af0e314f329ab523f90c5abb8dc21", func := "loop.example/g00513/laws.FnExactInverseField", spec := "fnExactInverseField", apart := false, narrowed := true }
def FnExactInverseFieldUptoSaid : Prop := fnExactInverseFieldUptoRow.holds Try.pinned (OpenSpec.upto fnExactInverseFieldSpec)

/-- 'laws.FnExactPowGroup', WHERE WHAT IT READS IS OF BULK AT MOST 1048576: true; the input reads as it did. -/
def fnExactPowGroupUptoRow : OpenClaim := { program := "ytklcaagjneggpaa", sum := "1bc0344e21bcb1a1611c0ce0d126c2df331af0e314f329ab523f90c5abb8dc21", func := "loop.example/g00513/laws.FnExactPowGroup", spec := "fnExactPowGroup", apart := false, narrowed := true }
def FnExactPowGroupUptoSaid : Prop := fnExactPowGroupUptoRow.holds Try.pinned (OpenSpec.upto fnExactPowGroupSpec)

/-- 'laws.FnExactMulGroup', WHERE WHAT IT READS IS OF BULK AT MOST 1048576: true; the input reads as it did. -/
def fnExactMulGroupUptoRow : OpenClaim := { program := "ytklcaagjneggpaa", sum := "1bc0344e21bcb1a1611c0ce0d126c2df331af0e314f329ab523f90c5abb8dc21", func := "loop.example/g00513/laws.FnExactMulGroup", spec := "fnExactMulGroup", apart := false, narrowed := true }
def FnExactMulGroupUptoSaid : Prop := fnExactMulGroupUptoRow.holds Try.pinned (OpenSpec.upto fnExactMulGroupSpec)

/-- 'laws.FnExactIsGroupElement', WHERE WHAT IT READS IS OF BULK AT MOST 1048576: true; the input reads as it did. -/
def fnExactIsGroupElementUptoRow : OpenClaim := { program := "ytklcaagjneggpaa", sum := "1bc0344e21bcb1a1611c0ce0d126c2df331af0e314f329ab523f90c5abb8dc21", func := "loop.example/g00513/laws.FnExactIsGroupElement", spec := "fnExactIsGroupElement", apart := false, narrowed := true }
def FnExactIsGroupElementUptoSaid : Prop := fnExactIsGroupElementUptoRow.holds Try.pinned (OpenSpec.upto fnExactIsGroupElementSpec)

end Rows
end Go.Proofs.Ytklcaagjneggpaa
