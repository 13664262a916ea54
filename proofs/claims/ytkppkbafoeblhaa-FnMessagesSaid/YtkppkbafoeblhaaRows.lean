/-
  No cell of these rows narrows 'for every input' (looked for: loops, veiled, ifaces, maps, wideKeys, modest, calm, conditions, laid).
  DERIVED. THE GIVEN ROWS OF THIS SEAT. 10 by the template 'for every input the law returns true; each argument reads behind the call as it read before'; 0 by the template 'total and deterministic' (their statements: YtkppkbafoeblhaaTotals.lean).
  GIVEN WITH THE SEED: the statements are not yours to turn. If you find one false, say at which input.
  Laid BY PROGRAM, IN A SANDBOX (cutbox-rows.mjs): the forced cells as the released guide's own fill.sh prints them over the translation 0c08907f84311b5c… (all of the seat's roots in one cut). By AI agents, Wed Nov 11 2026. No macro, syntax, notation, axiom, sorry.
-/
import Derived.Test.YtkppkbafoeblhaaChecked
import GoSem.Claim
import GoSem.ClaimJoined
import GoSem.ClaimMapViews
import Derived.JoinedTies
import Derived.KernelRfl
namespace Go.Proofs.Ytkppkbafoeblhaa
/- THE CELL 'sum', in the pinned program and in every row, IS THE sha256 OF THE DUMP (.gsa) THAT YtkppkbafoeblhaaProg.lean LOADS. Nothing in Lean hashes anything: it is a label: what it is worth is what the hold of that sum in a sandbox is worth. -/
noncomputable def Try.pinned : Pinned := { name := "ytkppkbafoeblhaa", sum := "0c08907f84311b5c26a3758dc78498a21fb007c82329c9f22a957f2c578c3f37", checked := Try.checked }
namespace Rows
def none {H : Type} : Left H := { results := [], args := [] }

/-- 'laws.FnMessages': WHATEVER THE INPUT: true; the input reads as it did. -/
def fnMessagesSpec : ChangeSpec := { name := "fnMessages", fn := fun _ => fun
  | [d] => { results := [.lit (.bool true)], args := [d] }
  | _ => none }
def fnMessagesRow : OpenClaim := { program := "ytkppkbafoeblhaa", sum := "0c08907f84311b5c26a3758dc78498a21fb007c82329c9f22a957f2c578c3f37", func := "loop.example/g00513/laws.FnMessages", spec := "fnMessages", unfollowed := true, recurses := true, apart := false }
def FnMessagesSaid : Prop := fnMessagesRow.holds Try.pinned (OpenSpec.ofChange fnMessagesSpec)

/-- ITS FALSE NEIGHBOUR: 'it returns false'. Refute it at one input. -/
def fnMessagesWrong : ChangeSpec := { name := "fnMessages", fn := fun _ => fun
  | [d] => { results := [.lit (.bool false)], args := [d] }
  | _ => none }
def FnMessagesWrongFalsely : Prop := fnMessagesRow.holds Try.pinned (OpenSpec.ofChange fnMessagesWrong)

/-- 'laws.FnSymbols': WHATEVER THE INPUT: true; the input reads as it did. -/
def fnSymbolsSpec : ChangeSpec := { name := "fnSymbols", fn := fun _ => fun
  | [d] => { results := [.lit (.bool true)], args := [d] }
  | _ => none }
def fnSymbolsRow : OpenClaim := { program := "ytkppkbafoeblhaa", sum := "0c08907f84311b5c26a3758dc78498a21fb007c82329c9f22a957f2c578c3f37", func := "loop.example/g00513/laws.FnSymbols", spec := "fnSymbols", unfollowed := true, recurses := true, apart := false }
def FnSymbolsSaid : Prop := fnSymbolsRow.holds Try.pinned (OpenSpec.ofChange fnSymbolsSpec)

/-- ITS FALSE NEIGHBOUR: 'it returns false'. Refute it at one input. -/
def fnSymbolsWrong : ChangeSpec := { name := "fnSymbols", fn := fun _ => fun
  | [d] => { results := [.lit (.bool false)], args := [d] }
  | _ => none }
def FnSymbolsWrongFalsely : Prop := fnSymbolsRow.holds Try.pinned (OpenSpec.ofChange fnSymbolsWrong)

/-- 'laws.FnExactIsValidGeneration': WHATEVER THE INPUT: true; the input reads as it did. -/
def fnExactIsValidGenerationSpec : ChangeSpec := { name := "fnExactIsValidGeneration", fn := fun _ => fun
  | [d] => { results := [.lit (.bool true)], args := [d] }
  | _ => none }
def fnExactIsValidGenerationRow : OpenClaim := { program := "ytkppkbafoeblhaa", sum := "0c08907f84311b5c26a3758dc78498a21fb007c82329c9f22a957f2c578c3f37", func := "loop.example/g00513/laws.FnExactIsValidGeneration", spec := "fnExactIsValidGeneration", apart := false }
def FnExactIsValidGenerationSaid : Prop := fnExactIsValidGenerationRow.holds Try.pinned (OpenSpec.ofChange fnExactIsValidGenerationSpec)

/-- ITS FALSE NEIGHBOUR: 'it returns false'. Refute it at one input. -/
def fnExactIsValidGenerationWrong : ChangeSpec := { name := "fnExactIsValidGeneration", fn := fun _ => fun
  | [d] => { results := [.lit (.bool false)], args := [d] }
  | _ => none }
def FnExactIsValidGenerationWrongFalsely : Prop := fnExactIsValidGenerationRow.holds Try.pinned (OpenSpec.ofChange fnExactIsValidGenerationWrong)

/-- 'laws.FnExactBytesToSymbols': WHATEVER THE INPUT: true; the input reads as it did. -/
def fnExactBytesToSymbolsSpec : ChangeSpec := { name := "fnExactBytesToSymbols", fn := fun _ => fun
  | [d1, d2] => { results := [.lit (.bool true)], args := [d1, d2] }
  | _ => none }
def fnExactBytesToSymbolsRow : OpenClaim := { program := "ytkppkbafoeblhaa", sum := "0c08907f84311b5c26a3758dc78498a21fb007c82329c9f22a957f2c578c3f37", func := "loop.example/g00513/laws.FnExactBytesToSymbols", spec := "fnExactBytesToSymbols", unfollowed := true, recurses := true, apart := false }
def FnExactBytesToSymbolsSaid : Prop := fnExactBytesToSymbolsRow.holds Try.pinned (OpenSpec.ofChange fnExactBytesToSymbolsSpec)

/-- ITS FALSE NEIGHBOUR: 'it returns false'. Refute it at one input. -/
def fnExactBytesToSymbolsWrong : ChangeSpec := { name := "fnExactBytesToSymbols", fn := fun _ => fun
  | [d1, d2] => { results := [.lit (.bool false)], args := [d1, d2] }
  | _ => none }
def FnExactBytesToSymbolsWrongFalsely : Prop := fnExactBytesToSymbolsRow.holds Try.pinned (OpenSpec.ofChange fnExactBytesToSymbolsWrong)

/-- 'laws.FnExactSymbolsToBytes': WHATEVER THE INPUT: true; the input reads as it did. -/
def fnExactSymbolsToBytesSpec : ChangeSpec := { name := "fnExactSymbolsToBytes", fn := fun _ => fun
  | [d] => { results := [.lit (.bool true)], args := [d] }
  | _ => none }
def fnExactSymbolsToBytesRow : OpenClaim := { program := "ytkppkbafoeblhaa", sum := "0c08907f84311b5c26a3758dc78498a21fb007c82329c9f22a957f2c578c3f37", func := "loop.example/g00513/laws.FnExactSymbolsToBytes", spec := "fnExactSymbolsToBytes", unfollowed := true, recurses := true, apart := false }
def FnExactSymbolsToBytesSaid : Prop := fnExactSymbolsToBytesRow.holds Try.pinned (OpenSpec.ofChange fnExactSymbolsToBytesSpec)

/-- ITS FALSE NEIGHBOUR: 'it returns false'. Refute it at one input. -/
def fnExactSymbolsToBytesWrong : ChangeSpec := { name := "fnExactSymbolsToBytes", fn := fun _ => fun
  | [d] => { results := [.lit (.bool false)], args := [d] }
  | _ => none }
def FnExactSymbolsToBytesWrongFalsely : Prop := fnExactSymbolsToBytesRow.holds Try.pinned (OpenSpec.ofChange fnExactSymbolsToBytesWrong)

/-- 'laws.FnExactSplitMessage': WHATEVER THE INPUT: true; the input reads as it did. -/
def fnExactSplitMessageSpec : ChangeSpec := { name := "fnExactSplitMessage", fn := fun _ => fun
  | [d1, d2, d3, d4] => { results := [.lit (.bool true)], args := [d1, d2, d3, d4] }
  | _ => none }
def fnExactSplitMessageRow : OpenClaim := { program := "ytkppkbafoeblhaa", sum := "0c08907f84311b5c26a3758dc78498a21fb007c82329c9f22a957f2c578c3f37", func := "loop.example/g00513/laws.FnExactSplitMessage", spec := "fnExactSplitMessage", unfollowed := true, recurses := true, apart := false }
def FnExactSplitMessageSaid : Prop := fnExactSplitMessageRow.holds Try.pinned (OpenSpec.ofChange fnExactSplitMessageSpec)

/-- ITS FALSE NEIGHBOUR: 'it returns false'. Refute it at one input. -/
def fnExactSplitMessageWrong : ChangeSpec := { name := "fnExactSplitMessage", fn := fun _ => fun
  | [d1, d2, d3, d4] => { results := [.lit (.bool false)], args := [d1, d2, d3, d4] }
  | _ => none }
def FnExactSplitMessageWrongFalsely : Prop := fnExactSplitMessageRow.holds Try.pinned (OpenSpec.ofChange fnExactSplitMessageWrong)

/-- 'laws.FnExactJoinGenerations': WHATEVER THE INPUT: true; the input reads as it did. -/
def fnExactJoinGenerationsSpec : ChangeSpec := { name := "fnExactJoinGenerations", fn := fun _ => fun
  | [d] => { results := [.lit (.bool true)], args := [d] }
  | _ => none }
def fnExactJoinGenerationsRow : OpenClaim := { program := "ytkppkbafoeblhaa", sum := "0c08907f84311b5c26a3758dc78498a21fb007c82329c9f22a957f2c578c3f37", func := "loop.example/g00513/laws.FnExactJoinGenerations", spec := "fnExactJoinGenerations", unfollowed := true, recurses := true, apart := false }
def FnExactJoinGenerationsSaid : Prop := fnExactJoinGenerationsRow.holds Try.pinned (OpenSpec.ofChange fnExactJoinGenerationsSpec)

/-- ITS FALSE NEIGHBOUR: 'it returns false'. Refute it at one input. -/
def fnExactJoinGenerationsWrong : ChangeSpec := { name := "fnExactJoinGenerations", fn := fun _ => fun
  | [d] => { results := [.lit (.bool false)], args := [d] }
  | _ => none }
def FnExactJoinGenerationsWrongFalsely : Prop := fnExactJoinGenerationsRow.holds Try.pinned (OpenSpec.ofChange fnExactJoinGenerationsWrong)

/-- 'laws.FnExactGenerationSize': WHATEVER THE INPUT: true; the input reads as it did. -/
def fnExactGenerationSizeSpec : ChangeSpec := { name := "fnExactGenerationSize", fn := fun _ => fun
  | [d] => { results := [.lit (.bool true)], args := [d] }
  | _ => none }
def fnExactGenerationSizeRow : OpenClaim := { program := "ytkppkbafoeblhaa", sum := "0c08907f84311b5c26a3758dc78498a21fb007c82329c9f22a957f2c578c3f37", func := "loop.example/g00513/laws.FnExactGenerationSize", spec := "fnExactGenerationSize", apart := false }
def FnExactGenerationSizeSaid : Prop := fnExactGenerationSizeRow.holds Try.pinned (OpenSpec.ofChange fnExactGenerationSizeSpec)

/-- ITS FALSE NEIGHBOUR: 'it returns false'. Refute it at one input. -/
def fnExactGenerationSizeWrong : ChangeSpec := { name := "fnExactGenerationSize", fn := fun _ => fun
  | [d] => { results := [.lit (.bool false)], args := [d] }
  | _ => none }
def FnExactGenerationSizeWrongFalsely : Prop := fnExactGenerationSizeRow.holds Try.pinned (OpenSpec.ofChange fnExactGenerationSizeWrong)

/-- 'laws.FnExactSymbolWidth': WHATEVER THE INPUT: true; the input reads as it did. -/
def fnExactSymbolWidthSpec : ChangeSpec := { name := "fnExactSymbolWidth", fn := fun _ => fun
  | [d] => { results := [.lit (.bool true)], args := [d] }
  | _ => none }
def fnExactSymbolWidthRow : OpenClaim := { program := "ytkppkbafoeblhaa", sum := "0c08907f84311b5c26a3758dc78498a21fb007c82329c9f22a957f2c578c3f37", func := "loop.example/g00513/laws.FnExactSymbolWidth", spec := "fnExactSymbolWidth", apart := false }
def FnExactSymbolWidthSaid : Prop := fnExactSymbolWidthRow.holds Try.pinned (OpenSpec.ofChange fnExactSymbolWidthSpec)

/-- ITS FALSE NEIGHBOUR: 'it returns false'. Refute it at one input. -/
def fnExactSymbolWidthWrong : ChangeSpec := { name := "fnExactSymbolWidth", fn := fun _ => fun
  | [d] => { results := [.lit (.bool false)], args := [d] }
  | _ => none }
def FnExactSymbolWidthWrongFalsely : Prop := fnExactSymbolWidthRow.holds Try.pinned (OpenSpec.ofChange fnExactSymbolWidthWrong)

/-- 'laws.FnExactEqualGenerations': WHATEVER THE INPUT: true; the input reads as it did. -/
def fnExactEqualGenerationsSpec : ChangeSpec := { name := "fnExactEqualGenerations", fn := fun _ => fun
  | [d1, d2] => { results := [.lit (.bool true)], args := [d1, d2] }
  | _ => none }
def fnExactEqualGenerationsRow : OpenClaim := { program := "ytkppkbafoeblhaa", sum := "0c08907f84311b5c26a3758dc78498a21fb007c82329c9f22a957f2c578c3f37", func := "loop.example/g00513/laws.FnExactEqualGenerations", spec := "fnExactEqualGenerations", unfollowed := true, recurses := true, apart := false }
def FnExactEqualGenerationsSaid : Prop := fnExactEqualGenerationsRow.holds Try.pinned (OpenSpec.ofChange fnExactEqualGenerationsSpec)

/-- ITS FALSE NEIGHBOUR: 'it returns false'. Refute it at one input. -/
def fnExactEqualGenerationsWrong : ChangeSpec := { name := "fnExactEqualGenerations", fn := fun _ => fun
  | [d1, d2] => { results := [.lit (.bool false)], args := [d1, d2] }
  | _ => none }
def FnExactEqualGenerationsWrongFalsely : Prop := fnExactEqualGenerationsRow.holds Try.pinned (OpenSpec.ofChange fnExactEqualGenerationsWrong)

/- THE SECOND FORM. 'bulk': how many values and letters a reading holds, each counted each time it is reached (what is shared counts as often as it is met; a slice's spare places count too). A statement '..UptoSaid' is the law's where the arguments, and the package variables that the reading takes, are together of bulk at most 1048576: NARROWER than '..Said'. Prove '..Said' where nothing that the law and all that it calls make is longer than what came in: it says more and counts as full. Else prove '..UptoSaid'. A law counts once. -/
mutual
def uptoBulk {H : Type} : DataW H → Nat
  | .lit (.string bytes) => bytes.length + 1
  | .lit _ => 1
  | .nil => 1
  | .ptr d => uptoBulk d + 1
  | .slice elems spare => uptoBulkAll elems + uptoBulkAll spare + 1
  | .agg parts => uptoBulkAll parts + 1
  | .iface _ d => uptoBulk d + 1
  | .map entries => uptoBulkEntries entries + 1
  | .held _ => 1
def uptoBulkAll {H : Type} : List (DataW H) → Nat
  | [] => 0
  | d :: r => uptoBulk d + uptoBulkAll r
def uptoBulkEntries {H : Type} : List (Lit × DataW H) → Nat
  | [] => 0
  | x :: r => uptoBulkEntry x + uptoBulkEntries r
def uptoBulkEntry {H : Type} : Lit × DataW H → Nat
  | (.string bytes, d) => bytes.length + uptoBulk d + 1
  | (_, d) => uptoBulk d + 1
 end
def uptoSmall : (H : Type) → List (DataW H) → Bool := fun _ ds => decide (uptoBulkAll ds ≤ 1048576)
def OpenSpec.upto (s : _root_.Go.ChangeSpec) : _root_.Go.OpenSpec := { _root_.Go.OpenSpec.ofChange s with cond := some uptoSmall }

/-- 'laws.FnMessages', WHERE WHAT IT READS IS OF BULK AT MOST 1048576: true; the input reads as it did. -/
def fnMessagesUptoRow : OpenClaim := { program := "ytkppkbafoeblhaa", sum := "0c08907f84311b5c26a3758dc78498a21fb007c82329c9f22a957f2c578c3f37", func := "loop.example/g00513/laws.FnMessages", spec := "fnMessages", unfollowed := true, recurses := true, apart := false, narrowed := true }
def FnMessagesUptoSaid : Prop := fnMessagesUptoRow.holds Try.pinned (OpenSpec.upto fnMessagesSpec)

/-- 'laws.FnSymbols', WHERE WHAT IT READS IS OF BULK AT MOST 1048576: true; the input reads as it did. -/
def fnSymbolsUptoRow : OpenClaim := { program := "ytkppkbafoeblhaa", sum := "0c08907f84311b5c26a3758dc78498a21fb007c82329c9f22a957f2c578c3f37", func := "loop.example/g00513/laws.FnSymbols", spec := "fnSymbols", unfollowed := true, recurses := true, apart := false, narrowed := true }
def FnSymbolsUptoSaid : Prop := fnSymbolsUptoRow.holds Try.pinned (OpenSpec.upto fnSymbolsSpec)

/-- 'laws.FnExactIsValidGeneration', WHERE WHAT IT READS IS OF BULK AT MOST 1048576: true; the input reads as it did. -/
def fnExactIsValidGenerationUptoRow : OpenClaim := { program := "ytkppkbafoeblhaa", sum := "0c08907f84311b5c26a3758dc78498a21fb007c82329c9f22a957f2c578c3f37", func := "loop.example/g00513/laws.FnExactIsValidGeneration", spec := "fnExactIsValidGeneration", apart := false, narrowed := true }
def FnExactIsValidGenerationUptoSaid : Prop := fnExactIsValidGenerationUptoRow.holds Try.pinned (OpenSpec.upto fnExactIsValidGenerationSpec)

/-- 'laws.FnExactBytesToSymbols', WHERE WHAT IT READS IS OF BULK AT MOST 1048576: true; the input reads as it did. -/
def fnExactBytesToSymbolsUptoRow : OpenClaim := { program := "ytkppkbafoeblhaa", sum := "0c08907f84311b5c26a3758dc78498a21fb007c82329c9f22a957f2c578c3f37", func := "loop.example/g00513/laws.FnExactBytesToSymbols", spec := "fnExactBytesToSymbols", unfollowed := true, recurses := true, apart := false, narrowed := true }
def FnExactBytesToSymbolsUptoSaid : Prop := fnExactBytesToSymbolsUptoRow.holds Try.pinned (OpenSpec.upto fnExactBytesToSymbolsSpec)

/-- 'laws.FnExactSymbolsToBytes', WHERE WHAT IT READS IS OF BULK AT MOST 1048576: true; the input reads as it did. -/
def fnExactSymbolsToBytesUptoRow : OpenClaim := { program := "ytkppkbafoeblhaa", sum := "0c08907f84311b5c26a3758dc78498a21fb007c82329c9f22a957f2c578c3f37", func := "loop.example/g00513/laws.FnExactSymbolsToBytes", spec := "fnExactSymbolsToBytes", unfollowed := true, recurses := true, apart := false, narrowed := true }
def FnExactSymbolsToBytesUptoSaid : Prop := fnExactSymbolsToBytesUptoRow.holds Try.pinned (OpenSpec.upto fnExactSymbolsToBytesSpec)

/-- 'laws.FnExactSplitMessage', WHERE WHAT IT READS IS OF BULK AT MOST 1048576: true; the input reads as it did. -/
def fnExactSplitMessageUptoRow : OpenClaim := { program := "ytkppkbafoeblhaa", sum := "0c08907f84311b5c26a3758dc78498a21fb007c82329c9f22a957f2c578c3f37", func := "loop.example/g00513/laws.FnExactSplitMessage", spec := "fnExactSplitMessage", unfollowed := true, recurses := true, apart := false, narrowed := true }
def FnExactSplitMessageUptoSaid : Prop := fnExactSplitMessageUptoRow.holds Try.pinned (OpenSpec.upto fnExactSplitMessageSpec)

/-- 'laws.FnExactJoinGenerations', WHERE WHAT IT READS IS OF BULK AT MOST 1048576: true; the input reads as it did. -/
def fnExactJoinGenerationsUptoRow : OpenClaim := { program := "ytkppkbafoeblhaa", sum := "0c08907f84311b5c26a3758dc78498a21fb007c82329c9f22a957f2c578c3f37", func := "loop.example/g00513/laws.FnExactJoinGenerations", spec := "fnExactJoinGenerations", unfollowed := true, recurses := true, apart := false, narrowed := true }
def FnExactJoinGenerationsUptoSaid : Prop := fnExactJoinGenerationsUptoRow.holds Try.pinned (OpenSpec.upto fnExactJoinGenerationsSpec)

/-- 'laws.FnExactGenerationSize', WHERE WHAT IT READS IS OF BULK AT MOST 1048576: true; the input reads as it did. -/
def fnExactGenerationSizeUptoRow : OpenClaim := { program := "ytkppkbafoeblhaa", sum := "0c08907f84311b5c26a3758dc78498a21fb007c82329c9f22a957f2c578c3f37", func := "loop.example/g00513/laws.FnExactGenerationSize", spec := "fnExactGenerationSize", apart := false, narrowed := true }
def FnExactGenerationSizeUptoSaid : Prop := fnExactGenerationSizeUptoRow.holds Try.pinned (OpenSpec.upto fnExactGenerationSizeSpec)

/-- 'laws.FnExactSymbolWidth', WHERE WHAT IT READS IS OF BULK AT MOST 1048576: true; the input reads as it did. -/
def fnExactSymbolWidthUptoRow : OpenClaim := { program := "ytkppkbafoeblhaa", sum := "0c08907f84311b5c26a3758dc78498a21fb007c82329c9f22a957f2c578c3f37", func := "loop.example/g00513/laws.FnExactSymbolWidth", spec := "fnExactSymbolWidth", apart := false, narrowed := true }
def FnExactSymbolWidthUptoSaid : Prop := fnExactSymbolWidthUptoRow.holds Try.pinned (OpenSpec.upto fnExactSymbolWidthSpec)

/-- 'laws.FnExactEqualGenerations', WHERE WHAT IT READS IS OF BULK AT MOST 1048576: true; the input reads as it did. -/
def fnExactEqualGenerationsUptoRow : OpenClaim := { program := "ytkppkbafoeblhaa", sum := "0c08907f84311b5c26a3758dc78498a21fb007c82329c9f22a957f2c578c3f37", func := "loop.example/g00513/laws.FnExactEqualGenerations", spec := "fnExactEqualGenerations", unfollowed := true, recurses := true, apart := false, narrowed := true }
def FnExactEqualGenerationsUptoSaid : Prop := fnExactEqualGenerationsUptoRow.holds Try.pinned (OpenSpec.upto fnExactEqualGenerationsSpec)

end Rows
end Go.Proofs.Ytkppkbafoeblhaa
