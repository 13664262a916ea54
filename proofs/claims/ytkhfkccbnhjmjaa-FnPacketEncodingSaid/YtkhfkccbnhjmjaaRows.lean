/-
  No cell of these rows narrows 'for every input' (looked for: loops, veiled, ifaces, maps, wideKeys, modest, calm, conditions, laid).
  DERIVED. THE GIVEN ROWS OF THIS SEAT. 8 by the template 'for every input the law returns true; each argument reads behind the call as it read before'; 0 by the template 'total and deterministic' (their statements: YtkhfkccbnhjmjaaTotals.lean).
  GIVEN WITH THE SEED: the statements are not yours to turn. If you find one false, say at which input.
  Laid BY PROGRAM, IN A SANDBOX (cutbox-rows.mjs): the forced cells as the released guide's own fill.sh prints them over the translation da7d57bf0b236826… (all of the seat's roots in one cut). By AI agents, Wed Nov 11 2026. No macro, syntax, notation, axiom, sorry.
-/
import Derived.Test.YtkhfkccbnhjmjaaChecked
import GoSem.Claim
import GoSem.ClaimJoined
import GoSem.ClaimMapViews
import Derived.JoinedTies
import Derived.KernelRfl
namespace Go.Proofs.Ytkhfkccbnhjmjaa
/- THE CELL 'sum', in the pinned program and in every row, IS THE sha256 OF THE DUMP (.gsa) THAT YtkhfkccbnhjmjaaProg.lean LOADS. Nothing in Lean hashes anything: it is a label: what it is worth is what the hold of that sum in a sandbox is worth. -/
noncomputable def Try.pinned : Pinned := { name := "ytkhfkccbnhjmjaa", sum := "da7d57bf0b236826bbef4bfd988f64b861d521084934efd77356a62d0885c60f", checked := Try.checked }
namespace Rows
def none {H : Type} : Left H := { results := [], args := [] }

/-- 'laws.FnPacketEncoding': WHATEVER THE INPUT: true; the input reads as it did. -/
def fnPacketEncodingSpec : ChangeSpec := { name := "fnPacketEncoding", fn := fun _ => fun
  | [d] => { results := [.lit (.bool true)], args := [d] }
  | _ => none }
def fnPacketEncodingRow : OpenClaim := { program := "ytkhfkccbnhjmjaa", sum := "da7d57bf0b236826bbef4bfd988f64b861d521084934efd77356a62d0885c60f", func := "loop.example/g00513/laws.FnPacketEncoding", spec := "fnPacketEncoding", apart := false }
def FnPacketEncodingSaid : Prop := fnPacketEncodingRow.holds Try.pinned (OpenSpec.ofChange fnPacketEncodingSpec)

/-- ITS FALSE NEIGHBOUR: 'it returns false'. Refute it at one input. -/
def fnPacketEncodingWrong : ChangeSpec := { name := "fnPacketEncoding", fn := fun _ => fun
  | [d] => { results := [.lit (.bool false)], args := [d] }
  | _ => none }
def FnPacketEncodingWrongFalsely : Prop := fnPacketEncodingRow.holds Try.pinned (OpenSpec.ofChange fnPacketEncodingWrong)

/-- 'laws.FnExactIsValidPacket': WHATEVER THE INPUT: true; the input reads as it did. -/
def fnExactIsValidPacketSpec : ChangeSpec := { name := "fnExactIsValidPacket", fn := fun _ => fun
  | [d1, d2, d3] => { results := [.lit (.bool true)], args := [d1, d2, d3] }
  | _ => none }
def fnExactIsValidPacketRow : OpenClaim := { program := "ytkhfkccbnhjmjaa", sum := "da7d57bf0b236826bbef4bfd988f64b861d521084934efd77356a62d0885c60f", func := "loop.example/g00513/laws.FnExactIsValidPacket", spec := "fnExactIsValidPacket", apart := false }
def FnExactIsValidPacketSaid : Prop := fnExactIsValidPacketRow.holds Try.pinned (OpenSpec.ofChange fnExactIsValidPacketSpec)

/-- ITS FALSE NEIGHBOUR: 'it returns false'. Refute it at one input. -/
def fnExactIsValidPacketWrong : ChangeSpec := { name := "fnExactIsValidPacket", fn := fun _ => fun
  | [d1, d2, d3] => { results := [.lit (.bool false)], args := [d1, d2, d3] }
  | _ => none }
def FnExactIsValidPacketWrongFalsely : Prop := fnExactIsValidPacketRow.holds Try.pinned (OpenSpec.ofChange fnExactIsValidPacketWrong)

/-- 'laws.FnExactSourcePacket': WHATEVER THE INPUT: true; the input reads as it did. -/
def fnExactSourcePacketSpec : ChangeSpec := { name := "fnExactSourcePacket", fn := fun _ => fun
  | [d1, d2] => { results := [.lit (.bool true)], args := [d1, d2] }
  | _ => none }
def fnExactSourcePacketRow : OpenClaim := { program := "ytkhfkccbnhjmjaa", sum := "da7d57bf0b236826bbef4bfd988f64b861d521084934efd77356a62d0885c60f", func := "loop.example/g00513/laws.FnExactSourcePacket", spec := "fnExactSourcePacket", unfollowed := true, recurses := true, apart := false }
def FnExactSourcePacketSaid : Prop := fnExactSourcePacketRow.holds Try.pinned (OpenSpec.ofChange fnExactSourcePacketSpec)

/-- ITS FALSE NEIGHBOUR: 'it returns false'. Refute it at one input. -/
def fnExactSourcePacketWrong : ChangeSpec := { name := "fnExactSourcePacket", fn := fun _ => fun
  | [d1, d2] => { results := [.lit (.bool false)], args := [d1, d2] }
  | _ => none }
def FnExactSourcePacketWrongFalsely : Prop := fnExactSourcePacketRow.holds Try.pinned (OpenSpec.ofChange fnExactSourcePacketWrong)

/-- 'laws.FnExactCodePacket': WHATEVER THE INPUT: true; the input reads as it did. -/
def fnExactCodePacketSpec : ChangeSpec := { name := "fnExactCodePacket", fn := fun _ => fun
  | [d1, d2] => { results := [.lit (.bool true)], args := [d1, d2] }
  | _ => none }
def fnExactCodePacketRow : OpenClaim := { program := "ytkhfkccbnhjmjaa", sum := "da7d57bf0b236826bbef4bfd988f64b861d521084934efd77356a62d0885c60f", func := "loop.example/g00513/laws.FnExactCodePacket", spec := "fnExactCodePacket", unfollowed := true, recurses := true, apart := false }
def FnExactCodePacketSaid : Prop := fnExactCodePacketRow.holds Try.pinned (OpenSpec.ofChange fnExactCodePacketSpec)

/-- ITS FALSE NEIGHBOUR: 'it returns false'. Refute it at one input. -/
def fnExactCodePacketWrong : ChangeSpec := { name := "fnExactCodePacket", fn := fun _ => fun
  | [d1, d2] => { results := [.lit (.bool false)], args := [d1, d2] }
  | _ => none }
def FnExactCodePacketWrongFalsely : Prop := fnExactCodePacketRow.holds Try.pinned (OpenSpec.ofChange fnExactCodePacketWrong)

/-- 'laws.FnExactCombinePackets': WHATEVER THE INPUT: true; the input reads as it did. -/
def fnExactCombinePacketsSpec : ChangeSpec := { name := "fnExactCombinePackets", fn := fun _ => fun
  | [d1, d2] => { results := [.lit (.bool true)], args := [d1, d2] }
  | _ => none }
def fnExactCombinePacketsRow : OpenClaim := { program := "ytkhfkccbnhjmjaa", sum := "da7d57bf0b236826bbef4bfd988f64b861d521084934efd77356a62d0885c60f", func := "loop.example/g00513/laws.FnExactCombinePackets", spec := "fnExactCombinePackets", unfollowed := true, recurses := true, apart := false }
def FnExactCombinePacketsSaid : Prop := fnExactCombinePacketsRow.holds Try.pinned (OpenSpec.ofChange fnExactCombinePacketsSpec)

/-- ITS FALSE NEIGHBOUR: 'it returns false'. Refute it at one input. -/
def fnExactCombinePacketsWrong : ChangeSpec := { name := "fnExactCombinePackets", fn := fun _ => fun
  | [d1, d2] => { results := [.lit (.bool false)], args := [d1, d2] }
  | _ => none }
def FnExactCombinePacketsWrongFalsely : Prop := fnExactCombinePacketsRow.holds Try.pinned (OpenSpec.ofChange fnExactCombinePacketsWrong)

/-- 'laws.FnExactEncodePacket': WHATEVER THE INPUT: true; the input reads as it did. -/
def fnExactEncodePacketSpec : ChangeSpec := { name := "fnExactEncodePacket", fn := fun _ => fun
  | [d] => { results := [.lit (.bool true)], args := [d] }
  | _ => none }
def fnExactEncodePacketRow : OpenClaim := { program := "ytkhfkccbnhjmjaa", sum := "da7d57bf0b236826bbef4bfd988f64b861d521084934efd77356a62d0885c60f", func := "loop.example/g00513/laws.FnExactEncodePacket", spec := "fnExactEncodePacket", apart := false }
def FnExactEncodePacketSaid : Prop := fnExactEncodePacketRow.holds Try.pinned (OpenSpec.ofChange fnExactEncodePacketSpec)

/-- ITS FALSE NEIGHBOUR: 'it returns false'. Refute it at one input. -/
def fnExactEncodePacketWrong : ChangeSpec := { name := "fnExactEncodePacket", fn := fun _ => fun
  | [d] => { results := [.lit (.bool false)], args := [d] }
  | _ => none }
def FnExactEncodePacketWrongFalsely : Prop := fnExactEncodePacketRow.holds Try.pinned (OpenSpec.ofChange fnExactEncodePacketWrong)

/-- 'laws.FnExactDecodePacket': WHATEVER THE INPUT: true; the input reads as it did. -/
def fnExactDecodePacketSpec : ChangeSpec := { name := "fnExactDecodePacket", fn := fun _ => fun
  | [d] => { results := [.lit (.bool true)], args := [d] }
  | _ => none }
def fnExactDecodePacketRow : OpenClaim := { program := "ytkhfkccbnhjmjaa", sum := "da7d57bf0b236826bbef4bfd988f64b861d521084934efd77356a62d0885c60f", func := "loop.example/g00513/laws.FnExactDecodePacket", spec := "fnExactDecodePacket", apart := false }
def FnExactDecodePacketSaid : Prop := fnExactDecodePacketRow.holds Try.pinned (OpenSpec.ofChange fnExactDecodePacketSpec)

/-- ITS FALSE NEIGHBOUR: 'it returns false'. Refute it at one input. -/
def fnExactDecodePacketWrong : ChangeSpec := { name := "fnExactDecodePacket", fn := fun _ => fun
  | [d] => { results := [.lit (.bool false)], args := [d] }
  | _ => none }
def FnExactDecodePacketWrongFalsely : Prop := fnExactDecodePacketRow.holds Try.pinned (OpenSpec.ofChange fnExactDecodePacketWrong)

/-- 'laws.FnExactIsZeroPacket': WHATEVER THE INPUT: true; the input reads as it did. -/
def fnExactIsZeroPacketSpec : ChangeSpec := { name := "fnExactIsZeroPacket", fn := fun _ => fun
  | [d] => { results := [.lit (.bool true)], args := [d] }
  | _ => none }
def fnExactIsZeroPacketRow : OpenClaim := { program := "ytkhfkccbnhjmjaa", sum := "da7d57bf0b236826bbef4bfd988f64b861d521084934efd77356a62d0885c60f", func := "loop.example/g00513/laws.FnExactIsZeroPacket", spec := "fnExactIsZeroPacket", unfollowed := true, recurses := true, apart := false }
def FnExactIsZeroPacketSaid : Prop := fnExactIsZeroPacketRow.holds Try.pinned (OpenSpec.ofChange fnExactIsZeroPacketSpec)

/-- ITS FALSE NEIGHBOUR: 'it returns false'. Refute it at one input. -/
def fnExactIsZeroPacketWrong : ChangeSpec := { name := "fnExactIsZeroPacket", fn := fun _ => fun
  | [d] => { results := [.lit (.bool false)], args := [d] }
  | _ => none }
def FnExactIsZeroPacketWrongFalsely : Prop := fnExactIsZeroPacketRow.holds Try.pinned (OpenSpec.ofChange fnExactIsZeroPacketWrong)

/- THE SECOND FORM. 'bulk': how many values and letters a reading holds, each counted each time it is reached (what is shared counts as often as it is met; a slice's spare places count too). A statement '..UptoSaid' is the law's where the arguments, and the package variables that the reading takes, are together of bulk at most 1048576: NARROWER than '..Said'. Prove '..Said' where nothing that the law and all that it calls make is longer than what came in: it says more and counts as full. Else prove '..UptoSaid'. A law counts once. -/
mutual
def uptoBulk {H : Type} : DataW H → Nat
  | .lit (.string bytes) => bytes.length + 1
  | .lit _ => 1
  | .nil => 1
  | .ptr d => uptoBulk d + 1
  | .slice elems spare => uptoBulkAll elems + uptoBulkAll spare + 1
  | .agg parts => uptoBulkAll parts + 1
  | .iface _ d => uptoBulk d + 1
  | .map entries => uptoBulkEntries entries + 1
  | .held _ => 1
def uptoBulkAll {H : Type} : List (DataW H) → Nat
  | [] => 0
  | d :: r => uptoBulk d + uptoBulkAll r
def uptoBulkEntries {H : Type} : List (Lit × DataW H) → Nat
  | [] => 0
  | x :: r => uptoBulkEntry x + uptoBulkEntries r
def uptoBulkEntry {H : Type} : Lit × DataW H → Nat
  | (.string bytes, d) => bytes.length + uptoBulk d + 1
  | (_, d) => uptoBulk d + 1
 end
def uptoSmall : (H : Type) → List (DataW H) → Bool := fun _ ds => decide (uptoBulkAll ds ≤ 1048576)
def OpenSpec.upto (s : _root_.Go.ChangeSpec) : _root_.Go.OpenSpec := { _root_.Go.OpenSpec.ofChange s with cond := some uptoSmall }

/-- 'laws.FnPacketEncoding', WHERE WHAT IT READS IS OF BULK AT MOST 1048576: true; the input reads as it did. -/
def fnPacketEncodingUptoRow : OpenClaim := { program := "ytkhfkccbnhjmjaa", sum := "da7d57bf0b236826bbef4bfd988f64b861d521084934efd77356a62d0885c60f", func := "loop.example/g00513/laws.FnPacketEncoding", spec := "fnPacketEncoding", apart := false, narrowed := true }
def FnPacketEncodingUptoSaid : Prop := fnPacketEncodingUptoRow.holds Try.pinned (OpenSpec.upto fnPacketEncodingSpec)

/-- 'laws.FnExactIsValidPacket', WHERE WHAT IT READS IS OF BULK AT MOST 1048576: true; the input reads as it did. -/
def fnExactIsValidPacketUptoRow : OpenClaim := { program := "ytkhfkccbnhjmjaa", sum := "da7d57bf0b236826bbef4bfd988f64b861d521084934efd77356a62d0885c60f", func := "loop.example/g00513/laws.FnExactIsValidPacket", spec := "fnExactIsValidPacket", apart := false, narrowed := true }
def FnExactIsValidPacketUptoSaid : Prop := fnExactIsValidPacketUptoRow.holds Try.pinned (OpenSpec.upto fnExactIsValidPacketSpec)

/-- 'laws.FnExactSourcePacket', WHERE WHAT IT READS IS OF BULK AT MOST 1048576: true; the input reads as it did. -/
def fnExactSourcePacketUptoRow : OpenClaim := { program := "ytkhfkccbnhjmjaa", sum := "da7d57bf0b236826bbef4bfd988f64b861d521084934efd77356a62d0885c60f", func := "loop.example/g00513/laws.FnExactSourcePacket", spec := "fnExactSourcePacket", unfollowed := true, recurses := true, apart := false, narrowed := true }
def FnExactSourcePacketUptoSaid : Prop := fnExactSourcePacketUptoRow.holds Try.pinned (OpenSpec.upto fnExactSourcePacketSpec)

/-- 'laws.FnExactCodePacket', WHERE WHAT IT READS IS OF BULK AT MOST 1048576: true; the input reads as it did. -/
def fnExactCodePacketUptoRow : OpenClaim := { program := "ytkhfkccbnhjmjaa", sum := "da7d57bf0b236826bbef4bfd988f64b861d521084934efd77356a62d0885c60f", func := "loop.example/g00513/laws.FnExactCodePacket", spec := "fnExactCodePacket", unfollowed := true, recurses := true, apart := false, narrowed := true }
def FnExactCodePacketUptoSaid : Prop := fnExactCodePacketUptoRow.holds Try.pinned (OpenSpec.upto fnExactCodePacketSpec)

/-- 'laws.FnExactCombinePackets', WHERE WHAT IT READS IS OF BULK AT MOST 1048576: true; the input reads as it did. -/
def fnExactCombinePacketsUptoRow : OpenClaim := { program := "ytkhfkccbnhjmjaa", sum := "da7d57bf0b236826bbef4bfd988f64b861d521084934efd77356a62d0885c60f", func := "loop.example/g00513/laws.FnExactCombinePackets", spec := "fnExactCombinePackets", unfollowed := true, recurses := true, apart := false, narrowed := true }
def FnExactCombinePacketsUptoSaid : Prop := fnExactCombinePacketsUptoRow.holds Try.pinned (OpenSpec.upto fnExactCombinePacketsSpec)

/-- 'laws.FnExactEncodePacket', WHERE WHAT IT READS IS OF BULK AT MOST 1048576: true; the input reads as it did. -/
def fnExactEncodePacketUptoRow : OpenClaim := { program := "ytkhfkccbnhjmjaa", sum := "da7d57bf0b236826bbef4bfd988f64b861d521084934efd77356a62d0885c60f", func := "loop.example/g00513/laws.FnExactEncodePacket", spec := "fnExactEncodePacket", apart := false, narrowed := true }
def FnExactEncodePacketUptoSaid : Prop := fnExactEncodePacketUptoRow.holds Try.pinned (OpenSpec.upto fnExactEncodePacketSpec)

/-- 'laws.FnExactDecodePacket', WHERE WHAT IT READS IS OF BULK AT MOST 1048576: true; the input reads as it did. -/
def fnExactDecodePacketUptoRow : OpenClaim := { program := "ytkhfkccbnhjmjaa", sum := "da7d57bf0b236826bbef4bfd988f64b861d521084934efd77356a62d0885c60f", func := "loop.example/g00513/laws.FnExactDecodePacket", spec := "fnExactDecodePacket", apart := false, narrowed := true }
def FnExactDecodePacketUptoSaid : Prop := fnExactDecodePacketUptoRow.holds Try.pinned (OpenSpec.upto fnExactDecodePacketSpec)

/-- 'laws.FnExactIsZeroPacket', WHERE WHAT IT READS IS OF BULK AT MOST 1048576: true; the input reads as it did. -/
def fnExactIsZeroPacketUptoRow : OpenClaim := { program := "ytkhfkccbnhjmjaa", sum := "da7d57bf0b236826bbef4bfd988f64b861d521084934efd77356a62d0885c60f", func := "loop.example/g00513/laws.FnExactIsZeroPacket", spec := "fnExactIsZeroPacket", unfollowed := true, recurses := true, apart := false, narrowed := true }
def FnExactIsZeroPacketUptoSaid : Prop := fnExactIsZeroPacketUptoRow.holds Try.pinned (OpenSpec.upto fnExactIsZeroPacketSpec)

end Rows
end Go.Proofs.Ytkhfkccbnhjmjaa
