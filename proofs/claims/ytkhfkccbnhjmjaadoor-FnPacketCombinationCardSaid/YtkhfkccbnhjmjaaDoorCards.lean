/-
  DERIVED. GIVEN WITH THE SEED: THE CARDS: each row of YtkhfkccbnhjmjaaDoorRows.lean that lists a variable, with what it lists TIED to the program's text (the seventh form; the later family's looks); each row that meets fmt, with fmt's text TOLD by the authors' own Lean function (tested against real Go, not proved from fmt's source: count such statements apart). THE CARD IS WHAT COUNTS. Prove the row's statement (the work); the ties are given (YtkhfkccbnhjmjaaDoorTie.lean); close each card by the builder's one call (the guide's Derived/Test/ToyasCard.lean, 'card_holds'). Laid BY PROGRAM, IN A SANDBOX (cutbox-door.mjs). By AI agents, Wed Nov 11 2026. No macro, syntax, notation, axiom, sorry.
-/
import Derived.Test.YtkhfkccbnhjmjaaDoorRows
import GoSem.ClaimSeven
namespace Go.Proofs.YtkhfkccbnhjmjaaDoor
namespace Rows

/-- THE TIED CARD OF 'laws.FnPackets'. -/
def fnPacketsCard : Claim7 := { stood := { row := fnPacketsRow, standIns := [], harness := (true, "42a1656085ddb74d4a20624100a0853a72ea42adb541f203c26bb7bd28511ea1"), looks := false }, kinds := [], alts := [], laidByText := true, laidKinds := [.data, .data, .data], laidTests := true, laidLooks := .later }
def FnPacketsCardSaid : Prop := Claim7.holds Tryd.pinned (.plain (OpenSpec.ofChange fnPacketsSpec)) fnPacketsCard

/-- THE TIED CARD OF 'laws.FnPacketCombination'. -/
def fnPacketCombinationCard : Claim7 := { stood := { row := fnPacketCombinationRow, standIns := [], harness := (true, "42a1656085ddb74d4a20624100a0853a72ea42adb541f203c26bb7bd28511ea1"), looks := false }, kinds := [], alts := [], laidByText := true, laidKinds := [.data, .data, .data], laidTests := true, laidLooks := .later }
def FnPacketCombinationCardSaid : Prop := Claim7.holds Tryd.pinned (.plain (OpenSpec.ofChange fnPacketCombinationSpec)) fnPacketCombinationCard

/-- THE TIED CARD OF 'laws.FnExactIsConsistent'. -/
def fnExactIsConsistentCard : Claim7 := { stood := { row := fnExactIsConsistentRow, standIns := [], harness := (true, "42a1656085ddb74d4a20624100a0853a72ea42adb541f203c26bb7bd28511ea1"), looks := false }, kinds := [], alts := [], laidByText := true, laidKinds := [.data, .data, .data], laidTests := true, laidLooks := .later }
def FnExactIsConsistentCardSaid : Prop := Claim7.holds Tryd.pinned (.plain (OpenSpec.ofChange fnExactIsConsistentSpec)) fnExactIsConsistentCard

/-- THE TIED CARD OF 'laws.FnExactEqualPackets'. -/
def fnExactEqualPacketsCard : Claim7 := { stood := { row := fnExactEqualPacketsRow, standIns := [], harness := (true, "42a1656085ddb74d4a20624100a0853a72ea42adb541f203c26bb7bd28511ea1"), looks := false }, kinds := [], alts := [], laidByText := true, laidKinds := [.data, .data, .data], laidTests := true, laidLooks := .later }
def FnExactEqualPacketsCardSaid : Prop := Claim7.holds Tryd.pinned (.plain (OpenSpec.ofChange fnExactEqualPacketsSpec)) fnExactEqualPacketsCard

/-- THE SECOND FORM's CARD OF 'laws.FnPackets'. -/
def fnPacketsUptoCard : Claim7 := { stood := { row := fnPacketsUptoRow, standIns := [], harness := (true, "42a1656085ddb74d4a20624100a0853a72ea42adb541f203c26bb7bd28511ea1"), looks := false }, kinds := [], alts := [], laidByText := true, laidKinds := [.data, .data, .data], laidTests := true, laidLooks := .later }
def FnPacketsUptoCardSaid : Prop := Claim7.holds Tryd.pinned (.plain (OpenSpec.upto fnPacketsSpec)) fnPacketsUptoCard

/-- THE SECOND FORM's CARD OF 'laws.FnPacketCombination'. -/
def fnPacketCombinationUptoCard : Claim7 := { stood := { row := fnPacketCombinationUptoRow, standIns := [], harness := (true, "42a1656085ddb74d4a20624100a0853a72ea42adb541f203c26bb7bd28511ea1"), looks := false }, kinds := [], alts := [], laidByText := true, laidKinds := [.data, .data, .data], laidTests := true, laidLooks := .later }
def FnPacketCombinationUptoCardSaid : Prop := Claim7.holds Tryd.pinned (.plain (OpenSpec.upto fnPacketCombinationSpec)) fnPacketCombinationUptoCard

/-- THE SECOND FORM's CARD OF 'laws.FnExactIsConsistent'. -/
def fnExactIsConsistentUptoCard : Claim7 := { stood := { row := fnExactIsConsistentUptoRow, standIns := [], harness := (true, "42a1656085ddb74d4a20624100a0853a72ea42adb541f203c26bb7bd28511ea1"), looks := false }, kinds := [], alts := [], laidByText := true, laidKinds := [.data, .data, .data], laidTests := true, laidLooks := .later }
def FnExactIsConsistentUptoCardSaid : Prop := Claim7.holds Tryd.pinned (.plain (OpenSpec.upto fnExactIsConsistentSpec)) fnExactIsConsistentUptoCard

/-- THE SECOND FORM's CARD OF 'laws.FnExactEqualPackets'. -/
def fnExactEqualPacketsUptoCard : Claim7 := { stood := { row := fnExactEqualPacketsUptoRow, standIns := [], harness := (true, "42a1656085ddb74d4a20624100a0853a72ea42adb541f203c26bb7bd28511ea1"), looks := false }, kinds := [], alts := [], laidByText := true, laidKinds := [.data, .data, .data], laidTests := true, laidLooks := .later }
def FnExactEqualPacketsUptoCardSaid : Prop := Claim7.holds Tryd.pinned (.plain (OpenSpec.upto fnExactEqualPacketsSpec)) fnExactEqualPacketsUptoCard
end Rows
end Go.Proofs.YtkhfkccbnhjmjaaDoor
