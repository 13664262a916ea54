/-
  The laws of chapter 10, the program's contracts filled in.
-/
import Derived.Test.YtkppkbafoeblhaaGK
import Derived.Test.YtkppkbafoeblhaaGN
namespace Go.Proofs.Ytkppkbafoeblhaa.LawGenEnd
open Go.ChangeShapes Go.WideShapes Go.ChangeAt Go.RowKit
open Go.Proofs.Ytkppkbafoeblhaa.Seq Go.Proofs.Ytkppkbafoeblhaa.Help
theorem symbols (w : World) (v : Value) (ad : Option Addr) (n cap : Nat) (ia : Kit.IntsAt .u8 w v ad n cap) :
    Calls Try.prog 4 #[v] w fun e w' => e = .returned (.bool true) ∧ Below w.heap.size w w' := LawGen.symbols GenI.toSym GenI.toData w v ad n cap ia
theorem messages (w : World) (v : Value) (ad : Option Addr) (n cap : Nat) (ia : Kit.IntsAt .u8 w v ad n cap) :
    Calls Try.prog 3 #[v] w fun e w' => e = .returned (.bool true) ∧ Below w.heap.size w w' := LawGen.messages GenI.split GenI.join GenI.isGen GenI.size GenI.width w v ad n cap ia
end Go.Proofs.Ytkppkbafoeblhaa.LawGenEnd
