/-
  The laws of chapter 11, the program's contracts filled in.
-/
import Derived.Test.YtkhfkccbnhjmjaaGK
import Derived.Test.YtkhfkccbnhjmjaaGN
namespace Go.Proofs.Ytkhfkccbnhjmjaa.LawPktEnd
open Go.ChangeShapes Go.WideShapes Go.ChangeAt Go.RowKit
open Go.Proofs.Ytkhfkccbnhjmjaa.Seq Go.Proofs.Ytkhfkccbnhjmjaa.Help
theorem encoding (w : World) (v : Value) (ad : Option Addr) (n cap : Nat) (ia : Kit.IntsAt .u8 w v ad n cap) :
    Calls Try.prog 3 #[v] w fun e w' => e = .returned (.bool true) ∧ Below w.heap.size w w' := LawPkt.encoding PktI.enc PktI.dec w v ad n cap ia
end Go.Proofs.Ytkhfkccbnhjmjaa.LawPktEnd
