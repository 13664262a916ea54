/-
  A law of chapter 11, the program's contracts filled in: packets of a generation.
-/
import Derived.Test.YtkhfkccbnhjmjaaDoorGK
import Derived.Test.YtkhfkccbnhjmjaaDoorGN
namespace Go.Proofs.YtkhfkccbnhjmjaaDoor.LawPktEndA
open Go.ChangeShapes Go.WideShapes Go.ChangeAt Go.RowKit
open Go.Proofs.YtkhfkccbnhjmjaaDoor.Seq Go.Proofs.YtkhfkccbnhjmjaaDoor.Help
theorem packets (w : World) (v : Value) (ad : Option Addr) (n cap : Nat) (ia : Kit.IntsAt .u8 w v ad n cap) (hTab : PktW.Tab w) :
    Calls Tryd.prog 3 #[v] w fun e w' => e = .returned (.bool true) ∧ Below w.heap.size w w' := LawPkt.packets PktI.isPkt PktI.code PktI.source PktI.cons PktI.zero w v ad n cap ia hTab
end Go.Proofs.YtkhfkccbnhjmjaaDoor.LawPktEndA
