/-
  A law of chapter 11, the program's contracts filled in: combinations of packets.
-/
import Derived.Test.YtkhfkccbnhjmjaaDoorPU
import Derived.Test.YtkhfkccbnhjmjaaDoorPN
namespace Go.Proofs.YtkhfkccbnhjmjaaDoor.LawPktEndB
open Go.ChangeShapes Go.WideShapes Go.ChangeAt Go.RowKit
open Go.Proofs.YtkhfkccbnhjmjaaDoor.Seq Go.Proofs.YtkhfkccbnhjmjaaDoor.Help
theorem combination (w : World) (v : Value) (ad : Option Addr) (n cap : Nat) (ia : Kit.IntsAt .u8 w v ad n cap) (hTab : PktW.Tab w) :
    Calls Tryd.prog 4 #[v] w fun e w' => e = .returned (.bool true) ∧ Below w.heap.size w w' := LawPkt.combination PktI.mix PktI.eqP w v ad n cap ia hTab
end Go.Proofs.YtkhfkccbnhjmjaaDoor.LawPktEndB
