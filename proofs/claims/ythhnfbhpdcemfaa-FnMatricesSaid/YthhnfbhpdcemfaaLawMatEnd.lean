/-
  FnMatrices, with the contracts of the program's functions handed in.
-/
import Derived.Test.YthhnfbhpdcemfaaLawMat
import Derived.Test.YthhnfbhpdcemfaaMatI
namespace Go.Proofs.Ythhnfbhpdcemfaa.LawMatEnd
open Go.ChangeShapes Go.WideShapes Go.ChangeAt Go.RowKit Go.Proofs.Ythhnfbhpdcemfaa.Kit

theorem matrices (w : World) (v : Value) (ad : Option Addr) (n cap : Nat) (ia : IntsAt .u8 w v ad n cap) : Calls Try.prog 3 #[v] w fun e w' => e = .returned (.bool true) ∧ Below w.heap.size w w' :=
  LawMat.matrices MatI.mulMat MatI.transpose MatI.identity MatI.mulVec w v ad n cap ia
end Go.Proofs.Ythhnfbhpdcemfaa.LawMatEnd
